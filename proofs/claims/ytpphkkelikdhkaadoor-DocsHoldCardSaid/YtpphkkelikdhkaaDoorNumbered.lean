/-
  lines' numbered and lineOf AT EVERY TEXT of at most 1000000 bytes: the line of a number, the line of a place; no memory that was there turns. Condition: the text's length.
-/
import Derived.Test.YtpphkkelikdhkaaDoorCount
namespace Go.Proofs.YtpphkkelikdhkaaDoor
open Go.RowKit Go.Shelf
attribute [local go_sem] Oper.semAt_some

theorem setCell2_heap {W : World} {R : Nat} {a b x y : Value} {t : TypeId} (h : W.heap[R]? = some (.cells #[a, b] t (0, 0))) : ((W.setCell ⟨R, 0, none⟩ x).setCell ⟨R, 1, none⟩ y).heap[R]? = some (.cells #[x, y] t (0, 0)) := by
  have h1 := heap_setCell_same W R 0 _ _ x h
  exact heap_setCell_same _ R 1 _ _ y h1
/-- What lies in memory while a line is looked for: the number; the line; is there one? -/
structure NSt (w W : World) (A : Nat) (n a b : Int) (ok : Bool) : Prop where
  below : Below w.heap.size w W
  num : W.heap[A]? = some (.cells #[.int .i64 n] 3 (0, 0))
  row : W.heap[A + 1]? = some (.cells #[.int .i64 a, .int .i64 b] 125 (0, 0))
  ok : W.heap[A + 1 + 1]? = some (.cells #[.bool ok] 4 (0, 0))
theorem NSt.own {w W W' : World} {A B : Nat} {n a b : Int} {o : Bool} {row : Option Nat} (h : NSt w W A n a b o) (hA : w.heap.size ≤ B) (hg : W.grownBy W' row) (hr : ∀ r, row = some r → B ≤ r ∧ ∃ o : Obj, W.heap[r]? = some o ∧ o.isCells = false) : NSt w W' A n a b o :=
  ⟨h.below.grown hg h.below.size (fun k e => Nat.le_trans hA (hr k e).1), grown_cells hg (fun r e => (hr r e).2) _ _ h.num rfl, grown_cells hg (fun r e => (hr r e).2) _ _ h.row rfl, grown_cells hg (fun r e => (hr r e).2) _ _ h.ok rfl⟩
/-- The line of a number is found. -/
theorem NSt.set {w W : World} {A : Nat} {n a b : Int} {o : Bool} (h : NSt w W A n a b o) (hA : w.heap.size ≤ A) (x y : Int) (o' : Bool) : NSt w (((W.setCell ⟨A + 1, 0, none⟩ (.int .i64 x)).setCell ⟨A + 1, 1, none⟩ (.int .i64 y)).setCell ⟨A + 1 + 1, 0, none⟩ (.bool o')) A n x y o' := by
  refine ⟨((h.below.setCell (p := ⟨A + 1, 0, none⟩) (Nat.le_succ_of_le hA) _).setCell (p := ⟨A + 1, 1, none⟩) (Nat.le_succ_of_le hA) _).setCell (p := ⟨A + 1 + 1, 0, none⟩) (show w.heap.size ≤ A + 1 + 1 by omega) _, ?_, ?_, ?_⟩
  · rw [heap_setCell_other _ ⟨A + 1 + 1, 0, none⟩ A _ (show A ≠ A + 1 + 1 by omega), heap_setCell_other _ ⟨A + 1, 1, none⟩ A _ (show A ≠ A + 1 by omega), heap_setCell_other _ ⟨A + 1, 0, none⟩ A _ (show A ≠ A + 1 by omega)]
    exact h.num
  · rw [heap_setCell_other _ ⟨A + 1 + 1, 0, none⟩ (A + 1) _ (show A + 1 ≠ A + 1 + 1 by omega)]
    exact setCell2_heap h.row
  · refine heap_setCell_same _ (A + 1 + 1) 0 #[.bool o] _ _ ?_
    rw [heap_setCell_other _ ⟨A + 1, 1, none⟩ (A + 1 + 1) _ (show A + 1 + 1 ≠ A + 1 by omega), heap_setCell_other _ ⟨A + 1, 0, none⟩ (A + 1 + 1) _ (show A + 1 + 1 ≠ A + 1 by omega)]
    exact h.ok
/-- Of a number the line, or nothing. -/
def numV (l : List UInt8) (n : Int) : Option (Nat × Nat) := if n < 0 then none else (rows l 0)[n.toNat]?
def numA (o : Option (Nat × Nat)) : Int := match o with | some r => r.1 | none => 0
def numB (o : Option (Nat × Nat)) : Int := match o with | some r => r.2 | none => 0
theorem numV_hit {s : ByteArray} {n : Int} {j : Nat} {x : LRow} (h : (linesOf s)[j]? = some x) (hx : (x.1 : Int) = n) : numV s.data.toList n = some x.2 := by
  obtain ⟨h1, h2⟩ := linesOf_at h
  unfold numV
  rw [if_neg (by omega), show n.toNat = j by omega]
  exact h2
theorem numV_none {s : ByteArray} {n : Int} (h : ∀ x ∈ linesOf s, (x.1 : Int) ≠ n) : numV s.data.toList n = none := by
  unfold numV
  by_cases hn : n < 0
  · rw [if_pos hn]
  · rw [if_neg hn, List.getElem?_eq_none_iff]
    rw [← linesOf_len]
    rcases Nat.lt_or_ge n.toNat (linesOf s).length with hl | hl
    · have h1 := List.getElem?_eq_getElem hl
      have h2 := (linesOf_at h1).1
      exact absurd (by rw [h2]; omega) (h _ (List.getElem_mem hl))
    · exact hl
theorem at_snoc {s : ByteArray} {pre r : List LRow} {x : LRow} (h : linesOf s = (pre ++ [x]) ++ r) : (linesOf s)[pre.length]? = some x := by
  rw [h, List.append_assoc, List.getElem?_append_right (Nat.le_refl _), Nat.sub_self]
  rfl
set_option maxHeartbeats 4000000 in
set_option maxRecDepth 100000 in
theorem numbered_any (s : ByteArray) (hs : s.size ≤ 1000000) (q : Int) (w : World) : Calls Tryd.prog 92 #[.string s, .int .i64 q] w fun e w' =>
    e = .returned (.tuple #[.agg #[.int .i64 (numA (numV s.data.toList q)), .int .i64 (numB (numV s.data.toList q))], .bool (numV s.data.toList q).isSome]) ∧ Below w.heap.size w w' := by
  have HS := Lib.hid (fun w => spans_any s w)
  refine (callsIn_wide (n := 9)).1 ?_
  refine callsIn_of_wp_marks Tryd.func92 rfl trivial ?_ rfl
  simp only [Tryd.ntmps92, List.size_toArray, List.length_cons, List.length_nil, Nat.reduceAdd, Nat.reduceSub, Array.replicate_succ, Array.replicate_zero, List.push_toArray, List.append_toArray, List.nil_append, List.cons_append]
  gi_wp2_with fail
  refine ⟨trivial, (callsIn_wide.2 (HS.out _)).mono ?_⟩
  rintro e w3 ⟨rfl, rfl⟩
  gi_wp2_with fail
  obtain ⟨W0, hW0⟩ : ∃ W0, ((((w.alloc (.cells #[.int .i64 q] 3)).alloc (.cells #[.int .i64 0, .int .i64 0] 125)).alloc (.cells #[.bool false] 4)).alloc (.cells #[.string s] 9)) = W0 := ⟨_, rfl⟩
  have b1 := alloc_below w (.cells #[.int .i64 q] 3)
  have b2 := alloc_below (w.alloc (.cells #[.int .i64 q] 3)) (.cells #[.int .i64 0, .int .i64 0] 125)
  have b3 := alloc_below ((w.alloc (.cells #[.int .i64 q] 3)).alloc (.cells #[.int .i64 0, .int .i64 0] 125)) (.cells #[.bool false] 4)
  have b4 := alloc_below (((w.alloc (.cells #[.int .i64 q] 3)).alloc (.cells #[.int .i64 0, .int .i64 0] 125)).alloc (.cells #[.bool false] 4)) (.cells #[.string s] 9)
  have h1 := alloc_top w #[.int .i64 q] 3
  have h2 := alloc_top (w.alloc (.cells #[.int .i64 q] 3)) #[.int .i64 0, .int .i64 0] 125
  have h3 := alloc_top ((w.alloc (.cells #[.int .i64 q] 3)).alloc (.cells #[.int .i64 0, .int .i64 0] 125)) #[.bool false] 4
  have h4 := alloc_top (((w.alloc (.cells #[.int .i64 q] 3)).alloc (.cells #[.int .i64 0, .int .i64 0] 125)).alloc (.cells #[.bool false] 4)) #[.string s] 9
  have h1 := heap_keep b4 (heap_keep b3 (heap_keep b2 h1))
  have h2 := heap_keep b4 (heap_keep b3 h2)
  have h3 := heap_keep b4 h3
  have hB := ((b1.trans (b2.mono b1.size)).trans (b3.mono (Nat.le_trans b1.size b2.size))).trans (b4.mono (Nat.le_trans (Nat.le_trans b1.size b2.size) b3.size))
  have hz : ((((w.alloc (.cells #[.int .i64 q] 3)).alloc (.cells #[.int .i64 0, .int .i64 0] 125)).alloc (.cells #[.bool false] 4)).alloc (.cells #[.string s] 9)).heap.size = w.heap.size + 4 := by simp
  simp only [World.size_alloc] at h2 h3 h4
  rw [hW0] at h1 h2 h3 h4 hB hz ⊢
  clear b1 b2 b3 b4 hW0
  have HN : Hid (NSt w W0 w.heap.size q 0 0 false) := Lib.hid ⟨hB, h1, h2, h3⟩
  clear h1 h2 h3 hB HS
  refine wpIn_rangeLines (by omega) (w.heap.size + 1 + 1 + 1) s hs h4 rfl rfl
    (fun pre W => (∀ x ∈ pre, (x.1 : Int) ≠ q) ∧ NSt w W w.heap.size q 0 0 false)
    (fun c pre W => c = .ret ∧ ∃ p x, pre = p ++ [x] ∧ (x.1 : Int) = q ∧ NSt w W w.heap.size q (x.2.1 : Int) (x.2.2 : Int) true)
    ?own ?ownx ?start
    (fun x B => { tmps := #[.string s, .int .i64 q, undef, .pointer (some ⟨w.heap.size, 0, none⟩), .pointer (some ⟨w.heap.size + 1, 0, none⟩), .pointer (some ⟨w.heap.size + 1 + 1, 0, none⟩), .int .i64 (x.1 : Int), .pointer (some ⟨B, 0, none⟩), .string s, .func (.func 97) #[] #[.pointer (some ⟨w.heap.size + 1 + 1 + 1, 0, none⟩)], .int .i64 (x.1 : Int), .agg #[.int .i64 (x.2.1 : Int), .int .i64 (x.2.2 : Int)], undef, undef, undef, undef, undef], defers := [] })
    ?assign ?body ?done ?stop
  case assign =>
    intro l x W K hK
    unfold encR
    gi_wp2
    refine hK W.heap.size _ ?_ (Nat.le_refl _) ?_
    · exact alloc_below W _
    · exact alloc_top W _ _
  case own =>
    rintro pre W W' row ⟨hc, hb⟩ hg hr
    exact ⟨hc, hb.own (by omega) hg hr⟩
  case ownx =>
    rintro c pre W W' row ⟨hc, p, x, h1, h2, hb⟩ hg hr
    exact ⟨hc, p, x, h1, h2, hb.own (by omega) hg hr⟩
  case start => exact ⟨fun x hx => by simp at hx, HN.out⟩
  case body =>
    rintro l pre x B W ⟨hne, hst⟩ hB hc
    have c1 := cell_at (i := 0) hst.num
    have c2 := cell_at (i := 0) hst.row
    have c3 := cell_at (i := 1) hst.row
    have c4 := cell_at (i := 0) hst.ok
    have f2 := frozen_of_row W (w.heap.size + 1) 0 _ _ hst.row
    have f3 := frozen_of_row W (w.heap.size + 1) 1 _ _ hst.row
    have f4 := frozen_of_row W (w.heap.size + 1 + 1) 0 _ _ hst.ok
    unfold spanO at hc
    have d1 := cell_at (i := 0) hc
    have d2 := cell_at (i := 1) hc
    have HS := Lib.hid hst
    have HE := Lib.hid hne
    clear hst hne hc HN h4
    by_cases hx : (x.1 : Int) = q
    · have eb : ((x.1 : Int) == q) = true := by simpa using hx
      have HX := Lib.hid hx
      clear hx
      gi_wp2_with fail
      refine ⟨(((KeepsOthers.setCell _ _ _).trans (KeepsOthers.setCell _ _ _)).trans (KeepsOthers.setCell _ _ _)), rfl, pre, x, rfl, HX.out, ?_⟩
      exact HS.out.set (Nat.le_refl _) _ _ _
    · have eb : ((x.1 : Int) == q) = false := by simpa using hx
      have HX := Lib.hid hx
      clear hx
      gi_wp2_with fail
      refine ⟨KeepsOthers.refl _, fun h => h, ?_, HS.out⟩
      intro y hy
      rcases List.mem_append.1 hy with h | h
      · exact HE.out y h
      · obtain rfl : y = x := by simpa using h
        exact HX.out
  case done =>
    rintro D W hD ⟨hne, hst⟩ hK
    have c2 := cell_at (i := 0) hst.row
    have c3 := cell_at (i := 1) hst.row
    have c4 := cell_at (i := 0) hst.ok
    have f2 := frozen_of_row W (w.heap.size + 1) 0 _ _ hst.row
    have f3 := frozen_of_row W (w.heap.size + 1) 1 _ _ hst.row
    have f4 := frozen_of_row W (w.heap.size + 1 + 1) 0 _ _ hst.ok
    have HS := Lib.hid (hst.set (Nat.le_refl _) 0 0 false)
    have HK := Lib.hid (((KeepsOthers.setCell W ⟨w.heap.size + 1, 0, none⟩ (.int .i64 0)).trans (KeepsOthers.setCell _ ⟨w.heap.size + 1, 1, none⟩ (.int .i64 0))).trans (KeepsOthers.setCell _ ⟨w.heap.size + 1 + 1, 0, none⟩ (.bool false)) |>.same D _ hK rfl)
    have HV := Lib.hid (numV_none hne)
    clear hst hne hK HN h4
    gi_wp2
    refine ⟨by simp, .inl ⟨_, _, rfl, run_takeDeferred HK.out, ?_⟩⟩
    have hst := HS.out.own (B := w.heap.size) (Nat.le_refl _) (grownBy_putObj' _ D (.deferred none)) (fun r e => by cases e; exact ⟨by omega, _, HK.out, rfl⟩)
    have g1 := cell_at (i := 0) hst.row
    have g2 := cell_at (i := 1) hst.row
    have g3 := cell_at (i := 0) hst.ok
    refine ⟨.tuple #[.agg #[.int .i64 0, .int .i64 0], .bool false], ?_, ?_, hst.below⟩
    · simp [results, Tryd.f92, go_sem, g1, g2, g3]
    · rw [HV.out]; rfl
  case stop =>
    rintro D c pre W hD ⟨r, hr⟩ ⟨rfl, p, x, rfl, hx, hst⟩ hK
    have HV := Lib.hid (numV_hit (at_snoc hr) hx)
    have HS := Lib.hid hst
    have HK := Lib.hid hK
    clear hst hx hK hr HN h4
    gi_wp2
    refine ⟨by simp, .inl ⟨_, _, rfl, run_takeDeferred HK.out, ?_⟩⟩
    have hst := HS.out.own (B := w.heap.size) (Nat.le_refl _) (grownBy_putObj' _ D (.deferred none)) (fun r e => by cases e; exact ⟨by omega, _, HK.out, rfl⟩)
    have g1 := cell_at (i := 0) hst.row
    have g2 := cell_at (i := 1) hst.row
    have g3 := cell_at (i := 0) hst.ok
    refine ⟨.tuple #[.agg #[.int .i64 (x.2.1 : Int), .int .i64 (x.2.2 : Int)], .bool true], ?_, ?_, hst.below⟩
    · simp [results, Tryd.f92, go_sem, g1, g2, g3]
    · rw [HV.out]; rfl
end Go.Proofs.YtpphkkelikdhkaaDoor
