/-
  lines' lineOf AT EVERY TEXT of at most 1000000 bytes, every place from 0: the line of the place; no memory that was there turns. Condition: the text's length.
-/
import Derived.Test.YtlgjlfljohapfaaNumbered
import Derived.BigRegionIn
import Derived.RegionIn
namespace Go.Proofs.Ytlgjlfljohapfaa
open Go.RowKit Go.Shelf
attribute [local go_sem] Oper.semAt_some

/-- What lies in memory while the line of a place is looked for: the place; the line's number; the line. -/
structure LSt (w W : World) (A : Nat) (p n a b : Int) : Prop where
  below : Below w.heap.size w W
  place : W.heap[A]? = some (.cells #[.int .i64 p] 3 (0, 0))
  num : W.heap[A + 1]? = some (.cells #[.int .i64 n] 3 (0, 0))
  row : W.heap[A + 1 + 1]? = some (.cells #[.int .i64 a, .int .i64 b] 107 (0, 0))
theorem LSt.own {w W W' : World} {A B : Nat} {p n a b : Int} {row : Option Nat} (h : LSt w W A p n a b) (hA : w.heap.size ≤ B) (hg : W.grownBy W' row) (hr : ∀ r, row = some r → B ≤ r ∧ ∃ o : Obj, W.heap[r]? = some o ∧ o.isCells = false) : LSt w W' A p n a b :=
  ⟨h.below.grown hg h.below.size (fun k e => Nat.le_trans hA (hr k e).1), grown_cells hg (fun r e => (hr r e).2) _ _ h.place rfl, grown_cells hg (fun r e => (hr r e).2) _ _ h.num rfl, grown_cells hg (fun r e => (hr r e).2) _ _ h.row rfl⟩
theorem LSt.set {w W : World} {A : Nat} {p n a b : Int} (h : LSt w W A p n a b) (hA : w.heap.size ≤ A) (m x y : Int) : LSt w (((W.setCell ⟨A + 1, 0, none⟩ (.int .i64 m)).setCell ⟨A + 1 + 1, 0, none⟩ (.int .i64 x)).setCell ⟨A + 1 + 1, 1, none⟩ (.int .i64 y)) A p m x y := by
  refine ⟨((h.below.setCell (p := ⟨A + 1, 0, none⟩) (Nat.le_succ_of_le hA) _).setCell (p := ⟨A + 1 + 1, 0, none⟩) (show w.heap.size ≤ A + 1 + 1 by omega) _).setCell (p := ⟨A + 1 + 1, 1, none⟩) (show w.heap.size ≤ A + 1 + 1 by omega) _, ?_, ?_, ?_⟩
  · rw [heap_setCell_other _ ⟨A + 1 + 1, 1, none⟩ A _ (show A ≠ A + 1 + 1 by omega), heap_setCell_other _ ⟨A + 1 + 1, 0, none⟩ A _ (show A ≠ A + 1 + 1 by omega), heap_setCell_other _ ⟨A + 1, 0, none⟩ A _ (show A ≠ A + 1 by omega)]
    exact h.place
  · rw [heap_setCell_other _ ⟨A + 1 + 1, 1, none⟩ (A + 1) _ (show A + 1 ≠ A + 1 + 1 by omega), heap_setCell_other _ ⟨A + 1 + 1, 0, none⟩ (A + 1) _ (show A + 1 ≠ A + 1 + 1 by omega)]
    exact heap_setCell_same _ (A + 1) 0 #[.int .i64 n] _ _ h.num
  · refine setCell2_heap (a := .int .i64 a) (b := .int .i64 b) ?_
    rw [heap_setCell_other _ ⟨A + 1, 0, none⟩ (A + 1 + 1) _ (show A + 1 + 1 ≠ A + 1 by omega)]
    exact h.row
theorem LSt.drew {w W : World} {A : Nat} {p n a b : Int} (h : LSt w W A p n a b) : LSt w W.drew A p n a b := ⟨h.below.drew, h.place, h.num, h.row⟩
theorem keeps_drew (W : World) : KeepsOthers W W.drew := ⟨Nat.le_refl _, fun _ _ h _ => h⟩
/-- The last of some lines. -/
def lastV (pre : List LRow) : LRow := pre.getLast?.getD (0, 0, 0)
theorem lastV_snoc (pre : List LRow) (x : LRow) : lastV (pre ++ [x]) = x := by simp [lastV]
theorem last_line {s : ByteArray} {p : Nat} {pre r : List LRow} (h : linesOf s = pre ++ r) (hp : pre ≠ []) (h1 : ∀ y ∈ pre, y.2.1 ≤ p) (h2 : ∀ x, r.head? = some x → p < x.2.1) : lastV pre = (lineN s.data.toList p, rowN s.data.toList (lineN s.data.toList p)) := by
  obtain ⟨ini, z, rfl⟩ : ∃ ini z, pre = ini ++ [z] := ⟨_, _, (List.dropLast_concat_getLast hp).symm⟩
  rw [lastV_snoc]
  obtain ⟨e1, e2⟩ := linesOf_at (at_snoc h)
  have e : lineN s.data.toList p = ini.length := by
    refine lineN_of _ _ _ _ e2 (h1 z (by simp)) (fun q hq => ?_)
    have hlt : ini.length + 1 < (linesOf s).length := by rw [linesOf_len]; exact (List.getElem?_eq_some_iff.1 hq).1
    have hx := List.getElem?_eq_getElem hlt
    have hq2 := (linesOf_at hx).2
    rw [hq] at hq2
    injection hq2 with hq2
    rw [hq2]
    refine h2 _ ?_
    rw [← hx]
    simp only [h, List.head?_eq_getElem?, List.append_assoc]
    rw [List.getElem?_append_right (by omega), Nat.add_sub_cancel_left]
    rfl
  rw [e, rowN_eq e2, ← e1]
theorem first_line {s : ByteArray} {x : LRow} {r : List LRow} (h : linesOf s = [x] ++ r) : x.2.1 = 0 := by
  obtain ⟨t, q, e⟩ := rows_first s.data.toList 0
  have := (linesOf_at (j := 0) (x := x) (by rw [h]; rfl)).2
  rw [e] at this
  injection this with this
  rw [← this]
set_option maxHeartbeats 4000000 in
set_option maxRecDepth 100000 in
theorem lineOf_any (s : ByteArray) (hs : s.size ≤ 1000000) (q : Nat) (w : World) : Calls Try.prog 57 #[.string s, .int .i64 (q : Int)] w fun e w' =>
    e = .returned (.tuple #[.int .i64 (lineN s.data.toList q : Int), .agg #[.int .i64 ((rowN s.data.toList (lineN s.data.toList q)).1 : Int), .int .i64 ((rowN s.data.toList (lineN s.data.toList q)).2 : Int)]]) ∧ Below w.heap.size w w' := by
  have HS := Lib.hid (fun w => spans_any s w)
  refine (callsIn_wide (n := 9)).1 ?_
  refine callsIn_of_wp_marks Try.func57 rfl trivial ?_ rfl
  simp only [Try.ntmps57, List.size_toArray, List.length_cons, List.length_nil, Nat.reduceAdd, Nat.reduceSub, Array.replicate_succ, Array.replicate_zero, List.push_toArray, List.append_toArray, List.nil_append, List.cons_append]
  gi_wp2_with fail
  refine ⟨trivial, (callsIn_wide.2 (HS.out _)).mono ?_⟩
  rintro e w3 ⟨rfl, rfl⟩
  gi_wp2_with fail
  obtain ⟨W0, hW0⟩ : ∃ W0, ((((w.alloc (.cells #[.int .i64 (q : Int)] 3)).alloc (.cells #[.int .i64 0] 3)).alloc (.cells #[.int .i64 0, .int .i64 0] 107)).alloc (.cells #[.string s] 9)) = W0 := ⟨_, rfl⟩
  have b1 := alloc_below w (.cells #[.int .i64 (q : Int)] 3)
  have b2 := alloc_below (w.alloc (.cells #[.int .i64 (q : Int)] 3)) (.cells #[.int .i64 0] 3)
  have b3 := alloc_below ((w.alloc (.cells #[.int .i64 (q : Int)] 3)).alloc (.cells #[.int .i64 0] 3)) (.cells #[.int .i64 0, .int .i64 0] 107)
  have b4 := alloc_below (((w.alloc (.cells #[.int .i64 (q : Int)] 3)).alloc (.cells #[.int .i64 0] 3)).alloc (.cells #[.int .i64 0, .int .i64 0] 107)) (.cells #[.string s] 9)
  have h1 := alloc_top w #[.int .i64 (q : Int)] 3
  have h2 := alloc_top (w.alloc (.cells #[.int .i64 (q : Int)] 3)) #[.int .i64 0] 3
  have h3 := alloc_top ((w.alloc (.cells #[.int .i64 (q : Int)] 3)).alloc (.cells #[.int .i64 0] 3)) #[.int .i64 0, .int .i64 0] 107
  have h4 := alloc_top (((w.alloc (.cells #[.int .i64 (q : Int)] 3)).alloc (.cells #[.int .i64 0] 3)).alloc (.cells #[.int .i64 0, .int .i64 0] 107)) #[.string s] 9
  have h1 := heap_keep b4 (heap_keep b3 (heap_keep b2 h1))
  have h2 := heap_keep b4 (heap_keep b3 h2)
  have h3 := heap_keep b4 h3
  have hB := ((b1.trans (b2.mono b1.size)).trans (b3.mono (Nat.le_trans b1.size b2.size))).trans (b4.mono (Nat.le_trans (Nat.le_trans b1.size b2.size) b3.size))
  have hz : ((((w.alloc (.cells #[.int .i64 (q : Int)] 3)).alloc (.cells #[.int .i64 0] 3)).alloc (.cells #[.int .i64 0, .int .i64 0] 107)).alloc (.cells #[.string s] 9)).heap.size = w.heap.size + 4 := by simp
  simp only [World.size_alloc] at h2 h3 h4
  rw [hW0] at h1 h2 h3 h4 hB hz ⊢
  clear b1 b2 b3 b4 hW0
  have HN : Hid (LSt w W0 w.heap.size q 0 0 0) := Lib.hid ⟨hB, h1, h2, h3⟩
  clear h1 h2 h3 hB HS
  refine wpIn_rangeLines (by omega) (w.heap.size + 1 + 1 + 1) s hs h4 rfl rfl
    (fun pre W => (∀ x ∈ pre, x.2.1 ≤ q) ∧ LSt w W w.heap.size q (lastV pre).1 (lastV pre).2.1 (lastV pre).2.2)
    (fun c pre W => c = .exit 0 ∧ ∃ p x, pre = p ++ [x] ∧ (∀ x ∈ p, x.2.1 ≤ q) ∧ q < x.2.1 ∧ LSt w W w.heap.size q (lastV p).1 (lastV p).2.1 (lastV p).2.2)
    ?own ?ownx ?start
    (fun x B => { tmps := #[.string s, .int .i64 (q : Int), undef, .pointer (some ⟨w.heap.size, 0, none⟩), .pointer (some ⟨w.heap.size + 1, 0, none⟩), .pointer (some ⟨w.heap.size + 1 + 1, 0, none⟩), .int .i64 (x.1 : Int), .pointer (some ⟨B, 0, none⟩), .string s, .func (.func 76) #[] #[.pointer (some ⟨w.heap.size + 1 + 1 + 1, 0, none⟩)], .int .i64 (x.1 : Int), .agg #[.int .i64 (x.2.1 : Int), .int .i64 (x.2.2 : Int)], undef, undef, undef, undef, undef, undef, undef, undef], defers := [] })
    ?assign ?body ?done ?stop
  case assign =>
    intro l x W K hK
    unfold encR
    gi_wp2
    refine hK W.heap.size _ ?_ (Nat.le_refl _) ?_
    · exact alloc_below W _
    · exact alloc_top W _ _
  case own =>
    rintro pre W W' row ⟨hc, hb⟩ hg hr
    exact ⟨hc, hb.own (by omega) hg hr⟩
  case ownx =>
    rintro c pre W W' row ⟨hc, p, x, h1, h2, h3, hb⟩ hg hr
    exact ⟨hc, p, x, h1, h2, h3, hb.own (by omega) hg hr⟩
  case start => exact ⟨fun x hx => by simp at hx, HN.out⟩
  case body =>
    rintro l pre x B W ⟨hne, hst⟩ hB hc
    have c1 := cell_at (i := 0) hst.place
    have c2 := cell_at (i := 0) hst.num
    have c3 := cell_at (i := 0) hst.row
    have c4 := cell_at (i := 1) hst.row
    have f2 := frozen_of_row W (w.heap.size + 1) 0 _ _ hst.num
    have f3 := frozen_of_row W (w.heap.size + 1 + 1) 0 _ _ hst.row
    have f4 := frozen_of_row W (w.heap.size + 1 + 1) 1 _ _ hst.row
    unfold spanO at hc
    have d1 := cell_at (i := 0) hc
    have d2 := cell_at (i := 1) hc
    have HS := Lib.hid hst
    have HE := Lib.hid hne
    clear hst hne hc HN h4
    generalize hlv : lastV pre = lv at *
    have HLV := Lib.hid hlv
    clear hlv
    by_cases hx : q < x.2.1
    · have eb : decide ((q : Int) < (x.2.1 : Int)) = true := by simpa using hx
      have HX := Lib.hid hx
      clear hx
      gi_wp2_with fail
      refine ⟨KeepsOthers.refl _, rfl, pre, x, rfl, HE.out, HX.out, ?_⟩
      rw [HLV.out]
      exact HS.out
    · have eb : decide ((q : Int) < (x.2.1 : Int)) = false := by simp; omega
      have HX := Lib.hid hx
      clear hx
      gi_wp2_with fail
      gi_region
      all_goals
        refine ⟨(((KeepsOthers.setCell _ _ _).trans (KeepsOthers.setCell _ _ _)).trans (KeepsOthers.setCell _ _ _)).trans (keeps_drew _), ?_, ?_, ?_⟩
        · refine kpN_t ?_ (fun h => h)
          exact kpN_t (kpN_t (kpN_set (show w.heap.size + 1 + 1 + 1 ≠ w.heap.size + 1 by omega) _) (kpN_set (show w.heap.size + 1 + 1 + 1 ≠ w.heap.size + 1 + 1 by omega) _)) (kpN_set (show w.heap.size + 1 + 1 + 1 ≠ w.heap.size + 1 + 1 by omega) _)
        · intro y hy
          rcases List.mem_append.1 hy with h | h
          · exact HE.out y h
          · obtain rfl : y = x := by simpa using h
            exact Nat.le_of_not_lt HX.out
        · rw [lastV_snoc]
          exact (HS.out.set (Nat.le_refl _) _ _ _).drew
  case done =>
    rintro D W hD ⟨hne, hst⟩ hK
    have HV := Lib.hid (last_line (s := s) (p := q) (pre := linesOf s) (r := []) (by simp) (by intro e; have := linesOf_len s; rw [e] at this; have := rows_pos s.data.toList 0; simp at *; omega) hne (by simp))
    rw [HV.out] at hst
    obtain ⟨nn, hnn⟩ : ∃ nn, lineN s.data.toList q = nn := ⟨_, rfl⟩
    obtain ⟨rr, hrr⟩ : ∃ rr, rowN s.data.toList nn = rr := ⟨_, rfl⟩
    rw [hnn, hrr] at hst
    have HNN := Lib.hid hnn
    have HRR := Lib.hid hrr
    clear hnn hrr
    have c2 := cell_at (i := 0) hst.num
    have c3 := cell_at (i := 0) hst.row
    have c4 := cell_at (i := 1) hst.row
    have f2 := frozen_of_row W (w.heap.size + 1) 0 _ _ hst.num
    have f3 := frozen_of_row W (w.heap.size + 1 + 1) 0 _ _ hst.row
    have f4 := frozen_of_row W (w.heap.size + 1 + 1) 1 _ _ hst.row
    have HK0 := Lib.hid hK
    have HS0 := Lib.hid hst
    clear hst hne hK HN h4 HV
    gi_wp2
    gi_region
    gi_wp2
    have HS := Lib.hid (HS0.out.set (Nat.le_refl _) nn rr.1 rr.2).drew
    have HK := Lib.hid (((KeepsOthers.setCell W ⟨w.heap.size + 1, 0, none⟩ (.int .i64 nn)).trans (KeepsOthers.setCell _ ⟨w.heap.size + 1 + 1, 0, none⟩ (.int .i64 rr.1))).trans (KeepsOthers.setCell _ ⟨w.heap.size + 1 + 1, 1, none⟩ (.int .i64 rr.2)) |>.same D _ HK0.out rfl)
    refine ⟨by simp, .inl ⟨_, _, rfl, run_takeDeferred HK.out, ?_⟩⟩
    have hst := HS.out.own (B := w.heap.size) (Nat.le_refl _) (grownBy_putObj' _ D (.deferred none)) (fun r e => by cases e; exact ⟨by omega, _, HK.out, rfl⟩)
    have g1 := cell_at (i := 0) hst.num
    have g2 := cell_at (i := 0) hst.row
    have g3 := cell_at (i := 1) hst.row
    refine ⟨.tuple #[.int .i64 nn, .agg #[.int .i64 rr.1, .int .i64 rr.2]], ?_, by rw [HNN.out, HRR.out], hst.below⟩
    simp [results, Try.f57, go_sem, g1, g2, g3]
  case stop =>
    rintro D c pre W hD ⟨r, hr⟩ ⟨rfl, p, x, rfl, hne, hx, hst⟩ hK
    have HV := Lib.hid (last_line (s := s) (p := q) (pre := p) (r := [x] ++ r) (by rw [hr, List.append_assoc]) (by rintro rfl; have := first_line hr; omega) hne (by simp; omega))
    rw [HV.out] at hst
    obtain ⟨nn, hnn⟩ : ∃ nn, lineN s.data.toList q = nn := ⟨_, rfl⟩
    obtain ⟨rr, hrr⟩ : ∃ rr, rowN s.data.toList nn = rr := ⟨_, rfl⟩
    rw [hnn, hrr] at hst
    have HNN := Lib.hid hnn
    have HRR := Lib.hid hrr
    clear hnn hrr
    have c2 := cell_at (i := 0) hst.num
    have c3 := cell_at (i := 0) hst.row
    have c4 := cell_at (i := 1) hst.row
    have f2 := frozen_of_row W (w.heap.size + 1) 0 _ _ hst.num
    have f3 := frozen_of_row W (w.heap.size + 1 + 1) 0 _ _ hst.row
    have f4 := frozen_of_row W (w.heap.size + 1 + 1) 1 _ _ hst.row
    have HK0 := Lib.hid hK
    have HS0 := Lib.hid hst
    clear hst hne hK HN h4 HV hr hx
    gi_wp2
    gi_region
    gi_wp2
    have HS := Lib.hid (HS0.out.set (Nat.le_refl _) nn rr.1 rr.2).drew
    have HK := Lib.hid (((KeepsOthers.setCell W ⟨w.heap.size + 1, 0, none⟩ (.int .i64 nn)).trans (KeepsOthers.setCell _ ⟨w.heap.size + 1 + 1, 0, none⟩ (.int .i64 rr.1))).trans (KeepsOthers.setCell _ ⟨w.heap.size + 1 + 1, 1, none⟩ (.int .i64 rr.2)) |>.same D _ HK0.out rfl)
    refine ⟨by simp, .inl ⟨_, _, rfl, run_takeDeferred HK.out, ?_⟩⟩
    have hst := HS.out.own (B := w.heap.size) (Nat.le_refl _) (grownBy_putObj' _ D (.deferred none)) (fun r e => by cases e; exact ⟨by omega, _, HK.out, rfl⟩)
    have g1 := cell_at (i := 0) hst.num
    have g2 := cell_at (i := 0) hst.row
    have g3 := cell_at (i := 1) hst.row
    refine ⟨.tuple #[.int .i64 nn, .agg #[.int .i64 rr.1, .int .i64 rr.2]], ?_, by rw [HNN.out, HRR.out], hst.below⟩
    simp [results, Try.f57, go_sem, g1, g2, g3]
end Go.Proofs.Ytlgjlfljohapfaa
