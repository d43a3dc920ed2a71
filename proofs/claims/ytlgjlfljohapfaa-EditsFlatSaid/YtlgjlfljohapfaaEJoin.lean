/-
  edits' joined, AT EVERY iterator of texts: the texts one behind the other. No memory that was there turns. Conditions: the lengths.
-/
import Derived.RegionIn
import Derived.BigRegionIn
import Derived.Test.YtlgjlfljohapfaaEBytes
namespace Go.Proofs.Ytlgjlfljohapfaa
open Go.RowKit Go.Shelf Go.Lib
attribute [local go_sem] Oper.semAt_some

theorem u8Info : (Try.prog.info? 5).map (fun i => (i.zero, i.size, i.bytes)) = some (some (.int .u8 0), 1, 1) := by kernel_rfl
theorem made_bdl (T : Nat) : madeCells (Value.int .u8 0).cells (T * 1) = (byteCells (bdl T [])).toArray := by
  unfold madeCells bdl byteCells
  apply Array.ext'
  simp
  apply List.ext_getElem
  · simp
  · intro i h1 h2
    simp [Value.cells, Nat.mod_one]
/-- What lies in memory while texts are joined. -/
structure JIn (w W : World) (G F T : Nat) (l : List UInt8) : Prop where
  row : W.heap[G]? = some (.cells (byteCells (bdl T l)).toArray 5 (0, 0))
  free : ∃ o, W.heap[F]? = some (.cells #[.slice (some ⟨G, o, none⟩) (T - l.length) (T - l.length)] 73 (0, 0)) ∧ o + Nat.min (T - l.length) T ≤ T ∧ (l.length < T → o = l.length)
  below : Below w.heap.size w W
set_option maxHeartbeats 4000000 in
set_option maxRecDepth 100000 in
theorem joined_any (g : Nat) (lb : Array Value) (ls : List ByteArray) (hT : tot ls ≤ 3000000000) (w : World) (hI : Iter w g lb ls) : Calls Try.prog 39 #[.func (.func g) #[] lb] w fun e w' => e = .returned (.string (textOf (cat ls))) ∧ Below w.heap.size w w' := by
  have HI := Lib.hid hI
  have HZ := Lib.hid (size_any g lb ls w hI)
  clear hI
  obtain ⟨T, hTT⟩ : ∃ T, tot ls = T := ⟨_, rfl⟩
  rw [hTT] at HZ hT
  have HT := Lib.hid hTT
  clear hTT
  obtain ⟨i0, hi0, hz0, hz1, hz2⟩ := info_parts u8Info
  have hmk : ∀ W, (Instr.makeSlice 73 (.int .i64 (T : Int)) (.int .i64 (T : Int))).run Try.prog W = .ok (.slice (some ⟨W.heap.size, 0, none⟩) T T) (W.alloc (.cells (byteCells (bdl T [])).toArray 5)) := fun W => by
    have h := run_make (P := Try.prog) W 73 5 i0 (.int .u8 0) Try.underlying73 hi0 hz0 .i64 .i64 (T : Int) (T : Int) (by omega) (by omega) (by rw [hz2]; omega) (by omega)
    rw [hz1, Int.toNat_natCast, made_bdl] at h
    exact h
  clear hz0 hz1 hz2 hi0
  refine (callsIn_wide (n := 9)).1 ?_
  refine callsIn_of_wp_marks Try.func39 rfl trivial ?_ rfl
  simp only [Try.ntmps39, List.size_toArray, List.length_cons, List.length_nil, Nat.reduceAdd, Nat.reduceSub, Array.replicate_succ, Array.replicate_zero, List.push_toArray, List.append_toArray, List.nil_append, List.cons_append]
  gi_wp2_with fail
  refine ⟨trivial, (callsIn_wide.2 HZ.out).mono ?_⟩
  rintro e w1 ⟨rfl, hb1⟩
  have HB1 := Lib.hid hb1
  have HI1 := Lib.hid (HI.out.keep hb1)
  clear hb1 HZ HI
  gi_wp2_with fail
  clear hmk
  obtain ⟨W0, hW0⟩ : ∃ W0, (w1.alloc (.cells (byteCells (bdl T [])).toArray 5)).alloc (.cells #[.slice (some ⟨w1.heap.size, 0, none⟩) T T] 73) = W0 := ⟨_, rfl⟩
  have b1 := alloc_below w1 (.cells (byteCells (bdl T [])).toArray 5)
  have b2 := alloc_below (w1.alloc (.cells (byteCells (bdl T [])).toArray 5)) (.cells #[.slice (some ⟨w1.heap.size, 0, none⟩) T T] 73)
  have h1 := heap_keep b2 (alloc_top w1 (byteCells (bdl T [])).toArray 5)
  have h2 := alloc_top (w1.alloc (.cells (byteCells (bdl T [])).toArray 5)) #[.slice (some ⟨w1.heap.size, 0, none⟩) T T] 73
  rw [World.size_alloc] at h2
  have hB1 := b1.trans (b2.mono b1.size)
  have hz : ((w1.alloc (.cells (byteCells (bdl T [])).toArray 5)).alloc (.cells #[.slice (some ⟨w1.heap.size, 0, none⟩) T T] 73)).heap.size = w1.heap.size + 2 := by simp
  rw [hW0] at h1 h2 hB1 hz ⊢
  have hJ0 : JIn w W0 w1.heap.size (w1.heap.size + 1) T [] := ⟨h1, ⟨0, h2, by simp, fun _ => rfl⟩, HB1.out.trans (hB1.mono HB1.out.size)⟩
  have HJ0 := Lib.hid hJ0
  have hs1 := HB1.out.size
  clear b1 b2 hW0 h1 h2 hJ0
  refine wpIn_rangeFunc_ownF (Kp := KX (fun k => k = w1.heap.size ∨ k = w1.heap.size + 1)) rfl (by omega) (gf := g) (lb := lb) rfl trivial HI1.out.enters
    (HI1.out.seq _ _ W0 hB1 (fun k hk => by rcases hk with rfl | rfl <;> omega)) (fun h k => h.trans k) (fun W l o o' _ h hc _ => KX.put W l o o' h hc) (Below.refl _ _) (fun _ => rfl)
    (fun pre W => JIn w W w1.heap.size (w1.heap.size + 1) T (cat (vals pre)))
    (fun _ _ _ => False) ?own ?ownx ?start ?act ?assign ?body ?done ?stop
  case assign =>
    intro l x W K hK
    unfold encS
    gi_wp2
    exact hK
  case own =>
    rintro pre W W' row ⟨hc, ⟨o, hf, h3, h4⟩, hb⟩ hg hr
    exact ⟨grown_cells hg (fun r e => (hr r e).2) _ _ hc rfl, ⟨o, grown_cells hg (fun r e => (hr r e).2) _ _ hf rfl, h3, h4⟩, hb.grown hg hb.size (fun k e => Nat.le_trans (by omega) (hr k e).1)⟩
  case ownx => exact fun _ _ _ _ _ h _ _ => h
  case start => exact HJ0.out
  case body =>
    rintro l pre x W hJ hp
    clear HJ0 hp HT
    have HL : Hid (cat (vals (pre ++ [x])) = cat (vals pre) ++ x.1.data.toList) := Lib.hid (by rw [vals_app, cat_app]; simp [vals, cat])
    obtain ⟨L0, hL0⟩ : ∃ L0, cat (vals pre) = L0 := ⟨_, rfl⟩
    rw [hL0] at HL hJ
    clear hL0
    obtain ⟨hrow, ⟨o, hfree, ho1, ho2⟩, hbel⟩ := hJ
    obtain ⟨R, hR⟩ : ∃ R, T - L0.length = R := ⟨_, rfl⟩
    rw [hR] at hfree ho1
    obtain ⟨m, hm⟩ : ∃ m, m = Nat.min x.1.size R := ⟨_, rfl⟩
    have hmR : m ≤ R := by rw [hm]; exact Nat.min_le_right _ _
    have ho3 : o + R ≤ T := by rw [show Nat.min R T = R from Nat.min_eq_left (by omega)] at ho1; exact ho1
    have hlenr : (byteCells (bdl T L0)).toArray.size = T := by rw [List.size_toArray, byteCells_length, bdl_len]
    have hcp := run_copy_min (P := Try.prog) W.drew 73 9 3 5 w1.heap.size o R R m x.1 _ _ hm Try.underlying73 (by kernel_rfl) hrow (by rw [hlenr]; omega)
    have hstep := bdl_step T o m L0 x.1.data.toList ho2 (by rw [hR]; exact hm)
    have hrw : ((byteCells (bdl T L0)).toArray.toList.take o ++ byteCells (x.1.data.toList.take m) ++ (byteCells (bdl T L0)).toArray.toList.drop (o + m)).toArray = (byteCells (bdl T (L0 ++ x.1.data.toList))).toArray := by
      rw [← hstep]
      unfold byteCells
      simp
    rw [hrw] at hcp
    obtain ⟨W1, hW1⟩ : ∃ W1, W.drew.setRow w1.heap.size (byteCells (bdl T (L0 ++ x.1.data.toList))).toArray = W1 := ⟨_, rfl⟩
    rw [hW1] at hcp
    have hrow1 : W1.heap[w1.heap.size]? = some (.cells (byteCells (bdl T (L0 ++ x.1.data.toList))).toArray 5 (0, 0)) := by rw [← hW1]; exact setRow_heap _ _ _ _ _ _ hrow
    have hfree1 : W1.heap[w1.heap.size + 1]? = some (.cells #[.slice (some ⟨w1.heap.size, o, none⟩) R R] 73 (0, 0)) := by rw [← hW1, setRow_other _ _ _ _ (by omega)]; exact hfree
    have hbel1 : Below w.heap.size w W1 := by rw [← hW1]; exact hbel.trans ⟨rfl, rfl, rfl, by simp, fun k hk => setRow_other _ _ _ _ (by omega)⟩
    have hkx1 : KX (fun k => k = w1.heap.size ∨ k = w1.heap.size + 1) W W1 := by rw [← hW1]; exact ⟨by simp, fun k o h hk _ => by rw [setRow_other _ _ _ _ (fun e => h (.inl e))]; exact hk⟩
    have hko : KeepsOthers W W1 := by rw [← hW1]; exact ⟨by simp, fun k o hk ho => by
      refine (setRow_other _ _ _ _ ?_).trans hk
      rintro rfl
      rw [hrow] at hk
      injection hk with hk
      subst hk
      cases ho⟩
    have c1 := cell_at (i := 0) hfree
    have c2 := cell_at (i := 0) hfree1
    have f1 := frozen_of_row W (w1.heap.size + 1) 0 _ _ hfree
    have f2 := frozen_of_row W1 (w1.heap.size + 1) 0 _ _ hfree1
    have hsl := slice_from w1.heap.size o R m hmR
    unfold goInt at hcp
    have hfin : ∀ (W1 : World) (v : Value), W1.heap[w1.heap.size]? = some (.cells (byteCells (bdl T (L0 ++ x.1.data.toList))).toArray 5 (0, 0)) → W1.heap[w1.heap.size + 1]? = some (.cells #[v] 73 (0, 0)) → Below w.heap.size w W1 →
        JIn w (W1.setCell ⟨w1.heap.size + 1, 0, none⟩ (.slice (some ⟨w1.heap.size, (if R = m then o else o + m), none⟩) (R - m) (R - m))) w1.heap.size (w1.heap.size + 1) T (L0 ++ x.1.data.toList) := fun W1 v h1 h2 h3 => by
      have hx : x.1.data.toList.length = x.1.size := rfl
      have hm' : m = min x.1.size R := hm
      have hR2 : T - (L0 ++ x.1.data.toList).length = R - m := by rw [List.length_append, hx]; omega
      refine ⟨(heap_setCell_other _ _ _ _ (show w1.heap.size ≠ w1.heap.size + 1 by omega)).trans h1, ⟨(if R = m then o else o + m), ?_, ?_, fun hlt => ?_⟩, h3.setCell (p := ⟨w1.heap.size + 1, 0, none⟩) (show w.heap.size ≤ w1.heap.size + 1 by omega) _⟩
      · rw [hR2]
        exact heap_setCell_same _ (w1.heap.size + 1) 0 _ _ _ h2
      · rw [hR2, show Nat.min (R - m) T = R - m from Nat.min_eq_left (by omega)]
        split <;> omega
      · rw [List.length_append, hx] at hlt ⊢
        rw [if_neg (by omega)]
        have := ho2 (by omega)
        omega
    have HF1 := Lib.hid hfree1
    have HR1 := Lib.hid hrow1
    clear hrow hfree hrw hstep hlenr hW1 hfree1 hrow1 hm
    gi_wp2_with fail
    gi_region
    all_goals
      refine ⟨hko.trans (KeepsOthers.setCell _ _ _), hkx1.trans (KX.set _ _ (.inr rfl)), ?_⟩
      show JIn w _ _ _ T (cat (vals (pre ++ [x])))
      rw [HL.out]
      exact hfin W1 _ HR1.out HF1.out hbel1
  case done =>
    rintro D xs W hD hxs ⟨hrow, ⟨o, hfree, _, _⟩, hbel⟩ hK
    rw [hxs] at hrow hfree
    have hl : (cat ls).length = T := HT.out
    have hrow2 : W.heap[w1.heap.size]? = some (.cells (byteCells (cat ls)).toArray 5 (0, 0)) := by rw [hrow, ← hl, bdl_full]
    have hcv := str_conv (cap := T) hrow2
    rw [hl] at hcv
    have HR := Lib.hid hrow2
    clear hxs hrow hfree hrow2 hl
    gi_wp2
    refine ⟨by simp, .inl ⟨_, _, rfl, run_takeDeferred hK, ?_⟩⟩
    exact ⟨_, results_tmp rfl _ _ _, rfl, hbel.grown (grownBy_putObj' _ D _) hbel.size (fun k e => by cases e; omega)⟩
  case stop =>
    rintro D c pre W _ _ h _
    exact h.elim
end Go.Proofs.Ytlgjlfljohapfaa
