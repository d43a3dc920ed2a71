/-
  emendlaw08's large AT EVERY LIST OF ACTS, however long. No memory that was there turns. Condition: the list reads as acts.
-/
import Derived.Test.YtpphkkelikdhkaaDoorOLarge
namespace Go.Proofs.YtpphkkelikdhkaaDoor
open Go.RowKit

set_option maxRecDepth 100000 in
set_option maxHeartbeats 2000000 in
theorem largeN_any (A : Option Addr) (L : List Ac) (c : Nat) (w : World) (hA : AR w A L) : Calls Tryd.prog 11 #[.slice A L.length c] w fun e w' => e = .returned (.bool (largeB L)) ∧ Below w.heap.size w w' := by
  have HA := Lib.hid hA
  have HY := Lib.hid (fun i x => large_yes (l := L) (i := i) (x := x))
  have HN : Hid ((L.take 20).any largeA = false → largeB L = decide (12 < L.length)) := Lib.hid (fun h => by unfold largeB; rw [h]; rfl)
  generalize largeB L = R at *
  clear hA
  go_enter Tryd.func11, Tryd.ntmps11
  go_wp2_with fail
  go_loopw [3, 4] (fun v _ wr => ∃ (i : Nat), v = .int .i64 (i : Int) ∧ i ≤ L.length ∧ i ≤ 20 ∧ Hid ((L.take i).any largeA = false) ∧ Hid (Below w.heap.size w wr)) (fun v _ _ => 20 - (intOf v).toNat)
  case atStart => exact ⟨0, rfl, Nat.zero_le _, Nat.zero_le _, Lib.hid rfl, Lib.hid (Below.refl _ _)⟩
  case round =>
    obtain ⟨i, rfl, hi, hi2, hno, hb⟩ := hrel
    by_cases hlt : i < L.length ∧ i < 20
    · obtain ⟨hlt, h20⟩ := hlt
      have q1 : (i : Int) < (L.length : Int) := by omega
      have q2 : (i : Int) < 20 := by omega
      obtain ⟨x, hx⟩ : ∃ x, L[i]? = some x := ⟨_, List.getElem?_eq_getElem hlt⟩
      obtain ⟨b, o, rfl, ⟨d0, d1, d2, d3, d4, d5, d6⟩, hcr, hcap⟩ := (HA.out.keep hb.out).at hx
      have HX := Lib.hid hx
      have HC := Lib.hid hcr
      clear hx hcr d0 d3 d4 d6
      by_cases g1 : 300 < x.u.size
      · have q3 : (300 : Int) < (x.u.size : Int) := by omega
        have HE : Hid (R = true) := Lib.hid (HY.out i x HX.out h20 (by unfold largeA; rw [decide_eq_true g1]; rfl))
        go_wp2_with fail
        go_ret
        exact ⟨ret_bool HE.out.symm, hb.out⟩
      · have q3 : ¬ (300 : Int) < (x.u.size : Int) := by omega
        by_cases g2 : 300 < x.t.size
        · have q4 : (300 : Int) < (x.t.size : Int) := by omega
          have HE : Hid (R = true) := Lib.hid (HY.out i x HX.out h20 (by unfold largeA; rw [decide_eq_true g2]; simp))
          go_wp2_with fail
          go_ret
          exact ⟨ret_bool HE.out.symm, hb.out⟩
        · have q4 : ¬ (300 : Int) < (x.t.size : Int) := by omega
          by_cases g3 : 8 < x.L.length
          · have q5 : (8 : Int) < (x.L.length : Int) := by omega
            have HE : Hid (R = true) := Lib.hid (HY.out i x HX.out h20 (by unfold largeA; rw [decide_eq_true g3]; simp))
            go_wp2_with fail
            go_ret
            exact ⟨ret_bool HE.out.symm, hb.out⟩
          · have q5 : ¬ (8 : Int) < (x.L.length : Int) := by omega
            have HG : Hid (largeA x = x.L.any bigC) := Lib.hid (by unfold largeA; rw [decide_eq_false g1, decide_eq_false g2, decide_eq_false g3]; rfl)
            go_wp2_with fail
            go_loop [4] (fun v => ∃ (k : Nat), v = .int .i64 (k : Int) ∧ k ≤ x.L.length ∧ Hid ((x.L.take k).any bigC = false)) (fun v => x.L.length - (intOf v).toNat)
            case atStart => exact ⟨0, rfl, Nat.zero_le _, Lib.hid rfl⟩
            case round =>
              obtain ⟨k, rfl, hk, hkn⟩ := hrel
              by_cases hk2 : k < x.L.length
              · have q6 : (k : Int) < (x.L.length : Int) := by omega
                obtain ⟨y, hy⟩ : ∃ y, x.L[k]? = some y := ⟨_, List.getElem?_eq_getElem hk2⟩
                obtain ⟨b2, o2, hA2, e0, e1, e2, e3, e4, e5⟩ := HC.out.at hy
                have HYY := Lib.hid hy
                rw [hA2] at d5
                clear hy e0 e1 e2 e3 e4
                by_cases g4 : 300 < y.s.size
                · have q7 : (300 : Int) < (y.s.size : Int) := by omega
                  have HE : Hid (R = true) := Lib.hid (HY.out i x HX.out h20 (by rw [HG.out]; exact any_yes HYY.out (decide_eq_true g4)))
                  clear hA2
                  go_wp2_with fail
                  go_ret
                  exact ⟨ret_bool HE.out.symm, hb.out⟩
                · have q7 : ¬ (300 : Int) < (y.s.size : Int) := by omega
                  have HE := Lib.hid (any_take_no hkn.out HYY.out (show bigC y = false from decide_eq_false g4))
                  clear hA2
                  go_wp2_with fail
                  go_round
                  case rel => exact ⟨k + 1, by go_num, by omega, HE⟩
                  case measure => simp [intOf]; omega
              · have q6 : ¬ (k : Int) < (x.L.length : Int) := by omega
                have HE := Lib.hid (any_take_no hno.out HX.out (by rw [HG.out, ← hkn.out, List.take_of_length_le (by omega)]))
                go_wp2_with fail
                go_roundw
                case rel => exact ⟨i + 1, by go_num, by omega, by omega, HE, hb⟩
                case measure => simp [intOf]; omega
    · have HE : Hid (R = decide (12 < L.length)) := Lib.hid (HN.out (by
        by_cases h1 : i = 20
        · rw [← h1]; exact hno.out
        · have := hno.out
          rw [List.take_of_length_le (by omega)] at this ⊢
          exact this))
      by_cases h1 : i < L.length
      · have q1 : (i : Int) < (L.length : Int) := by omega
        have q2 : ¬ (i : Int) < 20 := by omega
        go_wp2_with fail
        go_ret
        exact ⟨ret_bool (by rw [HE.out]; exact decide_eq_decide.2 (by omega)), hb.out⟩
      · have q1 : ¬ (i : Int) < (L.length : Int) := by omega
        go_wp2_with fail
        go_ret
        exact ⟨ret_bool (by rw [HE.out]; exact decide_eq_decide.2 (by omega)), hb.out⟩
end Go.Proofs.YtpphkkelikdhkaaDoor
