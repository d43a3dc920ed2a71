/-
  emendref09's Named, Exported, quoted, Value AT EVERY TEXT of at most 1000000 bytes: what they return; no memory that was there turns. Condition: the text's length.
-/
import Derived.Test.YtfjdhnfghdnmoaaGreatDoorLRef
import Derived.Test.YtfjdhnfghdnmoaaGreatDoorStep2
namespace Go.Proofs.YtfjdhnfghdnmoaaGreatDoor
open Go.RowKit

theorem named_loop (s : ByteArray) (i : Nat) (h : i < s.size) : isW s[i] = (isLt s[i] || isD s[i]) := rfl
set_option maxRecDepth 100000 in
set_option maxHeartbeats 1000000 in
theorem rnamed_any (s : ByteArray) (hs : s.size ≤ 1000000) (w : World) : Calls Tryz.prog 18 #[.string s] w fun e w' => e = .returned (.bool (nameB s.data.toList)) ∧ Below w.heap.size w w' := by
  have hsz : s.data.toList.length = s.size := rfl
  have HL : Hid (∀ w, Calls Tryz.prog 40 #[.string s, .int .i64 0] w fun e w' => e = .returned (.bool (fst isLt (rest s 0))) ∧ w = w') := Lib.hid (fun w => rletter_any s 0 w)
  rw [rest_zero] at HL
  have HR := Lib.hid (fun w => rreserved_any s w)
  obtain ⟨R, hR⟩ : ∃ R, R = nameB s.data.toList := ⟨_, rfl⟩
  rw [← hR]
  unfold nameB nameF at hR
  rw [hsz] at hR
  have HRR := Lib.hid hR
  clear hR
  cases ha : fst isLt s.data.toList with
  | false =>
    have HV : Hid (R = false) := Lib.hid (by rw [HRR.out, ha]; rfl)
    rw [ha] at HL
    clear ha HRR hsz
    go_enter Tryz.func18, Tryz.ntmps18
    go_wp2_with fail
    refine (HL.out _).mono ?_
    rintro e w' ⟨rfl, rfl⟩
    go_wp2_with fail
    go_ret
    exact ⟨ret_bool HV.out.symm, Below.refl _ _⟩
  | true =>
    rw [ha] at HL
    by_cases h40 : 40 < s.size
    · have HV : Hid (R = false) := Lib.hid (by rw [HRR.out, if_pos h40]; simp)
      have d40 : decide (40 < (s.size : Int)) = true := by rw [decide_eq_true_eq]; omega
      clear ha HRR hsz
      go_enter Tryz.func18, Tryz.ntmps18
      go_wp2_with fail
      refine (HL.out _).mono ?_
      rintro e w' ⟨rfl, rfl⟩
      go_wp2_with fail
      go_ret
      exact ⟨ret_bool HV.out.symm, Below.refl _ _⟩
    · have d40 : decide (40 < (s.size : Int)) = false := by rw [decide_eq_false_iff_not]; omega
      by_cases h95 : s.data.toList = [95]
      · have q := tl_eq h95
        have HV : Hid (R = false) := Lib.hid (by rw [HRR.out, if_neg h40, if_pos h95]; simp)
        clear ha HRR hsz h95
        go_enter Tryz.func18, Tryz.ntmps18
        go_wp2_with fail
        refine (HL.out _).mono ?_
        rintro e w' ⟨rfl, rfl⟩
        go_wp2_with fail
        go_ret
        exact ⟨ret_bool HV.out.symm, Below.refl _ _⟩
      · have q := tl_no h95
        cases hc : isRes s.data.toList with
        | true =>
          have HV : Hid (R = false) := Lib.hid (by rw [HRR.out, hc]; simp)
          rw [hc] at HR
          clear ha HRR hsz h95 hc
          go_enter Tryz.func18, Tryz.ntmps18
          go_wp2_with fail
          refine (HL.out _).mono ?_
          rintro e w' ⟨rfl, rfl⟩
          go_wp2_with fail
          refine (HR.out _).mono ?_
          rintro e w' ⟨rfl, hb⟩
          have HB := Lib.hid hb
          clear hb
          go_wp2_with fail
          go_ret
          exact ⟨ret_bool HV.out.symm, HB.out⟩
        | false =>
          have HV : Hid (R = decide (run isW s.data.toList = s.size)) := Lib.hid (by rw [HRR.out, ha, hc, if_neg h40, if_neg h95]; simp)
          rw [hc] at HR
          have HLL := Lib.hid (fun (k : Nat) (w : World) => rletter_any s k w)
          have HDD := Lib.hid (fun (k : Nat) (w : World) => rdigit_any s k w)
          clear ha HRR hsz h95 hc
          go_enter Tryz.func18, Tryz.ntmps18
          go_wp2_with fail
          refine (HL.out _).mono ?_
          rintro e w' ⟨rfl, rfl⟩
          go_wp2_with fail
          refine (HR.out _).mono ?_
          rintro e w1 ⟨rfl, hb⟩
          have HB := Lib.hid hb
          clear hb
          go_wp2_with fail
          go_loop [3] (fun u => ∃ i : Nat, i ≤ s.size ∧ u = .int .i64 i ∧ Hid (i + run isW (rest s i) = run isW (rest s 0))) (fun u => s.size - (intOf u).toNat)
          case atStart => exact ⟨0, Nat.zero_le _, rfl, Lib.hid (by rw [Nat.zero_add])⟩
          case round =>
            obtain ⟨i, hi, rfl, hrel⟩ := hrel
            by_cases hlt : i < s.size
            · have H1 := Lib.hid (HLL.out i)
              have H2 := Lib.hid (HDD.out i)
              rw [fst_at _ s i hlt] at H1 H2
              have hw := fst_at isW s i hlt
              rw [named_loop s i hlt] at hw
              cases h1 : isLt s[i] with
              | true =>
                rw [h1] at H1 hw
                have HN : Hid (i + 1 + run isW (rest s (i + 1)) = run isW (rest s 0)) := Lib.hid (by rw [← hrel.out, run_yes isW _ hw, rest_drop]; omega)
                clear h1 hw hrel
                go_wp2_with fail
                refine (H1.out _).mono ?_
                rintro e w' ⟨rfl, rfl⟩
                go_wp2_with fail
                go_round
                case rel => exact ⟨i + 1, by omega, by go_num, HN⟩
                case measure => simp [intOf]; omega
              | false =>
                rw [h1] at H1 hw
                cases h2 : isD s[i] with
                | true =>
                  rw [h2] at H2 hw
                  have HN : Hid (i + 1 + run isW (rest s (i + 1)) = run isW (rest s 0)) := Lib.hid (by rw [← hrel.out, run_yes isW _ hw, rest_drop]; omega)
                  clear h1 h2 hw hrel
                  go_wp2_with fail
                  refine (H1.out _).mono ?_
                  rintro e w' ⟨rfl, rfl⟩
                  go_wp2_with fail
                  refine (H2.out _).mono ?_
                  rintro e w' ⟨rfl, rfl⟩
                  go_wp2_with fail
                  go_round
                  case rel => exact ⟨i + 1, by omega, by go_num, HN⟩
                  case measure => simp [intOf]; omega
                | false =>
                  rw [h2] at H2 hw
                  have HN : Hid (R = false) := Lib.hid (by
                    have := hrel.out
                    rw [run_no isW _ hw, rest_zero] at this
                    rw [HV.out, ← this]; simp; omega)
                  clear h1 h2 hw hrel
                  go_wp2_with fail
                  refine (H1.out _).mono ?_
                  rintro e w' ⟨rfl, rfl⟩
                  go_wp2_with fail
                  refine (H2.out _).mono ?_
                  rintro e w' ⟨rfl, rfl⟩
                  go_wp2_with fail
                  go_ret
                  exact ⟨ret_bool HN.out.symm, HB.out⟩
            · have HN : Hid (R = true) := Lib.hid (by
                have := hrel.out
                rw [rest_end s i hlt, rest_zero] at this
                have e : run isW [] = 0 := rfl
                rw [HV.out, ← this, e]; simp; omega)
              clear hrel
              go_wp2_with fail
              go_ret
              exact ⟨ret_bool HN.out.symm, HB.out⟩
set_option maxHeartbeats 1000000 in
theorem rexported_any (s : ByteArray) (hs : s.size ≤ 1000000) (w : World) : Calls Tryz.prog 20 #[.string s] w fun e w' => e = .returned (.bool (expB s.data.toList)) ∧ Below w.heap.size w w' := by
  have HN := Lib.hid (fun w => rnamed_any s hs w)
  unfold expB
  cases hn : nameB s.data.toList with
  | false =>
    rw [hn] at HN
    rw [Bool.false_and]
    clear hn
    go_enter Tryz.func20, Tryz.ntmps20
    go_wp2_with fail
    refine (HN.out _).mono ?_
    rintro e w' ⟨rfl, hb⟩
    have HB := Lib.hid hb
    clear hb
    go_wp2_with fail
    go_ret
    exact ⟨rfl, HB.out⟩
  | true =>
    rw [hn] at HN
    have h0 := name_ne hn
    have hf := fst_at (fun c => decide (65 ≤ c.toNat) && decide (c.toNat ≤ 90)) s 0 h0
    rw [rest_zero] at hf
    rw [hf, Bool.true_and]
    obtain ⟨x, hx⟩ : ∃ x, s[0].toNat = x := ⟨_, rfl⟩
    simp only [hx]
    have e1 : decide (65 ≤ x) = decide (65 ≤ (x : Int)) := by rw [decide_eq_decide]; omega
    have e2 : decide (x ≤ 90) = decide ((x : Int) ≤ 90) := by rw [decide_eq_decide]; omega
    rw [e1, e2]
    clear hn hf e1 e2
    cases d1 : decide (65 ≤ (x : Int)) <;> cases d2 : decide ((x : Int) ≤ 90)
    all_goals
      go_enter Tryz.func20, Tryz.ntmps20
      go_wp2_with fail
      refine (HN.out _).mono ?_
      rintro e w' ⟨rfl, hb⟩
      have HB := Lib.hid hb
      clear hb
      go_wp2_with fail
      go_ret
      exact ⟨rfl, HB.out⟩
end Go.Proofs.YtfjdhnfghdnmoaaGreatDoor
