/-
  THE DOCUMENT's WHOLE NUMBER OF A FLOAT (emendref01.ToInt): at every word it answers `toIntV`; nothing in memory turns. No condition but the word's bound.
-/
import Derived.Test.YtlinoncoanpcdaaGreatDoorToInt
import Derived.Test.YtlinoncoanpcdaaGreatDoorRefToFloat
namespace Go.Proofs.YtlinoncoanpcdaaGreatDoor
open Go.RowKit
theorem ret_sig {a b c d : Int} (h1 : a = b) (h2 : c = d) : Ending.returned (.tuple #[.int .u64 a, .int .i64 c]) = .returned (.tuple #[.int .u64 b, .int .i64 d]) := by rw [h1, h2]
theorem refInf_any (f : Nat) (w : World) : Calls Tryz.prog 70 #[.int .u64 (f : Int)] w fun e w' => e = .returned (.bool (decide (f % 9223372036854775808 = 9218868437227405312))) ∧ w = w' := by
  go_enter Tryz.func70, Tryz.ntmps70
  go_wp2
  go_ret
  refine ⟨ret_bool ?_, rfl⟩
  rw [Bool.eq_iff_iff, beq_iff_eq, decide_eq_true_iff]
  omega
theorem refNeg_any (f : Nat) (_hf : f < 18446744073709551616) (w : World) : Calls Tryz.prog 71 #[.int .u64 (f : Int)] w fun e w' => e = .returned (.bool (f / 9223372036854775808 % 2 == 1)) ∧ w = w' := by
  go_enter Tryz.func71, Tryz.ntmps71
  go_wp2
  go_ret
  refine ⟨ret_bool ?_, rfl⟩
  rw [Bool.eq_iff_iff, beq_iff_eq, decide_eq_true_iff]
  omega
theorem split_any (f : Nat) (w : World) : Calls Tryz.prog 74 #[.int .u64 (f : Int)] w fun e w' => e = .returned (.tuple #[.int .u64 (sigM (f % 9223372036854775808) : Int), .int .i64 (sigE (f % 9223372036854775808))]) ∧ w = w' := by
  unfold sigM sigE
  by_cases h : f % 9223372036854775808 < 4503599627370496
  · rw [if_pos h, if_pos h]
    have h1 : ((f : Int) % 9223372036854775808 / 4503599627370496 == 0) = true := by rw [beq_iff_eq]; omega
    go_enter Tryz.func74, Tryz.ntmps74
    go_wp2_with fail
    go_ret2
    refine ⟨ret_sig ?_ rfl, rfl⟩
    omega
  · rw [if_neg h, if_neg h]
    have h1 : ((f : Int) % 9223372036854775808 / 4503599627370496 == 0) = false := by rw [beq_eq_false_iff_ne, ne_eq]; omega
    go_enter Tryz.func74, Tryz.ntmps74
    go_wp2_with fail
    go_ret2
    refine ⟨ret_sig ?_ ?_, rfl⟩
    · omega
    · omega
theorem sigE_le (r : Nat) (h : r < 9223372036854775808) : -1074 ≤ sigE r ∧ sigE r ≤ 972 := by unfold sigE; split <;> omega
theorem mag_up {r : Nat} (h : 0 ≤ sigE r) : mag r = sigM r * 2 ^ (sigE r).toNat := by unfold mag; rw [show (-sigE r).toNat = 0 from by omega]; simp
theorem mag_down {r : Nat} (h : sigE r < 0) : mag r = sigM r / 2 ^ (-sigE r).toNat := by unfold mag; rw [show (sigE r).toNat = 0 from by omega]; simp
theorem mag_none {r : Nat} (h : sigE r ≤ -64) : mag r = 0 := by
  rw [mag_down (by omega)]
  have h1 := sigM_lt r
  have h2 : 2 ^ 53 ≤ 2 ^ (-sigE r).toNat := Nat.pow_le_pow_right (by decide) (by omega)
  exact Nat.div_eq_of_lt (by omega)
theorem mag_high {r : Nat} (h : 4890909195324358656 ≤ r) (h1 : sigE r ≤ 11) : 9223372036854775808 ≤ mag r ∧ mag r < 18446744073709551616 := by
  have h2 : sigE r = 11 := by unfold sigE at h1 ⊢; split <;> split at h1 <;> omega
  have h3 : 4503599627370496 ≤ sigM r := by unfold sigM; split <;> omega
  have h4 := sigM_lt r
  rw [mag_up (by omega), h2, show (11 : Int).toNat = 11 from rfl]
  omega
theorem sigE_high {r : Nat} (h : 11 < sigE r) : 4890909195324358656 ≤ r := by unfold sigE at h; split at h <;> omega
theorem mag_lt {r : Nat} (h1 : sigE r ≤ 11) : mag r < 18446744073709551616 := by
  rcases Nat.lt_or_ge r 4890909195324358656 with h | h
  · have := mag_low r h; omega
  · exact (mag_high h h1).2
set_option maxRecDepth 100000 in
set_option maxHeartbeats 2000000 in
theorem refToInt_any (f : Nat) (hf : f < 18446744073709551616) (w : World) : Calls Tryz.prog 48 #[.int .u64 (f : Int)] w fun e w' => e = .returned (.int .i64 (toIntV f)) ∧ w = w' := by
  have HN := Lib.hid (refNan_any f w)
  have HI := Lib.hid (refInf_any f w)
  have HG := Lib.hid (refNeg_any f hf w)
  have HS := Lib.hid (split_any f w)
  go_enter Tryz.func48, Tryz.ntmps48
  go_wp2_with fail
  refine HN.out.mono ?_
  rintro e w' ⟨rfl, rfl⟩
  cases hn : nanB f
  · go_wp2_with fail
    refine HS.out.mono ?_
    rintro e w' ⟨rfl, rfl⟩
    have hr : f % 9223372036854775808 ≤ 9218868437227405312 := by
      rw [nanB_eq] at hn
      simpa using hn
    have hv : toIntV f = if f % 9223372036854775808 < 4890909195324358656 then sgn (f / 9223372036854775808 % 2 == 1) (mag (f % 9223372036854775808)) else if f / 9223372036854775808 % 2 == 1 then -9223372036854775808 else 9223372036854775807 := by
      unfold toIntV; rw [hn]; rfl
    have HV := Lib.hid hv
    clear hv HN HS hn
    generalize hR : f % 9223372036854775808 = r at *
    obtain ⟨E0, E1⟩ := sigE_le r (by omega)
    have HM := Lib.hid (sigM_lt r)
    generalize hE : sigE r = E at *
    generalize hs : (f / 9223372036854775808 % 2 == 1) = s at *
    have HRR := Lib.hid hR
    have HEE := Lib.hid hE
    have HSS := Lib.hid hs
    clear hR hE hs
    by_cases h11 : 11 < E
    · have HB := Lib.hid (sigE_high (r := r) (by rw [HEE.out]; exact h11))
      go_wp2_with fail
      refine HG.out.mono ?_
      rintro e w' ⟨rfl, rfl⟩
      cases s
      · go_wp2_with fail
        go_ret
        exact ⟨by rw [HV.out, if_neg (Nat.not_lt.2 HB.out)]; rfl, rfl⟩
      · go_wp2_with fail
        go_ret
        exact ⟨by rw [HV.out, if_neg (Nat.not_lt.2 HB.out)]; rfl, rfl⟩
    · have hinf : decide (r = 9218868437227405312) = false := by
        rw [decide_eq_false_iff_not]
        intro h
        have := HEE.out
        rw [h, show sigE 9218868437227405312 = 972 from by decide] at this
        omega
      rw [hinf] at HI
      go_wp2_with fail
      refine HI.out.mono ?_
      rintro e w' ⟨rfl, rfl⟩
      clear HI hinf
      by_cases h0 : 0 ≤ E
      · go_wp2_with fail
        refine HG.out.mono ?_
        rintro e w' ⟨rfl, rfl⟩
        obtain ⟨U, eU⟩ : ∃ U : Int, U = IntKind.u64.wrap ((sigM r : Int) * 2 ^ E.toNat) := ⟨_, rfl⟩
        rw [← eU]
        have hU : U = (mag r : Int) := by
          have h1 := mag_lt (r := r) (by rw [HEE.out]; exact h11)
          have h2 : (mag r : Int) = (sigM r : Int) * 2 ^ E.toNat := by rw [mag_up (by rw [HEE.out]; exact h0), HEE.out, Int.natCast_mul, Int.natCast_pow]; rfl
          rw [eU, ← h2]
          exact u64_in (Int.natCast_nonneg _) (by omega)
        clear eU
        have U0 : 0 ≤ U := by rw [hU]; exact Int.natCast_nonneg _
        have U1 : U < 18446744073709551616 := by have := mag_lt (r := r) (by rw [HEE.out]; exact h11); omega
        by_cases hb : 9223372036854775808 ≤ U
        · have HT : Hid (¬ r < 4890909195324358656) := Lib.hid (fun h => by have := mag_low r h; omega)
          clear hU
          cases s
          · go_wp2_with fail
            go_ret
            exact ⟨by rw [HV.out, if_neg HT.out]; rfl, rfl⟩
          · go_wp2_with fail
            go_ret
            exact ⟨by rw [HV.out, if_neg HT.out]; rfl, rfl⟩
        · have HT : Hid (r < 4890909195324358656) := Lib.hid (by
            rcases Nat.lt_or_ge r 4890909195324358656 with h | h
            · exact h
            · have := (mag_high h (by rw [HEE.out]; exact h11)).1; omega)
          have HU := Lib.hid hU
          clear hU
          cases s
          · go_wp2_with fail
            go_ret
            exact ⟨by rw [HV.out, if_pos HT.out, HU.out]; rfl, rfl⟩
          · go_wp2_with fail
            go_ret
            exact ⟨by rw [HV.out, if_pos HT.out, HU.out]; rfl, rfl⟩
      · by_cases h64 : -64 < E
        · go_wp2_with fail
          refine HG.out.mono ?_
          rintro e w' ⟨rfl, rfl⟩
          obtain ⟨U, eU⟩ : ∃ U : Int, U = (sigM r : Int) / 2 ^ (-E).toNat := ⟨_, rfl⟩
          rw [← eU]
          have hU : U = (mag r : Int) := by
            rw [eU, mag_down (by rw [HEE.out]; omega), HEE.out, Int.natCast_ediv, Int.natCast_pow]; rfl
          clear eU
          have U0 : 0 ≤ U := by rw [hU]; exact Int.natCast_nonneg _
          have U1 : U < 18446744073709551616 := by have := mag_lt (r := r) (by rw [HEE.out]; exact h11); omega
          by_cases hb : 9223372036854775808 ≤ U
          · have HT : Hid (¬ r < 4890909195324358656) := Lib.hid (fun h => by have := mag_low r h; omega)
            clear hU
            cases s
            · go_wp2_with fail
              go_ret
              exact ⟨by rw [HV.out, if_neg HT.out]; rfl, rfl⟩
            · go_wp2_with fail
              go_ret
              exact ⟨by rw [HV.out, if_neg HT.out]; rfl, rfl⟩
          · have HT : Hid (r < 4890909195324358656) := Lib.hid (by
              rcases Nat.lt_or_ge r 4890909195324358656 with h | h
              · exact h
              · have := (mag_high h (by rw [HEE.out]; exact h11)).1; omega)
            have HU := Lib.hid hU
            clear hU
            cases s
            · go_wp2_with fail
              go_ret
              exact ⟨by rw [HV.out, if_pos HT.out, HU.out]; rfl, rfl⟩
            · go_wp2_with fail
              go_ret
              exact ⟨by rw [HV.out, if_pos HT.out, HU.out]; rfl, rfl⟩
        · have HZ := Lib.hid (mag_none (r := r) (by rw [HEE.out]; omega))
          have HT : Hid (r < 4890909195324358656) := Lib.hid (by
            rcases Nat.lt_or_ge r 4890909195324358656 with h | h
            · exact h
            · have := (mag_high h (by rw [HEE.out]; exact h11)).1; have := HZ.out; omega)
          go_wp2_with fail
          refine HG.out.mono ?_
          rintro e w' ⟨rfl, rfl⟩
          cases s
          · go_wp2_with fail
            go_ret
            exact ⟨by rw [HV.out, if_pos HT.out, HZ.out]; rfl, rfl⟩
          · go_wp2_with fail
            go_ret
            exact ⟨by rw [HV.out, if_pos HT.out, HZ.out]; rfl, rfl⟩
  · go_wp2_with fail
    go_ret
    exact ⟨by unfold toIntV; rw [hn]; rfl, rfl⟩
end Go.Proofs.YtlinoncoanpcdaaGreatDoor
