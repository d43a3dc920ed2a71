/-
  THE DOCUMENT's ROUNDING (emendref01.Round), where the first place tried is not below the least one. Condition: both slices read as digits below 65536 without a nought at their end, both numbers above 0.
-/
import Derived.Test.YtlinoncoanpcdaaGreatDoorRefRoundWays
namespace Go.Proofs.YtlinoncoanpcdaaGreatDoor
open Go.RowKit
set_option maxRecDepth 100000 in
set_option maxHeartbeats 8000000 in
theorem round_hi (neg : Bool) (A C : Option Addr) (ca cc : Nat) (xs ys : List Nat) (ha : xs.length ≤ 300) (hb : ys.length ≤ 300) (w : World) (hA : RD w w.heap.size A xs) (hC : RD w w.heap.size C ys) (hx : Norm xs) (hy : Norm ys) (hP : 0 < val xs) (hQ : 0 < val ys)
    (hE : ¬ ((bitsV (val xs) : Int) - (bitsV (val ys) : Int) - 54 < -1074)) (hbp : bitsV (val xs) ≤ 4800) (hbq : bitsV (val ys) ≤ 4800) :
    Calls Tryz.prog 61 #[.bool neg, .slice A xs.length ca, .slice C ys.length cc] w (RoundEnd neg (val xs) (val ys) w) := by
  have HA := Lib.hid hA
  have HC := Lib.hid hC
  have HX := Lib.hid hx
  have HY := Lib.hid hy
  have HP := Lib.hid hP
  have HQ := Lib.hid hQ
  have HB1 := Lib.hid (fun w' h => bits_any A ca w.heap.size xs (by omega) w' h hx.1)
  have HB2 := Lib.hid (fun w' h => bits_any C cc w.heap.size ys (by omega) w' h hy.1)
  clear hA hC hx hy hP hQ
  go_enter Tryz.func61, Tryz.ntmps61
  go_wp2_with fail
  refine (HB1.out _ HA.out).mono ?_
  rintro e w' ⟨rfl, rfl⟩
  go_wp2_with fail
  refine (HB2.out _ HC.out).mono ?_
  rintro e w' ⟨rfl, rfl⟩
  clear HB1 HB2
  go_wp2_with fail
  go_loopw [7] (fun ev wr => ∃ E : Int, -1074 ≤ E ∧ E ≤ 4800 ∧ ev = .int .i64 E ∧ Hid (OnE (val xs) (val ys) E ∧ Below w.heap.size w wr)) (fun ev _ => (5000 - RowKit.intOf ev).toNat)
  case atStart =>
    exact ⟨_, by omega, by omega, rfl, Lib.hid ⟨OnE.start _ _ _ HP.out HQ.out (by omega), Below.refl _ _⟩⟩
  case round =>
    obtain ⟨E, hE0, hE1, rfl, HE⟩ := hrel
    have HS := Lib.hid (scaled_any A C ca cc xs ys (-E - 53) (by omega) (by omega) ha hb wr (HA.out.keep HE.out.2) (HC.out.keep HE.out.2) HX.out HY.out)
    go_wp2_with fail
    refine HS.out.mono ?_
    rintro e w1 ⟨A1, c1, l1, A2, c2, l2, rfl, hr1, hr2, hn1, hn2, hv1, hv2, hl1, hl2, hb1⟩
    have HM := Lib.hid (cmp_any A1 A2 c1 c2 _ l1 l2 (by omega) (by omega) w1 hr1 hr2 hn1 hn2)
    have HV1 := Lib.hid hv1
    have HV2 := Lib.hid hv2
    have HW1 := Lib.hid (HE.out.2.trans (hb1.mono HE.out.2.size))
    clear hr1 hr2 hn1 hn2 hv1 hv2 hl1 hl2 hb1 HS
    go_wp2_with fail
    refine HM.out.mono ?_
    rintro e w2 ⟨rfl, q, rfl⟩
    clear HM
    by_cases hlt : val l1 < val l2
    · have hcv : cmpV (val l1) (val l2) = -1 := by unfold cmpV; rw [if_pos hlt]
      rw [hcv]
      have hbel : Below1 (val xs) (val ys) (-E - 53) := by unfold Below1; rw [← HV1.out, ← HV2.out]; exact hlt
      have HIS : Hid (IsE (val xs) (val ys) E) := Lib.hid ⟨HE.out.1.1, hbel, HE.out.1.2⟩
      have HBD := Lib.hid (below_digits hbel)
      have HW2 : Hid (Below w.heap.size w (w1.drewN q)) := Lib.hid (below_drewN HW1.out q)
      have HS := Lib.hid (scaled_any A C ca cc xs ys (-E) (by omega) (by omega) ha hb (w1.drewN q) (HA.out.keep HW2.out) (HC.out.keep HW2.out) HX.out HY.out)
      clear hcv hbel hlt HV1 HV2 HE HW1
      go_wp2_with fail
      refine HS.out.mono ?_
      rintro e w3 ⟨A3, c3, l3, A4, c4, l4, rfl, hr3, hr4, hn3, hn4, hv3, hv4, hl3, hl4, hb3⟩
      rw [← hv3, ← hv4] at HBD
      have HB4 : Hid (0 < val l4) := Lib.hid (by rw [hv4]; exact Nat.mul_pos HQ.out (Nat.two_pow_pos _))
      have HV3 := Lib.hid hv3
      have HV4 := Lib.hid hv4
      have HR3 := Lib.hid hr3
      have HR4 := Lib.hid hr4
      have HN3 := Lib.hid hn3
      have HN4 := Lib.hid hn4
      have HW3 := Lib.hid (HW2.out.trans (hb3.mono HW2.out.size))
      clear hr3 hr4 hn3 hn4 hv3 hv4 hb3 HS HW2
      go_wp2_with fail
      go_loopw [12, 13] (fun mv iv wr => ∃ n m : Nat, n ≤ 53 ∧ m ≤ 9007199254740992 ∧ mv = .int .u64 (m : Int) ∧ iv = .int .i64 ((n : Int) - 1) ∧ Hid (Digits (val l3) (val l4) m n ∧ Below w3.heap.size w3 wr)) (fun _ iv _ => (RowKit.intOf iv + 1).toNat)
      case atStart => exact ⟨53, 0, by omega, by omega, rfl, rfl, Lib.hid ⟨Digits.start _ _ HBD.out, Below.refl _ _⟩⟩
      case round =>
        obtain ⟨n, m, hn, hm, rfl, rfl, HD⟩ := hrel
        cases n with
        | succ i =>
          have hpw : m + 2 ^ i ≤ 9007199254740992 := by
            have := HD.out.1.2.1
            have h2 := Nat.two_pow_pos i
            rw [Nat.pow_succ] at this
            omega
          have ei : ((i + 1 : Nat) : Int) - 1 = (i : Int) := by omega
          rw [ei]
          have hsh : IntKind.u64.wrap ((m : Int) + IntKind.u64.wrap (2 ^ i)) = ((m + 2 ^ i : Nat) : Int) := by
            have e2 : (2 : Int) ^ i = ((2 ^ i : Nat) : Int) := by rw [Int.natCast_pow]; rfl
            rw [e2]
            have h2 := Nat.two_pow_pos i
            rw [u64_in (n := ((2 ^ i : Nat) : Int)) (Int.natCast_nonneg _) (by generalize 2 ^ i = z at *; omega), Int.natCast_add, u64_in (by generalize 2 ^ i = z at *; omega) (by generalize 2 ^ i = z at *; omega)]
          have HPW := Lib.hid hpw
          have HSH := Lib.hid hsh
          have HO := Lib.hid (of_num (m + 2 ^ i) (by omega) wr)
          clear ei hpw hsh
          go_wp2_with fail
          rw [HSH.out]
          refine HO.out.mono ?_
          rintro e w4 ⟨A5, c5, l5, rfl, hr5, hn5, hv5, hl5, hc5, hb5⟩
          have HW4 := Lib.hid (HD.out.2.trans (hb5.mono HD.out.2.size))
          have hT := times_num A5 A4 c5 c4 l5 l4 (by omega) (by omega) w4 hr5 (HR4.out.keep HW4.out) hn5.1 HN4.out.1
          rw [hv5] at hT
          have HT := Lib.hid hT
          clear hT hr5 hn5 hv5 hc5 hb5 HO
          go_wp2_with fail
          refine HT.out.mono ?_
          rintro e w5 ⟨A6, c6, l6, rfl, hr6, hn6, hv6, hl6, hc6, hb6⟩
          have HW5 := Lib.hid (HW4.out.trans (hb6.mono HW4.out.size))
          have HM := Lib.hid (cmp_any A6 A3 c6 c3 _ l6 l3 (by omega) (by omega) w5 hr6 (HR3.out.keep HW5.out) hn6 HN3.out)
          have HV6 := Lib.hid hv6
          clear hr6 hn6 hv6 hl6 hc6 hb6 HT hl5
          go_wp2_with fail
          refine HM.out.mono ?_
          rintro e w6 ⟨rfl, q6, rfl⟩
          clear HM
          have HW6 := Lib.hid (below_drewN HW5.out q6)
          by_cases hle : (m + 2 ^ i) * val l4 ≤ val l3
          · have hcv : cmpV (val l6) (val l3) ≤ 0 := by
              rw [HV6.out]; unfold cmpV
              split
              · omega
              · rw [if_neg (by omega)]; omega
            generalize cmpV (val l6) (val l3) = CV at hcv ⊢
            have HD2 := Lib.hid (HD.out.1.more hle)
            clear hle
            go_wp2_with fail
            refine ⟨⟨i, m + 2 ^ i, by omega, HPW.out, rfl, rfl, Lib.hid ⟨HD2.out, HW6.out⟩⟩, ?_⟩
            simp [RowKit.intOf]
          · have hcv : 0 < cmpV (val l6) (val l3) := by
              rw [HV6.out]; unfold cmpV
              rw [if_neg (by omega), if_pos (by omega)]; omega
            generalize cmpV (val l6) (val l3) = CV at hcv ⊢
            have HD2 := Lib.hid (HD.out.1.less hle)
            clear hle
            go_wp2_with fail
            refine ⟨⟨i, m, by omega, hm, rfl, rfl, Lib.hid ⟨HD2.out, HW6.out⟩⟩, ?_⟩
            simp [RowKit.intOf]
        | zero =>
          have HO := Lib.hid (of_num m (by omega) wr)
          have HMD := Lib.hid (HD.out.1.done HB4.out)
          go_wp2_with fail
          refine HO.out.mono ?_
          rintro e w4 ⟨A5, c5, l5, rfl, hr5, hn5, hv5, hl5, hc5, hb5⟩
          have HW4 := Lib.hid (HD.out.2.trans (hb5.mono HD.out.2.size))
          have hT := times_num A5 A4 c5 c4 l5 l4 (by omega) (by omega) w4 hr5 (HR4.out.keep HW4.out) hn5.1 HN4.out.1
          rw [hv5] at hT
          have HT := Lib.hid hT
          clear hT hr5 hn5 hv5 hc5 hb5 HO
          go_wp2_with fail
          refine HT.out.mono ?_
          rintro e w5 ⟨A6, c6, l6, rfl, hr6, hn6, hv6, hl6, hc6, hb6⟩
          have HW5 := Lib.hid (HW4.out.trans (hb6.mono HW4.out.size))
          have hle : val l6 ≤ val l3 := by rw [hv6]; exact HD.out.1.2.2.1
          have hlen : l6.length ≤ l3.length := by
            rcases Nat.lt_or_ge l3.length l6.length with h | h
            · have := cmp_short l3 l6 HN3.out hn6 h
              omega
            · exact h
          have hL := less_any A3 A6 c3 c6 l3 l6 (by omega) hlen w5 (HR3.out.keep HW5.out) hr6 HN3.out.1 hn6.1 hle
          rw [hv6] at hL
          have HL := Lib.hid hL
          clear hL hr6 hn6 hv6 hl6 hc6 hb6 HT hl5 hle hlen
          go_wp2_with fail
          refine HL.out.mono ?_
          rintro e w6 ⟨A7, c7, l7, rfl, hr7, hn7, hv7, hl7, hc7, hb7⟩
          have HW6 := Lib.hid (HW5.out.trans (hb7.mono HW5.out.size))
          have hU := up_any A7 c7 l7 1 (by omega) (by omega) w6 hr7 hn7.1
          rw [hv7] at hU
          have HU := Lib.hid hU
          clear hU hr7 hn7 hv7 hc7 hb7 HL
          go_wp2_with fail
          refine HU.out.mono ?_
          rintro e w7 ⟨A8, c8, l8, rfl, hr8, hn8, hv8, hl8, hc8, hb8⟩
          have HW7 := Lib.hid (HW6.out.trans (hb8.mono HW6.out.size))
          have HM := Lib.hid (cmp_any A8 A4 c8 c4 _ l8 l4 (by omega) (by omega) w7 hr8 (HR4.out.keep HW7.out) hn8 HN4.out)
          have HV8 := Lib.hid hv8
          clear hr8 hn8 hv8 hl8 hc8 hb8 HU hl7
          go_wp2_with fail
          refine HM.out.mono ?_
          rintro e w8 ⟨rfl, q8, rfl⟩
          clear HM
          have HW8 : Hid (Below w.heap.size w (w7.drewN q8)) := Lib.hid (HW3.out.trans ((below_drewN HW7.out q8).mono HW3.out.size))
          rw [HV8.out]
          obtain ⟨CV, eCV⟩ : ∃ CV, CV = cmpV ((val l3 - m * val l4) * 2 ^ 1) (val l4) := ⟨_, rfl⟩
          rw [← eCV]
          have hbig := HIS.out.big HQ.out (m := m) (by rw [← HV3.out, ← HV4.out]; exact HMD.out.1)
          have hm53 := HMD.out.2
          have hfr : frung (val xs) (val ys) E = min ((E + 1074).toNat * 4503599627370496 + rnd (val l3) (val l4)) 9218868437227405312 := by
            unfold frung
            rw [HV3.out, HV4.out, show (- -E).toNat = E.toNat from by omega]
          have hcases : (∃ M : Nat, M = m + 1 ∧ rnd (val l3) (val l4) = M ∧ (0 < CV ∨ (CV = 0 ∧ (m : Int) % 2 = 1))) ∨ (rnd (val l3) (val l4) = m ∧ ¬ 0 < CV ∧ ¬ (CV = 0 ∧ (m : Int) % 2 = 1)) := by
            by_cases h : 0 < CV ∨ (CV = 0 ∧ (m : Int) % 2 = 1)
            · exact .inl ⟨_, rfl, rnd_up HMD.out.1 eCV h, h⟩
            · exact .inr ⟨rnd_stay HMD.out.1 eCV (fun h1 => h (.inl h1)) (fun h1 => h (.inr h1)), fun h1 => h (.inl h1), fun h1 => h (.inr h1)⟩
          have HFR := Lib.hid hfr
          clear hfr eCV HV8 HW7 HW6 HW5 HW4 HD HMD hn
          obtain ⟨X, eX⟩ : ∃ X : Int, X = (m : Int) := ⟨_, rfl⟩
          rw [← eX] at hcases ⊢
          have X0 : 0 ≤ X := by omega
          have X1 : X < 9007199254740992 := by omega
          have X2 : E = -1074 ∨ 4503599627370496 ≤ X := by omega
          have EX := Lib.hid eX
          clear eX hbig hm53 hm
          rcases hcases with ⟨M, eM, hrn, hc⟩ | ⟨hrn, hc0, hc1⟩
          · have HY : Hid (((rnd (val l3) (val l4) : Nat) : Int) = X + 1) := Lib.hid (by rw [hrn, eM, EX.out]; rfl)
            clear hrn eM EX
            rcases hc with hc | ⟨hc, hc2⟩
            · skip
              by_cases hM : (X + 1) = 9007199254740992
              · by_cases h9 : 971 < E + 1
                · have HFI := Lib.hid (fin_top HFR.out HY.out (.inr ⟨hM, by omega⟩))
                  cases neg
                  all_goals
                    go_wp2_with fail
                    all_goals
                      go_ret
                      refine ⟨E, HIS.out, ret_u64 ?_, HW8.out⟩
                      rw [HFI.out]
                      (try simp only [Bool.false_eq_true, if_false, if_true]) <;> omega
                · have HFI := Lib.hid (fin_in HFR.out HY.out hE0 (.inr ⟨hM, by omega⟩))
                  cases neg
                  all_goals
                    go_wp2_with fail
                    all_goals
                      go_ret
                      refine ⟨E, HIS.out, ret_u64 ?_, HW8.out⟩
                      rw [HFI.out]
                      (try simp only [Bool.false_eq_true, if_false, if_true]) <;> omega
              · by_cases h5 : 4503599627370496 ≤ (X + 1)
                · by_cases h9 : 971 < E
                  · have HFI := Lib.hid (fin_top HFR.out HY.out (.inl ⟨h9, h5⟩))
                    cases neg
                    all_goals
                      go_wp2_with fail
                      all_goals
                        go_ret
                        refine ⟨E, HIS.out, ret_u64 ?_, HW8.out⟩
                        rw [HFI.out]
                        (try simp only [Bool.false_eq_true, if_false, if_true]) <;> omega
                  · have HFI := Lib.hid (fin_in HFR.out HY.out hE0 (.inl ⟨by omega, by omega⟩))
                    cases neg
                    all_goals
                      go_wp2_with fail
                      all_goals
                        go_ret
                        refine ⟨E, HIS.out, ret_u64 ?_, HW8.out⟩
                        rw [HFI.out]
                        (try simp only [Bool.false_eq_true, if_false, if_true]) <;> omega
                · have hE4 : E = -1074 := by omega
                  have HFI := Lib.hid (fin_in HFR.out HY.out hE0 (.inl ⟨by omega, by omega⟩))
                  cases neg
                  all_goals
                    go_wp2_with fail
                    all_goals
                      go_ret
                      refine ⟨E, HIS.out, ret_u64 ?_, HW8.out⟩
                      rw [HFI.out]
                      (try simp only [Bool.false_eq_true, if_false, if_true]) <;> omega
            · subst hc
              have hc3 : (X % 2 == 1) = true := by simp only [beq_iff_eq]; exact hc2
              by_cases hM : (X + 1) = 9007199254740992
              · by_cases h9 : 971 < E + 1
                · have HFI := Lib.hid (fin_top HFR.out HY.out (.inr ⟨hM, by omega⟩))
                  cases neg
                  all_goals
                    go_wp2_with fail
                    all_goals
                      go_ret
                      refine ⟨E, HIS.out, ret_u64 ?_, HW8.out⟩
                      rw [HFI.out]
                      (try simp only [Bool.false_eq_true, if_false, if_true]) <;> omega
                · have HFI := Lib.hid (fin_in HFR.out HY.out hE0 (.inr ⟨hM, by omega⟩))
                  cases neg
                  all_goals
                    go_wp2_with fail
                    all_goals
                      go_ret
                      refine ⟨E, HIS.out, ret_u64 ?_, HW8.out⟩
                      rw [HFI.out]
                      (try simp only [Bool.false_eq_true, if_false, if_true]) <;> omega
              · by_cases h5 : 4503599627370496 ≤ (X + 1)
                · by_cases h9 : 971 < E
                  · have HFI := Lib.hid (fin_top HFR.out HY.out (.inl ⟨h9, h5⟩))
                    cases neg
                    all_goals
                      go_wp2_with fail
                      all_goals
                        go_ret
                        refine ⟨E, HIS.out, ret_u64 ?_, HW8.out⟩
                        rw [HFI.out]
                        (try simp only [Bool.false_eq_true, if_false, if_true]) <;> omega
                  · have HFI := Lib.hid (fin_in HFR.out HY.out hE0 (.inl ⟨by omega, by omega⟩))
                    cases neg
                    all_goals
                      go_wp2_with fail
                      all_goals
                        go_ret
                        refine ⟨E, HIS.out, ret_u64 ?_, HW8.out⟩
                        rw [HFI.out]
                        (try simp only [Bool.false_eq_true, if_false, if_true]) <;> omega
                · have hE4 : E = -1074 := by omega
                  have HFI := Lib.hid (fin_in HFR.out HY.out hE0 (.inl ⟨by omega, by omega⟩))
                  cases neg
                  all_goals
                    go_wp2_with fail
                    all_goals
                      go_ret
                      refine ⟨E, HIS.out, ret_u64 ?_, HW8.out⟩
                      rw [HFI.out]
                      (try simp only [Bool.false_eq_true, if_false, if_true]) <;> omega
          · have HY : Hid (((rnd (val l3) (val l4) : Nat) : Int) = X) := Lib.hid (by rw [hrn, EX.out])
            clear hrn EX
            by_cases hz : CV = 0
            · subst hz
              have hc3 : (X % 2 == 1) = false := by simp only [beq_eq_false_iff_ne, ne_eq]; exact fun h => hc1 ⟨rfl, h⟩
              clear hc0 hc1
              by_cases hM : X = 9007199254740992
              · by_cases h9 : 971 < E + 1
                · have HFI := Lib.hid (fin_top HFR.out HY.out (.inr ⟨hM, by omega⟩))
                  cases neg
                  all_goals
                    go_wp2_with fail
                    all_goals
                      go_ret
                      refine ⟨E, HIS.out, ret_u64 ?_, HW8.out⟩
                      rw [HFI.out]
                      (try simp only [Bool.false_eq_true, if_false, if_true]) <;> omega
                · have HFI := Lib.hid (fin_in HFR.out HY.out hE0 (.inr ⟨hM, by omega⟩))
                  cases neg
                  all_goals
                    go_wp2_with fail
                    all_goals
                      go_ret
                      refine ⟨E, HIS.out, ret_u64 ?_, HW8.out⟩
                      rw [HFI.out]
                      (try simp only [Bool.false_eq_true, if_false, if_true]) <;> omega
              · by_cases h5 : 4503599627370496 ≤ X
                · by_cases h9 : 971 < E
                  · have HFI := Lib.hid (fin_top HFR.out HY.out (.inl ⟨h9, h5⟩))
                    cases neg
                    all_goals
                      go_wp2_with fail
                      all_goals
                        go_ret
                        refine ⟨E, HIS.out, ret_u64 ?_, HW8.out⟩
                        rw [HFI.out]
                        (try simp only [Bool.false_eq_true, if_false, if_true]) <;> omega
                  · have HFI := Lib.hid (fin_in HFR.out HY.out hE0 (.inl ⟨by omega, by omega⟩))
                    cases neg
                    all_goals
                      go_wp2_with fail
                      all_goals
                        go_ret
                        refine ⟨E, HIS.out, ret_u64 ?_, HW8.out⟩
                        rw [HFI.out]
                        (try simp only [Bool.false_eq_true, if_false, if_true]) <;> omega
                · have hE4 : E = -1074 := by omega
                  have HFI := Lib.hid (fin_in HFR.out HY.out hE0 (.inl ⟨by omega, by omega⟩))
                  cases neg
                  all_goals
                    go_wp2_with fail
                    all_goals
                      go_ret
                      refine ⟨E, HIS.out, ret_u64 ?_, HW8.out⟩
                      rw [HFI.out]
                      (try simp only [Bool.false_eq_true, if_false, if_true]) <;> omega
            · have hc3 : (CV == 0) = false := by simp only [beq_eq_false_iff_ne, ne_eq]; exact hz
              clear hc1
              by_cases hM : X = 9007199254740992
              · by_cases h9 : 971 < E + 1
                · have HFI := Lib.hid (fin_top HFR.out HY.out (.inr ⟨hM, by omega⟩))
                  cases neg
                  all_goals
                    go_wp2_with fail
                    all_goals
                      go_ret
                      refine ⟨E, HIS.out, ret_u64 ?_, HW8.out⟩
                      rw [HFI.out]
                      (try simp only [Bool.false_eq_true, if_false, if_true]) <;> omega
                · have HFI := Lib.hid (fin_in HFR.out HY.out hE0 (.inr ⟨hM, by omega⟩))
                  cases neg
                  all_goals
                    go_wp2_with fail
                    all_goals
                      go_ret
                      refine ⟨E, HIS.out, ret_u64 ?_, HW8.out⟩
                      rw [HFI.out]
                      (try simp only [Bool.false_eq_true, if_false, if_true]) <;> omega
              · by_cases h5 : 4503599627370496 ≤ X
                · by_cases h9 : 971 < E
                  · have HFI := Lib.hid (fin_top HFR.out HY.out (.inl ⟨h9, h5⟩))
                    cases neg
                    all_goals
                      go_wp2_with fail
                      all_goals
                        go_ret
                        refine ⟨E, HIS.out, ret_u64 ?_, HW8.out⟩
                        rw [HFI.out]
                        (try simp only [Bool.false_eq_true, if_false, if_true]) <;> omega
                  · have HFI := Lib.hid (fin_in HFR.out HY.out hE0 (.inl ⟨by omega, by omega⟩))
                    cases neg
                    all_goals
                      go_wp2_with fail
                      all_goals
                        go_ret
                        refine ⟨E, HIS.out, ret_u64 ?_, HW8.out⟩
                        rw [HFI.out]
                        (try simp only [Bool.false_eq_true, if_false, if_true]) <;> omega
                · have hE4 : E = -1074 := by omega
                  have HFI := Lib.hid (fin_in HFR.out HY.out hE0 (.inl ⟨by omega, by omega⟩))
                  cases neg
                  all_goals
                    go_wp2_with fail
                    all_goals
                      go_ret
                      refine ⟨E, HIS.out, ret_u64 ?_, HW8.out⟩
                      rw [HFI.out]
                      (try simp only [Bool.false_eq_true, if_false, if_true]) <;> omega
    · have hcv : 0 ≤ cmpV (val l1) (val l2) := by unfold cmpV; rw [if_neg hlt]; split <;> omega
      generalize cmpV (val l1) (val l2) = CV at hcv ⊢
      have hnb : ¬ Below1 (val xs) (val ys) (-E - 53) := by unfold Below1; rw [← HV1.out, ← HV2.out]; exact hlt
      have HON := Lib.hid (HE.out.1.next hnb)
      have htop := HON.out.top HP.out HQ.out hbp
      clear hnb
      go_wp2_with fail
      refine ⟨⟨E + 1, by omega, by omega, rfl, Lib.hid ⟨HON.out, below_drewN HW1.out q⟩⟩, ?_⟩
      simp [RowKit.intOf]
      omega
end Go.Proofs.YtlinoncoanpcdaaGreatDoor
