/-
  THE DOCUMENT's FLOAT OF A WHOLE NUMBER (emendref01.ToFloat): at every int64 the word of the number's rung; new memory alone is made. No condition but the number's bounds.
-/
import Derived.Test.YtlinoncoanpcdaaGreatDoorRefRound
namespace Go.Proofs.YtlinoncoanpcdaaGreatDoor
open Go.RowKit
theorem isE_whole {n : Nat} {E : Int} (hn : 0 < n) (h : IsE n 1 E) : E = (n.log2 : Int) - 52 := by
  obtain ⟨h0, h1, h2⟩ := h
  obtain ⟨b1, b2⟩ := log2_bounds n (by omega)
  have hb1 : bitsV 1 = 1 := by decide
  have hbn : bitsV n = n.log2 + 1 := by unfold bitsV; rw [if_neg (by omega)]
  have up : ¬ (n.log2 : Int) ≥ E + 53 := by
    intro hc
    obtain ⟨c, hc⟩ : ∃ c : Nat, c = (-E - 53).toNat := ⟨_, rfl⟩
    rw [below1_iff n 1 _ (E + 53).toNat (by omega), Nat.one_mul] at h1
    have e1 : 2 ^ (E + 53).toNat ≤ 2 ^ n.log2 * 2 ^ (-E - 53 + ((E + 53).toNat : Int)).toNat := by
      rw [← Nat.pow_add]
      exact Nat.pow_le_pow_right (by decide) (by omega)
    have e2 := Nat.mul_le_mul_right (2 ^ (-E - 53 + ((E + 53).toNat : Int)).toNat) b1
    omega
  rcases h2 with h2 | h2
  · omega
  · have lo : ¬ (n.log2 : Int) < E + 52 := by
      intro hc
      apply h2
      rw [below1_iff n 1 _ (E + 52).toNat (by omega), Nat.one_mul, show (-E - 52 + ((E + 52).toNat : Int)).toNat = 0 from by omega, Nat.pow_zero, Nat.mul_one]
      exact Nat.lt_of_lt_of_le b2 (Nat.pow_le_pow_right (by decide) (by omega))
    omega
theorem frung_whole {n : Nat} {E : Int} (hn : 0 < n) (hn1 : n ≤ 9223372036854775808) (h : IsE n 1 E) : frung n 1 E = irung n := by
  have hE := isE_whole hn h
  have hr := irung_lt n hn1
  have hk : rnd (n * 2 ^ (-E).toNat) (1 * 2 ^ E.toNat) = kept n := by
    unfold kept
    by_cases hl : n.log2 ≤ 52
    · rw [if_pos hl, show E.toNat = 0 from by omega, show (-E).toNat = 52 - n.log2 from by omega]
      unfold rnd
      simp [Nat.mod_one]
    · rw [if_neg hl, show E.toNat = n.log2 - 52 from by omega, show (-E).toNat = 0 from by omega, Nat.pow_zero, Nat.mul_one, Nat.one_mul]
  unfold frung
  unfold irung at hr ⊢
  rw [if_neg (by omega)] at hr ⊢
  rw [hk, show (E + 1074).toNat = n.log2 + 1022 from by omega]
  omega
theorem norm_short {l : List Nat} (h : Norm l) (k : Nat) (hv : val l < 65536 ^ k) : l.length ≤ k := by
  rcases Nat.eq_zero_or_pos l.length with h0 | h0
  · omega
  · have h1 := val_ge l h h0
    rcases Nat.lt_or_ge k l.length with h2 | h2
    · have := Nat.pow_le_pow_right (n := 65536) (by decide) (show k ≤ l.length - 1 by omega)
      omega
    · exact h2
theorem bits_few {v k : Nat} (h : v < 2 ^ k) : bitsV v ≤ k := by
  unfold bitsV
  split
  · omega
  · have := (Nat.log2_lt (by omega)).2 h
    omega
set_option maxRecDepth 100000 in
set_option maxHeartbeats 2000000 in
theorem refToFloat_any (n : Int) (h0 : -9223372036854775808 ≤ n) (h1 : n ≤ 9223372036854775807) (w : World) :
    Calls Tryz.prog 46 #[.int .i64 n] w fun e w' => e = .returned (.int .u64 ((irung n.natAbs : Int) + (if n < 0 then 9223372036854775808 else 0))) ∧ Below w.heap.size w w' := by
  by_cases hz : n = 0
  · subst hz
    go_enter Tryz.func46, Tryz.ntmps46
    go_wp2_with fail
    go_ret
    exact ⟨rfl, Below.refl _ _⟩
  · have hz0 : (n == 0) = false := by simp only [beq_eq_false_iff_ne, ne_eq]; exact hz
    have HS := Lib.hid (size_any n h0 h1 w)
    have HO := Lib.hid (of_num n.natAbs (by omega) w)
    have HO1 := Lib.hid (fun w => of_num 1 (by omega) w)
    go_enter Tryz.func46, Tryz.ntmps46
    go_wp2_with fail
    refine HS.out.mono ?_
    rintro e w' ⟨rfl, rfl⟩
    go_wp2_with fail
    refine HO.out.mono ?_
    rintro e w1 ⟨A1, c1, l1, rfl, hr1, hn1, hv1, hl1, hc1, hb1⟩
    have HR1 := Lib.hid hr1
    have HN1 := Lib.hid hn1
    have HV1 := Lib.hid hv1
    have HW1 := Lib.hid hb1
    clear hr1 hn1 hv1 hc1 hb1 HS HO
    go_wp2_with fail
    refine (HO1.out _).mono ?_
    rintro e w2 ⟨A2, c2, l2, rfl, hr2, hn2, hv2, hl2, hc2, hb2⟩
    have HR := Lib.hid (round_any (decide (n < 0)) A1 A2 c1 c2 l1 l2 (by omega) (by omega) w2 (HR1.out.keep hb2) hr2 HN1.out hn2 (by rw [HV1.out]; omega) (by omega)
      (by rw [HV1.out]; exact Nat.le_trans (bits_few (k := 64) (by omega)) (by decide)) (by rw [hv2]; decide))
    have HW2 := Lib.hid (HW1.out.trans (hb2.mono HW1.out.size))
    rw [HV1.out, hv2] at HR
    clear hr2 hn2 hv2 hc2 hb2 hl2 hl1 HR1 HN1 HW1 HO1
    go_wp2_with fail
    refine HR.out.mono ?_
    rintro e w3 ⟨E, hE, rfl, hb3⟩
    have HF := Lib.hid (frung_whole (by omega) (by omega) hE)
    have HW3 := Lib.hid (HW2.out.trans (hb3.mono HW2.out.size))
    clear hE hb3 HR
    go_wp2_with fail
    all_goals
      go_ret
      refine ⟨ret_u64 ?_, HW3.out⟩
      rw [HF.out]
end Go.Proofs.YtlinoncoanpcdaaGreatDoor
