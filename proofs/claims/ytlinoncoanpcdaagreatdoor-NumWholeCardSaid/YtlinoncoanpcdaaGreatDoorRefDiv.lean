/-
  THE DOCUMENT's QUOTIENT (emendref01.Div): at every two int64 it is num's quotient and what is left; nothing in memory turns. No condition but the numbers' bounds.
-/
import Derived.Test.YtlinoncoanpcdaaGreatDoorRefMul
namespace Go.Proofs.YtlinoncoanpcdaaGreatDoor
open Go.RowKit

theorem tdiv_same (a b : Int) (h : (a < 0 ∧ b < 0) ∨ (0 ≤ a ∧ 0 ≤ b)) : a.tdiv b = ((a.natAbs / b.natAbs : Nat) : Int) := by
  rcases h with ⟨ha, hb⟩ | ⟨ha, hb⟩
  · obtain ⟨x, rfl⟩ : ∃ x : Nat, a = -(x : Int) := ⟨a.natAbs, by omega⟩
    obtain ⟨y, rfl⟩ : ∃ y : Nat, b = -(y : Int) := ⟨b.natAbs, by omega⟩
    rw [Int.neg_tdiv_neg]
    simp
  · obtain ⟨x, rfl⟩ := Int.eq_ofNat_of_zero_le ha
    obtain ⟨y, rfl⟩ := Int.eq_ofNat_of_zero_le hb
    simp
theorem tdiv_other (a b : Int) (h : (a < 0 ∧ 0 ≤ b) ∨ (0 ≤ a ∧ b < 0)) : a.tdiv b = -((a.natAbs / b.natAbs : Nat) : Int) := by
  rcases h with ⟨ha, hb⟩ | ⟨ha, hb⟩
  · obtain ⟨x, rfl⟩ : ∃ x : Nat, a = -(x : Int) := ⟨a.natAbs, by omega⟩
    obtain ⟨y, rfl⟩ := Int.eq_ofNat_of_zero_le hb
    rw [Int.neg_tdiv]
    simp
  · obtain ⟨x, rfl⟩ := Int.eq_ofNat_of_zero_le ha
    obtain ⟨y, rfl⟩ : ∃ y : Nat, b = -(y : Int) := ⟨b.natAbs, by omega⟩
    rw [Int.tdiv_neg]
    simp
theorem tmod_pos (a b : Int) (h : 0 ≤ a) : a.tmod b = ((a.natAbs % b.natAbs : Nat) : Int) := by
  have h1 := Int.natAbs_tmod a b
  have h2 := Int.tmod_nonneg b h
  omega
theorem tmod_neg' (a b : Int) (h : a < 0) : a.tmod b = -((a.natAbs % b.natAbs : Nat) : Int) := by
  have h1 := Int.natAbs_tmod a b
  have h2 := Int.tmod_nonneg b (a := -a) (by omega)
  rw [Int.neg_tmod] at h2
  omega
theorem ret3 {a b c d : Int} (h1 : a = b) (h2 : c = d) : Ending.returned (.tuple #[.int .i64 a, .int .i64 c, .bool true]) = .returned (.tuple #[.int .i64 b, .int .i64 d, .bool true]) := by rw [h1, h2]
theorem quo_same (a b P Q : Int) (eP : P = (a.natAbs : Int)) (eQ : Q = (b.natAbs : Int)) (h : (a < 0 ∧ b < 0) ∨ (0 ≤ a ∧ 0 ≤ b)) : wrap64 (P / Q) = wDiv a b := by
  unfold wDiv
  rw [tdiv_same a b h, eP, eQ, Int.natCast_ediv]
theorem quo_other (a b P Q : Int) (eP : P = (a.natAbs : Int)) (eQ : Q = (b.natAbs : Int)) (h : (a < 0 ∧ 0 ≤ b) ∨ (0 ≤ a ∧ b < 0)) : wrap64 (IntKind.u64.wrap (-(P / Q))) = wDiv a b := by
  unfold wDiv
  rw [wrap_wrap, tdiv_other a b h, eP, eQ, Int.natCast_ediv]
theorem rem_pos (a b P Q : Int) (eP : P = (a.natAbs : Int)) (eQ : Q = (b.natAbs : Int)) (hQ : 1 ≤ Q) (hQ1 : Q ≤ 9223372036854775808) (er : wRem a b = a.tmod b) (h : 0 ≤ a) : wrap64 (P % Q) = wRem a b := by
  have h1 := Int.emod_nonneg P (show Q ≠ 0 by omega)
  have h2 := Int.emod_lt_of_pos P (show 0 < Q by omega)
  rw [wrap64_id (by omega) (by omega), er, tmod_pos a b h, eP, eQ, Int.natCast_emod]
theorem rem_neg (a b P Q : Int) (eP : P = (a.natAbs : Int)) (eQ : Q = (b.natAbs : Int)) (hQ : 1 ≤ Q) (hQ1 : Q ≤ 9223372036854775808) (er : wRem a b = a.tmod b) (h : a < 0) : wrap64 (IntKind.u64.wrap (-(P % Q))) = wRem a b := by
  have h1 := Int.emod_nonneg P (show Q ≠ 0 by omega)
  have h2 := Int.emod_lt_of_pos P (show 0 < Q by omega)
  rw [wrap_wrap, wrap64_id (by omega) (by omega), er, tmod_neg' a b h, eP, eQ, Int.natCast_emod]
set_option maxRecDepth 100000 in
set_option maxHeartbeats 1000000 in
theorem refDiv_zero (a : Int) (w : World) : Calls Tryz.prog 26 #[.int .i64 a, .int .i64 0] w fun e w' => e = .returned (.tuple #[.int .i64 0, .int .i64 0, .bool false]) ∧ w = w' := by
  go_enter Tryz.func26, Tryz.ntmps26
  go_wp2
  go_ret3
  exact ⟨rfl, rfl⟩
set_option maxRecDepth 100000 in
set_option maxHeartbeats 1000000 in
theorem refDiv_any (a b : Int) (ha0 : -9223372036854775808 ≤ a) (ha1 : a ≤ 9223372036854775807) (hb0 : -9223372036854775808 ≤ b) (hb1 : b ≤ 9223372036854775807) (hz : ¬ b = 0) (w : World) :
    Calls Tryz.prog 26 #[.int .i64 a, .int .i64 b] w fun e w' => e = .returned (.tuple #[.int .i64 (wDiv a b), .int .i64 (wRem a b), .bool true]) ∧ w = w' := by
  have HS1 := Lib.hid (fun w => size_any a ha0 ha1 w)
  have HS2 := Lib.hid (fun w => size_any b hb0 hb1 w)
  have hzb : (b == 0) = false := by simpa using hz
  obtain ⟨P, eP⟩ : ∃ P : Int, P = (a.natAbs : Int) := ⟨_, rfl⟩
  obtain ⟨Q, eQ⟩ : ∃ Q : Int, Q = (b.natAbs : Int) := ⟨_, rfl⟩
  have P0 : 0 ≤ P := by omega
  have Q0 : 1 ≤ Q := by omega
  have HQ : Hid (1 ≤ Q ∧ Q ≤ 9223372036854775808) := Lib.hid (by omega)
  rw [← eP] at HS1
  rw [← eQ] at HS2
  have q1 : 0 ≤ P / Q := Int.ediv_nonneg P0 (by omega)
  have q2 : P / Q ≤ P := Int.ediv_le_self _ P0
  have hP : P ≤ 9223372036854775808 := by omega
  have w1 : IntKind.u64.wrap (P.tdiv Q) = P / Q := by rw [Int.tdiv_eq_ediv_of_nonneg P0]; exact u64_in q1 (by omega)
  have EP := Lib.hid eP
  have EQ := Lib.hid eQ
  clear eP eQ
  have ER := Lib.hid (wRem_eq a b hb0 hb1 hz)
  clear ha0 ha1 hb0 hb1 hP q2 q1
  rcases (by omega : a < 0 ∨ 0 ≤ a) with ha | ha
  · rcases (by omega : b < 0 ∨ 0 ≤ b) with hb | hb
    · have da : decide (a < 0) = true := by simpa using ha
      have db : decide (b < 0) = true := by simpa using hb
      go_enter Tryz.func26, Tryz.ntmps26
      go_wp2_with fail
      refine (HS1.out _).mono ?_
      rintro e w' ⟨rfl, rfl⟩
      go_wp2_with fail
      refine (HS2.out _).mono ?_
      rintro e w' ⟨rfl, rfl⟩
      go_wp2_with fail
      refine (HS1.out _).mono ?_
      rintro e w' ⟨rfl, rfl⟩
      go_wp2_with fail
      refine (HS2.out _).mono ?_
      rintro e w' ⟨rfl, rfl⟩
      go_wp2_with fail
      go_ret3
      exact ⟨ret3 (quo_same a b P Q EP.out EQ.out (.inl ⟨ha, hb⟩)) (rem_neg a b P Q EP.out EQ.out HQ.out.1 HQ.out.2 ER.out ha), rfl⟩
    · have da : decide (a < 0) = true := by simpa using ha
      have db : decide (b < 0) = false := by simpa using hb
      go_enter Tryz.func26, Tryz.ntmps26
      go_wp2_with fail
      refine (HS1.out _).mono ?_
      rintro e w' ⟨rfl, rfl⟩
      go_wp2_with fail
      refine (HS2.out _).mono ?_
      rintro e w' ⟨rfl, rfl⟩
      go_wp2_with fail
      refine (HS1.out _).mono ?_
      rintro e w' ⟨rfl, rfl⟩
      go_wp2_with fail
      refine (HS2.out _).mono ?_
      rintro e w' ⟨rfl, rfl⟩
      go_wp2_with fail
      go_ret3
      exact ⟨ret3 (quo_other a b P Q EP.out EQ.out (.inl ⟨ha, hb⟩)) (rem_neg a b P Q EP.out EQ.out HQ.out.1 HQ.out.2 ER.out ha), rfl⟩
  · rcases (by omega : b < 0 ∨ 0 ≤ b) with hb | hb
    · have da : decide (a < 0) = false := by simpa using ha
      have db : decide (b < 0) = true := by simpa using hb
      go_enter Tryz.func26, Tryz.ntmps26
      go_wp2_with fail
      refine (HS1.out _).mono ?_
      rintro e w' ⟨rfl, rfl⟩
      go_wp2_with fail
      refine (HS2.out _).mono ?_
      rintro e w' ⟨rfl, rfl⟩
      go_wp2_with fail
      refine (HS1.out _).mono ?_
      rintro e w' ⟨rfl, rfl⟩
      go_wp2_with fail
      refine (HS2.out _).mono ?_
      rintro e w' ⟨rfl, rfl⟩
      go_wp2_with fail
      go_ret3
      exact ⟨ret3 (quo_other a b P Q EP.out EQ.out (.inr ⟨ha, hb⟩)) (rem_pos a b P Q EP.out EQ.out HQ.out.1 HQ.out.2 ER.out ha), rfl⟩
    · have da : decide (a < 0) = false := by simpa using ha
      have db : decide (b < 0) = false := by simpa using hb
      go_enter Tryz.func26, Tryz.ntmps26
      go_wp2_with fail
      refine (HS1.out _).mono ?_
      rintro e w' ⟨rfl, rfl⟩
      go_wp2_with fail
      refine (HS2.out _).mono ?_
      rintro e w' ⟨rfl, rfl⟩
      go_wp2_with fail
      refine (HS1.out _).mono ?_
      rintro e w' ⟨rfl, rfl⟩
      go_wp2_with fail
      refine (HS2.out _).mono ?_
      rintro e w' ⟨rfl, rfl⟩
      go_wp2_with fail
      go_ret3
      exact ⟨ret3 (quo_same a b P Q EP.out EQ.out (.inr ⟨ha, hb⟩)) (rem_pos a b P Q EP.out EQ.out HQ.out.1 HQ.out.2 ER.out ha), rfl⟩
end Go.Proofs.YtlinoncoanpcdaaGreatDoor
