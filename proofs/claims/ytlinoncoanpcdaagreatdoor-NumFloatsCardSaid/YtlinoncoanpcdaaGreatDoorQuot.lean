/-
  num.Div AND num.Rem AT EVERY TWO int64: the quotient rounded toward 0 (wrapped) and what is left, or 0 and false at 0; nothing in memory turns; what is left is Lean's own tmod. No condition but the int64s' bounds.
-/
import Derived.Test.YtlinoncoanpcdaaGreatDoorInts
namespace Go.Proofs.YtlinoncoanpcdaaGreatDoor
open Go.RowKit

/-- The quotient, rounded toward 0, wrapped (the least number by -1). -/
def wDiv (a b : Int) : Int := wrap64 (a.tdiv b)
def wRem (a b : Int) : Int := wSub a (wMul b (wDiv a b))
theorem div_zero (a : Int) (w : World) : Calls Tryz.prog 24 #[.int .i64 a, .int .i64 0] w fun e w' => e = .returned (.tuple #[.int .i64 0, .bool false]) ∧ w = w' := by
  go_enter Tryz.func24, Tryz.ntmps24
  go_wp2
  go_ret2
  exact ⟨rfl, rfl⟩
theorem div_any (a b : Int) (hb : ¬ b = 0) (w : World) : Calls Tryz.prog 24 #[.int .i64 a, .int .i64 b] w fun e w' => e = .returned (.tuple #[.int .i64 (wDiv a b), .bool true]) ∧ w = w' := by
  have hb1 : (b == 0) = false := by simpa using hb
  go_enter Tryz.func24, Tryz.ntmps24
  go_wp2
  go_ret2
  exact ⟨rfl, rfl⟩
theorem rem_zero (a : Int) (w : World) : Calls Tryz.prog 25 #[.int .i64 a, .int .i64 0] w fun e w' => e = .returned (.tuple #[.int .i64 0, .bool false]) ∧ w = w' := by
  go_enter Tryz.func25, Tryz.ntmps25
  go_wp2_with fail
  refine (div_zero _ _).mono ?_
  rintro e w' ⟨rfl, rfl⟩
  go_wp2_with fail
  go_ret2
  exact ⟨rfl, rfl⟩
theorem rem_any (a b : Int) (hb : ¬ b = 0) (w : World) : Calls Tryz.prog 25 #[.int .i64 a, .int .i64 b] w fun e w' => e = .returned (.tuple #[.int .i64 (wRem a b), .bool true]) ∧ w = w' := by
  unfold wRem
  go_enter Tryz.func25, Tryz.ntmps25
  go_wp2_with fail
  refine (div_any _ _ hb _).mono ?_
  rintro e w' ⟨rfl, rfl⟩
  go_wp2_with fail
  refine (mul_any _ _ _).mono ?_
  rintro e w' ⟨rfl, rfl⟩
  go_wp2_with fail
  refine (sub_any _ _ _).mono ?_
  rintro e w' ⟨rfl, rfl⟩
  go_wp2_with fail
  go_ret2
  exact ⟨rfl, rfl⟩


theorem wrap64_id {n : Int} (h0 : -9223372036854775808 ≤ n) (h1 : n ≤ 9223372036854775807) : wrap64 n = n := by unfold wrap64; omega
theorem tmod_bounds (a b : Int) (hb : ¬ b = 0) : (0 ≤ a → 0 ≤ a.tmod b) ∧ (a ≤ 0 → a.tmod b ≤ 0) ∧ a.tmod b < b.natAbs ∧ -(b.natAbs : Int) < a.tmod b := by
  have hn := Int.natAbs_tmod a b
  have hl := Nat.mod_lt a.natAbs (y := b.natAbs) (by omega)
  refine ⟨fun h => Int.tmod_nonneg b h, fun h => ?_, by omega, by omega⟩
  have := Int.tmod_nonneg b (a := -a) (by omega)
  rw [Int.neg_tmod] at this
  omega
theorem wRem_eq (a b : Int) (hb0 : -9223372036854775808 ≤ b) (hb1 : b ≤ 9223372036854775807) (hb : ¬ b = 0) : wRem a b = a.tmod b := by
  have hm := Int.mul_tdiv_add_tmod a b
  obtain ⟨h1, h2, h3, h4⟩ := tmod_bounds a b hb
  unfold wRem wSub wMul wDiv
  obtain ⟨q1, e1⟩ := wrap64_mod (a.tdiv b)
  obtain ⟨q2, e2⟩ := wrap64_mod (b * wrap64 (a.tdiv b))
  rw [e2, e1]
  have e3 : wrap64 (a - (b * (a.tdiv b + q1 * 18446744073709551616) + q2 * 18446744073709551616)) = wrap64 (a.tmod b) := by
    refine wrap64_eq (q := -(b * q1) - q2) ?_
    rw [Int.mul_add, Int.sub_mul, Int.neg_mul, Int.mul_assoc b q1]
    omega
  rw [e3]
  refine wrap64_id ?_ ?_
  · omega
  · omega
theorem back_sum (a b : Int) (ha0 : -9223372036854775808 ≤ a) (ha1 : a ≤ 9223372036854775807) : wAdd (wMul b (wDiv a b)) (wRem a b) = a := by
  unfold wRem wAdd wSub
  generalize wMul b (wDiv a b) = p
  unfold wrap64
  omega
end Go.Proofs.YtlinoncoanpcdaaGreatDoor
