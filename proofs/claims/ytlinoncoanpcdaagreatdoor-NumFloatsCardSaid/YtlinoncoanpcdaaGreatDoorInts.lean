/-
  num's WHOLE NUMBERS, AT EVERY TWO int64: Add, Sub, Mul, Neg are the sum, the difference, the product, the opposite, wrapped to 64 bits; nothing in memory turns. No condition.
-/
import Derived.Test.YtlinoncoanpcdaaGreatDoorProg
import Derived.WalkKit
import Derived.WalkLawsBesides
import Derived.Lib.Hide
import Derived.Outline
namespace Go.Proofs.YtlinoncoanpcdaaGreatDoor
open Go.RowKit

def wAdd (a b : Int) : Int := wrap64 (a + b)
def wSub (a b : Int) : Int := wrap64 (a - b)
def wMul (a b : Int) : Int := wrap64 (a * b)
def wNeg (a : Int) : Int := wrap64 (-a)

theorem add_any (a b : Int) (w : World) : Calls Tryz.prog 27 #[.int .i64 a, .int .i64 b] w fun e w' => e = .returned (.int .i64 (wAdd a b)) ∧ w = w' := by
  go_enter Tryz.func27, Tryz.ntmps27
  go_wp2
  go_ret
  exact ⟨rfl, rfl⟩
theorem sub_any (a b : Int) (w : World) : Calls Tryz.prog 28 #[.int .i64 a, .int .i64 b] w fun e w' => e = .returned (.int .i64 (wSub a b)) ∧ w = w' := by
  go_enter Tryz.func28, Tryz.ntmps28
  go_wp2
  go_ret
  exact ⟨rfl, rfl⟩
theorem mul_any (a b : Int) (w : World) : Calls Tryz.prog 30 #[.int .i64 a, .int .i64 b] w fun e w' => e = .returned (.int .i64 (wMul a b)) ∧ w = w' := by
  go_enter Tryz.func30, Tryz.ntmps30
  go_wp2
  go_ret
  exact ⟨rfl, rfl⟩
theorem neg_any (a : Int) (w : World) : Calls Tryz.prog 29 #[.int .i64 a] w fun e w' => e = .returned (.int .i64 (wNeg a)) ∧ w = w' := by
  have e : wNeg a = wSub 0 a := by unfold wNeg wSub; rw [Int.zero_sub]
  rw [e]
  go_enter Tryz.func29, Tryz.ntmps29
  go_wp2_with fail
  refine (sub_any _ _ _).mono ?_
  rintro e w' ⟨rfl, rfl⟩
  go_wp2_with fail
  go_ret
  exact ⟨rfl, rfl⟩

/-! wrap64 is a ring's map -/
theorem wrap64_mod (n : Int) : ∃ q : Int, wrap64 n = n + q * 18446744073709551616 := by
  unfold wrap64
  refine ⟨- ((n + 9223372036854775808) / 18446744073709551616), ?_⟩
  omega
theorem wrap64_eq {x y q : Int} (h : x = y + q * 18446744073709551616) : wrap64 x = wrap64 y := by
  unfold wrap64
  subst h
  omega
end Go.Proofs.YtlinoncoanpcdaaGreatDoor
