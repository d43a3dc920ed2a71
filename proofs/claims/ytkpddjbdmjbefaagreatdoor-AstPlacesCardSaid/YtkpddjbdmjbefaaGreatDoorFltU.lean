/-
  Small functions of internal/strconv beneath ParseFloat: that each answers, and the same in every world; nothing in memory turns.
-/
import Derived.Test.YtkpddjbdmjbefaaGreatDoorRead2
import Derived.Test.YtkpddjbdmjbefaaGreatDoorLFltK
namespace Go.Proofs.YtkpddjbdmjbefaaGreatDoor
open Go.RowKit

theorem bool2u (b : Bool) (w : World) : Calls Tryz.prog 148 #[.bool b] w fun e w' => e = .returned (.int .u64 (if b then 1 else 0)) ∧ w = w' := by
  cases b
  · go_enter Tryz.func148, Tryz.ntmps148
    go_wp2_with fail
    go_ret
    exact ⟨rfl, rfl⟩
  · go_enter Tryz.func148, Tryz.ntmps148
    go_wp2_with fail
    go_ret
    exact ⟨rfl, rfl⟩
theorem log2_any (x : Int) (h : -2000 ≤ x ∧ x ≤ 2000) : ∃ n : Int, -10000 ≤ n ∧ n ≤ 10000 ∧ ∀ w, Calls Tryz.prog 157 #[.int .i64 x] w fun e w' => e = .returned (.int .i64 n) ∧ w = w' := by
  refine ⟨x * 108853 / 32768, by omega, by omega, fun w => ?_⟩
  go_enter Tryz.func157, Tryz.ntmps157
  go_wp2_with fail
  go_ret
  exact ⟨rfl, rfl⟩
theorem unmin_any (w : World) : Calls Tryz.prog 161 #[.int .u64 9007199254740992] w fun e w' => e = .returned (.int .u64 36028797018963966) ∧ w = w' := by
  go_enter Tryz.func161, Tryz.ntmps161
  go_wp2_with fail
  go_ret
  exact ⟨rfl, rfl⟩
def roundV (x : Int) : Int := IntKind.u64.wrap (IntKind.u64.wrap (x + 1) + bits .and .u64 (x / 4) 1) / 4
theorem round_any (x : Int) (w : World) : Calls Tryz.prog 163 #[.int .u64 x] w fun e w' => e = .returned (.int .u64 (roundV x)) ∧ w = w' := by
  unfold roundV
  go_enter Tryz.func163, Tryz.ntmps163
  go_wp2_with fail
  go_ret
  exact ⟨rfl, rfl⟩
theorem frombits_run (m : Int) (w : World) : (callFunc 149 #[.int .u64 m]).run Tryz.prog w = .ok (.value (.float .f64 m.toNat)) w := by kernel_rfl
/-- What pack64 hands back: a float's bits, and whether it is out of range. -/
def packV (m e : Int) : Nat × Bool :=
  if bits .and .u64 m 4503599627370496 == 0 then (m.toNat, false)
  else if 972 ≤ e then ((bits .or .u64 (bits .and .u64 m 9223372036854775808) 9218868437227405312).toNat, true)
  else ((bits .or .u64 (bits .andNot .u64 m 4503599627370496) (IntKind.u64.wrap (IntKind.u64.wrap (1075 + e) * 4503599627370496))).toNat, false)
def errV (b : Bool) : Value := if b then .iface 118 (.int .i64 1) else .nilIface
set_option maxRecDepth 100000 in
theorem pack_any (m e : Int) (he : -30000 ≤ e ∧ e ≤ 30000) (w : World) : Calls Tryz.prog 166 #[.int .u64 m, .int .i64 e] w fun e' w' => e' = .returned (.tuple #[.float .f64 (packV m e).1, errV (packV m e).2]) ∧ w = w' := by
  have hq := frombits_run
  cases h1 : (bits .and .u64 m 4503599627370496 == 0) with
  | true =>
    have hv : packV m e = (m.toNat, false) := by unfold packV; rw [if_pos h1]
    rw [hv]
    go_enter Tryz.func166, Tryz.ntmps166
    go_wp2_with fail
    go_ret2
    exact ⟨rfl, rfl⟩
  | false =>
    by_cases h2 : 972 ≤ e
    · have hv : packV m e = ((bits .or .u64 (bits .and .u64 m 9223372036854775808) 9218868437227405312).toNat, true) := by unfold packV; rw [if_neg (by rw [h1]; simp), if_pos h2]
      rw [hv]
      go_enter Tryz.func166, Tryz.ntmps166
      go_wp2_with fail
      go_ret2
      exact ⟨rfl, rfl⟩
    · have hv : packV m e = ((bits .or .u64 (bits .andNot .u64 m 4503599627370496) (IntKind.u64.wrap (IntKind.u64.wrap (1075 + e) * 4503599627370496))).toNat, false) := by unfold packV; rw [if_neg (by rw [h1]; simp), if_neg h2]
      rw [hv]
      go_enter Tryz.func166, Tryz.ntmps166
      go_wp2_with fail
      go_ret2
      exact ⟨rfl, rfl⟩
end Go.Proofs.YtkpddjbdmjbefaaGreatDoor
