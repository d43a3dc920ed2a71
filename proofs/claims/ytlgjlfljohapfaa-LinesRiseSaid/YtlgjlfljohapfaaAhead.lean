/-
  emendlaw06.ahead AT EVERY TWO Pos: what it returns; no memory that was there turns. No condition.
-/
import Derived.Test.YtlgjlfljohapfaaWorks
namespace Go.Proofs.Ytlgjlfljohapfaa
open Go.RowKit

set_option maxRecDepth 100000 in
set_option maxHeartbeats 4000000 in
/-- Is a Pos ahead of another one? -/
theorem ahead_yes (a b c d : Int) (h : a < c ∨ a = c ∧ b < d) (w : World) : Calls Try.prog 36 #[.agg #[.int .i64 a, .int .i64 b], .agg #[.int .i64 c, .int .i64 d]] w fun e w' => e = .returned (.bool true) ∧ Below w.heap.size w w' := by
  by_cases h1 : a < c
  · have d1 : decide (a < c) = true := decide_eq_true h1
    go_enter Try.func36, Try.ntmps36
    go_wp2_with fail
    go_ret
    exact ⟨rfl, by first | exact Below.refl _ _ | exact ((alloc_below w _).trans ((alloc_below _ _).mono (alloc_below w _).size))⟩
  · have d1 : decide (a < c) = false := decide_eq_false h1
    obtain ⟨rfl, h3⟩ : a = c ∧ b < d := h.resolve_left h1
    have d3 : decide (b < d) = true := decide_eq_true h3
    go_enter Try.func36, Try.ntmps36
    go_wp2_with fail
    go_ret
    exact ⟨rfl, by first | exact Below.refl _ _ | exact ((alloc_below w _).trans ((alloc_below _ _).mono (alloc_below w _).size))⟩
set_option maxRecDepth 100000 in
theorem ahead_no (a b c d : Int) (h : ¬ (a < c ∨ a = c ∧ b < d)) (w : World) : Calls Try.prog 36 #[.agg #[.int .i64 a, .int .i64 b], .agg #[.int .i64 c, .int .i64 d]] w fun e w' => e = .returned (.bool false) ∧ Below w.heap.size w w' := by
  have h1 : ¬ a < c := fun x => h (.inl x)
  have d1 : decide (a < c) = false := decide_eq_false h1
  by_cases h2 : a = c
  · subst h2
    have d3 : decide (b < d) = false := decide_eq_false (fun x => h (.inr ⟨rfl, x⟩))
    go_enter Try.func36, Try.ntmps36
    go_wp2_with fail
    go_ret
    exact ⟨rfl, by first | exact Below.refl _ _ | exact ((alloc_below w _).trans ((alloc_below _ _).mono (alloc_below w _).size))⟩
  · have d2 : (a == c) = false := by simpa using h2
    go_enter Try.func36, Try.ntmps36
    go_wp2_with fail
    go_ret
    exact ⟨rfl, by first | exact Below.refl _ _ | exact ((alloc_below w _).trans ((alloc_below _ _).mono (alloc_below w _).size))⟩
end Go.Proofs.Ytlgjlfljohapfaa
