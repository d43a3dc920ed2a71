/-
  PLAIN FACTS ON IEEE 754's WORDS: of two that are no not-a-numbers just one is less, or they are equal; sums and products do not ask for order; a word less itself is +0 or a not-a-number; the sign turned twice is the word. No condition but the words' 64 bits.
-/
import Derived.Test.YtlinoncoanpcdaaGreatDoorFloat
namespace Go.Proofs.YtlinoncoanpcdaaGreatDoor
open Ieee

theorem order_swap (d c : Datum) : c.order d = (d.order c).map Ordering.swap := by
  cases d with
  | nan s t => cases c <;> rfl
  | infinity s =>
    cases c with
    | nan t u => rfl
    | infinity t => cases s <;> cases t <;> rfl
    | number t n j => cases s <;> rfl
  | number s m i =>
    cases c with
    | nan t u => rfl
    | infinity t => cases t <;> rfl
    | number t n j =>
      simp only [Datum.order, Option.map_some, Option.some.injEq]
      rw [Int.min_comm j i, ← Std.OrientedCmp.eq_swap]
theorem ord_swap (x y : Nat) : ord y x = (ord x y).map Ordering.swap := order_swap _ _
theorem nan_read (x : Nat) : nanB x = (double.read x).isNaN := by
  unfold nanB Format.order
  cases double.read x with
  | nan s t => rfl
  | infinity s => rw [ord_self_infinity]; rfl
  | number s m e => rw [ord_self_number]; rfl
theorem ord_nan (x y : Nat) (h : nanB x = true) : ord x y = none := by
  rw [nan_read] at h
  unfold ord Format.order
  cases hx : double.read x with
  | nan s t => rfl
  | infinity s => rw [hx] at h; cases h
  | number s m e => rw [hx] at h; cases h
theorem ord_some (x y : Nat) (hx : nanB x = false) (hy : nanB y = false) : (ord x y).isSome = true := by
  rw [nan_read] at hx hy
  unfold ord Format.order
  cases h1 : double.read x with
  | nan s t => rw [h1] at hx; cases hx
  | infinity s =>
    cases h2 : double.read y with
    | nan s t => rw [h2] at hy; cases hy
    | infinity t => rfl
    | number t n j => rfl
  | number s m e =>
    cases h2 : double.read y with
    | nan s t => rw [h2] at hy; cases hy
    | infinity t => rfl
    | number t n j => rfl
theorem sum_comm (d c : Datum) : d.sum c = c.sum d := by
  cases d with
  | nan s t => cases c <;> rfl
  | infinity s =>
    cases c with
    | nan t u => rfl
    | infinity t => cases s <;> cases t <;> rfl
    | number t n j => rfl
  | number s m i =>
    cases c with
    | nan t u => rfl
    | infinity t => rfl
    | number t n j =>
      simp only [Datum.sum]
      rw [Int.min_comm j i, Int.add_comm (signed t n _), Bool.and_comm t s]
theorem product_comm (d c : Datum) : d.product c = c.product d := by
  cases d with
  | nan s t => cases c <;> rfl
  | infinity s =>
    cases c with
    | nan t u => rfl
    | infinity t => cases s <;> cases t <;> rfl
    | number t n j => rfl
  | number s m i =>
    cases c with
    | nan t u => rfl
    | infinity t => rfl
    | number t n j =>
      simp only [Datum.product]
      rw [Nat.mul_comm m n, Int.add_comm i j]
      cases s <;> cases t <;> rfl
theorem add_comm' (x y : Nat) : double.add x y = double.add y x := by unfold Format.add; rw [sum_comm]
theorem mul_comm' (x y : Nat) : double.mul x y = double.mul y x := by unfold Format.mul; rw [product_comm]

theorem fneg_mod (x : Nat) : fneg x % 9223372036854775808 = x % 9223372036854775808 := by
  have h := Nat.xor_mod_two_pow (a := x) (b := 2 ^ 63) (n := 63)
  rw [show (2 ^ 63 % 2 ^ 63 : Nat) = 0 from by decide, Nat.xor_zero] at h
  exact h
theorem fneg_div (x : Nat) (hx : x < 18446744073709551616) : fneg x / 9223372036854775808 = 1 - x / 9223372036854775808 := by
  have h := Nat.xor_div_two_pow (a := x) (b := 2 ^ 63) (n := 63)
  rw [show (2 ^ 63 / 2 ^ 63 : Nat) = 1 from by decide] at h
  have h2 : fneg x / 9223372036854775808 = x / 9223372036854775808 ^^^ 1 := h
  rw [h2]
  rcases (by omega : x / 9223372036854775808 = 0 ∨ x / 9223372036854775808 = 1) with e | e <;> rw [e] <;> rfl
theorem fneg_lt (x : Nat) (hx : x < 18446744073709551616) : fneg x < 18446744073709551616 := by
  have := fneg_div x hx
  omega
theorem fneg_fneg (x : Nat) (hx : x < 18446744073709551616) : fneg (fneg x) = x := by
  have h1 := fneg_div x hx
  have h2 := fneg_mod x
  have h3 := fneg_div (fneg x) (fneg_lt x hx)
  have h4 := fneg_mod (fneg x)
  omega
theorem read_fneg (x : Nat) (hx : x < 18446744073709551616) : double.read (fneg x) = (double.read x).opposite := by
  have h1 := fneg_div x hx
  have h2 := fneg_mod x
  have hw : double.signWeight = 9223372036854775808 := by decide
  unfold Format.read
  simp only [hw, h1, h2]
  have hs : ((1 - x / 9223372036854775808) % 2 == 1) = !(x / 9223372036854775808 % 2 == 1) := by
    rcases (by omega : x / 9223372036854775808 = 0 ∨ x / 9223372036854775808 = 1) with e | e <;> rw [e] <;> rfl
  rw [hs]
  split
  · rfl
  · split
    · rfl
    · split <;> rfl
theorem sub_self (x : Nat) (hx : x < 18446744073709551616) : showO (double.add x (fneg x)) = zeroText ∨ showO (double.add x (fneg x)) = nanText := by
  unfold Format.add
  rw [read_fneg x hx]
  cases double.read x with
  | nan s t => exact .inr rfl
  | infinity s => right; cases s <;> rfl
  | number s m e =>
    left
    have h0 : signed s m (e - min e e).toNat + signed (!s) m (e - min e e).toNat = 0 := by
      cases s <;> simp [signed] <;> omega
    simp only [Datum.opposite, Datum.sum, h0]
    rw [if_pos trivial, show (s && !s) = false from by cases s <;> rfl]
    have hz : double.nearest false 0 (min e e) = 0 := by
      unfold Format.nearest
      rw [if_pos rfl]
      rfl
    show showL (double.nearest false 0 (min e e)) = zeroText
    rw [hz]
    decide
end Go.Proofs.YtlinoncoanpcdaaGreatDoor
