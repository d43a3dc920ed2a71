/-
  num's FLOATS AT EVERY TWO WORDS: FLess and FEqual are the order of IEEE 754, FNeg turns the sign's bit, FAdd and FMul are the rounded sum and product or, where there is none, some not-a-number; what Show tells of them. Condition: Facts (the listed variables), the words have 64 bits.
-/
import Derived.Test.YtlinoncoanpcdaaGreatDoorHex
import Derived.Laws.FloatBits
namespace Go.Proofs.YtlinoncoanpcdaaGreatDoor
open Go.RowKit Go.Lib

/-- How two words stand to each other. -/
def ord (x y : Nat) : Option Ordering := Ieee.double.order x y
theorem fless_any (x y : Nat) (w : World) : Calls Tryz.prog 40 #[.float .f64 x, .float .f64 y] w fun e w' => e = .returned (.bool (ord x y == some .lt)) ∧ w = w' := by
  go_enter Tryz.func40, Tryz.ntmps40
  go_wp2
  go_ret
  exact ⟨rfl, rfl⟩
theorem fequal_any (x y : Nat) (w : World) : Calls Tryz.prog 42 #[.float .f64 x, .float .f64 y] w fun e w' => e = .returned (.bool (ord x y == some .eq)) ∧ w = w' := by
  go_enter Tryz.func42, Tryz.ntmps42
  go_wp2
  go_ret
  exact ⟨rfl, rfl⟩
/-- The word of the other sign. -/
def fneg (x : Nat) : Nat := Op.negFloat .f64 x
theorem fneg_any (x : Nat) (w : World) : Calls Tryz.prog 44 #[.float .f64 x] w fun e w' => e = .returned (.float .f64 (fneg x)) ∧ w = w' := by
  have hn : ∀ w, (Op.unary .neg (.float .f64 x)).run Tryz.prog w = .ok (.float .f64 (fneg x)) w := fun _ => rfl
  go_enter Tryz.func44, Tryz.ntmps44
  go_wp2
  go_ret
  exact ⟨rfl, rfl⟩
/-! ### not-a-numbers -/
theorem ord_self_number (s : Bool) (m : Nat) (e : Int) : Ieee.Datum.order (.number s m e) (.number s m e) = some .eq := by
  unfold Ieee.Datum.order
  simp
theorem ord_self_infinity (s : Bool) : Ieee.Datum.order (.infinity s) (.infinity s) = some .eq := by
  unfold Ieee.Datum.order
  simp
/-- A word is a not-a-number just if its rung is beyond infinity's. -/
theorem nanB_eq (f : Nat) : nanB f = decide (9218868437227405312 < f % 9223372036854775808) := by
  unfold nanB Ieee.Format.order Ieee.Format.read
  have hb : Ieee.double.binade = 4503599627370496 := by decide
  have hi : Ieee.double.infRung = 9218868437227405312 := by decide
  have hw : Ieee.double.signWeight = 9223372036854775808 := by decide
  simp only [hb, hi, hw]
  by_cases h1 : f % 9223372036854775808 < 4503599627370496
  · rw [if_pos h1, ord_self_number]
    simp
    omega
  · rw [if_neg h1]
    by_cases h2 : f % 9223372036854775808 < 9218868437227405312
    · rw [if_pos h2, ord_self_number]
      simp
      omega
    · rw [if_neg h2]
      by_cases h3 : f % 9223372036854775808 = 9218868437227405312
      · rw [if_pos h3, ord_self_infinity]
        simp
        omega
      · rw [if_neg h3]
        simp [Ieee.Datum.order]
        omega
/-- The word that an operation without an answer gives, for a number of the tape's. -/
def nanWord (t : Nat) : Nat := (t % 2) * 2 ^ 63 + 0x7ff0000000000000 + 1 + (t / 2) % (2 ^ 52 - 1)
theorem nanWord_lt (t : Nat) : nanWord t < 18446744073709551616 := by unfold nanWord; omega
theorem nanWord_nan (t : Nat) : nanB (nanWord t) = true := by
  rw [nanB_eq]
  unfold nanWord
  simp only [decide_eq_true_eq]
  have hm : (t / 2) % (2 ^ 52 - 1) < 4503599627370495 := Nat.mod_lt _ (by decide)
  generalize (t / 2) % (2 ^ 52 - 1) = k at hm
  rcases Nat.mod_two_eq_zero_or_one t with h | h <;> rw [h] <;> omega
theorem width64 : 2 ^ Ieee.double.width = 18446744073709551616 := by decide
/-- What may come of an operation: its word, or, where there is none, a not-a-number. -/
def Comes1 (o : Option Nat) (w : World) (e : Ending) (w' : World) : Prop := ∃ r, e = .returned (.float .f64 r) ∧ r < 18446744073709551616 ∧ (o = some r ∨ o = none ∧ nanB r = true) ∧ Below w.heap.size w w'
theorem add_run_some {x y r : Nat} (h : Ieee.double.add x y = some r) (w : World) : (binOp .add 27 (.float .f64 x) (.float .f64 y)).run Tryz.prog w = .ok (.float .f64 r) w := by
  simp [binOp, Op.floatArith, FloatKind.format, h]
theorem add_run_none {x y : Nat} (h : Ieee.double.add x y = none) (w : World) : (binOp .add 27 (.float .f64 x) (.float .f64 y)).run Tryz.prog w = .ok (.float .f64 (nanWord (w.tape w.drawn (.nanBits .f64 x y)))) w.drew := by
  simp [binOp, Op.floatArith, FloatKind.format, h]
  rfl
theorem mul_run_some {x y r : Nat} (h : Ieee.double.mul x y = some r) (w : World) : (binOp .mul 27 (.float .f64 x) (.float .f64 y)).run Tryz.prog w = .ok (.float .f64 r) w := by
  simp [binOp, Op.floatArith, FloatKind.format, h]
theorem mul_run_none {x y : Nat} (h : Ieee.double.mul x y = none) (w : World) : (binOp .mul 27 (.float .f64 x) (.float .f64 y)).run Tryz.prog w = .ok (.float .f64 (nanWord (w.tape w.drawn (.nanBits .f64 x y)))) w.drew := by
  simp [binOp, Op.floatArith, FloatKind.format, h]
  rfl
theorem fadd_any (x y : Nat) (w : World) : Calls Tryz.prog 32 #[.float .f64 x, .float .f64 y] w (Comes1 (Ieee.double.add x y) w) := by
  cases h : Ieee.double.add x y with
  | some r =>
    have hr := fun w => add_run_some h w
    have hlt := Ieee.Format.add_lt Ieee.double h
    have HL : Hid (r < 18446744073709551616) := Lib.hid (width64 ▸ hlt)
    clear hlt h
    go_enter Tryz.func32, Tryz.ntmps32
    go_wp2
    go_ret
    exact ⟨r, rfl, HL.out, .inl rfl, Below.refl _ _⟩
  | none =>
    have hr := fun w => add_run_none h w
    clear h
    go_enter Tryz.func32, Tryz.ntmps32
    go_wp2
    go_ret
    exact ⟨_, rfl, nanWord_lt _, .inr ⟨rfl, nanWord_nan _⟩, (Below.refl _ _).drew⟩
theorem fmul_any (x y : Nat) (w : World) : Calls Tryz.prog 36 #[.float .f64 x, .float .f64 y] w (Comes1 (Ieee.double.mul x y) w) := by
  cases h : Ieee.double.mul x y with
  | some r =>
    have hr := fun w => mul_run_some h w
    have hlt := Ieee.Format.mul_lt Ieee.double h
    have HL : Hid (r < 18446744073709551616) := Lib.hid (width64 ▸ hlt)
    clear hlt h
    go_enter Tryz.func36, Tryz.ntmps36
    go_wp2
    go_ret
    exact ⟨r, rfl, HL.out, .inl rfl, Below.refl _ _⟩
  | none =>
    have hr := fun w => mul_run_none h w
    clear h
    go_enter Tryz.func36, Tryz.ntmps36
    go_wp2
    go_ret
    exact ⟨_, rfl, nanWord_lt _, .inr ⟨rfl, nanWord_nan _⟩, (Below.refl _ _).drew⟩
/-! ### what Show tells -/
def nanText : List UInt8 := [55, 102, 102, 56, 48, 48, 48, 48, 48, 48, 48, 48, 48, 48, 48, 49]
def zeroText : List UInt8 := [48, 48, 48, 48, 48, 48, 48, 48, 48, 48, 48, 48, 48, 48, 48, 48]
/-- The text of a word. -/
def showL (x : Nat) : List UInt8 := if nanB x = true then nanText else digs x 16
theorem show_any (x : Nat) (w : World) (h : Facts w) (hx : x < 18446744073709551616) : Calls Tryz.prog 21 #[.float .f64 x] w fun e w' => e = .returned (.string ⟨(showL x).toArray⟩) ∧ Below w.heap.size w w' := by
  unfold showL
  by_cases hn : nanB x = true
  · rw [if_pos hn]
    refine (show_nan x w hn).mono ?_
    rintro e w' ⟨rfl, rfl⟩
    exact ⟨rfl, Below.refl _ _⟩
  · rw [if_neg hn]
    exact show_num x w h (by simpa using hn) hx
theorem hexc_inj {a b : Nat} (ha : a < 16) (hb : b < 16) (h : hexc a = hexc b) : a = b := by
  have : ∀ a : Fin 16, ∀ b : Fin 16, hexc a.1 = hexc b.1 → a = b := by decide
  exact Fin.mk.inj (this ⟨a, ha⟩ ⟨b, hb⟩ h)
theorem digs_inj (u v : Nat) : ∀ k, digs u k = digs v k → u % 16 ^ k = v % 16 ^ k
  | 0, _ => by simp [Nat.mod_one]
  | k + 1, h => by
    rw [digs, digs, List.cons.injEq] at h
    have h1 := hexc_inj (Nat.mod_lt _ (by decide)) (Nat.mod_lt _ (by decide)) h.1
    have h2 := digs_inj u v k h.2
    rw [Nat.pow_succ, Nat.mod_mul, Nat.mod_mul, h1, h2]
theorem showL_nan (x : Nat) (hx : x < 18446744073709551616) : (showL x == nanText) = nanB x := by
  unfold showL
  by_cases hn : nanB x = true
  · rw [if_pos hn, hn]
    simp
  · rw [if_neg hn]
    have hn' : nanB x = false := by simpa using hn
    rw [hn']
    simp only [beq_eq_false_iff_ne, ne_eq]
    intro h
    have e : nanText = digs 9221120237041090561 16 := by decide
    rw [e] at h
    have h1 := digs_inj _ _ _ h
    rw [Nat.mod_eq_of_lt (by simpa using hx), Nat.mod_eq_of_lt (by decide)] at h1
    rw [h1] at hn
    exact hn (by rw [nanB_eq]; decide)
/-- What Show tells of an operation. -/
def showO (o : Option Nat) : List UInt8 := match o with
  | some r => showL r
  | none => nanText
theorem showO_of {o : Option Nat} {r : Nat} (h : o = some r ∨ o = none ∧ nanB r = true) : showL r = showO o := by
  rcases h with rfl | ⟨rfl, hn⟩
  · rfl
  · unfold showL showO
    rw [if_pos hn]
end Go.Proofs.YtlinoncoanpcdaaGreatDoor
