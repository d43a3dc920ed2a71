/-
  PLAIN FACTS: what Ieee's sum, product and quotient of two words are, class by class (a not-a-number, an infinity, a zero, another number), by the rung of the fraction. No condition but those that each theorem says.
-/
import Derived.Test.YtlinoncoanpcdaaGreatDoorFracs
import Derived.Test.YtlinoncoanpcdaaGreatDoorToInt
namespace Go.Proofs.YtlinoncoanpcdaaGreatDoor
open Ieee
/-- A word's sign. -/
def sg (x : Nat) : Bool := x / 9223372036854775808 % 2 == 1
/-- A word's rung. -/
def rg (x : Nat) : Nat := x % 9223372036854775808
theorem word_self (x : Nat) (hx : x < 18446744073709551616) : double.word (sg x) (rg x) = x := by
  have hw : double.signWeight = 9223372036854775808 := by decide
  unfold Format.word sg rg
  rw [hw]
  rcases (by omega : x / 9223372036854775808 = 0 ∨ x / 9223372036854775808 = 1) with e | e
  · rw [e]; simp; omega
  · rw [e]; simp; omega
theorem word_num (s : Bool) (r : Nat) : ((double.word s r : Nat) : Int) = (r : Int) + (if s then 9223372036854775808 else 0) := by
  have hw : double.signWeight = 9223372036854775808 := by decide
  unfold Format.word
  rw [hw]
  cases s
  · simp
  · simp; omega
theorem read_inf (x : Nat) (h : rg x = 9218868437227405312) : double.read x = .infinity (sg x) := by
  have hb : double.binade = 4503599627370496 := by decide
  have hi : double.infRung = 9218868437227405312 := by decide
  have hw : double.signWeight = 9223372036854775808 := by decide
  unfold rg at h
  unfold Format.read sg
  simp only [hb, hi, hw]
  rw [if_neg (by omega), if_neg (by omega), if_pos h]
theorem read_nan (x : Nat) (h : nanB x = true) : ∃ s t, double.read x = .nan s t := by
  have hb : double.binade = 4503599627370496 := by decide
  have hi : double.infRung = 9218868437227405312 := by decide
  have hw : double.signWeight = 9223372036854775808 := by decide
  rw [nanB_eq, decide_eq_true_eq] at h
  unfold Format.read
  simp only [hb, hi, hw]
  rw [if_neg (by omega), if_neg (by omega), if_neg (by omega)]
  exact ⟨_, _, rfl⟩
theorem read_fin (x : Nat) (h : rg x < 9218868437227405312) : double.read x = .number (sg x) (sigM (rg x)) (sigE (rg x)) := read_sig x h
theorem sig_zero (r : Nat) (h : r = 0) : sigM r = 0 ∧ sigE r = -1074 := by subst h; exact ⟨rfl, rfl⟩
theorem sig_pos (r : Nat) (h : r ≠ 0) : sigM r ≠ 0 := by unfold sigM; split <;> omega
theorem sigE_range (r : Nat) (h : r < 9218868437227405312) : -1074 ≤ sigE r ∧ sigE r ≤ 971 := by unfold sigE; split <;> omega
theorem sig_bits (r : Nat) (h0 : r ≠ 0) : max (sigE r + (sigM r).log2 - 52) (-1074) = sigE r := by
  have hm := sig_pos r h0
  have h1 : (sigM r).log2 ≤ 52 := by
    have := (Nat.log2_lt hm).2 (show sigM r < 2 ^ 53 from sigM_lt r)
    omega
  by_cases c : r < 4503599627370496
  · have e : sigE r = -1074 := by unfold sigE; rw [if_pos c]
    omega
  · have e : 4503599627370496 ≤ sigM r := by unfold sigM; rw [if_neg c]; omega
    have h2 : 52 ≤ (sigM r).log2 := (Nat.le_log2 hm).2 (by simpa using e)
    have h3 : -1074 ≤ sigE r := by unfold sigE; rw [if_neg c]; omega
    omega
theorem sig_rung (r : Nat) : (sigE r + 1074).toNat * 4503599627370496 + sigM r = r := by
  unfold sigE sigM
  by_cases c : r < 4503599627370496
  · rw [if_pos c, if_pos c]; simp
  · rw [if_neg c, if_neg c]; omega
theorem rnd_exact (m g : Nat) (hg : 0 < g) : rnd (m * g) g = m := by
  unfold rnd
  rw [Nat.mul_div_cancel m hg, Nat.mul_mod_left]
  have h1 : ¬ g < 2 * 0 := by omega
  have h2 : (g == 2 * 0) = false := beq_eq_false_iff_ne.2 (by omega)
  simp [h1, h2]
/-- A number that is a word's own is written as that word. -/
theorem nearest_self (s : Bool) (r k : Nat) (h0 : r ≠ 0) (hr : r < 9218868437227405312) : double.nearest s (sigM r * 2 ^ k) (sigE r - k) = double.word s r := by
  have hm := sig_pos r h0
  have hb : double.binade = 4503599627370496 := by decide
  have hi : double.infRung = 9218868437227405312 := by decide
  have hl : double.leastPlace = -1074 := by decide
  have hf : (double.fractionBits : Int) = 52 := by decide
  have hp := Nat.two_pow_pos k
  have hM : sigM r * 2 ^ k ≠ 0 := Nat.mul_ne_zero hm (by omega)
  have hlog : (sigM r * 2 ^ k).log2 = (sigM r).log2 + k := by
    obtain ⟨l1, l2⟩ := log2_bounds (sigM r) hm
    have a1 : 2 ^ ((sigM r).log2 + k) ≤ sigM r * 2 ^ k := by rw [Nat.pow_add]; exact Nat.mul_le_mul_right _ l1
    have a2 : sigM r * 2 ^ k < 2 ^ ((sigM r).log2 + k + 1) := by
      rw [show (sigM r).log2 + k + 1 = (sigM r).log2 + 1 + k by omega, Nat.pow_add]
      exact Nat.mul_lt_mul_of_pos_right l2 hp
    have b1 := (Nat.le_log2 hM).2 a1
    have b2 := (Nat.log2_lt hM).2 a2
    omega
  have hlast := sig_bits r h0
  unfold Format.nearest
  rw [if_neg hM]
  simp only [hb, hi, hl, hf, hlog]
  rw [show max (sigE r - k + ((sigM r).log2 + k : Nat) - 52) (-1074) = sigE r by rw [← hlast]; congr 1; rw [hlast]; omega]
  rw [show (sigE r - k - sigE r).toNat = 0 by omega, Nat.shiftLeft_zero, show (sigE r - (sigE r - k)).toNat = k by omega, cut_any s _ _ hM, rnd_exact _ _ hp]
  rw [show (sigE r - -1074).toNat = (sigE r + 1074).toNat from rfl, sig_rung, Nat.min_eq_left (by omega)]
/-- What an operation without an answer is told as. -/
def orNaN (o : Option Nat) : Nat := o.getD 9221120237041090561
theorem double_nums : double.binade = 4503599627370496 ∧ double.infRung = 9218868437227405312 ∧ double.signWeight = 9223372036854775808 ∧ double.leastPlace = -1074 := by decide
theorem word_inf (x : Nat) (hx : x < 18446744073709551616) (h : rg x = 9218868437227405312) : double.word (sg x) double.infRung = x := by
  rw [double_nums.2.1, ← h]; exact word_self x hx
theorem nearest_zero (s : Bool) (p : Int) : double.nearest s 0 p = double.word s 0 := by
  unfold Format.nearest; rw [if_pos rfl]
/-! ### sums -/
theorem add_nan_l (a b : Nat) (h : nanB a = true) : double.add a b = none := by
  obtain ⟨s, t, e⟩ := read_nan a h
  unfold Format.add; rw [e]; rfl
theorem add_nan_r (a b : Nat) (h : nanB b = true) : double.add a b = none := by
  obtain ⟨s, t, e⟩ := read_nan b h
  unfold Format.add; rw [e]; cases double.read a <;> rfl
theorem add_inf_l (a b : Nat) (ha : a < 18446744073709551616) (h : rg a = 9218868437227405312) (hb : rg b < 9218868437227405312) : double.add a b = some a := by
  unfold Format.add
  rw [read_inf a h, read_fin b hb]
  show some (double.word (sg a) double.infRung) = _
  rw [word_inf a ha h]
theorem add_inf_r (a b : Nat) (hb : b < 18446744073709551616) (h : rg b = 9218868437227405312) (ha : rg a < 9218868437227405312) : double.add a b = some b := by
  unfold Format.add
  rw [read_inf b h, read_fin a ha]
  show some (double.word (sg b) double.infRung) = _
  rw [word_inf b hb h]
theorem add_inf_inf (a b : Nat) (ha : a < 18446744073709551616) (h : rg a = 9218868437227405312) (h' : rg b = 9218868437227405312) : double.add a b = if sg a = sg b then some a else none := by
  unfold Format.add
  rw [read_inf a h, read_inf b h']
  unfold Datum.sum
  simp only
  by_cases c : sg a = sg b
  · rw [if_pos c, if_pos c]
    show some (double.word (sg a) double.infRung) = _
    rw [word_inf a ha h]
  · rw [if_neg c, if_neg c]; rfl
theorem signed_zero (s : Bool) (k : Nat) : signed s 0 k = 0 := by unfold signed; cases s <;> simp
theorem signed_val (s : Bool) (m k : Nat) : signed s m k = if s then -((m * 2 ^ k : Nat) : Int) else ((m * 2 ^ k : Nat) : Int) := by unfold signed; rw [Nat.shiftLeft_eq]
theorem add_fin (a b : Nat) (ha : rg a < 9218868437227405312) (hb : rg b < 9218868437227405312) : double.add a b =
    some (double.nearest (if signed (sg a) (sigM (rg a)) (sigE (rg a) - min (sigE (rg a)) (sigE (rg b))).toNat + signed (sg b) (sigM (rg b)) (sigE (rg b) - min (sigE (rg a)) (sigE (rg b))).toNat = 0 then sg a && sg b
        else decide (signed (sg a) (sigM (rg a)) (sigE (rg a) - min (sigE (rg a)) (sigE (rg b))).toNat + signed (sg b) (sigM (rg b)) (sigE (rg b) - min (sigE (rg a)) (sigE (rg b))).toNat < 0))
      (signed (sg a) (sigM (rg a)) (sigE (rg a) - min (sigE (rg a)) (sigE (rg b))).toNat + signed (sg b) (sigM (rg b)) (sigE (rg b) - min (sigE (rg a)) (sigE (rg b))).toNat).natAbs (min (sigE (rg a)) (sigE (rg b)))) := by
  unfold Format.add
  rw [read_fin a ha, read_fin b hb]
  rfl
theorem add_zero_r (a b : Nat) (ha : a < 18446744073709551616) (h : rg a < 9218868437227405312) (h0 : rg a ≠ 0) (hb : rg b = 0) : double.add a b = some a := by
  rw [add_fin a b h (by omega)]
  obtain ⟨z1, z2⟩ := sig_zero (rg b) hb
  obtain ⟨e1, e2⟩ := sigE_range (rg a) h
  have hm := sig_pos (rg a) h0
  have hmin : min (sigE (rg a)) (sigE (rg b)) = -1074 := by omega
  rw [z1, signed_zero, hmin, Int.add_zero, signed_val]
  have hp := Nat.two_pow_pos (sigE (rg a) - -1074).toNat
  have hne : sigM (rg a) * 2 ^ (sigE (rg a) - -1074).toNat ≠ 0 := Nat.mul_ne_zero hm (by omega)
  generalize hX : sigM (rg a) * 2 ^ (sigE (rg a) - -1074).toNat = X at *
  have hs := nearest_self (sg a) (rg a) (sigE (rg a) - -1074).toNat h0 h
  rw [hX, show sigE (rg a) - ((sigE (rg a) - -1074).toNat : Int) = -1074 by omega, word_self a ha] at hs
  cases c : sg a
  · rw [c] at hs
    simp only [Bool.false_eq_true, if_false, Int.natAbs_natCast]
    rw [if_neg (by omega), decide_eq_false (by omega), hs]
  · rw [c] at hs
    simp only [if_true, Int.natAbs_neg, Int.natAbs_natCast]
    rw [if_neg (by omega), decide_eq_true (by omega), hs]
theorem add_zero_l (a b : Nat) (hb : b < 18446744073709551616) (h : rg b < 9218868437227405312) (h0 : rg b ≠ 0) (ha : rg a = 0) : double.add a b = some b := by
  rw [add_fin a b (by omega) h]
  obtain ⟨z1, z2⟩ := sig_zero (rg a) ha
  obtain ⟨e1, e2⟩ := sigE_range (rg b) h
  have hm := sig_pos (rg b) h0
  have hmin : min (sigE (rg a)) (sigE (rg b)) = -1074 := by omega
  rw [z1, signed_zero, hmin, Int.zero_add, signed_val]
  have hp := Nat.two_pow_pos (sigE (rg b) - -1074).toNat
  have hne : sigM (rg b) * 2 ^ (sigE (rg b) - -1074).toNat ≠ 0 := Nat.mul_ne_zero hm (by omega)
  generalize hX : sigM (rg b) * 2 ^ (sigE (rg b) - -1074).toNat = X at *
  have hs := nearest_self (sg b) (rg b) (sigE (rg b) - -1074).toNat h0 h
  rw [hX, show sigE (rg b) - ((sigE (rg b) - -1074).toNat : Int) = -1074 by omega, word_self b hb] at hs
  cases c : sg b
  · rw [c] at hs
    simp only [Bool.false_eq_true, if_false, Int.natAbs_natCast]
    rw [if_neg (by omega), decide_eq_false (by omega), hs]
  · rw [c] at hs
    simp only [if_true, Int.natAbs_neg, Int.natAbs_natCast]
    rw [if_neg (by omega), decide_eq_true (by omega), hs]
theorem add_zeros (a b : Nat) (ha : rg a = 0) (hb : rg b = 0) : double.add a b = some (double.word (sg a && sg b) 0) := by
  rw [add_fin a b (by omega) (by omega), (sig_zero (rg a) ha).1, (sig_zero (rg b) hb).1, signed_zero, signed_zero, Int.add_zero, if_pos rfl]
  exact congrArg some (nearest_zero _ _)
/-- The sum's low place, and the two numbers at it. -/
def lowE (a b : Nat) : Int := min (sigE (rg a)) (sigE (rg b))
def numA (a b : Nat) : Nat := sigM (rg a) * 2 ^ (sigE (rg a) - lowE a b).toNat
def numB (a b : Nat) : Nat := sigM (rg b) * 2 ^ (sigE (rg b) - lowE a b).toNat
theorem numA_pos (a b : Nat) (h : rg a ≠ 0) : numA a b ≠ 0 := Nat.mul_ne_zero (sig_pos _ h) (Nat.ne_of_gt (Nat.two_pow_pos _))
theorem numB_pos (a b : Nat) (h : rg b ≠ 0) : numB a b ≠ 0 := Nat.mul_ne_zero (sig_pos _ h) (Nat.ne_of_gt (Nat.two_pow_pos _))
theorem scaled_val (M : Nat) (k : Int) : M * 2 ^ k.toNat * 2 ^ (-k).toNat = M * (1 * 2 ^ (-k).toNat) * 2 ^ k.toNat := by rw [Nat.one_mul]; ac_rfl
theorem add_same (a b : Nat) (ha : rg a < 9218868437227405312) (hb : rg b < 9218868437227405312) (h0 : rg a ≠ 0) (hs : sg a = sg b) (E : Int)
    (hE : IsE ((numA a b + numB a b) * 2 ^ (lowE a b).toNat) (1 * 2 ^ (-lowE a b).toNat) E) :
    double.add a b = some (double.word (sg a) (frung ((numA a b + numB a b) * 2 ^ (lowE a b).toNat) (1 * 2 ^ (-lowE a b).toNat) E)) := by
  rw [add_fin a b ha hb, signed_val, signed_val]
  have hx := numA_pos a b h0
  rw [show min (sigE (rg a)) (sigE (rg b)) = lowE a b from rfl, show sigM (rg a) * 2 ^ (sigE (rg a) - lowE a b).toNat = numA a b from rfl, show sigM (rg b) * 2 ^ (sigE (rg b) - lowE a b).toNat = numB a b from rfl]
  have hn := nearest_frac (sg a) _ _ (numA a b + numB a b) (lowE a b) E (scaled_val _ _) (by rw [Nat.one_mul]; exact Nat.two_pow_pos _) (by omega) hE
  rw [← hn, ← hs]
  generalize numA a b = X at *
  generalize numB a b = Y at *
  cases c : sg a
  · simp only [Bool.false_eq_true, if_false]
    rw [if_neg (by omega), decide_eq_false (by omega), show ((X : Int) + (Y : Int)).natAbs = X + Y by omega]
  · simp only [if_true]
    rw [if_neg (by omega), decide_eq_true (by omega), show (-(X : Int) + -(Y : Int)).natAbs = X + Y by omega]
theorem add_gone (a b : Nat) (ha : rg a < 9218868437227405312) (hb : rg b < 9218868437227405312) (hs : sg a ≠ sg b) (he : numA a b = numB a b) : double.add a b = some 0 := by
  rw [add_fin a b ha hb, signed_val, signed_val]
  rw [show min (sigE (rg a)) (sigE (rg b)) = lowE a b from rfl, show sigM (rg a) * 2 ^ (sigE (rg a) - lowE a b).toNat = numA a b from rfl, show sigM (rg b) * 2 ^ (sigE (rg b) - lowE a b).toNat = numB a b from rfl, he]
  generalize numB a b = Y at *
  have hz : (if sg a = true then -(Y : Int) else (Y : Int)) + (if sg b = true then -(Y : Int) else (Y : Int)) = 0 := by
    cases c : sg a <;> cases d : sg b <;> simp_all <;> omega
  rw [hz, if_pos rfl, show Int.natAbs 0 = 0 from rfl, nearest_zero]
  have : (sg a && sg b) = false := by cases c : sg a <;> cases d : sg b <;> simp_all
  rw [this]
  rfl
theorem add_more (a b : Nat) (ha : rg a < 9218868437227405312) (hb : rg b < 9218868437227405312) (hs : sg a ≠ sg b) (he : numB a b < numA a b) (E : Int)
    (hE : IsE ((numA a b - numB a b) * 2 ^ (lowE a b).toNat) (1 * 2 ^ (-lowE a b).toNat) E) :
    double.add a b = some (double.word (sg a) (frung ((numA a b - numB a b) * 2 ^ (lowE a b).toNat) (1 * 2 ^ (-lowE a b).toNat) E)) := by
  rw [add_fin a b ha hb, signed_val, signed_val]
  rw [show min (sigE (rg a)) (sigE (rg b)) = lowE a b from rfl, show sigM (rg a) * 2 ^ (sigE (rg a) - lowE a b).toNat = numA a b from rfl, show sigM (rg b) * 2 ^ (sigE (rg b) - lowE a b).toNat = numB a b from rfl]
  have hn := nearest_frac (sg a) _ _ (numA a b - numB a b) (lowE a b) E (scaled_val _ _) (by rw [Nat.one_mul]; exact Nat.two_pow_pos _) (by omega) hE
  rw [← hn]
  generalize numA a b = X at *
  generalize numB a b = Y at *
  cases c : sg a <;> cases d : sg b
  · simp_all
  · simp only [Bool.false_eq_true, if_false, if_true]
    rw [if_neg (by omega), decide_eq_false (by omega), show ((X : Int) + -(Y : Int)).natAbs = X - Y by omega]
  · simp only [Bool.false_eq_true, if_false, if_true]
    rw [if_neg (by omega), decide_eq_true (by omega), show (-(X : Int) + (Y : Int)).natAbs = X - Y by omega]
  · simp_all
theorem add_less (a b : Nat) (ha : rg a < 9218868437227405312) (hb : rg b < 9218868437227405312) (hs : sg a ≠ sg b) (he : numA a b < numB a b) (E : Int)
    (hE : IsE ((numB a b - numA a b) * 2 ^ (lowE a b).toNat) (1 * 2 ^ (-lowE a b).toNat) E) :
    double.add a b = some (double.word (sg b) (frung ((numB a b - numA a b) * 2 ^ (lowE a b).toNat) (1 * 2 ^ (-lowE a b).toNat) E)) := by
  rw [add_fin a b ha hb, signed_val, signed_val]
  rw [show min (sigE (rg a)) (sigE (rg b)) = lowE a b from rfl, show sigM (rg a) * 2 ^ (sigE (rg a) - lowE a b).toNat = numA a b from rfl, show sigM (rg b) * 2 ^ (sigE (rg b) - lowE a b).toNat = numB a b from rfl]
  have hn := nearest_frac (sg b) _ _ (numB a b - numA a b) (lowE a b) E (scaled_val _ _) (by rw [Nat.one_mul]; exact Nat.two_pow_pos _) (by omega) hE
  rw [← hn]
  generalize numA a b = X at *
  generalize numB a b = Y at *
  cases c : sg a <;> cases d : sg b
  · simp_all
  · simp only [Bool.false_eq_true, if_false, if_true]
    rw [if_neg (by omega), decide_eq_true (by omega), show ((X : Int) + -(Y : Int)).natAbs = Y - X by omega]
  · simp only [Bool.false_eq_true, if_false, if_true]
    rw [if_neg (by omega), decide_eq_false (by omega), show (-(X : Int) + (Y : Int)).natAbs = Y - X by omega]
  · simp_all
/-! ### products -/
theorem mul_nan_l (a b : Nat) (h : nanB a = true) : double.mul a b = none := by
  obtain ⟨s, t, e⟩ := read_nan a h
  unfold Format.mul; rw [e]; rfl
theorem mul_nan_r (a b : Nat) (h : nanB b = true) : double.mul a b = none := by
  obtain ⟨s, t, e⟩ := read_nan b h
  unfold Format.mul; rw [e]; cases double.read a <;> rfl
theorem mul_inf_inf (a b : Nat) (h : rg a = 9218868437227405312) (h' : rg b = 9218868437227405312) : double.mul a b = some (double.word (sg a ^^ sg b) 9218868437227405312) := by
  unfold Format.mul
  rw [read_inf a h, read_inf b h']
  rfl
theorem mul_inf_l (a b : Nat) (h : rg a = 9218868437227405312) (h' : rg b < 9218868437227405312) : double.mul a b = if rg b = 0 then none else some (double.word (sg a ^^ sg b) 9218868437227405312) := by
  unfold Format.mul
  rw [read_inf a h, read_fin b h']
  unfold Datum.product
  simp only
  by_cases c : rg b = 0
  · rw [if_pos c, if_pos (sig_zero _ c).1]; rfl
  · rw [if_neg c, if_neg (sig_pos _ c)]; rfl
theorem mul_inf_r (a b : Nat) (h : rg b = 9218868437227405312) (h' : rg a < 9218868437227405312) : double.mul a b = if rg a = 0 then none else some (double.word (sg a ^^ sg b) 9218868437227405312) := by
  unfold Format.mul
  rw [read_inf b h, read_fin a h']
  unfold Datum.product
  simp only
  by_cases c : rg a = 0
  · rw [if_pos c, if_pos (sig_zero _ c).1]; rfl
  · rw [if_neg c, if_neg (sig_pos _ c), Bool.xor_comm]; rfl
theorem mul_fin (a b : Nat) (ha : rg a < 9218868437227405312) (hb : rg b < 9218868437227405312) : double.mul a b = some (double.nearest (sg a ^^ sg b) (sigM (rg a) * sigM (rg b)) (sigE (rg a) + sigE (rg b))) := by
  unfold Format.mul
  rw [read_fin a ha, read_fin b hb]
  rfl
theorem mul_zero (a b : Nat) (ha : rg a < 9218868437227405312) (hb : rg b < 9218868437227405312) (h : rg a = 0 ∨ rg b = 0) : double.mul a b = some (double.word (sg a ^^ sg b) 0) := by
  rw [mul_fin a b ha hb]
  have : sigM (rg a) * sigM (rg b) = 0 := by
    rcases h with h | h
    · rw [(sig_zero _ h).1, Nat.zero_mul]
    · rw [(sig_zero _ h).1, Nat.mul_zero]
  rw [this, nearest_zero]
theorem mul_num (a b : Nat) (ha : rg a < 9218868437227405312) (hb : rg b < 9218868437227405312) (h0 : rg a ≠ 0) (h1 : rg b ≠ 0) (E : Int)
    (hE : IsE (sigM (rg a) * sigM (rg b) * 2 ^ (sigE (rg a) + sigE (rg b)).toNat) (1 * 2 ^ (-(sigE (rg a) + sigE (rg b))).toNat) E) :
    double.mul a b = some (double.word (sg a ^^ sg b) (frung (sigM (rg a) * sigM (rg b) * 2 ^ (sigE (rg a) + sigE (rg b)).toNat) (1 * 2 ^ (-(sigE (rg a) + sigE (rg b))).toNat) E)) := by
  rw [mul_fin a b ha hb, nearest_frac (sg a ^^ sg b) _ _ (sigM (rg a) * sigM (rg b)) (sigE (rg a) + sigE (rg b)) E (scaled_val _ _) (by rw [Nat.one_mul]; exact Nat.two_pow_pos _) (Nat.mul_ne_zero (sig_pos _ h0) (sig_pos _ h1)) hE]
/-! ### quotients -/
theorem div_nan_l (a b : Nat) (h : nanB a = true) : double.div a b = none := by
  obtain ⟨s, t, e⟩ := read_nan a h
  unfold Format.div; rw [e]; rfl
theorem div_nan_r (a b : Nat) (h : nanB b = true) : double.div a b = none := by
  obtain ⟨s, t, e⟩ := read_nan b h
  unfold Format.div; rw [e]; cases double.read a <;> rfl
theorem div_inf_inf (a b : Nat) (h : rg a = 9218868437227405312) (h' : rg b = 9218868437227405312) : double.div a b = none := by
  unfold Format.div
  rw [read_inf a h, read_inf b h']
  rfl
theorem div_inf_l (a b : Nat) (h : rg a = 9218868437227405312) (h' : rg b < 9218868437227405312) : double.div a b = some (double.word (sg a ^^ sg b) 9218868437227405312) := by
  unfold Format.div
  rw [read_inf a h, read_fin b h']
  rfl
theorem div_inf_r (a b : Nat) (h : rg b = 9218868437227405312) (h' : rg a < 9218868437227405312) : double.div a b = some (double.word (sg a ^^ sg b) 0) := by
  unfold Format.div
  rw [read_inf b h, read_fin a h']
  show some (double.nearest (sg a ^^ sg b) 0 0) = _
  rw [nearest_zero]
theorem div_by_zero (a b : Nat) (ha : rg a < 9218868437227405312) (hb : rg b = 0) : double.div a b = if rg a = 0 then none else some (double.word (sg a ^^ sg b) 9218868437227405312) := by
  unfold Format.div
  rw [read_fin a ha, read_fin b (by omega)]
  unfold Datum.quotient
  simp only
  rw [if_pos (sig_zero _ hb).1]
  by_cases c : rg a = 0
  · rw [if_pos c, if_pos (sig_zero _ c).1]; rfl
  · rw [if_neg c, if_neg (sig_pos _ c)]; rfl
theorem div_zero_l (a b : Nat) (ha : rg a = 0) (hb : rg b < 9218868437227405312) (h1 : rg b ≠ 0) : double.div a b = some (double.word (sg a ^^ sg b) 0) := by
  unfold Format.div
  rw [read_fin a (by omega), read_fin b hb]
  unfold Datum.quotient
  simp only
  rw [if_neg (sig_pos _ h1), (sig_zero _ ha).1]
  simp only [Nat.zero_shiftLeft, Nat.zero_div, Nat.zero_mod, Nat.mul_zero, Option.map_some, bne_self_eq_false, Bool.toNat_false]
  exact congrArg some (nearest_zero _ _)
theorem div_num (a b : Nat) (ha : rg a < 9218868437227405312) (hb : rg b < 9218868437227405312) (h0 : rg a ≠ 0) (h1 : rg b ≠ 0) (E : Int)
    (hE : IsE (sigM (rg a) * 2 ^ (sigE (rg a) - sigE (rg b)).toNat) (sigM (rg b) * 2 ^ (-(sigE (rg a) - sigE (rg b))).toNat) E) :
    double.div a b = some (double.word (sg a ^^ sg b) (frung (sigM (rg a) * 2 ^ (sigE (rg a) - sigE (rg b)).toNat) (sigM (rg b) * 2 ^ (-(sigE (rg a) - sigE (rg b))).toNat) E)) := by
  have hm := sig_pos _ h0
  have hn := sig_pos _ h1
  have hl : (sigM (rg a)).log2 ≤ 54 := by
    have := (Nat.log2_lt hm).2 (show sigM (rg a) < 2 ^ 53 from sigM_lt _)
    omega
  unfold Format.div
  rw [read_fin a ha, read_fin b hb]
  unfold Datum.quotient
  simp only
  rw [if_neg hn]
  have hf : double.fractionBits + 2 = 54 := by decide
  rw [hf]
  have := nearest_quot (sg a ^^ sg b) _ _ (sigM (rg a)) (sigM (rg b)) (sigE (rg a) - sigE (rg b)) E (by ac_rfl) (Nat.mul_pos (by omega) (Nat.two_pow_pos _)) hm hn hl hE
  rw [← this]
  rfl
end Go.Proofs.YtlinoncoanpcdaaGreatDoor
