/-
  PLAIN FACTS ON ROUNDING A FRACTION: the place of the last digit kept, the digits one by one from above, and the rung. No condition but the numbers' bounds.
-/
import Derived.Test.YtlinoncoanpcdaaGreatDoorBigScaled
import Derived.Test.YtlinoncoanpcdaaGreatDoorToFloat
namespace Go.Proofs.YtlinoncoanpcdaaGreatDoor
/-- A fraction times a power of 2 is below 1. -/
def Below1 (P Q : Nat) (k : Int) : Prop := P * 2 ^ k.toNat < Q * 2 ^ (-k).toNat
theorem below1_iff (P Q : Nat) (k : Int) (s : Nat) (h : 0 ≤ k + s) : Below1 P Q k ↔ P * 2 ^ (k + s).toNat < Q * 2 ^ s := by
  unfold Below1
  by_cases h0 : 0 ≤ k
  · have e1 : (k + s).toNat = k.toNat + s := by omega
    have e2 : (-k).toNat = 0 := by omega
    rw [e1, e2, Nat.pow_add, ← Nat.mul_assoc, Nat.pow_zero, Nat.mul_one]
    exact (Nat.mul_lt_mul_right (Nat.two_pow_pos s)).symm
  · obtain ⟨j, hj⟩ : ∃ j : Nat, s = (-k).toNat + j ∧ (k + s).toNat = j := ⟨(k + s).toNat, by omega, rfl⟩
    rw [hj.2, hj.1, Nat.pow_add, ← Nat.mul_assoc, show k.toNat = 0 from by omega, Nat.pow_zero, Nat.mul_one]
    exact (Nat.mul_lt_mul_right (Nat.two_pow_pos j)).symm
theorem bitsV_bounds (v : Nat) (h : 0 < v) : 0 < bitsV v ∧ 2 ^ (bitsV v - 1) ≤ v ∧ v < 2 ^ bitsV v := by
  unfold bitsV
  rw [if_neg (by omega)]
  have := log2_bounds v (by omega)
  exact ⟨by omega, this.1, this.2⟩
/-- Below where the bits tell it. -/
theorem below1_of_bits (P Q : Nat) (k : Int) (hP : 0 < P) (hQ : 0 < Q) (h : (bitsV P : Int) + k + 1 ≤ bitsV Q) : Below1 P Q k := by
  obtain ⟨p0, p1, p2⟩ := bitsV_bounds P hP
  obtain ⟨q0, q1, q2⟩ := bitsV_bounds Q hQ
  rw [below1_iff P Q k (-k).toNat (by omega)]
  have a1 : P * 2 ^ (k + (-k).toNat).toNat < 2 ^ (bitsV P + (k + (-k).toNat).toNat) := by
    rw [Nat.pow_add]
    exact Nat.mul_lt_mul_of_pos_right p2 (Nat.two_pow_pos _)
  have a2 : 2 ^ (bitsV Q - 1 + (-k).toNat) ≤ Q * 2 ^ (-k).toNat := by
    rw [Nat.pow_add]
    exact Nat.mul_le_mul_right _ q1
  have a3 : 2 ^ (bitsV P + (k + (-k).toNat).toNat) ≤ 2 ^ (bitsV Q - 1 + (-k).toNat) := Nat.pow_le_pow_right (by decide) (by omega)
  omega
theorem not_below1_of_bits (P Q : Nat) (k : Int) (hP : 0 < P) (hQ : 0 < Q) (h : (bitsV Q : Int) + 1 ≤ bitsV P + k) : ¬ Below1 P Q k := by
  obtain ⟨p0, p1, p2⟩ := bitsV_bounds P hP
  obtain ⟨q0, q1, q2⟩ := bitsV_bounds Q hQ
  rw [below1_iff P Q k (-k).toNat (by omega)]
  have a1 : 2 ^ (bitsV P - 1 + (k + (-k).toNat).toNat) ≤ P * 2 ^ (k + (-k).toNat).toNat := by
    rw [Nat.pow_add]
    exact Nat.mul_le_mul_right _ p1
  have a2 : Q * 2 ^ (-k).toNat < 2 ^ (bitsV Q + (-k).toNat) := by
    rw [Nat.pow_add]
    exact Nat.mul_lt_mul_of_pos_right q2 (Nat.two_pow_pos _)
  have a3 : 2 ^ (bitsV Q + (-k).toNat) ≤ 2 ^ (bitsV P - 1 + (k + (-k).toNat).toNat) := Nat.pow_le_pow_right (by decide) (by omega)
  omega
/-- The place of the last digit that is kept. -/
def IsE (P Q : Nat) (E : Int) : Prop := -1074 ≤ E ∧ Below1 P Q (-E - 53) ∧ (E = -1074 ∨ ¬ Below1 P Q (-E - 52))
/-- On the way to it. -/
def OnE (P Q : Nat) (E : Int) : Prop := -1074 ≤ E ∧ (E = -1074 ∨ ¬ Below1 P Q (-E - 52))
theorem OnE.start (P Q : Nat) (E : Int) (hP : 0 < P) (hQ : 0 < Q) (h : E = max ((bitsV P : Int) - bitsV Q - 54) (-1074)) : OnE P Q E := by
  refine ⟨by omega, ?_⟩
  by_cases h1 : E = -1074
  · exact .inl h1
  · exact .inr (not_below1_of_bits P Q _ hP hQ (by omega))
theorem OnE.next {P Q : Nat} {E : Int} (h : OnE P Q E) (hb : ¬ Below1 P Q (-E - 53)) : OnE P Q (E + 1) := by
  refine ⟨by have := h.1; omega, .inr ?_⟩
  rw [show -(E + 1) - 52 = -E - 53 from by omega]
  exact hb
theorem OnE.top {P Q : Nat} {E : Int} (hP : 0 < P) (hQ : 0 < Q) (h : OnE P Q E) (hp : bitsV P ≤ 4800) : E ≤ 4800 := by
  obtain ⟨q0, _, _⟩ := bitsV_bounds Q hQ
  rcases h.2 with h1 | h1
  · omega
  · by_cases h2 : E ≤ 4800
    · exact h2
    · exact absurd (below1_of_bits P Q (-E - 52) hP hQ (by omega)) h1
/-- The digits found so far, from above. -/
def Digits (A B m : Nat) (i : Nat) : Prop := m % 2 ^ i = 0 ∧ m + 2 ^ i ≤ 2 ^ 53 ∧ m * B ≤ A ∧ A < (m + 2 ^ i) * B
theorem Digits.start (A B : Nat) (h : A < B * 2 ^ 53) : Digits A B 0 53 := ⟨by simp, by omega, by omega, by rw [Nat.zero_add, Nat.mul_comm]; exact h⟩
theorem Digits.more {A B m i : Nat} (h : Digits A B m (i + 1)) (hc : (m + 2 ^ i) * B ≤ A) : Digits A B (m + 2 ^ i) i := by
  obtain ⟨h1, h2, h3, h4⟩ := h
  rw [Nat.pow_succ] at h1 h2 h4
  refine ⟨?_, by omega, hc, ?_⟩
  · rw [Nat.add_mod_right]
    exact Nat.mod_eq_zero_of_dvd (Nat.dvd_trans (Nat.dvd_mul_right _ 2) (Nat.dvd_of_mod_eq_zero h1))
  · rw [Nat.add_assoc, ← Nat.two_mul, Nat.mul_comm 2]; exact h4
theorem Digits.less {A B m i : Nat} (h : Digits A B m (i + 1)) (hc : ¬ (m + 2 ^ i) * B ≤ A) : Digits A B m i := by
  obtain ⟨h1, h2, h3, h4⟩ := h
  rw [Nat.pow_succ] at h1 h2
  exact ⟨Nat.mod_eq_zero_of_dvd (Nat.dvd_trans (Nat.dvd_mul_right _ 2) (Nat.dvd_of_mod_eq_zero h1)), by have := Nat.two_pow_pos i; omega, h3, by omega⟩
theorem Digits.done {A B m : Nat} (h : Digits A B m 0) (hB : 0 < B) : m = A / B ∧ m < 2 ^ 53 := by
  obtain ⟨_, h2, h3, h4⟩ := h
  rw [Nat.pow_zero] at h2 h4
  refine ⟨?_, by omega⟩
  have a1 : m ≤ A / B := (Nat.le_div_iff_mul_le hB).2 h3
  have a2 : A / B < m + 1 := (Nat.div_lt_iff_lt_mul hB).2 h4
  omega
/-- The rung of a fraction whose last digit kept has a place. -/
def frung (P Q : Nat) (E : Int) : Nat := min ((E + 1074).toNat * 4503599627370496 + rnd (P * 2 ^ (-E).toNat) (Q * 2 ^ E.toNat)) 9218868437227405312
end Go.Proofs.YtlinoncoanpcdaaGreatDoor
