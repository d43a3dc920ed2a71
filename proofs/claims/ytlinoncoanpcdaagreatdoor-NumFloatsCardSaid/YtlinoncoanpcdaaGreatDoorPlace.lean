/-
  PLAIN FACTS ON IEEE 754's WORDS: two words that are no not-a-numbers stand to each other as their rungs with their signs do. No condition but the words' 64 bits.
-/
import Derived.Test.YtlinoncoanpcdaaGreatDoorFloatOrd
namespace Go.Proofs.YtlinoncoanpcdaaGreatDoor
open Ieee

/-- What a rung stands for, in units of the least place. -/
def rungV (r : Nat) : Nat := if r < 4503599627370496 then r else (4503599627370496 + r % 4503599627370496) * 2 ^ (r / 4503599627370496 - 1)
theorem rungV_step (r : Nat) : rungV r < rungV (r + 1) := by
  unfold rungV
  by_cases h1 : r + 1 < 4503599627370496
  · rw [if_pos (by omega), if_pos h1]; omega
  · rw [if_neg h1]
    by_cases h2 : r < 4503599627370496
    · have e : r + 1 = 4503599627370496 := by omega
      rw [if_pos h2, e]
      have : (4503599627370496 + 4503599627370496 % 4503599627370496) * 2 ^ (4503599627370496 / 4503599627370496 - 1) = 4503599627370496 := by decide
      omega
    · rw [if_neg h2]
      by_cases h3 : (r + 1) % 4503599627370496 = 0
      · have hd : (r + 1) / 4503599627370496 = r / 4503599627370496 + 1 := by omega
        have hm : r % 4503599627370496 = 4503599627370495 := by omega
        rw [h3, hd, hm, show r / 4503599627370496 + 1 - 1 = (r / 4503599627370496 - 1) + 1 from by omega, Nat.pow_succ]
        have := Nat.two_pow_pos (r / 4503599627370496 - 1)
        generalize 2 ^ (r / 4503599627370496 - 1) = p at this
        omega
      · have hd : (r + 1) / 4503599627370496 = r / 4503599627370496 := by omega
        have hm : (r + 1) % 4503599627370496 = r % 4503599627370496 + 1 := by omega
        rw [hd, hm]
        have := Nat.two_pow_pos (r / 4503599627370496 - 1)
        generalize 2 ^ (r / 4503599627370496 - 1) = p at this
        generalize r % 4503599627370496 = q
        rw [← Nat.add_assoc, Nat.add_mul _ 1]
        omega
theorem rungV_lt {a b : Nat} (h : a < b) : rungV a < rungV b := by
  induction b with
  | zero => omega
  | succ b ih =>
    rcases Nat.lt_or_ge a b with hb | hb
    · exact Nat.lt_trans (ih hb) (rungV_step b)
    · have : a = b := by omega
      subst this
      exact rungV_step a
theorem rungV_iff (a b : Nat) : rungV a < rungV b ↔ a < b := by
  constructor
  · intro h
    rcases Nat.lt_trichotomy a b with h1 | h1 | h1
    · exact h1
    · subst h1; omega
    · have := rungV_lt h1; omega
  · exact rungV_lt
/-- A number with a sign. -/
def sgn (s : Bool) (n : Nat) : Int := if s then -(n : Int) else n
/-- Where a word stands in order; zeros at 0. -/
def placeOf (x : Nat) : Int := sgn (x / 9223372036854775808 % 2 == 1) (x % 9223372036854775808)
theorem compare_congr {a b c d : Int} (h1 : a < b ↔ c < d) (h2 : a = b ↔ c = d) : compare a b = compare c d := by
  rcases Int.lt_trichotomy a b with h | h | h
  · rw [Int.compare_eq_lt.2 h, Int.compare_eq_lt.2 (h1.1 h)]
  · rw [Int.compare_eq_eq.2 h, Int.compare_eq_eq.2 (h2.1 h)]
  · have h3 : d < c := by
      rcases Int.lt_trichotomy c d with h' | h' | h'
      · have := h1.2 h'; omega
      · have := h2.2 h'; omega
      · exact h'
    rw [Int.compare_eq_gt.2 h, Int.compare_eq_gt.2 h3]
theorem compare_sgn (s t : Bool) (a b : Nat) : compare (sgn s (rungV a)) (sgn t (rungV b)) = compare (sgn s a) (sgn t b) := by
  have h1 := rungV_iff a b
  have h2 := rungV_iff b a
  have ha : 0 ≤ rungV a := Nat.zero_le _
  have h0 : rungV 0 = 0 := by decide
  have h3 := rungV_iff 0 a
  have h4 := rungV_iff 0 b
  rw [h0] at h3 h4
  apply compare_congr
  · cases s <;> cases t <;> simp only [sgn, Bool.false_eq_true, if_true, if_false] <;> omega
  · cases s <;> cases t <;> simp only [sgn, Bool.false_eq_true, if_true, if_false] <;> omega
theorem compare_scale (a b : Int) (k : Nat) (hk : 0 < k) : compare a b = compare (a * k) (b * k) := by
  apply compare_congr
  · exact (Int.mul_lt_mul_right (by omega)).symm
  · exact (Int.mul_eq_mul_right_iff (by omega)).symm
theorem signed_scale (s : Bool) (m u v : Nat) : signed s m u * (2 ^ v : Nat) = sgn s (m * 2 ^ (u + v)) := by
  unfold signed sgn
  rw [Nat.shiftLeft_eq, Nat.pow_add, ← Nat.mul_assoc]
  cases s <;> simp [Int.neg_mul]
theorem read_number (x : Nat) (h : x % 9223372036854775808 < 9218868437227405312) :
    ∃ m i, double.read x = .number (x / 9223372036854775808 % 2 == 1) m i ∧ -1074 ≤ i ∧ m * 2 ^ (i + 1074).toNat = rungV (x % 9223372036854775808) := by
  have hb : double.binade = 4503599627370496 := by decide
  have hi : double.infRung = 9218868437227405312 := by decide
  have hw : double.signWeight = 9223372036854775808 := by decide
  have hl : double.leastPlace = -1074 := by decide
  unfold Format.read rungV
  simp only [hb, hi, hw, hl]
  by_cases h1 : x % 9223372036854775808 < 4503599627370496
  · rw [if_pos h1, if_pos h1]
    exact ⟨_, _, rfl, by omega, by simp⟩
  · rw [if_neg h1, if_pos h, if_neg h1]
    refine ⟨_, _, rfl, by omega, ?_⟩
    congr 2
    omega
theorem ord_place (x y : Nat) (hx : nanB x = false) (hy : nanB y = false) : ord x y = some (compare (placeOf x) (placeOf y)) := by
  have hb : double.binade = 4503599627370496 := by decide
  have hi : double.infRung = 9218868437227405312 := by decide
  have hw : double.signWeight = 9223372036854775808 := by decide
  rw [nanB_eq] at hx hy
  simp only [decide_eq_false_iff_not] at hx hy
  have inf : ∀ z : Nat, z % 9223372036854775808 = 9218868437227405312 → double.read z = .infinity (z / 9223372036854775808 % 2 == 1) := by
    intro z hz
    unfold Format.read
    simp only [hb, hi, hw]
    rw [if_neg (by omega), if_neg (by omega), if_pos hz]
  unfold ord Format.order placeOf
  by_cases x1 : x % 9223372036854775808 < 9218868437227405312
  · obtain ⟨m, i, ex, hxi, vx⟩ := read_number x x1
    rw [ex]
    by_cases y1 : y % 9223372036854775808 < 9218868437227405312
    · obtain ⟨n, j, ey, hyj, vy⟩ := read_number y y1
      rw [ey]
      simp only [Datum.order, Option.some.injEq]
      rw [← compare_sgn, ← vx, ← vy, compare_scale _ _ (2 ^ (min i j + 1074).toNat) (Nat.two_pow_pos _), signed_scale, signed_scale]
      congr 3 <;> congr 1 <;> omega
    · rw [inf y (by omega)]
      generalize (y / 9223372036854775808 % 2 == 1) = t
      generalize (x / 9223372036854775808 % 2 == 1) = s
      simp only [Datum.order, Option.some.injEq]
      cases t <;> cases s <;> simp only [sgn, Bool.false_eq_true, if_true, if_false] <;> symm
      · rw [Int.compare_eq_lt]; omega
      · rw [Int.compare_eq_lt]; omega
      · rw [Int.compare_eq_gt]; omega
      · rw [Int.compare_eq_gt]; omega
  · rw [inf x (by omega)]
    by_cases y1 : y % 9223372036854775808 < 9218868437227405312
    · obtain ⟨n, j, ey, hyj, vy⟩ := read_number y y1
      rw [ey]
      generalize (y / 9223372036854775808 % 2 == 1) = t
      generalize (x / 9223372036854775808 % 2 == 1) = s
      simp only [Datum.order, Option.some.injEq]
      cases s <;> cases t <;> simp only [sgn, Bool.false_eq_true, if_true, if_false] <;> symm
      · rw [Int.compare_eq_gt]; omega
      · rw [Int.compare_eq_gt]; omega
      · rw [Int.compare_eq_lt]; omega
      · rw [Int.compare_eq_lt]; omega
    · rw [inf y (by omega)]
      have e1 : x % 9223372036854775808 = 9218868437227405312 := by omega
      have e2 : y % 9223372036854775808 = 9218868437227405312 := by omega
      rw [e1, e2]
      generalize (y / 9223372036854775808 % 2 == 1) = t
      generalize (x / 9223372036854775808 % 2 == 1) = s
      simp only [Datum.order, Option.some.injEq]
      cases s <;> cases t <;> rfl
end Go.Proofs.YtlinoncoanpcdaaGreatDoor
