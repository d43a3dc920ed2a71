/-
  PLAIN FACTS ON WHOLE NUMBERS AS FLOATS: the rung of a whole number's float never falls as the number rises, and below 2^53 it rises strictly, and leads back. No condition but the numbers' bounds.
-/
import Derived.Test.YtlinoncoanpcdaaGreatDoorPlace
namespace Go.Proofs.YtlinoncoanpcdaaGreatDoor
open Ieee

/-- n by g, to the nearest, of two the even one. -/
def rnd (n g : Nat) : Nat := n / g + (decide (g < 2 * (n % g)) || (g == 2 * (n % g) && n / g % 2 == 1)).toNat
/-- The digits that are kept of a number. -/
def kept (n : Nat) : Nat := if n.log2 ≤ 52 then n * 2 ^ (52 - n.log2) else rnd n (2 ^ (n.log2 - 52))
/-- A whole number's rung. -/
def irung (n : Nat) : Nat := if n = 0 then 0 else (n.log2 + 1022) * 4503599627370496 + kept n

theorem rnd_mono {n m g : Nat} (_hg : 0 < g) (h : n ≤ m) : rnd n g ≤ rnd m g := by
  unfold rnd
  have hq : n / g ≤ m / g := Nat.div_le_div_right h
  have b1 : (decide (g < 2 * (n % g)) || (g == 2 * (n % g) && n / g % 2 == 1)).toNat ≤ 1 := Bool.toNat_le _
  rcases Nat.lt_or_ge (n / g) (m / g) with h1 | h1
  · omega
  · have he : n / g = m / g := by omega
    have hr : n % g ≤ m % g := by
      have e1 := Nat.div_add_mod n g
      have e2 := Nat.div_add_mod m g
      rw [he] at e1
      omega
    rw [he]
    have : (decide (g < 2 * (n % g)) || (g == 2 * (n % g) && m / g % 2 == 1)).toNat ≤ (decide (g < 2 * (m % g)) || (g == 2 * (m % g) && m / g % 2 == 1)).toNat := by
      by_cases c1 : g < 2 * (m % g)
      · simp [c1]
        exact Bool.toNat_le _
      · by_cases c2 : g = 2 * (m % g)
        · by_cases c3 : n % g = m % g
          · rw [c3]; exact Nat.le_refl _
          · have : ¬ g < 2 * (n % g) := by omega
            have h2 : (g == 2 * (n % g)) = false := beq_eq_false_iff_ne.2 (by omega)
            simp [this, h2]
        · have : ¬ g < 2 * (n % g) := by omega
          have h2 : (g == 2 * (n % g)) = false := beq_eq_false_iff_ne.2 (by omega)
          simp [this, h2]
    omega
theorem log2_bounds (n : Nat) (h : n ≠ 0) : 2 ^ n.log2 ≤ n ∧ n < 2 ^ (n.log2 + 1) :=
  ⟨(Nat.le_log2 h).1 (Nat.le_refl _), (Nat.log2_lt h).1 (Nat.lt_succ_self _)⟩
theorem log2_mono {n m : Nat} (h : n ≠ 0) (hm : n ≤ m) : n.log2 ≤ m.log2 := (Nat.le_log2 (by omega)).2 (Nat.le_trans (log2_bounds n h).1 hm)
theorem kept_small (n : Nat) (h : n ≠ 0) (hl : n.log2 ≤ 52) : 4503599627370496 ≤ kept n ∧ kept n < 9007199254740992 := by
  obtain ⟨h1, h2⟩ := log2_bounds n h
  unfold kept
  rw [if_pos hl]
  have hp := Nat.two_pow_pos (52 - n.log2)
  have e1 : 2 ^ n.log2 * 2 ^ (52 - n.log2) = 4503599627370496 := by rw [← Nat.pow_add, show n.log2 + (52 - n.log2) = 52 from by omega]
  have e2 : 2 ^ (n.log2 + 1) * 2 ^ (52 - n.log2) = 9007199254740992 := by rw [← Nat.pow_add, show n.log2 + 1 + (52 - n.log2) = 53 from by omega]
  exact ⟨e1 ▸ Nat.mul_le_mul_right _ h1, e2 ▸ Nat.mul_lt_mul_of_pos_right h2 hp⟩
theorem kept_big (n : Nat) (h : n ≠ 0) (hl : ¬ n.log2 ≤ 52) : 4503599627370496 ≤ kept n ∧ kept n ≤ 9007199254740992 := by
  obtain ⟨h1, h2⟩ := log2_bounds n h
  unfold kept
  rw [if_neg hl]
  have hp := Nat.two_pow_pos (n.log2 - 52)
  have e1 : 4503599627370496 * 2 ^ (n.log2 - 52) = 2 ^ n.log2 := by rw [show 4503599627370496 = 2 ^ 52 from rfl, ← Nat.pow_add, show 52 + (n.log2 - 52) = n.log2 from by omega]
  have e2 : 9007199254740992 * 2 ^ (n.log2 - 52) = 2 ^ (n.log2 + 1) := by rw [show 9007199254740992 = 2 ^ 53 from rfl, ← Nat.pow_add, show 53 + (n.log2 - 52) = n.log2 + 1 from by omega]
  have l1 : 4503599627370496 ≤ n / 2 ^ (n.log2 - 52) := (Nat.le_div_iff_mul_le hp).2 (e1 ▸ h1)
  have l2 : n / 2 ^ (n.log2 - 52) < 9007199254740992 := (Nat.div_lt_iff_lt_mul hp).2 (e2 ▸ h2)
  unfold rnd
  have b1 : (decide (2 ^ (n.log2 - 52) < 2 * (n % 2 ^ (n.log2 - 52))) || (2 ^ (n.log2 - 52) == 2 * (n % 2 ^ (n.log2 - 52)) && n / 2 ^ (n.log2 - 52) % 2 == 1)).toNat ≤ 1 := Bool.toNat_le _
  omega
theorem kept_bounds (n : Nat) (h : n ≠ 0) : 4503599627370496 ≤ kept n ∧ kept n ≤ 9007199254740992 := by
  by_cases hl : n.log2 ≤ 52
  · have := kept_small n h hl; omega
  · exact kept_big n h hl
theorem kept_mono {n m : Nat} (h : n ≤ m) (hl : n.log2 = m.log2) : kept n ≤ kept m := by
  unfold kept
  rw [hl]
  split
  · exact Nat.mul_le_mul_right _ h
  · exact rnd_mono (Nat.two_pow_pos _) h
theorem irung_mono {n m : Nat} (h : n ≤ m) : irung n ≤ irung m := by
  unfold irung
  by_cases h0 : n = 0
  · rw [if_pos h0]; exact Nat.zero_le _
  · rw [if_neg h0, if_neg (by omega)]
    have hl := log2_mono h0 h
    have b1 := kept_bounds n h0
    have b2 := kept_bounds m (by omega)
    rcases Nat.lt_or_ge n.log2 m.log2 with h1 | h1
    · omega
    · have he : n.log2 = m.log2 := by omega
      have := kept_mono h he
      rw [he]
      omega
theorem log2_small (n : Nat) (h0 : n ≠ 0) (h : n < 9007199254740992) : n.log2 ≤ 52 := by
  have := (Nat.log2_lt h0).2 (show n < 2 ^ 53 from h)
  omega
theorem irung_strict {n m : Nat} (h : n < m) (hs : n < 9007199254740992) : irung n < irung m := by
  unfold irung
  have b2 := kept_bounds m (by omega)
  by_cases h0 : n = 0
  · rw [if_pos h0, if_neg (by omega)]; omega
  · rw [if_neg h0, if_neg (by omega)]
    have hl := log2_mono h0 (Nat.le_of_lt h)
    have hn := log2_small n h0 hs
    have b1 := kept_small n h0 hn
    rcases Nat.lt_or_ge n.log2 m.log2 with h1 | h1
    · omega
    · have he : n.log2 = m.log2 := by omega
      have : kept n < kept m := by
        unfold kept
        rw [← he, if_pos hn, if_pos hn]
        exact Nat.mul_lt_mul_of_pos_right h (Nat.two_pow_pos _)
      rw [he]
      omega
theorem irung_lt (n : Nat) (h : n ≤ 9223372036854775808) : irung n ≤ 4890909195324358656 := by
  have e : irung 9223372036854775808 = 4890909195324358656 := by decide
  rw [← e]
  exact irung_mono h
theorem cut_even (neg : Bool) (n d : Nat) (h : d ≤ n.log2 + 2) : Toward.even.cut neg n d = rnd n (2 ^ d) := by
  unfold Toward.cut rnd
  simp only [Nat.min_eq_left h, Nat.shiftLeft_eq, Nat.one_mul]
theorem nearest_int (neg : Bool) (n : Nat) (h : n ≤ 9223372036854775808) : double.nearest neg n 0 = double.word neg (irung n) := by
  have hb : double.binade = 4503599627370496 := by decide
  have hi : double.infRung = 9218868437227405312 := by decide
  have hl : double.leastPlace = -1074 := by decide
  have hf : (double.fractionBits : Int) = 52 := by decide
  have hr := irung_lt n h
  unfold Format.nearest
  by_cases h0 : n = 0
  · rw [if_pos h0]
    unfold irung
    rw [if_pos h0]
  · rw [if_neg h0]
    simp only [hb, hi, hl, hf]
    have hlog : n.log2 ≤ 63 := by
      have := (Nat.log2_lt h0).2 (show n < 2 ^ 64 by omega)
      omega
    have hlast : max ((0 : Int) + n.log2 - 52) (-1074) = (n.log2 : Int) - 52 := by omega
    rw [hlast]
    have hk : Toward.even.cut neg (n <<< (0 - ((n.log2 : Int) - 52)).toNat) ((n.log2 : Int) - 52 - 0).toNat = kept n := by
      by_cases hs : n.log2 ≤ 52
      · have e1 : (0 - ((n.log2 : Int) - 52)).toNat = 52 - n.log2 := by omega
        have e2 : ((n.log2 : Int) - 52 - 0).toNat = 0 := by omega
        rw [e1, e2, cut_even _ _ _ (by omega), Nat.shiftLeft_eq]
        unfold kept rnd
        rw [if_pos hs]
        simp [Nat.mod_one]
      · have e1 : (0 - ((n.log2 : Int) - 52)).toNat = 0 := by omega
        have e2 : ((n.log2 : Int) - 52 - 0).toNat = n.log2 - 52 := by omega
        rw [e1, e2, Nat.shiftLeft_zero, cut_even _ _ _ (by omega)]
        unfold kept
        rw [if_neg hs]
    rw [hk, show ((n.log2 : Int) - 52 - -1074).toNat = n.log2 + 1022 from by omega]
    congr 1
    unfold irung at hr ⊢
    rw [if_neg h0] at hr ⊢
    omega
end Go.Proofs.YtlinoncoanpcdaaGreatDoor
