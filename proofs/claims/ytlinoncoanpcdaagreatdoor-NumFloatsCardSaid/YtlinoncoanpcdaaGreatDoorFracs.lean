/-
  PLAIN FACTS: the word nearest to a number that is a natural number times a power of 2, and the word of a quotient to many digits with a last digit for what is left over, are the rung of the fraction that the number is. No condition but those that each theorem says.
-/
import Derived.Test.YtlinoncoanpcdaaGreatDoorRoundFacts
namespace Go.Proofs.YtlinoncoanpcdaaGreatDoor
open Ieee
/-- A fraction lengthened is rounded alike. -/
theorem rnd_scale (n g c : Nat) (hc : 0 < c) : rnd (n * c) (g * c) = rnd n g := by
  unfold rnd
  rw [Nat.mul_div_mul_right n g hc, Nat.mul_mod_mul_right]
  have e1 : (decide (g * c < 2 * (n % g * c))) = decide (g < 2 * (n % g)) := by
    rw [← Nat.mul_assoc]
    exact decide_eq_decide.2 (Nat.mul_lt_mul_right hc)
  have e2 : (g * c == 2 * (n % g * c)) = (g == 2 * (n % g)) := by
    rw [Bool.eq_iff_iff, beq_iff_eq, beq_iff_eq, ← Nat.mul_assoc]
    exact ⟨fun h => Nat.eq_of_mul_eq_mul_right hc h, fun h => congrArg (· * c) h⟩
  rw [e1, e2]
theorem rnd_same (n g n' g' : Nat) (hg : 0 < g) (hg' : 0 < g') (h : n * g' = n' * g) : rnd n g = rnd n' g' := by
  rw [← rnd_scale n g g' hg', ← rnd_scale n' g' g hg, h, Nat.mul_comm g g']
/-- What is below a quarter of the gap is nought. -/
theorem rnd_small (n g : Nat) (h : 2 * n < g) : rnd n g = 0 := by
  unfold rnd
  rw [Nat.div_eq_of_lt (by omega), Nat.mod_eq_of_lt (by omega)]
  have h1 : ¬ g < 2 * n := by omega
  have h2 : (g == 2 * n) = false := beq_eq_false_iff_ne.2 (by omega)
  simp [h1, h2]
theorem cut_any (neg : Bool) (n d : Nat) (h0 : n ≠ 0) : Toward.even.cut neg n d = rnd n (2 ^ d) := by
  by_cases h : d ≤ n.log2 + 2
  · exact cut_even neg n d h
  · have hb := (log2_bounds n h0).2
    have e : Toward.even.cut neg n d = Toward.even.cut neg n (n.log2 + 2) := by
      unfold Toward.cut
      rw [Nat.min_eq_right (by omega : n.log2 + 2 ≤ d), Nat.min_self]
    have p1 : 2 ^ (n.log2 + 2) = 2 * 2 ^ (n.log2 + 1) := by rw [Nat.pow_succ]; omega
    have p2 : 2 ^ (n.log2 + 2) ≤ 2 ^ d := Nat.pow_le_pow_right (by decide) (by omega)
    rw [e, cut_even neg n _ (Nat.le_refl _), rnd_small _ _ (by omega), rnd_small _ _ (by omega)]
/-- Below1 is a comparison of the fraction with a power of 2, whatever the powers are laid out as. -/
theorem below1_same (P Q M : Nat) (p k : Int) (hv : P * 2 ^ (-p).toNat = M * Q * 2 ^ p.toNat) (hQ : 0 < Q) : Below1 P Q k ↔ M * 2 ^ (p + k).toNat < 2 ^ (-(p + k)).toNat := by
  unfold Below1
  have hp1 := Nat.two_pow_pos (-p).toNat
  have hp2 := Nat.two_pow_pos p.toNat
  have hk1 := Nat.two_pow_pos k.toNat
  have hk2 := Nat.two_pow_pos (-k).toNat
  have ha := Nat.two_pow_pos (-(p + k)).toNat
  have hb := Nat.two_pow_pos (p + k).toNat
  -- multiply both sides by 2 ^ (-p) and by 2 ^ (-(p+k))
  have e0 : 2 ^ p.toNat * 2 ^ k.toNat * 2 ^ (-(p + k)).toNat = 2 ^ (p + k).toNat * (2 ^ (-p).toNat * 2 ^ (-k).toNat) := by
    rw [← Nat.pow_add, ← Nat.pow_add, ← Nat.pow_add, ← Nat.pow_add]
    congr 1
    omega
  have hL : P * 2 ^ k.toNat * (2 ^ (-p).toNat * 2 ^ (-(p + k)).toNat) = M * 2 ^ (p + k).toNat * (Q * 2 ^ (-p).toNat * 2 ^ (-k).toNat) := by
    calc P * 2 ^ k.toNat * (2 ^ (-p).toNat * 2 ^ (-(p + k)).toNat) = P * 2 ^ (-p).toNat * (2 ^ k.toNat * 2 ^ (-(p + k)).toNat) := by ac_rfl
      _ = M * Q * (2 ^ p.toNat * 2 ^ k.toNat * 2 ^ (-(p + k)).toNat) := by rw [hv]; ac_rfl
      _ = M * 2 ^ (p + k).toNat * (Q * 2 ^ (-p).toNat * 2 ^ (-k).toNat) := by rw [e0]; ac_rfl
  have hR : Q * 2 ^ (-k).toNat * (2 ^ (-p).toNat * 2 ^ (-(p + k)).toNat) = 2 ^ (-(p + k)).toNat * (Q * 2 ^ (-p).toNat * 2 ^ (-k).toNat) := by ac_rfl
  have c1 : 0 < 2 ^ (-p).toNat * 2 ^ (-(p + k)).toNat := Nat.mul_pos hp1 ha
  have c2 : 0 < Q * 2 ^ (-p).toNat * 2 ^ (-k).toNat := Nat.mul_pos (Nat.mul_pos hQ hp1) hk2
  rw [← Nat.mul_lt_mul_right c1, hL, hR, Nat.mul_lt_mul_right c2]
theorem pow_bits (M : Nat) (h : M ≠ 0) (q : Int) : M * 2 ^ q.toNat < 2 ^ (-q).toNat ↔ (M.log2 : Int) + 1 ≤ -q := by
  obtain ⟨h1, h2⟩ := log2_bounds M h
  constructor
  · intro hlt
    by_cases hq : 0 ≤ q
    · rw [show (-q).toNat = 0 by omega, Nat.pow_zero] at hlt
      have := Nat.two_pow_pos q.toNat
      have : 1 * 1 ≤ M * 2 ^ q.toNat := Nat.mul_le_mul (by omega) this
      omega
    · rw [show q.toNat = 0 by omega, Nat.pow_zero, Nat.mul_one] at hlt
      have h3 : 2 ^ M.log2 < 2 ^ (-q).toNat := Nat.lt_of_le_of_lt h1 hlt
      have := (Nat.pow_lt_pow_iff_right (by decide : 1 < 2)).1 h3
      omega
  · intro hle
    rw [show q.toNat = 0 by omega, Nat.pow_zero, Nat.mul_one]
    exact Nat.lt_of_lt_of_le h2 (Nat.pow_le_pow_right (by decide) (by omega))
/-- The place of the last digit kept, of a number that is M times a power of 2. -/
theorem isE_last (P Q M : Nat) (p E : Int) (hv : P * 2 ^ (-p).toNat = M * Q * 2 ^ p.toNat) (hQ : 0 < Q) (hM : M ≠ 0) (h : IsE P Q E) : E = max (p + M.log2 - 52) (-1074) := by
  obtain ⟨h0, h1, h2⟩ := h
  rw [below1_same P Q M p _ hv hQ, pow_bits M hM] at h1
  rcases h2 with h2 | h2
  · omega
  · rw [below1_same P Q M p _ hv hQ, pow_bits M hM] at h2
    omega
/-- The word nearest to M times a power of 2 is the rung of the fraction that it is. -/
theorem nearest_frac (neg : Bool) (P Q M : Nat) (p E : Int) (hv : P * 2 ^ (-p).toNat = M * Q * 2 ^ p.toNat) (hQ : 0 < Q) (hM : M ≠ 0) (h : IsE P Q E) : double.nearest neg M p = double.word neg (frung P Q E) := by
  have hE := isE_last P Q M p E hv hQ hM h
  have hb : double.binade = 4503599627370496 := by decide
  have hi : double.infRung = 9218868437227405312 := by decide
  have hl : double.leastPlace = -1074 := by decide
  have hf : (double.fractionBits : Int) = 52 := by decide
  unfold Format.nearest
  rw [if_neg hM]
  simp only [hb, hi, hl, hf, ← hE]
  have hs : M <<< (p - E).toNat = M * 2 ^ (p - E).toNat := Nat.shiftLeft_eq _ _
  rw [hs, cut_any neg _ _ (Nat.mul_ne_zero hM (Nat.ne_of_gt (Nat.two_pow_pos _)))]
  unfold frung
  have hr : rnd (M * 2 ^ (p - E).toNat) (2 ^ (E - p).toNat) = rnd (P * 2 ^ (-E).toNat) (Q * 2 ^ E.toNat) := by
    apply rnd_same _ _ _ _ (Nat.two_pow_pos _) (Nat.mul_pos hQ (Nat.two_pow_pos _))
    have hp1 := Nat.two_pow_pos (-p).toNat
    apply Nat.eq_of_mul_eq_mul_right hp1
    have e0 : 2 ^ (p - E).toNat * 2 ^ E.toNat * 2 ^ (-p).toNat = 2 ^ p.toNat * (2 ^ (-E).toNat * 2 ^ (E - p).toNat) := by
      rw [← Nat.pow_add, ← Nat.pow_add, ← Nat.pow_add, ← Nat.pow_add]
      congr 1
      omega
    calc M * 2 ^ (p - E).toNat * (Q * 2 ^ E.toNat) * 2 ^ (-p).toNat = M * Q * (2 ^ (p - E).toNat * 2 ^ E.toNat * 2 ^ (-p).toNat) := by ac_rfl
      _ = M * Q * 2 ^ p.toNat * (2 ^ (-E).toNat * 2 ^ (E - p).toNat) := by rw [e0]; ac_rfl
      _ = P * 2 ^ (-E).toNat * 2 ^ (E - p).toNat * 2 ^ (-p).toNat := by rw [← hv]; ac_rfl
  rw [hr, show (E - -1074).toNat = (E + 1074).toNat from rfl]
/-- A quotient to many digits and one more, which is 1 where anything is left over, is rounded as the quotient itself. -/
theorem rnd_sticky (D n g : Nat) (hn : 0 < n) (hg : 0 < g) (he : g % 2 = 0) : rnd (2 * (D / n) + (D % n != 0).toNat) (2 * g) = rnd D (n * g) := by
  obtain ⟨h, rfl⟩ : ∃ h, g = 2 * h := ⟨g / 2, by omega⟩
  generalize hs : (D % n != 0).toNat = s
  have hs1 : s ≤ 1 := by rw [← hs]; exact Bool.toNat_le _
  have hs0 : s = 0 ↔ D % n = 0 := by
    rw [← hs]
    by_cases c : D % n = 0
    · simp [c]
    · simp [c, bne]
  have hr : D % n < n := Nat.mod_lt _ hn
  have eD := Nat.div_add_mod D n
  generalize D / n = q at *
  generalize D % n = r at *
  subst eD
  have eq := Nat.div_add_mod q (2 * h)
  have hrem : q % (2 * h) < 2 * h := Nat.mod_lt _ hg
  unfold rnd
  have d1 : (2 * q + s) / (2 * (2 * h)) = q / (2 * h) := by
    rw [← Nat.div_div_eq_div_mul, show (2 * q + s) / 2 = q by omega]
  have d2 : (n * q + r) / (n * (2 * h)) = q / (2 * h) := by
    rw [← Nat.div_div_eq_div_mul, Nat.mul_add_div hn, Nat.div_eq_of_lt hr, Nat.add_zero]
  have m1 : (2 * q + s) % (2 * (2 * h)) = 2 * (q % (2 * h)) + s := by
    have := Nat.div_add_mod (2 * q + s) (2 * (2 * h))
    rw [d1, show 2 * (2 * h) * (q / (2 * h)) = 2 * (2 * h * (q / (2 * h))) by ac_rfl] at this
    omega
  have m2 : (n * q + r) % (n * (2 * h)) = n * (q % (2 * h)) + r := by
    have := Nat.div_add_mod (n * q + r) (n * (2 * h))
    rw [d2, Nat.mul_assoc] at this
    have e3 : n * q = n * (2 * h * (q / (2 * h))) + n * (q % (2 * h)) := by rw [← Nat.mul_add, eq]
    omega
  rw [d1, d2, m1, m2]
  generalize q % (2 * h) = t at *
  have c1 : (decide (2 * (2 * h) < 2 * (2 * t + s))) = decide (n * (2 * h) < 2 * (n * t + r)) := by
    apply decide_eq_decide.2
    rcases Nat.lt_trichotomy t h with ht | ht | ht
    · have : n * (t + 1) ≤ n * h := Nat.mul_le_mul_left n ht
      rw [Nat.mul_add, Nat.mul_one] at this
      have e : n * (2 * h) = 2 * (n * h) := by ac_rfl
      omega
    · subst ht
      have e : n * (2 * t) = 2 * (n * t) := by ac_rfl
      omega
    · have : n * (h + 1) ≤ n * t := Nat.mul_le_mul_left n ht
      rw [Nat.mul_add, Nat.mul_one] at this
      have e : n * (2 * h) = 2 * (n * h) := by ac_rfl
      omega
  have c2 : (2 * (2 * h) == 2 * (2 * t + s)) = (n * (2 * h) == 2 * (n * t + r)) := by
    rw [Bool.eq_iff_iff, beq_iff_eq, beq_iff_eq]
    rcases Nat.lt_trichotomy t h with ht | ht | ht
    · have : n * (t + 1) ≤ n * h := Nat.mul_le_mul_left n ht
      rw [Nat.mul_add, Nat.mul_one] at this
      have e : n * (2 * h) = 2 * (n * h) := by ac_rfl
      omega
    · subst ht
      have e : n * (2 * t) = 2 * (n * t) := by ac_rfl
      omega
    · have : n * (h + 1) ≤ n * t := Nat.mul_le_mul_left n ht
      rw [Nat.mul_add, Nat.mul_one] at this
      have e : n * (2 * h) = 2 * (n * h) := by ac_rfl
      omega
  rw [c1, c2]
theorem below1_same2 (P Q D n : Nat) (p k : Int) (hv : P * n * 2 ^ (-p).toNat = D * Q * 2 ^ p.toNat) (hQ : 0 < Q) (hn : 0 < n) : Below1 P Q k ↔ D * 2 ^ (p + k).toNat < n * 2 ^ (-(p + k)).toNat := by
  unfold Below1
  have hp1 := Nat.two_pow_pos (-p).toNat
  have hk2 := Nat.two_pow_pos (-k).toNat
  have ha := Nat.two_pow_pos (-(p + k)).toNat
  have e0 : 2 ^ p.toNat * 2 ^ k.toNat * 2 ^ (-(p + k)).toNat = 2 ^ (p + k).toNat * (2 ^ (-p).toNat * 2 ^ (-k).toNat) := by
    rw [← Nat.pow_add, ← Nat.pow_add, ← Nat.pow_add, ← Nat.pow_add]
    congr 1
    omega
  have hL : P * 2 ^ k.toNat * (n * 2 ^ (-p).toNat * 2 ^ (-(p + k)).toNat) = D * 2 ^ (p + k).toNat * (Q * 2 ^ (-p).toNat * 2 ^ (-k).toNat) := by
    calc P * 2 ^ k.toNat * (n * 2 ^ (-p).toNat * 2 ^ (-(p + k)).toNat) = P * n * 2 ^ (-p).toNat * (2 ^ k.toNat * 2 ^ (-(p + k)).toNat) := by ac_rfl
      _ = D * Q * (2 ^ p.toNat * 2 ^ k.toNat * 2 ^ (-(p + k)).toNat) := by rw [hv]; ac_rfl
      _ = D * 2 ^ (p + k).toNat * (Q * 2 ^ (-p).toNat * 2 ^ (-k).toNat) := by rw [e0]; ac_rfl
  have hR : Q * 2 ^ (-k).toNat * (n * 2 ^ (-p).toNat * 2 ^ (-(p + k)).toNat) = n * 2 ^ (-(p + k)).toNat * (Q * 2 ^ (-p).toNat * 2 ^ (-k).toNat) := by ac_rfl
  have c1 : 0 < n * 2 ^ (-p).toNat * 2 ^ (-(p + k)).toNat := Nat.mul_pos (Nat.mul_pos hn hp1) ha
  have c2 : 0 < Q * 2 ^ (-p).toNat * 2 ^ (-k).toNat := Nat.mul_pos (Nat.mul_pos hQ hp1) hk2
  rw [← Nat.mul_lt_mul_right c1, hL, hR, Nat.mul_lt_mul_right c2]
theorem quot_bits (D n : Nat) (hn : 0 < n) (hq : D / n ≠ 0) (y : Int) : D * 2 ^ y.toNat < n * 2 ^ (-y).toNat ↔ ((D / n).log2 : Int) + 1 ≤ -y := by
  obtain ⟨h1, h2⟩ := log2_bounds (D / n) hq
  have hge : n ≤ D := by
    rcases Nat.lt_or_ge D n with h | h
    · exact absurd (Nat.div_eq_of_lt h) hq
    · exact h
  by_cases hy : 0 ≤ y
  · constructor
    · intro h
      rw [show (-y).toNat = 0 by omega, Nat.pow_zero, Nat.mul_one] at h
      have := Nat.le_mul_of_pos_right D (Nat.two_pow_pos y.toNat)
      omega
    · intro h; omega
  · rw [show y.toNat = 0 by omega, Nat.pow_zero, Nat.mul_one, Nat.mul_comm n, ← Nat.div_lt_iff_lt_mul hn]
    constructor
    · intro h
      have h3 : 2 ^ (D / n).log2 < 2 ^ (-y).toNat := Nat.lt_of_le_of_lt h1 h
      have := (Nat.pow_lt_pow_iff_right (by decide : 1 < 2)).1 h3
      omega
    · intro h
      exact Nat.lt_of_lt_of_le h2 (Nat.pow_le_pow_right (by decide) (by omega))
theorem log2_double (q s : Nat) (hq : q ≠ 0) (hs : s ≤ 1) : (2 * q + s).log2 = q.log2 + 1 := by
  obtain ⟨h1, h2⟩ := log2_bounds q hq
  have hne : 2 * q + s ≠ 0 := by omega
  have a1 : 2 ^ (q.log2 + 1) = 2 * 2 ^ q.log2 := by rw [Nat.pow_succ]; omega
  have a2 : 2 ^ (q.log2 + 1 + 1) = 2 * 2 ^ (q.log2 + 1) := by rw [Nat.pow_succ]; omega
  have l1 : q.log2 + 1 ≤ (2 * q + s).log2 := (Nat.le_log2 hne).2 (by omega)
  have l2 : (2 * q + s).log2 < q.log2 + 1 + 1 := (Nat.log2_lt hne).2 (by omega)
  omega
/-- The quotient's word is the rung of the fraction. -/
theorem nearest_quot (neg : Bool) (P Q m n : Nat) (d E : Int) (hv : P * n * 2 ^ (-d).toNat = m * Q * 2 ^ d.toNat) (hQ : 0 < Q) (hm : m ≠ 0) (hn : n ≠ 0) (hs : m.log2 ≤ 54) (h : IsE P Q E) :
    double.nearest neg (2 * (m <<< (54 + n.log2 - m.log2) / n) + (m <<< (54 + n.log2 - m.log2) % n != 0).toNat) (d - (54 + n.log2 - m.log2 : Nat) - 1) = double.word neg (frung P Q E) := by
  generalize hk : 54 + n.log2 - m.log2 = k
  rw [Nat.shiftLeft_eq]
  have hn0 : 0 < n := by omega
  have hmb := (log2_bounds m hm).1
  have hnb := (log2_bounds n hn).2
  -- the digits
  have hD : 2 ^ 53 * n ≤ m * 2 ^ k := by
    have a1 : 2 ^ m.log2 * 2 ^ k ≤ m * 2 ^ k := Nat.mul_le_mul_right _ hmb
    rw [← Nat.pow_add, show m.log2 + k = 53 + (n.log2 + 1) by omega, Nat.pow_add] at a1
    exact Nat.le_trans (Nat.mul_le_mul_left _ (Nat.le_of_lt hnb)) a1
  have hq : 2 ^ 53 ≤ m * 2 ^ k / n := (Nat.le_div_iff_mul_le hn0).2 hD
  have hp53 : (2 : Nat) ^ 53 ≠ 0 := by decide
  have hq0 : m * 2 ^ k / n ≠ 0 := by have := Nat.two_pow_pos 53; omega
  have hql : 53 ≤ (m * 2 ^ k / n).log2 := (Nat.le_log2 hq0).2 hq
  have hvD : P * n * 2 ^ (-(d - k)).toNat = m * 2 ^ k * Q * 2 ^ (d - k).toNat := by
    have hp1 := Nat.two_pow_pos (-d).toNat
    apply Nat.eq_of_mul_eq_mul_right hp1
    have e0 : 2 ^ d.toNat * 2 ^ (-(d - k)).toNat = 2 ^ k * 2 ^ (d - k).toNat * 2 ^ (-d).toNat := by
      rw [← Nat.pow_add, ← Nat.pow_add, ← Nat.pow_add]
      congr 1
      omega
    calc P * n * 2 ^ (-(d - k)).toNat * 2 ^ (-d).toNat = P * n * 2 ^ (-d).toNat * 2 ^ (-(d - k)).toNat := by ac_rfl
      _ = m * Q * (2 ^ d.toNat * 2 ^ (-(d - k)).toNat) := by rw [hv]; ac_rfl
      _ = m * 2 ^ k * Q * 2 ^ (d - k).toNat * 2 ^ (-d).toNat := by rw [e0]; ac_rfl
  generalize hDe : m * 2 ^ k = D at *
  generalize hpe : d - (k : Int) = p at *
  have hE : E = max (p + (D / n).log2 - 52) (-1074) := by
    obtain ⟨h0, h1, h2⟩ := h
    rw [below1_same2 P Q D n p _ hvD hQ hn0, quot_bits D n hn0 hq0] at h1
    rcases h2 with h2 | h2
    · omega
    · rw [below1_same2 P Q D n p _ hvD hQ hn0, quot_bits D n hn0 hq0] at h2
      omega
  have hs1 : (D % n != 0).toNat ≤ 1 := Bool.toNat_le _
  have hlog := log2_double (D / n) (D % n != 0).toNat hq0 hs1
  have hb : double.binade = 4503599627370496 := by decide
  have hi : double.infRung = 9218868437227405312 := by decide
  have hl : double.leastPlace = -1074 := by decide
  have hf : (double.fractionBits : Int) = 52 := by decide
  have hM : 2 * (D / n) + (D % n != 0).toNat ≠ 0 := by omega
  unfold Format.nearest
  rw [if_neg hM]
  simp only [hb, hi, hl, hf, hlog]
  rw [show max (p - 1 + ((D / n).log2 + 1 : Nat) - 52) (-1074) = E by rw [hE]; congr 1; omega]
  rw [show (p - 1 - E).toNat = 0 by omega, Nat.shiftLeft_zero, cut_any neg _ _ hM]
  obtain ⟨b, hbe⟩ : ∃ b : Nat, E - p = (b + 1 : Nat) := ⟨(E - p).toNat - 1, by omega⟩
  rw [show (E - (p - 1)).toNat = b + 1 + 1 by omega, show 2 ^ (b + 1 + 1) = 2 * 2 ^ (b + 1) by rw [Nat.pow_succ]; omega,
    rnd_sticky D n (2 ^ (b + 1)) hn0 (Nat.two_pow_pos _) (by rw [Nat.pow_succ]; omega)]
  unfold frung
  have hr : rnd D (n * 2 ^ (b + 1)) = rnd (P * 2 ^ (-E).toNat) (Q * 2 ^ E.toNat) := by
    apply rnd_same _ _ _ _ (Nat.mul_pos hn0 (Nat.two_pow_pos _)) (Nat.mul_pos hQ (Nat.two_pow_pos _))
    have hp1 := Nat.two_pow_pos (-p).toNat
    apply Nat.eq_of_mul_eq_mul_right hp1
    have e0 : 2 ^ E.toNat * 2 ^ (-p).toNat = 2 ^ p.toNat * (2 ^ (-E).toNat * 2 ^ (b + 1)) := by
      rw [← Nat.pow_add, ← Nat.pow_add, ← Nat.pow_add]
      congr 1
      omega
    calc D * (Q * 2 ^ E.toNat) * 2 ^ (-p).toNat = D * Q * (2 ^ E.toNat * 2 ^ (-p).toNat) := by ac_rfl
      _ = D * Q * 2 ^ p.toNat * (2 ^ (-E).toNat * 2 ^ (b + 1)) := by rw [e0]; ac_rfl
      _ = P * 2 ^ (-E).toNat * (n * 2 ^ (b + 1)) * 2 ^ (-p).toNat := by rw [← hvD]; ac_rfl
  rw [hr, show (E - -1074).toNat = (E + 1074).toNat from rfl]
end Go.Proofs.YtlinoncoanpcdaaGreatDoor
