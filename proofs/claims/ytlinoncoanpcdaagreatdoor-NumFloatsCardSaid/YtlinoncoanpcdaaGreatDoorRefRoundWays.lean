/-
  THE DOCUMENT's ROUNDING (emendref01.Round): a fraction's float, to the nearest, of two the even one. Condition: both slices read as digits below 65536 without a nought at their end, both numbers above 0.
-/
import Derived.Test.YtlinoncoanpcdaaGreatDoorRoundFacts
namespace Go.Proofs.YtlinoncoanpcdaaGreatDoor
open Go.RowKit
theorem below_digits {P Q : Nat} {E : Int} (h : Below1 P Q (-E - 53)) : P * 2 ^ (-E).toNat < Q * 2 ^ (- -E).toNat * 2 ^ 53 := by
  rw [below1_iff P Q _ (E.toNat + 53) (by omega)] at h
  rw [Nat.mul_assoc, ← Nat.pow_add, show (- -E).toNat = E.toNat from by omega, show (-E).toNat = (-E - 53 + ((E.toNat + 53 : Nat) : Int)).toNat from by omega]
  exact h
theorem norm_pos {l : List Nat} (h : 0 < val l) : 0 < l.length := by
  cases l with
  | nil => simp [val] at h
  | cons x r => simp
theorem rest_mod {N G m : Nat} (h : m = N / G) : N - m * G = N % G := by
  have := Nat.div_add_mod N G
  rw [← h, Nat.mul_comm] at this
  omega
theorem rnd_up {N G m : Nat} {c : Int} (hm : m = N / G) (hc : c = cmpV ((N - m * G) * 2 ^ 1) G) (h : 0 < c ∨ (c = 0 ∧ (m : Int) % 2 = 1)) : rnd N G = m + 1 := by
  rw [rest_mod hm, Nat.pow_one, Nat.mul_comm] at hc
  unfold rnd
  rw [← hm]
  unfold cmpV at hc
  rcases h with h | ⟨h, h2⟩
  · have : G < 2 * (N % G) := by
      split at hc
      · omega
      · split at hc
        · assumption
        · omega
    simp [this]
  · have : G = 2 * (N % G) := by
      split at hc
      · omega
      · split at hc
        · omega
        · omega
    have h3 : m % 2 = 1 := by omega
    simp [← this, h3]
theorem rnd_stay {N G m : Nat} {c : Int} (hm : m = N / G) (hc : c = cmpV ((N - m * G) * 2 ^ 1) G) (h0 : ¬ 0 < c) (h : ¬ (c = 0 ∧ (m : Int) % 2 = 1)) : rnd N G = m := by
  rw [rest_mod hm, Nat.pow_one, Nat.mul_comm] at hc
  unfold rnd
  rw [← hm]
  unfold cmpV at hc
  have a1 : ¬ G < 2 * (N % G) := by
    intro h1
    rw [if_neg (by omega), if_pos h1] at hc
    omega
  have a2 : ¬ (G = 2 * (N % G) ∧ m % 2 = 1) := by
    rintro ⟨h1, h2⟩
    rw [if_neg (by omega), if_neg (by omega)] at hc
    exact h ⟨hc, by omega⟩
  by_cases h1 : G = 2 * (N % G)
  · have : ¬ m % 2 = 1 := fun h2 => a2 ⟨h1, h2⟩
    simp [a1, this]
  · simp [a1, h1]
theorem IsE.big {P Q m : Nat} {E : Int} (h : IsE P Q E) (hQ : 0 < Q) (hm : m = P * 2 ^ (-E).toNat / (Q * 2 ^ (- -E).toNat)) : E = -1074 ∨ 4503599627370496 ≤ m := by
  rcases h.2.2 with h1 | h1
  · exact .inl h1
  · right
    rw [below1_iff P Q _ (E.toNat + 52) (by omega), Nat.pow_add 2 E.toNat, ← Nat.mul_assoc, show (-E - 52 + ((E.toNat + 52 : Nat) : Int)).toNat = (-E).toNat from by omega] at h1
    rw [hm, show (- -E).toNat = E.toNat from by omega]
    refine (Nat.le_div_iff_mul_le (Nat.mul_pos hQ (Nat.two_pow_pos _))).2 ?_
    rw [Nat.mul_comm]
    exact Nat.le_of_not_lt h1
/-- What Round hands back. -/
def RoundEnd (neg : Bool) (P Q : Nat) (w : World) (e : Ending) (w' : World) : Prop :=
  ∃ E, IsE P Q E ∧ e = .returned (.int .u64 ((frung P Q E : Int) + (if neg then 9223372036854775808 else 0))) ∧ Below w.heap.size w w'
theorem wrap_u64 (n : Int) : IntKind.u64.wrap n = n % 18446744073709551616 := by
  unfold IntKind.wrap
  simp [IntKind.signed, IntKind.bits]
theorem fin_top {F R : Nat} {E Y : Int} (hF : F = min ((E + 1074).toNat * 4503599627370496 + R) 9218868437227405312) (hY : (R : Int) = Y) (h : 971 < E ∧ 4503599627370496 ≤ Y ∨ Y = 9007199254740992 ∧ 970 < E) : (F : Int) = 9218868437227405312 := by omega
theorem fin_in {F R : Nat} {E Y : Int} (hF : F = min ((E + 1074).toNat * 4503599627370496 + R) 9218868437227405312) (hY : (R : Int) = Y) (h0 : -1074 ≤ E) (h : E ≤ 971 ∧ Y < 9007199254740992 ∨ Y = 9007199254740992 ∧ E ≤ 970) : (F : Int) = (E + 1074) * 4503599627370496 + Y := by omega
end Go.Proofs.YtlinoncoanpcdaaGreatDoor
