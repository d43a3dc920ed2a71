/-
  num.ToFloat AND num.ToInt: ToFloat at every int64; its order; ToInt leads back up to 2^53. No condition but the numbers' bounds.
-/
import Derived.Test.YtlinoncoanpcdaaGreatDoorToFloat
namespace Go.Proofs.YtlinoncoanpcdaaGreatDoor
open Go.RowKit Ieee

/-- A whole number's float. -/
def tf (n : Int) : Nat := floatOfInt .f64 n
theorem tofloat_any (n : Int) (w : World) : Calls Tryz.prog 45 #[.int .i64 n] w fun e w' => e = .returned (.float .f64 (tf n)) ∧ w = w' := by
  go_enter Tryz.func45, Tryz.ntmps45
  go_wp2
  go_ret
  exact ⟨rfl, rfl⟩
theorem tf_eq (n : Int) (h : n.natAbs ≤ 9223372036854775808) : tf n = double.word (decide (n < 0)) (irung n.natAbs) := nearest_int _ _ h
theorem word_div (s : Bool) (r : Nat) (h : r < 9223372036854775808) : double.word s r / 9223372036854775808 % 2 = s.toNat ∧ double.word s r % 9223372036854775808 = r := by
  have hw : double.signWeight = 9223372036854775808 := by decide
  unfold Format.word
  rw [hw]
  cases s
  · simp only [Bool.false_eq_true, if_false, Bool.toNat_false]; omega
  · simp only [if_true, Bool.toNat_true]; omega
theorem irung_lt63 (n : Nat) (h : n ≤ 9223372036854775808) : irung n < 9223372036854775808 := by have := irung_lt n h; omega
theorem tf_parts (n : Int) (h : n.natAbs ≤ 9223372036854775808) : tf n / 9223372036854775808 % 2 = (decide (n < 0)).toNat ∧ tf n % 9223372036854775808 = irung n.natAbs := by
  rw [tf_eq n h]
  exact word_div _ _ (irung_lt63 _ h)
theorem tf_nan (n : Int) (h : n.natAbs ≤ 9223372036854775808) : nanB (tf n) = false := by
  rw [nanB_eq, (tf_parts n h).2]
  have := irung_lt _ h
  simp only [decide_eq_false_iff_not]
  omega
theorem tf_place (n : Int) (h : n.natAbs ≤ 9223372036854775808) : placeOf (tf n) = sgn (decide (n < 0)) (irung n.natAbs) := by
  unfold placeOf
  rw [(tf_parts n h).1, (tf_parts n h).2]
  cases decide (n < 0) <;> rfl
theorem irung_pos (n : Nat) (h : n ≠ 0) : 0 < irung n := by
  have := irung_strict (n := 0) (m := n) (by omega) (by decide)
  omega
theorem place_mono (a b : Int) (h : a ≤ b) : sgn (decide (a < 0)) (irung a.natAbs) ≤ sgn (decide (b < 0)) (irung b.natAbs) := by
  by_cases ha : a < 0
  · by_cases hb : b < 0
    · have := irung_mono (n := b.natAbs) (m := a.natAbs) (by omega)
      simp only [sgn, ha, hb, decide_true, if_true]
      omega
    · simp only [sgn, ha, hb, decide_true, decide_false, if_true, Bool.false_eq_true, if_false]
      omega
  · have hb : ¬ b < 0 := by omega
    have := irung_mono (n := a.natAbs) (m := b.natAbs) (by omega)
    simp only [sgn, ha, hb, decide_false, Bool.false_eq_true, if_false]
    omega
theorem place_strict (a b : Int) (h : a < b) (h0 : -9007199254740992 ≤ a) (h1 : a < 9007199254740992) : sgn (decide (a < 0)) (irung a.natAbs) < sgn (decide (b < 0)) (irung b.natAbs) := by
  by_cases ha : a < 0
  · by_cases hb : b < 0
    · have := irung_strict (n := b.natAbs) (m := a.natAbs) (by omega) (by omega)
      simp only [sgn, ha, hb, decide_true, if_true]
      omega
    · have := irung_pos a.natAbs (by omega)
      simp only [sgn, ha, hb, decide_true, decide_false, if_true, Bool.false_eq_true, if_false]
      omega
  · have hb : ¬ b < 0 := by omega
    have := irung_strict (n := a.natAbs) (m := b.natAbs) (by omega) (by omega)
    simp only [sgn, ha, hb, decide_false, Bool.false_eq_true, if_false]
    omega
theorem ord_tf (a b : Int) (ha : a.natAbs ≤ 9223372036854775808) (hb : b.natAbs ≤ 9223372036854775808) : ord (tf a) (tf b) = some (compare (sgn (decide (a < 0)) (irung a.natAbs)) (sgn (decide (b < 0)) (irung b.natAbs))) := by
  rw [ord_place _ _ (tf_nan a ha) (tf_nan b hb), tf_place a ha, tf_place b hb]
theorem not_less (a b : Int) (h : b ≤ a) (ha : a.natAbs ≤ 9223372036854775808) (hb : b.natAbs ≤ 9223372036854775808) : (ord (tf a) (tf b) == some .lt) = false := by
  rw [ord_tf a b ha hb]
  have := place_mono b a h
  cases hc : compare (sgn (decide (a < 0)) (irung a.natAbs)) (sgn (decide (b < 0)) (irung b.natAbs)) with
  | lt => rw [Int.compare_eq_lt] at hc; omega
  | eq => rfl
  | gt => rfl
theorem is_less (a b : Int) (h : a < b) (h0 : -9007199254740992 ≤ a) (h1 : a < 9007199254740992) (ha : a.natAbs ≤ 9223372036854775808) (hb : b.natAbs ≤ 9223372036854775808) : (ord (tf a) (tf b) == some .lt) = true := by
  rw [ord_tf a b ha hb, Int.compare_eq_lt.2 (place_strict a b h h0 h1)]
  rfl
/-! ### ToInt leads back -/
theorem read_tf (n : Int) (h0 : n ≠ 0) (h : n.natAbs ≤ 9007199254740992) : ∃ m i, double.read (tf n) = .number (decide (n < 0)) m i ∧ Toward.zero.cut (decide (n < 0)) (m <<< i.toNat) (-i).toNat = n.natAbs := by
  obtain ⟨p1, p2⟩ := tf_parts n (by omega)
  have hb : double.binade = 4503599627370496 := by decide
  have hi : double.infRung = 9218868437227405312 := by decide
  have hw : double.signWeight = 9223372036854775808 := by decide
  have hl : double.leastPlace = -1074 := by decide
  generalize hN : n.natAbs = N at h p2
  have hN0 : N ≠ 0 := by omega
  have hlt := irung_lt N (by omega)
  have e : double.read (tf n) = .number (decide (n < 0)) (4503599627370496 + irung N % 4503599627370496) (-1074 + ((irung N / 4503599627370496 - 1 : Nat) : Int)) := by
    unfold Format.read
    simp only [hb, hi, hw, hl, p1, p2]
    have h1 : ¬ irung N < 4503599627370496 := by
      have := kept_bounds N hN0
      unfold irung
      rw [if_neg hN0]
      omega
    rw [if_neg h1, if_pos (by omega)]
    congr 1
    cases decide (n < 0) <;> rfl
  refine ⟨_, _, e, ?_⟩
  by_cases hs : N < 9007199254740992
  · have hlog := log2_small N hN0 hs
    have hk := kept_small N hN0 hlog
    have hr : irung N = (N.log2 + 1022) * 4503599627370496 + kept N := by unfold irung; rw [if_neg hN0]
    have hd : irung N / 4503599627370496 - 1 = N.log2 + 1022 := by rw [hr]; omega
    have hm : 4503599627370496 + irung N % 4503599627370496 = kept N := by rw [hr]; omega
    rw [hd, hm]
    have e1 : (-1074 + ((N.log2 + 1022 : Nat) : Int)).toNat = 0 := by omega
    have e2 : (-(-1074 + ((N.log2 + 1022 : Nat) : Int))).toNat = 52 - N.log2 := by omega
    rw [e1, e2, Nat.shiftLeft_zero]
    unfold Toward.cut
    have hlk : (kept N).log2 = 52 := by
      have h1 := (Nat.le_log2 (n := kept N) (k := 52) (by omega)).2 (by omega)
      have h2 := (Nat.log2_lt (n := kept N) (k := 53) (by omega)).2 (by omega)
      omega
    simp only [hlk, Nat.min_eq_left (show 52 - N.log2 ≤ 52 + 2 by omega), Nat.shiftLeft_eq, Nat.one_mul, Bool.toNat_false, Nat.add_zero]
    unfold kept
    rw [if_pos hlog, Nat.mul_div_cancel _ (Nat.two_pow_pos _)]
  · have : N = 9007199254740992 := by omega
    subst this
    cases decide (n < 0) <;> decide
end Go.Proofs.YtlinoncoanpcdaaGreatDoor
