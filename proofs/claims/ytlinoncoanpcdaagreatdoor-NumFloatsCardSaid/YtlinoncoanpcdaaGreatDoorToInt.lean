/-
  WHAT STANDS AHEAD OF A FLOAT's POINT (num.ToInt and emendref01.ToInt): at every word both answer `toIntV`. No condition but the word's bound.
-/
import Derived.Test.YtlinoncoanpcdaaGreatDoorKeeps
namespace Go.Proofs.YtlinoncoanpcdaaGreatDoor
open Go.RowKit Ieee
/-- A rung's digits, and the place of the last one. -/
def sigM (r : Nat) : Nat := if r < 4503599627370496 then r else 4503599627370496 + r % 4503599627370496
def sigE (r : Nat) : Int := if r < 4503599627370496 then -1074 else ((r / 4503599627370496 : Nat) : Int) - 1075
/-- What stands ahead of the point. -/
def mag (r : Nat) : Nat := sigM r * 2 ^ (sigE r).toNat / 2 ^ (-sigE r).toNat
def toIntV (f : Nat) : Int :=
  if nanB f then 0
  else if f % 9223372036854775808 < 4890909195324358656 then sgn (f / 9223372036854775808 % 2 == 1) (mag (f % 9223372036854775808))
  else if f / 9223372036854775808 % 2 == 1 then -9223372036854775808 else 9223372036854775807
theorem cut_zero (s : Bool) (n d : Nat) : Toward.zero.cut s n d = n / 2 ^ d := by
  unfold Toward.cut
  simp only [Bool.toNat_false, Nat.add_zero, Nat.shiftLeft_eq, Nat.one_mul]
  rcases Nat.le_total d (n.log2 + 2) with h | h
  · rw [Nat.min_eq_left h]
  · rw [Nat.min_eq_right h]
    by_cases h0 : n = 0
    · subst h0; simp
    · have hb := (log2_bounds n h0).2
      have e1 : 2 ^ (n.log2 + 1) ≤ 2 ^ (n.log2 + 2) := Nat.pow_le_pow_right (by decide) (by omega)
      have e2 : 2 ^ (n.log2 + 2) ≤ 2 ^ d := Nat.pow_le_pow_right (by decide) h
      rw [Nat.div_eq_of_lt (by omega), Nat.div_eq_of_lt (by omega)]
theorem read_sig (x : Nat) (h : x % 9223372036854775808 < 9218868437227405312) :
    double.read x = .number (x / 9223372036854775808 % 2 == 1) (sigM (x % 9223372036854775808)) (sigE (x % 9223372036854775808)) := by
  have hb : double.binade = 4503599627370496 := by decide
  have hi : double.infRung = 9218868437227405312 := by decide
  have hw : double.signWeight = 9223372036854775808 := by decide
  have hl : double.leastPlace = -1074 := by decide
  unfold Format.read sigM sigE
  simp only [hb, hi, hw, hl]
  by_cases h1 : x % 9223372036854775808 < 4503599627370496
  · rw [if_pos h1, if_pos h1, if_pos h1]
  · rw [if_neg h1, if_pos h, if_neg h1, if_neg h1]
    congr 1
    omega
theorem sigM_lt (r : Nat) : sigM r < 9007199254740992 := by unfold sigM; split <;> omega
theorem mag_low (r : Nat) (h : r < 4890909195324358656) : mag r < 9223372036854775808 := by
  have h1 := sigM_lt r
  have h2 : (sigE r).toNat ≤ 10 := by unfold sigE; split <;> omega
  have h3 : 2 ^ (sigE r).toNat ≤ 2 ^ 10 := Nat.pow_le_pow_right (by decide) h2
  have h4 : sigM r * 2 ^ (sigE r).toNat ≤ sigM r * 1024 := Nat.mul_le_mul_left _ h3
  have h5 : mag r ≤ sigM r * 2 ^ (sigE r).toNat := Nat.div_le_self _ _
  omega
theorem toInt_read (x : Nat) (h : x % 9223372036854775808 < 9218868437227405312) : (double.read x).toInt .zero = some (sgn (x / 9223372036854775808 % 2 == 1) (mag (x % 9223372036854775808))) := by
  rw [read_sig x h]
  unfold Datum.toInt Datum.integral
  simp only [cut_zero, signed, Nat.shiftLeft_eq, Nat.pow_zero, Nat.mul_one]
  rfl
theorem conv_any (x : Nat) (h : x % 9223372036854775808 < 9218868437227405312) (a : Int) (ha : sgn (x / 9223372036854775808 % 2 == 1) (mag (x % 9223372036854775808)) = a) (h1 : -9223372036854775808 ≤ a) (h2 : a ≤ 9223372036854775807) (W : World) :
    (convert 27 2 (.float .f64 x)).run Tryz.prog W = .ok (.int .i64 a) W := by
  have ht : (FloatKind.f64.decode x).toInt .zero = some a := by
    show (Ieee.double.read x).toInt .zero = some a
    rw [toInt_read x h, ha]
  have h3 : ¬ 9223372036854775807 < a := by omega
  simp [convert, run_underlying Tryz.underlying27, run_underlying Tryz.underlying2, Conv.floatToInt, ht, IntKind.min, IntKind.max, IntKind.signed, IntKind.bits, h1, h2]
theorem ord_top (x : Nat) (hn : nanB x = false) : ord x 4890909195324358656 = some (compare (placeOf x) 4890909195324358656) ∧ ord x 14114281232179134464 = some (compare (placeOf x) (-4890909195324358656)) := by
  have c1 : placeOf 4890909195324358656 = 4890909195324358656 := by decide
  have c2 : placeOf 14114281232179134464 = -4890909195324358656 := by decide
  rw [ord_place _ _ hn (by decide), ord_place _ _ hn (by decide), c1, c2]
  exact ⟨rfl, rfl⟩
theorem toint_walk (x : Nat) (hn : nanB x = false) (b1 b2 b3 : Bool) (k1 : (ord x 4890909195324358656 == some .gt) = b1) (k2 : (ord x 4890909195324358656 == some .eq) = b2) (k3 : (ord x 14114281232179134464 == some .lt) = b3)
    (a : Int) (hcv : b1 = false → b2 = false → b3 = false → ∀ W, (convert 27 2 (.float .f64 x)).run Tryz.prog W = .ok (.int .i64 a) W) (w : World) :
    Calls Tryz.prog 47 #[.float .f64 x] w fun e w' => e = .returned (.int .i64 (if b1 || b2 then 9223372036854775807 else if b3 then -9223372036854775808 else a)) ∧ w = w' := by
  have k1 : (FloatKind.f64.format.order x 4890909195324358656 == some Ordering.gt) = b1 := k1
  have k2 : (FloatKind.f64.format.order x 4890909195324358656 == some Ordering.eq) = b2 := k2
  have k3 : (FloatKind.f64.format.order x 14114281232179134464 == some Ordering.lt) = b3 := k3
  cases b1 <;> cases b2 <;> cases b3
  all_goals
    first
    | have hcv := hcv rfl rfl rfl
    | clear hcv
    go_enter Tryz.func47, Tryz.ntmps47
    go_wp2_with fail
    refine (isNaN_any x _).mono ?_
    rintro e w' ⟨rfl, rfl⟩
    rw [hn]
    go_wp2_with fail
    go_ret
    exact ⟨rfl, rfl⟩
theorem toint_nan (x : Nat) (hn : nanB x = true) (w : World) : Calls Tryz.prog 47 #[.float .f64 x] w fun e w' => e = .returned (.int .i64 0) ∧ w = w' := by
  go_enter Tryz.func47, Tryz.ntmps47
  go_wp2_with fail
  refine (isNaN_any x _).mono ?_
  rintro e w' ⟨rfl, rfl⟩
  rw [hn]
  go_wp2_with fail
  go_ret
  exact ⟨rfl, rfl⟩
theorem mag_edge : mag 4890909195324358656 = 9223372036854775808 := by decide
theorem toint_any (x : Nat) (w : World) : Calls Tryz.prog 47 #[.float .f64 x] w fun e w' => e = .returned (.int .i64 (toIntV x)) ∧ w = w' := by
  unfold toIntV
  by_cases hn : nanB x = true
  · rw [if_pos hn]; exact toint_nan x hn w
  · rw [if_neg hn]
    have hn : nanB x = false := by simpa using hn
    obtain ⟨o1, o2⟩ := ord_top x hn
    have hp : placeOf x = sgn (x / 9223372036854775808 % 2 == 1) (x % 9223372036854775808) := rfl
    rw [hp] at o1 o2
    have hW := toint_walk x hn _ _ _ rfl rfl rfl (sgn (x / 9223372036854775808 % 2 == 1) (mag (x % 9223372036854775808)))
    rw [o1, o2] at hW
    have hconv := fun h h1 h2 W => conv_any x h _ rfl h1 h2 W
    generalize hR : x % 9223372036854775808 = r at *
    generalize hS : (x / 9223372036854775808 % 2 == 1) = s at *
    cases s
    · simp only [sgn, Bool.false_eq_true, if_false] at hW hconv ⊢
      by_cases hr : r < 4890909195324358656
      · rw [if_pos hr]
        rw [Int.compare_eq_lt.2 (show (r : Int) < 4890909195324358656 by omega), Int.compare_eq_gt.2 (show -4890909195324358656 < (r : Int) by omega)] at hW
        have := mag_low r hr
        exact hW (fun _ _ _ W => hconv (by omega) (by omega) (by omega) W) w
      · rw [if_neg hr]
        rw [Int.compare_eq_gt.2 (show -4890909195324358656 < (r : Int) by omega)] at hW
        rcases Nat.lt_or_ge 4890909195324358656 r with h9 | h9
        · rw [Int.compare_eq_gt.2 (show 4890909195324358656 < (r : Int) by omega)] at hW
          exact hW (fun h => by cases h) w
        · rw [Int.compare_eq_eq.2 (show (r : Int) = 4890909195324358656 by omega)] at hW
          exact hW (fun _ h => by cases h) w
    · simp only [sgn, if_true] at hW hconv ⊢
      rw [Int.compare_eq_lt.2 (show -(r : Int) < 4890909195324358656 by omega)] at hW
      by_cases hr : r < 4890909195324358656
      · rw [if_pos hr]
        rw [Int.compare_eq_gt.2 (show -4890909195324358656 < -(r : Int) by omega)] at hW
        have := mag_low r hr
        exact hW (fun _ _ _ W => hconv (by omega) (by omega) (by omega) W) w
      · rw [if_neg hr]
        rcases Nat.lt_or_ge 4890909195324358656 r with h9 | h9
        · rw [Int.compare_eq_lt.2 (show -(r : Int) < -4890909195324358656 by omega)] at hW
          exact hW (fun _ _ h => by cases h) w
        · have hrT : r = 4890909195324358656 := by omega
          rw [Int.compare_eq_eq.2 (show -(r : Int) = -4890909195324358656 by omega)] at hW
          have hm : mag r = 9223372036854775808 := by rw [hrT]; exact mag_edge
          rw [hm] at hW hconv
          exact hW (fun _ _ _ W => hconv (by omega) (by decide) (by decide) W) w
end Go.Proofs.YtlinoncoanpcdaaGreatDoor
