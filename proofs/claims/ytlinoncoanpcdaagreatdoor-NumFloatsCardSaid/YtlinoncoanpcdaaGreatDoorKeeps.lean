/-
  NumKeeps (P1.8): for every two int64 the law returns true and leaves all memory that was there as it was. Condition: Facts (the listed variables).
-/
import Derived.Test.YtlinoncoanpcdaaGreatDoorAwake
import Derived.Test.YtlinoncoanpcdaaGreatDoorKeepsFacts
namespace Go.Proofs.YtlinoncoanpcdaaGreatDoor
open Go.RowKit Go.Lib

theorem conv_back (a : Int) (h : a.natAbs ≤ 9007199254740992) (W : World) : (convert 27 2 (.float .f64 (tf a))).run Tryz.prog W = .ok (.int .i64 a) W := by
  have ht : (FloatKind.f64.decode (tf a)).toInt .zero = some a := by
    by_cases h0 : a = 0
    · subst h0
      decide
    · obtain ⟨m, i, e, hc⟩ := read_tf a h0 h
      show (Ieee.double.read (tf a)).toInt .zero = some a
      rw [e]
      unfold Ieee.Datum.toInt Ieee.Datum.integral
      simp only [hc, Ieee.signed, Nat.shiftLeft_zero]
      by_cases hn : a < 0
      · simp only [hn, decide_true, if_true, Option.some.injEq]; omega
      · simp only [hn, decide_false, Bool.false_eq_true, if_false, Option.some.injEq]; omega
  have h1 : -9223372036854775808 ≤ a := by omega
  have h2 : a ≤ 9223372036854775807 := by omega
  have h3 : ¬ 9223372036854775807 < a := by omega
  simp [convert, run_underlying Tryz.underlying27, run_underlying Tryz.underlying2, Conv.floatToInt, ht, IntKind.min, IntKind.max, IntKind.signed, IntKind.bits, h1, h2]
theorem tf_mid (a : Int) (h : a.natAbs ≤ 9007199254740992) : (ord (tf a) 4890909195324358656 == some .gt) = false ∧ (ord (tf a) 4890909195324358656 == some .eq) = false ∧ (ord (tf a) 14114281232179134464 == some .lt) = false := by
  have hn := tf_nan a (by omega)
  have hp := tf_place a (by omega)
  have hr : irung a.natAbs ≤ 4845873199050653696 := by
    have e : irung 9007199254740992 = 4845873199050653696 := by decide
    rw [← e]
    exact irung_mono h
  have c1 : placeOf 4890909195324358656 = 4890909195324358656 := by decide
  have c2 : placeOf 14114281232179134464 = -4890909195324358656 := by decide
  rw [ord_place _ _ hn (by decide), ord_place _ _ hn (by decide), hp, c1, c2]
  have b : -4845873199050653696 ≤ sgn (decide (a < 0)) (irung a.natAbs) ∧ sgn (decide (a < 0)) (irung a.natAbs) ≤ 4845873199050653696 := by
    cases decide (a < 0) <;> simp only [sgn, Bool.false_eq_true, if_true, if_false] <;> omega
  generalize sgn (decide (a < 0)) (irung a.natAbs) = p at b
  rw [Int.compare_eq_lt.2 (show p < 4890909195324358656 by omega), Int.compare_eq_gt.2 (show -4890909195324358656 < p by omega)]
  exact ⟨rfl, rfl, rfl⟩
theorem toint_back (a : Int) (h : a.natAbs ≤ 9007199254740992) (w : World) : Calls Tryz.prog 47 #[.float .f64 (tf a)] w fun e w' => e = .returned (.int .i64 a) ∧ w = w' := by
  have hcv := fun W => conv_back a h W
  have hn := tf_nan a (by omega)
  obtain ⟨g1, g2, g3⟩ := tf_mid a h
  have k1 : (FloatKind.f64.format.order (tf a) 4890909195324358656 == some Ordering.gt) = false := g1
  have k2 : (FloatKind.f64.format.order (tf a) 4890909195324358656 == some Ordering.eq) = false := g2
  have k3 : (FloatKind.f64.format.order (tf a) 14114281232179134464 == some Ordering.lt) = false := g3
  clear g1 g2 g3 h
  generalize tf a = x at hcv hn k1 k2 k3 ⊢
  go_enter Tryz.func47, Tryz.ntmps47
  go_wp2_with fail
  refine (isNaN_any x _).mono ?_
  rintro e w' ⟨rfl, rfl⟩
  rw [hn]
  go_wp2_with fail
  go_ret
  exact ⟨rfl, rfl⟩
set_option maxRecDepth 100000 in
set_option maxHeartbeats 1000000 in
theorem keeps_lt_low (a b : Int) (hab : a < b) (hr : a < -9007199254740992) (ha : a.natAbs ≤ 9223372036854775808) (hb : b.natAbs ≤ 9223372036854775808) (w : World) (h : Facts w) :
    Calls Tryz.prog 12 #[.int .i64 a, .int .i64 b] w fun e w' => e = .returned (.bool true) ∧ Below w.heap.size w w' := by
  have f1 : (ord (tf b) (tf a) == some .lt) = false := not_less b a (by omega) hb ha
  have HF := Lib.hid h
  clear h ha hb
  go_enter Tryz.func12, Tryz.ntmps12
  go_wp2_with fail
  refine (tofloat_any _ _).mono ?_
  rintro e w' ⟨rfl, rfl⟩
  go_wp2_with fail
  refine (tofloat_any _ _).mono ?_
  rintro e w' ⟨rfl, rfl⟩
  go_wp2_with fail
  refine (fless_any _ _ _).mono ?_
  rintro e w' ⟨rfl, rfl⟩
  go_wp2_with fail
  refine (awake_any _ HF.out).mono ?_
  rintro e w1 ⟨rfl, k1⟩
  have B1 := Lib.hid k1
  clear k1
  go_wp2_with fail
  go_ret
  exact ⟨rfl, B1.out⟩
set_option maxRecDepth 100000 in
set_option maxHeartbeats 1000000 in
theorem keeps_lt_mid (a b : Int) (hab : a < b) (hr : -9007199254740992 ≤ a) (hr' : a < 9007199254740992) (ha : a.natAbs ≤ 9223372036854775808) (hb : b.natAbs ≤ 9223372036854775808) (w : World) (h : Facts w) :
    Calls Tryz.prog 12 #[.int .i64 a, .int .i64 b] w fun e w' => e = .returned (.bool true) ∧ Below w.heap.size w w' := by
  have f1 : (ord (tf b) (tf a) == some .lt) = false := not_less b a (by omega) hb ha
  have f2 : (ord (tf a) (tf b) == some .lt) = true := is_less a b hab hr hr' ha hb
  have HI := Lib.hid (fun w => toint_back a (by omega) w)
  have HF := Lib.hid h
  clear h ha hb
  go_enter Tryz.func12, Tryz.ntmps12
  go_wp2_with fail
  refine (tofloat_any _ _).mono ?_
  rintro e w' ⟨rfl, rfl⟩
  go_wp2_with fail
  refine (tofloat_any _ _).mono ?_
  rintro e w' ⟨rfl, rfl⟩
  go_wp2_with fail
  refine (fless_any _ _ _).mono ?_
  rintro e w' ⟨rfl, rfl⟩
  go_wp2_with fail
  refine (HI.out _).mono ?_
  rintro e w' ⟨rfl, rfl⟩
  go_wp2_with fail
  refine (fless_any _ _ _).mono ?_
  rintro e w' ⟨rfl, rfl⟩
  go_wp2_with fail
  refine (awake_any _ HF.out).mono ?_
  rintro e w1 ⟨rfl, k1⟩
  have B1 := Lib.hid k1
  clear k1
  go_wp2_with fail
  go_ret
  exact ⟨rfl, B1.out⟩
set_option maxRecDepth 100000 in
set_option maxHeartbeats 1000000 in
theorem keeps_lt_top (a b : Int) (hab : a < b) (hr : 9007199254740992 ≤ a) (hr' : a ≤ 9007199254740992) (ha : a.natAbs ≤ 9223372036854775808) (hb : b.natAbs ≤ 9223372036854775808) (w : World) (h : Facts w) :
    Calls Tryz.prog 12 #[.int .i64 a, .int .i64 b] w fun e w' => e = .returned (.bool true) ∧ Below w.heap.size w w' := by
  have f1 : (ord (tf b) (tf a) == some .lt) = false := not_less b a (by omega) hb ha
  have HI := Lib.hid (fun w => toint_back a (by omega) w)
  have HF := Lib.hid h
  clear h ha hb
  go_enter Tryz.func12, Tryz.ntmps12
  go_wp2_with fail
  refine (tofloat_any _ _).mono ?_
  rintro e w' ⟨rfl, rfl⟩
  go_wp2_with fail
  refine (tofloat_any _ _).mono ?_
  rintro e w' ⟨rfl, rfl⟩
  go_wp2_with fail
  refine (fless_any _ _ _).mono ?_
  rintro e w' ⟨rfl, rfl⟩
  go_wp2_with fail
  refine (HI.out _).mono ?_
  rintro e w' ⟨rfl, rfl⟩
  go_wp2_with fail
  refine (awake_any _ HF.out).mono ?_
  rintro e w1 ⟨rfl, k1⟩
  have B1 := Lib.hid k1
  clear k1
  go_wp2_with fail
  go_ret
  exact ⟨rfl, B1.out⟩
set_option maxRecDepth 100000 in
set_option maxHeartbeats 1000000 in
theorem keeps_lt_high (a b : Int) (hab : a < b) (hr : 9007199254740992 < a) (ha : a.natAbs ≤ 9223372036854775808) (hb : b.natAbs ≤ 9223372036854775808) (w : World) (h : Facts w) :
    Calls Tryz.prog 12 #[.int .i64 a, .int .i64 b] w fun e w' => e = .returned (.bool true) ∧ Below w.heap.size w w' := by
  have f1 : (ord (tf b) (tf a) == some .lt) = false := not_less b a (by omega) hb ha
  have HF := Lib.hid h
  clear h ha hb
  go_enter Tryz.func12, Tryz.ntmps12
  go_wp2_with fail
  refine (tofloat_any _ _).mono ?_
  rintro e w' ⟨rfl, rfl⟩
  go_wp2_with fail
  refine (tofloat_any _ _).mono ?_
  rintro e w' ⟨rfl, rfl⟩
  go_wp2_with fail
  refine (fless_any _ _ _).mono ?_
  rintro e w' ⟨rfl, rfl⟩
  go_wp2_with fail
  refine (awake_any _ HF.out).mono ?_
  rintro e w1 ⟨rfl, k1⟩
  have B1 := Lib.hid k1
  clear k1
  go_wp2_with fail
  go_ret
  exact ⟨rfl, B1.out⟩
set_option maxRecDepth 100000 in
set_option maxHeartbeats 1000000 in
theorem keeps_eq_low (a b : Int) (hab : a = b) (hr : a < -9007199254740992) (ha : a.natAbs ≤ 9223372036854775808) (hb : b.natAbs ≤ 9223372036854775808) (w : World) (h : Facts w) :
    Calls Tryz.prog 12 #[.int .i64 a, .int .i64 b] w fun e w' => e = .returned (.bool true) ∧ Below w.heap.size w w' := by
  have f1 : (ord (tf b) (tf a) == some .lt) = false := not_less b a (by omega) hb ha
  have f2 : (ord (tf a) (tf b) == some .lt) = false := not_less a b (by omega) ha hb
  have HF := Lib.hid h
  clear h ha hb
  subst hab
  go_enter Tryz.func12, Tryz.ntmps12
  go_wp2_with fail
  refine (tofloat_any _ _).mono ?_
  rintro e w' ⟨rfl, rfl⟩
  go_wp2_with fail
  refine (tofloat_any _ _).mono ?_
  rintro e w' ⟨rfl, rfl⟩
  go_wp2_with fail
  refine (fless_any _ _ _).mono ?_
  rintro e w' ⟨rfl, rfl⟩
  go_wp2_with fail
  refine (fless_any _ _ _).mono ?_
  rintro e w' ⟨rfl, rfl⟩
  go_wp2_with fail
  refine (awake_any _ HF.out).mono ?_
  rintro e w1 ⟨rfl, k1⟩
  have B1 := Lib.hid k1
  clear k1
  go_wp2_with fail
  go_ret
  exact ⟨rfl, B1.out⟩
set_option maxRecDepth 100000 in
set_option maxHeartbeats 1000000 in
theorem keeps_eq_mid (a b : Int) (hab : a = b) (hr : -9007199254740992 ≤ a) (hr' : a < 9007199254740992) (ha : a.natAbs ≤ 9223372036854775808) (hb : b.natAbs ≤ 9223372036854775808) (w : World) (h : Facts w) :
    Calls Tryz.prog 12 #[.int .i64 a, .int .i64 b] w fun e w' => e = .returned (.bool true) ∧ Below w.heap.size w w' := by
  have f1 : (ord (tf b) (tf a) == some .lt) = false := not_less b a (by omega) hb ha
  have f2 : (ord (tf a) (tf b) == some .lt) = false := not_less a b (by omega) ha hb
  have HI := Lib.hid (fun w => toint_back a (by omega) w)
  have HF := Lib.hid h
  clear h ha hb
  subst hab
  go_enter Tryz.func12, Tryz.ntmps12
  go_wp2_with fail
  refine (tofloat_any _ _).mono ?_
  rintro e w' ⟨rfl, rfl⟩
  go_wp2_with fail
  refine (tofloat_any _ _).mono ?_
  rintro e w' ⟨rfl, rfl⟩
  go_wp2_with fail
  refine (fless_any _ _ _).mono ?_
  rintro e w' ⟨rfl, rfl⟩
  go_wp2_with fail
  refine (fless_any _ _ _).mono ?_
  rintro e w' ⟨rfl, rfl⟩
  go_wp2_with fail
  refine (HI.out _).mono ?_
  rintro e w' ⟨rfl, rfl⟩
  go_wp2_with fail
  refine (fless_any _ _ _).mono ?_
  rintro e w' ⟨rfl, rfl⟩
  go_wp2_with fail
  refine (awake_any _ HF.out).mono ?_
  rintro e w1 ⟨rfl, k1⟩
  have B1 := Lib.hid k1
  clear k1
  go_wp2_with fail
  go_ret
  exact ⟨rfl, B1.out⟩
set_option maxRecDepth 100000 in
set_option maxHeartbeats 1000000 in
theorem keeps_eq_top (a b : Int) (hab : a = b) (hr : 9007199254740992 ≤ a) (hr' : a ≤ 9007199254740992) (ha : a.natAbs ≤ 9223372036854775808) (hb : b.natAbs ≤ 9223372036854775808) (w : World) (h : Facts w) :
    Calls Tryz.prog 12 #[.int .i64 a, .int .i64 b] w fun e w' => e = .returned (.bool true) ∧ Below w.heap.size w w' := by
  have f1 : (ord (tf b) (tf a) == some .lt) = false := not_less b a (by omega) hb ha
  have f2 : (ord (tf a) (tf b) == some .lt) = false := not_less a b (by omega) ha hb
  have HI := Lib.hid (fun w => toint_back a (by omega) w)
  have HF := Lib.hid h
  clear h ha hb
  subst hab
  go_enter Tryz.func12, Tryz.ntmps12
  go_wp2_with fail
  refine (tofloat_any _ _).mono ?_
  rintro e w' ⟨rfl, rfl⟩
  go_wp2_with fail
  refine (tofloat_any _ _).mono ?_
  rintro e w' ⟨rfl, rfl⟩
  go_wp2_with fail
  refine (fless_any _ _ _).mono ?_
  rintro e w' ⟨rfl, rfl⟩
  go_wp2_with fail
  refine (fless_any _ _ _).mono ?_
  rintro e w' ⟨rfl, rfl⟩
  go_wp2_with fail
  refine (HI.out _).mono ?_
  rintro e w' ⟨rfl, rfl⟩
  go_wp2_with fail
  refine (awake_any _ HF.out).mono ?_
  rintro e w1 ⟨rfl, k1⟩
  have B1 := Lib.hid k1
  clear k1
  go_wp2_with fail
  go_ret
  exact ⟨rfl, B1.out⟩
set_option maxRecDepth 100000 in
set_option maxHeartbeats 1000000 in
theorem keeps_eq_high (a b : Int) (hab : a = b) (hr : 9007199254740992 < a) (ha : a.natAbs ≤ 9223372036854775808) (hb : b.natAbs ≤ 9223372036854775808) (w : World) (h : Facts w) :
    Calls Tryz.prog 12 #[.int .i64 a, .int .i64 b] w fun e w' => e = .returned (.bool true) ∧ Below w.heap.size w w' := by
  have f1 : (ord (tf b) (tf a) == some .lt) = false := not_less b a (by omega) hb ha
  have f2 : (ord (tf a) (tf b) == some .lt) = false := not_less a b (by omega) ha hb
  have HF := Lib.hid h
  clear h ha hb
  subst hab
  go_enter Tryz.func12, Tryz.ntmps12
  go_wp2_with fail
  refine (tofloat_any _ _).mono ?_
  rintro e w' ⟨rfl, rfl⟩
  go_wp2_with fail
  refine (tofloat_any _ _).mono ?_
  rintro e w' ⟨rfl, rfl⟩
  go_wp2_with fail
  refine (fless_any _ _ _).mono ?_
  rintro e w' ⟨rfl, rfl⟩
  go_wp2_with fail
  refine (fless_any _ _ _).mono ?_
  rintro e w' ⟨rfl, rfl⟩
  go_wp2_with fail
  refine (awake_any _ HF.out).mono ?_
  rintro e w1 ⟨rfl, k1⟩
  have B1 := Lib.hid k1
  clear k1
  go_wp2_with fail
  go_ret
  exact ⟨rfl, B1.out⟩
set_option maxRecDepth 100000 in
set_option maxHeartbeats 1000000 in
theorem keeps_gt_low (a b : Int) (hab : b < a) (hr : a < -9007199254740992) (ha : a.natAbs ≤ 9223372036854775808) (hb : b.natAbs ≤ 9223372036854775808) (w : World) (h : Facts w) :
    Calls Tryz.prog 12 #[.int .i64 a, .int .i64 b] w fun e w' => e = .returned (.bool true) ∧ Below w.heap.size w w' := by
  have f2 : (ord (tf a) (tf b) == some .lt) = false := not_less a b (by omega) ha hb
  have HF := Lib.hid h
  clear h ha hb
  go_enter Tryz.func12, Tryz.ntmps12
  go_wp2_with fail
  refine (tofloat_any _ _).mono ?_
  rintro e w' ⟨rfl, rfl⟩
  go_wp2_with fail
  refine (tofloat_any _ _).mono ?_
  rintro e w' ⟨rfl, rfl⟩
  go_wp2_with fail
  refine (fless_any _ _ _).mono ?_
  rintro e w' ⟨rfl, rfl⟩
  go_wp2_with fail
  refine (awake_any _ HF.out).mono ?_
  rintro e w1 ⟨rfl, k1⟩
  have B1 := Lib.hid k1
  clear k1
  go_wp2_with fail
  go_ret
  exact ⟨rfl, B1.out⟩
set_option maxRecDepth 100000 in
set_option maxHeartbeats 1000000 in
theorem keeps_gt_mid (a b : Int) (hab : b < a) (hr : -9007199254740992 ≤ a) (hr' : a < 9007199254740992) (ha : a.natAbs ≤ 9223372036854775808) (hb : b.natAbs ≤ 9223372036854775808) (w : World) (h : Facts w) :
    Calls Tryz.prog 12 #[.int .i64 a, .int .i64 b] w fun e w' => e = .returned (.bool true) ∧ Below w.heap.size w w' := by
  have f2 : (ord (tf a) (tf b) == some .lt) = false := not_less a b (by omega) ha hb
  have HI := Lib.hid (fun w => toint_back a (by omega) w)
  have HF := Lib.hid h
  clear h ha hb
  go_enter Tryz.func12, Tryz.ntmps12
  go_wp2_with fail
  refine (tofloat_any _ _).mono ?_
  rintro e w' ⟨rfl, rfl⟩
  go_wp2_with fail
  refine (tofloat_any _ _).mono ?_
  rintro e w' ⟨rfl, rfl⟩
  go_wp2_with fail
  refine (fless_any _ _ _).mono ?_
  rintro e w' ⟨rfl, rfl⟩
  go_wp2_with fail
  refine (HI.out _).mono ?_
  rintro e w' ⟨rfl, rfl⟩
  go_wp2_with fail
  refine (fless_any _ _ _).mono ?_
  rintro e w' ⟨rfl, rfl⟩
  go_wp2_with fail
  refine (awake_any _ HF.out).mono ?_
  rintro e w1 ⟨rfl, k1⟩
  have B1 := Lib.hid k1
  clear k1
  go_wp2_with fail
  go_ret
  exact ⟨rfl, B1.out⟩
set_option maxRecDepth 100000 in
set_option maxHeartbeats 1000000 in
theorem keeps_gt_top (a b : Int) (hab : b < a) (hr : 9007199254740992 ≤ a) (hr' : a ≤ 9007199254740992) (ha : a.natAbs ≤ 9223372036854775808) (hb : b.natAbs ≤ 9223372036854775808) (w : World) (h : Facts w) :
    Calls Tryz.prog 12 #[.int .i64 a, .int .i64 b] w fun e w' => e = .returned (.bool true) ∧ Below w.heap.size w w' := by
  have f2 : (ord (tf a) (tf b) == some .lt) = false := not_less a b (by omega) ha hb
  have HI := Lib.hid (fun w => toint_back a (by omega) w)
  have HF := Lib.hid h
  clear h ha hb
  go_enter Tryz.func12, Tryz.ntmps12
  go_wp2_with fail
  refine (tofloat_any _ _).mono ?_
  rintro e w' ⟨rfl, rfl⟩
  go_wp2_with fail
  refine (tofloat_any _ _).mono ?_
  rintro e w' ⟨rfl, rfl⟩
  go_wp2_with fail
  refine (fless_any _ _ _).mono ?_
  rintro e w' ⟨rfl, rfl⟩
  go_wp2_with fail
  refine (HI.out _).mono ?_
  rintro e w' ⟨rfl, rfl⟩
  go_wp2_with fail
  refine (awake_any _ HF.out).mono ?_
  rintro e w1 ⟨rfl, k1⟩
  have B1 := Lib.hid k1
  clear k1
  go_wp2_with fail
  go_ret
  exact ⟨rfl, B1.out⟩
set_option maxRecDepth 100000 in
set_option maxHeartbeats 1000000 in
theorem keeps_gt_high (a b : Int) (hab : b < a) (hr : 9007199254740992 < a) (ha : a.natAbs ≤ 9223372036854775808) (hb : b.natAbs ≤ 9223372036854775808) (w : World) (h : Facts w) :
    Calls Tryz.prog 12 #[.int .i64 a, .int .i64 b] w fun e w' => e = .returned (.bool true) ∧ Below w.heap.size w w' := by
  have f2 : (ord (tf a) (tf b) == some .lt) = false := not_less a b (by omega) ha hb
  have HF := Lib.hid h
  clear h ha hb
  go_enter Tryz.func12, Tryz.ntmps12
  go_wp2_with fail
  refine (tofloat_any _ _).mono ?_
  rintro e w' ⟨rfl, rfl⟩
  go_wp2_with fail
  refine (tofloat_any _ _).mono ?_
  rintro e w' ⟨rfl, rfl⟩
  go_wp2_with fail
  refine (fless_any _ _ _).mono ?_
  rintro e w' ⟨rfl, rfl⟩
  go_wp2_with fail
  refine (awake_any _ HF.out).mono ?_
  rintro e w1 ⟨rfl, k1⟩
  have B1 := Lib.hid k1
  clear k1
  go_wp2_with fail
  go_ret
  exact ⟨rfl, B1.out⟩
theorem keeps_walk (a b : Int) (ha0 : -9223372036854775808 ≤ a) (ha1 : a ≤ 9223372036854775807) (hb0 : -9223372036854775808 ≤ b) (hb1 : b ≤ 9223372036854775807) (w : World) (h : Facts w) :
    Calls Tryz.prog 12 #[.int .i64 a, .int .i64 b] w fun e w' => e = .returned (.bool true) ∧ Below w.heap.size w w' := by
  have ha : a.natAbs ≤ 9223372036854775808 := by omega
  have hb : b.natAbs ≤ 9223372036854775808 := by omega
  rcases (by omega : a < -9007199254740992 ∨ (-9007199254740992 ≤ a ∧ a < 9007199254740992) ∨ (9007199254740992 ≤ a ∧ a ≤ 9007199254740992) ∨ 9007199254740992 < a) with hr | hr | hr | hr
  · rcases Int.lt_trichotomy a b with hab | hab | hab
    · exact keeps_lt_low a b hab hr ha hb w h
    · exact keeps_eq_low a b hab hr ha hb w h
    · exact keeps_gt_low a b hab hr ha hb w h
  · rcases Int.lt_trichotomy a b with hab | hab | hab
    · exact keeps_lt_mid a b hab hr.1 hr.2 ha hb w h
    · exact keeps_eq_mid a b hab hr.1 hr.2 ha hb w h
    · exact keeps_gt_mid a b hab hr.1 hr.2 ha hb w h
  · rcases Int.lt_trichotomy a b with hab | hab | hab
    · exact keeps_lt_top a b hab hr.1 hr.2 ha hb w h
    · exact keeps_eq_top a b hab hr.1 hr.2 ha hb w h
    · exact keeps_gt_top a b hab hr.1 hr.2 ha hb w h
  · rcases Int.lt_trichotomy a b with hab | hab | hab
    · exact keeps_lt_high a b hab hr ha hb w h
    · exact keeps_eq_high a b hab hr ha hb w h
    · exact keeps_gt_high a b hab hr ha hb w h
end Go.Proofs.YtlinoncoanpcdaaGreatDoor
