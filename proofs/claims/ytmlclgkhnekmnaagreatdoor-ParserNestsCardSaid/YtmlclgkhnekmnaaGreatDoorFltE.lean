/- strconv's atof64exact: that it answers, and whether, the same in every world that holds its variables; no memory turns. -/
import Derived.Test.YtmlclgkhnekmnaaGreatDoorFltU
import Derived.Laws.FloatBits
namespace Go.Proofs.YtmlclgkhnekmnaaGreatDoor
open Go.RowKit
def nanWord (t : Nat) : Nat := (t % 2) * 2 ^ 63 + 0x7ff0000000000000 + 1 + (t / 2) % (2 ^ 52 - 1)
theorem nan_read (t : Nat) : ∃ s m, Ieee.double.read (nanWord t) = .nan s m := by
 have hb : Ieee.double.binade = 4503599627370496 := by decide
 have hi : Ieee.double.infRung = 9218868437227405312 := by decide
 have hw : Ieee.double.signWeight = 9223372036854775808 := by decide
 have hm : (t / 2) % (2 ^ 52 - 1) < 4503599627370495 := Nat.mod_lt _ (by decide)
 unfold nanWord Ieee.Format.read
 simp only [hb, hi, hw]
 generalize (t / 2) % (2 ^ 52 - 1) = k at hm
 rcases Nat.mod_two_eq_zero_or_one t with h | h
 all_goals
  rw [h, if_neg (by omega), if_neg (by omega), if_neg (by omega)]
  exact ⟨_, _, rfl⟩
theorem nan_order (t c : Nat) : Ieee.double.order (nanWord t) c = none := by
 obtain ⟨s, m, e⟩ := nan_read t
 unfold Ieee.Format.order
 rw [e]
 rfl
theorem nan_mul (t c : Nat) : Ieee.double.mul (nanWord t) c = none := by
 obtain ⟨s, m, e⟩ := nan_read t
 unfold Ieee.Format.mul
 rw [e]
 rfl
theorem mul_some {x y r : Nat} (h : Ieee.double.mul x y = some r) (w : World) : (binOp .mul 117 (.float .f64 x) (.float .f64 y)).run Tryz.prog w = .ok (.float .f64 r) w := by
 simp [binOp, Op.floatArith, FloatKind.format, h]
theorem mul_none {x y : Nat} (h : Ieee.double.mul x y = none) (w : World) : (binOp .mul 117 (.float .f64 x) (.float .f64 y)).run Tryz.prog w = .ok (.float .f64 (nanWord (w.tape w.drawn (.nanBits .f64 x y)))) w.drew := by
 simp [binOp, Op.floatArith, FloatKind.format, h]
 rfl
theorem quo_some {x y r : Nat} (h : Ieee.double.div x y = some r) (w : World) : (binOp .quo 117 (.float .f64 x) (.float .f64 y)).run Tryz.prog w = .ok (.float .f64 r) w := by
 simp [binOp, Op.floatArith, FloatKind.format, h]
theorem quo_none {x y : Nat} (h : Ieee.double.div x y = none) (w : World) : (binOp .quo 117 (.float .f64 x) (.float .f64 y)).run Tryz.prog w = .ok (.float .f64 (nanWord (w.tape w.drawn (.nanBits .f64 x y)))) w.drew := by
 simp [binOp, Op.floatArith, FloatKind.format, h]
 rfl
def gtB (F : Nat) : Bool := FloatKind.f64.format.order F 4831355200913801216 == some Ordering.gt
def ltB (F : Nat) : Bool := FloatKind.f64.format.order F 14054727237768577024 == some Ordering.lt
theorem gt_nan (t : Nat) : (FloatKind.f64.format.order (nanWord t) 4831355200913801216 == some Ordering.gt) = false := by
 show (Ieee.double.order (nanWord t) 4831355200913801216 == some Ordering.gt) = false
 rw [nan_order]; rfl
theorem lt_nan (t : Nat) : (FloatKind.f64.format.order (nanWord t) 14054727237768577024 == some Ordering.lt) = false := by
 show (Ieee.double.order (nanWord t) 14054727237768577024 == some Ordering.lt) = false
 rw [nan_order]; rfl
def ExEnd (ok : Bool) (w : World) (e' : Ending) (w' : World) : Prop := ∃ X : Nat, e' = .returned (.tuple #[.float .f64 X, .bool ok]) ∧ Below w.heap.size w w'
set_option maxHeartbeats 400000 in
theorem exact_big (m : Int) (hm : (m / 4503599627370496 != 0) = true) (e : Int) (w : World) (h : FltFacts w) : Calls Tryz.prog 221 #[.int .u64 m, .int .i64 e, .bool false] w (ExEnd false w) := by
 have hmm := h.mant
 clear h
 go_enter Tryz.func221, Tryz.ntmps221
 go_wp2
 go_ret2
 exact ⟨_, rfl, Below.refl _ _⟩
set_option maxHeartbeats 400000 in
theorem exact_zero (m : Int) (hm : (m / 4503599627370496 != 0) = false) (w : World) (h : FltFacts w) : Calls Tryz.prog 221 #[.int .u64 m, .int .i64 0, .bool false] w (ExEnd true w) := by
 have hmm := h.mant
 clear h
 go_enter Tryz.func221, Tryz.ntmps221
 go_wp2
 go_ret2
 exact ⟨_, rfl, Below.refl _ _⟩
set_option maxHeartbeats 400000 in
theorem exact_far (m : Int) (hm : (m / 4503599627370496 != 0) = false) (e : Int) (he : 37 < e) (w : World) (h : FltFacts w) : Calls Tryz.prog 221 #[.int .u64 m, .int .i64 e, .bool false] w (ExEnd false w) := by
 have hmm := h.mant
 have e1 : (e == 0) = false := by simp only [beq_eq_false_iff_ne, ne_eq]; omega
 have e2 : decide ((0 : Int) < e) = true := by rw [decide_eq_true_eq]; omega
 have e3 : decide (e ≤ 37) = false := by rw [decide_eq_false_iff_not]; omega
 have e4 : decide (e < 0) = false := by rw [decide_eq_false_iff_not]; omega
 clear h
 go_enter Tryz.func221, Tryz.ntmps221
 go_wp2
 go_ret2
 exact ⟨_, rfl, Below.refl _ _⟩
set_option maxHeartbeats 400000 in
theorem exact_low (m : Int) (hm : (m / 4503599627370496 != 0) = false) (e : Int) (he : e < -22) (w : World) (h : FltFacts w) : Calls Tryz.prog 221 #[.int .u64 m, .int .i64 e, .bool false] w (ExEnd false w) := by
 have hmm := h.mant
 have e1 : (e == 0) = false := by simp only [beq_eq_false_iff_ne, ne_eq]; omega
 have e2 : decide ((0 : Int) < e) = false := by rw [decide_eq_false_iff_not]; omega
 have e4 : decide (e < 0) = true := by rw [decide_eq_true_eq]; omega
 have e5 : decide (-22 ≤ e) = false := by rw [decide_eq_false_iff_not]; omega
 clear h
 go_enter Tryz.func221, Tryz.ntmps221
 go_wp2
 go_ret2
 exact ⟨_, rfl, Below.refl _ _⟩
set_option maxHeartbeats 400000 in
theorem exact_neg (m : Int) (hm : (m / 4503599627370496 != 0) = false) (k : Nat) (hk : 1 ≤ k) (hk2 : k ≤ 22) (X : Nat) (ho : Ieee.double.div (floatOfInt .f64 m) (fpow10.getD k 0) = some X) (w : World) (h : FltFacts w) : Calls Tryz.prog 221 #[.int .u64 m, .int .i64 (-(k : Int)), .bool false] w (ExEnd true w) := by
 have hmm := h.mant
 obtain ⟨R, o, cap, h10, hrow⟩ := h.fpow
 have hr := hrow k (by omega)
 clear hrow h
 generalize fpow10.getD k 0 = P at hr ho
 have e1 : (-(k : Int) == 0) = false := by simp only [beq_eq_false_iff_ne, ne_eq]; omega
 have e2 : decide ((0 : Int) < -(k : Int)) = false := by rw [decide_eq_false_iff_not]; omega
 have e4 : decide (-(k : Int) < 0) = true := by rw [decide_eq_true_eq]; omega
 have e5 : decide (-22 ≤ -(k : Int)) = true := by rw [decide_eq_true_eq]; omega
 have hq := quo_some ho
 clear ho
 go_enter Tryz.func221, Tryz.ntmps221
 go_wp2
 go_ret2
 exact ⟨_, rfl, Below.refl _ _⟩
set_option maxHeartbeats 400000 in
theorem exact_negN (m : Int) (hm : (m / 4503599627370496 != 0) = false) (k : Nat) (hk : 1 ≤ k) (hk2 : k ≤ 22) (ho : Ieee.double.div (floatOfInt .f64 m) (fpow10.getD k 0) = none) (w : World) (h : FltFacts w) : Calls Tryz.prog 221 #[.int .u64 m, .int .i64 (-(k : Int)), .bool false] w (ExEnd true w) := by
 have hmm := h.mant
 obtain ⟨R, o, cap, h10, hrow⟩ := h.fpow
 have hr := hrow k (by omega)
 clear hrow h
 generalize fpow10.getD k 0 = P at hr ho
 have e1 : (-(k : Int) == 0) = false := by simp only [beq_eq_false_iff_ne, ne_eq]; omega
 have e2 : decide ((0 : Int) < -(k : Int)) = false := by rw [decide_eq_false_iff_not]; omega
 have e4 : decide (-(k : Int) < 0) = true := by rw [decide_eq_true_eq]; omega
 have e5 : decide (-22 ≤ -(k : Int)) = true := by rw [decide_eq_true_eq]; omega
 have hq := quo_none ho
 clear ho
 go_enter Tryz.func221, Tryz.ntmps221
 go_wp2
 go_ret2
 exact ⟨_, rfl, (Below.refl _ _).drew⟩
set_option maxHeartbeats 400000 in
theorem exact_over1 (m : Int) (hm : (m / 4503599627370496 != 0) = false) (k : Nat) (hk : 1 ≤ k) (hk2 : k ≤ 22) (g1 : gtB (floatOfInt .f64 m) = true) (w : World) (h : FltFacts w) : Calls Tryz.prog 221 #[.int .u64 m, .int .i64 k, .bool false] w (ExEnd false w) := by
 have hmm := h.mant
 unfold gtB at g1
 clear h
 have e1 : (((k : Nat) : Int) == 0) = false := by simp only [beq_eq_false_iff_ne, ne_eq]; omega
 have e2 : decide ((0 : Int) < (k : Int)) = true := by rw [decide_eq_true_eq]; omega
 have e3 : decide ((k : Int) ≤ 37) = true := by rw [decide_eq_true_eq]; omega
 have e4 : decide ((22 : Int) < (k : Int)) = false := by rw [decide_eq_false_iff_not]; omega
 go_enter Tryz.func221, Tryz.ntmps221
 go_wp2
 go_ret2
 exact ⟨_, rfl, Below.refl _ _⟩
set_option maxHeartbeats 400000 in
theorem exact_over2 (m : Int) (hm : (m / 4503599627370496 != 0) = false) (k : Nat) (hk : 1 ≤ k) (hk2 : k ≤ 22) (g1 : gtB (floatOfInt .f64 m) = false) (g2 : ltB (floatOfInt .f64 m) = true) (w : World) (h : FltFacts w) : Calls Tryz.prog 221 #[.int .u64 m, .int .i64 k, .bool false] w (ExEnd false w) := by
 have hmm := h.mant
 unfold gtB at g1
 unfold ltB at g2
 clear h
 have e1 : (((k : Nat) : Int) == 0) = false := by simp only [beq_eq_false_iff_ne, ne_eq]; omega
 have e2 : decide ((0 : Int) < (k : Int)) = true := by rw [decide_eq_true_eq]; omega
 have e3 : decide ((k : Int) ≤ 37) = true := by rw [decide_eq_true_eq]; omega
 have e4 : decide ((22 : Int) < (k : Int)) = false := by rw [decide_eq_false_iff_not]; omega
 go_enter Tryz.func221, Tryz.ntmps221
 go_wp2
 go_ret2
 exact ⟨_, rfl, Below.refl _ _⟩
set_option maxHeartbeats 400000 in
theorem exact_pos (m : Int) (hm : (m / 4503599627370496 != 0) = false) (k : Nat) (hk : 1 ≤ k) (hk2 : k ≤ 22) (g1 : gtB (floatOfInt .f64 m) = false) (g2 : ltB (floatOfInt .f64 m) = false) (X : Nat) (ho : Ieee.double.mul (floatOfInt .f64 m) (fpow10.getD k 0) = some X) (w : World) (h : FltFacts w) : Calls Tryz.prog 221 #[.int .u64 m, .int .i64 k, .bool false] w (ExEnd true w) := by
 have hmm := h.mant
 unfold gtB at g1
 unfold ltB at g2
 obtain ⟨R, o, cap, h10, hrow⟩ := h.fpow
 have hr := hrow k (by omega)
 clear hrow h
 generalize fpow10.getD k 0 = P at hr ho
 have e1 : (((k : Nat) : Int) == 0) = false := by simp only [beq_eq_false_iff_ne, ne_eq]; omega
 have e2 : decide ((0 : Int) < (k : Int)) = true := by rw [decide_eq_true_eq]; omega
 have e3 : decide ((k : Int) ≤ 37) = true := by rw [decide_eq_true_eq]; omega
 have e4 : decide ((22 : Int) < (k : Int)) = false := by rw [decide_eq_false_iff_not]; omega
 have hq := mul_some ho
 clear ho
 go_enter Tryz.func221, Tryz.ntmps221
 go_wp2
 go_ret2
 exact ⟨_, rfl, Below.refl _ _⟩
set_option maxHeartbeats 400000 in
theorem exact_posN (m : Int) (hm : (m / 4503599627370496 != 0) = false) (k : Nat) (hk : 1 ≤ k) (hk2 : k ≤ 22) (g1 : gtB (floatOfInt .f64 m) = false) (g2 : ltB (floatOfInt .f64 m) = false) (ho : Ieee.double.mul (floatOfInt .f64 m) (fpow10.getD k 0) = none) (w : World) (h : FltFacts w) : Calls Tryz.prog 221 #[.int .u64 m, .int .i64 k, .bool false] w (ExEnd true w) := by
 have hmm := h.mant
 unfold gtB at g1
 unfold ltB at g2
 obtain ⟨R, o, cap, h10, hrow⟩ := h.fpow
 have hr := hrow k (by omega)
 clear hrow h
 generalize fpow10.getD k 0 = P at hr ho
 have e1 : (((k : Nat) : Int) == 0) = false := by simp only [beq_eq_false_iff_ne, ne_eq]; omega
 have e2 : decide ((0 : Int) < (k : Int)) = true := by rw [decide_eq_true_eq]; omega
 have e3 : decide ((k : Int) ≤ 37) = true := by rw [decide_eq_true_eq]; omega
 have e4 : decide ((22 : Int) < (k : Int)) = false := by rw [decide_eq_false_iff_not]; omega
 have hq := mul_none ho
 clear ho
 go_enter Tryz.func221, Tryz.ntmps221
 go_wp2
 go_ret2
 exact ⟨_, rfl, (Below.refl _ _).drew⟩
set_option maxHeartbeats 400000 in
theorem exact_two1 (m : Int) (hm : (m / 4503599627370496 != 0) = false) (j : Nat) (hj : 1 ≤ j) (hj2 : j ≤ 15) (Y : Nat) (ho1 : Ieee.double.mul (floatOfInt .f64 m) (fpow10.getD j 0) = some Y) (g1 : gtB Y = true) (w : World) (h : FltFacts w) : Calls Tryz.prog 221 #[.int .u64 m, .int .i64 ((j : Int) + 22), .bool false] w (ExEnd false w) := by
 have hmm := h.mant
 unfold gtB at g1
 have hq1 := mul_some ho1
 clear ho1
 obtain ⟨R, o, cap, h10, hrow⟩ := h.fpow
 have hr := hrow j (by omega)
 have hr22 := hrow 22 (by omega)
 clear hrow h
 generalize fpow10.getD j 0 = P at hr hq1
 generalize fpow10.getD 22 0 = P2 at *
 have e1 : ((j : Int) + 22 == 0) = false := by simp only [beq_eq_false_iff_ne, ne_eq]; omega
 have e2 : decide ((0 : Int) < (j : Int) + 22) = true := by rw [decide_eq_true_eq]; omega
 have e3 : decide ((j : Int) + 22 ≤ 37) = true := by rw [decide_eq_true_eq]; omega
 have e4 : decide ((22 : Int) < (j : Int) + 22) = true := by rw [decide_eq_true_eq]; omega
 go_enter Tryz.func221, Tryz.ntmps221
 go_wp2
 go_ret2
 exact ⟨_, rfl, Below.refl _ _⟩
set_option maxHeartbeats 400000 in
theorem exact_two2 (m : Int) (hm : (m / 4503599627370496 != 0) = false) (j : Nat) (hj : 1 ≤ j) (hj2 : j ≤ 15) (Y : Nat) (ho1 : Ieee.double.mul (floatOfInt .f64 m) (fpow10.getD j 0) = some Y) (g1 : gtB Y = false) (g2 : ltB Y = true) (w : World) (h : FltFacts w) : Calls Tryz.prog 221 #[.int .u64 m, .int .i64 ((j : Int) + 22), .bool false] w (ExEnd false w) := by
 have hmm := h.mant
 unfold gtB at g1
 unfold ltB at g2
 have hq1 := mul_some ho1
 clear ho1
 obtain ⟨R, o, cap, h10, hrow⟩ := h.fpow
 have hr := hrow j (by omega)
 have hr22 := hrow 22 (by omega)
 clear hrow h
 generalize fpow10.getD j 0 = P at hr hq1
 generalize fpow10.getD 22 0 = P2 at *
 have e1 : ((j : Int) + 22 == 0) = false := by simp only [beq_eq_false_iff_ne, ne_eq]; omega
 have e2 : decide ((0 : Int) < (j : Int) + 22) = true := by rw [decide_eq_true_eq]; omega
 have e3 : decide ((j : Int) + 22 ≤ 37) = true := by rw [decide_eq_true_eq]; omega
 have e4 : decide ((22 : Int) < (j : Int) + 22) = true := by rw [decide_eq_true_eq]; omega
 go_enter Tryz.func221, Tryz.ntmps221
 go_wp2
 go_ret2
 exact ⟨_, rfl, Below.refl _ _⟩
set_option maxHeartbeats 400000 in
theorem exact_two (m : Int) (hm : (m / 4503599627370496 != 0) = false) (j : Nat) (hj : 1 ≤ j) (hj2 : j ≤ 15) (Y : Nat) (ho1 : Ieee.double.mul (floatOfInt .f64 m) (fpow10.getD j 0) = some Y) (g1 : gtB Y = false) (g2 : ltB Y = false) (X : Nat) (ho : Ieee.double.mul Y (fpow10.getD 22 0) = some X) (w : World) (h : FltFacts w) : Calls Tryz.prog 221 #[.int .u64 m, .int .i64 ((j : Int) + 22), .bool false] w (ExEnd true w) := by
 have hmm := h.mant
 unfold gtB at g1
 unfold ltB at g2
 have hq1 := mul_some ho1
 clear ho1
 have hq := mul_some ho
 clear ho
 obtain ⟨R, o, cap, h10, hrow⟩ := h.fpow
 have hr := hrow j (by omega)
 have hr22 := hrow 22 (by omega)
 clear hrow h
 generalize fpow10.getD j 0 = P at hr hq1
 generalize fpow10.getD 22 0 = P2 at *
 have e1 : ((j : Int) + 22 == 0) = false := by simp only [beq_eq_false_iff_ne, ne_eq]; omega
 have e2 : decide ((0 : Int) < (j : Int) + 22) = true := by rw [decide_eq_true_eq]; omega
 have e3 : decide ((j : Int) + 22 ≤ 37) = true := by rw [decide_eq_true_eq]; omega
 have e4 : decide ((22 : Int) < (j : Int) + 22) = true := by rw [decide_eq_true_eq]; omega
 go_enter Tryz.func221, Tryz.ntmps221
 go_wp2
 go_ret2
 exact ⟨_, rfl, Below.refl _ _⟩
set_option maxHeartbeats 400000 in
theorem exact_twoN (m : Int) (hm : (m / 4503599627370496 != 0) = false) (j : Nat) (hj : 1 ≤ j) (hj2 : j ≤ 15) (Y : Nat) (ho1 : Ieee.double.mul (floatOfInt .f64 m) (fpow10.getD j 0) = some Y) (g1 : gtB Y = false) (g2 : ltB Y = false) (ho : Ieee.double.mul Y (fpow10.getD 22 0) = none) (w : World) (h : FltFacts w) : Calls Tryz.prog 221 #[.int .u64 m, .int .i64 ((j : Int) + 22), .bool false] w (ExEnd true w) := by
 have hmm := h.mant
 unfold gtB at g1
 unfold ltB at g2
 have hq1 := mul_some ho1
 clear ho1
 have hq := mul_none ho
 clear ho
 obtain ⟨R, o, cap, h10, hrow⟩ := h.fpow
 have hr := hrow j (by omega)
 have hr22 := hrow 22 (by omega)
 clear hrow h
 generalize fpow10.getD j 0 = P at hr hq1
 generalize fpow10.getD 22 0 = P2 at *
 have e1 : ((j : Int) + 22 == 0) = false := by simp only [beq_eq_false_iff_ne, ne_eq]; omega
 have e2 : decide ((0 : Int) < (j : Int) + 22) = true := by rw [decide_eq_true_eq]; omega
 have e3 : decide ((j : Int) + 22 ≤ 37) = true := by rw [decide_eq_true_eq]; omega
 have e4 : decide ((22 : Int) < (j : Int) + 22) = true := by rw [decide_eq_true_eq]; omega
 go_enter Tryz.func221, Tryz.ntmps221
 go_wp2
 go_ret2
 exact ⟨_, rfl, (Below.refl _ _).drew⟩
set_option maxHeartbeats 400000 in
theorem exact_twoNN (m : Int) (hm : (m / 4503599627370496 != 0) = false) (j : Nat) (hj : 1 ≤ j) (hj2 : j ≤ 15) (ho1 : Ieee.double.mul (floatOfInt .f64 m) (fpow10.getD j 0) = none) (w : World) (h : FltFacts w) : Calls Tryz.prog 221 #[.int .u64 m, .int .i64 ((j : Int) + 22), .bool false] w (ExEnd true w) := by
 have hmm := h.mant
 have hq1 := mul_none ho1
 have hq := fun t => mul_none (nan_mul t (fpow10.getD 22 0))
 have g1 := gt_nan
 have g2 := lt_nan
 clear ho1
 obtain ⟨R, o, cap, h10, hrow⟩ := h.fpow
 have hr := hrow j (by omega)
 have hr22 := hrow 22 (by omega)
 clear hrow h
 generalize fpow10.getD j 0 = P at hr hq1
 generalize fpow10.getD 22 0 = P2 at *
 have e1 : ((j : Int) + 22 == 0) = false := by simp only [beq_eq_false_iff_ne, ne_eq]; omega
 have e2 : decide ((0 : Int) < (j : Int) + 22) = true := by rw [decide_eq_true_eq]; omega
 have e3 : decide ((j : Int) + 22 ≤ 37) = true := by rw [decide_eq_true_eq]; omega
 have e4 : decide ((22 : Int) < (j : Int) + 22) = true := by rw [decide_eq_true_eq]; omega
 go_enter Tryz.func221, Tryz.ntmps221
 go_wp2
 go_ret2
 exact ⟨_, rfl, ((Below.refl _ _).drew).drew⟩
theorem exact_any (m e : Int) : ∃ ok : Bool, ∀ w, FltFacts w → Calls Tryz.prog 221 #[.int .u64 m, .int .i64 e, .bool false] w (ExEnd ok w) := by
 cases hm : (m / 4503599627370496 != 0) with
 | true => exact ⟨_, fun w h => exact_big m hm e w h⟩
 | false =>
  by_cases h0 : e = 0
  · subst h0; exact ⟨_, fun w h => exact_zero m hm w h⟩
  · by_cases hp : 0 < e
    · by_cases h37 : 37 < e
      · exact ⟨_, fun w h => exact_far m hm e h37 w h⟩
      · by_cases h22 : e ≤ 22
        · obtain ⟨k, rfl⟩ : ∃ k : Nat, e = k := ⟨e.toNat, by omega⟩
          cases g1 : gtB (floatOfInt .f64 m) with
          | true => exact ⟨_, fun w h => exact_over1 m hm k (by omega) (by omega) g1 w h⟩
          | false =>
           cases g2 : ltB (floatOfInt .f64 m) with
           | true => exact ⟨_, fun w h => exact_over2 m hm k (by omega) (by omega) g1 g2 w h⟩
           | false =>
            cases ho : Ieee.double.mul (floatOfInt .f64 m) (fpow10.getD k 0) with
            | some X => exact ⟨_, fun w h => exact_pos m hm k (by omega) (by omega) g1 g2 X ho w h⟩
            | none => exact ⟨_, fun w h => exact_posN m hm k (by omega) (by omega) g1 g2 ho w h⟩
        · obtain ⟨j, rfl⟩ : ∃ j : Nat, e = (j : Int) + 22 := ⟨(e - 22).toNat, by omega⟩
          cases ho1 : Ieee.double.mul (floatOfInt .f64 m) (fpow10.getD j 0) with
          | none => exact ⟨_, fun w h => exact_twoNN m hm j (by omega) (by omega) ho1 w h⟩
          | some Y =>
           cases g1 : gtB Y with
           | true => exact ⟨_, fun w h => exact_two1 m hm j (by omega) (by omega) Y ho1 g1 w h⟩
           | false =>
            cases g2 : ltB Y with
            | true => exact ⟨_, fun w h => exact_two2 m hm j (by omega) (by omega) Y ho1 g1 g2 w h⟩
            | false =>
             cases ho : Ieee.double.mul Y (fpow10.getD 22 0) with
             | some X => exact ⟨_, fun w h => exact_two m hm j (by omega) (by omega) Y ho1 g1 g2 X ho w h⟩
             | none => exact ⟨_, fun w h => exact_twoN m hm j (by omega) (by omega) Y ho1 g1 g2 ho w h⟩
    · by_cases hl : e < -22
      · exact ⟨_, fun w h => exact_low m hm e hl w h⟩
      · obtain ⟨k, rfl⟩ : ∃ k : Nat, e = -(k : Int) := ⟨(-e).toNat, by omega⟩
        cases ho : Ieee.double.div (floatOfInt .f64 m) (fpow10.getD k 0) with
        | some X => exact ⟨_, fun w h => exact_neg m hm k (by omega) (by omega) X ho w h⟩
        | none => exact ⟨_, fun w h => exact_negN m hm k (by omega) (by omega) ho w h⟩
end Go.Proofs.YtmlclgkhnekmnaaGreatDoor
