/-
  NumFloats (P1.4, P1.5): for every two words of 64 bits the law returns true and leaves all memory that was there as it was. Condition: Facts (the listed variables).
-/
import Derived.Test.YtlinoncoanpcdaaGreatDoorRefAddF
import Derived.Test.YtlinoncoanpcdaaGreatDoorRefMulF
import Derived.Test.YtlinoncoanpcdaaGreatDoorRefDivF
import Derived.Test.YtlinoncoanpcdaaGreatDoorAwake
namespace Go.Proofs.YtlinoncoanpcdaaGreatDoor
open Go.RowKit Ieee

theorem fsub2_any (x y : Nat) (w : World) : Calls Tryz.prog 34 #[.float .f64 x, .float .f64 y] w (Comes1 (Ieee.double.add x (fneg y)) w) := by
  go_enter Tryz.func34, Tryz.ntmps34
  go_wp2_with fail
  refine (fneg_any _ _).mono ?_
  rintro e w' ⟨rfl, rfl⟩
  go_wp2_with fail
  refine (fadd_any _ _ _).mono ?_
  rintro e w1 ⟨r, rfl, h1, h2, h3⟩
  have H1 := Lib.hid h1
  have H2 := Lib.hid h2
  have H3 := Lib.hid h3
  clear h1 h2 h3
  go_wp2_with fail
  go_ret
  exact ⟨r, rfl, H1.out, H2.out, H3.out⟩
theorem div_run_some {x y r : Nat} (h : Ieee.double.div x y = some r) (w : World) : (binOp .quo 27 (.float .f64 x) (.float .f64 y)).run Tryz.prog w = .ok (.float .f64 r) w := by
  simp [binOp, Op.floatArith, FloatKind.format, h]
theorem div_run_none {x y : Nat} (h : Ieee.double.div x y = none) (w : World) : (binOp .quo 27 (.float .f64 x) (.float .f64 y)).run Tryz.prog w = .ok (.float .f64 (nanWord (w.tape w.drawn (.nanBits .f64 x y)))) w.drew := by
  simp [binOp, Op.floatArith, FloatKind.format, h]
  rfl
theorem fdiv_any (x y : Nat) (w : World) : Calls Tryz.prog 38 #[.float .f64 x, .float .f64 y] w (Comes1 (Ieee.double.div x y) w) := by
  cases h : Ieee.double.div x y with
  | some r =>
    have hr := fun w => div_run_some h w
    have hlt := Ieee.Format.div_lt Ieee.double h
    have HL : Hid (r < 18446744073709551616) := Lib.hid (width64 ▸ hlt)
    clear hlt h
    go_enter Tryz.func38, Tryz.ntmps38
    go_wp2
    go_ret
    exact ⟨r, rfl, HL.out, .inl rfl, Below.refl _ _⟩
  | none =>
    have hr := fun w => div_run_none h w
    clear h
    go_enter Tryz.func38, Tryz.ntmps38
    go_wp2
    go_ret
    exact ⟨_, rfl, nanWord_lt _, .inr ⟨rfl, nanWord_nan _⟩, (Below.refl _ _).drew⟩
theorem orNaN_show (o : Option Nat) : showL (orNaN o) = showO o := by
  cases o with
  | some r => rfl
  | none =>
    show showL 9221120237041090561 = nanText
    unfold showL
    rw [if_pos (by rw [nanB_eq]; decide)]
theorem orNaN_lt {o : Option Nat} (h : ∀ r, o = some r → r < 18446744073709551616) : orNaN o < 18446744073709551616 := by
  cases o with
  | some r => exact h r rfl
  | none => decide
theorem add_lt64 (x y : Nat) : orNaN (Ieee.double.add x y) < 18446744073709551616 := orNaN_lt fun _ h => width64 ▸ Ieee.Format.add_lt Ieee.double h
theorem mul_lt64 (x y : Nat) : orNaN (Ieee.double.mul x y) < 18446744073709551616 := orNaN_lt fun _ h => width64 ▸ Ieee.Format.mul_lt Ieee.double h
theorem div_lt64 (x y : Nat) : orNaN (Ieee.double.div x y) < 18446744073709551616 := orNaN_lt fun _ h => width64 ▸ Ieee.Format.div_lt Ieee.double h
theorem refFNeg_any (f : Nat) (hf : f < 18446744073709551616) (w : World) : Calls Tryz.prog 35 #[.int .u64 (f : Int)] w fun e w' => e = .returned (.int .u64 ((fneg f : Nat) : Int)) ∧ w = w' := by
  have h1 := fneg_div f hf
  have h2 := fneg_mod f
  by_cases h : 9223372036854775808 ≤ f
  · have HS : Hid (sg f = true) := Lib.hid (by unfold sg; rw [beq_iff_eq]; omega)
    have HV : Hid ((f : Int) - 9223372036854775808 = ((fneg f : Nat) : Int)) := Lib.hid (by omega)
    have HF := Lib.hid hf
    have h0 : (9223372036854775808 : Int) ≤ (f : Int) := by omega
    have h9 : (f : Int) ≤ 18446744073709551615 := by omega
    clear h1 h2 hf
    go_enter Tryz.func35, Tryz.ntmps35
    go_wp2_with fail
    refine (negC f HF.out true HS.out _).mono ?_
    rintro e w' ⟨rfl, rfl⟩
    go_wp2_with fail
    go_ret
    exact ⟨ret_u64 (by first | exact HV.out | (rw [wrap_u64]; have := HV.out; omega)), rfl⟩
  · have HS : Hid (sg f = false) := Lib.hid (by unfold sg; rw [beq_eq_false_iff_ne]; omega)
    have HV : Hid ((f : Int) + 9223372036854775808 = ((fneg f : Nat) : Int)) := Lib.hid (by omega)
    have HF := Lib.hid hf
    have h0 : (f : Int) < 9223372036854775808 := by omega
    clear h1 h2 hf
    go_enter Tryz.func35, Tryz.ntmps35
    go_wp2_with fail
    refine (negC f HF.out false HS.out _).mono ?_
    rintro e w' ⟨rfl, rfl⟩
    go_wp2_with fail
    go_ret
    exact ⟨ret_u64 (by first | exact HV.out | (rw [wrap_u64]; have := HV.out; omega)), rfl⟩
theorem ret_i64' {a b : Int} (h : a = b) : Ending.returned (.int .i64 a) = .returned (.int .i64 b) := by rw [h]
theorem place_any (f : Nat) (hf : f < 18446744073709551616) (w : World) : Calls Tryz.prog 79 #[.int .u64 (f : Int)] w fun e w' => e = .returned (.int .i64 (placeOf f)) ∧ w = w' := by
  by_cases h : 9223372036854775808 ≤ f
  · have HS : Hid (sg f = true) := Lib.hid (by unfold sg; rw [beq_iff_eq]; omega)
    have HV : Hid (-((f : Int) - 9223372036854775808) = placeOf f) := Lib.hid (by unfold placeOf sgn; rw [if_pos (by rw [beq_iff_eq]; omega)]; omega)
    have HF := Lib.hid hf
    have h0 : (9223372036854775808 : Int) ≤ (f : Int) := by omega
    have h9 : (f : Int) ≤ 18446744073709551615 := by omega
    clear hf
    go_enter Tryz.func79, Tryz.ntmps79
    go_wp2_with fail
    refine (negC f HF.out true HS.out _).mono ?_
    rintro e w' ⟨rfl, rfl⟩
    go_wp2_with fail
    go_ret
    exact ⟨ret_i64' (by first | exact HV.out | (rw [← HV.out]; unfold wrap64; omega) | (rw [← HV.out, wrap_u64]; unfold wrap64; omega)), rfl⟩
  · have HS : Hid (sg f = false) := Lib.hid (by unfold sg; rw [beq_eq_false_iff_ne]; omega)
    have HV : Hid ((f : Int) = placeOf f) := Lib.hid (by unfold placeOf sgn; rw [if_neg (by rw [beq_iff_eq]; omega)]; omega)
    have HF := Lib.hid hf
    have h0 : (f : Int) < 9223372036854775808 := by omega
    clear hf
    go_enter Tryz.func79, Tryz.ntmps79
    go_wp2_with fail
    refine (negC f HF.out false HS.out _).mono ?_
    rintro e w' ⟨rfl, rfl⟩
    go_wp2_with fail
    go_ret
    exact ⟨ret_i64' (by first | exact HV.out | (rw [← HV.out]; unfold wrap64; omega)), rfl⟩
theorem refFLess_any (a b : Nat) (ha : a < 18446744073709551616) (hb : b < 18446744073709551616) (w : World) : Calls Tryz.prog 41 #[.int .u64 (a : Int), .int .u64 (b : Int)] w fun e w' => e = .returned (.bool (ord a b == some .lt)) ∧ w = w' := by
  have Ha := Lib.hid ha
  have Hb := Lib.hid hb
  clear ha hb
  by_cases na : nanB a = true
  · have HR : Hid ((ord a b == some .lt) = false) := Lib.hid (by rw [ord_nan a b na]; rfl)
    have NA := Lib.hid na
    clear na
    go_enter Tryz.func41, Tryz.ntmps41
    go_wp2_with fail
    refine (nanC a true NA.out _).mono ?_
    rintro e w' ⟨rfl, rfl⟩
    go_wp2_with fail
    go_ret
    exact ⟨ret_bool HR.out.symm, rfl⟩
  · have na' : nanB a = false := by simpa using na
    have NA := Lib.hid na'
    by_cases nb : nanB b = true
    · have HR : Hid ((ord a b == some .lt) = false) := Lib.hid (by rw [ord_swap b a, ord_nan b a nb]; rfl)
      have NB := Lib.hid nb
      clear na na' nb
      go_enter Tryz.func41, Tryz.ntmps41
      go_wp2_with fail
      refine (nanC a false NA.out _).mono ?_
      rintro e w' ⟨rfl, rfl⟩
      go_wp2_with fail
      refine (nanC b true NB.out _).mono ?_
      rintro e w' ⟨rfl, rfl⟩
      go_wp2_with fail
      go_ret
      exact ⟨ret_bool HR.out.symm, rfl⟩
    · have nb' : nanB b = false := by simpa using nb
      have NB := Lib.hid nb'
      have HR : Hid ((ord a b == some .lt) = decide (placeOf a < placeOf b)) := Lib.hid (by
        rw [ord_place a b na' nb', Bool.eq_iff_iff]
        simp [Int.compare_eq_lt])
      have C1 := Lib.hid (fun w => place_any a Ha.out w)
      have C2 := Lib.hid (fun w => place_any b Hb.out w)
      clear na na' nb nb'
      generalize placeOf a = p at *
      generalize placeOf b = q at *
      go_enter Tryz.func41, Tryz.ntmps41
      go_wp2_with fail
      refine (nanC a false NA.out _).mono ?_
      rintro e w' ⟨rfl, rfl⟩
      go_wp2_with fail
      refine (nanC b false NB.out _).mono ?_
      rintro e w' ⟨rfl, rfl⟩
      go_wp2_with fail
      refine (C1.out _).mono ?_
      rintro e w' ⟨rfl, rfl⟩
      go_wp2_with fail
      refine (C2.out _).mono ?_
      rintro e w' ⟨rfl, rfl⟩
      go_wp2_with fail
      go_ret
      exact ⟨ret_bool HR.out.symm, rfl⟩
theorem refFEqual_any (a b : Nat) (ha : a < 18446744073709551616) (hb : b < 18446744073709551616) (w : World) : Calls Tryz.prog 43 #[.int .u64 (a : Int), .int .u64 (b : Int)] w fun e w' => e = .returned (.bool (ord a b == some .eq)) ∧ w = w' := by
  have Ha := Lib.hid ha
  have Hb := Lib.hid hb
  clear ha hb
  by_cases na : nanB a = true
  · have HR : Hid ((ord a b == some .eq) = false) := Lib.hid (by rw [ord_nan a b na]; rfl)
    have NA := Lib.hid na
    clear na
    go_enter Tryz.func43, Tryz.ntmps43
    go_wp2_with fail
    refine (nanC a true NA.out _).mono ?_
    rintro e w' ⟨rfl, rfl⟩
    go_wp2_with fail
    go_ret
    exact ⟨ret_bool HR.out.symm, rfl⟩
  · have na' : nanB a = false := by simpa using na
    have NA := Lib.hid na'
    by_cases nb : nanB b = true
    · have HR : Hid ((ord a b == some .eq) = false) := Lib.hid (by rw [ord_swap b a, ord_nan b a nb]; rfl)
      have NB := Lib.hid nb
      clear na na' nb
      go_enter Tryz.func43, Tryz.ntmps43
      go_wp2_with fail
      refine (nanC a false NA.out _).mono ?_
      rintro e w' ⟨rfl, rfl⟩
      go_wp2_with fail
      refine (nanC b true NB.out _).mono ?_
      rintro e w' ⟨rfl, rfl⟩
      go_wp2_with fail
      go_ret
      exact ⟨ret_bool HR.out.symm, rfl⟩
    · have nb' : nanB b = false := by simpa using nb
      have NB := Lib.hid nb'
      have HR : Hid ((ord a b == some .eq) = (placeOf a == placeOf b)) := Lib.hid (by
        rw [ord_place a b na' nb', Bool.eq_iff_iff]
        simp)
      have C1 := Lib.hid (fun w => place_any a Ha.out w)
      have C2 := Lib.hid (fun w => place_any b Hb.out w)
      clear na na' nb nb'
      generalize placeOf a = p at *
      generalize placeOf b = q at *
      go_enter Tryz.func43, Tryz.ntmps43
      go_wp2_with fail
      refine (nanC a false NA.out _).mono ?_
      rintro e w' ⟨rfl, rfl⟩
      go_wp2_with fail
      refine (nanC b false NB.out _).mono ?_
      rintro e w' ⟨rfl, rfl⟩
      go_wp2_with fail
      refine (C1.out _).mono ?_
      rintro e w' ⟨rfl, rfl⟩
      go_wp2_with fail
      refine (C2.out _).mono ?_
      rintro e w' ⟨rfl, rfl⟩
      go_wp2_with fail
      go_ret
      exact ⟨ret_bool HR.out.symm, rfl⟩
set_option maxRecDepth 100000 in
set_option maxHeartbeats 2000000 in
theorem floats_walk (a b : Int) (a0 : 0 ≤ a) (a1 : a ≤ 18446744073709551615) (b0 : 0 ≤ b) (b1 : b ≤ 18446744073709551615) (w : World) (h : Facts w) :
    Calls Tryz.prog 6 #[.int .u64 a, .int .u64 b] w fun e w' => e = .returned (.bool true) ∧ Below w.heap.size w w' := by
  obtain ⟨x, rfl⟩ := Int.eq_ofNat_of_zero_le a0
  obtain ⟨y, rfl⟩ := Int.eq_ofNat_of_zero_le b0
  have hx : x < 18446744073709551616 := by omega
  have hy : y < 18446744073709551616 := by omega
  have hb1 := fun w => frombits_run (x : Int) w
  have hb2 := fun w => frombits_run (y : Int) w
  rw [Int.toNat_natCast] at hb1 hb2
  have F0 := Lib.hid h
  have B0 := Lib.hid (Below.refl w.heap.size w)
  have D1 := Lib.hid (fun w => refFAdd_any x y hx hy w)
  have D2 := Lib.hid (fun w => refFAdd_any x (fneg y) hx (fneg_lt y hy) w)
  have D3 := Lib.hid (fun w => refFMul_any x y hx hy w)
  have D4 := Lib.hid (fun w => refFDiv_any x y hx hy w)
  have E1 := Lib.hid (fun w => refShow_any (orNaN (double.add x y)) (add_lt64 _ _) w)
  have E2 := Lib.hid (fun w => refShow_any (orNaN (double.add x (fneg y))) (add_lt64 _ _) w)
  have E3 := Lib.hid (fun w => refShow_any (orNaN (double.mul x y)) (mul_lt64 _ _) w)
  have E4 := Lib.hid (fun w => refShow_any (orNaN (double.div x y)) (div_lt64 _ _) w)
  rw [orNaN_show] at E1 E2 E3 E4
  have N1 := Lib.hid (fun w => refFNeg_any y hy w)
  have N2 := Lib.hid (fun w => refFNeg_any x hx w)
  have Q1 := Lib.hid (fun w => refFLess_any x y hx hy w)
  have Q2 := Lib.hid (fun w => refFEqual_any x y hx hy w)
  have QX := Lib.hid (fneg_lt x hx)
  have q1 : ((ord x y == some .lt) == (ord x y == some .lt)) = true := by simp
  have q2 : ((ord x y == some .eq) == (ord x y == some .eq)) = true := by simp
  have t1 : (showO (double.add x y) == showO (double.add x y)) = true := by simp
  have t2 : (showO (double.add x (fneg y)) == showO (double.add x (fneg y))) = true := by simp
  have t3 : (showO (double.mul x y) == showO (double.mul x y)) = true := by simp
  have t4 : (showO (double.div x y) == showO (double.div x y)) = true := by simp
  have t5 : (showL (fneg x) == showL (fneg x)) = true := by simp
  clear h hx hy a0 a1 b0 b1
  go_enter Tryz.func6, Tryz.ntmps6
  go_wp2_with fail
  refine (fadd_any x y _).mono ?_
  rintro e w1 ⟨r1, rfl, hlt1, ho1, k1⟩
  have L1 := Lib.hid hlt1
  have O1 := Lib.hid ho1
  have F1 := Lib.hid (F0.out.below k1)
  have B1 := Lib.hid (B0.out.trans (k1.mono B0.out.size))
  clear hlt1 ho1 k1 F0 B0
  go_wp2_with fail
  refine (show_any r1 _ F1.out L1.out).mono ?_
  rintro e w2 ⟨rfl, k2⟩
  rw [showO_of O1.out]
  have F2 := Lib.hid (F1.out.below k2)
  have B2 := Lib.hid (B1.out.trans (k2.mono B1.out.size))
  clear k2 F1 B1
  go_wp2_with fail
  refine (D1.out _).mono ?_
  rintro e w3 ⟨rfl, k3⟩
  have F3 := Lib.hid (F2.out.below k3)
  have B3 := Lib.hid (B2.out.trans (k3.mono B2.out.size))
  clear k3 F2 B2
  go_wp2_with fail
  refine (E1.out _).mono ?_
  rintro e w4 ⟨rfl, k4⟩
  have F4 := Lib.hid (F3.out.below k4)
  have B4 := Lib.hid (B3.out.trans (k4.mono B3.out.size))
  clear k4 F3 B3
  go_wp2_with fail
  refine (fsub2_any x y _).mono ?_
  rintro e w5 ⟨r2, rfl, hlt2, ho2, k5⟩
  have L2 := Lib.hid hlt2
  have O2 := Lib.hid ho2
  have F5 := Lib.hid (F4.out.below k5)
  have B5 := Lib.hid (B4.out.trans (k5.mono B4.out.size))
  clear hlt2 ho2 k5 F4 B4
  go_wp2_with fail
  refine (show_any r2 _ F5.out L2.out).mono ?_
  rintro e w6 ⟨rfl, k6⟩
  rw [showO_of O2.out]
  have F6 := Lib.hid (F5.out.below k6)
  have B6 := Lib.hid (B5.out.trans (k6.mono B5.out.size))
  clear k6 F5 B5
  go_wp2_with fail
  refine (N1.out _).mono ?_
  rintro e w' ⟨rfl, rfl⟩
  go_wp2_with fail
  refine (D2.out _).mono ?_
  rintro e w7 ⟨rfl, k7⟩
  have F7 := Lib.hid (F6.out.below k7)
  have B7 := Lib.hid (B6.out.trans (k7.mono B6.out.size))
  clear k7 F6 B6
  go_wp2_with fail
  refine (E2.out _).mono ?_
  rintro e w8 ⟨rfl, k8⟩
  have F8 := Lib.hid (F7.out.below k8)
  have B8 := Lib.hid (B7.out.trans (k8.mono B7.out.size))
  clear k8 F7 B7
  go_wp2_with fail
  refine (fmul_any x y _).mono ?_
  rintro e w9 ⟨r3, rfl, hlt3, ho3, k9⟩
  have L3 := Lib.hid hlt3
  have O3 := Lib.hid ho3
  have F9 := Lib.hid (F8.out.below k9)
  have B9 := Lib.hid (B8.out.trans (k9.mono B8.out.size))
  clear hlt3 ho3 k9 F8 B8
  go_wp2_with fail
  refine (show_any r3 _ F9.out L3.out).mono ?_
  rintro e w10 ⟨rfl, k10⟩
  rw [showO_of O3.out]
  have F10 := Lib.hid (F9.out.below k10)
  have B10 := Lib.hid (B9.out.trans (k10.mono B9.out.size))
  clear k10 F9 B9
  go_wp2_with fail
  refine (D3.out _).mono ?_
  rintro e w11 ⟨rfl, k11⟩
  have F11 := Lib.hid (F10.out.below k11)
  have B11 := Lib.hid (B10.out.trans (k11.mono B10.out.size))
  clear k11 F10 B10
  go_wp2_with fail
  refine (E3.out _).mono ?_
  rintro e w12 ⟨rfl, k12⟩
  have F12 := Lib.hid (F11.out.below k12)
  have B12 := Lib.hid (B11.out.trans (k12.mono B11.out.size))
  clear k12 F11 B11
  go_wp2_with fail
  refine (fdiv_any x y _).mono ?_
  rintro e w13 ⟨r4, rfl, hlt4, ho4, k13⟩
  have L4 := Lib.hid hlt4
  have O4 := Lib.hid ho4
  have F13 := Lib.hid (F12.out.below k13)
  have B13 := Lib.hid (B12.out.trans (k13.mono B12.out.size))
  clear hlt4 ho4 k13 F12 B12
  go_wp2_with fail
  refine (show_any r4 _ F13.out L4.out).mono ?_
  rintro e w14 ⟨rfl, k14⟩
  rw [showO_of O4.out]
  have F14 := Lib.hid (F13.out.below k14)
  have B14 := Lib.hid (B13.out.trans (k14.mono B13.out.size))
  clear k14 F13 B13
  go_wp2_with fail
  refine (D4.out _).mono ?_
  rintro e w15 ⟨rfl, k15⟩
  have F15 := Lib.hid (F14.out.below k15)
  have B15 := Lib.hid (B14.out.trans (k15.mono B14.out.size))
  clear k15 F14 B14
  go_wp2_with fail
  refine (E4.out _).mono ?_
  rintro e w16 ⟨rfl, k16⟩
  have F16 := Lib.hid (F15.out.below k16)
  have B16 := Lib.hid (B15.out.trans (k16.mono B15.out.size))
  clear k16 F15 B15
  go_wp2_with fail
  refine (fless_any x y _).mono ?_
  rintro e w' ⟨rfl, rfl⟩
  go_wp2_with fail
  refine (Q1.out _).mono ?_
  rintro e w' ⟨rfl, rfl⟩
  go_wp2_with fail
  refine (fequal_any x y _).mono ?_
  rintro e w' ⟨rfl, rfl⟩
  go_wp2_with fail
  refine (Q2.out _).mono ?_
  rintro e w' ⟨rfl, rfl⟩
  go_wp2_with fail
  refine (fneg_any x _).mono ?_
  rintro e w' ⟨rfl, rfl⟩
  go_wp2_with fail
  refine (show_any (fneg x) _ F16.out QX.out).mono ?_
  rintro e w17 ⟨rfl, k17⟩
  have F17 := Lib.hid (F16.out.below k17)
  have B17 := Lib.hid (B16.out.trans (k17.mono B16.out.size))
  clear k17 F16 B16
  go_wp2_with fail
  refine (N2.out _).mono ?_
  rintro e w' ⟨rfl, rfl⟩
  go_wp2_with fail
  refine (refShow_any (fneg x) QX.out _).mono ?_
  rintro e w18 ⟨rfl, k18⟩
  have F18 := Lib.hid (F17.out.below k18)
  have B18 := Lib.hid (B17.out.trans (k18.mono B17.out.size))
  clear k18 F17 B17
  go_wp2_with fail
  refine (awake_any _ F18.out).mono ?_
  rintro e w19 ⟨rfl, k19⟩
  have F19 := Lib.hid (F18.out.below k19)
  have B19 := Lib.hid (B18.out.trans (k19.mono B18.out.size))
  clear k19 F18 B18
  go_wp2_with fail
  go_ret
  exact ⟨rfl, B19.out⟩
end Go.Proofs.YtlinoncoanpcdaaGreatDoor
