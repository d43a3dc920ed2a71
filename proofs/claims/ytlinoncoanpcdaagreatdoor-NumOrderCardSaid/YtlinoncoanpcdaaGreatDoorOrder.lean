/-
  NumOrder (P1.8): for every two words of 64 bits the law returns true and leaves all memory that was there as it was. Condition: Facts (the listed variables).
-/
import Derived.Test.YtlinoncoanpcdaaGreatDoorAwake
import Derived.Test.YtlinoncoanpcdaaGreatDoorFloatOrd
namespace Go.Proofs.YtlinoncoanpcdaaGreatDoor
open Go.RowKit Go.Lib

theorem fsub_any (x y : Nat) (w : World) : Calls Tryz.prog 34 #[.float .f64 x, .float .f64 y] w (Comes1 (Ieee.double.add x (fneg y)) w) := by
  go_enter Tryz.func34, Tryz.ntmps34
  go_wp2_with fail
  refine (fneg_any _ _).mono ?_
  rintro e w' ⟨rfl, rfl⟩
  go_wp2_with fail
  refine (fadd_any _ _ _).mono ?_
  rintro e w1 ⟨r, rfl, h1, h2, h3⟩
  have H1 := Lib.hid h1
  have H2 := Lib.hid h2
  have H3 := Lib.hid h3
  clear h1 h2 h3
  go_wp2_with fail
  go_ret
  exact ⟨r, rfl, H1.out, H2.out, H3.out⟩
/-- What the walk asks of two words: how they stand to each other, whether they are not-a-numbers, what is left of the first less itself. -/
structure Stand (x y : Nat) (lt gt eq nx ny : Bool) (rest : List UInt8) : Prop where
  hlt : (ord x y == some .lt) = lt
  hgt : (ord y x == some .lt) = gt
  heq : (ord x y == some .eq) = eq
  hnx : nanB x = nx
  hny : nanB y = ny
  hrest : showO (Ieee.double.add x (fneg x)) = rest
set_option maxRecDepth 100000 in
set_option maxHeartbeats 2000000 in
theorem order_lt_zero (x y : Nat) (hx : x < 18446744073709551616) (hy : y < 18446744073709551616) (hS : Stand x y true false false false false zeroText) (w : World) (h : Facts w) :
    Calls Tryz.prog 11 #[.int .u64 (x : Int), .int .u64 (y : Int)] w fun e w' => e = .returned (.bool true) ∧ Below w.heap.size w w' := by
  have hb1 := fun w => frombits_run (x : Int) w
  have hb2 := fun w => frombits_run (y : Int) w
  rw [Int.toNat_natCast] at hb1 hb2
  have hlt := hS.hlt
  have hgt := hS.hgt
  have heq := hS.heq
  have sx : (showL x == [55, 102, 102, 56, 48, 48, 48, 48, 48, 48, 48, 48, 48, 48, 48, 49]) = false := (showL_nan x hx).trans hS.hnx
  have sy : (showL y == [55, 102, 102, 56, 48, 48, 48, 48, 48, 48, 48, 48, 48, 48, 48, 49]) = false := (showL_nan y hy).trans hS.hny
  have HR := Lib.hid hS.hrest
  have HX := Lib.hid hx
  have HY := Lib.hid hy
  have HF := Lib.hid h
  clear hS hx hy h
  go_enter Tryz.func11, Tryz.ntmps11
  go_wp2_with fail
  refine (fless_any _ _ _).mono ?_
  rintro e w' ⟨rfl, rfl⟩
  go_wp2_with fail
  refine (fless_any _ _ _).mono ?_
  rintro e w' ⟨rfl, rfl⟩
  go_wp2_with fail
  refine (fequal_any _ _ _).mono ?_
  rintro e w' ⟨rfl, rfl⟩
  go_wp2_with fail
  refine (show_any _ _ HF.out HX.out).mono ?_
  rintro e w1 ⟨rfl, k1⟩
  have F1 := Lib.hid (HF.out.below k1)
  have B1 := Lib.hid k1
  clear k1
  go_wp2_with fail
  refine (show_any _ _ F1.out HY.out).mono ?_
  rintro e w2 ⟨rfl, k2⟩
  have F2 := Lib.hid (F1.out.below k2)
  have B2 := Lib.hid (B1.out.trans (k2.mono B1.out.size))
  clear k2 B1 F1
  go_wp2_with fail
  refine (fsub_any _ _ _).mono ?_
  rintro e w3 ⟨r0, rfl, lr0, cr0, k3⟩
  have Lr0 := Lib.hid lr0
  have Cr0 := Lib.hid (showO_of cr0)
  have F3 := Lib.hid (F2.out.below k3)
  have B3 := Lib.hid (B2.out.trans (k3.mono B2.out.size))
  clear lr0 cr0 k3 F2 B2
  go_wp2_with fail
  refine (show_any r0 _ F3.out Lr0.out).mono ?_
  rintro e w4 ⟨rfl, k4⟩
  have F4 := Lib.hid (F3.out.below k4)
  have B4 := Lib.hid (B3.out.trans (k4.mono B3.out.size))
  clear k4 F3 B3
  have z1 : (showL r0 == [48, 48, 48, 48, 48, 48, 48, 48, 48, 48, 48, 48, 48, 48, 48, 48]) = true := by rw [Cr0.out, HR.out]; rfl
  go_wp2_with fail
  refine (fadd_any _ _ _).mono ?_
  rintro e w5 ⟨r1, rfl, lr1, cr1, k5⟩
  have Lr1 := Lib.hid lr1
  have Cr1 := Lib.hid (showO_of cr1)
  have F5 := Lib.hid (F4.out.below k5)
  have B5 := Lib.hid (B4.out.trans (k5.mono B4.out.size))
  clear lr1 cr1 k5 F4 B4
  go_wp2_with fail
  refine (show_any r1 _ F5.out Lr1.out).mono ?_
  rintro e w6 ⟨rfl, k6⟩
  have F6 := Lib.hid (F5.out.below k6)
  have B6 := Lib.hid (B5.out.trans (k6.mono B5.out.size))
  clear k6 F5 B5
  go_wp2_with fail
  refine (fadd_any _ _ _).mono ?_
  rintro e w7 ⟨r2, rfl, lr2, cr2, k7⟩
  have Lr2 := Lib.hid lr2
  have Cr2 := Lib.hid (showO_of cr2)
  have F7 := Lib.hid (F6.out.below k7)
  have B7 := Lib.hid (B6.out.trans (k7.mono B6.out.size))
  clear lr2 cr2 k7 F6 B6
  go_wp2_with fail
  refine (show_any r2 _ F7.out Lr2.out).mono ?_
  rintro e w8 ⟨rfl, k8⟩
  have F8 := Lib.hid (F7.out.below k8)
  have B8 := Lib.hid (B7.out.trans (k8.mono B7.out.size))
  clear k8 F7 B7
  have e1 : (showL r1 == showL r2) = true := by rw [Cr1.out, Cr2.out, add_comm' x y]; simp
  go_wp2_with fail
  refine (fmul_any _ _ _).mono ?_
  rintro e w9 ⟨r3, rfl, lr3, cr3, k9⟩
  have Lr3 := Lib.hid lr3
  have Cr3 := Lib.hid (showO_of cr3)
  have F9 := Lib.hid (F8.out.below k9)
  have B9 := Lib.hid (B8.out.trans (k9.mono B8.out.size))
  clear lr3 cr3 k9 F8 B8
  go_wp2_with fail
  refine (show_any r3 _ F9.out Lr3.out).mono ?_
  rintro e w10 ⟨rfl, k10⟩
  have F10 := Lib.hid (F9.out.below k10)
  have B10 := Lib.hid (B9.out.trans (k10.mono B9.out.size))
  clear k10 F9 B9
  go_wp2_with fail
  refine (fmul_any _ _ _).mono ?_
  rintro e w11 ⟨r4, rfl, lr4, cr4, k11⟩
  have Lr4 := Lib.hid lr4
  have Cr4 := Lib.hid (showO_of cr4)
  have F11 := Lib.hid (F10.out.below k11)
  have B11 := Lib.hid (B10.out.trans (k11.mono B10.out.size))
  clear lr4 cr4 k11 F10 B10
  go_wp2_with fail
  refine (show_any r4 _ F11.out Lr4.out).mono ?_
  rintro e w12 ⟨rfl, k12⟩
  have F12 := Lib.hid (F11.out.below k12)
  have B12 := Lib.hid (B11.out.trans (k12.mono B11.out.size))
  clear k12 F11 B11
  have e2 : (showL r3 == showL r4) = true := by rw [Cr3.out, Cr4.out, mul_comm' x y]; simp
  go_wp2_with fail
  refine (fneg_any _ _).mono ?_
  rintro e w' ⟨rfl, rfl⟩
  go_wp2_with fail
  refine (fneg_any _ _).mono ?_
  rintro e w' ⟨rfl, rfl⟩
  rw [fneg_fneg x HX.out]
  go_wp2_with fail
  refine (show_any x _ F12.out HX.out).mono ?_
  rintro e w13 ⟨rfl, k13⟩
  have F13 := Lib.hid (F12.out.below k13)
  have B13 := Lib.hid (B12.out.trans (k13.mono B12.out.size))
  clear k13 F12 B12
  go_wp2_with fail
  refine (show_any x _ F13.out HX.out).mono ?_
  rintro e w14 ⟨rfl, k14⟩
  have F14 := Lib.hid (F13.out.below k14)
  have B14 := Lib.hid (B13.out.trans (k14.mono B13.out.size))
  clear k14 F13 B13
  go_wp2_with fail
  refine (awake_any _ F14.out).mono ?_
  rintro e wz ⟨rfl, kz⟩
  have BZ := Lib.hid (B14.out.trans (kz.mono B14.out.size))
  clear kz
  go_wp2_with fail
  go_ret
  exact ⟨rfl, BZ.out⟩
set_option maxRecDepth 100000 in
set_option maxHeartbeats 2000000 in
theorem order_lt_nan (x y : Nat) (hx : x < 18446744073709551616) (hy : y < 18446744073709551616) (hS : Stand x y true false false false false nanText) (w : World) (h : Facts w) :
    Calls Tryz.prog 11 #[.int .u64 (x : Int), .int .u64 (y : Int)] w fun e w' => e = .returned (.bool true) ∧ Below w.heap.size w w' := by
  have hb1 := fun w => frombits_run (x : Int) w
  have hb2 := fun w => frombits_run (y : Int) w
  rw [Int.toNat_natCast] at hb1 hb2
  have hlt := hS.hlt
  have hgt := hS.hgt
  have heq := hS.heq
  have sx : (showL x == [55, 102, 102, 56, 48, 48, 48, 48, 48, 48, 48, 48, 48, 48, 48, 49]) = false := (showL_nan x hx).trans hS.hnx
  have sy : (showL y == [55, 102, 102, 56, 48, 48, 48, 48, 48, 48, 48, 48, 48, 48, 48, 49]) = false := (showL_nan y hy).trans hS.hny
  have HR := Lib.hid hS.hrest
  have HX := Lib.hid hx
  have HY := Lib.hid hy
  have HF := Lib.hid h
  clear hS hx hy h
  go_enter Tryz.func11, Tryz.ntmps11
  go_wp2_with fail
  refine (fless_any _ _ _).mono ?_
  rintro e w' ⟨rfl, rfl⟩
  go_wp2_with fail
  refine (fless_any _ _ _).mono ?_
  rintro e w' ⟨rfl, rfl⟩
  go_wp2_with fail
  refine (fequal_any _ _ _).mono ?_
  rintro e w' ⟨rfl, rfl⟩
  go_wp2_with fail
  refine (show_any _ _ HF.out HX.out).mono ?_
  rintro e w1 ⟨rfl, k1⟩
  have F1 := Lib.hid (HF.out.below k1)
  have B1 := Lib.hid k1
  clear k1
  go_wp2_with fail
  refine (show_any _ _ F1.out HY.out).mono ?_
  rintro e w2 ⟨rfl, k2⟩
  have F2 := Lib.hid (F1.out.below k2)
  have B2 := Lib.hid (B1.out.trans (k2.mono B1.out.size))
  clear k2 B1 F1
  go_wp2_with fail
  refine (fsub_any _ _ _).mono ?_
  rintro e w3 ⟨r0, rfl, lr0, cr0, k3⟩
  have Lr0 := Lib.hid lr0
  have Cr0 := Lib.hid (showO_of cr0)
  have F3 := Lib.hid (F2.out.below k3)
  have B3 := Lib.hid (B2.out.trans (k3.mono B2.out.size))
  clear lr0 cr0 k3 F2 B2
  go_wp2_with fail
  refine (show_any r0 _ F3.out Lr0.out).mono ?_
  rintro e w4 ⟨rfl, k4⟩
  have F4 := Lib.hid (F3.out.below k4)
  have B4 := Lib.hid (B3.out.trans (k4.mono B3.out.size))
  clear k4 F3 B3
  have z1 : (showL r0 == [48, 48, 48, 48, 48, 48, 48, 48, 48, 48, 48, 48, 48, 48, 48, 48]) = false := by rw [Cr0.out, HR.out]; rfl
  have z2 : (showL r0 == [55, 102, 102, 56, 48, 48, 48, 48, 48, 48, 48, 48, 48, 48, 48, 49]) = true := by rw [Cr0.out, HR.out]; rfl
  go_wp2_with fail
  refine (fadd_any _ _ _).mono ?_
  rintro e w5 ⟨r1, rfl, lr1, cr1, k5⟩
  have Lr1 := Lib.hid lr1
  have Cr1 := Lib.hid (showO_of cr1)
  have F5 := Lib.hid (F4.out.below k5)
  have B5 := Lib.hid (B4.out.trans (k5.mono B4.out.size))
  clear lr1 cr1 k5 F4 B4
  go_wp2_with fail
  refine (show_any r1 _ F5.out Lr1.out).mono ?_
  rintro e w6 ⟨rfl, k6⟩
  have F6 := Lib.hid (F5.out.below k6)
  have B6 := Lib.hid (B5.out.trans (k6.mono B5.out.size))
  clear k6 F5 B5
  go_wp2_with fail
  refine (fadd_any _ _ _).mono ?_
  rintro e w7 ⟨r2, rfl, lr2, cr2, k7⟩
  have Lr2 := Lib.hid lr2
  have Cr2 := Lib.hid (showO_of cr2)
  have F7 := Lib.hid (F6.out.below k7)
  have B7 := Lib.hid (B6.out.trans (k7.mono B6.out.size))
  clear lr2 cr2 k7 F6 B6
  go_wp2_with fail
  refine (show_any r2 _ F7.out Lr2.out).mono ?_
  rintro e w8 ⟨rfl, k8⟩
  have F8 := Lib.hid (F7.out.below k8)
  have B8 := Lib.hid (B7.out.trans (k8.mono B7.out.size))
  clear k8 F7 B7
  have e1 : (showL r1 == showL r2) = true := by rw [Cr1.out, Cr2.out, add_comm' x y]; simp
  go_wp2_with fail
  refine (fmul_any _ _ _).mono ?_
  rintro e w9 ⟨r3, rfl, lr3, cr3, k9⟩
  have Lr3 := Lib.hid lr3
  have Cr3 := Lib.hid (showO_of cr3)
  have F9 := Lib.hid (F8.out.below k9)
  have B9 := Lib.hid (B8.out.trans (k9.mono B8.out.size))
  clear lr3 cr3 k9 F8 B8
  go_wp2_with fail
  refine (show_any r3 _ F9.out Lr3.out).mono ?_
  rintro e w10 ⟨rfl, k10⟩
  have F10 := Lib.hid (F9.out.below k10)
  have B10 := Lib.hid (B9.out.trans (k10.mono B9.out.size))
  clear k10 F9 B9
  go_wp2_with fail
  refine (fmul_any _ _ _).mono ?_
  rintro e w11 ⟨r4, rfl, lr4, cr4, k11⟩
  have Lr4 := Lib.hid lr4
  have Cr4 := Lib.hid (showO_of cr4)
  have F11 := Lib.hid (F10.out.below k11)
  have B11 := Lib.hid (B10.out.trans (k11.mono B10.out.size))
  clear lr4 cr4 k11 F10 B10
  go_wp2_with fail
  refine (show_any r4 _ F11.out Lr4.out).mono ?_
  rintro e w12 ⟨rfl, k12⟩
  have F12 := Lib.hid (F11.out.below k12)
  have B12 := Lib.hid (B11.out.trans (k12.mono B11.out.size))
  clear k12 F11 B11
  have e2 : (showL r3 == showL r4) = true := by rw [Cr3.out, Cr4.out, mul_comm' x y]; simp
  go_wp2_with fail
  refine (fneg_any _ _).mono ?_
  rintro e w' ⟨rfl, rfl⟩
  go_wp2_with fail
  refine (fneg_any _ _).mono ?_
  rintro e w' ⟨rfl, rfl⟩
  rw [fneg_fneg x HX.out]
  go_wp2_with fail
  refine (show_any x _ F12.out HX.out).mono ?_
  rintro e w13 ⟨rfl, k13⟩
  have F13 := Lib.hid (F12.out.below k13)
  have B13 := Lib.hid (B12.out.trans (k13.mono B12.out.size))
  clear k13 F12 B12
  go_wp2_with fail
  refine (show_any x _ F13.out HX.out).mono ?_
  rintro e w14 ⟨rfl, k14⟩
  have F14 := Lib.hid (F13.out.below k14)
  have B14 := Lib.hid (B13.out.trans (k14.mono B13.out.size))
  clear k14 F13 B13
  go_wp2_with fail
  refine (awake_any _ F14.out).mono ?_
  rintro e wz ⟨rfl, kz⟩
  have BZ := Lib.hid (B14.out.trans (kz.mono B14.out.size))
  clear kz
  go_wp2_with fail
  go_ret
  exact ⟨rfl, BZ.out⟩
set_option maxRecDepth 100000 in
set_option maxHeartbeats 2000000 in
theorem order_gt_zero (x y : Nat) (hx : x < 18446744073709551616) (hy : y < 18446744073709551616) (hS : Stand x y false true false false false zeroText) (w : World) (h : Facts w) :
    Calls Tryz.prog 11 #[.int .u64 (x : Int), .int .u64 (y : Int)] w fun e w' => e = .returned (.bool true) ∧ Below w.heap.size w w' := by
  have hb1 := fun w => frombits_run (x : Int) w
  have hb2 := fun w => frombits_run (y : Int) w
  rw [Int.toNat_natCast] at hb1 hb2
  have hlt := hS.hlt
  have hgt := hS.hgt
  have heq := hS.heq
  have sx : (showL x == [55, 102, 102, 56, 48, 48, 48, 48, 48, 48, 48, 48, 48, 48, 48, 49]) = false := (showL_nan x hx).trans hS.hnx
  have sy : (showL y == [55, 102, 102, 56, 48, 48, 48, 48, 48, 48, 48, 48, 48, 48, 48, 49]) = false := (showL_nan y hy).trans hS.hny
  have HR := Lib.hid hS.hrest
  have HX := Lib.hid hx
  have HY := Lib.hid hy
  have HF := Lib.hid h
  clear hS hx hy h
  go_enter Tryz.func11, Tryz.ntmps11
  go_wp2_with fail
  refine (fless_any _ _ _).mono ?_
  rintro e w' ⟨rfl, rfl⟩
  go_wp2_with fail
  refine (fless_any _ _ _).mono ?_
  rintro e w' ⟨rfl, rfl⟩
  go_wp2_with fail
  refine (fequal_any _ _ _).mono ?_
  rintro e w' ⟨rfl, rfl⟩
  go_wp2_with fail
  refine (show_any _ _ HF.out HX.out).mono ?_
  rintro e w1 ⟨rfl, k1⟩
  have F1 := Lib.hid (HF.out.below k1)
  have B1 := Lib.hid k1
  clear k1
  go_wp2_with fail
  refine (show_any _ _ F1.out HY.out).mono ?_
  rintro e w2 ⟨rfl, k2⟩
  have F2 := Lib.hid (F1.out.below k2)
  have B2 := Lib.hid (B1.out.trans (k2.mono B1.out.size))
  clear k2 B1 F1
  go_wp2_with fail
  refine (fsub_any _ _ _).mono ?_
  rintro e w3 ⟨r0, rfl, lr0, cr0, k3⟩
  have Lr0 := Lib.hid lr0
  have Cr0 := Lib.hid (showO_of cr0)
  have F3 := Lib.hid (F2.out.below k3)
  have B3 := Lib.hid (B2.out.trans (k3.mono B2.out.size))
  clear lr0 cr0 k3 F2 B2
  go_wp2_with fail
  refine (show_any r0 _ F3.out Lr0.out).mono ?_
  rintro e w4 ⟨rfl, k4⟩
  have F4 := Lib.hid (F3.out.below k4)
  have B4 := Lib.hid (B3.out.trans (k4.mono B3.out.size))
  clear k4 F3 B3
  have z1 : (showL r0 == [48, 48, 48, 48, 48, 48, 48, 48, 48, 48, 48, 48, 48, 48, 48, 48]) = true := by rw [Cr0.out, HR.out]; rfl
  go_wp2_with fail
  refine (fadd_any _ _ _).mono ?_
  rintro e w5 ⟨r1, rfl, lr1, cr1, k5⟩
  have Lr1 := Lib.hid lr1
  have Cr1 := Lib.hid (showO_of cr1)
  have F5 := Lib.hid (F4.out.below k5)
  have B5 := Lib.hid (B4.out.trans (k5.mono B4.out.size))
  clear lr1 cr1 k5 F4 B4
  go_wp2_with fail
  refine (show_any r1 _ F5.out Lr1.out).mono ?_
  rintro e w6 ⟨rfl, k6⟩
  have F6 := Lib.hid (F5.out.below k6)
  have B6 := Lib.hid (B5.out.trans (k6.mono B5.out.size))
  clear k6 F5 B5
  go_wp2_with fail
  refine (fadd_any _ _ _).mono ?_
  rintro e w7 ⟨r2, rfl, lr2, cr2, k7⟩
  have Lr2 := Lib.hid lr2
  have Cr2 := Lib.hid (showO_of cr2)
  have F7 := Lib.hid (F6.out.below k7)
  have B7 := Lib.hid (B6.out.trans (k7.mono B6.out.size))
  clear lr2 cr2 k7 F6 B6
  go_wp2_with fail
  refine (show_any r2 _ F7.out Lr2.out).mono ?_
  rintro e w8 ⟨rfl, k8⟩
  have F8 := Lib.hid (F7.out.below k8)
  have B8 := Lib.hid (B7.out.trans (k8.mono B7.out.size))
  clear k8 F7 B7
  have e1 : (showL r1 == showL r2) = true := by rw [Cr1.out, Cr2.out, add_comm' x y]; simp
  go_wp2_with fail
  refine (fmul_any _ _ _).mono ?_
  rintro e w9 ⟨r3, rfl, lr3, cr3, k9⟩
  have Lr3 := Lib.hid lr3
  have Cr3 := Lib.hid (showO_of cr3)
  have F9 := Lib.hid (F8.out.below k9)
  have B9 := Lib.hid (B8.out.trans (k9.mono B8.out.size))
  clear lr3 cr3 k9 F8 B8
  go_wp2_with fail
  refine (show_any r3 _ F9.out Lr3.out).mono ?_
  rintro e w10 ⟨rfl, k10⟩
  have F10 := Lib.hid (F9.out.below k10)
  have B10 := Lib.hid (B9.out.trans (k10.mono B9.out.size))
  clear k10 F9 B9
  go_wp2_with fail
  refine (fmul_any _ _ _).mono ?_
  rintro e w11 ⟨r4, rfl, lr4, cr4, k11⟩
  have Lr4 := Lib.hid lr4
  have Cr4 := Lib.hid (showO_of cr4)
  have F11 := Lib.hid (F10.out.below k11)
  have B11 := Lib.hid (B10.out.trans (k11.mono B10.out.size))
  clear lr4 cr4 k11 F10 B10
  go_wp2_with fail
  refine (show_any r4 _ F11.out Lr4.out).mono ?_
  rintro e w12 ⟨rfl, k12⟩
  have F12 := Lib.hid (F11.out.below k12)
  have B12 := Lib.hid (B11.out.trans (k12.mono B11.out.size))
  clear k12 F11 B11
  have e2 : (showL r3 == showL r4) = true := by rw [Cr3.out, Cr4.out, mul_comm' x y]; simp
  go_wp2_with fail
  refine (fneg_any _ _).mono ?_
  rintro e w' ⟨rfl, rfl⟩
  go_wp2_with fail
  refine (fneg_any _ _).mono ?_
  rintro e w' ⟨rfl, rfl⟩
  rw [fneg_fneg x HX.out]
  go_wp2_with fail
  refine (show_any x _ F12.out HX.out).mono ?_
  rintro e w13 ⟨rfl, k13⟩
  have F13 := Lib.hid (F12.out.below k13)
  have B13 := Lib.hid (B12.out.trans (k13.mono B12.out.size))
  clear k13 F12 B12
  go_wp2_with fail
  refine (show_any x _ F13.out HX.out).mono ?_
  rintro e w14 ⟨rfl, k14⟩
  have F14 := Lib.hid (F13.out.below k14)
  have B14 := Lib.hid (B13.out.trans (k14.mono B13.out.size))
  clear k14 F13 B13
  go_wp2_with fail
  refine (awake_any _ F14.out).mono ?_
  rintro e wz ⟨rfl, kz⟩
  have BZ := Lib.hid (B14.out.trans (kz.mono B14.out.size))
  clear kz
  go_wp2_with fail
  go_ret
  exact ⟨rfl, BZ.out⟩
set_option maxRecDepth 100000 in
set_option maxHeartbeats 2000000 in
theorem order_gt_nan (x y : Nat) (hx : x < 18446744073709551616) (hy : y < 18446744073709551616) (hS : Stand x y false true false false false nanText) (w : World) (h : Facts w) :
    Calls Tryz.prog 11 #[.int .u64 (x : Int), .int .u64 (y : Int)] w fun e w' => e = .returned (.bool true) ∧ Below w.heap.size w w' := by
  have hb1 := fun w => frombits_run (x : Int) w
  have hb2 := fun w => frombits_run (y : Int) w
  rw [Int.toNat_natCast] at hb1 hb2
  have hlt := hS.hlt
  have hgt := hS.hgt
  have heq := hS.heq
  have sx : (showL x == [55, 102, 102, 56, 48, 48, 48, 48, 48, 48, 48, 48, 48, 48, 48, 49]) = false := (showL_nan x hx).trans hS.hnx
  have sy : (showL y == [55, 102, 102, 56, 48, 48, 48, 48, 48, 48, 48, 48, 48, 48, 48, 49]) = false := (showL_nan y hy).trans hS.hny
  have HR := Lib.hid hS.hrest
  have HX := Lib.hid hx
  have HY := Lib.hid hy
  have HF := Lib.hid h
  clear hS hx hy h
  go_enter Tryz.func11, Tryz.ntmps11
  go_wp2_with fail
  refine (fless_any _ _ _).mono ?_
  rintro e w' ⟨rfl, rfl⟩
  go_wp2_with fail
  refine (fless_any _ _ _).mono ?_
  rintro e w' ⟨rfl, rfl⟩
  go_wp2_with fail
  refine (fequal_any _ _ _).mono ?_
  rintro e w' ⟨rfl, rfl⟩
  go_wp2_with fail
  refine (show_any _ _ HF.out HX.out).mono ?_
  rintro e w1 ⟨rfl, k1⟩
  have F1 := Lib.hid (HF.out.below k1)
  have B1 := Lib.hid k1
  clear k1
  go_wp2_with fail
  refine (show_any _ _ F1.out HY.out).mono ?_
  rintro e w2 ⟨rfl, k2⟩
  have F2 := Lib.hid (F1.out.below k2)
  have B2 := Lib.hid (B1.out.trans (k2.mono B1.out.size))
  clear k2 B1 F1
  go_wp2_with fail
  refine (fsub_any _ _ _).mono ?_
  rintro e w3 ⟨r0, rfl, lr0, cr0, k3⟩
  have Lr0 := Lib.hid lr0
  have Cr0 := Lib.hid (showO_of cr0)
  have F3 := Lib.hid (F2.out.below k3)
  have B3 := Lib.hid (B2.out.trans (k3.mono B2.out.size))
  clear lr0 cr0 k3 F2 B2
  go_wp2_with fail
  refine (show_any r0 _ F3.out Lr0.out).mono ?_
  rintro e w4 ⟨rfl, k4⟩
  have F4 := Lib.hid (F3.out.below k4)
  have B4 := Lib.hid (B3.out.trans (k4.mono B3.out.size))
  clear k4 F3 B3
  have z1 : (showL r0 == [48, 48, 48, 48, 48, 48, 48, 48, 48, 48, 48, 48, 48, 48, 48, 48]) = false := by rw [Cr0.out, HR.out]; rfl
  have z2 : (showL r0 == [55, 102, 102, 56, 48, 48, 48, 48, 48, 48, 48, 48, 48, 48, 48, 49]) = true := by rw [Cr0.out, HR.out]; rfl
  go_wp2_with fail
  refine (fadd_any _ _ _).mono ?_
  rintro e w5 ⟨r1, rfl, lr1, cr1, k5⟩
  have Lr1 := Lib.hid lr1
  have Cr1 := Lib.hid (showO_of cr1)
  have F5 := Lib.hid (F4.out.below k5)
  have B5 := Lib.hid (B4.out.trans (k5.mono B4.out.size))
  clear lr1 cr1 k5 F4 B4
  go_wp2_with fail
  refine (show_any r1 _ F5.out Lr1.out).mono ?_
  rintro e w6 ⟨rfl, k6⟩
  have F6 := Lib.hid (F5.out.below k6)
  have B6 := Lib.hid (B5.out.trans (k6.mono B5.out.size))
  clear k6 F5 B5
  go_wp2_with fail
  refine (fadd_any _ _ _).mono ?_
  rintro e w7 ⟨r2, rfl, lr2, cr2, k7⟩
  have Lr2 := Lib.hid lr2
  have Cr2 := Lib.hid (showO_of cr2)
  have F7 := Lib.hid (F6.out.below k7)
  have B7 := Lib.hid (B6.out.trans (k7.mono B6.out.size))
  clear lr2 cr2 k7 F6 B6
  go_wp2_with fail
  refine (show_any r2 _ F7.out Lr2.out).mono ?_
  rintro e w8 ⟨rfl, k8⟩
  have F8 := Lib.hid (F7.out.below k8)
  have B8 := Lib.hid (B7.out.trans (k8.mono B7.out.size))
  clear k8 F7 B7
  have e1 : (showL r1 == showL r2) = true := by rw [Cr1.out, Cr2.out, add_comm' x y]; simp
  go_wp2_with fail
  refine (fmul_any _ _ _).mono ?_
  rintro e w9 ⟨r3, rfl, lr3, cr3, k9⟩
  have Lr3 := Lib.hid lr3
  have Cr3 := Lib.hid (showO_of cr3)
  have F9 := Lib.hid (F8.out.below k9)
  have B9 := Lib.hid (B8.out.trans (k9.mono B8.out.size))
  clear lr3 cr3 k9 F8 B8
  go_wp2_with fail
  refine (show_any r3 _ F9.out Lr3.out).mono ?_
  rintro e w10 ⟨rfl, k10⟩
  have F10 := Lib.hid (F9.out.below k10)
  have B10 := Lib.hid (B9.out.trans (k10.mono B9.out.size))
  clear k10 F9 B9
  go_wp2_with fail
  refine (fmul_any _ _ _).mono ?_
  rintro e w11 ⟨r4, rfl, lr4, cr4, k11⟩
  have Lr4 := Lib.hid lr4
  have Cr4 := Lib.hid (showO_of cr4)
  have F11 := Lib.hid (F10.out.below k11)
  have B11 := Lib.hid (B10.out.trans (k11.mono B10.out.size))
  clear lr4 cr4 k11 F10 B10
  go_wp2_with fail
  refine (show_any r4 _ F11.out Lr4.out).mono ?_
  rintro e w12 ⟨rfl, k12⟩
  have F12 := Lib.hid (F11.out.below k12)
  have B12 := Lib.hid (B11.out.trans (k12.mono B11.out.size))
  clear k12 F11 B11
  have e2 : (showL r3 == showL r4) = true := by rw [Cr3.out, Cr4.out, mul_comm' x y]; simp
  go_wp2_with fail
  refine (fneg_any _ _).mono ?_
  rintro e w' ⟨rfl, rfl⟩
  go_wp2_with fail
  refine (fneg_any _ _).mono ?_
  rintro e w' ⟨rfl, rfl⟩
  rw [fneg_fneg x HX.out]
  go_wp2_with fail
  refine (show_any x _ F12.out HX.out).mono ?_
  rintro e w13 ⟨rfl, k13⟩
  have F13 := Lib.hid (F12.out.below k13)
  have B13 := Lib.hid (B12.out.trans (k13.mono B12.out.size))
  clear k13 F12 B12
  go_wp2_with fail
  refine (show_any x _ F13.out HX.out).mono ?_
  rintro e w14 ⟨rfl, k14⟩
  have F14 := Lib.hid (F13.out.below k14)
  have B14 := Lib.hid (B13.out.trans (k14.mono B13.out.size))
  clear k14 F13 B13
  go_wp2_with fail
  refine (awake_any _ F14.out).mono ?_
  rintro e wz ⟨rfl, kz⟩
  have BZ := Lib.hid (B14.out.trans (kz.mono B14.out.size))
  clear kz
  go_wp2_with fail
  go_ret
  exact ⟨rfl, BZ.out⟩
set_option maxRecDepth 100000 in
set_option maxHeartbeats 2000000 in
theorem order_eq_zero (x y : Nat) (hx : x < 18446744073709551616) (hy : y < 18446744073709551616) (hS : Stand x y false false true false false zeroText) (w : World) (h : Facts w) :
    Calls Tryz.prog 11 #[.int .u64 (x : Int), .int .u64 (y : Int)] w fun e w' => e = .returned (.bool true) ∧ Below w.heap.size w w' := by
  have hb1 := fun w => frombits_run (x : Int) w
  have hb2 := fun w => frombits_run (y : Int) w
  rw [Int.toNat_natCast] at hb1 hb2
  have hlt := hS.hlt
  have hgt := hS.hgt
  have heq := hS.heq
  have sx : (showL x == [55, 102, 102, 56, 48, 48, 48, 48, 48, 48, 48, 48, 48, 48, 48, 49]) = false := (showL_nan x hx).trans hS.hnx
  have sy : (showL y == [55, 102, 102, 56, 48, 48, 48, 48, 48, 48, 48, 48, 48, 48, 48, 49]) = false := (showL_nan y hy).trans hS.hny
  have HR := Lib.hid hS.hrest
  have HX := Lib.hid hx
  have HY := Lib.hid hy
  have HF := Lib.hid h
  clear hS hx hy h
  go_enter Tryz.func11, Tryz.ntmps11
  go_wp2_with fail
  refine (fless_any _ _ _).mono ?_
  rintro e w' ⟨rfl, rfl⟩
  go_wp2_with fail
  refine (fless_any _ _ _).mono ?_
  rintro e w' ⟨rfl, rfl⟩
  go_wp2_with fail
  refine (fequal_any _ _ _).mono ?_
  rintro e w' ⟨rfl, rfl⟩
  go_wp2_with fail
  refine (show_any _ _ HF.out HX.out).mono ?_
  rintro e w1 ⟨rfl, k1⟩
  have F1 := Lib.hid (HF.out.below k1)
  have B1 := Lib.hid k1
  clear k1
  go_wp2_with fail
  refine (show_any _ _ F1.out HY.out).mono ?_
  rintro e w2 ⟨rfl, k2⟩
  have F2 := Lib.hid (F1.out.below k2)
  have B2 := Lib.hid (B1.out.trans (k2.mono B1.out.size))
  clear k2 B1 F1
  go_wp2_with fail
  refine (fsub_any _ _ _).mono ?_
  rintro e w3 ⟨r0, rfl, lr0, cr0, k3⟩
  have Lr0 := Lib.hid lr0
  have Cr0 := Lib.hid (showO_of cr0)
  have F3 := Lib.hid (F2.out.below k3)
  have B3 := Lib.hid (B2.out.trans (k3.mono B2.out.size))
  clear lr0 cr0 k3 F2 B2
  go_wp2_with fail
  refine (show_any r0 _ F3.out Lr0.out).mono ?_
  rintro e w4 ⟨rfl, k4⟩
  have F4 := Lib.hid (F3.out.below k4)
  have B4 := Lib.hid (B3.out.trans (k4.mono B3.out.size))
  clear k4 F3 B3
  have z1 : (showL r0 == [48, 48, 48, 48, 48, 48, 48, 48, 48, 48, 48, 48, 48, 48, 48, 48]) = true := by rw [Cr0.out, HR.out]; rfl
  go_wp2_with fail
  refine (fadd_any _ _ _).mono ?_
  rintro e w5 ⟨r1, rfl, lr1, cr1, k5⟩
  have Lr1 := Lib.hid lr1
  have Cr1 := Lib.hid (showO_of cr1)
  have F5 := Lib.hid (F4.out.below k5)
  have B5 := Lib.hid (B4.out.trans (k5.mono B4.out.size))
  clear lr1 cr1 k5 F4 B4
  go_wp2_with fail
  refine (show_any r1 _ F5.out Lr1.out).mono ?_
  rintro e w6 ⟨rfl, k6⟩
  have F6 := Lib.hid (F5.out.below k6)
  have B6 := Lib.hid (B5.out.trans (k6.mono B5.out.size))
  clear k6 F5 B5
  go_wp2_with fail
  refine (fadd_any _ _ _).mono ?_
  rintro e w7 ⟨r2, rfl, lr2, cr2, k7⟩
  have Lr2 := Lib.hid lr2
  have Cr2 := Lib.hid (showO_of cr2)
  have F7 := Lib.hid (F6.out.below k7)
  have B7 := Lib.hid (B6.out.trans (k7.mono B6.out.size))
  clear lr2 cr2 k7 F6 B6
  go_wp2_with fail
  refine (show_any r2 _ F7.out Lr2.out).mono ?_
  rintro e w8 ⟨rfl, k8⟩
  have F8 := Lib.hid (F7.out.below k8)
  have B8 := Lib.hid (B7.out.trans (k8.mono B7.out.size))
  clear k8 F7 B7
  have e1 : (showL r1 == showL r2) = true := by rw [Cr1.out, Cr2.out, add_comm' x y]; simp
  go_wp2_with fail
  refine (fmul_any _ _ _).mono ?_
  rintro e w9 ⟨r3, rfl, lr3, cr3, k9⟩
  have Lr3 := Lib.hid lr3
  have Cr3 := Lib.hid (showO_of cr3)
  have F9 := Lib.hid (F8.out.below k9)
  have B9 := Lib.hid (B8.out.trans (k9.mono B8.out.size))
  clear lr3 cr3 k9 F8 B8
  go_wp2_with fail
  refine (show_any r3 _ F9.out Lr3.out).mono ?_
  rintro e w10 ⟨rfl, k10⟩
  have F10 := Lib.hid (F9.out.below k10)
  have B10 := Lib.hid (B9.out.trans (k10.mono B9.out.size))
  clear k10 F9 B9
  go_wp2_with fail
  refine (fmul_any _ _ _).mono ?_
  rintro e w11 ⟨r4, rfl, lr4, cr4, k11⟩
  have Lr4 := Lib.hid lr4
  have Cr4 := Lib.hid (showO_of cr4)
  have F11 := Lib.hid (F10.out.below k11)
  have B11 := Lib.hid (B10.out.trans (k11.mono B10.out.size))
  clear lr4 cr4 k11 F10 B10
  go_wp2_with fail
  refine (show_any r4 _ F11.out Lr4.out).mono ?_
  rintro e w12 ⟨rfl, k12⟩
  have F12 := Lib.hid (F11.out.below k12)
  have B12 := Lib.hid (B11.out.trans (k12.mono B11.out.size))
  clear k12 F11 B11
  have e2 : (showL r3 == showL r4) = true := by rw [Cr3.out, Cr4.out, mul_comm' x y]; simp
  go_wp2_with fail
  refine (fneg_any _ _).mono ?_
  rintro e w' ⟨rfl, rfl⟩
  go_wp2_with fail
  refine (fneg_any _ _).mono ?_
  rintro e w' ⟨rfl, rfl⟩
  rw [fneg_fneg x HX.out]
  go_wp2_with fail
  refine (show_any x _ F12.out HX.out).mono ?_
  rintro e w13 ⟨rfl, k13⟩
  have F13 := Lib.hid (F12.out.below k13)
  have B13 := Lib.hid (B12.out.trans (k13.mono B12.out.size))
  clear k13 F12 B12
  go_wp2_with fail
  refine (show_any x _ F13.out HX.out).mono ?_
  rintro e w14 ⟨rfl, k14⟩
  have F14 := Lib.hid (F13.out.below k14)
  have B14 := Lib.hid (B13.out.trans (k14.mono B13.out.size))
  clear k14 F13 B13
  go_wp2_with fail
  refine (awake_any _ F14.out).mono ?_
  rintro e wz ⟨rfl, kz⟩
  have BZ := Lib.hid (B14.out.trans (kz.mono B14.out.size))
  clear kz
  go_wp2_with fail
  go_ret
  exact ⟨rfl, BZ.out⟩
set_option maxRecDepth 100000 in
set_option maxHeartbeats 2000000 in
theorem order_eq_nan (x y : Nat) (hx : x < 18446744073709551616) (hy : y < 18446744073709551616) (hS : Stand x y false false true false false nanText) (w : World) (h : Facts w) :
    Calls Tryz.prog 11 #[.int .u64 (x : Int), .int .u64 (y : Int)] w fun e w' => e = .returned (.bool true) ∧ Below w.heap.size w w' := by
  have hb1 := fun w => frombits_run (x : Int) w
  have hb2 := fun w => frombits_run (y : Int) w
  rw [Int.toNat_natCast] at hb1 hb2
  have hlt := hS.hlt
  have hgt := hS.hgt
  have heq := hS.heq
  have sx : (showL x == [55, 102, 102, 56, 48, 48, 48, 48, 48, 48, 48, 48, 48, 48, 48, 49]) = false := (showL_nan x hx).trans hS.hnx
  have sy : (showL y == [55, 102, 102, 56, 48, 48, 48, 48, 48, 48, 48, 48, 48, 48, 48, 49]) = false := (showL_nan y hy).trans hS.hny
  have HR := Lib.hid hS.hrest
  have HX := Lib.hid hx
  have HY := Lib.hid hy
  have HF := Lib.hid h
  clear hS hx hy h
  go_enter Tryz.func11, Tryz.ntmps11
  go_wp2_with fail
  refine (fless_any _ _ _).mono ?_
  rintro e w' ⟨rfl, rfl⟩
  go_wp2_with fail
  refine (fless_any _ _ _).mono ?_
  rintro e w' ⟨rfl, rfl⟩
  go_wp2_with fail
  refine (fequal_any _ _ _).mono ?_
  rintro e w' ⟨rfl, rfl⟩
  go_wp2_with fail
  refine (show_any _ _ HF.out HX.out).mono ?_
  rintro e w1 ⟨rfl, k1⟩
  have F1 := Lib.hid (HF.out.below k1)
  have B1 := Lib.hid k1
  clear k1
  go_wp2_with fail
  refine (show_any _ _ F1.out HY.out).mono ?_
  rintro e w2 ⟨rfl, k2⟩
  have F2 := Lib.hid (F1.out.below k2)
  have B2 := Lib.hid (B1.out.trans (k2.mono B1.out.size))
  clear k2 B1 F1
  go_wp2_with fail
  refine (fsub_any _ _ _).mono ?_
  rintro e w3 ⟨r0, rfl, lr0, cr0, k3⟩
  have Lr0 := Lib.hid lr0
  have Cr0 := Lib.hid (showO_of cr0)
  have F3 := Lib.hid (F2.out.below k3)
  have B3 := Lib.hid (B2.out.trans (k3.mono B2.out.size))
  clear lr0 cr0 k3 F2 B2
  go_wp2_with fail
  refine (show_any r0 _ F3.out Lr0.out).mono ?_
  rintro e w4 ⟨rfl, k4⟩
  have F4 := Lib.hid (F3.out.below k4)
  have B4 := Lib.hid (B3.out.trans (k4.mono B3.out.size))
  clear k4 F3 B3
  have z1 : (showL r0 == [48, 48, 48, 48, 48, 48, 48, 48, 48, 48, 48, 48, 48, 48, 48, 48]) = false := by rw [Cr0.out, HR.out]; rfl
  have z2 : (showL r0 == [55, 102, 102, 56, 48, 48, 48, 48, 48, 48, 48, 48, 48, 48, 48, 49]) = true := by rw [Cr0.out, HR.out]; rfl
  go_wp2_with fail
  refine (fadd_any _ _ _).mono ?_
  rintro e w5 ⟨r1, rfl, lr1, cr1, k5⟩
  have Lr1 := Lib.hid lr1
  have Cr1 := Lib.hid (showO_of cr1)
  have F5 := Lib.hid (F4.out.below k5)
  have B5 := Lib.hid (B4.out.trans (k5.mono B4.out.size))
  clear lr1 cr1 k5 F4 B4
  go_wp2_with fail
  refine (show_any r1 _ F5.out Lr1.out).mono ?_
  rintro e w6 ⟨rfl, k6⟩
  have F6 := Lib.hid (F5.out.below k6)
  have B6 := Lib.hid (B5.out.trans (k6.mono B5.out.size))
  clear k6 F5 B5
  go_wp2_with fail
  refine (fadd_any _ _ _).mono ?_
  rintro e w7 ⟨r2, rfl, lr2, cr2, k7⟩
  have Lr2 := Lib.hid lr2
  have Cr2 := Lib.hid (showO_of cr2)
  have F7 := Lib.hid (F6.out.below k7)
  have B7 := Lib.hid (B6.out.trans (k7.mono B6.out.size))
  clear lr2 cr2 k7 F6 B6
  go_wp2_with fail
  refine (show_any r2 _ F7.out Lr2.out).mono ?_
  rintro e w8 ⟨rfl, k8⟩
  have F8 := Lib.hid (F7.out.below k8)
  have B8 := Lib.hid (B7.out.trans (k8.mono B7.out.size))
  clear k8 F7 B7
  have e1 : (showL r1 == showL r2) = true := by rw [Cr1.out, Cr2.out, add_comm' x y]; simp
  go_wp2_with fail
  refine (fmul_any _ _ _).mono ?_
  rintro e w9 ⟨r3, rfl, lr3, cr3, k9⟩
  have Lr3 := Lib.hid lr3
  have Cr3 := Lib.hid (showO_of cr3)
  have F9 := Lib.hid (F8.out.below k9)
  have B9 := Lib.hid (B8.out.trans (k9.mono B8.out.size))
  clear lr3 cr3 k9 F8 B8
  go_wp2_with fail
  refine (show_any r3 _ F9.out Lr3.out).mono ?_
  rintro e w10 ⟨rfl, k10⟩
  have F10 := Lib.hid (F9.out.below k10)
  have B10 := Lib.hid (B9.out.trans (k10.mono B9.out.size))
  clear k10 F9 B9
  go_wp2_with fail
  refine (fmul_any _ _ _).mono ?_
  rintro e w11 ⟨r4, rfl, lr4, cr4, k11⟩
  have Lr4 := Lib.hid lr4
  have Cr4 := Lib.hid (showO_of cr4)
  have F11 := Lib.hid (F10.out.below k11)
  have B11 := Lib.hid (B10.out.trans (k11.mono B10.out.size))
  clear lr4 cr4 k11 F10 B10
  go_wp2_with fail
  refine (show_any r4 _ F11.out Lr4.out).mono ?_
  rintro e w12 ⟨rfl, k12⟩
  have F12 := Lib.hid (F11.out.below k12)
  have B12 := Lib.hid (B11.out.trans (k12.mono B11.out.size))
  clear k12 F11 B11
  have e2 : (showL r3 == showL r4) = true := by rw [Cr3.out, Cr4.out, mul_comm' x y]; simp
  go_wp2_with fail
  refine (fneg_any _ _).mono ?_
  rintro e w' ⟨rfl, rfl⟩
  go_wp2_with fail
  refine (fneg_any _ _).mono ?_
  rintro e w' ⟨rfl, rfl⟩
  rw [fneg_fneg x HX.out]
  go_wp2_with fail
  refine (show_any x _ F12.out HX.out).mono ?_
  rintro e w13 ⟨rfl, k13⟩
  have F13 := Lib.hid (F12.out.below k13)
  have B13 := Lib.hid (B12.out.trans (k13.mono B12.out.size))
  clear k13 F12 B12
  go_wp2_with fail
  refine (show_any x _ F13.out HX.out).mono ?_
  rintro e w14 ⟨rfl, k14⟩
  have F14 := Lib.hid (F13.out.below k14)
  have B14 := Lib.hid (B13.out.trans (k14.mono B13.out.size))
  clear k14 F13 B13
  go_wp2_with fail
  refine (awake_any _ F14.out).mono ?_
  rintro e wz ⟨rfl, kz⟩
  have BZ := Lib.hid (B14.out.trans (kz.mono B14.out.size))
  clear kz
  go_wp2_with fail
  go_ret
  exact ⟨rfl, BZ.out⟩
set_option maxRecDepth 100000 in
set_option maxHeartbeats 2000000 in
theorem order_nx_nan (x y : Nat) (ny : Bool) (hx : x < 18446744073709551616) (hy : y < 18446744073709551616) (hS : Stand x y false false false true ny nanText) (w : World) (h : Facts w) :
    Calls Tryz.prog 11 #[.int .u64 (x : Int), .int .u64 (y : Int)] w fun e w' => e = .returned (.bool true) ∧ Below w.heap.size w w' := by
  have hb1 := fun w => frombits_run (x : Int) w
  have hb2 := fun w => frombits_run (y : Int) w
  rw [Int.toNat_natCast] at hb1 hb2
  have hlt := hS.hlt
  have hgt := hS.hgt
  have heq := hS.heq
  have sx : (showL x == [55, 102, 102, 56, 48, 48, 48, 48, 48, 48, 48, 48, 48, 48, 48, 49]) = true := (showL_nan x hx).trans hS.hnx
  have HR := Lib.hid hS.hrest
  have HX := Lib.hid hx
  have HY := Lib.hid hy
  have HF := Lib.hid h
  clear hS hx hy h
  go_enter Tryz.func11, Tryz.ntmps11
  go_wp2_with fail
  refine (fless_any _ _ _).mono ?_
  rintro e w' ⟨rfl, rfl⟩
  go_wp2_with fail
  refine (fless_any _ _ _).mono ?_
  rintro e w' ⟨rfl, rfl⟩
  go_wp2_with fail
  refine (fequal_any _ _ _).mono ?_
  rintro e w' ⟨rfl, rfl⟩
  go_wp2_with fail
  refine (show_any _ _ HF.out HX.out).mono ?_
  rintro e w1 ⟨rfl, k1⟩
  have F1 := Lib.hid (HF.out.below k1)
  have B1 := Lib.hid k1
  clear k1
  go_wp2_with fail
  refine (fsub_any _ _ _).mono ?_
  rintro e w2 ⟨r0, rfl, lr0, cr0, k2⟩
  have Lr0 := Lib.hid lr0
  have Cr0 := Lib.hid (showO_of cr0)
  have F2 := Lib.hid (F1.out.below k2)
  have B2 := Lib.hid (B1.out.trans (k2.mono B1.out.size))
  clear lr0 cr0 k2 F1 B1
  go_wp2_with fail
  refine (show_any r0 _ F2.out Lr0.out).mono ?_
  rintro e w3 ⟨rfl, k3⟩
  have F3 := Lib.hid (F2.out.below k3)
  have B3 := Lib.hid (B2.out.trans (k3.mono B2.out.size))
  clear k3 F2 B2
  have z1 : (showL r0 == [48, 48, 48, 48, 48, 48, 48, 48, 48, 48, 48, 48, 48, 48, 48, 48]) = false := by rw [Cr0.out, HR.out]; rfl
  have z2 : (showL r0 == [55, 102, 102, 56, 48, 48, 48, 48, 48, 48, 48, 48, 48, 48, 48, 49]) = true := by rw [Cr0.out, HR.out]; rfl
  go_wp2_with fail
  refine (fadd_any _ _ _).mono ?_
  rintro e w4 ⟨r1, rfl, lr1, cr1, k4⟩
  have Lr1 := Lib.hid lr1
  have Cr1 := Lib.hid (showO_of cr1)
  have F4 := Lib.hid (F3.out.below k4)
  have B4 := Lib.hid (B3.out.trans (k4.mono B3.out.size))
  clear lr1 cr1 k4 F3 B3
  go_wp2_with fail
  refine (show_any r1 _ F4.out Lr1.out).mono ?_
  rintro e w5 ⟨rfl, k5⟩
  have F5 := Lib.hid (F4.out.below k5)
  have B5 := Lib.hid (B4.out.trans (k5.mono B4.out.size))
  clear k5 F4 B4
  go_wp2_with fail
  refine (fadd_any _ _ _).mono ?_
  rintro e w6 ⟨r2, rfl, lr2, cr2, k6⟩
  have Lr2 := Lib.hid lr2
  have Cr2 := Lib.hid (showO_of cr2)
  have F6 := Lib.hid (F5.out.below k6)
  have B6 := Lib.hid (B5.out.trans (k6.mono B5.out.size))
  clear lr2 cr2 k6 F5 B5
  go_wp2_with fail
  refine (show_any r2 _ F6.out Lr2.out).mono ?_
  rintro e w7 ⟨rfl, k7⟩
  have F7 := Lib.hid (F6.out.below k7)
  have B7 := Lib.hid (B6.out.trans (k7.mono B6.out.size))
  clear k7 F6 B6
  have e1 : (showL r1 == showL r2) = true := by rw [Cr1.out, Cr2.out, add_comm' x y]; simp
  go_wp2_with fail
  refine (fmul_any _ _ _).mono ?_
  rintro e w8 ⟨r3, rfl, lr3, cr3, k8⟩
  have Lr3 := Lib.hid lr3
  have Cr3 := Lib.hid (showO_of cr3)
  have F8 := Lib.hid (F7.out.below k8)
  have B8 := Lib.hid (B7.out.trans (k8.mono B7.out.size))
  clear lr3 cr3 k8 F7 B7
  go_wp2_with fail
  refine (show_any r3 _ F8.out Lr3.out).mono ?_
  rintro e w9 ⟨rfl, k9⟩
  have F9 := Lib.hid (F8.out.below k9)
  have B9 := Lib.hid (B8.out.trans (k9.mono B8.out.size))
  clear k9 F8 B8
  go_wp2_with fail
  refine (fmul_any _ _ _).mono ?_
  rintro e w10 ⟨r4, rfl, lr4, cr4, k10⟩
  have Lr4 := Lib.hid lr4
  have Cr4 := Lib.hid (showO_of cr4)
  have F10 := Lib.hid (F9.out.below k10)
  have B10 := Lib.hid (B9.out.trans (k10.mono B9.out.size))
  clear lr4 cr4 k10 F9 B9
  go_wp2_with fail
  refine (show_any r4 _ F10.out Lr4.out).mono ?_
  rintro e w11 ⟨rfl, k11⟩
  have F11 := Lib.hid (F10.out.below k11)
  have B11 := Lib.hid (B10.out.trans (k11.mono B10.out.size))
  clear k11 F10 B10
  have e2 : (showL r3 == showL r4) = true := by rw [Cr3.out, Cr4.out, mul_comm' x y]; simp
  go_wp2_with fail
  refine (fneg_any _ _).mono ?_
  rintro e w' ⟨rfl, rfl⟩
  go_wp2_with fail
  refine (fneg_any _ _).mono ?_
  rintro e w' ⟨rfl, rfl⟩
  rw [fneg_fneg x HX.out]
  go_wp2_with fail
  refine (show_any x _ F11.out HX.out).mono ?_
  rintro e w12 ⟨rfl, k12⟩
  have F12 := Lib.hid (F11.out.below k12)
  have B12 := Lib.hid (B11.out.trans (k12.mono B11.out.size))
  clear k12 F11 B11
  go_wp2_with fail
  refine (show_any x _ F12.out HX.out).mono ?_
  rintro e w13 ⟨rfl, k13⟩
  have F13 := Lib.hid (F12.out.below k13)
  have B13 := Lib.hid (B12.out.trans (k13.mono B12.out.size))
  clear k13 F12 B12
  go_wp2_with fail
  refine (awake_any _ F13.out).mono ?_
  rintro e wz ⟨rfl, kz⟩
  have BZ := Lib.hid (B13.out.trans (kz.mono B13.out.size))
  clear kz
  go_wp2_with fail
  go_ret
  exact ⟨rfl, BZ.out⟩
set_option maxRecDepth 100000 in
set_option maxHeartbeats 2000000 in
theorem order_ny_zero (x y : Nat) (hx : x < 18446744073709551616) (hy : y < 18446744073709551616) (hS : Stand x y false false false false true zeroText) (w : World) (h : Facts w) :
    Calls Tryz.prog 11 #[.int .u64 (x : Int), .int .u64 (y : Int)] w fun e w' => e = .returned (.bool true) ∧ Below w.heap.size w w' := by
  have hb1 := fun w => frombits_run (x : Int) w
  have hb2 := fun w => frombits_run (y : Int) w
  rw [Int.toNat_natCast] at hb1 hb2
  have hlt := hS.hlt
  have hgt := hS.hgt
  have heq := hS.heq
  have sx : (showL x == [55, 102, 102, 56, 48, 48, 48, 48, 48, 48, 48, 48, 48, 48, 48, 49]) = false := (showL_nan x hx).trans hS.hnx
  have sy : (showL y == [55, 102, 102, 56, 48, 48, 48, 48, 48, 48, 48, 48, 48, 48, 48, 49]) = true := (showL_nan y hy).trans hS.hny
  have HR := Lib.hid hS.hrest
  have HX := Lib.hid hx
  have HY := Lib.hid hy
  have HF := Lib.hid h
  clear hS hx hy h
  go_enter Tryz.func11, Tryz.ntmps11
  go_wp2_with fail
  refine (fless_any _ _ _).mono ?_
  rintro e w' ⟨rfl, rfl⟩
  go_wp2_with fail
  refine (fless_any _ _ _).mono ?_
  rintro e w' ⟨rfl, rfl⟩
  go_wp2_with fail
  refine (fequal_any _ _ _).mono ?_
  rintro e w' ⟨rfl, rfl⟩
  go_wp2_with fail
  refine (show_any _ _ HF.out HX.out).mono ?_
  rintro e w1 ⟨rfl, k1⟩
  have F1 := Lib.hid (HF.out.below k1)
  have B1 := Lib.hid k1
  clear k1
  go_wp2_with fail
  refine (show_any _ _ F1.out HY.out).mono ?_
  rintro e w2 ⟨rfl, k2⟩
  have F2 := Lib.hid (F1.out.below k2)
  have B2 := Lib.hid (B1.out.trans (k2.mono B1.out.size))
  clear k2 B1 F1
  go_wp2_with fail
  refine (fsub_any _ _ _).mono ?_
  rintro e w3 ⟨r0, rfl, lr0, cr0, k3⟩
  have Lr0 := Lib.hid lr0
  have Cr0 := Lib.hid (showO_of cr0)
  have F3 := Lib.hid (F2.out.below k3)
  have B3 := Lib.hid (B2.out.trans (k3.mono B2.out.size))
  clear lr0 cr0 k3 F2 B2
  go_wp2_with fail
  refine (show_any r0 _ F3.out Lr0.out).mono ?_
  rintro e w4 ⟨rfl, k4⟩
  have F4 := Lib.hid (F3.out.below k4)
  have B4 := Lib.hid (B3.out.trans (k4.mono B3.out.size))
  clear k4 F3 B3
  have z1 : (showL r0 == [48, 48, 48, 48, 48, 48, 48, 48, 48, 48, 48, 48, 48, 48, 48, 48]) = true := by rw [Cr0.out, HR.out]; rfl
  go_wp2_with fail
  refine (fadd_any _ _ _).mono ?_
  rintro e w5 ⟨r1, rfl, lr1, cr1, k5⟩
  have Lr1 := Lib.hid lr1
  have Cr1 := Lib.hid (showO_of cr1)
  have F5 := Lib.hid (F4.out.below k5)
  have B5 := Lib.hid (B4.out.trans (k5.mono B4.out.size))
  clear lr1 cr1 k5 F4 B4
  go_wp2_with fail
  refine (show_any r1 _ F5.out Lr1.out).mono ?_
  rintro e w6 ⟨rfl, k6⟩
  have F6 := Lib.hid (F5.out.below k6)
  have B6 := Lib.hid (B5.out.trans (k6.mono B5.out.size))
  clear k6 F5 B5
  go_wp2_with fail
  refine (fadd_any _ _ _).mono ?_
  rintro e w7 ⟨r2, rfl, lr2, cr2, k7⟩
  have Lr2 := Lib.hid lr2
  have Cr2 := Lib.hid (showO_of cr2)
  have F7 := Lib.hid (F6.out.below k7)
  have B7 := Lib.hid (B6.out.trans (k7.mono B6.out.size))
  clear lr2 cr2 k7 F6 B6
  go_wp2_with fail
  refine (show_any r2 _ F7.out Lr2.out).mono ?_
  rintro e w8 ⟨rfl, k8⟩
  have F8 := Lib.hid (F7.out.below k8)
  have B8 := Lib.hid (B7.out.trans (k8.mono B7.out.size))
  clear k8 F7 B7
  have e1 : (showL r1 == showL r2) = true := by rw [Cr1.out, Cr2.out, add_comm' x y]; simp
  go_wp2_with fail
  refine (fmul_any _ _ _).mono ?_
  rintro e w9 ⟨r3, rfl, lr3, cr3, k9⟩
  have Lr3 := Lib.hid lr3
  have Cr3 := Lib.hid (showO_of cr3)
  have F9 := Lib.hid (F8.out.below k9)
  have B9 := Lib.hid (B8.out.trans (k9.mono B8.out.size))
  clear lr3 cr3 k9 F8 B8
  go_wp2_with fail
  refine (show_any r3 _ F9.out Lr3.out).mono ?_
  rintro e w10 ⟨rfl, k10⟩
  have F10 := Lib.hid (F9.out.below k10)
  have B10 := Lib.hid (B9.out.trans (k10.mono B9.out.size))
  clear k10 F9 B9
  go_wp2_with fail
  refine (fmul_any _ _ _).mono ?_
  rintro e w11 ⟨r4, rfl, lr4, cr4, k11⟩
  have Lr4 := Lib.hid lr4
  have Cr4 := Lib.hid (showO_of cr4)
  have F11 := Lib.hid (F10.out.below k11)
  have B11 := Lib.hid (B10.out.trans (k11.mono B10.out.size))
  clear lr4 cr4 k11 F10 B10
  go_wp2_with fail
  refine (show_any r4 _ F11.out Lr4.out).mono ?_
  rintro e w12 ⟨rfl, k12⟩
  have F12 := Lib.hid (F11.out.below k12)
  have B12 := Lib.hid (B11.out.trans (k12.mono B11.out.size))
  clear k12 F11 B11
  have e2 : (showL r3 == showL r4) = true := by rw [Cr3.out, Cr4.out, mul_comm' x y]; simp
  go_wp2_with fail
  refine (fneg_any _ _).mono ?_
  rintro e w' ⟨rfl, rfl⟩
  go_wp2_with fail
  refine (fneg_any _ _).mono ?_
  rintro e w' ⟨rfl, rfl⟩
  rw [fneg_fneg x HX.out]
  go_wp2_with fail
  refine (show_any x _ F12.out HX.out).mono ?_
  rintro e w13 ⟨rfl, k13⟩
  have F13 := Lib.hid (F12.out.below k13)
  have B13 := Lib.hid (B12.out.trans (k13.mono B12.out.size))
  clear k13 F12 B12
  go_wp2_with fail
  refine (show_any x _ F13.out HX.out).mono ?_
  rintro e w14 ⟨rfl, k14⟩
  have F14 := Lib.hid (F13.out.below k14)
  have B14 := Lib.hid (B13.out.trans (k14.mono B13.out.size))
  clear k14 F13 B13
  go_wp2_with fail
  refine (awake_any _ F14.out).mono ?_
  rintro e wz ⟨rfl, kz⟩
  have BZ := Lib.hid (B14.out.trans (kz.mono B14.out.size))
  clear kz
  go_wp2_with fail
  go_ret
  exact ⟨rfl, BZ.out⟩
set_option maxRecDepth 100000 in
set_option maxHeartbeats 2000000 in
theorem order_ny_nan (x y : Nat) (hx : x < 18446744073709551616) (hy : y < 18446744073709551616) (hS : Stand x y false false false false true nanText) (w : World) (h : Facts w) :
    Calls Tryz.prog 11 #[.int .u64 (x : Int), .int .u64 (y : Int)] w fun e w' => e = .returned (.bool true) ∧ Below w.heap.size w w' := by
  have hb1 := fun w => frombits_run (x : Int) w
  have hb2 := fun w => frombits_run (y : Int) w
  rw [Int.toNat_natCast] at hb1 hb2
  have hlt := hS.hlt
  have hgt := hS.hgt
  have heq := hS.heq
  have sx : (showL x == [55, 102, 102, 56, 48, 48, 48, 48, 48, 48, 48, 48, 48, 48, 48, 49]) = false := (showL_nan x hx).trans hS.hnx
  have sy : (showL y == [55, 102, 102, 56, 48, 48, 48, 48, 48, 48, 48, 48, 48, 48, 48, 49]) = true := (showL_nan y hy).trans hS.hny
  have HR := Lib.hid hS.hrest
  have HX := Lib.hid hx
  have HY := Lib.hid hy
  have HF := Lib.hid h
  clear hS hx hy h
  go_enter Tryz.func11, Tryz.ntmps11
  go_wp2_with fail
  refine (fless_any _ _ _).mono ?_
  rintro e w' ⟨rfl, rfl⟩
  go_wp2_with fail
  refine (fless_any _ _ _).mono ?_
  rintro e w' ⟨rfl, rfl⟩
  go_wp2_with fail
  refine (fequal_any _ _ _).mono ?_
  rintro e w' ⟨rfl, rfl⟩
  go_wp2_with fail
  refine (show_any _ _ HF.out HX.out).mono ?_
  rintro e w1 ⟨rfl, k1⟩
  have F1 := Lib.hid (HF.out.below k1)
  have B1 := Lib.hid k1
  clear k1
  go_wp2_with fail
  refine (show_any _ _ F1.out HY.out).mono ?_
  rintro e w2 ⟨rfl, k2⟩
  have F2 := Lib.hid (F1.out.below k2)
  have B2 := Lib.hid (B1.out.trans (k2.mono B1.out.size))
  clear k2 B1 F1
  go_wp2_with fail
  refine (fsub_any _ _ _).mono ?_
  rintro e w3 ⟨r0, rfl, lr0, cr0, k3⟩
  have Lr0 := Lib.hid lr0
  have Cr0 := Lib.hid (showO_of cr0)
  have F3 := Lib.hid (F2.out.below k3)
  have B3 := Lib.hid (B2.out.trans (k3.mono B2.out.size))
  clear lr0 cr0 k3 F2 B2
  go_wp2_with fail
  refine (show_any r0 _ F3.out Lr0.out).mono ?_
  rintro e w4 ⟨rfl, k4⟩
  have F4 := Lib.hid (F3.out.below k4)
  have B4 := Lib.hid (B3.out.trans (k4.mono B3.out.size))
  clear k4 F3 B3
  have z1 : (showL r0 == [48, 48, 48, 48, 48, 48, 48, 48, 48, 48, 48, 48, 48, 48, 48, 48]) = false := by rw [Cr0.out, HR.out]; rfl
  have z2 : (showL r0 == [55, 102, 102, 56, 48, 48, 48, 48, 48, 48, 48, 48, 48, 48, 48, 49]) = true := by rw [Cr0.out, HR.out]; rfl
  go_wp2_with fail
  refine (fadd_any _ _ _).mono ?_
  rintro e w5 ⟨r1, rfl, lr1, cr1, k5⟩
  have Lr1 := Lib.hid lr1
  have Cr1 := Lib.hid (showO_of cr1)
  have F5 := Lib.hid (F4.out.below k5)
  have B5 := Lib.hid (B4.out.trans (k5.mono B4.out.size))
  clear lr1 cr1 k5 F4 B4
  go_wp2_with fail
  refine (show_any r1 _ F5.out Lr1.out).mono ?_
  rintro e w6 ⟨rfl, k6⟩
  have F6 := Lib.hid (F5.out.below k6)
  have B6 := Lib.hid (B5.out.trans (k6.mono B5.out.size))
  clear k6 F5 B5
  go_wp2_with fail
  refine (fadd_any _ _ _).mono ?_
  rintro e w7 ⟨r2, rfl, lr2, cr2, k7⟩
  have Lr2 := Lib.hid lr2
  have Cr2 := Lib.hid (showO_of cr2)
  have F7 := Lib.hid (F6.out.below k7)
  have B7 := Lib.hid (B6.out.trans (k7.mono B6.out.size))
  clear lr2 cr2 k7 F6 B6
  go_wp2_with fail
  refine (show_any r2 _ F7.out Lr2.out).mono ?_
  rintro e w8 ⟨rfl, k8⟩
  have F8 := Lib.hid (F7.out.below k8)
  have B8 := Lib.hid (B7.out.trans (k8.mono B7.out.size))
  clear k8 F7 B7
  have e1 : (showL r1 == showL r2) = true := by rw [Cr1.out, Cr2.out, add_comm' x y]; simp
  go_wp2_with fail
  refine (fmul_any _ _ _).mono ?_
  rintro e w9 ⟨r3, rfl, lr3, cr3, k9⟩
  have Lr3 := Lib.hid lr3
  have Cr3 := Lib.hid (showO_of cr3)
  have F9 := Lib.hid (F8.out.below k9)
  have B9 := Lib.hid (B8.out.trans (k9.mono B8.out.size))
  clear lr3 cr3 k9 F8 B8
  go_wp2_with fail
  refine (show_any r3 _ F9.out Lr3.out).mono ?_
  rintro e w10 ⟨rfl, k10⟩
  have F10 := Lib.hid (F9.out.below k10)
  have B10 := Lib.hid (B9.out.trans (k10.mono B9.out.size))
  clear k10 F9 B9
  go_wp2_with fail
  refine (fmul_any _ _ _).mono ?_
  rintro e w11 ⟨r4, rfl, lr4, cr4, k11⟩
  have Lr4 := Lib.hid lr4
  have Cr4 := Lib.hid (showO_of cr4)
  have F11 := Lib.hid (F10.out.below k11)
  have B11 := Lib.hid (B10.out.trans (k11.mono B10.out.size))
  clear lr4 cr4 k11 F10 B10
  go_wp2_with fail
  refine (show_any r4 _ F11.out Lr4.out).mono ?_
  rintro e w12 ⟨rfl, k12⟩
  have F12 := Lib.hid (F11.out.below k12)
  have B12 := Lib.hid (B11.out.trans (k12.mono B11.out.size))
  clear k12 F11 B11
  have e2 : (showL r3 == showL r4) = true := by rw [Cr3.out, Cr4.out, mul_comm' x y]; simp
  go_wp2_with fail
  refine (fneg_any _ _).mono ?_
  rintro e w' ⟨rfl, rfl⟩
  go_wp2_with fail
  refine (fneg_any _ _).mono ?_
  rintro e w' ⟨rfl, rfl⟩
  rw [fneg_fneg x HX.out]
  go_wp2_with fail
  refine (show_any x _ F12.out HX.out).mono ?_
  rintro e w13 ⟨rfl, k13⟩
  have F13 := Lib.hid (F12.out.below k13)
  have B13 := Lib.hid (B12.out.trans (k13.mono B12.out.size))
  clear k13 F12 B12
  go_wp2_with fail
  refine (show_any x _ F13.out HX.out).mono ?_
  rintro e w14 ⟨rfl, k14⟩
  have F14 := Lib.hid (F13.out.below k14)
  have B14 := Lib.hid (B13.out.trans (k14.mono B13.out.size))
  clear k14 F13 B13
  go_wp2_with fail
  refine (awake_any _ F14.out).mono ?_
  rintro e wz ⟨rfl, kz⟩
  have BZ := Lib.hid (B14.out.trans (kz.mono B14.out.size))
  clear kz
  go_wp2_with fail
  go_ret
  exact ⟨rfl, BZ.out⟩
theorem sub_nan (x y : Nat) (h : nanB x = true) : showO (Ieee.double.add x y) = nanText := by
  rw [nan_read] at h
  unfold Ieee.Format.add
  cases hx : Ieee.double.read x with
  | nan s t => rfl
  | infinity s => rw [hx] at h; cases h
  | number s m e => rw [hx] at h; cases h
theorem order_nat (x y : Nat) (hx : x < 18446744073709551616) (hy : y < 18446744073709551616) (w : World) (h : Facts w) :
    Calls Tryz.prog 11 #[.int .u64 (x : Int), .int .u64 (y : Int)] w fun e w' => e = .returned (.bool true) ∧ Below w.heap.size w w' := by
  by_cases nx : nanB x = true
  · have h1 := ord_nan x y nx
    have h2 : ord y x = none := by rw [ord_swap, h1]; rfl
    exact order_nx_nan x y (nanB y) hx hy ⟨by rw [h1]; rfl, by rw [h2]; rfl, by rw [h1]; rfl, nx, rfl, sub_nan x _ nx⟩ w h
  · have nx' : nanB x = false := by simpa using nx
    by_cases ny : nanB y = true
    · have h2 := ord_nan y x ny
      have h1 : ord x y = none := by rw [ord_swap, h2]; rfl
      rcases sub_self x hx with hr | hr
      · exact order_ny_zero x y hx hy ⟨by rw [h1]; rfl, by rw [h2]; rfl, by rw [h1]; rfl, nx', ny, hr⟩ w h
      · exact order_ny_nan x y hx hy ⟨by rw [h1]; rfl, by rw [h2]; rfl, by rw [h1]; rfl, nx', ny, hr⟩ w h
    · have ny' : nanB y = false := by simpa using ny
      obtain ⟨o, ho⟩ := Option.isSome_iff_exists.1 (ord_some x y nx' ny')
      have h2 : ord y x = some o.swap := by rw [ord_swap, ho]; rfl
      cases o with
      | lt =>
        rcases sub_self x hx with hr | hr
        · exact order_lt_zero x y hx hy ⟨by rw [ho]; rfl, by rw [h2]; rfl, by rw [ho]; rfl, nx', ny', hr⟩ w h
        · exact order_lt_nan x y hx hy ⟨by rw [ho]; rfl, by rw [h2]; rfl, by rw [ho]; rfl, nx', ny', hr⟩ w h
      | eq =>
        rcases sub_self x hx with hr | hr
        · exact order_eq_zero x y hx hy ⟨by rw [ho]; rfl, by rw [h2]; rfl, by rw [ho]; rfl, nx', ny', hr⟩ w h
        · exact order_eq_nan x y hx hy ⟨by rw [ho]; rfl, by rw [h2]; rfl, by rw [ho]; rfl, nx', ny', hr⟩ w h
      | gt =>
        rcases sub_self x hx with hr | hr
        · exact order_gt_zero x y hx hy ⟨by rw [ho]; rfl, by rw [h2]; rfl, by rw [ho]; rfl, nx', ny', hr⟩ w h
        · exact order_gt_nan x y hx hy ⟨by rw [ho]; rfl, by rw [h2]; rfl, by rw [ho]; rfl, nx', ny', hr⟩ w h
theorem order_walk (a b : Int) (ha0 : 0 ≤ a) (ha1 : a ≤ 18446744073709551615) (hb0 : 0 ≤ b) (hb1 : b ≤ 18446744073709551615) (w : World) (h : Facts w) :
    Calls Tryz.prog 11 #[.int .u64 a, .int .u64 b] w fun e w' => e = .returned (.bool true) ∧ Below w.heap.size w w' := by
  obtain ⟨x, rfl⟩ := Int.eq_ofNat_of_zero_le ha0
  obtain ⟨y, rfl⟩ := Int.eq_ofNat_of_zero_le hb0
  exact order_nat x y (by omega) (by omega) w h
end Go.Proofs.YtlinoncoanpcdaaGreatDoor
