/-
  UtfPlaces (P2.2, P2.4): for every input the law returns true and leaves all memory that was there as it was. Condition: unicode/utf8's two tables are as their text lays them (Utf8Tabs).
-/
import Derived.Test.YtpeeeoejjplniaaDoorWorks
import Derived.Deep.RegionHeld3
import Derived.IntWalk
namespace Go.Proofs.YtpeeeoejjplniaaDoor
open Go.RowKit

set_option maxRecDepth 100000 in
set_option maxHeartbeats 1000000 in
theorem places_walk (s : ByteArray) (x y : Int) (hx0 : 0 ≤ x) (hx1 : x ≤ 65535) (hy0 : 0 ≤ y) (hy1 : y ≤ 65535) (w : World) (hT : Lib.Utf8Tabs 0 1 w) : Calls Tryd.prog 7 #[.string s, .int .u16 x, .int .u16 y] w fun e w' => e = .returned (.bool true) ∧ Below w.heap.size w w' := by
  have F0 := Lib.hid hT
  have B0 := Lib.hid (Below.refl w.heap.size w)
  clear hT
  by_cases hl : 5000 < s.size
  · have HL := Lib.hid hl
    clear hl
    go_enter Tryd.func7, Tryd.ntmps7
    go_wp2_with fail
    refine (long_yes s HL.out _).mono ?_
    rintro e w' ⟨rfl, rfl⟩
    go_wp2_with fail
    refine (works_any _ F0.out).mono ?_
    rintro e w1 ⟨rfl, k1⟩
    have F1 := Lib.hid (Go.Proofs.Utf8Tabs_below F0.out k1)
    have B1 := Lib.hid (B0.out.trans (k1.mono B0.out.size))
    clear k1 F0 B0
    go_wp2_with fail
    go_ret
    exact ⟨rfl, B1.out⟩
  have HL : Hid (s.size ≤ 5000) := Lib.hid (by omega)
  have HS : Hid (s.size ≤ 1000000) := Lib.hid (by omega)
  have h5 : s.size ≤ 5000 := by omega
  clear hl
  have hu := units_le s.data.toList
  rw [show s.data.toList.length = s.size from rfl] at hu
  obtain ⟨p, hp, hps⟩ : ∃ p : Nat, x % ((s.size : Int) + 1) = (p : Int) ∧ p ≤ s.size := by
    have h0 := Int.emod_nonneg x (show (s.size : Int) + 1 ≠ 0 by omega)
    have h1 := Int.emod_lt_of_pos x (show (0 : Int) < (s.size : Int) + 1 by omega)
    exact ⟨(x % ((s.size : Int) + 1)).toNat, by omega, by omega⟩
  obtain ⟨u, hq, hqs⟩ : ∃ u : Nat, y % ((units s.data.toList : Int) + 1) = (u : Int) ∧ u ≤ units s.data.toList := by
    have h0 := Int.emod_nonneg y (show (units s.data.toList : Int) + 1 ≠ 0 by omega)
    have h1 := Int.emod_lt_of_pos y (show (0 : Int) < (units s.data.toList : Int) + 1 by omega)
    exact ⟨(y % ((units s.data.toList : Int) + 1)).toNat, by omega, by omega⟩
  have C1 := Lib.hid (fun w => units_any s HS.out w)
  have U1 := Lib.hid (fun w => unitsAt_any s (p : Int) HS.out w)
  have Y1 := Lib.hid (fun w => byte_any s (unitsAt s.data.toList (p : Int) : Int) HS.out w)
  have Y2 := Lib.hid (fun w => byte_any s (u : Int) HS.out w)
  have U2 := Lib.hid (fun w => unitsAt_any s (byteAt s.data.toList (u : Int) : Int) HS.out w)
  have U3 := Lib.hid (fun w => unitsAt_any s (byteAt s.data.toList (unitsAt s.data.toList (p : Int) : Int) : Int) HS.out w)
  have Y3 := Lib.hid (fun w => byte_any s (unitsAt s.data.toList (byteAt s.data.toList (unitsAt s.data.toList (p : Int) : Int) : Int) : Int) HS.out w)
  have U4 := Lib.hid (fun w => unitsAt_any s ((p : Int) + 1) HS.out w)
  have Y4 := Lib.hid (fun w => byte_any s ((u : Int) + 1) HS.out w)
  have U5 := Lib.hid (fun w => unitsAt_any s (s.size : Int) HS.out w)
  have Y5 := Lib.hid (fun w => byte_any s (units s.data.toList : Int) HS.out w)
  obtain ⟨b1, b2, b3⟩ := back_place s.data.toList p
  have b2 := b2 hps
  obtain ⟨b4, b5⟩ := back_units s.data.toList u hqs
  have m1 := unitsAt_mono s.data.toList (p : Int) ((p : Int) + 1) (by omega)
  have m2 := byteAt_mono s.data.toList (u : Int) ((u : Int) + 1) (by omega)
  rw [b3] at Y3
  rw [unitsAt_end s.data.toList (s.size : Int) (Int.le_refl _)] at U5
  rw [byteAt_end s.data.toList (units s.data.toList : Int) (Int.le_refl _), show s.data.toList.length = s.size from rfl] at Y5
  have hle1 := unitsAt_le s.data.toList (p : Int)
  clear b3
  generalize unitsAt s.data.toList ((p : Int) + 1) = a3 at *
  generalize byteAt s.data.toList ((u : Int) + 1) = b6 at *
  generalize unitsAt s.data.toList (p : Int) = a1 at *
  generalize byteAt s.data.toList (a1 : Int) = q at *
  generalize byteAt s.data.toList (u : Int) = b0 at *
  generalize unitsAt s.data.toList (b0 : Int) = v at *
  generalize unitsAt s.data.toList (q : Int) = a2 at *
  generalize units s.data.toList = n at *
  have HP := Lib.hid hp
  have HQ := Lib.hid hq
  clear hp hq
  have t1 : decide (p < q) = false := by simp; omega
  have t2 : decide (3 < (p : Int) - (q : Int)) = false := by simp; omega
  have t3 : decide (u < v) = false := by simp; omega
  have t4 : decide (1 < (u : Int) - (v : Int)) = false := by simp; omega
  have t5 : decide (a3 < a1) = false := by simp; omega
  have t6 : decide (b6 < b0) = false := by simp; omega
  have t7 : decide ((n : Int) < 0) = false := by simp
  have n1 : ¬ ((n : Int) + 1 = 0) := by omega
  have n2 : ((n : Int) + 1 == 0) = false := by simp only [beq_eq_false_iff_ne, ne_eq]; omega
  have s1 : IntKind.i64.wrap ((s.size : Int) + 1) = (s.size : Int) + 1 := IntWalk.i64_in _ (by omega)
  have s2 : ((s.size : Int) + 1 == 0) = false := by simp only [beq_eq_false_iff_ne, ne_eq]; omega
  have s3 : ¬ ((s.size : Int) + 1 = 0) := by omega
  have s4 : ¬ ((s.size + 1 : Nat) = 0) := by omega
  go_enter Tryd.func7, Tryd.ntmps7
  go_wp2_with fail
  refine (long_no s HL.out _).mono ?_
  rintro e w' ⟨rfl, rfl⟩
  go_wp2_with fail
  go_region_held3 (fun _ => True) (exact True.intro) (first | (go_at_call 18; refine (C1.out _).mono ?_; rintro e w1 ⟨rfl, k1⟩))
  rw [show IntKind.i64.wrap x = x from IntWalk.i64_in _ (by omega), Int.tmod_eq_emod_of_nonneg hx0, HP.out]
  have F1 := Lib.hid (Go.Proofs.Utf8Tabs_below F0.out (show Below w.heap.size w w1 from ⟨k1.os, k1.tape, k1.output, k1.size, k1.block⟩))
  have B1 := Lib.hid (show Below w.heap.size w w1 from ⟨k1.os, k1.tape, k1.output, k1.size, k1.block⟩)
  clear k1 F0 B0 s1 s2 s3 s4
  go_wp2_with fail
  rw [HQ.out]
  refine (U1.out _).mono ?_
  rintro e w2 ⟨rfl, k2⟩
  have F2 := Lib.hid (Go.Proofs.Utf8Tabs_below F1.out k2)
  have B2 := Lib.hid (B1.out.trans (k2.mono B1.out.size))
  clear k2 F1 B1
  go_wp2_with fail
  refine (Y1.out _).mono ?_
  rintro e w3 ⟨rfl, k3⟩
  have F3 := Lib.hid (Go.Proofs.Utf8Tabs_below F2.out k3)
  have B3 := Lib.hid (B2.out.trans (k3.mono B2.out.size))
  clear k3 F2 B2
  go_wp2_with fail
  refine (Y2.out _).mono ?_
  rintro e w4 ⟨rfl, k4⟩
  have F4 := Lib.hid (Go.Proofs.Utf8Tabs_below F3.out k4)
  have B4 := Lib.hid (B3.out.trans (k4.mono B3.out.size))
  clear k4 F3 B3
  go_wp2_with fail
  refine (U2.out _).mono ?_
  rintro e w5 ⟨rfl, k5⟩
  have F5 := Lib.hid (Go.Proofs.Utf8Tabs_below F4.out k5)
  have B5 := Lib.hid (B4.out.trans (k5.mono B4.out.size))
  clear k5 F4 B4
  go_wp2_with fail
  refine (U3.out _).mono ?_
  rintro e w6 ⟨rfl, k6⟩
  have F6 := Lib.hid (Go.Proofs.Utf8Tabs_below F5.out k6)
  have B6 := Lib.hid (B5.out.trans (k6.mono B5.out.size))
  clear k6 F5 B5
  go_wp2_with fail
  refine (Y3.out _).mono ?_
  rintro e w7 ⟨rfl, k7⟩
  have F7 := Lib.hid (Go.Proofs.Utf8Tabs_below F6.out k7)
  have B7 := Lib.hid (B6.out.trans (k7.mono B6.out.size))
  clear k7 F6 B6
  by_cases hlt : p < s.size
  · have d1 : decide (p < s.size) = true := by simpa using hlt
    go_wp2_with fail
    refine (U4.out _).mono ?_
    rintro e w8 ⟨rfl, k8⟩
    have F8 := Lib.hid (Go.Proofs.Utf8Tabs_below F7.out k8)
    have B8 := Lib.hid (B7.out.trans (k8.mono B7.out.size))
    clear k8 F7 B7
    go_wp2_with fail
    refine (U1.out _).mono ?_
    rintro e w9 ⟨rfl, k9⟩
    have F9 := Lib.hid (Go.Proofs.Utf8Tabs_below F8.out k9)
    have B9 := Lib.hid (B8.out.trans (k9.mono B8.out.size))
    clear k9 F8 B8
    go_wp2_with fail
    refine (Y4.out _).mono ?_
    rintro e w10 ⟨rfl, k10⟩
    have F10 := Lib.hid (Go.Proofs.Utf8Tabs_below F9.out k10)
    have B10 := Lib.hid (B9.out.trans (k10.mono B9.out.size))
    clear k10 F9 B9
    go_wp2_with fail
    refine (Y2.out _).mono ?_
    rintro e w11 ⟨rfl, k11⟩
    have F11 := Lib.hid (Go.Proofs.Utf8Tabs_below F10.out k11)
    have B11 := Lib.hid (B10.out.trans (k11.mono B10.out.size))
    clear k11 F10 B10
    go_wp2_with fail
    refine (U5.out _).mono ?_
    rintro e w12 ⟨rfl, k12⟩
    have F12 := Lib.hid (Go.Proofs.Utf8Tabs_below F11.out k12)
    have B12 := Lib.hid (B11.out.trans (k12.mono B11.out.size))
    clear k12 F11 B11
    go_wp2_with fail
    refine (Y5.out _).mono ?_
    rintro e w13 ⟨rfl, k13⟩
    have F13 := Lib.hid (Go.Proofs.Utf8Tabs_below F12.out k13)
    have B13 := Lib.hid (B12.out.trans (k13.mono B12.out.size))
    clear k13 F12 B12
    go_wp2_with fail
    refine (works_any _ F13.out).mono ?_
    rintro e w14 ⟨rfl, k14⟩
    have F14 := Lib.hid (Go.Proofs.Utf8Tabs_below F13.out k14)
    have B14 := Lib.hid (B13.out.trans (k14.mono B13.out.size))
    clear k14 F13 B13
    go_wp2_with fail
    go_ret
    exact ⟨rfl, B14.out⟩
  · have d1 : decide (p < s.size) = false := by simpa using hlt
    go_wp2_with fail
    refine (Y4.out _).mono ?_
    rintro e w8 ⟨rfl, k8⟩
    have F8 := Lib.hid (Go.Proofs.Utf8Tabs_below F7.out k8)
    have B8 := Lib.hid (B7.out.trans (k8.mono B7.out.size))
    clear k8 F7 B7
    go_wp2_with fail
    refine (Y2.out _).mono ?_
    rintro e w9 ⟨rfl, k9⟩
    have F9 := Lib.hid (Go.Proofs.Utf8Tabs_below F8.out k9)
    have B9 := Lib.hid (B8.out.trans (k9.mono B8.out.size))
    clear k9 F8 B8
    go_wp2_with fail
    refine (U5.out _).mono ?_
    rintro e w10 ⟨rfl, k10⟩
    have F10 := Lib.hid (Go.Proofs.Utf8Tabs_below F9.out k10)
    have B10 := Lib.hid (B9.out.trans (k10.mono B9.out.size))
    clear k10 F9 B9
    go_wp2_with fail
    refine (Y5.out _).mono ?_
    rintro e w11 ⟨rfl, k11⟩
    have F11 := Lib.hid (Go.Proofs.Utf8Tabs_below F10.out k11)
    have B11 := Lib.hid (B10.out.trans (k11.mono B10.out.size))
    clear k11 F10 B10
    go_wp2_with fail
    refine (works_any _ F11.out).mono ?_
    rintro e w12 ⟨rfl, k12⟩
    have F12 := Lib.hid (Go.Proofs.Utf8Tabs_below F11.out k12)
    have B12 := Lib.hid (B11.out.trans (k12.mono B11.out.size))
    clear k12 F11 B11
    go_wp2_with fail
    go_ret
    exact ⟨rfl, B12.out⟩
end Go.Proofs.YtpeeeoejjplniaaDoor
