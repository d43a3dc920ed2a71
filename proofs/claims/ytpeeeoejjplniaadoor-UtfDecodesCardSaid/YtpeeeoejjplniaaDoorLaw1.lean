/-
  UtfDecodes, UtfEncodes, UtfUnits (P2.1, P2.2): for every input the laws return true and leave all memory that was there as it was. Condition: unicode/utf8's two tables are as their text lays them (Utf8Tabs).
-/
import Derived.Test.YtpeeeoejjplniaaDoorWorks
import Derived.Test.YtpeeeoejjplniaaDoorRefB
namespace Go.Proofs.YtpeeeoejjplniaaDoor
open Go.RowKit

set_option maxRecDepth 100000 in
set_option maxHeartbeats 1000000 in
theorem decodes_walk (s : ByteArray) (x : Int) (w : World) (hT : Lib.Utf8Tabs 0 1 w) : Calls Tryd.prog 3 #[.string s, .int .i64 x] w fun e w' => e = .returned (.bool true) ∧ Below w.heap.size w w' := by
  have F0 := Lib.hid hT
  have B0 := Lib.hid (Below.refl w.heap.size w)
  clear hT
  by_cases hl : 5000 < s.size
  · have HL := Lib.hid hl
    clear hl
    go_enter Tryd.func3, Tryd.ntmps3
    go_wp2_with fail
    refine (long_yes s HL.out _).mono ?_
    rintro e w' ⟨rfl, rfl⟩
    go_wp2_with fail
    refine (works_any _ F0.out).mono ?_
    rintro e w1 ⟨rfl, k1⟩
    have B1 := Lib.hid k1
    clear k1
    go_wp2_with fail
    go_ret
    exact ⟨rfl, B1.out⟩
  have HL : Hid (s.size ≤ 5000) := Lib.hid (by omega)
  have HS : Hid (s.size ≤ 1000000) := Lib.hid (by omega)
  clear hl
  have C1 := Lib.hid (fun w hT => decode_any s x w hT)
  have C2 := Lib.hid (fun w => refDec_any s x HS.out w)
  have C3 := Lib.hid (fun w hT => valid_any s w hT)
  have C4 := Lib.hid (fun w => refValid_any s HS.out w)
  generalize decP s x = p at *
  generalize decW s x = q at *
  generalize valid s.data.toList = v at *
  have ev : (v == v) = true := by simp
  go_enter Tryd.func3, Tryd.ntmps3
  go_wp2_with fail
  refine (long_no s HL.out _).mono ?_
  rintro e w' ⟨rfl, rfl⟩
  go_wp2_with fail
  refine (C1.out _ F0.out).mono ?_
  rintro e w1 ⟨rfl, k1⟩
  have F1 := Lib.hid (Go.Proofs.Utf8Tabs_below F0.out k1)
  have B1 := Lib.hid (B0.out.trans (k1.mono B0.out.size))
  clear k1 F0 B0
  go_wp2_with fail
  refine (C2.out _).mono ?_
  rintro e w2 ⟨rfl, k2⟩
  have F2 := Lib.hid (Go.Proofs.Utf8Tabs_below F1.out k2)
  have B2 := Lib.hid (B1.out.trans (k2.mono B1.out.size))
  clear k2 F1 B1
  go_wp2_with fail
  refine (C3.out _ F2.out).mono ?_
  rintro e w3 ⟨rfl, k3⟩
  have F3 := Lib.hid (Go.Proofs.Utf8Tabs_below F2.out k3)
  have B3 := Lib.hid (B2.out.trans (k3.mono B2.out.size))
  clear k3 F2 B2
  go_wp2_with fail
  refine (C4.out _).mono ?_
  rintro e w4 ⟨rfl, k4⟩
  have F4 := Lib.hid (Go.Proofs.Utf8Tabs_below F3.out k4)
  have B4 := Lib.hid (B3.out.trans (k4.mono B3.out.size))
  clear k4 F3 B3
  go_wp2_with fail
  refine (works_any _ F4.out).mono ?_
  rintro e w5 ⟨rfl, k5⟩
  have B5 := Lib.hid (B4.out.trans (k5.mono B4.out.size))
  clear k5 F4 B4
  go_wp2_with fail
  go_ret
  exact ⟨rfl, B5.out⟩
set_option maxRecDepth 100000 in
set_option maxHeartbeats 1000000 in
theorem encodes_walk (x : Int) (w : World) (hT : Lib.Utf8Tabs 0 1 w) : Calls Tryd.prog 4 #[.int .i64 x] w fun e w' => e = .returned (.bool true) ∧ Below w.heap.size w w' := by
  have F0 := Lib.hid hT
  have B0 := Lib.hid (Below.refl w.heap.size w)
  clear hT
  by_cases hp : isPt x = true
  · have C1 := Lib.hid (fun w => enc_yes x hp w)
    have C2 := Lib.hid (fun w => refEnc_yes x hp w)
    clear hp
    generalize encL x.toNat = l at *
    have ev : (l == l) = true := by simp
    go_enter Tryd.func4, Tryd.ntmps4
    go_wp2_with fail
    refine (C1.out _).mono ?_
    rintro e w' ⟨rfl, rfl⟩
    go_wp2_with fail
    refine (C2.out _).mono ?_
    rintro e w1 ⟨rfl, k1⟩
    have F1 := Lib.hid (Go.Proofs.Utf8Tabs_below F0.out k1)
    have B1 := Lib.hid (B0.out.trans (k1.mono B0.out.size))
    clear k1 F0 B0
    go_wp2_with fail
    refine (works_any _ F1.out).mono ?_
    rintro e w2 ⟨rfl, k2⟩
    have B2 := Lib.hid (B1.out.trans (k2.mono B1.out.size))
    clear k2 F1 B1
    go_wp2_with fail
    go_ret
    exact ⟨rfl, B2.out⟩
  · have hp2 : isPt x = false := by simpa using hp
    have C1 := Lib.hid (fun w => enc_no x hp2 w)
    have C2 := Lib.hid (fun w => refEnc_no x hp2 w)
    clear hp hp2
    go_enter Tryd.func4, Tryd.ntmps4
    go_wp2_with fail
    refine (C1.out _).mono ?_
    rintro e w' ⟨rfl, rfl⟩
    go_wp2_with fail
    refine (C2.out _).mono ?_
    rintro e w1 ⟨rfl, k1⟩
    have F1 := Lib.hid (Go.Proofs.Utf8Tabs_below F0.out k1)
    have B1 := Lib.hid (B0.out.trans (k1.mono B0.out.size))
    clear k1 F0 B0
    go_wp2_with fail
    refine (works_any _ F1.out).mono ?_
    rintro e w2 ⟨rfl, k2⟩
    have B2 := Lib.hid (B1.out.trans (k2.mono B1.out.size))
    clear k2 F1 B1
    go_wp2_with fail
    go_ret
    exact ⟨rfl, B2.out⟩
set_option maxRecDepth 100000 in
set_option maxHeartbeats 1000000 in
theorem units_walk (s : ByteArray) (x y : Int) (w : World) (hT : Lib.Utf8Tabs 0 1 w) : Calls Tryd.prog 5 #[.string s, .int .i64 x, .int .i64 y] w fun e w' => e = .returned (.bool true) ∧ Below w.heap.size w w' := by
  have F0 := Lib.hid hT
  have B0 := Lib.hid (Below.refl w.heap.size w)
  clear hT
  by_cases hl : 5000 < s.size
  · have HL := Lib.hid hl
    clear hl
    go_enter Tryd.func5, Tryd.ntmps5
    go_wp2_with fail
    refine (long_yes s HL.out _).mono ?_
    rintro e w' ⟨rfl, rfl⟩
    go_wp2_with fail
    refine (works_any _ F0.out).mono ?_
    rintro e w1 ⟨rfl, k1⟩
    have B1 := Lib.hid k1
    clear k1
    go_wp2_with fail
    go_ret
    exact ⟨rfl, B1.out⟩
  have HL : Hid (s.size ≤ 5000) := Lib.hid (by omega)
  have HS : Hid (s.size ≤ 1000000) := Lib.hid (by omega)
  clear hl
  have C1 := Lib.hid (fun w => units_any s HS.out w)
  have C2 := Lib.hid (fun w => refUnits_any s HS.out w)
  have C3 := Lib.hid (fun w => byte_any s x HS.out w)
  have C4 := Lib.hid (fun w => refByte_any s x HS.out w)
  have C5 := Lib.hid (fun w => unitsAt_any s y HS.out w)
  have C6 := Lib.hid (fun w => refUnitsAt_any s y HS.out w)
  generalize units s.data.toList = p at *
  generalize byteAt s.data.toList x = q at *
  generalize unitsAt s.data.toList y = r at *
  go_enter Tryd.func5, Tryd.ntmps5
  go_wp2_with fail
  refine (long_no s HL.out _).mono ?_
  rintro e w' ⟨rfl, rfl⟩
  go_wp2_with fail
  refine (C1.out _).mono ?_
  rintro e w1 ⟨rfl, k1⟩
  have F1 := Lib.hid (Go.Proofs.Utf8Tabs_below F0.out k1)
  have B1 := Lib.hid (B0.out.trans (k1.mono B0.out.size))
  clear k1 F0 B0
  go_wp2_with fail
  refine (C2.out _).mono ?_
  rintro e w2 ⟨rfl, k2⟩
  have F2 := Lib.hid (Go.Proofs.Utf8Tabs_below F1.out k2)
  have B2 := Lib.hid (B1.out.trans (k2.mono B1.out.size))
  clear k2 F1 B1
  go_wp2_with fail
  refine (C3.out _).mono ?_
  rintro e w3 ⟨rfl, k3⟩
  have F3 := Lib.hid (Go.Proofs.Utf8Tabs_below F2.out k3)
  have B3 := Lib.hid (B2.out.trans (k3.mono B2.out.size))
  clear k3 F2 B2
  go_wp2_with fail
  refine (C4.out _).mono ?_
  rintro e w4 ⟨rfl, k4⟩
  have F4 := Lib.hid (Go.Proofs.Utf8Tabs_below F3.out k4)
  have B4 := Lib.hid (B3.out.trans (k4.mono B3.out.size))
  clear k4 F3 B3
  go_wp2_with fail
  refine (C5.out _).mono ?_
  rintro e w5 ⟨rfl, k5⟩
  have F5 := Lib.hid (Go.Proofs.Utf8Tabs_below F4.out k5)
  have B5 := Lib.hid (B4.out.trans (k5.mono B4.out.size))
  clear k5 F4 B4
  go_wp2_with fail
  refine (C6.out _).mono ?_
  rintro e w6 ⟨rfl, k6⟩
  have F6 := Lib.hid (Go.Proofs.Utf8Tabs_below F5.out k6)
  have B6 := Lib.hid (B5.out.trans (k6.mono B5.out.size))
  clear k6 F5 B5
  go_wp2_with fail
  refine (works_any _ F6.out).mono ?_
  rintro e w7 ⟨rfl, k7⟩
  have B7 := Lib.hid (B6.out.trans (k7.mono B6.out.size))
  clear k7 F6 B6
  go_wp2_with fail
  go_ret
  exact ⟨rfl, B7.out⟩
end Go.Proofs.YtpeeeoejjplniaaDoor
