/-
  NumTexts (P1.2): for every int64 and every word of 64 bits the law returns true and leaves all memory that was there as it was. Condition: Facts (the listed variables).
-/
import Derived.Test.YtlinoncoanpcdaaGreatDoorRefText
import Derived.Test.YtlinoncoanpcdaaGreatDoorAwake
namespace Go.Proofs.YtlinoncoanpcdaaGreatDoor
open Go.RowKit Go.Lib
set_option maxRecDepth 100000 in
set_option maxHeartbeats 1000000 in
theorem texts_walk (n b : Int) (h0 : -9223372036854775808 ≤ n) (h1 : n ≤ 9223372036854775807) (b0 : 0 ≤ b) (b1 : b ≤ 18446744073709551615) (w : World) (h : Facts w) :
    Calls Tryz.prog 4 #[.int .i64 n, .int .u64 b] w fun e w' => e = .returned (.bool true) ∧ Below w.heap.size w w' := by
  obtain ⟨f, rfl⟩ := Int.eq_ofNat_of_zero_le b0
  have hbits := fun w => frombits_run (f : Int) w
  rw [Int.toNat_natCast] at hbits
  have HLT : Hid (f < 18446744073709551616) := Lib.hid (by omega)
  have HT := Lib.hid (text_any n h0 h1 w h)
  have HR := Lib.hid (fun w => text_walk n h0 h1 w)
  have HF := Lib.hid h
  have e1 : (Lib.itoa n == Lib.itoa n) = true := by simp
  have e2 : (showL f == showL f) = true := by simp
  clear h h0 h1 b0 b1
  go_enter Tryz.func4, Tryz.ntmps4
  go_wp2_with fail
  refine HT.out.mono ?_
  rintro e w1 ⟨rfl, k1⟩
  have F1 := Lib.hid (HF.out.below k1)
  have B1 := Lib.hid k1
  clear k1 HF
  go_wp2_with fail
  refine (HR.out _).mono ?_
  rintro e w2 ⟨rfl, k2⟩
  have F2 := Lib.hid (F1.out.below k2)
  have B2 := Lib.hid (B1.out.trans (k2.mono B1.out.size))
  clear k2 B1 F1
  go_wp2_with fail
  refine (show_any f _ F2.out HLT.out).mono ?_
  rintro e w3 ⟨rfl, k3⟩
  have F3 := Lib.hid (F2.out.below k3)
  have B3 := Lib.hid (B2.out.trans (k3.mono B2.out.size))
  clear k3 B2 F2
  go_wp2_with fail
  refine (refShow_any f HLT.out _).mono ?_
  rintro e w4 ⟨rfl, k4⟩
  have F4 := Lib.hid (F3.out.below k4)
  have B4 := Lib.hid (B3.out.trans (k4.mono B3.out.size))
  clear k4 B3 F3
  go_wp2_with fail
  refine (awake_any _ F4.out).mono ?_
  rintro e w5 ⟨rfl, k5⟩
  have B5 := Lib.hid (B4.out.trans (k5.mono B4.out.size))
  clear k5 B4 F4
  go_wp2_with fail
  go_ret
  exact ⟨rfl, B5.out⟩
end Go.Proofs.YtlinoncoanpcdaaGreatDoor
