/-
  NumTurns (P1.6): for every int64 and every word of 64 bits the law returns true and leaves all memory that was there as it was. Condition: Facts (the listed variables).
-/
import Derived.Test.YtlinoncoanpcdaaGreatDoorRefToInt
namespace Go.Proofs.YtlinoncoanpcdaaGreatDoor
open Go.RowKit Go.Lib
theorem tf_word (n : Int) (h : n.natAbs ≤ 9223372036854775808) : ((irung n.natAbs : Int) + (if n < 0 then 9223372036854775808 else 0)) = (tf n : Int) ∧ tf n < 18446744073709551616 := by
  rw [tf_eq n h]
  have hr := irung_lt n.natAbs h
  have hw : Ieee.double.signWeight = 9223372036854775808 := by decide
  unfold Ieee.Format.word
  rw [hw]
  by_cases hn : n < 0
  · simp only [hn, if_true, decide_true]
    simp
    omega
  · simp only [hn, if_false, decide_false]
    simp
    omega
set_option maxRecDepth 100000 in
set_option maxHeartbeats 1000000 in
theorem turns_walk (n b : Int) (h0 : -9223372036854775808 ≤ n) (h1 : n ≤ 9223372036854775807) (b0 : 0 ≤ b) (b1 : b ≤ 18446744073709551615) (w : World) (h : Facts w) :
    Calls Tryz.prog 7 #[.int .i64 n, .int .u64 b] w fun e w' => e = .returned (.bool true) ∧ Below w.heap.size w w' := by
  obtain ⟨f, rfl⟩ := Int.eq_ofNat_of_zero_le b0
  have hbits := fun w => frombits_run (f : Int) w
  rw [Int.toNat_natCast] at hbits
  have HLT : Hid (f < 18446744073709551616) := Lib.hid (by omega)
  obtain ⟨t1, t2⟩ := tf_word n (by omega)
  have hTF := fun w => refToFloat_any n h0 h1 w
  rw [t1] at hTF
  have HTF := Lib.hid hTF
  have HT2 := Lib.hid t2
  have HF := Lib.hid h
  have e1 : (showL (tf n) == showL (tf n)) = true := by simp
  have e2 : (toIntV f == toIntV f) = true := by simp
  clear h h0 h1 b0 b1 t1 t2 hTF
  go_enter Tryz.func7, Tryz.ntmps7
  go_wp2_with fail
  refine (tofloat_any n _).mono ?_
  rintro e w' ⟨rfl, rfl⟩
  generalize tf n = x at *
  go_wp2_with fail
  refine (show_any x _ HF.out HT2.out).mono ?_
  rintro e w1 ⟨rfl, k1⟩
  have F1 := Lib.hid (HF.out.below k1)
  have B1 := Lib.hid k1
  clear k1 HF
  go_wp2_with fail
  refine (HTF.out _).mono ?_
  rintro e w2 ⟨rfl, k2⟩
  have F2 := Lib.hid (F1.out.below k2)
  have B2 := Lib.hid (B1.out.trans (k2.mono B1.out.size))
  clear k2 B1 F1 HTF
  go_wp2_with fail
  refine (refShow_any x HT2.out _).mono ?_
  rintro e w3 ⟨rfl, k3⟩
  have F3 := Lib.hid (F2.out.below k3)
  have B3 := Lib.hid (B2.out.trans (k3.mono B2.out.size))
  clear k3 B2 F2
  go_wp2_with fail
  refine (toint_any f _).mono ?_
  rintro e w4 ⟨rfl, rfl⟩
  go_wp2_with fail
  refine (refToInt_any f HLT.out _).mono ?_
  rintro e w4 ⟨rfl, rfl⟩
  go_wp2_with fail
  refine (awake_any _ F3.out).mono ?_
  rintro e w5 ⟨rfl, k5⟩
  have B5 := Lib.hid (B3.out.trans (k5.mono B3.out.size))
  clear k5 B3 F3
  go_wp2_with fail
  go_ret
  exact ⟨rfl, B5.out⟩
end Go.Proofs.YtlinoncoanpcdaaGreatDoor
