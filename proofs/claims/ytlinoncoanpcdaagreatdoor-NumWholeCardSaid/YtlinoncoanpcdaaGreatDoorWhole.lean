/-
  NumWhole (P1.3): for every two int64 the law returns true and leaves all memory that was there as it was. Condition: Facts (the listed variables).
-/
import Derived.Test.YtlinoncoanpcdaaGreatDoorRefDiv
import Derived.Test.YtlinoncoanpcdaaGreatDoorAwake
namespace Go.Proofs.YtlinoncoanpcdaaGreatDoor
open Go.RowKit

theorem u64w (n : Int) : ∃ k : Int, IntKind.u64.wrap n = n + k * 18446744073709551616 := by
  refine ⟨-(n / 18446744073709551616), ?_⟩
  unfold IntKind.wrap
  simp only [IntKind.signed, IntKind.bits]
  simp
  omega
theorem sum_is (a b : Int) : (wAdd a b == wrap64 (IntKind.u64.wrap (IntKind.u64.wrap a + IntKind.u64.wrap b))) = true := by
  obtain ⟨k1, e1⟩ := u64w a
  obtain ⟨k2, e2⟩ := u64w b
  have : wAdd a b = wrap64 (IntKind.u64.wrap (IntKind.u64.wrap a + IntKind.u64.wrap b)) := by
    rw [wrap_wrap, e1, e2]
    exact wrap64_eq (q := -k1 - k2) (by omega)
  simp [this]
theorem dif_is (a b : Int) : (wSub a b == wrap64 (IntKind.u64.wrap (IntKind.u64.wrap a - IntKind.u64.wrap b))) = true := by
  obtain ⟨k1, e1⟩ := u64w a
  obtain ⟨k2, e2⟩ := u64w b
  have : wSub a b = wrap64 (IntKind.u64.wrap (IntKind.u64.wrap a - IntKind.u64.wrap b)) := by
    rw [wrap_wrap, e1, e2]
    exact wrap64_eq (q := -k1 + k2) (by omega)
  simp [this]
theorem neg_is (a : Int) : (wNeg a == wrap64 (IntKind.u64.wrap (-IntKind.u64.wrap a))) = true := by
  obtain ⟨k1, e1⟩ := u64w a
  have : wNeg a = wrap64 (IntKind.u64.wrap (-IntKind.u64.wrap a)) := by
    rw [wrap_wrap, e1]
    exact wrap64_eq (q := k1) (by omega)
  simp [this]
set_option maxRecDepth 100000 in
set_option maxHeartbeats 2000000 in
theorem whole_main (a b q r : Int) (is : Bool) (ha0 : -9223372036854775808 ≤ a) (ha1 : a ≤ 9223372036854775807) (hb0 : -9223372036854775808 ≤ b) (hb1 : b ≤ 9223372036854775807)
    (hD : Hid (∀ w, Calls Tryz.prog 24 #[.int .i64 a, .int .i64 b] w fun e w' => e = .returned (.tuple #[.int .i64 q, .bool is]) ∧ w = w'))
    (hR : Hid (∀ w, Calls Tryz.prog 25 #[.int .i64 a, .int .i64 b] w fun e w' => e = .returned (.tuple #[.int .i64 r, .bool is]) ∧ w = w'))
    (hF : Hid (∀ w, Calls Tryz.prog 26 #[.int .i64 a, .int .i64 b] w fun e w' => e = .returned (.tuple #[.int .i64 q, .int .i64 r, .bool is]) ∧ w = w'))
    (w : World) (h : Facts w) : Calls Tryz.prog 5 #[.int .i64 a, .int .i64 b] w fun e w' => e = .returned (.bool true) ∧ Below w.heap.size w w' := by
  have HM := Lib.hid (fun w => refMul_any a b ha0 ha1 hb0 hb1 w)
  have HF := Lib.hid h
  have f1 := sum_is a b
  have f2 := dif_is a b
  have f3 := neg_is a
  have f4 : (wMul a b == wMul a b) = true := by simp
  clear h ha0 ha1 hb0 hb1
  go_enter Tryz.func5, Tryz.ntmps5
  go_wp2_with fail
  refine (hD.out _).mono ?_
  rintro e w' ⟨rfl, rfl⟩
  go_wp2_with fail
  refine (hR.out _).mono ?_
  rintro e w' ⟨rfl, rfl⟩
  go_wp2_with fail
  refine (hF.out _).mono ?_
  rintro e w' ⟨rfl, rfl⟩
  go_wp2_with fail
  refine (add_any _ _ _).mono ?_
  rintro e w' ⟨rfl, rfl⟩
  go_wp2_with fail
  refine (sub_any _ _ _).mono ?_
  rintro e w' ⟨rfl, rfl⟩
  go_wp2_with fail
  refine (neg_any _ _).mono ?_
  rintro e w' ⟨rfl, rfl⟩
  go_wp2_with fail
  refine (mul_any _ _ _).mono ?_
  rintro e w' ⟨rfl, rfl⟩
  go_wp2_with fail
  refine (HM.out _).mono ?_
  rintro e w1 ⟨rfl, k1⟩
  have K1 := Lib.hid k1
  clear k1
  go_wp2_with fail
  refine (awake_any _ (HF.out.below K1.out)).mono ?_
  rintro e w2 ⟨rfl, k2⟩
  have K2 := Lib.hid (K1.out.trans (k2.mono K1.out.size))
  clear k2 K1
  go_wp2_with fail
  go_ret
  exact ⟨rfl, K2.out⟩
theorem whole_walk (a b : Int) (ha0 : -9223372036854775808 ≤ a) (ha1 : a ≤ 9223372036854775807) (hb0 : -9223372036854775808 ≤ b) (hb1 : b ≤ 9223372036854775807) (w : World) (h : Facts w) :
    Calls Tryz.prog 5 #[.int .i64 a, .int .i64 b] w fun e w' => e = .returned (.bool true) ∧ Below w.heap.size w w' := by
  by_cases hz : b = 0
  · subst hz
    exact whole_main a 0 0 0 false ha0 ha1 hb0 hb1 (Lib.hid fun w => div_zero a w) (Lib.hid fun w => rem_zero a w) (Lib.hid fun w => refDiv_zero a w) w h
  · exact whole_main a b (wDiv a b) (wRem a b) true ha0 ha1 hb0 hb1 (Lib.hid fun w => div_any a b hz w) (Lib.hid fun w => rem_any a b hz w) (Lib.hid fun w => refDiv_any a b ha0 ha1 hb0 hb1 hz w) w h
end Go.Proofs.YtlinoncoanpcdaaGreatDoor
