/-
  THE DOCUMENT's PRODUCT OF TWO FLOATS (emendref01.FMul): at every two words it answers what Ieee's product does, a not-a-number in the place of none; new memory alone is made. No condition but the words' bounds.
-/
import Derived.Test.YtlinoncoanpcdaaGreatDoorRefOps
namespace Go.Proofs.YtlinoncoanpcdaaGreatDoor
open Go.RowKit Ieee
set_option maxRecDepth 100000 in
set_option maxHeartbeats 4000000 in
theorem refFMul_any (a b : Nat) (ha : a < 18446744073709551616) (hb : b < 18446744073709551616) (w : World) : Calls Tryz.prog 37 #[.int .u64 (a : Int), .int .u64 (b : Int)] w fun e w' => e = .returned (.int .u64 ((orNaN (double.mul a b) : Nat) : Int)) ∧ Below w.heap.size w w' := by
  have Ha := Lib.hid ha
  have Hb := Lib.hid hb
  obtain ⟨Sa, ga⟩ : ∃ s, sg a = s := ⟨_, rfl⟩
  obtain ⟨Sb, gb⟩ : ∃ s, sg b = s := ⟨_, rfl⟩
  have Ga := Lib.hid ga
  have Gb := Lib.hid gb
  clear ha hb
  rcases kinds a with na | ⟨na, ia⟩ | ⟨na, za⟩ | ⟨na, za, fa⟩
  · skip
    have Na := Lib.hid na
    have HR : Hid (((orNaN (double.mul a b) : Nat) : Int) = 9221120237041090561) := Lib.hid (nan_told (mul_nan_l a b Na.out))
    clear ga gb na
    go_enter Tryz.func37, Tryz.ntmps37
    go_wp2_with fail
    refine (negC a Ha.out Sa Ga.out _).mono ?_
    rintro e w' ⟨rfl, rfl⟩
    go_wp2_with fail
    refine (negC b Hb.out Sb Gb.out _).mono ?_
    rintro e w' ⟨rfl, rfl⟩
    go_wp2_with fail
    refine (nanC a true Na.out _).mono ?_
    rintro e w' ⟨rfl, rfl⟩
    go_wp2_with fail
    go_ret
    exact ⟨ret_u64 (HR.out.symm), Below.refl _ _⟩
  · rcases kinds b with nb | ⟨nb, ib⟩ | ⟨nb, zb⟩ | ⟨nb, zb, fb⟩
    · skip
      have Na := Lib.hid na
      have Ia : Hid (decide (rg a = 9218868437227405312) = true) := Lib.hid (by simp; omega)
      have Za : Hid (decide (rg a = 0) = false) := Lib.hid (by simp; omega)
      have Nb := Lib.hid nb
      have HR : Hid (((orNaN (double.mul a b) : Nat) : Int) = 9221120237041090561) := Lib.hid (nan_told (mul_nan_r a b Nb.out))
      clear ga gb na ia nb
      go_enter Tryz.func37, Tryz.ntmps37
      go_wp2_with fail
      refine (negC a Ha.out Sa Ga.out _).mono ?_
      rintro e w' ⟨rfl, rfl⟩
      go_wp2_with fail
      refine (negC b Hb.out Sb Gb.out _).mono ?_
      rintro e w' ⟨rfl, rfl⟩
      go_wp2_with fail
      refine (nanC a false Na.out _).mono ?_
      rintro e w' ⟨rfl, rfl⟩
      go_wp2_with fail
      refine (nanC b true Nb.out _).mono ?_
      rintro e w' ⟨rfl, rfl⟩
      go_wp2_with fail
      go_ret
      exact ⟨ret_u64 (HR.out.symm), Below.refl _ _⟩
    · skip
      have Na := Lib.hid na
      have Ia : Hid (decide (rg a = 9218868437227405312) = true) := Lib.hid (by simp; omega)
      have Za : Hid (decide (rg a = 0) = false) := Lib.hid (by simp; omega)
      have Nb := Lib.hid nb
      have Ib : Hid (decide (rg b = 9218868437227405312) = true) := Lib.hid (by simp; omega)
      have Zb : Hid (decide (rg b = 0) = false) := Lib.hid (by simp; omega)
      have HR : Hid (((orNaN (double.mul a b) : Nat) : Int) = signV (Sa != Sb) 9218868437227405312) := Lib.hid (word_told (by rw [mul_inf_inf a b ia ib, ga, gb, xor_bne]))
      clear ga gb na ia nb ib
      go_enter Tryz.func37, Tryz.ntmps37
      go_wp2_with fail
      refine (negC a Ha.out Sa Ga.out _).mono ?_
      rintro e w' ⟨rfl, rfl⟩
      go_wp2_with fail
      refine (negC b Hb.out Sb Gb.out _).mono ?_
      rintro e w' ⟨rfl, rfl⟩
      go_wp2_with fail
      refine (nanC a false Na.out _).mono ?_
      rintro e w' ⟨rfl, rfl⟩
      go_wp2_with fail
      refine (nanC b false Nb.out _).mono ?_
      rintro e w' ⟨rfl, rfl⟩
      go_wp2_with fail
      refine (infC a true Ia.out _).mono ?_
      rintro e w' ⟨rfl, rfl⟩
      go_wp2_with fail
      refine (zeroC b false Zb.out _).mono ?_
      rintro e w' ⟨rfl, rfl⟩
      go_wp2_with fail
      refine (zeroC a false Za.out _).mono ?_
      rintro e w' ⟨rfl, rfl⟩
      go_wp2_with fail
      refine (infC a true Ia.out _).mono ?_
      rintro e w' ⟨rfl, rfl⟩
      go_wp2_with fail
      refine (signedC _ 9218868437227405312 (by decide) _).mono ?_
      rintro e w' ⟨rfl, rfl⟩
      go_wp2_with fail
      go_ret
      exact ⟨ret_u64 (HR.out.symm), Below.refl _ _⟩
    · skip
      have Na := Lib.hid na
      have Ia : Hid (decide (rg a = 9218868437227405312) = true) := Lib.hid (by simp; omega)
      have Za : Hid (decide (rg a = 0) = false) := Lib.hid (by simp; omega)
      have Nb := Lib.hid nb
      have Ib : Hid (decide (rg b = 9218868437227405312) = false) := Lib.hid (by simp; omega)
      have Zb : Hid (decide (rg b = 0) = true) := Lib.hid (by simp; omega)
      have HR : Hid (((orNaN (double.mul a b) : Nat) : Int) = 9221120237041090561) := Lib.hid (nan_told (by rw [mul_inf_l a b ia (by omega), if_pos zb]))
      clear ga gb na ia nb zb
      go_enter Tryz.func37, Tryz.ntmps37
      go_wp2_with fail
      refine (negC a Ha.out Sa Ga.out _).mono ?_
      rintro e w' ⟨rfl, rfl⟩
      go_wp2_with fail
      refine (negC b Hb.out Sb Gb.out _).mono ?_
      rintro e w' ⟨rfl, rfl⟩
      go_wp2_with fail
      refine (nanC a false Na.out _).mono ?_
      rintro e w' ⟨rfl, rfl⟩
      go_wp2_with fail
      refine (nanC b false Nb.out _).mono ?_
      rintro e w' ⟨rfl, rfl⟩
      go_wp2_with fail
      refine (infC a true Ia.out _).mono ?_
      rintro e w' ⟨rfl, rfl⟩
      go_wp2_with fail
      refine (zeroC b true Zb.out _).mono ?_
      rintro e w' ⟨rfl, rfl⟩
      go_wp2_with fail
      go_ret
      exact ⟨ret_u64 (HR.out.symm), Below.refl _ _⟩
    · skip
      have Na := Lib.hid na
      have Ia : Hid (decide (rg a = 9218868437227405312) = true) := Lib.hid (by simp; omega)
      have Za : Hid (decide (rg a = 0) = false) := Lib.hid (by simp; omega)
      have Nb := Lib.hid nb
      have Ib : Hid (decide (rg b = 9218868437227405312) = false) := Lib.hid (by simp; omega)
      have Zb : Hid (decide (rg b = 0) = false) := Lib.hid (by simp; omega)
      have HR : Hid (((orNaN (double.mul a b) : Nat) : Int) = signV (Sa != Sb) 9218868437227405312) := Lib.hid (word_told (by rw [mul_inf_l a b ia (by omega), if_neg zb, ga, gb, xor_bne]))
      clear ga gb na ia nb zb fb
      go_enter Tryz.func37, Tryz.ntmps37
      go_wp2_with fail
      refine (negC a Ha.out Sa Ga.out _).mono ?_
      rintro e w' ⟨rfl, rfl⟩
      go_wp2_with fail
      refine (negC b Hb.out Sb Gb.out _).mono ?_
      rintro e w' ⟨rfl, rfl⟩
      go_wp2_with fail
      refine (nanC a false Na.out _).mono ?_
      rintro e w' ⟨rfl, rfl⟩
      go_wp2_with fail
      refine (nanC b false Nb.out _).mono ?_
      rintro e w' ⟨rfl, rfl⟩
      go_wp2_with fail
      refine (infC a true Ia.out _).mono ?_
      rintro e w' ⟨rfl, rfl⟩
      go_wp2_with fail
      refine (zeroC b false Zb.out _).mono ?_
      rintro e w' ⟨rfl, rfl⟩
      go_wp2_with fail
      refine (zeroC a false Za.out _).mono ?_
      rintro e w' ⟨rfl, rfl⟩
      go_wp2_with fail
      refine (infC a true Ia.out _).mono ?_
      rintro e w' ⟨rfl, rfl⟩
      go_wp2_with fail
      refine (signedC _ 9218868437227405312 (by decide) _).mono ?_
      rintro e w' ⟨rfl, rfl⟩
      go_wp2_with fail
      go_ret
      exact ⟨ret_u64 (HR.out.symm), Below.refl _ _⟩
  · rcases kinds b with nb | ⟨nb, ib⟩ | ⟨nb, zb⟩ | ⟨nb, zb, fb⟩
    · skip
      have Na := Lib.hid na
      have Ia : Hid (decide (rg a = 9218868437227405312) = false) := Lib.hid (by simp; omega)
      have Za : Hid (decide (rg a = 0) = true) := Lib.hid (by simp; omega)
      have Nb := Lib.hid nb
      have HR : Hid (((orNaN (double.mul a b) : Nat) : Int) = 9221120237041090561) := Lib.hid (nan_told (mul_nan_r a b Nb.out))
      clear ga gb na za nb
      go_enter Tryz.func37, Tryz.ntmps37
      go_wp2_with fail
      refine (negC a Ha.out Sa Ga.out _).mono ?_
      rintro e w' ⟨rfl, rfl⟩
      go_wp2_with fail
      refine (negC b Hb.out Sb Gb.out _).mono ?_
      rintro e w' ⟨rfl, rfl⟩
      go_wp2_with fail
      refine (nanC a false Na.out _).mono ?_
      rintro e w' ⟨rfl, rfl⟩
      go_wp2_with fail
      refine (nanC b true Nb.out _).mono ?_
      rintro e w' ⟨rfl, rfl⟩
      go_wp2_with fail
      go_ret
      exact ⟨ret_u64 (HR.out.symm), Below.refl _ _⟩
    · skip
      have Na := Lib.hid na
      have Ia : Hid (decide (rg a = 9218868437227405312) = false) := Lib.hid (by simp; omega)
      have Za : Hid (decide (rg a = 0) = true) := Lib.hid (by simp; omega)
      have Nb := Lib.hid nb
      have Ib : Hid (decide (rg b = 9218868437227405312) = true) := Lib.hid (by simp; omega)
      have Zb : Hid (decide (rg b = 0) = false) := Lib.hid (by simp; omega)
      have HR : Hid (((orNaN (double.mul a b) : Nat) : Int) = 9221120237041090561) := Lib.hid (nan_told (by rw [mul_inf_r a b ib (by omega), if_pos za]))
      clear ga gb na za nb ib
      go_enter Tryz.func37, Tryz.ntmps37
      go_wp2_with fail
      refine (negC a Ha.out Sa Ga.out _).mono ?_
      rintro e w' ⟨rfl, rfl⟩
      go_wp2_with fail
      refine (negC b Hb.out Sb Gb.out _).mono ?_
      rintro e w' ⟨rfl, rfl⟩
      go_wp2_with fail
      refine (nanC a false Na.out _).mono ?_
      rintro e w' ⟨rfl, rfl⟩
      go_wp2_with fail
      refine (nanC b false Nb.out _).mono ?_
      rintro e w' ⟨rfl, rfl⟩
      go_wp2_with fail
      refine (infC a false Ia.out _).mono ?_
      rintro e w' ⟨rfl, rfl⟩
      go_wp2_with fail
      refine (zeroC a true Za.out _).mono ?_
      rintro e w' ⟨rfl, rfl⟩
      go_wp2_with fail
      refine (infC b true Ib.out _).mono ?_
      rintro e w' ⟨rfl, rfl⟩
      go_wp2_with fail
      go_ret
      exact ⟨ret_u64 (HR.out.symm), Below.refl _ _⟩
    · skip
      have Na := Lib.hid na
      have Ia : Hid (decide (rg a = 9218868437227405312) = false) := Lib.hid (by simp; omega)
      have Za : Hid (decide (rg a = 0) = true) := Lib.hid (by simp; omega)
      have Nb := Lib.hid nb
      have Ib : Hid (decide (rg b = 9218868437227405312) = false) := Lib.hid (by simp; omega)
      have Zb : Hid (decide (rg b = 0) = true) := Lib.hid (by simp; omega)
      have HR : Hid (((orNaN (double.mul a b) : Nat) : Int) = signV (Sa != Sb) 0) := Lib.hid (word_told (by rw [mul_zero a b (by omega) (by omega) (by omega), ga, gb, xor_bne]))
      clear ga gb na za nb zb
      go_enter Tryz.func37, Tryz.ntmps37
      go_wp2_with fail
      refine (negC a Ha.out Sa Ga.out _).mono ?_
      rintro e w' ⟨rfl, rfl⟩
      go_wp2_with fail
      refine (negC b Hb.out Sb Gb.out _).mono ?_
      rintro e w' ⟨rfl, rfl⟩
      go_wp2_with fail
      refine (nanC a false Na.out _).mono ?_
      rintro e w' ⟨rfl, rfl⟩
      go_wp2_with fail
      refine (nanC b false Nb.out _).mono ?_
      rintro e w' ⟨rfl, rfl⟩
      go_wp2_with fail
      refine (infC a false Ia.out _).mono ?_
      rintro e w' ⟨rfl, rfl⟩
      go_wp2_with fail
      refine (zeroC a true Za.out _).mono ?_
      rintro e w' ⟨rfl, rfl⟩
      go_wp2_with fail
      refine (infC b false Ib.out _).mono ?_
      rintro e w' ⟨rfl, rfl⟩
      go_wp2_with fail
      refine (infC a false Ia.out _).mono ?_
      rintro e w' ⟨rfl, rfl⟩
      go_wp2_with fail
      refine (infC b false Ib.out _).mono ?_
      rintro e w' ⟨rfl, rfl⟩
      go_wp2_with fail
      refine (zeroC a true Za.out _).mono ?_
      rintro e w' ⟨rfl, rfl⟩
      go_wp2_with fail
      refine (signedC _ 0 (by decide) _).mono ?_
      rintro e w' ⟨rfl, rfl⟩
      go_wp2_with fail
      go_ret
      exact ⟨ret_u64 (HR.out.symm), Below.refl _ _⟩
    · skip
      have Na := Lib.hid na
      have Ia : Hid (decide (rg a = 9218868437227405312) = false) := Lib.hid (by simp; omega)
      have Za : Hid (decide (rg a = 0) = true) := Lib.hid (by simp; omega)
      have Nb := Lib.hid nb
      have Ib : Hid (decide (rg b = 9218868437227405312) = false) := Lib.hid (by simp; omega)
      have Zb : Hid (decide (rg b = 0) = false) := Lib.hid (by simp; omega)
      have HR : Hid (((orNaN (double.mul a b) : Nat) : Int) = signV (Sa != Sb) 0) := Lib.hid (word_told (by rw [mul_zero a b (by omega) (by omega) (by omega), ga, gb, xor_bne]))
      clear ga gb na za nb zb fb
      go_enter Tryz.func37, Tryz.ntmps37
      go_wp2_with fail
      refine (negC a Ha.out Sa Ga.out _).mono ?_
      rintro e w' ⟨rfl, rfl⟩
      go_wp2_with fail
      refine (negC b Hb.out Sb Gb.out _).mono ?_
      rintro e w' ⟨rfl, rfl⟩
      go_wp2_with fail
      refine (nanC a false Na.out _).mono ?_
      rintro e w' ⟨rfl, rfl⟩
      go_wp2_with fail
      refine (nanC b false Nb.out _).mono ?_
      rintro e w' ⟨rfl, rfl⟩
      go_wp2_with fail
      refine (infC a false Ia.out _).mono ?_
      rintro e w' ⟨rfl, rfl⟩
      go_wp2_with fail
      refine (zeroC a true Za.out _).mono ?_
      rintro e w' ⟨rfl, rfl⟩
      go_wp2_with fail
      refine (infC b false Ib.out _).mono ?_
      rintro e w' ⟨rfl, rfl⟩
      go_wp2_with fail
      refine (infC a false Ia.out _).mono ?_
      rintro e w' ⟨rfl, rfl⟩
      go_wp2_with fail
      refine (infC b false Ib.out _).mono ?_
      rintro e w' ⟨rfl, rfl⟩
      go_wp2_with fail
      refine (zeroC a true Za.out _).mono ?_
      rintro e w' ⟨rfl, rfl⟩
      go_wp2_with fail
      refine (signedC _ 0 (by decide) _).mono ?_
      rintro e w' ⟨rfl, rfl⟩
      go_wp2_with fail
      go_ret
      exact ⟨ret_u64 (HR.out.symm), Below.refl _ _⟩
  · rcases kinds b with nb | ⟨nb, ib⟩ | ⟨nb, zb⟩ | ⟨nb, zb, fb⟩
    · skip
      have Na := Lib.hid na
      have Ia : Hid (decide (rg a = 9218868437227405312) = false) := Lib.hid (by simp; omega)
      have Za : Hid (decide (rg a = 0) = false) := Lib.hid (by simp; omega)
      have Nb := Lib.hid nb
      have HR : Hid (((orNaN (double.mul a b) : Nat) : Int) = 9221120237041090561) := Lib.hid (nan_told (mul_nan_r a b Nb.out))
      clear ga gb na za fa nb
      go_enter Tryz.func37, Tryz.ntmps37
      go_wp2_with fail
      refine (negC a Ha.out Sa Ga.out _).mono ?_
      rintro e w' ⟨rfl, rfl⟩
      go_wp2_with fail
      refine (negC b Hb.out Sb Gb.out _).mono ?_
      rintro e w' ⟨rfl, rfl⟩
      go_wp2_with fail
      refine (nanC a false Na.out _).mono ?_
      rintro e w' ⟨rfl, rfl⟩
      go_wp2_with fail
      refine (nanC b true Nb.out _).mono ?_
      rintro e w' ⟨rfl, rfl⟩
      go_wp2_with fail
      go_ret
      exact ⟨ret_u64 (HR.out.symm), Below.refl _ _⟩
    · skip
      have Na := Lib.hid na
      have Ia : Hid (decide (rg a = 9218868437227405312) = false) := Lib.hid (by simp; omega)
      have Za : Hid (decide (rg a = 0) = false) := Lib.hid (by simp; omega)
      have Nb := Lib.hid nb
      have Ib : Hid (decide (rg b = 9218868437227405312) = true) := Lib.hid (by simp; omega)
      have Zb : Hid (decide (rg b = 0) = false) := Lib.hid (by simp; omega)
      have HR : Hid (((orNaN (double.mul a b) : Nat) : Int) = signV (Sa != Sb) 9218868437227405312) := Lib.hid (word_told (by rw [mul_inf_r a b ib (by omega), if_neg za, ga, gb, xor_bne]))
      clear ga gb na za fa nb ib
      go_enter Tryz.func37, Tryz.ntmps37
      go_wp2_with fail
      refine (negC a Ha.out Sa Ga.out _).mono ?_
      rintro e w' ⟨rfl, rfl⟩
      go_wp2_with fail
      refine (negC b Hb.out Sb Gb.out _).mono ?_
      rintro e w' ⟨rfl, rfl⟩
      go_wp2_with fail
      refine (nanC a false Na.out _).mono ?_
      rintro e w' ⟨rfl, rfl⟩
      go_wp2_with fail
      refine (nanC b false Nb.out _).mono ?_
      rintro e w' ⟨rfl, rfl⟩
      go_wp2_with fail
      refine (infC a false Ia.out _).mono ?_
      rintro e w' ⟨rfl, rfl⟩
      go_wp2_with fail
      refine (zeroC a false Za.out _).mono ?_
      rintro e w' ⟨rfl, rfl⟩
      go_wp2_with fail
      refine (infC a false Ia.out _).mono ?_
      rintro e w' ⟨rfl, rfl⟩
      go_wp2_with fail
      refine (infC b true Ib.out _).mono ?_
      rintro e w' ⟨rfl, rfl⟩
      go_wp2_with fail
      refine (signedC _ 9218868437227405312 (by decide) _).mono ?_
      rintro e w' ⟨rfl, rfl⟩
      go_wp2_with fail
      go_ret
      exact ⟨ret_u64 (HR.out.symm), Below.refl _ _⟩
    · skip
      have Na := Lib.hid na
      have Ia : Hid (decide (rg a = 9218868437227405312) = false) := Lib.hid (by simp; omega)
      have Za : Hid (decide (rg a = 0) = false) := Lib.hid (by simp; omega)
      have Nb := Lib.hid nb
      have Ib : Hid (decide (rg b = 9218868437227405312) = false) := Lib.hid (by simp; omega)
      have Zb : Hid (decide (rg b = 0) = true) := Lib.hid (by simp; omega)
      have HR : Hid (((orNaN (double.mul a b) : Nat) : Int) = signV (Sa != Sb) 0) := Lib.hid (word_told (by rw [mul_zero a b (by omega) (by omega) (by omega), ga, gb, xor_bne]))
      clear ga gb na za fa nb zb
      go_enter Tryz.func37, Tryz.ntmps37
      go_wp2_with fail
      refine (negC a Ha.out Sa Ga.out _).mono ?_
      rintro e w' ⟨rfl, rfl⟩
      go_wp2_with fail
      refine (negC b Hb.out Sb Gb.out _).mono ?_
      rintro e w' ⟨rfl, rfl⟩
      go_wp2_with fail
      refine (nanC a false Na.out _).mono ?_
      rintro e w' ⟨rfl, rfl⟩
      go_wp2_with fail
      refine (nanC b false Nb.out _).mono ?_
      rintro e w' ⟨rfl, rfl⟩
      go_wp2_with fail
      refine (infC a false Ia.out _).mono ?_
      rintro e w' ⟨rfl, rfl⟩
      go_wp2_with fail
      refine (zeroC a false Za.out _).mono ?_
      rintro e w' ⟨rfl, rfl⟩
      go_wp2_with fail
      refine (infC a false Ia.out _).mono ?_
      rintro e w' ⟨rfl, rfl⟩
      go_wp2_with fail
      refine (infC b false Ib.out _).mono ?_
      rintro e w' ⟨rfl, rfl⟩
      go_wp2_with fail
      refine (zeroC a false Za.out _).mono ?_
      rintro e w' ⟨rfl, rfl⟩
      go_wp2_with fail
      refine (zeroC b true Zb.out _).mono ?_
      rintro e w' ⟨rfl, rfl⟩
      go_wp2_with fail
      refine (signedC _ 0 (by decide) _).mono ?_
      rintro e w' ⟨rfl, rfl⟩
      go_wp2_with fail
      go_ret
      exact ⟨ret_u64 (HR.out.symm), Below.refl _ _⟩
    · skip
      have Na := Lib.hid na
      have Ia : Hid (decide (rg a = 9218868437227405312) = false) := Lib.hid (by simp; omega)
      have Za : Hid (decide (rg a = 0) = false) := Lib.hid (by simp; omega)
      have Nb := Lib.hid nb
      have Ib : Hid (decide (rg b = 9218868437227405312) = false) := Lib.hid (by simp; omega)
      have Zb : Hid (decide (rg b = 0) = false) := Lib.hid (by simp; omega)
      have HR : Hid (∀ E, IsE (sigM (rg a) * sigM (rg b) * 2 ^ (sigE (rg a) + sigE (rg b)).toNat) (1 * 2 ^ (-(sigE (rg a) + sigE (rg b))).toNat) E → ((orNaN (double.mul a b) : Nat) : Int) = signV (Sa != Sb) (frung (sigM (rg a) * sigM (rg b) * 2 ^ (sigE (rg a) + sigE (rg b)).toNat) (1 * 2 ^ (-(sigE (rg a) + sigE (rg b))).toNat) E)) := Lib.hid (fun E hE => word_told (by rw [mul_num a b fa fb za zb E hE, ga, gb, xor_bne]))
      obtain ⟨e1, e2⟩ := sigE_range (rg a) fa
      obtain ⟨e3, e4⟩ := sigE_range (rg b) fb
      have M1 := Lib.hid (sigM_53 (rg a))
      have M2 := Lib.hid (sigM_53 (rg b))
      have P1 := Lib.hid (sig_pos (rg a) za)
      have P2 := Lib.hid (sig_pos (rg b) zb)
      have T1 := Lib.hid (fun w => splitC a w)
      have T2 := Lib.hid (fun w => splitC b w)
      generalize sigM (rg a) = m at *
      generalize sigM (rg b) = n at *
      generalize sigE (rg a) = e at *
      generalize sigE (rg b) = f at *
      clear ga gb na za fa nb zb fb
      go_enter Tryz.func37, Tryz.ntmps37
      go_wp2_with fail
      refine (negC a Ha.out Sa Ga.out _).mono ?_
      rintro e w' ⟨rfl, rfl⟩
      go_wp2_with fail
      refine (negC b Hb.out Sb Gb.out _).mono ?_
      rintro e w' ⟨rfl, rfl⟩
      go_wp2_with fail
      refine (nanC a false Na.out _).mono ?_
      rintro e w' ⟨rfl, rfl⟩
      go_wp2_with fail
      refine (nanC b false Nb.out _).mono ?_
      rintro e w' ⟨rfl, rfl⟩
      go_wp2_with fail
      refine (infC a false Ia.out _).mono ?_
      rintro e w' ⟨rfl, rfl⟩
      go_wp2_with fail
      refine (zeroC a false Za.out _).mono ?_
      rintro e w' ⟨rfl, rfl⟩
      go_wp2_with fail
      refine (infC a false Ia.out _).mono ?_
      rintro e w' ⟨rfl, rfl⟩
      go_wp2_with fail
      refine (infC b false Ib.out _).mono ?_
      rintro e w' ⟨rfl, rfl⟩
      go_wp2_with fail
      refine (zeroC a false Za.out _).mono ?_
      rintro e w' ⟨rfl, rfl⟩
      go_wp2_with fail
      refine (zeroC b false Zb.out _).mono ?_
      rintro e w' ⟨rfl, rfl⟩
      go_wp2_with fail
      refine (T1.out _).mono ?_
      rintro e w' ⟨rfl, rfl⟩
      go_wp2_with fail
      refine (T2.out _).mono ?_
      rintro e w' ⟨rfl, rfl⟩
      go_wp2_with fail
      refine (of_num m (by have := M1.out; omega) _).mono ?_
      rintro e w1 ⟨A1, c1, l1, rfl, hr1, hn1, hv1, hl1, hc1, hb1⟩
      have R1 := Lib.hid hr1
      have O1 := Lib.hid hn1
      have V1 := Lib.hid hv1
      have B1 := Lib.hid hb1
      clear hr1 hn1 hv1 hc1 hb1
      go_wp2_with fail
      refine (of_num n (by have := M2.out; omega) _).mono ?_
      rintro e w2 ⟨A2, c2, l2, rfl, hr2, hn2, hv2, hl2, hc2, hb2⟩
      have R1' := Lib.hid (R1.out.keep hb2)
      clear R1
      have R1 := Lib.hid R1'.out
      clear R1'
      have R2 := Lib.hid hr2
      have O2 := Lib.hid hn2
      have V2 := Lib.hid hv2
      have B2 := Lib.hid (B1.out.trans (hb2.mono B1.out.size))
      clear hr2 hn2 hv2 hc2 hb2 B1
      go_wp2_with fail
      refine (times_num A1 A2 c1 c2 l1 l2 (by omega) (by omega) _ R1.out R2.out O1.out.1 O2.out.1).mono ?_
      rintro e w3 ⟨A3, c3, l3, rfl, hr3, hn3, hv3, hl3, hc3, hb3⟩
      have R3 := Lib.hid hr3
      have O3 := Lib.hid hn3
      have V3 := Lib.hid hv3
      have B3 := Lib.hid (B2.out.trans (hb3.mono B2.out.size))
      clear hr3 hn3 hv3 hc3 hb3 B2
      rw [V1.out, V2.out] at V3
      go_wp2_with fail
      refine (of_num 1 (by decide) _).mono ?_
      rintro e w4 ⟨A4, c4, l4, rfl, hr4, hn4, hv4, hl4, hc4, hb4⟩
      have R3' := Lib.hid (R3.out.keep hb4)
      clear R3
      have R3 := Lib.hid R3'.out
      clear R3'
      have R4 := Lib.hid hr4
      have O4 := Lib.hid hn4
      have V4 := Lib.hid hv4
      have B4 := Lib.hid (B3.out.trans (hb4.mono B3.out.size))
      clear hr4 hn4 hv4 hc4 hb4 B3
      go_wp2_with fail
      refine (scaled_any A3 A4 c3 c4 l3 l4 (e + f) (by omega) (by omega) (by omega) (by omega) _ R3.out R4.out O3.out O4.out).mono ?_
      rintro e w5 ⟨X, x, xs, Y, y, ys, rfl, hrx, hry, hnx, hny, hvx, hvy, hlx, hly, hb5⟩
      rw [V3.out] at hvx
      rw [V4.out] at hvy
      have bx : val xs < most := by rw [hvx]; exact pow_bound (x := 106) (by rw [show 106 = 53 + 53 from rfl, Nat.pow_add]; exact Nat.mul_lt_mul_of_lt_of_le M1.out (Nat.le_of_lt M2.out) (Nat.two_pow_pos 53)) (by omega)
      have by' : val ys < most := by rw [hvy]; exact pow_bound (x := 1) (by decide) (by omega)
      have HX := Lib.hid (round_any (Sa != Sb) X Y x y xs ys (small_len hnx bx).1 (small_len hny by').1 w5 hrx hry hnx hny (by rw [hvx]; exact Nat.mul_pos (Nat.mul_pos (Nat.pos_of_ne_zero P1.out) (Nat.pos_of_ne_zero P2.out)) (Nat.two_pow_pos _)) (by rw [hvy]; exact Nat.mul_pos (by decide) (Nat.two_pow_pos _)) (small_len hnx bx).2 (small_len hny by').2)
      rw [hvx, hvy] at HX
      have B5 := Lib.hid (B4.out.trans (hb5.mono B4.out.size))
      clear hrx hry hnx hny hvx hvy hlx hly hb5 bx by' B4
      go_wp2_with fail
      refine HX.out.mono ?_
      rintro e w6 ⟨E, hE, he, hb6⟩
      have he' : e = .returned (.int .u64 (signV _ (frung _ _ E))) := he
      clear he
      subst he'
      have HF := Lib.hid (HR.out E hE)
      have B6 := Lib.hid (B5.out.trans (hb6.mono B5.out.size))
      clear hE hb6 B5 HX
      go_wp2_with fail
      go_ret
      exact ⟨ret_u64 (by first | exact HF.out.symm | rw [HF.out, Nat.one_mul]), B6.out⟩
end Go.Proofs.YtlinoncoanpcdaaGreatDoor
