/-
  THE DOCUMENT's QUOTIENT OF TWO FLOATS (emendref01.FDiv): at every two words it answers what Ieee's quotient does, a not-a-number in the place of none; new memory alone is made. No condition but the words' bounds.
-/
import Derived.Test.YtlinoncoanpcdaaGreatDoorRefOps
namespace Go.Proofs.YtlinoncoanpcdaaGreatDoor
open Go.RowKit Ieee
set_option maxRecDepth 100000 in
set_option maxHeartbeats 4000000 in
theorem refFDiv_any (a b : Nat) (ha : a < 18446744073709551616) (hb : b < 18446744073709551616) (w : World) : Calls Tryz.prog 39 #[.int .u64 (a : Int), .int .u64 (b : Int)] w fun e w' => e = .returned (.int .u64 ((orNaN (double.div a b) : Nat) : Int)) ∧ Below w.heap.size w w' := by
  have Ha := Lib.hid ha
  have Hb := Lib.hid hb
  obtain ⟨Sa, ga⟩ : ∃ s, sg a = s := ⟨_, rfl⟩
  obtain ⟨Sb, gb⟩ : ∃ s, sg b = s := ⟨_, rfl⟩
  have Ga := Lib.hid ga
  have Gb := Lib.hid gb
  clear ha hb
  rcases kinds a with na | ⟨na, ia⟩ | ⟨na, za⟩ | ⟨na, za, fa⟩
  · skip
    have Na := Lib.hid na
    have HR : Hid (((orNaN (double.div a b) : Nat) : Int) = 9221120237041090561) := Lib.hid (nan_told (div_nan_l a b Na.out))
    clear ga gb na
    go_enter Tryz.func39, Tryz.ntmps39
    go_wp2_with fail
    refine (negC a Ha.out Sa Ga.out _).mono ?_
    rintro e w' ⟨rfl, rfl⟩
    go_wp2_with fail
    refine (negC b Hb.out Sb Gb.out _).mono ?_
    rintro e w' ⟨rfl, rfl⟩
    go_wp2_with fail
    refine (nanC a true Na.out _).mono ?_
    rintro e w' ⟨rfl, rfl⟩
    go_wp2_with fail
    go_ret
    exact ⟨ret_u64 (HR.out.symm), Below.refl _ _⟩
  · rcases kinds b with nb | ⟨nb, ib⟩ | ⟨nb, zb⟩ | ⟨nb, zb, fb⟩
    · skip
      have Na := Lib.hid na
      have Ia : Hid (decide (rg a = 9218868437227405312) = true) := Lib.hid (by simp; omega)
      have Za : Hid (decide (rg a = 0) = false) := Lib.hid (by simp; omega)
      have Nb := Lib.hid nb
      have HR : Hid (((orNaN (double.div a b) : Nat) : Int) = 9221120237041090561) := Lib.hid (nan_told (div_nan_r a b Nb.out))
      clear ga gb na ia nb
      go_enter Tryz.func39, Tryz.ntmps39
      go_wp2_with fail
      refine (negC a Ha.out Sa Ga.out _).mono ?_
      rintro e w' ⟨rfl, rfl⟩
      go_wp2_with fail
      refine (negC b Hb.out Sb Gb.out _).mono ?_
      rintro e w' ⟨rfl, rfl⟩
      go_wp2_with fail
      refine (nanC a false Na.out _).mono ?_
      rintro e w' ⟨rfl, rfl⟩
      go_wp2_with fail
      refine (nanC b true Nb.out _).mono ?_
      rintro e w' ⟨rfl, rfl⟩
      go_wp2_with fail
      go_ret
      exact ⟨ret_u64 (HR.out.symm), Below.refl _ _⟩
    · skip
      have Na := Lib.hid na
      have Ia : Hid (decide (rg a = 9218868437227405312) = true) := Lib.hid (by simp; omega)
      have Za : Hid (decide (rg a = 0) = false) := Lib.hid (by simp; omega)
      have Nb := Lib.hid nb
      have Ib : Hid (decide (rg b = 9218868437227405312) = true) := Lib.hid (by simp; omega)
      have Zb : Hid (decide (rg b = 0) = false) := Lib.hid (by simp; omega)
      have HR : Hid (((orNaN (double.div a b) : Nat) : Int) = 9221120237041090561) := Lib.hid (nan_told (div_inf_inf a b ia ib))
      clear ga gb na ia nb ib
      go_enter Tryz.func39, Tryz.ntmps39
      go_wp2_with fail
      refine (negC a Ha.out Sa Ga.out _).mono ?_
      rintro e w' ⟨rfl, rfl⟩
      go_wp2_with fail
      refine (negC b Hb.out Sb Gb.out _).mono ?_
      rintro e w' ⟨rfl, rfl⟩
      go_wp2_with fail
      refine (nanC a false Na.out _).mono ?_
      rintro e w' ⟨rfl, rfl⟩
      go_wp2_with fail
      refine (nanC b false Nb.out _).mono ?_
      rintro e w' ⟨rfl, rfl⟩
      go_wp2_with fail
      refine (infC a true Ia.out _).mono ?_
      rintro e w' ⟨rfl, rfl⟩
      go_wp2_with fail
      refine (infC b true Ib.out _).mono ?_
      rintro e w' ⟨rfl, rfl⟩
      go_wp2_with fail
      go_ret
      exact ⟨ret_u64 (HR.out.symm), Below.refl _ _⟩
    · skip
      have Na := Lib.hid na
      have Ia : Hid (decide (rg a = 9218868437227405312) = true) := Lib.hid (by simp; omega)
      have Za : Hid (decide (rg a = 0) = false) := Lib.hid (by simp; omega)
      have Nb := Lib.hid nb
      have Ib : Hid (decide (rg b = 9218868437227405312) = false) := Lib.hid (by simp; omega)
      have Zb : Hid (decide (rg b = 0) = true) := Lib.hid (by simp; omega)
      have HR : Hid (((orNaN (double.div a b) : Nat) : Int) = signV (Sa != Sb) 9218868437227405312) := Lib.hid (word_told (by rw [div_inf_l a b ia (by omega), ga, gb, xor_bne]))
      clear ga gb na ia nb zb
      go_enter Tryz.func39, Tryz.ntmps39
      go_wp2_with fail
      refine (negC a Ha.out Sa Ga.out _).mono ?_
      rintro e w' ⟨rfl, rfl⟩
      go_wp2_with fail
      refine (negC b Hb.out Sb Gb.out _).mono ?_
      rintro e w' ⟨rfl, rfl⟩
      go_wp2_with fail
      refine (nanC a false Na.out _).mono ?_
      rintro e w' ⟨rfl, rfl⟩
      go_wp2_with fail
      refine (nanC b false Nb.out _).mono ?_
      rintro e w' ⟨rfl, rfl⟩
      go_wp2_with fail
      refine (infC a true Ia.out _).mono ?_
      rintro e w' ⟨rfl, rfl⟩
      go_wp2_with fail
      refine (infC b false Ib.out _).mono ?_
      rintro e w' ⟨rfl, rfl⟩
      go_wp2_with fail
      refine (zeroC a false Za.out _).mono ?_
      rintro e w' ⟨rfl, rfl⟩
      go_wp2_with fail
      refine (infC a true Ia.out _).mono ?_
      rintro e w' ⟨rfl, rfl⟩
      go_wp2_with fail
      refine (signedC _ 9218868437227405312 (by decide) _).mono ?_
      rintro e w' ⟨rfl, rfl⟩
      go_wp2_with fail
      go_ret
      exact ⟨ret_u64 (HR.out.symm), Below.refl _ _⟩
    · skip
      have Na := Lib.hid na
      have Ia : Hid (decide (rg a = 9218868437227405312) = true) := Lib.hid (by simp; omega)
      have Za : Hid (decide (rg a = 0) = false) := Lib.hid (by simp; omega)
      have Nb := Lib.hid nb
      have Ib : Hid (decide (rg b = 9218868437227405312) = false) := Lib.hid (by simp; omega)
      have Zb : Hid (decide (rg b = 0) = false) := Lib.hid (by simp; omega)
      have HR : Hid (((orNaN (double.div a b) : Nat) : Int) = signV (Sa != Sb) 9218868437227405312) := Lib.hid (word_told (by rw [div_inf_l a b ia (by omega), ga, gb, xor_bne]))
      clear ga gb na ia nb zb fb
      go_enter Tryz.func39, Tryz.ntmps39
      go_wp2_with fail
      refine (negC a Ha.out Sa Ga.out _).mono ?_
      rintro e w' ⟨rfl, rfl⟩
      go_wp2_with fail
      refine (negC b Hb.out Sb Gb.out _).mono ?_
      rintro e w' ⟨rfl, rfl⟩
      go_wp2_with fail
      refine (nanC a false Na.out _).mono ?_
      rintro e w' ⟨rfl, rfl⟩
      go_wp2_with fail
      refine (nanC b false Nb.out _).mono ?_
      rintro e w' ⟨rfl, rfl⟩
      go_wp2_with fail
      refine (infC a true Ia.out _).mono ?_
      rintro e w' ⟨rfl, rfl⟩
      go_wp2_with fail
      refine (infC b false Ib.out _).mono ?_
      rintro e w' ⟨rfl, rfl⟩
      go_wp2_with fail
      refine (zeroC a false Za.out _).mono ?_
      rintro e w' ⟨rfl, rfl⟩
      go_wp2_with fail
      refine (infC a true Ia.out _).mono ?_
      rintro e w' ⟨rfl, rfl⟩
      go_wp2_with fail
      refine (signedC _ 9218868437227405312 (by decide) _).mono ?_
      rintro e w' ⟨rfl, rfl⟩
      go_wp2_with fail
      go_ret
      exact ⟨ret_u64 (HR.out.symm), Below.refl _ _⟩
  · rcases kinds b with nb | ⟨nb, ib⟩ | ⟨nb, zb⟩ | ⟨nb, zb, fb⟩
    · skip
      have Na := Lib.hid na
      have Ia : Hid (decide (rg a = 9218868437227405312) = false) := Lib.hid (by simp; omega)
      have Za : Hid (decide (rg a = 0) = true) := Lib.hid (by simp; omega)
      have Nb := Lib.hid nb
      have HR : Hid (((orNaN (double.div a b) : Nat) : Int) = 9221120237041090561) := Lib.hid (nan_told (div_nan_r a b Nb.out))
      clear ga gb na za nb
      go_enter Tryz.func39, Tryz.ntmps39
      go_wp2_with fail
      refine (negC a Ha.out Sa Ga.out _).mono ?_
      rintro e w' ⟨rfl, rfl⟩
      go_wp2_with fail
      refine (negC b Hb.out Sb Gb.out _).mono ?_
      rintro e w' ⟨rfl, rfl⟩
      go_wp2_with fail
      refine (nanC a false Na.out _).mono ?_
      rintro e w' ⟨rfl, rfl⟩
      go_wp2_with fail
      refine (nanC b true Nb.out _).mono ?_
      rintro e w' ⟨rfl, rfl⟩
      go_wp2_with fail
      go_ret
      exact ⟨ret_u64 (HR.out.symm), Below.refl _ _⟩
    · skip
      have Na := Lib.hid na
      have Ia : Hid (decide (rg a = 9218868437227405312) = false) := Lib.hid (by simp; omega)
      have Za : Hid (decide (rg a = 0) = true) := Lib.hid (by simp; omega)
      have Nb := Lib.hid nb
      have Ib : Hid (decide (rg b = 9218868437227405312) = true) := Lib.hid (by simp; omega)
      have Zb : Hid (decide (rg b = 0) = false) := Lib.hid (by simp; omega)
      have HR : Hid (((orNaN (double.div a b) : Nat) : Int) = signV (Sa != Sb) 0) := Lib.hid (word_told (by rw [div_inf_r a b ib (by omega), ga, gb, xor_bne]))
      clear ga gb na za nb ib
      go_enter Tryz.func39, Tryz.ntmps39
      go_wp2_with fail
      refine (negC a Ha.out Sa Ga.out _).mono ?_
      rintro e w' ⟨rfl, rfl⟩
      go_wp2_with fail
      refine (negC b Hb.out Sb Gb.out _).mono ?_
      rintro e w' ⟨rfl, rfl⟩
      go_wp2_with fail
      refine (nanC a false Na.out _).mono ?_
      rintro e w' ⟨rfl, rfl⟩
      go_wp2_with fail
      refine (nanC b false Nb.out _).mono ?_
      rintro e w' ⟨rfl, rfl⟩
      go_wp2_with fail
      refine (infC a false Ia.out _).mono ?_
      rintro e w' ⟨rfl, rfl⟩
      go_wp2_with fail
      refine (zeroC a true Za.out _).mono ?_
      rintro e w' ⟨rfl, rfl⟩
      go_wp2_with fail
      refine (zeroC b false Zb.out _).mono ?_
      rintro e w' ⟨rfl, rfl⟩
      go_wp2_with fail
      refine (infC a false Ia.out _).mono ?_
      rintro e w' ⟨rfl, rfl⟩
      go_wp2_with fail
      refine (zeroC b false Zb.out _).mono ?_
      rintro e w' ⟨rfl, rfl⟩
      go_wp2_with fail
      refine (zeroC a true Za.out _).mono ?_
      rintro e w' ⟨rfl, rfl⟩
      go_wp2_with fail
      refine (signedC _ 0 (by decide) _).mono ?_
      rintro e w' ⟨rfl, rfl⟩
      go_wp2_with fail
      go_ret
      exact ⟨ret_u64 (HR.out.symm), Below.refl _ _⟩
    · skip
      have Na := Lib.hid na
      have Ia : Hid (decide (rg a = 9218868437227405312) = false) := Lib.hid (by simp; omega)
      have Za : Hid (decide (rg a = 0) = true) := Lib.hid (by simp; omega)
      have Nb := Lib.hid nb
      have Ib : Hid (decide (rg b = 9218868437227405312) = false) := Lib.hid (by simp; omega)
      have Zb : Hid (decide (rg b = 0) = true) := Lib.hid (by simp; omega)
      have HR : Hid (((orNaN (double.div a b) : Nat) : Int) = 9221120237041090561) := Lib.hid (nan_told (by rw [div_by_zero a b (by omega) zb, if_pos za]))
      clear ga gb na za nb zb
      go_enter Tryz.func39, Tryz.ntmps39
      go_wp2_with fail
      refine (negC a Ha.out Sa Ga.out _).mono ?_
      rintro e w' ⟨rfl, rfl⟩
      go_wp2_with fail
      refine (negC b Hb.out Sb Gb.out _).mono ?_
      rintro e w' ⟨rfl, rfl⟩
      go_wp2_with fail
      refine (nanC a false Na.out _).mono ?_
      rintro e w' ⟨rfl, rfl⟩
      go_wp2_with fail
      refine (nanC b false Nb.out _).mono ?_
      rintro e w' ⟨rfl, rfl⟩
      go_wp2_with fail
      refine (infC a false Ia.out _).mono ?_
      rintro e w' ⟨rfl, rfl⟩
      go_wp2_with fail
      refine (zeroC a true Za.out _).mono ?_
      rintro e w' ⟨rfl, rfl⟩
      go_wp2_with fail
      refine (zeroC b true Zb.out _).mono ?_
      rintro e w' ⟨rfl, rfl⟩
      go_wp2_with fail
      go_ret
      exact ⟨ret_u64 (HR.out.symm), Below.refl _ _⟩
    · skip
      have Na := Lib.hid na
      have Ia : Hid (decide (rg a = 9218868437227405312) = false) := Lib.hid (by simp; omega)
      have Za : Hid (decide (rg a = 0) = true) := Lib.hid (by simp; omega)
      have Nb := Lib.hid nb
      have Ib : Hid (decide (rg b = 9218868437227405312) = false) := Lib.hid (by simp; omega)
      have Zb : Hid (decide (rg b = 0) = false) := Lib.hid (by simp; omega)
      have HR : Hid (((orNaN (double.div a b) : Nat) : Int) = signV (Sa != Sb) 0) := Lib.hid (word_told (by rw [div_zero_l a b za (by omega) (by omega), ga, gb, xor_bne]))
      clear ga gb na za nb zb fb
      go_enter Tryz.func39, Tryz.ntmps39
      go_wp2_with fail
      refine (negC a Ha.out Sa Ga.out _).mono ?_
      rintro e w' ⟨rfl, rfl⟩
      go_wp2_with fail
      refine (negC b Hb.out Sb Gb.out _).mono ?_
      rintro e w' ⟨rfl, rfl⟩
      go_wp2_with fail
      refine (nanC a false Na.out _).mono ?_
      rintro e w' ⟨rfl, rfl⟩
      go_wp2_with fail
      refine (nanC b false Nb.out _).mono ?_
      rintro e w' ⟨rfl, rfl⟩
      go_wp2_with fail
      refine (infC a false Ia.out _).mono ?_
      rintro e w' ⟨rfl, rfl⟩
      go_wp2_with fail
      refine (zeroC a true Za.out _).mono ?_
      rintro e w' ⟨rfl, rfl⟩
      go_wp2_with fail
      refine (zeroC b false Zb.out _).mono ?_
      rintro e w' ⟨rfl, rfl⟩
      go_wp2_with fail
      refine (infC a false Ia.out _).mono ?_
      rintro e w' ⟨rfl, rfl⟩
      go_wp2_with fail
      refine (zeroC b false Zb.out _).mono ?_
      rintro e w' ⟨rfl, rfl⟩
      go_wp2_with fail
      refine (zeroC a true Za.out _).mono ?_
      rintro e w' ⟨rfl, rfl⟩
      go_wp2_with fail
      refine (signedC _ 0 (by decide) _).mono ?_
      rintro e w' ⟨rfl, rfl⟩
      go_wp2_with fail
      go_ret
      exact ⟨ret_u64 (HR.out.symm), Below.refl _ _⟩
  · rcases kinds b with nb | ⟨nb, ib⟩ | ⟨nb, zb⟩ | ⟨nb, zb, fb⟩
    · skip
      have Na := Lib.hid na
      have Ia : Hid (decide (rg a = 9218868437227405312) = false) := Lib.hid (by simp; omega)
      have Za : Hid (decide (rg a = 0) = false) := Lib.hid (by simp; omega)
      have Nb := Lib.hid nb
      have HR : Hid (((orNaN (double.div a b) : Nat) : Int) = 9221120237041090561) := Lib.hid (nan_told (div_nan_r a b Nb.out))
      clear ga gb na za fa nb
      go_enter Tryz.func39, Tryz.ntmps39
      go_wp2_with fail
      refine (negC a Ha.out Sa Ga.out _).mono ?_
      rintro e w' ⟨rfl, rfl⟩
      go_wp2_with fail
      refine (negC b Hb.out Sb Gb.out _).mono ?_
      rintro e w' ⟨rfl, rfl⟩
      go_wp2_with fail
      refine (nanC a false Na.out _).mono ?_
      rintro e w' ⟨rfl, rfl⟩
      go_wp2_with fail
      refine (nanC b true Nb.out _).mono ?_
      rintro e w' ⟨rfl, rfl⟩
      go_wp2_with fail
      go_ret
      exact ⟨ret_u64 (HR.out.symm), Below.refl _ _⟩
    · skip
      have Na := Lib.hid na
      have Ia : Hid (decide (rg a = 9218868437227405312) = false) := Lib.hid (by simp; omega)
      have Za : Hid (decide (rg a = 0) = false) := Lib.hid (by simp; omega)
      have Nb := Lib.hid nb
      have Ib : Hid (decide (rg b = 9218868437227405312) = true) := Lib.hid (by simp; omega)
      have Zb : Hid (decide (rg b = 0) = false) := Lib.hid (by simp; omega)
      have HR : Hid (((orNaN (double.div a b) : Nat) : Int) = signV (Sa != Sb) 0) := Lib.hid (word_told (by rw [div_inf_r a b ib (by omega), ga, gb, xor_bne]))
      clear ga gb na za fa nb ib
      go_enter Tryz.func39, Tryz.ntmps39
      go_wp2_with fail
      refine (negC a Ha.out Sa Ga.out _).mono ?_
      rintro e w' ⟨rfl, rfl⟩
      go_wp2_with fail
      refine (negC b Hb.out Sb Gb.out _).mono ?_
      rintro e w' ⟨rfl, rfl⟩
      go_wp2_with fail
      refine (nanC a false Na.out _).mono ?_
      rintro e w' ⟨rfl, rfl⟩
      go_wp2_with fail
      refine (nanC b false Nb.out _).mono ?_
      rintro e w' ⟨rfl, rfl⟩
      go_wp2_with fail
      refine (infC a false Ia.out _).mono ?_
      rintro e w' ⟨rfl, rfl⟩
      go_wp2_with fail
      refine (zeroC a false Za.out _).mono ?_
      rintro e w' ⟨rfl, rfl⟩
      go_wp2_with fail
      refine (infC a false Ia.out _).mono ?_
      rintro e w' ⟨rfl, rfl⟩
      go_wp2_with fail
      refine (zeroC b false Zb.out _).mono ?_
      rintro e w' ⟨rfl, rfl⟩
      go_wp2_with fail
      refine (zeroC a false Za.out _).mono ?_
      rintro e w' ⟨rfl, rfl⟩
      go_wp2_with fail
      refine (infC b true Ib.out _).mono ?_
      rintro e w' ⟨rfl, rfl⟩
      go_wp2_with fail
      refine (signedC _ 0 (by decide) _).mono ?_
      rintro e w' ⟨rfl, rfl⟩
      go_wp2_with fail
      go_ret
      exact ⟨ret_u64 (HR.out.symm), Below.refl _ _⟩
    · skip
      have Na := Lib.hid na
      have Ia : Hid (decide (rg a = 9218868437227405312) = false) := Lib.hid (by simp; omega)
      have Za : Hid (decide (rg a = 0) = false) := Lib.hid (by simp; omega)
      have Nb := Lib.hid nb
      have Ib : Hid (decide (rg b = 9218868437227405312) = false) := Lib.hid (by simp; omega)
      have Zb : Hid (decide (rg b = 0) = true) := Lib.hid (by simp; omega)
      have HR : Hid (((orNaN (double.div a b) : Nat) : Int) = signV (Sa != Sb) 9218868437227405312) := Lib.hid (word_told (by rw [div_by_zero a b (by omega) zb, if_neg za, ga, gb, xor_bne]))
      clear ga gb na za fa nb zb
      go_enter Tryz.func39, Tryz.ntmps39
      go_wp2_with fail
      refine (negC a Ha.out Sa Ga.out _).mono ?_
      rintro e w' ⟨rfl, rfl⟩
      go_wp2_with fail
      refine (negC b Hb.out Sb Gb.out _).mono ?_
      rintro e w' ⟨rfl, rfl⟩
      go_wp2_with fail
      refine (nanC a false Na.out _).mono ?_
      rintro e w' ⟨rfl, rfl⟩
      go_wp2_with fail
      refine (nanC b false Nb.out _).mono ?_
      rintro e w' ⟨rfl, rfl⟩
      go_wp2_with fail
      refine (infC a false Ia.out _).mono ?_
      rintro e w' ⟨rfl, rfl⟩
      go_wp2_with fail
      refine (zeroC a false Za.out _).mono ?_
      rintro e w' ⟨rfl, rfl⟩
      go_wp2_with fail
      refine (infC a false Ia.out _).mono ?_
      rintro e w' ⟨rfl, rfl⟩
      go_wp2_with fail
      refine (zeroC b true Zb.out _).mono ?_
      rintro e w' ⟨rfl, rfl⟩
      go_wp2_with fail
      refine (signedC _ 9218868437227405312 (by decide) _).mono ?_
      rintro e w' ⟨rfl, rfl⟩
      go_wp2_with fail
      go_ret
      exact ⟨ret_u64 (HR.out.symm), Below.refl _ _⟩
    · skip
      have Na := Lib.hid na
      have Ia : Hid (decide (rg a = 9218868437227405312) = false) := Lib.hid (by simp; omega)
      have Za : Hid (decide (rg a = 0) = false) := Lib.hid (by simp; omega)
      have Nb := Lib.hid nb
      have Ib : Hid (decide (rg b = 9218868437227405312) = false) := Lib.hid (by simp; omega)
      have Zb : Hid (decide (rg b = 0) = false) := Lib.hid (by simp; omega)
      have HR : Hid (∀ E, IsE (sigM (rg a) * 2 ^ (sigE (rg a) - sigE (rg b)).toNat) (sigM (rg b) * 2 ^ (-(sigE (rg a) - sigE (rg b))).toNat) E → ((orNaN (double.div a b) : Nat) : Int) = signV (Sa != Sb) (frung (sigM (rg a) * 2 ^ (sigE (rg a) - sigE (rg b)).toNat) (sigM (rg b) * 2 ^ (-(sigE (rg a) - sigE (rg b))).toNat) E)) := Lib.hid (fun E hE => word_told (by rw [div_num a b fa fb za zb E hE, ga, gb, xor_bne]))
      obtain ⟨e1, e2⟩ := sigE_range (rg a) fa
      obtain ⟨e3, e4⟩ := sigE_range (rg b) fb
      have M1 := Lib.hid (sigM_53 (rg a))
      have M2 := Lib.hid (sigM_53 (rg b))
      have P1 := Lib.hid (sig_pos (rg a) za)
      have P2 := Lib.hid (sig_pos (rg b) zb)
      have T1 := Lib.hid (fun w => splitC a w)
      have T2 := Lib.hid (fun w => splitC b w)
      generalize sigM (rg a) = m at *
      generalize sigM (rg b) = n at *
      generalize sigE (rg a) = e at *
      generalize sigE (rg b) = f at *
      clear ga gb na za fa nb zb fb
      go_enter Tryz.func39, Tryz.ntmps39
      go_wp2_with fail
      refine (negC a Ha.out Sa Ga.out _).mono ?_
      rintro e w' ⟨rfl, rfl⟩
      go_wp2_with fail
      refine (negC b Hb.out Sb Gb.out _).mono ?_
      rintro e w' ⟨rfl, rfl⟩
      go_wp2_with fail
      refine (nanC a false Na.out _).mono ?_
      rintro e w' ⟨rfl, rfl⟩
      go_wp2_with fail
      refine (nanC b false Nb.out _).mono ?_
      rintro e w' ⟨rfl, rfl⟩
      go_wp2_with fail
      refine (infC a false Ia.out _).mono ?_
      rintro e w' ⟨rfl, rfl⟩
      go_wp2_with fail
      refine (zeroC a false Za.out _).mono ?_
      rintro e w' ⟨rfl, rfl⟩
      go_wp2_with fail
      refine (infC a false Ia.out _).mono ?_
      rintro e w' ⟨rfl, rfl⟩
      go_wp2_with fail
      refine (zeroC b false Zb.out _).mono ?_
      rintro e w' ⟨rfl, rfl⟩
      go_wp2_with fail
      refine (zeroC a false Za.out _).mono ?_
      rintro e w' ⟨rfl, rfl⟩
      go_wp2_with fail
      refine (infC b false Ib.out _).mono ?_
      rintro e w' ⟨rfl, rfl⟩
      go_wp2_with fail
      refine (T1.out _).mono ?_
      rintro e w' ⟨rfl, rfl⟩
      go_wp2_with fail
      refine (T2.out _).mono ?_
      rintro e w' ⟨rfl, rfl⟩
      go_wp2_with fail
      refine (of_num m (by have := M1.out; omega) _).mono ?_
      rintro e w1 ⟨A1, c1, l1, rfl, hr1, hn1, hv1, hl1, hc1, hb1⟩
      have R1 := Lib.hid hr1
      have O1 := Lib.hid hn1
      have V1 := Lib.hid hv1
      have B1 := Lib.hid hb1
      clear hr1 hn1 hv1 hc1 hb1
      go_wp2_with fail
      refine (of_num n (by have := M2.out; omega) _).mono ?_
      rintro e w2 ⟨A2, c2, l2, rfl, hr2, hn2, hv2, hl2, hc2, hb2⟩
      have R1' := Lib.hid (R1.out.keep hb2)
      clear R1
      have R1 := Lib.hid R1'.out
      clear R1'
      have R2 := Lib.hid hr2
      have O2 := Lib.hid hn2
      have V2 := Lib.hid hv2
      have B2 := Lib.hid (B1.out.trans (hb2.mono B1.out.size))
      clear hr2 hn2 hv2 hc2 hb2 B1
      go_wp2_with fail
      refine (scaled_any A1 A2 c1 c2 l1 l2 (e - f) (by omega) (by omega) (by omega) (by omega) _ R1.out R2.out O1.out O2.out).mono ?_
      rintro e w3 ⟨X, x, xs, Y, y, ys, rfl, hrx, hry, hnx, hny, hvx, hvy, hlx, hly, hb3⟩
      rw [V1.out] at hvx
      rw [V2.out] at hvy
      have bx : val xs < most := by rw [hvx]; exact pow_bound (x := 53) M1.out (by omega)
      have by' : val ys < most := by rw [hvy]; exact pow_bound (x := 53) M2.out (by omega)
      have HX := Lib.hid (round_any (Sa != Sb) X Y x y xs ys (small_len hnx bx).1 (small_len hny by').1 w3 hrx hry hnx hny (by rw [hvx]; exact Nat.mul_pos (Nat.pos_of_ne_zero P1.out) (Nat.two_pow_pos _)) (by rw [hvy]; exact Nat.mul_pos (Nat.pos_of_ne_zero P2.out) (Nat.two_pow_pos _)) (small_len hnx bx).2 (small_len hny by').2)
      rw [hvx, hvy] at HX
      have B3 := Lib.hid (B2.out.trans (hb3.mono B2.out.size))
      clear hrx hry hnx hny hvx hvy hlx hly hb3 bx by' B2
      go_wp2_with fail
      refine HX.out.mono ?_
      rintro e w4 ⟨E, hE, he, hb4⟩
      have he' : e = .returned (.int .u64 (signV _ (frung _ _ E))) := he
      clear he
      subst he'
      have HF := Lib.hid (HR.out E hE)
      have B4 := Lib.hid (B3.out.trans (hb4.mono B3.out.size))
      clear hE hb4 B3 HX
      go_wp2_with fail
      go_ret
      exact ⟨ret_u64 (by first | exact HF.out.symm | rw [HF.out, Nat.one_mul]), B4.out⟩
end Go.Proofs.YtlinoncoanpcdaaGreatDoor
