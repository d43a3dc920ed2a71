/-
  THE DOCUMENT's SUM OF TWO FLOATS (emendref01.FAdd): at every two words it answers what Ieee's sum does, a not-a-number in the place of none; new memory alone is made. No condition but the words' bounds.
-/
import Derived.Test.YtlinoncoanpcdaaGreatDoorRefOps
namespace Go.Proofs.YtlinoncoanpcdaaGreatDoor
open Go.RowKit Ieee
theorem sum_bound {x y a b : Nat} (hx : x < 2 ^ a) (hy : y < 2 ^ b) (ha : a ≤ 2099) (hb : b ≤ 2099) : ∃ k, k ≤ 2100 ∧ x + y < 2 ^ k := by
  obtain ⟨c, hc⟩ : ∃ c, c = 2099 := ⟨_, rfl⟩
  have h1 : 2 ^ a ≤ 2 ^ c := Nat.pow_le_pow_right (by decide) (by omega)
  have h2 : 2 ^ b ≤ 2 ^ c := Nat.pow_le_pow_right (by decide) (by omega)
  have h3 : 2 ^ (c + 1) = 2 ^ c * 2 := Nat.pow_succ ..
  exact ⟨c + 1, by omega, by omega⟩
theorem small_most {x k : Nat} (h : x < 2 ^ k) (hk : k ≤ 4800) : x < most := by
  have := pow_bound (k := 0) h (by omega)
  rwa [Nat.pow_zero, Nat.mul_one] at this
theorem len_le {xs ys : List Nat} (hx : Norm xs) (hy : Norm ys) (h : val xs ≤ val ys) : xs.length ≤ ys.length := by
  rcases Nat.lt_or_ge ys.length xs.length with c | c
  · have := cmp_short ys xs hy hx c
    omega
  · exact c
set_option maxRecDepth 100000 in
set_option maxHeartbeats 4000000 in
theorem refFAdd_any (a b : Nat) (ha : a < 18446744073709551616) (hb : b < 18446744073709551616) (w : World) : Calls Tryz.prog 33 #[.int .u64 (a : Int), .int .u64 (b : Int)] w fun e w' => e = .returned (.int .u64 ((orNaN (double.add a b) : Nat) : Int)) ∧ Below w.heap.size w w' := by
  have Ha := Lib.hid ha
  have Hb := Lib.hid hb
  obtain ⟨Sa, ga⟩ : ∃ s, sg a = s := ⟨_, rfl⟩
  obtain ⟨Sb, gb⟩ : ∃ s, sg b = s := ⟨_, rfl⟩
  have Ga := Lib.hid ga
  have Gb := Lib.hid gb
  clear ha hb
  rcases kinds a with na | ⟨na, ia⟩ | ⟨na, za⟩ | ⟨na, za, fa⟩
  · skip
    have Na := Lib.hid na
    have HR : Hid (((orNaN (double.add a b) : Nat) : Int) = 9221120237041090561) := Lib.hid (nan_told (add_nan_l a b Na.out))
    clear ga gb na
    go_enter Tryz.func33, Tryz.ntmps33
    go_wp2_with fail
    refine (nanC a true Na.out _).mono ?_
    rintro e w' ⟨rfl, rfl⟩
    go_wp2_with fail
    go_ret
    exact ⟨ret_u64 (HR.out.symm), Below.refl _ _⟩
  · rcases kinds b with nb | ⟨nb, ib⟩ | ⟨nb, zb⟩ | ⟨nb, zb, fb⟩
    · skip
      have Na := Lib.hid na
      have Ia : Hid (decide (rg a = 9218868437227405312) = true) := Lib.hid (by simp; omega)
      have Za : Hid (decide (rg a = 0) = false) := Lib.hid (by simp; omega)
      have Nb := Lib.hid nb
      have HR : Hid (((orNaN (double.add a b) : Nat) : Int) = 9221120237041090561) := Lib.hid (nan_told (add_nan_r a b Nb.out))
      clear ga gb na ia nb
      go_enter Tryz.func33, Tryz.ntmps33
      go_wp2_with fail
      refine (nanC a false Na.out _).mono ?_
      rintro e w' ⟨rfl, rfl⟩
      go_wp2_with fail
      refine (nanC b true Nb.out _).mono ?_
      rintro e w' ⟨rfl, rfl⟩
      go_wp2_with fail
      go_ret
      exact ⟨ret_u64 (HR.out.symm), Below.refl _ _⟩
    · skip
      have Na := Lib.hid na
      have Ia : Hid (decide (rg a = 9218868437227405312) = true) := Lib.hid (by simp; omega)
      have Za : Hid (decide (rg a = 0) = false) := Lib.hid (by simp; omega)
      have Nb := Lib.hid nb
      have Ib : Hid (decide (rg b = 9218868437227405312) = true) := Lib.hid (by simp; omega)
      have Zb : Hid (decide (rg b = 0) = false) := Lib.hid (by simp; omega)
      by_cases hs : Sa = Sb
      · have HR : Hid (((orNaN (double.add a b) : Nat) : Int) = (a : Int)) := Lib.hid (same_told (by rw [add_inf_inf a b Ha.out ia ib, if_pos (by rw [ga, gb]; exact hs)]))
        clear ga gb
        subst hs
        clear na ia nb ib
        go_enter Tryz.func33, Tryz.ntmps33
        go_wp2_with fail
        refine (nanC a false Na.out _).mono ?_
        rintro e w' ⟨rfl, rfl⟩
        go_wp2_with fail
        refine (nanC b false Nb.out _).mono ?_
        rintro e w' ⟨rfl, rfl⟩
        go_wp2_with fail
        refine (infC a true Ia.out _).mono ?_
        rintro e w' ⟨rfl, rfl⟩
        go_wp2_with fail
        refine (infC b true Ib.out _).mono ?_
        rintro e w' ⟨rfl, rfl⟩
        go_wp2_with fail
        refine (negC a Ha.out Sa Ga.out _).mono ?_
        rintro e w' ⟨rfl, rfl⟩
        go_wp2_with fail
        refine (negC b Hb.out Sa Gb.out _).mono ?_
        rintro e w' ⟨rfl, rfl⟩
        go_wp2_with fail
        refine (infC a true Ia.out _).mono ?_
        rintro e w' ⟨rfl, rfl⟩
        go_wp2_with fail
        go_ret
        exact ⟨ret_u64 (HR.out.symm), Below.refl _ _⟩
      · have HR : Hid (((orNaN (double.add a b) : Nat) : Int) = 9221120237041090561) := Lib.hid (nan_told (by rw [add_inf_inf a b Ha.out ia ib, if_neg (by rw [ga, gb]; exact hs)]))
        clear ga gb
        obtain rfl : Sb = !Sa := by cases Sa <;> cases Sb <;> simp_all
        clear hs
        clear na ia nb ib
        go_enter Tryz.func33, Tryz.ntmps33
        go_wp2_with fail
        refine (nanC a false Na.out _).mono ?_
        rintro e w' ⟨rfl, rfl⟩
        go_wp2_with fail
        refine (nanC b false Nb.out _).mono ?_
        rintro e w' ⟨rfl, rfl⟩
        go_wp2_with fail
        refine (infC a true Ia.out _).mono ?_
        rintro e w' ⟨rfl, rfl⟩
        go_wp2_with fail
        refine (infC b true Ib.out _).mono ?_
        rintro e w' ⟨rfl, rfl⟩
        go_wp2_with fail
        refine (negC a Ha.out Sa Ga.out _).mono ?_
        rintro e w' ⟨rfl, rfl⟩
        go_wp2_with fail
        refine (negC b Hb.out (!Sa) Gb.out _).mono ?_
        rintro e w' ⟨rfl, rfl⟩
        go_wp2_with fail
        go_ret
        exact ⟨ret_u64 (HR.out.symm), Below.refl _ _⟩
    · skip
      have Na := Lib.hid na
      have Ia : Hid (decide (rg a = 9218868437227405312) = true) := Lib.hid (by simp; omega)
      have Za : Hid (decide (rg a = 0) = false) := Lib.hid (by simp; omega)
      have Nb := Lib.hid nb
      have Ib : Hid (decide (rg b = 9218868437227405312) = false) := Lib.hid (by simp; omega)
      have Zb : Hid (decide (rg b = 0) = true) := Lib.hid (by simp; omega)
      have HR : Hid (((orNaN (double.add a b) : Nat) : Int) = (a : Int)) := Lib.hid (same_told (add_inf_l a b Ha.out ia (by omega)))
      clear ga gb na ia nb zb
      go_enter Tryz.func33, Tryz.ntmps33
      go_wp2_with fail
      refine (nanC a false Na.out _).mono ?_
      rintro e w' ⟨rfl, rfl⟩
      go_wp2_with fail
      refine (nanC b false Nb.out _).mono ?_
      rintro e w' ⟨rfl, rfl⟩
      go_wp2_with fail
      refine (infC a true Ia.out _).mono ?_
      rintro e w' ⟨rfl, rfl⟩
      go_wp2_with fail
      refine (infC b false Ib.out _).mono ?_
      rintro e w' ⟨rfl, rfl⟩
      go_wp2_with fail
      refine (infC a true Ia.out _).mono ?_
      rintro e w' ⟨rfl, rfl⟩
      go_wp2_with fail
      go_ret
      exact ⟨ret_u64 (HR.out.symm), Below.refl _ _⟩
    · skip
      have Na := Lib.hid na
      have Ia : Hid (decide (rg a = 9218868437227405312) = true) := Lib.hid (by simp; omega)
      have Za : Hid (decide (rg a = 0) = false) := Lib.hid (by simp; omega)
      have Nb := Lib.hid nb
      have Ib : Hid (decide (rg b = 9218868437227405312) = false) := Lib.hid (by simp; omega)
      have Zb : Hid (decide (rg b = 0) = false) := Lib.hid (by simp; omega)
      have HR : Hid (((orNaN (double.add a b) : Nat) : Int) = (a : Int)) := Lib.hid (same_told (add_inf_l a b Ha.out ia (by omega)))
      clear ga gb na ia nb zb fb
      go_enter Tryz.func33, Tryz.ntmps33
      go_wp2_with fail
      refine (nanC a false Na.out _).mono ?_
      rintro e w' ⟨rfl, rfl⟩
      go_wp2_with fail
      refine (nanC b false Nb.out _).mono ?_
      rintro e w' ⟨rfl, rfl⟩
      go_wp2_with fail
      refine (infC a true Ia.out _).mono ?_
      rintro e w' ⟨rfl, rfl⟩
      go_wp2_with fail
      refine (infC b false Ib.out _).mono ?_
      rintro e w' ⟨rfl, rfl⟩
      go_wp2_with fail
      refine (infC a true Ia.out _).mono ?_
      rintro e w' ⟨rfl, rfl⟩
      go_wp2_with fail
      go_ret
      exact ⟨ret_u64 (HR.out.symm), Below.refl _ _⟩
  · rcases kinds b with nb | ⟨nb, ib⟩ | ⟨nb, zb⟩ | ⟨nb, zb, fb⟩
    · skip
      have Na := Lib.hid na
      have Ia : Hid (decide (rg a = 9218868437227405312) = false) := Lib.hid (by simp; omega)
      have Za : Hid (decide (rg a = 0) = true) := Lib.hid (by simp; omega)
      have Nb := Lib.hid nb
      have HR : Hid (((orNaN (double.add a b) : Nat) : Int) = 9221120237041090561) := Lib.hid (nan_told (add_nan_r a b Nb.out))
      clear ga gb na za nb
      go_enter Tryz.func33, Tryz.ntmps33
      go_wp2_with fail
      refine (nanC a false Na.out _).mono ?_
      rintro e w' ⟨rfl, rfl⟩
      go_wp2_with fail
      refine (nanC b true Nb.out _).mono ?_
      rintro e w' ⟨rfl, rfl⟩
      go_wp2_with fail
      go_ret
      exact ⟨ret_u64 (HR.out.symm), Below.refl _ _⟩
    · skip
      have Na := Lib.hid na
      have Ia : Hid (decide (rg a = 9218868437227405312) = false) := Lib.hid (by simp; omega)
      have Za : Hid (decide (rg a = 0) = true) := Lib.hid (by simp; omega)
      have Nb := Lib.hid nb
      have Ib : Hid (decide (rg b = 9218868437227405312) = true) := Lib.hid (by simp; omega)
      have Zb : Hid (decide (rg b = 0) = false) := Lib.hid (by simp; omega)
      have HR : Hid (((orNaN (double.add a b) : Nat) : Int) = (b : Int)) := Lib.hid (same_told (add_inf_r a b Hb.out ib (by omega)))
      clear ga gb na za nb ib
      go_enter Tryz.func33, Tryz.ntmps33
      go_wp2_with fail
      refine (nanC a false Na.out _).mono ?_
      rintro e w' ⟨rfl, rfl⟩
      go_wp2_with fail
      refine (nanC b false Nb.out _).mono ?_
      rintro e w' ⟨rfl, rfl⟩
      go_wp2_with fail
      refine (infC a false Ia.out _).mono ?_
      rintro e w' ⟨rfl, rfl⟩
      go_wp2_with fail
      refine (infC a false Ia.out _).mono ?_
      rintro e w' ⟨rfl, rfl⟩
      go_wp2_with fail
      refine (zeroC b false Zb.out _).mono ?_
      rintro e w' ⟨rfl, rfl⟩
      go_wp2_with fail
      refine (infC b true Ib.out _).mono ?_
      rintro e w' ⟨rfl, rfl⟩
      go_wp2_with fail
      go_ret
      exact ⟨ret_u64 (HR.out.symm), Below.refl _ _⟩
    · skip
      have Na := Lib.hid na
      have Ia : Hid (decide (rg a = 9218868437227405312) = false) := Lib.hid (by simp; omega)
      have Za : Hid (decide (rg a = 0) = true) := Lib.hid (by simp; omega)
      have Nb := Lib.hid nb
      have Ib : Hid (decide (rg b = 9218868437227405312) = false) := Lib.hid (by simp; omega)
      have Zb : Hid (decide (rg b = 0) = true) := Lib.hid (by simp; omega)
      cases Sa with
      | false =>
        have HR : Hid (((orNaN (double.add a b) : Nat) : Int) = signV false 0) := Lib.hid (word_told (by rw [add_zeros a b za zb, ga, gb]; rfl))
        clear ga gb na za nb zb
        go_enter Tryz.func33, Tryz.ntmps33
        go_wp2_with fail
        refine (nanC a false Na.out _).mono ?_
        rintro e w' ⟨rfl, rfl⟩
        go_wp2_with fail
        refine (nanC b false Nb.out _).mono ?_
        rintro e w' ⟨rfl, rfl⟩
        go_wp2_with fail
        refine (infC a false Ia.out _).mono ?_
        rintro e w' ⟨rfl, rfl⟩
        go_wp2_with fail
        refine (infC a false Ia.out _).mono ?_
        rintro e w' ⟨rfl, rfl⟩
        go_wp2_with fail
        refine (zeroC b true Zb.out _).mono ?_
        rintro e w' ⟨rfl, rfl⟩
        go_wp2_with fail
        refine (zeroC a true Za.out _).mono ?_
        rintro e w' ⟨rfl, rfl⟩
        go_wp2_with fail
        refine (infC b false Ib.out _).mono ?_
        rintro e w' ⟨rfl, rfl⟩
        go_wp2_with fail
        refine (zeroC a true Za.out _).mono ?_
        rintro e w' ⟨rfl, rfl⟩
        go_wp2_with fail
        refine (zeroC b true Zb.out _).mono ?_
        rintro e w' ⟨rfl, rfl⟩
        go_wp2_with fail
        refine (zeroC a true Za.out _).mono ?_
        rintro e w' ⟨rfl, rfl⟩
        go_wp2_with fail
        refine (negC a Ha.out false Ga.out _).mono ?_
        rintro e w' ⟨rfl, rfl⟩
        go_wp2_with fail
        refine (signedC _ 0 (by decide) _).mono ?_
        rintro e w' ⟨rfl, rfl⟩
        go_wp2_with fail
        go_ret
        exact ⟨ret_u64 (HR.out.symm), Below.refl _ _⟩
      | true =>
        have HR : Hid (((orNaN (double.add a b) : Nat) : Int) = signV Sb 0) := Lib.hid (word_told (by rw [add_zeros a b za zb, ga, gb]; rfl))
        clear ga gb na za nb zb
        go_enter Tryz.func33, Tryz.ntmps33
        go_wp2_with fail
        refine (nanC a false Na.out _).mono ?_
        rintro e w' ⟨rfl, rfl⟩
        go_wp2_with fail
        refine (nanC b false Nb.out _).mono ?_
        rintro e w' ⟨rfl, rfl⟩
        go_wp2_with fail
        refine (infC a false Ia.out _).mono ?_
        rintro e w' ⟨rfl, rfl⟩
        go_wp2_with fail
        refine (infC a false Ia.out _).mono ?_
        rintro e w' ⟨rfl, rfl⟩
        go_wp2_with fail
        refine (zeroC b true Zb.out _).mono ?_
        rintro e w' ⟨rfl, rfl⟩
        go_wp2_with fail
        refine (zeroC a true Za.out _).mono ?_
        rintro e w' ⟨rfl, rfl⟩
        go_wp2_with fail
        refine (infC b false Ib.out _).mono ?_
        rintro e w' ⟨rfl, rfl⟩
        go_wp2_with fail
        refine (zeroC a true Za.out _).mono ?_
        rintro e w' ⟨rfl, rfl⟩
        go_wp2_with fail
        refine (zeroC b true Zb.out _).mono ?_
        rintro e w' ⟨rfl, rfl⟩
        go_wp2_with fail
        refine (zeroC a true Za.out _).mono ?_
        rintro e w' ⟨rfl, rfl⟩
        go_wp2_with fail
        refine (negC a Ha.out true Ga.out _).mono ?_
        rintro e w' ⟨rfl, rfl⟩
        go_wp2_with fail
        refine (negC b Hb.out Sb Gb.out _).mono ?_
        rintro e w' ⟨rfl, rfl⟩
        go_wp2_with fail
        refine (signedC _ 0 (by decide) _).mono ?_
        rintro e w' ⟨rfl, rfl⟩
        go_wp2_with fail
        go_ret
        exact ⟨ret_u64 (HR.out.symm), Below.refl _ _⟩
    · skip
      have Na := Lib.hid na
      have Ia : Hid (decide (rg a = 9218868437227405312) = false) := Lib.hid (by simp; omega)
      have Za : Hid (decide (rg a = 0) = true) := Lib.hid (by simp; omega)
      have Nb := Lib.hid nb
      have Ib : Hid (decide (rg b = 9218868437227405312) = false) := Lib.hid (by simp; omega)
      have Zb : Hid (decide (rg b = 0) = false) := Lib.hid (by simp; omega)
      have HR : Hid (((orNaN (double.add a b) : Nat) : Int) = (b : Int)) := Lib.hid (same_told (add_zero_l a b Hb.out fb zb za))
      clear ga gb na za nb zb fb
      go_enter Tryz.func33, Tryz.ntmps33
      go_wp2_with fail
      refine (nanC a false Na.out _).mono ?_
      rintro e w' ⟨rfl, rfl⟩
      go_wp2_with fail
      refine (nanC b false Nb.out _).mono ?_
      rintro e w' ⟨rfl, rfl⟩
      go_wp2_with fail
      refine (infC a false Ia.out _).mono ?_
      rintro e w' ⟨rfl, rfl⟩
      go_wp2_with fail
      refine (infC a false Ia.out _).mono ?_
      rintro e w' ⟨rfl, rfl⟩
      go_wp2_with fail
      refine (zeroC b false Zb.out _).mono ?_
      rintro e w' ⟨rfl, rfl⟩
      go_wp2_with fail
      refine (infC b false Ib.out _).mono ?_
      rintro e w' ⟨rfl, rfl⟩
      go_wp2_with fail
      refine (zeroC a true Za.out _).mono ?_
      rintro e w' ⟨rfl, rfl⟩
      go_wp2_with fail
      refine (zeroC b false Zb.out _).mono ?_
      rintro e w' ⟨rfl, rfl⟩
      go_wp2_with fail
      go_ret
      exact ⟨ret_u64 (HR.out.symm), Below.refl _ _⟩
  · rcases kinds b with nb | ⟨nb, ib⟩ | ⟨nb, zb⟩ | ⟨nb, zb, fb⟩
    · skip
      have Na := Lib.hid na
      have Ia : Hid (decide (rg a = 9218868437227405312) = false) := Lib.hid (by simp; omega)
      have Za : Hid (decide (rg a = 0) = false) := Lib.hid (by simp; omega)
      have Nb := Lib.hid nb
      have HR : Hid (((orNaN (double.add a b) : Nat) : Int) = 9221120237041090561) := Lib.hid (nan_told (add_nan_r a b Nb.out))
      clear ga gb na za fa nb
      go_enter Tryz.func33, Tryz.ntmps33
      go_wp2_with fail
      refine (nanC a false Na.out _).mono ?_
      rintro e w' ⟨rfl, rfl⟩
      go_wp2_with fail
      refine (nanC b true Nb.out _).mono ?_
      rintro e w' ⟨rfl, rfl⟩
      go_wp2_with fail
      go_ret
      exact ⟨ret_u64 (HR.out.symm), Below.refl _ _⟩
    · skip
      have Na := Lib.hid na
      have Ia : Hid (decide (rg a = 9218868437227405312) = false) := Lib.hid (by simp; omega)
      have Za : Hid (decide (rg a = 0) = false) := Lib.hid (by simp; omega)
      have Nb := Lib.hid nb
      have Ib : Hid (decide (rg b = 9218868437227405312) = true) := Lib.hid (by simp; omega)
      have Zb : Hid (decide (rg b = 0) = false) := Lib.hid (by simp; omega)
      have HR : Hid (((orNaN (double.add a b) : Nat) : Int) = (b : Int)) := Lib.hid (same_told (add_inf_r a b Hb.out ib (by omega)))
      clear ga gb na za fa nb ib
      go_enter Tryz.func33, Tryz.ntmps33
      go_wp2_with fail
      refine (nanC a false Na.out _).mono ?_
      rintro e w' ⟨rfl, rfl⟩
      go_wp2_with fail
      refine (nanC b false Nb.out _).mono ?_
      rintro e w' ⟨rfl, rfl⟩
      go_wp2_with fail
      refine (infC a false Ia.out _).mono ?_
      rintro e w' ⟨rfl, rfl⟩
      go_wp2_with fail
      refine (infC a false Ia.out _).mono ?_
      rintro e w' ⟨rfl, rfl⟩
      go_wp2_with fail
      refine (zeroC b false Zb.out _).mono ?_
      rintro e w' ⟨rfl, rfl⟩
      go_wp2_with fail
      refine (infC b true Ib.out _).mono ?_
      rintro e w' ⟨rfl, rfl⟩
      go_wp2_with fail
      go_ret
      exact ⟨ret_u64 (HR.out.symm), Below.refl _ _⟩
    · skip
      have Na := Lib.hid na
      have Ia : Hid (decide (rg a = 9218868437227405312) = false) := Lib.hid (by simp; omega)
      have Za : Hid (decide (rg a = 0) = false) := Lib.hid (by simp; omega)
      have Nb := Lib.hid nb
      have Ib : Hid (decide (rg b = 9218868437227405312) = false) := Lib.hid (by simp; omega)
      have Zb : Hid (decide (rg b = 0) = true) := Lib.hid (by simp; omega)
      have HR : Hid (((orNaN (double.add a b) : Nat) : Int) = (a : Int)) := Lib.hid (same_told (add_zero_r a b Ha.out fa za zb))
      clear ga gb na za fa nb zb
      go_enter Tryz.func33, Tryz.ntmps33
      go_wp2_with fail
      refine (nanC a false Na.out _).mono ?_
      rintro e w' ⟨rfl, rfl⟩
      go_wp2_with fail
      refine (nanC b false Nb.out _).mono ?_
      rintro e w' ⟨rfl, rfl⟩
      go_wp2_with fail
      refine (infC a false Ia.out _).mono ?_
      rintro e w' ⟨rfl, rfl⟩
      go_wp2_with fail
      refine (infC a false Ia.out _).mono ?_
      rintro e w' ⟨rfl, rfl⟩
      go_wp2_with fail
      refine (zeroC b true Zb.out _).mono ?_
      rintro e w' ⟨rfl, rfl⟩
      go_wp2_with fail
      refine (zeroC a false Za.out _).mono ?_
      rintro e w' ⟨rfl, rfl⟩
      go_wp2_with fail
      go_ret
      exact ⟨ret_u64 (HR.out.symm), Below.refl _ _⟩
    · skip
      have Na := Lib.hid na
      have Ia : Hid (decide (rg a = 9218868437227405312) = false) := Lib.hid (by simp; omega)
      have Za : Hid (decide (rg a = 0) = false) := Lib.hid (by simp; omega)
      have Nb := Lib.hid nb
      have Ib : Hid (decide (rg b = 9218868437227405312) = false) := Lib.hid (by simp; omega)
      have Zb : Hid (decide (rg b = 0) = false) := Lib.hid (by simp; omega)
      have RS : Hid (Sa = Sb → ∀ E, IsE ((numA a b + numB a b) * 2 ^ (lowE a b).toNat) (1 * 2 ^ (-lowE a b).toNat) E → ((orNaN (double.add a b) : Nat) : Int) = signV Sa (frung ((numA a b + numB a b) * 2 ^ (lowE a b).toNat) (1 * 2 ^ (-lowE a b).toNat) E)) := Lib.hid (fun hs E hE => word_told (by rw [add_same a b fa fb za (by rw [ga, gb]; exact hs) E hE, ga]))
      have RM : Hid (Sa ≠ Sb ∧ numB a b < numA a b → ∀ E, IsE ((numA a b - numB a b) * 2 ^ (lowE a b).toNat) (1 * 2 ^ (-lowE a b).toNat) E → ((orNaN (double.add a b) : Nat) : Int) = signV Sa (frung ((numA a b - numB a b) * 2 ^ (lowE a b).toNat) (1 * 2 ^ (-lowE a b).toNat) E)) := Lib.hid (fun hs E hE => word_told (by rw [add_more a b fa fb (by rw [ga, gb]; exact hs.1) hs.2 E hE, ga]))
      have RL : Hid (Sa ≠ Sb ∧ numA a b < numB a b → ∀ E, IsE ((numB a b - numA a b) * 2 ^ (lowE a b).toNat) (1 * 2 ^ (-lowE a b).toNat) E → ((orNaN (double.add a b) : Nat) : Int) = signV Sb (frung ((numB a b - numA a b) * 2 ^ (lowE a b).toNat) (1 * 2 ^ (-lowE a b).toNat) E)) := Lib.hid (fun hs E hE => word_told (by rw [add_less a b fa fb (by rw [ga, gb]; exact hs.1) hs.2 E hE, gb]))
      have RG : Hid (Sa ≠ Sb ∧ numA a b = numB a b → ((orNaN (double.add a b) : Nat) : Int) = 0) := Lib.hid (fun hs => same_told (add_gone a b fa fb (by rw [ga, gb]; exact hs.1) hs.2))
      obtain ⟨e1, e2⟩ := sigE_range (rg a) fa
      obtain ⟨e3, e4⟩ := sigE_range (rg b) fb
      have M1 := Lib.hid (sigM_53 (rg a))
      have M2 := Lib.hid (sigM_53 (rg b))
      have P1 := Lib.hid (numA_pos a b za)
      have P2 := Lib.hid (numB_pos a b zb)
      have T1 := Lib.hid (fun w => splitC a w)
      have T2 := Lib.hid (fun w => splitC b w)
      have DA : Hid (numA a b = sigM (rg a) * 2 ^ (sigE (rg a) - lowE a b).toNat) := Lib.hid rfl
      have DB : Hid (numB a b = sigM (rg b) * 2 ^ (sigE (rg b) - lowE a b).toNat) := Lib.hid rfl
      have dl : lowE a b = min (sigE (rg a)) (sigE (rg b)) := rfl
      generalize sigM (rg a) = m at *
      generalize sigM (rg b) = n at *
      generalize sigE (rg a) = e at *
      generalize sigE (rg b) = f at *
      generalize numA a b = x at *
      generalize numB a b = y at *
      obtain ⟨u, hu⟩ : ∃ u : Nat, e - lowE a b = (u : Int) := ⟨(e - lowE a b).toNat, by omega⟩
      obtain ⟨v, hv⟩ : ∃ v : Nat, f - lowE a b = (v : Int) := ⟨(f - lowE a b).toNat, by omega⟩
      have hu1 : u ≤ 2045 := by omega
      have hv1 : v ≤ 2045 := by omega
      have hlo : -1074 ≤ lowE a b := by omega
      have hhi : lowE a b ≤ 971 := by omega
      have DL := Lib.hid dl
      rw [hu, Int.toNat_natCast] at DA
      rw [hv, Int.toNat_natCast] at DB
      have HU := Lib.hid hu
      have HV := Lib.hid hv
      clear ga gb dl hu hv na za fa nb zb fb
      generalize lowE a b = low at *
      have HU2 : Hid (e - min e f = (u : Int)) := Lib.hid (by rw [← DL.out]; exact HU.out)
      have HV2 : Hid (f - min e f = (v : Int)) := Lib.hid (by rw [← DL.out]; exact HV.out)
      have BX : Hid (x < 2 ^ (53 + u)) := Lib.hid (by rw [DA.out, Nat.pow_add]; exact Nat.mul_lt_mul_of_pos_right M1.out (Nat.two_pow_pos u))
      have BY : Hid (y < 2 ^ (53 + v)) := Lib.hid (by rw [DB.out, Nat.pow_add]; exact Nat.mul_lt_mul_of_pos_right M2.out (Nat.two_pow_pos v))
      have BS : Hid (∃ k, k ≤ 2100 ∧ x + y < 2 ^ k) := Lib.hid (sum_bound BX.out BY.out (by omega) (by omega))
      by_cases hs : Sa = Sb
      · subst hs
        have HR := Lib.hid (RS.out rfl)
        clear RS RM RL RG
        go_enter Tryz.func33, Tryz.ntmps33
        go_wp2_with fail
        refine (nanC a false Na.out _).mono ?_
        rintro e w' ⟨rfl, rfl⟩
        go_wp2_with fail
        refine (nanC b false Nb.out _).mono ?_
        rintro e w' ⟨rfl, rfl⟩
        go_wp2_with fail
        refine (infC a false Ia.out _).mono ?_
        rintro e w' ⟨rfl, rfl⟩
        go_wp2_with fail
        refine (infC a false Ia.out _).mono ?_
        rintro e w' ⟨rfl, rfl⟩
        go_wp2_with fail
        refine (zeroC b false Zb.out _).mono ?_
        rintro e w' ⟨rfl, rfl⟩
        go_wp2_with fail
        refine (infC b false Ib.out _).mono ?_
        rintro e w' ⟨rfl, rfl⟩
        go_wp2_with fail
        refine (zeroC a false Za.out _).mono ?_
        rintro e w' ⟨rfl, rfl⟩
        go_wp2_with fail
        refine (zeroC a false Za.out _).mono ?_
        rintro e w' ⟨rfl, rfl⟩
        go_wp2_with fail
        refine (T1.out _).mono ?_
        rintro e w' ⟨rfl, rfl⟩
        go_wp2_with fail
        refine (T2.out _).mono ?_
        rintro e w' ⟨rfl, rfl⟩
        go_wp2_with fail
        refine (of_num m (by have := M1.out; omega) _).mono ?_
        rintro e w1 ⟨A1, c1, l1, rfl, hr1, hn1, hv1, hl1, hc1, hb1⟩
        have R1 := Lib.hid hr1
        have O1 := Lib.hid hn1
        have V1 := Lib.hid hv1
        have B1 := Lib.hid hb1
        clear hr1 hn1 hv1 hc1 hb1
        go_wp2_with fail
        rw [HU2.out]
        refine (up_any A1 c1 l1 u (by omega) (by omega) _ R1.out O1.out.1).mono ?_
        rintro e w2 ⟨A2, c2, l2, rfl, hr2, hn2, hv2, hl2, hc2, hb2⟩
        have R2 := Lib.hid hr2
        have O2 := Lib.hid hn2
        have V2 := Lib.hid hv2
        have B2 := Lib.hid (B1.out.trans (hb2.mono B1.out.size))
        clear hr2 hn2 hv2 hc2 hb2 B1
        rw [V1.out, ← DA.out] at V2
        go_wp2_with fail
        refine (of_num n (by have := M2.out; omega) _).mono ?_
        rintro e w3 ⟨A3, c3, l3, rfl, hr3, hn3, hv3, hl3, hc3, hb3⟩
        have R2' := Lib.hid (R2.out.keep hb3)
        clear R2
        have R2 := Lib.hid R2'.out
        clear R2'
        have R3 := Lib.hid hr3
        have O3 := Lib.hid hn3
        have V3 := Lib.hid hv3
        have B3 := Lib.hid (B2.out.trans (hb3.mono B2.out.size))
        clear hr3 hn3 hv3 hc3 hb3 B2
        go_wp2_with fail
        rw [HV2.out]
        refine (up_any A3 c3 l3 v (by omega) (by omega) _ R3.out O3.out.1).mono ?_
        rintro e w4 ⟨A4, c4, l4, rfl, hr4, hn4, hv4, hl4, hc4, hb4⟩
        have R2' := Lib.hid (R2.out.keep hb4)
        clear R2
        have R2 := Lib.hid R2'.out
        clear R2'
        have R4 := Lib.hid hr4
        have O4 := Lib.hid hn4
        have V4 := Lib.hid hv4
        have B4 := Lib.hid (B3.out.trans (hb4.mono B3.out.size))
        clear hr4 hn4 hv4 hc4 hb4 B3
        rw [V3.out, ← DB.out] at V4
        go_wp2_with fail
        refine (negC a Ha.out Sa Ga.out _).mono ?_
        rintro e w' ⟨rfl, rfl⟩
        go_wp2_with fail
        refine (negC b Hb.out Sa Gb.out _).mono ?_
        rintro e w' ⟨rfl, rfl⟩
        go_wp2_with fail
        refine (sum_any A2 A4 c2 c4 l2 l4 300 (by omega) (by omega) (by omega) _ R2.out R4.out O2.out.1 O4.out.1).mono ?_
        rintro e w5 ⟨A5, c5, l5, rfl, hr5, hn5, hv5, hl5, hc5, hb5⟩
        have R5 := Lib.hid hr5
        have O5 := Lib.hid hn5
        have V5 := Lib.hid hv5
        have B5 := Lib.hid (B4.out.trans (hb5.mono B4.out.size))
        clear hr5 hn5 hv5 hc5 hb5 B4
        rw [V2.out, V4.out] at V5
        go_wp2_with fail
        refine (of_num 1 (by decide) _).mono ?_
        rintro e w6 ⟨A6, c6, l6, rfl, hr6, hn6, hv6, hl6, hc6, hb6⟩
        have R5' := Lib.hid (R5.out.keep hb6)
        clear R5
        have R5 := Lib.hid R5'.out
        clear R5'
        have R6 := Lib.hid hr6
        have O6 := Lib.hid hn6
        have V6 := Lib.hid hv6
        have B6 := Lib.hid (B5.out.trans (hb6.mono B5.out.size))
        clear hr6 hn6 hv6 hc6 hb6 B5
        have l5' : l5.length ≤ 300 := (small_len O5.out (by rw [V5.out]; obtain ⟨k, hk, hx⟩ := BS.out; exact small_most hx (by omega))).1
        go_wp2_with fail
        rw [← DL.out]
        refine (scaled_any A5 A6 c5 c6 l5 l6 (low) (by omega) (by omega) (by omega) (by omega) _ R5.out R6.out O5.out O6.out).mono ?_
        rintro e w7 ⟨X, x, xs, Y, y, ys, rfl, hrx, hry, hnx, hny, hvx, hvy, hlx, hly, hb7⟩
        rw [V5.out] at hvx
        rw [V6.out] at hvy
        have bx : val xs < most := by rw [hvx]; exact (by obtain ⟨k, hk, hx⟩ := BS.out; exact pow_bound hx (by omega))
        have by' : val ys < most := by rw [hvy]; exact pow_bound (x := 1) (by decide) (by omega)
        have HX := Lib.hid (round_any Sa X Y x y xs ys (small_len hnx bx).1 (small_len hny by').1 w7 hrx hry hnx hny (by rw [hvx]; exact Nat.mul_pos (by have := P1.out; omega) (Nat.two_pow_pos _)) (by rw [hvy]; exact Nat.mul_pos (by decide) (Nat.two_pow_pos _)) (small_len hnx bx).2 (small_len hny by').2)
        rw [hvx, hvy] at HX
        have B7 := Lib.hid (B6.out.trans (hb7.mono B6.out.size))
        clear hrx hry hnx hny hvx hvy hlx hly hb7 bx by' B6
        go_wp2_with fail
        refine (negC a Ha.out Sa Ga.out _).mono ?_
        rintro e w' ⟨rfl, rfl⟩
        go_wp2_with fail
        refine HX.out.mono ?_
        rintro e w8 ⟨E, hE, he, hb8⟩
        have he' : e = .returned (.int .u64 (signV _ (frung _ _ E))) := he
        clear he
        subst he'
        have HF := Lib.hid (HR.out E hE)
        have B8 := Lib.hid (B7.out.trans (hb8.mono B7.out.size))
        clear hE hb8 B7 HX
        go_wp2_with fail
        go_ret
        exact ⟨ret_u64 (by first | exact HF.out.symm | rw [HF.out, Nat.one_mul]), B8.out⟩
      · obtain rfl : Sb = !Sa := by cases Sa <;> cases Sb <;> simp_all
        clear hs
        have hne : Sa ≠ !Sa := by cases Sa <;> simp
        by_cases hxy : x = y
        · have HR := Lib.hid (RG.out ⟨hne, hxy⟩)
          have HC : Hid (cmpV x y = 0) := Lib.hid (by unfold cmpV; rw [if_neg (by omega), if_neg (by omega)])
          clear RS RM RL RG hne hxy
          go_enter Tryz.func33, Tryz.ntmps33
          go_wp2_with fail
          refine (nanC a false Na.out _).mono ?_
          rintro e w' ⟨rfl, rfl⟩
          go_wp2_with fail
          refine (nanC b false Nb.out _).mono ?_
          rintro e w' ⟨rfl, rfl⟩
          go_wp2_with fail
          refine (infC a false Ia.out _).mono ?_
          rintro e w' ⟨rfl, rfl⟩
          go_wp2_with fail
          refine (infC a false Ia.out _).mono ?_
          rintro e w' ⟨rfl, rfl⟩
          go_wp2_with fail
          refine (zeroC b false Zb.out _).mono ?_
          rintro e w' ⟨rfl, rfl⟩
          go_wp2_with fail
          refine (infC b false Ib.out _).mono ?_
          rintro e w' ⟨rfl, rfl⟩
          go_wp2_with fail
          refine (zeroC a false Za.out _).mono ?_
          rintro e w' ⟨rfl, rfl⟩
          go_wp2_with fail
          refine (zeroC a false Za.out _).mono ?_
          rintro e w' ⟨rfl, rfl⟩
          go_wp2_with fail
          refine (T1.out _).mono ?_
          rintro e w' ⟨rfl, rfl⟩
          go_wp2_with fail
          refine (T2.out _).mono ?_
          rintro e w' ⟨rfl, rfl⟩
          go_wp2_with fail
          refine (of_num m (by have := M1.out; omega) _).mono ?_
          rintro e w1 ⟨A1, c1, l1, rfl, hr1, hn1, hv1, hl1, hc1, hb1⟩
          have R1 := Lib.hid hr1
          have O1 := Lib.hid hn1
          have V1 := Lib.hid hv1
          have B1 := Lib.hid hb1
          clear hr1 hn1 hv1 hc1 hb1
          go_wp2_with fail
          rw [HU2.out]
          refine (up_any A1 c1 l1 u (by omega) (by omega) _ R1.out O1.out.1).mono ?_
          rintro e w2 ⟨A2, c2, l2, rfl, hr2, hn2, hv2, hl2, hc2, hb2⟩
          have R2 := Lib.hid hr2
          have O2 := Lib.hid hn2
          have V2 := Lib.hid hv2
          have B2 := Lib.hid (B1.out.trans (hb2.mono B1.out.size))
          clear hr2 hn2 hv2 hc2 hb2 B1
          rw [V1.out, ← DA.out] at V2
          go_wp2_with fail
          refine (of_num n (by have := M2.out; omega) _).mono ?_
          rintro e w3 ⟨A3, c3, l3, rfl, hr3, hn3, hv3, hl3, hc3, hb3⟩
          have R2' := Lib.hid (R2.out.keep hb3)
          clear R2
          have R2 := Lib.hid R2'.out
          clear R2'
          have R3 := Lib.hid hr3
          have O3 := Lib.hid hn3
          have V3 := Lib.hid hv3
          have B3 := Lib.hid (B2.out.trans (hb3.mono B2.out.size))
          clear hr3 hn3 hv3 hc3 hb3 B2
          go_wp2_with fail
          rw [HV2.out]
          refine (up_any A3 c3 l3 v (by omega) (by omega) _ R3.out O3.out.1).mono ?_
          rintro e w4 ⟨A4, c4, l4, rfl, hr4, hn4, hv4, hl4, hc4, hb4⟩
          have R2' := Lib.hid (R2.out.keep hb4)
          clear R2
          have R2 := Lib.hid R2'.out
          clear R2'
          have R4 := Lib.hid hr4
          have O4 := Lib.hid hn4
          have V4 := Lib.hid hv4
          have B4 := Lib.hid (B3.out.trans (hb4.mono B3.out.size))
          clear hr4 hn4 hv4 hc4 hb4 B3
          rw [V3.out, ← DB.out] at V4
          go_wp2_with fail
          refine (negC a Ha.out Sa Ga.out _).mono ?_
          rintro e w' ⟨rfl, rfl⟩
          go_wp2_with fail
          refine (negC b Hb.out (!Sa) Gb.out _).mono ?_
          rintro e w' ⟨rfl, rfl⟩
          go_wp2_with fail
          refine (cmp_any A2 A4 c2 c4 _ l2 l4 (by omega) (by omega) _ R2.out R4.out O2.out O4.out).mono ?_
          rintro e w5 ⟨rfl, q5, rfl⟩
          rw [V2.out, V4.out, HC.out]
          go_wp2_with fail
          go_ret
          exact ⟨ret_u64 HR.out.symm, ⟨B4.out.os, B4.out.tape, B4.out.output, B4.out.size, B4.out.block⟩⟩
        · by_cases hlt : y < x
          · have HR := Lib.hid (RM.out ⟨hne, hlt⟩)
            have HC : Hid (cmpV x y = 1) := Lib.hid (by unfold cmpV; rw [if_neg (by omega), if_pos (by omega)])
            have HLE : Hid (y ≤ x) := Lib.hid (by omega)
            have HPP : Hid (0 < x - y) := Lib.hid (by omega)
            clear RS RM RL RG hne hxy hlt
            go_enter Tryz.func33, Tryz.ntmps33
            go_wp2_with fail
            refine (nanC a false Na.out _).mono ?_
            rintro e w' ⟨rfl, rfl⟩
            go_wp2_with fail
            refine (nanC b false Nb.out _).mono ?_
            rintro e w' ⟨rfl, rfl⟩
            go_wp2_with fail
            refine (infC a false Ia.out _).mono ?_
            rintro e w' ⟨rfl, rfl⟩
            go_wp2_with fail
            refine (infC a false Ia.out _).mono ?_
            rintro e w' ⟨rfl, rfl⟩
            go_wp2_with fail
            refine (zeroC b false Zb.out _).mono ?_
            rintro e w' ⟨rfl, rfl⟩
            go_wp2_with fail
            refine (infC b false Ib.out _).mono ?_
            rintro e w' ⟨rfl, rfl⟩
            go_wp2_with fail
            refine (zeroC a false Za.out _).mono ?_
            rintro e w' ⟨rfl, rfl⟩
            go_wp2_with fail
            refine (zeroC a false Za.out _).mono ?_
            rintro e w' ⟨rfl, rfl⟩
            go_wp2_with fail
            refine (T1.out _).mono ?_
            rintro e w' ⟨rfl, rfl⟩
            go_wp2_with fail
            refine (T2.out _).mono ?_
            rintro e w' ⟨rfl, rfl⟩
            go_wp2_with fail
            refine (of_num m (by have := M1.out; omega) _).mono ?_
            rintro e w1 ⟨A1, c1, l1, rfl, hr1, hn1, hv1, hl1, hc1, hb1⟩
            have R1 := Lib.hid hr1
            have O1 := Lib.hid hn1
            have V1 := Lib.hid hv1
            have B1 := Lib.hid hb1
            clear hr1 hn1 hv1 hc1 hb1
            go_wp2_with fail
            rw [HU2.out]
            refine (up_any A1 c1 l1 u (by omega) (by omega) _ R1.out O1.out.1).mono ?_
            rintro e w2 ⟨A2, c2, l2, rfl, hr2, hn2, hv2, hl2, hc2, hb2⟩
            have R2 := Lib.hid hr2
            have O2 := Lib.hid hn2
            have V2 := Lib.hid hv2
            have B2 := Lib.hid (B1.out.trans (hb2.mono B1.out.size))
            clear hr2 hn2 hv2 hc2 hb2 B1
            rw [V1.out, ← DA.out] at V2
            go_wp2_with fail
            refine (of_num n (by have := M2.out; omega) _).mono ?_
            rintro e w3 ⟨A3, c3, l3, rfl, hr3, hn3, hv3, hl3, hc3, hb3⟩
            have R2' := Lib.hid (R2.out.keep hb3)
            clear R2
            have R2 := Lib.hid R2'.out
            clear R2'
            have R3 := Lib.hid hr3
            have O3 := Lib.hid hn3
            have V3 := Lib.hid hv3
            have B3 := Lib.hid (B2.out.trans (hb3.mono B2.out.size))
            clear hr3 hn3 hv3 hc3 hb3 B2
            go_wp2_with fail
            rw [HV2.out]
            refine (up_any A3 c3 l3 v (by omega) (by omega) _ R3.out O3.out.1).mono ?_
            rintro e w4 ⟨A4, c4, l4, rfl, hr4, hn4, hv4, hl4, hc4, hb4⟩
            have R2' := Lib.hid (R2.out.keep hb4)
            clear R2
            have R2 := Lib.hid R2'.out
            clear R2'
            have R4 := Lib.hid hr4
            have O4 := Lib.hid hn4
            have V4 := Lib.hid hv4
            have B4 := Lib.hid (B3.out.trans (hb4.mono B3.out.size))
            clear hr4 hn4 hv4 hc4 hb4 B3
            rw [V3.out, ← DB.out] at V4
            go_wp2_with fail
            refine (negC a Ha.out Sa Ga.out _).mono ?_
            rintro e w' ⟨rfl, rfl⟩
            go_wp2_with fail
            refine (negC b Hb.out (!Sa) Gb.out _).mono ?_
            rintro e w' ⟨rfl, rfl⟩
            go_wp2_with fail
            refine (cmp_any A2 A4 c2 c4 _ l2 l4 (by omega) (by omega) _ R2.out R4.out O2.out O4.out).mono ?_
            rintro e w5 ⟨rfl, q5, rfl⟩
            rw [V2.out, V4.out, HC.out]
            have B5 : Hid (Below w.heap.size w (w4.drewN q5)) := Lib.hid ⟨B4.out.os, B4.out.tape, B4.out.output, B4.out.size, B4.out.block⟩
            have R2a : Hid (RD (w4.drewN q5) (w4.drewN q5).heap.size A2 l2) := Lib.hid R2.out
            have R4a : Hid (RD (w4.drewN q5) (w4.drewN q5).heap.size A4 l4) := Lib.hid R4.out
            clear B4 R2 R4
            have R2 := Lib.hid R2a.out
            have R4 := Lib.hid R4a.out
            clear R2a R4a
            generalize w4.drewN q5 = w5 at *
            go_wp2_with fail
            refine (negC a Ha.out Sa Ga.out _).mono ?_
            rintro e w' ⟨rfl, rfl⟩
            go_wp2_with fail
            refine (less_any A2 A4 c2 c4 l2 l4 (by omega) (len_le O4.out O2.out (by rw [V4.out, V2.out]; exact HLE.out)) _ R2.out R4.out O2.out.1 O4.out.1 (by rw [V4.out, V2.out]; exact HLE.out)).mono ?_
            rintro e w6 ⟨A6, c6, l6, rfl, hr6, hn6, hv6, hl6, hc6, hb6⟩
            have R6 := Lib.hid hr6
            have O6 := Lib.hid hn6
            have V6 := Lib.hid hv6
            have B6 := Lib.hid (B5.out.trans (hb6.mono B5.out.size))
            clear hr6 hn6 hv6 hc6 hb6 B5
            rw [V2.out, V4.out] at V6
            go_wp2_with fail
            refine (of_num 1 (by decide) _).mono ?_
            rintro e w7 ⟨A7, c7, l7, rfl, hr7, hn7, hv7, hl7, hc7, hb7⟩
            have R6' := Lib.hid (R6.out.keep hb7)
            clear R6
            have R6 := Lib.hid R6'.out
            clear R6'
            have R7 := Lib.hid hr7
            have O7 := Lib.hid hn7
            have V7 := Lib.hid hv7
            have B7 := Lib.hid (B6.out.trans (hb7.mono B6.out.size))
            clear hr7 hn7 hv7 hc7 hb7 B6
            have l6' : l6.length ≤ 300 := (small_len O6.out (by rw [V6.out]; exact small_most (Nat.lt_of_le_of_lt (Nat.sub_le _ _) BX.out) (by omega))).1
            go_wp2_with fail
            rw [← DL.out]
            refine (scaled_any A6 A7 c6 c7 l6 l7 (low) (by omega) (by omega) (by omega) (by omega) _ R6.out R7.out O6.out O7.out).mono ?_
            rintro e w8 ⟨X, x, xs, Y, y, ys, rfl, hrx, hry, hnx, hny, hvx, hvy, hlx, hly, hb8⟩
            rw [V6.out] at hvx
            rw [V7.out] at hvy
            have bx : val xs < most := by rw [hvx]; exact pow_bound (Nat.lt_of_le_of_lt (Nat.sub_le _ _) BX.out) (by omega)
            have by' : val ys < most := by rw [hvy]; exact pow_bound (x := 1) (by decide) (by omega)
            have HX := Lib.hid (round_any Sa X Y x y xs ys (small_len hnx bx).1 (small_len hny by').1 w8 hrx hry hnx hny (by rw [hvx]; exact Nat.mul_pos HPP.out (Nat.two_pow_pos _)) (by rw [hvy]; exact Nat.mul_pos (by decide) (Nat.two_pow_pos _)) (small_len hnx bx).2 (small_len hny by').2)
            rw [hvx, hvy] at HX
            have B8 := Lib.hid (B7.out.trans (hb8.mono B7.out.size))
            clear hrx hry hnx hny hvx hvy hlx hly hb8 bx by' B7
            go_wp2_with fail
            refine HX.out.mono ?_
            rintro e w9 ⟨E, hE, he, hb9⟩
            have he' : e = .returned (.int .u64 (signV _ (frung _ _ E))) := he
            clear he
            subst he'
            have HF := Lib.hid (HR.out E hE)
            have B9 := Lib.hid (B8.out.trans (hb9.mono B8.out.size))
            clear hE hb9 B8 HX
            go_wp2_with fail
            go_ret
            exact ⟨ret_u64 (by first | exact HF.out.symm | rw [HF.out, Nat.one_mul]), B9.out⟩
          · have hyx : x < y := by omega
            have HR := Lib.hid (RL.out ⟨hne, hyx⟩)
            have HC : Hid (cmpV x y = -1) := Lib.hid (by unfold cmpV; rw [if_pos (by omega)])
            have HLE : Hid (x ≤ y) := Lib.hid (by omega)
            have HPP : Hid (0 < y - x) := Lib.hid (by omega)
            clear RS RM RL RG hne hxy hlt hyx
            go_enter Tryz.func33, Tryz.ntmps33
            go_wp2_with fail
            refine (nanC a false Na.out _).mono ?_
            rintro e w' ⟨rfl, rfl⟩
            go_wp2_with fail
            refine (nanC b false Nb.out _).mono ?_
            rintro e w' ⟨rfl, rfl⟩
            go_wp2_with fail
            refine (infC a false Ia.out _).mono ?_
            rintro e w' ⟨rfl, rfl⟩
            go_wp2_with fail
            refine (infC a false Ia.out _).mono ?_
            rintro e w' ⟨rfl, rfl⟩
            go_wp2_with fail
            refine (zeroC b false Zb.out _).mono ?_
            rintro e w' ⟨rfl, rfl⟩
            go_wp2_with fail
            refine (infC b false Ib.out _).mono ?_
            rintro e w' ⟨rfl, rfl⟩
            go_wp2_with fail
            refine (zeroC a false Za.out _).mono ?_
            rintro e w' ⟨rfl, rfl⟩
            go_wp2_with fail
            refine (zeroC a false Za.out _).mono ?_
            rintro e w' ⟨rfl, rfl⟩
            go_wp2_with fail
            refine (T1.out _).mono ?_
            rintro e w' ⟨rfl, rfl⟩
            go_wp2_with fail
            refine (T2.out _).mono ?_
            rintro e w' ⟨rfl, rfl⟩
            go_wp2_with fail
            refine (of_num m (by have := M1.out; omega) _).mono ?_
            rintro e w1 ⟨A1, c1, l1, rfl, hr1, hn1, hv1, hl1, hc1, hb1⟩
            have R1 := Lib.hid hr1
            have O1 := Lib.hid hn1
            have V1 := Lib.hid hv1
            have B1 := Lib.hid hb1
            clear hr1 hn1 hv1 hc1 hb1
            go_wp2_with fail
            rw [HU2.out]
            refine (up_any A1 c1 l1 u (by omega) (by omega) _ R1.out O1.out.1).mono ?_
            rintro e w2 ⟨A2, c2, l2, rfl, hr2, hn2, hv2, hl2, hc2, hb2⟩
            have R2 := Lib.hid hr2
            have O2 := Lib.hid hn2
            have V2 := Lib.hid hv2
            have B2 := Lib.hid (B1.out.trans (hb2.mono B1.out.size))
            clear hr2 hn2 hv2 hc2 hb2 B1
            rw [V1.out, ← DA.out] at V2
            go_wp2_with fail
            refine (of_num n (by have := M2.out; omega) _).mono ?_
            rintro e w3 ⟨A3, c3, l3, rfl, hr3, hn3, hv3, hl3, hc3, hb3⟩
            have R2' := Lib.hid (R2.out.keep hb3)
            clear R2
            have R2 := Lib.hid R2'.out
            clear R2'
            have R3 := Lib.hid hr3
            have O3 := Lib.hid hn3
            have V3 := Lib.hid hv3
            have B3 := Lib.hid (B2.out.trans (hb3.mono B2.out.size))
            clear hr3 hn3 hv3 hc3 hb3 B2
            go_wp2_with fail
            rw [HV2.out]
            refine (up_any A3 c3 l3 v (by omega) (by omega) _ R3.out O3.out.1).mono ?_
            rintro e w4 ⟨A4, c4, l4, rfl, hr4, hn4, hv4, hl4, hc4, hb4⟩
            have R2' := Lib.hid (R2.out.keep hb4)
            clear R2
            have R2 := Lib.hid R2'.out
            clear R2'
            have R4 := Lib.hid hr4
            have O4 := Lib.hid hn4
            have V4 := Lib.hid hv4
            have B4 := Lib.hid (B3.out.trans (hb4.mono B3.out.size))
            clear hr4 hn4 hv4 hc4 hb4 B3
            rw [V3.out, ← DB.out] at V4
            go_wp2_with fail
            refine (negC a Ha.out Sa Ga.out _).mono ?_
            rintro e w' ⟨rfl, rfl⟩
            go_wp2_with fail
            refine (negC b Hb.out (!Sa) Gb.out _).mono ?_
            rintro e w' ⟨rfl, rfl⟩
            go_wp2_with fail
            refine (cmp_any A2 A4 c2 c4 _ l2 l4 (by omega) (by omega) _ R2.out R4.out O2.out O4.out).mono ?_
            rintro e w5 ⟨rfl, q5, rfl⟩
            rw [V2.out, V4.out, HC.out]
            have B5 : Hid (Below w.heap.size w (w4.drewN q5)) := Lib.hid ⟨B4.out.os, B4.out.tape, B4.out.output, B4.out.size, B4.out.block⟩
            have R2a : Hid (RD (w4.drewN q5) (w4.drewN q5).heap.size A2 l2) := Lib.hid R2.out
            have R4a : Hid (RD (w4.drewN q5) (w4.drewN q5).heap.size A4 l4) := Lib.hid R4.out
            clear B4 R2 R4
            have R2 := Lib.hid R2a.out
            have R4 := Lib.hid R4a.out
            clear R2a R4a
            generalize w4.drewN q5 = w5 at *
            go_wp2_with fail
            refine (negC a Ha.out Sa Ga.out _).mono ?_
            rintro e w' ⟨rfl, rfl⟩
            go_wp2_with fail
            refine (less_loose A2 A4 c2 c4 l2 l4 (by omega) _ R2.out R4.out O2.out.1 O4.out.1).mono ?_
            rintro e w6 ⟨A6, n6, c6, rfl, hb6⟩
            have R2' := Lib.hid (R2.out.keep hb6)
            clear R2
            have R2 := Lib.hid R2'.out
            clear R2'
            have R4' := Lib.hid (R4.out.keep hb6)
            clear R4
            have R4 := Lib.hid R4'.out
            clear R4'
            have B6 := Lib.hid (B5.out.trans (hb6.mono B5.out.size))
            clear hb6 B5
            go_wp2_with fail
            refine (negC b Hb.out (!Sa) Gb.out _).mono ?_
            rintro e w' ⟨rfl, rfl⟩
            go_wp2_with fail
            refine (less_any A4 A2 c4 c2 l4 l2 (by omega) (len_le O2.out O4.out (by rw [V4.out, V2.out]; exact HLE.out)) _ R4.out R2.out O4.out.1 O2.out.1 (by rw [V4.out, V2.out]; exact HLE.out)).mono ?_
            rintro e w7 ⟨A7, c7, l7, rfl, hr7, hn7, hv7, hl7, hc7, hb7⟩
            have R7 := Lib.hid hr7
            have O7 := Lib.hid hn7
            have V7 := Lib.hid hv7
            have B7 := Lib.hid (B6.out.trans (hb7.mono B6.out.size))
            clear hr7 hn7 hv7 hc7 hb7 B6
            rw [V2.out, V4.out] at V7
            go_wp2_with fail
            refine (of_num 1 (by decide) _).mono ?_
            rintro e w8 ⟨A8, c8, l8, rfl, hr8, hn8, hv8, hl8, hc8, hb8⟩
            have R7' := Lib.hid (R7.out.keep hb8)
            clear R7
            have R7 := Lib.hid R7'.out
            clear R7'
            have R8 := Lib.hid hr8
            have O8 := Lib.hid hn8
            have V8 := Lib.hid hv8
            have B8 := Lib.hid (B7.out.trans (hb8.mono B7.out.size))
            clear hr8 hn8 hv8 hc8 hb8 B7
            have l7' : l7.length ≤ 300 := (small_len O7.out (by rw [V7.out]; exact small_most (Nat.lt_of_le_of_lt (Nat.sub_le _ _) BY.out) (by omega))).1
            go_wp2_with fail
            rw [← DL.out]
            refine (scaled_any A7 A8 c7 c8 l7 l8 (low) (by omega) (by omega) (by omega) (by omega) _ R7.out R8.out O7.out O8.out).mono ?_
            rintro e w9 ⟨X, x, xs, Y, y, ys, rfl, hrx, hry, hnx, hny, hvx, hvy, hlx, hly, hb9⟩
            rw [V7.out] at hvx
            rw [V8.out] at hvy
            have bx : val xs < most := by rw [hvx]; exact pow_bound (Nat.lt_of_le_of_lt (Nat.sub_le _ _) BY.out) (by omega)
            have by' : val ys < most := by rw [hvy]; exact pow_bound (x := 1) (by decide) (by omega)
            have HX := Lib.hid (round_any (!Sa) X Y x y xs ys (small_len hnx bx).1 (small_len hny by').1 w9 hrx hry hnx hny (by rw [hvx]; exact Nat.mul_pos HPP.out (Nat.two_pow_pos _)) (by rw [hvy]; exact Nat.mul_pos (by decide) (Nat.two_pow_pos _)) (small_len hnx bx).2 (small_len hny by').2)
            rw [hvx, hvy] at HX
            have B9 := Lib.hid (B8.out.trans (hb9.mono B8.out.size))
            clear hrx hry hnx hny hvx hvy hlx hly hb9 bx by' B8
            go_wp2_with fail
            refine HX.out.mono ?_
            rintro e w10 ⟨E, hE, he, hb10⟩
            have he' : e = .returned (.int .u64 (signV _ (frung _ _ E))) := he
            clear he
            subst he'
            have HF := Lib.hid (HR.out E hE)
            have B10 := Lib.hid (B9.out.trans (hb10.mono B9.out.size))
            clear hE hb10 B9 HX
            go_wp2_with fail
            go_ret
            exact ⟨ret_u64 (by first | exact HF.out.symm | rw [HF.out, Nat.one_mul]), B10.out⟩
end Go.Proofs.YtlinoncoanpcdaaGreatDoor
