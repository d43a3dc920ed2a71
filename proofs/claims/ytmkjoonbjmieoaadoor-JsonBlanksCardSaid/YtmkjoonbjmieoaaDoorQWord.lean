/-
  jtext's findWord AT EVERY TEXT of at most 1000000 bytes, from every place of it: what it returns; the world is as it was. Condition: the text's length.
-/
import Derived.Test.YtmkjoonbjmieoaaDoorQScan2
namespace Go.Proofs.YtmkjoonbjmieoaaDoor
open Go.RowKit

theorem extract_take (s : ByteArray) (k n : Nat) : (s.extract k (k + n)).data.toList = (rest s k).take n := by
  unfold rest
  rw [Lib.extract_data]
  congr 1
  omega
def wT : List UInt8 := [116, 114, 117, 101]
def wF : List UInt8 := [102, 97, 108, 115, 101]
def wN : List UInt8 := [110, 117, 108, 108]
/-- Which word a text is. -/
def Which (x : ByteArray) (n : Nat) (v : Nat) : Prop :=
  ((x.toList == [116, 114, 117, 101]) = true ∧ v = n ∧ n = 4) ∨ ((x.toList == [116, 114, 117, 101]) = false ∧ (x.toList == [102, 97, 108, 115, 101]) = true ∧ v = n ∧ n = 5) ∨ ((x.toList == [116, 114, 117, 101]) = false ∧ (x.toList == [102, 97, 108, 115, 101]) = false ∧ (x.toList == [110, 117, 108, 108]) = true ∧ v = n ∧ n = 4) ∨ ((x.toList == [116, 114, 117, 101]) = false ∧ (x.toList == [102, 97, 108, 115, 101]) = false ∧ (x.toList == [110, 117, 108, 108]) = false ∧ v = 0)
theorem which (s : ByteArray) (k : Nat) : Which (s.extract k (k + run isL (rest s k))) (run isL (rest s k)) (wordLen (rest s k)) := by
  have hle := run_le isL (rest s k)
  have ht : ((rest s k).take (run isL (rest s k))).length = run isL (rest s k) := by rw [List.length_take]; omega
  unfold Which wordLen isWord
  rw [Lib.toList_data, extract_take]
  generalize run isL (rest s k) = n at *
  generalize (rest s k).take n = x at *
  by_cases h1 : (x == [116, 114, 117, 101]) = true
  · have e := beq_iff_eq.1 h1; subst e; left; refine ⟨rfl, ?_, ?_⟩
    · rw [if_pos (by rfl)]
    · simpa using ht.symm
  · have h1' : (x == [116, 114, 117, 101]) = false := by simpa using h1
    rw [h1', Bool.false_or]
    by_cases h2 : (x == [102, 97, 108, 115, 101]) = true
    · have e := beq_iff_eq.1 h2; subst e; right; left; refine ⟨rfl, rfl, ?_, ?_⟩
      · rw [if_pos (by rfl)]
      · simpa using ht.symm
    · have h2' : (x == [102, 97, 108, 115, 101]) = false := by simpa using h2
      rw [h2', Bool.false_or]
      by_cases h3 : (x == [110, 117, 108, 108]) = true
      · have e := beq_iff_eq.1 h3; subst e; right; right; left; refine ⟨rfl, rfl, rfl, ?_, ?_⟩
        · rw [if_pos (by rfl)]
        · simpa using ht.symm
      · have h3' : (x == [110, 117, 108, 108]) = false := by simpa using h3
        rw [h3']; right; right; right; exact ⟨rfl, rfl, rfl, by rw [if_neg (by simp)]⟩
set_option maxHeartbeats 4000000 in
theorem findWord_any (s : ByteArray) (k : Nat) (hk : k ≤ s.size) (hs : s.size ≤ 1000000) (w : World) : Calls Tryd.prog 45 #[.string s, .int .i64 k] w fun e w' => e = found s k (wordLen (rest s k)) ∧ w = w' := by
  have hle := run_le isL (rest s k)
  rw [rest_len] at hle
  have HW := Lib.hid (which s k)
  go_enter Tryd.func45, Tryd.ntmps45
  go_wp2_with fail
  go_loop [6] (fun u => ∃ i : Nat, k ≤ i ∧ i ≤ s.size ∧ u = .int .i64 i ∧ Hid (i + run isL (rest s i) = k + run isL (rest s k))) (fun u => s.size - (intOf u).toNat)
  case atStart => exact ⟨k, Nat.le_refl _, hk, rfl, Lib.hid rfl⟩
  case round =>
    obtain ⟨i, hki, hi, rfl, hrel⟩ := hrel
    by_cases hd : fst isL (rest s i) = true
    · have hlt : i < s.size := by have := fst_len _ _ hd; rw [rest_len] at this; omega
      have HR : Hid (i + 1 + run isL (rest s (i + 1)) = k + run isL (rest s k)) := Lib.hid (by rw [← hrel.out, run_yes isL _ hd, rest_drop]; omega)
      rw [fst_at _ s i hlt] at hd
      unfold isL at hd
      rw [Bool.and_eq_true, decide_eq_true_eq, decide_eq_true_eq] at hd
      obtain ⟨g1, g2⟩ := hd
      clear hrel HW hle
      have d0 : decide (i < s.size) = true := by simpa using hlt
      go_wp2_with fail
      go_round
      case rel => exact ⟨i + 1, by omega, by omega, by go_num, HR⟩
      case measure => simp [intOf]; omega
    · have hd2 : fst isL (rest s i) = false := by simpa using hd
      have HR : Hid (i = k + run isL (rest s k)) := Lib.hid (by rw [← hrel.out, run_no isL _ hd2]; rfl)
      have hw := HW.out
      rw [← HR.out] at hw
      obtain ⟨m, hm⟩ : ∃ m, m = run isL (rest s k) := ⟨_, rfl⟩
      rw [← hm] at hw hle HR
      have him : i = k + m := HR.out
      clear hrel hd HW hm HR
      unfold Which at hw
      by_cases hlt : i < s.size
      · have d0 : decide (i < s.size) = true := by simpa using hlt
        rw [fst_at _ s i hlt] at hd2
        unfold isL at hd2
        by_cases g1 : 97 ≤ s[i].toNat
        · have g2 : ¬ s[i].toNat ≤ 122 := by
            intro h; rw [decide_eq_true g1, decide_eq_true h] at hd2; simp at hd2
          have dg1 : decide (97 ≤ (s[i].toNat : Int)) = true := by simp; omega
          have dg2 : decide ((s[i].toNat : Int) ≤ 122) = false := by simp; omega
          clear hd2
          rcases hw with ⟨t1, hv, hn⟩ | ⟨t1, t2, hv, hn⟩ | ⟨t1, t2, t3, hv, hn⟩ | ⟨t1, t2, t3, hv⟩
          · have HV : Hid (wordLen (rest s k) = m ∧ m ≠ 0) := Lib.hid ⟨hv, by omega⟩
            have HI : Hid (i = k + m) := Lib.hid him
            clear hv hn him
            go_wp2_with fail
            go_ret2
            exact ⟨by rw [HV.out.1, found_yes s k m HV.out.2]; exact ret_si (by rw [HI.out]) (by rw [HI.out]), rfl⟩
          · have HV : Hid (wordLen (rest s k) = m ∧ m ≠ 0) := Lib.hid ⟨hv, by omega⟩
            have HI : Hid (i = k + m) := Lib.hid him
            clear hv hn him
            go_wp2_with fail
            go_ret2
            exact ⟨by rw [HV.out.1, found_yes s k m HV.out.2]; exact ret_si (by rw [HI.out]) (by rw [HI.out]), rfl⟩
          · have HV : Hid (wordLen (rest s k) = m ∧ m ≠ 0) := Lib.hid ⟨hv, by omega⟩
            have HI : Hid (i = k + m) := Lib.hid him
            clear hv hn him
            go_wp2_with fail
            go_ret2
            exact ⟨by rw [HV.out.1, found_yes s k m HV.out.2]; exact ret_si (by rw [HI.out]) (by rw [HI.out]), rfl⟩
          · have HV := Lib.hid hv
            clear hv him
            go_wp2_with fail
            go_ret2
            exact ⟨by rw [HV.out]; exact (found_no s k).symm, rfl⟩
        · have dg1 : decide (97 ≤ (s[i].toNat : Int)) = false := by simp; omega
          clear hd2
          rcases hw with ⟨t1, hv, hn⟩ | ⟨t1, t2, hv, hn⟩ | ⟨t1, t2, t3, hv, hn⟩ | ⟨t1, t2, t3, hv⟩
          · have HV : Hid (wordLen (rest s k) = m ∧ m ≠ 0) := Lib.hid ⟨hv, by omega⟩
            have HI : Hid (i = k + m) := Lib.hid him
            clear hv hn him
            go_wp2_with fail
            go_ret2
            exact ⟨by rw [HV.out.1, found_yes s k m HV.out.2]; exact ret_si (by rw [HI.out]) (by rw [HI.out]), rfl⟩
          · have HV : Hid (wordLen (rest s k) = m ∧ m ≠ 0) := Lib.hid ⟨hv, by omega⟩
            have HI : Hid (i = k + m) := Lib.hid him
            clear hv hn him
            go_wp2_with fail
            go_ret2
            exact ⟨by rw [HV.out.1, found_yes s k m HV.out.2]; exact ret_si (by rw [HI.out]) (by rw [HI.out]), rfl⟩
          · have HV : Hid (wordLen (rest s k) = m ∧ m ≠ 0) := Lib.hid ⟨hv, by omega⟩
            have HI : Hid (i = k + m) := Lib.hid him
            clear hv hn him
            go_wp2_with fail
            go_ret2
            exact ⟨by rw [HV.out.1, found_yes s k m HV.out.2]; exact ret_si (by rw [HI.out]) (by rw [HI.out]), rfl⟩
          · have HV := Lib.hid hv
            clear hv him
            go_wp2_with fail
            go_ret2
            exact ⟨by rw [HV.out]; exact (found_no s k).symm, rfl⟩
      · have d0 : decide (i < s.size) = false := by simpa using hlt
        clear hd2
        rcases hw with ⟨t1, hv, hn⟩ | ⟨t1, t2, hv, hn⟩ | ⟨t1, t2, t3, hv, hn⟩ | ⟨t1, t2, t3, hv⟩
        · have HV : Hid (wordLen (rest s k) = m ∧ m ≠ 0) := Lib.hid ⟨hv, by omega⟩
          have HI : Hid (i = k + m) := Lib.hid him
          clear hv hn him
          go_wp2_with fail
          go_ret2
          exact ⟨by rw [HV.out.1, found_yes s k m HV.out.2]; exact ret_si (by rw [HI.out]) (by rw [HI.out]), rfl⟩
        · have HV : Hid (wordLen (rest s k) = m ∧ m ≠ 0) := Lib.hid ⟨hv, by omega⟩
          have HI : Hid (i = k + m) := Lib.hid him
          clear hv hn him
          go_wp2_with fail
          go_ret2
          exact ⟨by rw [HV.out.1, found_yes s k m HV.out.2]; exact ret_si (by rw [HI.out]) (by rw [HI.out]), rfl⟩
        · have HV : Hid (wordLen (rest s k) = m ∧ m ≠ 0) := Lib.hid ⟨hv, by omega⟩
          have HI : Hid (i = k + m) := Lib.hid him
          clear hv hn him
          go_wp2_with fail
          go_ret2
          exact ⟨by rw [HV.out.1, found_yes s k m HV.out.2]; exact ret_si (by rw [HI.out]) (by rw [HI.out]), rfl⟩
        · have HV := Lib.hid hv
          clear hv him
          go_wp2_with fail
          go_ret2
          exact ⟨by rw [HV.out]; exact (found_no s k).symm, rfl⟩
end Go.Proofs.YtmkjoonbjmieoaaDoor
