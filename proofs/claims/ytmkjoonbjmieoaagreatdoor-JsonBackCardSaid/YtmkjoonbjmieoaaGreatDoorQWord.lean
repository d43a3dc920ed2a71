/-
  jtext's pastExponent, findNumber, findMark, findWord AT EVERY TEXT of at most 1000000 bytes, from every place of it: what they return; the world is as it was. Condition: the text's length.
  jtext's findWord AT EVERY TEXT of at most 1000000 bytes, from every place of it: what it returns; the world is as it was. Condition: the text's length.
-/
import Derived.Test.YtmkjoonbjmieoaaGreatDoorQScan
namespace Go.Proofs.YtmkjoonbjmieoaaGreatDoor
open Go.RowKit

set_option maxHeartbeats 1000000 in
theorem pastExponent_any (s : ByteArray) (k : Nat) (hs : s.size ≤ 1000000) (w : World) : Calls Tryz.prog 126 #[.string s, .int .i64 k] w fun e w' => e = .returned (.int .i64 ((k + expLen (rest s k) : Nat) : Int)) ∧ w = w' := by
  by_cases hd : fst isE (rest s k) = true
  · have hlt : k < s.size := st_len ⟨#[101, 69]⟩ s k hd
    have e : expLen (rest s k) = if run isD (rest s (k + (1 + signLen (rest s (k + 1))))) = 0 then 0 else 1 + signLen (rest s (k + 1)) + run isD (rest s (k + (1 + signLen (rest s (k + 1))))) := by unfold expLen; rw [if_pos hd, rest_drop, rest_drop]
    rw [e]
    have HC := Lib.hid (fun w => stands_yes s ⟨#[101, 69]⟩ k hd w)
    clear e hd
    by_cases hg : fst isS (rest s (k + 1)) = true
    · have hlt2 : k + 1 < s.size := st_len ⟨#[43, 45]⟩ s (k + 1) hg
      have eg : signLen (rest s (k + 1)) = 1 := by unfold signLen; rw [if_pos hg]
      rw [eg]
      have HG : Hid (∀ w, Calls Tryz.prog 101 #[.string s, .int .i64 ((k : Int) + 1), .string ⟨#[43, 45]⟩] w fun e w' => e = .returned (.bool true) ∧ w = w') := Lib.hid (fun w => stands_yes s ⟨#[43, 45]⟩ (k + 1) hg w)
      have HD : Hid (∀ w, Calls Tryz.prog 142 #[.string s, .int .i64 ((k : Int) + 1 + 1)] w fun e w' => e = .returned (.int .i64 ((k + 2 + run isD (rest s (k + 2)) : Nat) : Int)) ∧ w = w') := Lib.hid (fun w => pastDigits_any s (k + 2) hlt2 hs w)
      have ek : k + (1 + 1) = k + 2 := rfl
      rw [ek]
      clear eg hg ek
      generalize run isD (rest s (k + 2)) = m at *
      by_cases hm : m = 0
      · subst hm
        rw [if_pos rfl]
        have heq : ((((k + 2 + 0 : Nat) : Int)) == ((k : Int) + 1 + 1)) = true := by simp only [beq_iff_eq]; omega
        go_enter Tryz.func126, Tryz.ntmps126
        go_wp2_with fail
        refine (HC.out _).mono ?_
        rintro e w' ⟨rfl, rfl⟩
        go_wp2_with fail
        refine (HG.out _).mono ?_
        rintro e w' ⟨rfl, rfl⟩
        go_wp2_with fail
        refine (HD.out _).mono ?_
        rintro e w' ⟨rfl, rfl⟩
        go_wp2_with fail
        go_ret
        exact ⟨rfl, rfl⟩
      · rw [if_neg hm]
        have hne : ((((k + 2 + m : Nat) : Int)) == ((k : Int) + 1 + 1)) = false := by simp only [beq_eq_false_iff_ne, ne_eq]; omega
        go_enter Tryz.func126, Tryz.ntmps126
        go_wp2_with fail
        refine (HC.out _).mono ?_
        rintro e w' ⟨rfl, rfl⟩
        go_wp2_with fail
        refine (HG.out _).mono ?_
        rintro e w' ⟨rfl, rfl⟩
        go_wp2_with fail
        refine (HD.out _).mono ?_
        rintro e w' ⟨rfl, rfl⟩
        go_wp2_with fail
        go_ret
        exact ⟨ret_i64 (by omega), rfl⟩
    · have hg2 : fst isS (rest s (k + 1)) = false := by simpa using hg
      have eg : signLen (rest s (k + 1)) = 0 := by unfold signLen; rw [if_neg hg]
      rw [eg]
      have HG : Hid (∀ w, Calls Tryz.prog 101 #[.string s, .int .i64 ((k : Int) + 1), .string ⟨#[43, 45]⟩] w fun e w' => e = .returned (.bool false) ∧ w = w') := Lib.hid (fun w => stands_no s ⟨#[43, 45]⟩ (k + 1) hg2 w)
      have HD : Hid (∀ w, Calls Tryz.prog 142 #[.string s, .int .i64 ((k : Int) + 1)] w fun e w' => e = .returned (.int .i64 ((k + 1 + run isD (rest s (k + 1)) : Nat) : Int)) ∧ w = w') := Lib.hid (fun w => pastDigits_any s (k + 1) hlt hs w)
      have ek : k + (1 + 0) = k + 1 := rfl
      rw [ek]
      clear eg hg hg2 ek
      generalize run isD (rest s (k + 1)) = m at *
      by_cases hm : m = 0
      · subst hm
        rw [if_pos rfl]
        have heq : ((((k + 1 + 0 : Nat) : Int)) == ((k : Int) + 1)) = true := by simp only [beq_iff_eq]; omega
        go_enter Tryz.func126, Tryz.ntmps126
        go_wp2_with fail
        refine (HC.out _).mono ?_
        rintro e w' ⟨rfl, rfl⟩
        go_wp2_with fail
        refine (HG.out _).mono ?_
        rintro e w' ⟨rfl, rfl⟩
        go_wp2_with fail
        refine (HD.out _).mono ?_
        rintro e w' ⟨rfl, rfl⟩
        go_wp2_with fail
        go_ret
        exact ⟨rfl, rfl⟩
      · rw [if_neg hm]
        have hne : ((((k + 1 + m : Nat) : Int)) == ((k : Int) + 1)) = false := by simp only [beq_eq_false_iff_ne, ne_eq]; omega
        go_enter Tryz.func126, Tryz.ntmps126
        go_wp2_with fail
        refine (HC.out _).mono ?_
        rintro e w' ⟨rfl, rfl⟩
        go_wp2_with fail
        refine (HG.out _).mono ?_
        rintro e w' ⟨rfl, rfl⟩
        go_wp2_with fail
        refine (HD.out _).mono ?_
        rintro e w' ⟨rfl, rfl⟩
        go_wp2_with fail
        go_ret
        exact ⟨ret_i64 (by omega), rfl⟩
  · have hd2 : fst isE (rest s k) = false := by simpa using hd
    have e : expLen (rest s k) = 0 := by unfold expLen; rw [if_neg hd]
    rw [e]
    have HC := Lib.hid (fun w => stands_no s ⟨#[101, 69]⟩ k hd2 w)
    clear e hd hd2
    go_enter Tryz.func126, Tryz.ntmps126
    go_wp2_with fail
    refine (HC.out _).mono ?_
    rintro e w' ⟨rfl, rfl⟩
    go_wp2_with fail
    go_ret
    exact ⟨rfl, rfl⟩
/-- What a finder hands back: the text, and the place behind it. -/
def found (s : ByteArray) (k : Nat) (n : Nat) : Ending := .returned (.tuple #[.string (if n = 0 then ⟨#[]⟩ else s.extract k (k + n)), .int .i64 ((k + n : Nat) : Int)])
theorem found_no (s : ByteArray) (k : Nat) : found s k 0 = .returned (.tuple #[.string ⟨#[]⟩, .int .i64 (k : Int)]) := rfl
theorem found_yes (s : ByteArray) (k n : Nat) (h : n ≠ 0) : found s k n = .returned (.tuple #[.string (s.extract k (k + n)), .int .i64 ((k + n : Nat) : Int)]) := by unfold found; rw [if_neg h]
theorem ret_si {x y : ByteArray} {a b : Int} (h : x = y) (g : a = b) : Ending.returned (.tuple #[.string x, .int .i64 a]) = .returned (.tuple #[.string y, .int .i64 b]) := by rw [h, g]
set_option maxHeartbeats 1000000 in
theorem findMark_any (s : ByteArray) (k : Nat) (hs : s.size ≤ 1000000) (w : World) : Calls Tryz.prog 97 #[.string s, .int .i64 k] w fun e w' => e = found s k (markLen (rest s k)) ∧ w = w' := by
  by_cases hd : fst isM (rest s k) = true
  · have hlt : k < s.size := st_len ⟨#[123, 125, 91, 93, 58, 44]⟩ s k hd
    have e : markLen (rest s k) = 1 := by unfold markLen; rw [if_pos hd]
    rw [e, found_yes s k 1 (by omega)]
    have HC := Lib.hid (fun w => stands_yes s ⟨#[123, 125, 91, 93, 58, 44]⟩ k hd w)
    clear e hd
    go_enter Tryz.func97, Tryz.ntmps97
    go_wp2_with fail
    refine (HC.out _).mono ?_
    rintro e w' ⟨rfl, rfl⟩
    go_wp2_with fail
    go_ret2
    exact ⟨rfl, rfl⟩
  · have hd2 : fst isM (rest s k) = false := by simpa using hd
    have e : markLen (rest s k) = 0 := by unfold markLen; rw [if_neg hd]
    rw [e, found_no]
    have HC := Lib.hid (fun w => stands_no s ⟨#[123, 125, 91, 93, 58, 44]⟩ k hd2 w)
    clear e hd hd2
    go_enter Tryz.func97, Tryz.ntmps97
    go_wp2_with fail
    refine (HC.out _).mono ?_
    rintro e w' ⟨rfl, rfl⟩
    go_wp2_with fail
    go_ret2
    exact ⟨rfl, rfl⟩
set_option maxHeartbeats 1000000 in
theorem findNumber_min (s : ByteArray) (k m : Nat) (hm : m = 0 ∨ m = 1) (h1 : k + m ≤ s.size) (hs : s.size ≤ 1000000) (HM : Hid (∀ w, Calls Tryz.prog 101 #[.string s, .int .i64 k, .string ⟨#[45]⟩] w fun e w' => e = .returned (.bool (decide (m = 1))) ∧ w = w')) (N : Nat) (HN : Hid ((if wholeLen (rest s (k + m)) = 0 then 0 else m + wholeLen (rest s (k + m)) + fracLen (rest s (k + m + wholeLen (rest s (k + m)))) + expLen (rest s (k + m + wholeLen (rest s (k + m)) + fracLen (rest s (k + m + wholeLen (rest s (k + m))))))) = N)) (w : World) : Calls Tryz.prog 99 #[.string s, .int .i64 k] w fun e w' => e = found s k N ∧ w = w' := by
  have l1 := wholeLen_le (rest s (k + m))
  have l2 := fracLen_le (rest s (k + m + wholeLen (rest s (k + m))))
  have l3 := expLen_le (rest s (k + m + wholeLen (rest s (k + m)) + fracLen (rest s (k + m + wholeLen (rest s (k + m))))))
  have HW := Lib.hid (fun w => pastWhole_any s (k + m) h1 hs w)
  have HF := Lib.hid (fun w => pastFraction_any s (k + m + wholeLen (rest s (k + m))) hs w)
  have HE := Lib.hid (fun w => pastExponent_any s (k + m + wholeLen (rest s (k + m)) + fracLen (rest s (k + m + wholeLen (rest s (k + m))))) hs w)
  rw [rest_len] at l1 l2 l3
  have LL : Hid (k + m + wholeLen (rest s (k + m)) + fracLen (rest s (k + m + wholeLen (rest s (k + m)))) + expLen (rest s (k + m + wholeLen (rest s (k + m)) + fracLen (rest s (k + m + wholeLen (rest s (k + m)))))) ≤ s.size) := Lib.hid (by omega)
  generalize wholeLen (rest s (k + m)) = a at *
  generalize fracLen (rest s (k + m + a)) = b at *
  generalize expLen (rest s (k + m + a + b)) = c at *
  clear l1 l2 l3
  have ll := LL.out
  by_cases ha : a = 0
  · subst ha
    have hn := HN.out
    rw [if_pos rfl] at hn
    subst hn
    rw [found_no]
    clear HN LL HE HF
    rcases hm with rfl | rfl
    · have heq : ((((k + 0 + 0 : Nat) : Int)) == (k : Int)) = true := by simp only [beq_iff_eq]; omega
      go_enter Tryz.func99, Tryz.ntmps99
      go_wp2_with fail
      refine (HM.out _).mono ?_
      rintro e w' ⟨rfl, rfl⟩
      go_wp2_with fail
      refine (HW.out _).mono ?_
      rintro e w' ⟨rfl, rfl⟩
      go_wp2_with fail
      go_ret2
      exact ⟨rfl, rfl⟩
    · have heq : ((((k + 1 + 0 : Nat) : Int)) == (k : Int) + 1) = true := by simp only [beq_iff_eq]; omega
      go_enter Tryz.func99, Tryz.ntmps99
      go_wp2_with fail
      refine (HM.out _).mono ?_
      rintro e w' ⟨rfl, rfl⟩
      go_wp2_with fail
      refine (HW.out _).mono ?_
      rintro e w' ⟨rfl, rfl⟩
      go_wp2_with fail
      go_ret2
      exact ⟨rfl, rfl⟩
  · have hn := HN.out
    rw [if_neg ha] at hn
    subst hn
    rw [found_yes s k _ (by omega)]
    have HX : Hid (k + (m + a + b + c) = k + m + a + b + c) := Lib.hid (by omega)
    clear HN LL
    rw [HX.out]
    generalize hp : k + m + a + b + c = p at *
    generalize hq : k + m + a + b = q at *
    generalize hr : k + m + a = r at *
    have b1 : k ≤ p := by omega
    have b2 : q ≤ p := by omega
    have b3 : r ≤ q := by omega
    have b4 : k + m < r := by omega
    clear hp hq hr HX
    rcases hm with rfl | rfl
    · have heq : (((r : Nat) : Int) == (k : Int)) = false := by simp only [beq_eq_false_iff_ne, ne_eq]; omega
      go_enter Tryz.func99, Tryz.ntmps99
      go_wp2_with fail
      refine (HM.out _).mono ?_
      rintro e w' ⟨rfl, rfl⟩
      go_wp2_with fail
      refine (HW.out _).mono ?_
      rintro e w' ⟨rfl, rfl⟩
      go_wp2_with fail
      refine (HF.out _).mono ?_
      rintro e w' ⟨rfl, rfl⟩
      go_wp2_with fail
      refine (HE.out _).mono ?_
      rintro e w' ⟨rfl, rfl⟩
      go_wp2_with fail
      go_ret2
      exact ⟨rfl, rfl⟩
    · have heq : (((r : Nat) : Int) == (k : Int) + 1) = false := by simp only [beq_eq_false_iff_ne, ne_eq]; omega
      go_enter Tryz.func99, Tryz.ntmps99
      go_wp2_with fail
      refine (HM.out _).mono ?_
      rintro e w' ⟨rfl, rfl⟩
      go_wp2_with fail
      refine (HW.out _).mono ?_
      rintro e w' ⟨rfl, rfl⟩
      go_wp2_with fail
      refine (HF.out _).mono ?_
      rintro e w' ⟨rfl, rfl⟩
      go_wp2_with fail
      refine (HE.out _).mono ?_
      rintro e w' ⟨rfl, rfl⟩
      go_wp2_with fail
      go_ret2
      exact ⟨rfl, rfl⟩
theorem findNumber_any (s : ByteArray) (k : Nat) (hk : k ≤ s.size) (hs : s.size ≤ 1000000) (w : World) : Calls Tryz.prog 99 #[.string s, .int .i64 k] w fun e w' => e = found s k (numLen (rest s k)) ∧ w = w' := by
  by_cases hd : fst (is1 45) (rest s k) = true
  · have hlt : k < s.size := st_len ⟨#[45]⟩ s k hd
    have e : minLen (rest s k) = 1 := by unfold minLen; rw [if_pos hd]
    refine findNumber_min s k 1 (.inr rfl) hlt hs (Lib.hid (fun w => stands_yes s ⟨#[45]⟩ k hd w)) _ (Lib.hid ?_) w
    unfold numLen
    rw [e]
    simp only [rest_drop, Nat.add_assoc]
  · have hd2 : fst (is1 45) (rest s k) = false := by simpa using hd
    have e : minLen (rest s k) = 0 := by unfold minLen; rw [if_neg hd]
    refine findNumber_min s k 0 (.inl rfl) hk hs (Lib.hid (fun w => stands_no s ⟨#[45]⟩ k hd2 w)) _ (Lib.hid ?_) w
    unfold numLen
    rw [e]
    simp only [rest_drop, Nat.add_assoc]
end Go.Proofs.YtmkjoonbjmieoaaGreatDoor
namespace Go.Proofs.YtmkjoonbjmieoaaGreatDoor
open Go.RowKit

theorem extract_take (s : ByteArray) (k n : Nat) : (s.extract k (k + n)).data.toList = (rest s k).take n := by
  unfold rest
  rw [Lib.extract_data]
  congr 1
  omega
def wT : List UInt8 := [116, 114, 117, 101]
def wF : List UInt8 := [102, 97, 108, 115, 101]
def wN : List UInt8 := [110, 117, 108, 108]
/-- Which word a text is. -/
def Which (x : ByteArray) (n : Nat) (v : Nat) : Prop :=
  ((x.toList == [116, 114, 117, 101]) = true ∧ v = n ∧ n = 4) ∨ ((x.toList == [116, 114, 117, 101]) = false ∧ (x.toList == [102, 97, 108, 115, 101]) = true ∧ v = n ∧ n = 5) ∨ ((x.toList == [116, 114, 117, 101]) = false ∧ (x.toList == [102, 97, 108, 115, 101]) = false ∧ (x.toList == [110, 117, 108, 108]) = true ∧ v = n ∧ n = 4) ∨ ((x.toList == [116, 114, 117, 101]) = false ∧ (x.toList == [102, 97, 108, 115, 101]) = false ∧ (x.toList == [110, 117, 108, 108]) = false ∧ v = 0)
theorem which (s : ByteArray) (k : Nat) : Which (s.extract k (k + run isL (rest s k))) (run isL (rest s k)) (wordLen (rest s k)) := by
  have hle := run_le isL (rest s k)
  have ht : ((rest s k).take (run isL (rest s k))).length = run isL (rest s k) := by rw [List.length_take]; omega
  unfold Which wordLen isWord
  rw [Lib.toList_data, extract_take]
  generalize run isL (rest s k) = n at *
  generalize (rest s k).take n = x at *
  by_cases h1 : (x == [116, 114, 117, 101]) = true
  · have e := beq_iff_eq.1 h1; subst e; left; refine ⟨rfl, ?_, ?_⟩
    · rw [if_pos (by rfl)]
    · simpa using ht.symm
  · have h1' : (x == [116, 114, 117, 101]) = false := by simpa using h1
    rw [h1', Bool.false_or]
    by_cases h2 : (x == [102, 97, 108, 115, 101]) = true
    · have e := beq_iff_eq.1 h2; subst e; right; left; refine ⟨rfl, rfl, ?_, ?_⟩
      · rw [if_pos (by rfl)]
      · simpa using ht.symm
    · have h2' : (x == [102, 97, 108, 115, 101]) = false := by simpa using h2
      rw [h2', Bool.false_or]
      by_cases h3 : (x == [110, 117, 108, 108]) = true
      · have e := beq_iff_eq.1 h3; subst e; right; right; left; refine ⟨rfl, rfl, rfl, ?_, ?_⟩
        · rw [if_pos (by rfl)]
        · simpa using ht.symm
      · have h3' : (x == [110, 117, 108, 108]) = false := by simpa using h3
        rw [h3']; right; right; right; exact ⟨rfl, rfl, rfl, by rw [if_neg (by simp)]⟩
set_option maxHeartbeats 4000000 in
theorem findWord_any (s : ByteArray) (k : Nat) (hk : k ≤ s.size) (hs : s.size ≤ 1000000) (w : World) : Calls Tryz.prog 98 #[.string s, .int .i64 k] w fun e w' => e = found s k (wordLen (rest s k)) ∧ w = w' := by
  have hle := run_le isL (rest s k)
  rw [rest_len] at hle
  have HW := Lib.hid (which s k)
  go_enter Tryz.func98, Tryz.ntmps98
  go_wp2_with fail
  go_loop [6] (fun u => ∃ i : Nat, k ≤ i ∧ i ≤ s.size ∧ u = .int .i64 i ∧ Hid (i + run isL (rest s i) = k + run isL (rest s k))) (fun u => s.size - (intOf u).toNat)
  case atStart => exact ⟨k, Nat.le_refl _, hk, rfl, Lib.hid rfl⟩
  case round =>
    obtain ⟨i, hki, hi, rfl, hrel⟩ := hrel
    by_cases hd : fst isL (rest s i) = true
    · have hlt : i < s.size := by have := fst_len _ _ hd; rw [rest_len] at this; omega
      have HR : Hid (i + 1 + run isL (rest s (i + 1)) = k + run isL (rest s k)) := Lib.hid (by rw [← hrel.out, run_yes isL _ hd, rest_drop]; omega)
      rw [fst_at _ s i hlt] at hd
      unfold isL at hd
      rw [Bool.and_eq_true, decide_eq_true_eq, decide_eq_true_eq] at hd
      obtain ⟨g1, g2⟩ := hd
      clear hrel HW hle
      have d0 : decide (i < s.size) = true := by simpa using hlt
      go_wp2_with fail
      go_round
      case rel => exact ⟨i + 1, by omega, by omega, by go_num, HR⟩
      case measure => simp [intOf]; omega
    · have hd2 : fst isL (rest s i) = false := by simpa using hd
      have HR : Hid (i = k + run isL (rest s k)) := Lib.hid (by rw [← hrel.out, run_no isL _ hd2]; rfl)
      have hw := HW.out
      rw [← HR.out] at hw
      obtain ⟨m, hm⟩ : ∃ m, m = run isL (rest s k) := ⟨_, rfl⟩
      rw [← hm] at hw hle HR
      have him : i = k + m := HR.out
      clear hrel hd HW hm HR
      unfold Which at hw
      by_cases hlt : i < s.size
      · have d0 : decide (i < s.size) = true := by simpa using hlt
        rw [fst_at _ s i hlt] at hd2
        unfold isL at hd2
        by_cases g1 : 97 ≤ s[i].toNat
        · have g2 : ¬ s[i].toNat ≤ 122 := by
            intro h; rw [decide_eq_true g1, decide_eq_true h] at hd2; simp at hd2
          have dg1 : decide (97 ≤ (s[i].toNat : Int)) = true := by simp; omega
          have dg2 : decide ((s[i].toNat : Int) ≤ 122) = false := by simp; omega
          clear hd2
          rcases hw with ⟨t1, hv, hn⟩ | ⟨t1, t2, hv, hn⟩ | ⟨t1, t2, t3, hv, hn⟩ | ⟨t1, t2, t3, hv⟩
          · have HV : Hid (wordLen (rest s k) = m ∧ m ≠ 0) := Lib.hid ⟨hv, by omega⟩
            have HI : Hid (i = k + m) := Lib.hid him
            clear hv hn him
            go_wp2_with fail
            go_ret2
            exact ⟨by rw [HV.out.1, found_yes s k m HV.out.2]; exact ret_si (by rw [HI.out]) (by rw [HI.out]), rfl⟩
          · have HV : Hid (wordLen (rest s k) = m ∧ m ≠ 0) := Lib.hid ⟨hv, by omega⟩
            have HI : Hid (i = k + m) := Lib.hid him
            clear hv hn him
            go_wp2_with fail
            go_ret2
            exact ⟨by rw [HV.out.1, found_yes s k m HV.out.2]; exact ret_si (by rw [HI.out]) (by rw [HI.out]), rfl⟩
          · have HV : Hid (wordLen (rest s k) = m ∧ m ≠ 0) := Lib.hid ⟨hv, by omega⟩
            have HI : Hid (i = k + m) := Lib.hid him
            clear hv hn him
            go_wp2_with fail
            go_ret2
            exact ⟨by rw [HV.out.1, found_yes s k m HV.out.2]; exact ret_si (by rw [HI.out]) (by rw [HI.out]), rfl⟩
          · have HV := Lib.hid hv
            clear hv him
            go_wp2_with fail
            go_ret2
            exact ⟨by rw [HV.out]; exact (found_no s k).symm, rfl⟩
        · have dg1 : decide (97 ≤ (s[i].toNat : Int)) = false := by simp; omega
          clear hd2
          rcases hw with ⟨t1, hv, hn⟩ | ⟨t1, t2, hv, hn⟩ | ⟨t1, t2, t3, hv, hn⟩ | ⟨t1, t2, t3, hv⟩
          · have HV : Hid (wordLen (rest s k) = m ∧ m ≠ 0) := Lib.hid ⟨hv, by omega⟩
            have HI : Hid (i = k + m) := Lib.hid him
            clear hv hn him
            go_wp2_with fail
            go_ret2
            exact ⟨by rw [HV.out.1, found_yes s k m HV.out.2]; exact ret_si (by rw [HI.out]) (by rw [HI.out]), rfl⟩
          · have HV : Hid (wordLen (rest s k) = m ∧ m ≠ 0) := Lib.hid ⟨hv, by omega⟩
            have HI : Hid (i = k + m) := Lib.hid him
            clear hv hn him
            go_wp2_with fail
            go_ret2
            exact ⟨by rw [HV.out.1, found_yes s k m HV.out.2]; exact ret_si (by rw [HI.out]) (by rw [HI.out]), rfl⟩
          · have HV : Hid (wordLen (rest s k) = m ∧ m ≠ 0) := Lib.hid ⟨hv, by omega⟩
            have HI : Hid (i = k + m) := Lib.hid him
            clear hv hn him
            go_wp2_with fail
            go_ret2
            exact ⟨by rw [HV.out.1, found_yes s k m HV.out.2]; exact ret_si (by rw [HI.out]) (by rw [HI.out]), rfl⟩
          · have HV := Lib.hid hv
            clear hv him
            go_wp2_with fail
            go_ret2
            exact ⟨by rw [HV.out]; exact (found_no s k).symm, rfl⟩
      · have d0 : decide (i < s.size) = false := by simpa using hlt
        clear hd2
        rcases hw with ⟨t1, hv, hn⟩ | ⟨t1, t2, hv, hn⟩ | ⟨t1, t2, t3, hv, hn⟩ | ⟨t1, t2, t3, hv⟩
        · have HV : Hid (wordLen (rest s k) = m ∧ m ≠ 0) := Lib.hid ⟨hv, by omega⟩
          have HI : Hid (i = k + m) := Lib.hid him
          clear hv hn him
          go_wp2_with fail
          go_ret2
          exact ⟨by rw [HV.out.1, found_yes s k m HV.out.2]; exact ret_si (by rw [HI.out]) (by rw [HI.out]), rfl⟩
        · have HV : Hid (wordLen (rest s k) = m ∧ m ≠ 0) := Lib.hid ⟨hv, by omega⟩
          have HI : Hid (i = k + m) := Lib.hid him
          clear hv hn him
          go_wp2_with fail
          go_ret2
          exact ⟨by rw [HV.out.1, found_yes s k m HV.out.2]; exact ret_si (by rw [HI.out]) (by rw [HI.out]), rfl⟩
        · have HV : Hid (wordLen (rest s k) = m ∧ m ≠ 0) := Lib.hid ⟨hv, by omega⟩
          have HI : Hid (i = k + m) := Lib.hid him
          clear hv hn him
          go_wp2_with fail
          go_ret2
          exact ⟨by rw [HV.out.1, found_yes s k m HV.out.2]; exact ret_si (by rw [HI.out]) (by rw [HI.out]), rfl⟩
        · have HV := Lib.hid hv
          clear hv him
          go_wp2_with fail
          go_ret2
          exact ⟨by rw [HV.out]; exact (found_no s k).symm, rfl⟩
end Go.Proofs.YtmkjoonbjmieoaaGreatDoor
