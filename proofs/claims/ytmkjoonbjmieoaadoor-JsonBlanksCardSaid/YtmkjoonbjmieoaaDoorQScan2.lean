/-
  jtext's pastExponent, findNumber, findMark, findWord AT EVERY TEXT of at most 1000000 bytes, from every place of it: what they return; the world is as it was. Condition: the text's length.
-/
import Derived.Test.YtmkjoonbjmieoaaDoorQScan
namespace Go.Proofs.YtmkjoonbjmieoaaDoor
open Go.RowKit

set_option maxHeartbeats 1000000 in
theorem pastExponent_any (s : ByteArray) (k : Nat) (hs : s.size ≤ 1000000) (w : World) : Calls Tryd.prog 60 #[.string s, .int .i64 k] w fun e w' => e = .returned (.int .i64 ((k + expLen (rest s k) : Nat) : Int)) ∧ w = w' := by
  by_cases hd : fst isE (rest s k) = true
  · have hlt : k < s.size := st_len ⟨#[101, 69]⟩ s k hd
    have e : expLen (rest s k) = if run isD (rest s (k + (1 + signLen (rest s (k + 1))))) = 0 then 0 else 1 + signLen (rest s (k + 1)) + run isD (rest s (k + (1 + signLen (rest s (k + 1))))) := by unfold expLen; rw [if_pos hd, rest_drop, rest_drop]
    rw [e]
    have HC := Lib.hid (fun w => stands_yes s ⟨#[101, 69]⟩ k hd w)
    clear e hd
    by_cases hg : fst isS (rest s (k + 1)) = true
    · have hlt2 : k + 1 < s.size := st_len ⟨#[43, 45]⟩ s (k + 1) hg
      have eg : signLen (rest s (k + 1)) = 1 := by unfold signLen; rw [if_pos hg]
      rw [eg]
      have HG : Hid (∀ w, Calls Tryd.prog 48 #[.string s, .int .i64 ((k : Int) + 1), .string ⟨#[43, 45]⟩] w fun e w' => e = .returned (.bool true) ∧ w = w') := Lib.hid (fun w => stands_yes s ⟨#[43, 45]⟩ (k + 1) hg w)
      have HD : Hid (∀ w, Calls Tryd.prog 68 #[.string s, .int .i64 ((k : Int) + 1 + 1)] w fun e w' => e = .returned (.int .i64 ((k + 2 + run isD (rest s (k + 2)) : Nat) : Int)) ∧ w = w') := Lib.hid (fun w => pastDigits_any s (k + 2) hlt2 hs w)
      have ek : k + (1 + 1) = k + 2 := rfl
      rw [ek]
      clear eg hg ek
      generalize run isD (rest s (k + 2)) = m at *
      by_cases hm : m = 0
      · subst hm
        rw [if_pos rfl]
        have heq : ((((k + 2 + 0 : Nat) : Int)) == ((k : Int) + 1 + 1)) = true := by simp only [beq_iff_eq]; omega
        go_enter Tryd.func60, Tryd.ntmps60
        go_wp2_with fail
        refine (HC.out _).mono ?_
        rintro e w' ⟨rfl, rfl⟩
        go_wp2_with fail
        refine (HG.out _).mono ?_
        rintro e w' ⟨rfl, rfl⟩
        go_wp2_with fail
        refine (HD.out _).mono ?_
        rintro e w' ⟨rfl, rfl⟩
        go_wp2_with fail
        go_ret
        exact ⟨rfl, rfl⟩
      · rw [if_neg hm]
        have hne : ((((k + 2 + m : Nat) : Int)) == ((k : Int) + 1 + 1)) = false := by simp only [beq_eq_false_iff_ne, ne_eq]; omega
        go_enter Tryd.func60, Tryd.ntmps60
        go_wp2_with fail
        refine (HC.out _).mono ?_
        rintro e w' ⟨rfl, rfl⟩
        go_wp2_with fail
        refine (HG.out _).mono ?_
        rintro e w' ⟨rfl, rfl⟩
        go_wp2_with fail
        refine (HD.out _).mono ?_
        rintro e w' ⟨rfl, rfl⟩
        go_wp2_with fail
        go_ret
        exact ⟨ret_i64 (by omega), rfl⟩
    · have hg2 : fst isS (rest s (k + 1)) = false := by simpa using hg
      have eg : signLen (rest s (k + 1)) = 0 := by unfold signLen; rw [if_neg hg]
      rw [eg]
      have HG : Hid (∀ w, Calls Tryd.prog 48 #[.string s, .int .i64 ((k : Int) + 1), .string ⟨#[43, 45]⟩] w fun e w' => e = .returned (.bool false) ∧ w = w') := Lib.hid (fun w => stands_no s ⟨#[43, 45]⟩ (k + 1) hg2 w)
      have HD : Hid (∀ w, Calls Tryd.prog 68 #[.string s, .int .i64 ((k : Int) + 1)] w fun e w' => e = .returned (.int .i64 ((k + 1 + run isD (rest s (k + 1)) : Nat) : Int)) ∧ w = w') := Lib.hid (fun w => pastDigits_any s (k + 1) hlt hs w)
      have ek : k + (1 + 0) = k + 1 := rfl
      rw [ek]
      clear eg hg hg2 ek
      generalize run isD (rest s (k + 1)) = m at *
      by_cases hm : m = 0
      · subst hm
        rw [if_pos rfl]
        have heq : ((((k + 1 + 0 : Nat) : Int)) == ((k : Int) + 1)) = true := by simp only [beq_iff_eq]; omega
        go_enter Tryd.func60, Tryd.ntmps60
        go_wp2_with fail
        refine (HC.out _).mono ?_
        rintro e w' ⟨rfl, rfl⟩
        go_wp2_with fail
        refine (HG.out _).mono ?_
        rintro e w' ⟨rfl, rfl⟩
        go_wp2_with fail
        refine (HD.out _).mono ?_
        rintro e w' ⟨rfl, rfl⟩
        go_wp2_with fail
        go_ret
        exact ⟨rfl, rfl⟩
      · rw [if_neg hm]
        have hne : ((((k + 1 + m : Nat) : Int)) == ((k : Int) + 1)) = false := by simp only [beq_eq_false_iff_ne, ne_eq]; omega
        go_enter Tryd.func60, Tryd.ntmps60
        go_wp2_with fail
        refine (HC.out _).mono ?_
        rintro e w' ⟨rfl, rfl⟩
        go_wp2_with fail
        refine (HG.out _).mono ?_
        rintro e w' ⟨rfl, rfl⟩
        go_wp2_with fail
        refine (HD.out _).mono ?_
        rintro e w' ⟨rfl, rfl⟩
        go_wp2_with fail
        go_ret
        exact ⟨ret_i64 (by omega), rfl⟩
  · have hd2 : fst isE (rest s k) = false := by simpa using hd
    have e : expLen (rest s k) = 0 := by unfold expLen; rw [if_neg hd]
    rw [e]
    have HC := Lib.hid (fun w => stands_no s ⟨#[101, 69]⟩ k hd2 w)
    clear e hd hd2
    go_enter Tryd.func60, Tryd.ntmps60
    go_wp2_with fail
    refine (HC.out _).mono ?_
    rintro e w' ⟨rfl, rfl⟩
    go_wp2_with fail
    go_ret
    exact ⟨rfl, rfl⟩
/-- What a finder hands back: the text, and the place behind it. -/
def found (s : ByteArray) (k : Nat) (n : Nat) : Ending := .returned (.tuple #[.string (if n = 0 then ⟨#[]⟩ else s.extract k (k + n)), .int .i64 ((k + n : Nat) : Int)])
theorem found_no (s : ByteArray) (k : Nat) : found s k 0 = .returned (.tuple #[.string ⟨#[]⟩, .int .i64 (k : Int)]) := rfl
theorem found_yes (s : ByteArray) (k n : Nat) (h : n ≠ 0) : found s k n = .returned (.tuple #[.string (s.extract k (k + n)), .int .i64 ((k + n : Nat) : Int)]) := by unfold found; rw [if_neg h]
theorem ret_si {x y : ByteArray} {a b : Int} (h : x = y) (g : a = b) : Ending.returned (.tuple #[.string x, .int .i64 a]) = .returned (.tuple #[.string y, .int .i64 b]) := by rw [h, g]
set_option maxHeartbeats 1000000 in
theorem findMark_any (s : ByteArray) (k : Nat) (hs : s.size ≤ 1000000) (w : World) : Calls Tryd.prog 44 #[.string s, .int .i64 k] w fun e w' => e = found s k (markLen (rest s k)) ∧ w = w' := by
  by_cases hd : fst isM (rest s k) = true
  · have hlt : k < s.size := st_len ⟨#[123, 125, 91, 93, 58, 44]⟩ s k hd
    have e : markLen (rest s k) = 1 := by unfold markLen; rw [if_pos hd]
    rw [e, found_yes s k 1 (by omega)]
    have HC := Lib.hid (fun w => stands_yes s ⟨#[123, 125, 91, 93, 58, 44]⟩ k hd w)
    clear e hd
    go_enter Tryd.func44, Tryd.ntmps44
    go_wp2_with fail
    refine (HC.out _).mono ?_
    rintro e w' ⟨rfl, rfl⟩
    go_wp2_with fail
    go_ret2
    exact ⟨rfl, rfl⟩
  · have hd2 : fst isM (rest s k) = false := by simpa using hd
    have e : markLen (rest s k) = 0 := by unfold markLen; rw [if_neg hd]
    rw [e, found_no]
    have HC := Lib.hid (fun w => stands_no s ⟨#[123, 125, 91, 93, 58, 44]⟩ k hd2 w)
    clear e hd hd2
    go_enter Tryd.func44, Tryd.ntmps44
    go_wp2_with fail
    refine (HC.out _).mono ?_
    rintro e w' ⟨rfl, rfl⟩
    go_wp2_with fail
    go_ret2
    exact ⟨rfl, rfl⟩
set_option maxHeartbeats 1000000 in
theorem findNumber_min (s : ByteArray) (k m : Nat) (hm : m = 0 ∨ m = 1) (h1 : k + m ≤ s.size) (hs : s.size ≤ 1000000) (HM : Hid (∀ w, Calls Tryd.prog 48 #[.string s, .int .i64 k, .string ⟨#[45]⟩] w fun e w' => e = .returned (.bool (decide (m = 1))) ∧ w = w')) (N : Nat) (HN : Hid ((if wholeLen (rest s (k + m)) = 0 then 0 else m + wholeLen (rest s (k + m)) + fracLen (rest s (k + m + wholeLen (rest s (k + m)))) + expLen (rest s (k + m + wholeLen (rest s (k + m)) + fracLen (rest s (k + m + wholeLen (rest s (k + m))))))) = N)) (w : World) : Calls Tryd.prog 46 #[.string s, .int .i64 k] w fun e w' => e = found s k N ∧ w = w' := by
  have l1 := wholeLen_le (rest s (k + m))
  have l2 := fracLen_le (rest s (k + m + wholeLen (rest s (k + m))))
  have l3 := expLen_le (rest s (k + m + wholeLen (rest s (k + m)) + fracLen (rest s (k + m + wholeLen (rest s (k + m))))))
  have HW := Lib.hid (fun w => pastWhole_any s (k + m) h1 hs w)
  have HF := Lib.hid (fun w => pastFraction_any s (k + m + wholeLen (rest s (k + m))) hs w)
  have HE := Lib.hid (fun w => pastExponent_any s (k + m + wholeLen (rest s (k + m)) + fracLen (rest s (k + m + wholeLen (rest s (k + m))))) hs w)
  rw [rest_len] at l1 l2 l3
  have LL : Hid (k + m + wholeLen (rest s (k + m)) + fracLen (rest s (k + m + wholeLen (rest s (k + m)))) + expLen (rest s (k + m + wholeLen (rest s (k + m)) + fracLen (rest s (k + m + wholeLen (rest s (k + m)))))) ≤ s.size) := Lib.hid (by omega)
  generalize wholeLen (rest s (k + m)) = a at *
  generalize fracLen (rest s (k + m + a)) = b at *
  generalize expLen (rest s (k + m + a + b)) = c at *
  clear l1 l2 l3
  have ll := LL.out
  by_cases ha : a = 0
  · subst ha
    have hn := HN.out
    rw [if_pos rfl] at hn
    subst hn
    rw [found_no]
    clear HN LL HE HF
    rcases hm with rfl | rfl
    · have heq : ((((k + 0 + 0 : Nat) : Int)) == (k : Int)) = true := by simp only [beq_iff_eq]; omega
      go_enter Tryd.func46, Tryd.ntmps46
      go_wp2_with fail
      refine (HM.out _).mono ?_
      rintro e w' ⟨rfl, rfl⟩
      go_wp2_with fail
      refine (HW.out _).mono ?_
      rintro e w' ⟨rfl, rfl⟩
      go_wp2_with fail
      go_ret2
      exact ⟨rfl, rfl⟩
    · have heq : ((((k + 1 + 0 : Nat) : Int)) == (k : Int) + 1) = true := by simp only [beq_iff_eq]; omega
      go_enter Tryd.func46, Tryd.ntmps46
      go_wp2_with fail
      refine (HM.out _).mono ?_
      rintro e w' ⟨rfl, rfl⟩
      go_wp2_with fail
      refine (HW.out _).mono ?_
      rintro e w' ⟨rfl, rfl⟩
      go_wp2_with fail
      go_ret2
      exact ⟨rfl, rfl⟩
  · have hn := HN.out
    rw [if_neg ha] at hn
    subst hn
    rw [found_yes s k _ (by omega)]
    have HX : Hid (k + (m + a + b + c) = k + m + a + b + c) := Lib.hid (by omega)
    clear HN LL
    rw [HX.out]
    generalize hp : k + m + a + b + c = p at *
    generalize hq : k + m + a + b = q at *
    generalize hr : k + m + a = r at *
    have b1 : k ≤ p := by omega
    have b2 : q ≤ p := by omega
    have b3 : r ≤ q := by omega
    have b4 : k + m < r := by omega
    clear hp hq hr HX
    rcases hm with rfl | rfl
    · have heq : (((r : Nat) : Int) == (k : Int)) = false := by simp only [beq_eq_false_iff_ne, ne_eq]; omega
      go_enter Tryd.func46, Tryd.ntmps46
      go_wp2_with fail
      refine (HM.out _).mono ?_
      rintro e w' ⟨rfl, rfl⟩
      go_wp2_with fail
      refine (HW.out _).mono ?_
      rintro e w' ⟨rfl, rfl⟩
      go_wp2_with fail
      refine (HF.out _).mono ?_
      rintro e w' ⟨rfl, rfl⟩
      go_wp2_with fail
      refine (HE.out _).mono ?_
      rintro e w' ⟨rfl, rfl⟩
      go_wp2_with fail
      go_ret2
      exact ⟨rfl, rfl⟩
    · have heq : (((r : Nat) : Int) == (k : Int) + 1) = false := by simp only [beq_eq_false_iff_ne, ne_eq]; omega
      go_enter Tryd.func46, Tryd.ntmps46
      go_wp2_with fail
      refine (HM.out _).mono ?_
      rintro e w' ⟨rfl, rfl⟩
      go_wp2_with fail
      refine (HW.out _).mono ?_
      rintro e w' ⟨rfl, rfl⟩
      go_wp2_with fail
      refine (HF.out _).mono ?_
      rintro e w' ⟨rfl, rfl⟩
      go_wp2_with fail
      refine (HE.out _).mono ?_
      rintro e w' ⟨rfl, rfl⟩
      go_wp2_with fail
      go_ret2
      exact ⟨rfl, rfl⟩
theorem findNumber_any (s : ByteArray) (k : Nat) (hk : k ≤ s.size) (hs : s.size ≤ 1000000) (w : World) : Calls Tryd.prog 46 #[.string s, .int .i64 k] w fun e w' => e = found s k (numLen (rest s k)) ∧ w = w' := by
  by_cases hd : fst (is1 45) (rest s k) = true
  · have hlt : k < s.size := st_len ⟨#[45]⟩ s k hd
    have e : minLen (rest s k) = 1 := by unfold minLen; rw [if_pos hd]
    refine findNumber_min s k 1 (.inr rfl) hlt hs (Lib.hid (fun w => stands_yes s ⟨#[45]⟩ k hd w)) _ (Lib.hid ?_) w
    unfold numLen
    rw [e]
    simp only [rest_drop, Nat.add_assoc]
  · have hd2 : fst (is1 45) (rest s k) = false := by simpa using hd
    have e : minLen (rest s k) = 0 := by unfold minLen; rw [if_neg hd]
    refine findNumber_min s k 0 (.inl rfl) hk hs (Lib.hid (fun w => stands_no s ⟨#[45]⟩ k hd2 w)) _ (Lib.hid ?_) w
    unfold numLen
    rw [e]
    simp only [rest_drop, Nat.add_assoc]
end Go.Proofs.YtmkjoonbjmieoaaDoor
