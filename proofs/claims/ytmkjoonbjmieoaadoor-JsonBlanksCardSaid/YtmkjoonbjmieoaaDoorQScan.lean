/-
  jtext's stands, pastBlanks, pastDigits, pastWhole, pastFraction, pastExponent, findMark, findWord, findNumber AT EVERY TEXT of at most 1000000 bytes, from every place of it: what they return; the world is as it was. Condition: the text's length.
-/
import Derived.Test.YtmkjoonbjmieoaaDoorQShelf
import Derived.Test.YtmkjoonbjmieoaaDoorQPlain
import Derived.WalkKit
import Derived.WalkLawsBesides
import Derived.WalkSpells
import Derived.Lib.Hide
import Derived.Outline
import Derived.LoopTactic
import Derived.OwnWalk
import Derived.KernelRfl
namespace Go.Proofs.YtmkjoonbjmieoaaDoor
open Go.RowKit

/-- The bytes from a place on. -/
def rest (s : ByteArray) (k : Nat) : List UInt8 := s.data.toList.drop k
theorem rest_zero (s : ByteArray) : rest s 0 = s.data.toList := List.drop_zero
theorem rest_len (s : ByteArray) (k : Nat) : (rest s k).length = s.size - k := by unfold rest; rw [List.length_drop]; rfl
theorem rest_ne (s : ByteArray) (k : Nat) (h : k < s.size) : rest s k ≠ [] := by
  intro e
  have := rest_len s k
  rw [e] at this
  simp at this
  omega
theorem rest_end (s : ByteArray) (k : Nat) (h : ¬ k < s.size) : rest s k = [] := by
  apply List.eq_nil_of_length_eq_zero
  rw [rest_len]
  omega
theorem rest_drop (s : ByteArray) (k n : Nat) : (rest s k).drop n = rest s (k + n) := by
  unfold rest; rw [List.drop_drop]
theorem rest_cons (s : ByteArray) (k : Nat) (h : k < s.size) : rest s k = s[k] :: rest s (k + 1) := by
  unfold rest
  rw [List.drop_eq_getElem_cons (by simpa using h)]
  rfl
theorem fst_at (p : UInt8 → Bool) (s : ByteArray) (k : Nat) (h : k < s.size) : fst p (rest s k) = p s[k] := by
  rw [rest_cons s k h]; rfl
theorem fst_end (p : UInt8 → Bool) (s : ByteArray) (k : Nat) (h : ¬ k < s.size) : fst p (rest s k) = false := by
  rw [rest_end s k h]; rfl
theorem nth_rest (s : ByteArray) (k : Nat) (h : k < s.size) : nth (rest s k) 0 = s[k].toNat := by
  rw [rest_cons s k h]; rfl
theorem ret_i64 {a b : Int} (h : a = b) : Ending.returned (.int .i64 a) = .returned (.int .i64 b) := by rw [h]
theorem ret_bool {a b : Bool} (h : a = b) : Ending.returned (.bool a) = .returned (.bool b) := by rw [h]
theorem index_has (l : List UInt8) (c : UInt8) : decide (0 ≤ Lib.indexByte l c) = l.contains c := by
  induction l with
  | nil => rfl
  | cons b l ih =>
    rw [Lib.indexByte]
    by_cases hb : (b == c) = true
    · have hb2 : (c == b) = true := by simpa using (beq_iff_eq.1 hb).symm
      rw [if_pos hb, List.contains_cons, hb2]; rfl
    · have hb2 : (c == b) = false := by rw [Bool.eq_false_iff]; intro h2; exact hb (by rw [beq_iff_eq] at h2 ⊢; exact h2.symm)
      rw [if_neg hb, List.contains_cons, hb2, Bool.false_or, ← ih]
      have := Lib.indexByte_ge l c
      by_cases hi : Lib.indexByte l c = -1
      · rw [if_pos (by simp [hi]), hi]
      · rw [if_neg (by simpa using hi)]
        rw [decide_eq_decide]; omega
theorem byte_back (c : UInt8) : ((c.toNat : Int)).toNat.toUInt8 = c := by simp
def stB (some : ByteArray) (l : List UInt8) : Bool := fst (fun c => some.data.toList.contains c) l
set_option maxHeartbeats 1000000 in
theorem stands_any (s some : ByteArray) (k : Nat) (w : World) : Calls Tryd.prog 48 #[.string s, .int .i64 k, .string some] w fun e w' => e = .returned (.bool (stB some (rest s k))) ∧ w = w' := by
  by_cases h : k < s.size
  · have e : stB some (rest s k) = decide (0 ≤ Lib.indexByte some.data.toList s[k]) := by unfold stB; rw [fst_at _ s k h, index_has]
    rw [e]
    have HC : Hid (∀ w, Calls Tryd.prog 64 #[.string some, .int .u8 ((s[k].toNat : Nat) : Int)] w fun e w' => e = .returned (.int .i64 (Lib.indexByte some.data.toList s[k])) ∧ w = w') := Lib.hid (fun w => by
      have := Tryd.strings_IndexByte some ((s[k].toNat : Nat) : Int) w
      rw [byte_back] at this
      exact this.mono fun e w' ⟨h1, h2⟩ => ⟨h1, h2.symm⟩)
    clear e
    generalize Lib.indexByte some.data.toList s[k] = x at *
    have d : decide (k < s.size) = true := by simpa using h
    go_enter Tryd.func48, Tryd.ntmps48
    go_wp2_with fail
    refine (HC.out _).mono ?_
    rintro e w' ⟨rfl, rfl⟩
    go_wp2_with fail
    go_ret
    exact ⟨rfl, rfl⟩
  · have e : stB some (rest s k) = false := fst_end _ s k h
    rw [e]
    have d : decide (k < s.size) = false := by simpa using h
    clear e
    go_enter Tryd.func48, Tryd.ntmps48
    go_wp2_with fail
    go_ret
    exact ⟨rfl, rfl⟩
theorem stands_yes (s some : ByteArray) (k : Nat) (h : stB some (rest s k) = true) (w : World) : Calls Tryd.prog 48 #[.string s, .int .i64 k, .string some] w fun e w' => e = .returned (.bool true) ∧ w = w' := by
  have := stands_any s some k w
  rwa [h] at this
theorem stands_no (s some : ByteArray) (k : Nat) (h : stB some (rest s k) = false) (w : World) : Calls Tryd.prog 48 #[.string s, .int .i64 k, .string some] w fun e w' => e = .returned (.bool false) ∧ w = w' := by
  have := stands_any s some k w
  rwa [h] at this
theorem st_len (some : ByteArray) (s : ByteArray) (k : Nat) (h : stB some (rest s k) = true) : k < s.size := by
  have := fst_len _ _ h
  rw [rest_len] at this
  omega
set_option maxHeartbeats 1000000 in
theorem pastDigits_any (s : ByteArray) (k : Nat) (hk : k ≤ s.size) (hs : s.size ≤ 1000000) (w : World) : Calls Tryd.prog 68 #[.string s, .int .i64 k] w fun e w' => e = .returned (.int .i64 ((k + run isD (rest s k) : Nat) : Int)) ∧ w = w' := by
  go_enter Tryd.func68, Tryd.ntmps68
  go_wp2_with fail
  go_loop [1] (fun u => ∃ i : Nat, i ≤ s.size ∧ u = .int .i64 i ∧ Hid (i + run isD (rest s i) = k + run isD (rest s k))) (fun u => s.size - (intOf u).toNat)
  case atStart => exact ⟨k, hk, rfl, Lib.hid rfl⟩
  case round =>
    obtain ⟨i, hi, rfl, hrel⟩ := hrel
    by_cases hd : fst isD (rest s i) = true
    · have hlt : i < s.size := st_len ⟨#[48, 49, 50, 51, 52, 53, 54, 55, 56, 57]⟩ s i hd
      have HR : Hid (i + 1 + run isD (rest s (i + 1)) = k + run isD (rest s k)) := Lib.hid (by rw [← hrel.out, run_yes isD _ hd, rest_drop]; omega)
      have HC := Lib.hid (fun w => stands_yes s ⟨#[48, 49, 50, 51, 52, 53, 54, 55, 56, 57]⟩ i hd w)
      clear hrel hd
      go_wp2_with fail
      refine (HC.out _).mono ?_
      rintro e w' ⟨rfl, rfl⟩
      go_wp2_with fail
      go_round
      case rel => exact ⟨i + 1, by omega, by go_num, HR⟩
      case measure => simp [intOf]; omega
    · have hd2 : fst isD (rest s i) = false := by simpa using hd
      have HR : Hid (i = k + run isD (rest s k)) := Lib.hid (by rw [← hrel.out, run_no isD _ hd2]; rfl)
      have HC := Lib.hid (fun w => stands_no s ⟨#[48, 49, 50, 51, 52, 53, 54, 55, 56, 57]⟩ i hd2 w)
      clear hrel hd hd2
      go_wp2_with fail
      refine (HC.out _).mono ?_
      rintro e w' ⟨rfl, rfl⟩
      go_wp2_with fail
      go_ret
      exact ⟨ret_i64 (by rw [← HR.out]), rfl⟩
set_option maxHeartbeats 1000000 in
theorem pastBlanks_any (s : ByteArray) (k : Nat) (hk : k ≤ s.size) (hs : s.size ≤ 1000000) (w : World) : Calls Tryd.prog 25 #[.string s, .int .i64 k] w fun e w' => e = .returned (.int .i64 ((k + run isB (rest s k) : Nat) : Int)) ∧ w = w' := by
  go_enter Tryd.func25, Tryd.ntmps25
  go_wp2_with fail
  go_loop [1] (fun u => ∃ i : Nat, i ≤ s.size ∧ u = .int .i64 i ∧ Hid (i + run isB (rest s i) = k + run isB (rest s k))) (fun u => s.size - (intOf u).toNat)
  case atStart => exact ⟨k, hk, rfl, Lib.hid rfl⟩
  case round =>
    obtain ⟨i, hi, rfl, hrel⟩ := hrel
    by_cases hd : fst isB (rest s i) = true
    · have hlt : i < s.size := st_len ⟨#[32, 9, 10, 13]⟩ s i hd
      have HR : Hid (i + 1 + run isB (rest s (i + 1)) = k + run isB (rest s k)) := Lib.hid (by rw [← hrel.out, run_yes isB _ hd, rest_drop]; omega)
      have HC := Lib.hid (fun w => stands_yes s ⟨#[32, 9, 10, 13]⟩ i hd w)
      clear hrel hd
      go_wp2_with fail
      refine (HC.out _).mono ?_
      rintro e w' ⟨rfl, rfl⟩
      go_wp2_with fail
      go_round
      case rel => exact ⟨i + 1, by omega, by go_num, HR⟩
      case measure => simp [intOf]; omega
    · have hd2 : fst isB (rest s i) = false := by simpa using hd
      have HR : Hid (i = k + run isB (rest s k)) := Lib.hid (by rw [← hrel.out, run_no isB _ hd2]; rfl)
      have HC := Lib.hid (fun w => stands_no s ⟨#[32, 9, 10, 13]⟩ i hd2 w)
      clear hrel hd hd2
      go_wp2_with fail
      refine (HC.out _).mono ?_
      rintro e w' ⟨rfl, rfl⟩
      go_wp2_with fail
      go_ret
      exact ⟨ret_i64 (by rw [← HR.out]), rfl⟩
theorem pastWhole_any (s : ByteArray) (k : Nat) (hk : k ≤ s.size) (hs : s.size ≤ 1000000) (w : World) : Calls Tryd.prog 59 #[.string s, .int .i64 k] w fun e w' => e = .returned (.int .i64 ((k + wholeLen (rest s k) : Nat) : Int)) ∧ w = w' := by
  by_cases hd : fst (is1 48) (rest s k) = true
  · have e : wholeLen (rest s k) = 1 := by unfold wholeLen; rw [if_pos hd]
    rw [e]
    have HC := Lib.hid (fun w => stands_yes s ⟨#[48]⟩ k hd w)
    clear e hd
    go_enter Tryd.func59, Tryd.ntmps59
    go_wp2_with fail
    refine (HC.out _).mono ?_
    rintro e w' ⟨rfl, rfl⟩
    go_wp2_with fail
    go_ret
    exact ⟨ret_i64 (by omega), rfl⟩
  · have hd2 : fst (is1 48) (rest s k) = false := by simpa using hd
    have e : wholeLen (rest s k) = run isD (rest s k) := by unfold wholeLen; rw [if_neg hd]
    rw [e]
    have HC := Lib.hid (fun w => stands_no s ⟨#[48]⟩ k hd2 w)
    have HD := Lib.hid (fun w => pastDigits_any s k hk hs w)
    clear e hd hd2
    go_enter Tryd.func59, Tryd.ntmps59
    go_wp2_with fail
    refine (HC.out _).mono ?_
    rintro e w' ⟨rfl, rfl⟩
    go_wp2_with fail
    refine (HD.out _).mono ?_
    rintro e w' ⟨rfl, rfl⟩
    go_wp2_with fail
    go_ret
    exact ⟨rfl, rfl⟩
theorem pastFraction_any (s : ByteArray) (k : Nat) (hs : s.size ≤ 1000000) (w : World) : Calls Tryd.prog 61 #[.string s, .int .i64 k] w fun e w' => e = .returned (.int .i64 ((k + fracLen (rest s k) : Nat) : Int)) ∧ w = w' := by
  by_cases hd : fst (is1 46) (rest s k) = true
  · have hlt : k < s.size := st_len ⟨#[46]⟩ s k hd
    have e : fracLen (rest s k) = if run isD (rest s (k + 1)) = 0 then 0 else run isD (rest s (k + 1)) + 1 := by unfold fracLen; rw [if_pos hd, rest_drop]
    rw [e]
    have HC := Lib.hid (fun w => stands_yes s ⟨#[46]⟩ k hd w)
    have HD := Lib.hid (fun w => pastDigits_any s (k + 1) hlt hs w)
    clear e hd
    generalize run isD (rest s (k + 1)) = m at *
    by_cases hm : m = 0
    · subst hm
      rw [if_pos rfl]
      go_enter Tryd.func61, Tryd.ntmps61
      go_wp2_with fail
      refine (HC.out _).mono ?_
      rintro e w' ⟨rfl, rfl⟩
      go_wp2_with fail
      refine (HD.out _).mono ?_
      rintro e w' ⟨rfl, rfl⟩
      go_wp2_with fail
      go_ret
      exact ⟨rfl, rfl⟩
    · rw [if_neg hm]
      have hne : ((((k + 1 + m : Nat) : Int)) == ((k : Int) + 1)) = false := by simp only [beq_eq_false_iff_ne, ne_eq]; omega
      go_enter Tryd.func61, Tryd.ntmps61
      go_wp2_with fail
      refine (HC.out _).mono ?_
      rintro e w' ⟨rfl, rfl⟩
      go_wp2_with fail
      refine (HD.out _).mono ?_
      rintro e w' ⟨rfl, rfl⟩
      go_wp2_with fail
      go_ret
      exact ⟨ret_i64 (by omega), rfl⟩
  · have hd2 : fst (is1 46) (rest s k) = false := by simpa using hd
    have e : fracLen (rest s k) = 0 := by unfold fracLen; rw [if_neg hd]
    rw [e]
    have HC := Lib.hid (fun w => stands_no s ⟨#[46]⟩ k hd2 w)
    clear e hd hd2
    go_enter Tryd.func61, Tryd.ntmps61
    go_wp2_with fail
    refine (HC.out _).mono ?_
    rintro e w' ⟨rfl, rfl⟩
    go_wp2_with fail
    go_ret
    exact ⟨rfl, rfl⟩
end Go.Proofs.YtmkjoonbjmieoaaDoor
