/- Part of a proof. -/
import Derived.Test.YtmlclgkhnekmnaaGreatDoorShelf3
import Derived.Test.YtmlclgkhnekmnaaGreatDoorPlain
import Derived.WalkKit
import Derived.WalkLawsBesides
import Derived.WalkSpells
import Derived.Lib.Hide
import Derived.Outline
import Derived.LoopTactic
import Derived.OwnWalk
import Derived.KernelRfl
import Derived.Test.YtmlclgkhnekmnaaGreatDoorLPlain4
namespace Go.Proofs.YtmlclgkhnekmnaaGreatDoor
open Go.RowKit
def rest (s : ByteArray) (k : Nat) : List UInt8 := s.data.toList.drop k
theorem rest_zero (s : ByteArray) : rest s 0 = s.data.toList := List.drop_zero
theorem rest_len (s : ByteArray) (k : Nat) : (rest s k).length = s.size - k := by unfold rest; rw [List.length_drop]; rfl
theorem rest_ne (s : ByteArray) (k : Nat) (h : k < s.size) : rest s k ≠ [] := by
 intro e
 have := rest_len s k
 rw [e] at this
 simp at this
 omega
theorem rest_end (s : ByteArray) (k : Nat) (h : ¬ k < s.size) : rest s k = [] := by
 apply List.eq_nil_of_length_eq_zero
 rw [rest_len]
 omega
theorem rest_drop (s : ByteArray) (k n : Nat) : (rest s k).drop n = rest s (k + n) := by
 unfold rest; rw [List.drop_drop]
theorem rest_cons (s : ByteArray) (k : Nat) (h : k < s.size) : rest s k = s[k] :: rest s (k + 1) := by
 unfold rest
 rw [List.drop_eq_getElem_cons (by simpa using h)]
 rfl
theorem fst_at (p : UInt8 → Bool) (s : ByteArray) (k : Nat) (h : k < s.size) : fst p (rest s k) = p s[k] := by
 rw [rest_cons s k h]; rfl
theorem fst_end (p : UInt8 → Bool) (s : ByteArray) (k : Nat) (h : ¬ k < s.size) : fst p (rest s k) = false := by
 rw [rest_end s k h]; rfl
theorem ret_i64 {a b : Int} (h : a = b) : Ending.returned (.int .i64 a) = .returned (.int .i64 b) := by rw [h]
theorem ret_bool {a b : Bool} (h : a = b) : Ending.returned (.bool a) = .returned (.bool b) := by rw [h]
theorem index_has (l : List UInt8) (c : UInt8) : decide (0 ≤ Lib.indexByte l c) = l.contains c := by
 induction l with
 | nil => rfl
 | cons b l ih =>
  rw [Lib.indexByte]
  by_cases hb : (b == c) = true
  · have hb2 : (c == b) = true := by simpa using (beq_iff_eq.1 hb).symm
    rw [if_pos hb, List.contains_cons, hb2]; rfl
  · have hb2 : (c == b) = false := by rw [Bool.eq_false_iff]; intro h2; exact hb (by rw [beq_iff_eq] at h2 ⊢; exact h2.symm)
    rw [if_neg hb, List.contains_cons, hb2, Bool.false_or, ← ih]
    have := Lib.indexByte_ge l c
    by_cases hi : Lib.indexByte l c = -1
    · rw [if_pos (by simp [hi]), hi]
    · rw [if_neg (by simpa using hi)]
      rw [decide_eq_decide]; omega
theorem byte_back (c : UInt8) : ((c.toNat : Int)).toNat.toUInt8 = c := by simp
def stB (some : ByteArray) (l : List UInt8) : Bool := fst (fun c => some.data.toList.contains c) l
theorem st_len (some : ByteArray) (s : ByteArray) (k : Nat) (h : stB some (rest s k) = true) : k < s.size := by
 have := fst_len _ _ h
 rw [rest_len] at this
 omega
end Go.Proofs.YtmlclgkhnekmnaaGreatDoor
namespace Go.Proofs.YtmlclgkhnekmnaaGreatDoor
open Go.RowKit
theorem isLetter_b (x : Int) (a b c d f : Bool) (h1 : decide (97 ≤ x) = a) (h2 : decide (x ≤ 122) = b) (h3 : decide (65 ≤ x) = c) (h4 : decide (x ≤ 90) = d) (h5 : (x == 95) = f) (w : World) : Calls Tryz.prog 71 #[.int .u8 x] w fun e w' => e = .returned (.bool (a && b || c && d || f)) ∧ w = w' := by
 cases a <;> cases b <;> cases c <;> cases d <;> cases f
 all_goals
  go_enter Tryz.func71, Tryz.ntmps71
  go_wp2_with fail
  go_ret
  exact ⟨rfl, rfl⟩
theorem isLetter_any (c : UInt8) (w : World) : Calls Tryz.prog 71 #[.int .u8 (c.toNat : Int)] w fun e w' => e = .returned (.bool (isLt c)) ∧ w = w' := by
 refine (isLetter_b (c.toNat : Int) _ _ _ _ _ rfl rfl rfl rfl rfl w).mono ?_
 rintro e w' ⟨rfl, rfl⟩
 refine ⟨ret_bool ?_, rfl⟩
 unfold isLt
 rw [Bool.eq_iff_iff]
 simp only [Bool.or_eq_true, Bool.and_eq_true, decide_eq_true_eq, beq_iff_eq]
 omega
theorem isDigit_b (x : Int) (a b : Bool) (h1 : decide (48 ≤ x) = a) (h2 : decide (x ≤ 57) = b) (w : World) : Calls Tryz.prog 97 #[.int .u8 x] w fun e w' => e = .returned (.bool (a && b)) ∧ w = w' := by
 cases a <;> cases b
 all_goals
  go_enter Tryz.func97, Tryz.ntmps97
  go_wp2_with fail
  go_ret
  exact ⟨rfl, rfl⟩
theorem isD_eq (c : UInt8) : isD c = (decide (48 ≤ c.toNat) && decide (c.toNat ≤ 57)) := by
 have : ∀ k : Fin 256, isD (UInt8.ofNat k.val) = (decide (48 ≤ k.val) && decide (k.val ≤ 57)) := by decide +kernel
 have h := this ⟨c.toNat, c.toNat_lt⟩
 simpa using h
theorem isDigit_any (c : UInt8) (w : World) : Calls Tryz.prog 97 #[.int .u8 (c.toNat : Int)] w fun e w' => e = .returned (.bool (isD c)) ∧ w = w' := by
 refine (isDigit_b (c.toNat : Int) _ _ rfl rfl w).mono ?_
 rintro e w' ⟨rfl, rfl⟩
 refine ⟨ret_bool ?_, rfl⟩
 rw [isD_eq, Bool.eq_iff_iff]
 simp only [Bool.and_eq_true, decide_eq_true_eq]
 omega
set_option maxHeartbeats 1000000 in
theorem stands_any (s some : ByteArray) (k : Nat) (w : World) : Calls Tryz.prog 133 #[.string s, .int .i64 k, .string some] w fun e w' => e = .returned (.bool (stB some (rest s k))) ∧ w = w' := by
 by_cases h : k < s.size
 · have e : stB some (rest s k) = decide (0 ≤ Lib.indexByte some.data.toList s[k]) := by unfold stB; rw [fst_at _ s k h, index_has]
   rw [e]
   have HC : Hid (∀ w, Calls Tryz.prog 87 #[.string some, .int .u8 ((s[k].toNat : Nat) : Int)] w fun e w' => e = .returned (.int .i64 (Lib.indexByte some.data.toList s[k])) ∧ w = w') := Lib.hid (fun w => by
    have := Tryz.strings_IndexByte some ((s[k].toNat : Nat) : Int) w
    rw [byte_back] at this
    exact this.mono fun e w' ⟨h1, h2⟩ => ⟨h1, h2.symm⟩)
   clear e
   generalize Lib.indexByte some.data.toList s[k] = x at *
   have d : decide (k < s.size) = true := by simpa using h
   go_enter Tryz.func133, Tryz.ntmps133
   go_wp2_with fail
   refine (HC.out _).mono ?_
   rintro e w' ⟨rfl, rfl⟩
   go_wp2_with fail
   go_ret
   exact ⟨rfl, rfl⟩
 · have e : stB some (rest s k) = false := fst_end _ s k h
   rw [e]
   have d : decide (k < s.size) = false := by simpa using h
   clear e
   go_enter Tryz.func133, Tryz.ntmps133
   go_wp2_with fail
   go_ret
   exact ⟨rfl, rfl⟩
theorem stands_yes (s some : ByteArray) (k : Nat) (h : stB some (rest s k) = true) (w : World) : Calls Tryz.prog 133 #[.string s, .int .i64 k, .string some] w fun e w' => e = .returned (.bool true) ∧ w = w' := by
 have := stands_any s some k w
 rwa [h] at this
theorem stands_no (s some : ByteArray) (k : Nat) (h : stB some (rest s k) = false) (w : World) : Calls Tryz.prog 133 #[.string s, .int .i64 k, .string some] w fun e w' => e = .returned (.bool false) ∧ w = w' := by
 have := stands_any s some k w
 rwa [h] at this
set_option maxHeartbeats 1000000 in
theorem pastDigits_any (s : ByteArray) (k : Nat) (hk : k ≤ s.size) (hs : s.size ≤ 1000000) (w : World) : Calls Tryz.prog 132 #[.string s, .int .i64 k] w fun e w' => e = .returned (.int .i64 ((k + run isD (rest s k) : Nat) : Int)) ∧ w = w' := by
 go_enter Tryz.func132, Tryz.ntmps132
 go_wp2_with fail
 go_loop [1] (fun u => ∃ i : Nat, i ≤ s.size ∧ u = .int .i64 i ∧ Hid (i + run isD (rest s i) = k + run isD (rest s k))) (fun u => s.size - (intOf u).toNat)
 case atStart => exact ⟨k, hk, rfl, Lib.hid rfl⟩
 case round =>
  obtain ⟨i, hi, rfl, hrel⟩ := hrel
  by_cases hlt : i < s.size
  · have hfst := fst_at isD s i hlt
    have HC := Lib.hid (fun w => isDigit_any s[i] w)
    by_cases hd : isD s[i] = true
    · rw [hd] at HC hfst
      have hd := hfst
      have HR : Hid (i + 1 + run isD (rest s (i + 1)) = k + run isD (rest s k)) := Lib.hid (by rw [← hrel.out, run_yes isD _ hd, rest_drop]; omega)
      clear hrel hd hfst
      go_wp2_with fail
      refine (HC.out _).mono ?_
      rintro e w' ⟨rfl, rfl⟩
      go_wp2_with fail
      go_round
      case rel => exact ⟨i + 1, by omega, by go_num, HR⟩
      case measure => simp [intOf]; omega
    · have hd : isD s[i] = false := by simpa using hd
      rw [hd] at HC hfst
      have hd := hfst
      have HR : Hid (i = k + run isD (rest s k)) := Lib.hid (by rw [← hrel.out, run_no isD _ hd]; rfl)
      clear hrel hd hfst
      go_wp2_with fail
      refine (HC.out _).mono ?_
      rintro e w' ⟨rfl, rfl⟩
      go_wp2_with fail
      go_ret
      exact ⟨ret_i64 (by have := HR.out; omega), rfl⟩
  · have hd2 : fst isD (rest s i) = false := fst_end _ s i hlt
    have HR : Hid (i = k + run isD (rest s k)) := Lib.hid (by rw [← hrel.out, run_no isD _ hd2]; rfl)
    clear hrel hd2
    go_wp2_with fail
    go_ret
    exact ⟨ret_i64 (by have := HR.out; omega), rfl⟩
set_option maxHeartbeats 1000000 in
theorem pastWord_any (s : ByteArray) (k : Nat) (hk : k ≤ s.size) (hs : s.size ≤ 1000000) (w : World) : Calls Tryz.prog 72 #[.string s, .int .i64 k] w fun e w' => e = .returned (.int .i64 ((k + run isW (rest s k) : Nat) : Int)) ∧ w = w' := by
 go_enter Tryz.func72, Tryz.ntmps72
 go_wp2_with fail
 go_loop [1] (fun u => ∃ i : Nat, i ≤ s.size ∧ u = .int .i64 i ∧ Hid (i + run isW (rest s i) = k + run isW (rest s k))) (fun u => s.size - (intOf u).toNat)
 case atStart => exact ⟨k, hk, rfl, Lib.hid rfl⟩
 case round =>
  obtain ⟨i, hi, rfl, hrel⟩ := hrel
  by_cases hlt : i < s.size
  · have hfst := fst_at isW s i hlt
    have HC := Lib.hid (fun w => isLetter_any s[i] w)
    have HD := Lib.hid (fun w => isDigit_any s[i] w)
    have hw : isW s[i] = (isLt s[i] || isD s[i]) := rfl
    rw [hw] at hfst
    clear hw
    by_cases h1 : isLt s[i] = true
    · rw [h1] at HC hfst
      have hd : fst isW (rest s i) = true := hfst
      clear h1
      have HR : Hid (i + 1 + run isW (rest s (i + 1)) = k + run isW (rest s k)) := Lib.hid (by rw [← hrel.out, run_yes isW _ hd, rest_drop]; omega)
      clear hrel hd hfst
      go_wp2_with fail
      refine (HC.out _).mono ?_
      rintro e w' ⟨rfl, rfl⟩
      go_wp2_with fail
      go_round
      case rel => exact ⟨i + 1, by omega, by go_num, HR⟩
      case measure => simp [intOf]; omega
    · have h1 : isLt s[i] = false := by simpa using h1
      rw [h1] at HC hfst
      by_cases h2 : isD s[i] = true
      · rw [h2] at HD hfst
        have hd : fst isW (rest s i) = true := hfst
        clear h1 h2
        have HR : Hid (i + 1 + run isW (rest s (i + 1)) = k + run isW (rest s k)) := Lib.hid (by rw [← hrel.out, run_yes isW _ hd, rest_drop]; omega)
        clear hrel hd hfst
        go_wp2_with fail
        refine (HC.out _).mono ?_
        rintro e w' ⟨rfl, rfl⟩
        go_wp2_with fail
        refine (HD.out _).mono ?_
        rintro e w' ⟨rfl, rfl⟩
        go_wp2_with fail
        go_round
        case rel => exact ⟨i + 1, by omega, by go_num, HR⟩
        case measure => simp [intOf]; omega
      · have h2 : isD s[i] = false := by simpa using h2
        rw [h2] at HD hfst
        have hd : fst isW (rest s i) = false := hfst
        clear h1 h2
        have HR : Hid (i = k + run isW (rest s k)) := Lib.hid (by rw [← hrel.out, run_no isW _ hd]; rfl)
        clear hrel hd hfst
        go_wp2_with fail
        refine (HC.out _).mono ?_
        rintro e w' ⟨rfl, rfl⟩
        go_wp2_with fail
        refine (HD.out _).mono ?_
        rintro e w' ⟨rfl, rfl⟩
        go_wp2_with fail
        go_ret
        exact ⟨ret_i64 (by have := HR.out; omega), rfl⟩
  · have hd2 : fst isW (rest s i) = false := fst_end _ s i hlt
    have HR : Hid (i = k + run isW (rest s k)) := Lib.hid (by rw [← hrel.out, run_no isW _ hd2]; rfl)
    clear hrel hd2
    go_wp2_with fail
    go_ret
    exact ⟨ret_i64 (by have := HR.out; omega), rfl⟩
set_option maxHeartbeats 1000000 in
theorem pastExponent_any (s : ByteArray) (k : Nat) (hs : s.size ≤ 1000000) (w : World) : Calls Tryz.prog 134 #[.string s, .int .i64 k] w fun e w' => e = .returned (.int .i64 ((k + expL (rest s k) : Nat) : Int)) ∧ w = w' := by
 by_cases hd : fst (is1 101) (rest s k) = true
 · have hlt : k < s.size := st_len ⟨#[101]⟩ s k hd
   have e : expL (rest s k) = if run isD (rest s (k + (1 + signLen (rest s (k + 1))))) = 0 then 0 else 1 + signLen (rest s (k + 1)) + run isD (rest s (k + (1 + signLen (rest s (k + 1))))) := by unfold expL; rw [if_pos hd, rest_drop, rest_drop]
   rw [e]
   have HC := Lib.hid (fun w => stands_yes s ⟨#[101]⟩ k hd w)
   clear e hd
   by_cases hg : fst isS (rest s (k + 1)) = true
   · have hlt2 : k + 1 < s.size := st_len ⟨#[43, 45]⟩ s (k + 1) hg
     have eg : signLen (rest s (k + 1)) = 1 := by unfold signLen; rw [if_pos hg]
     rw [eg]
     have HG : Hid (∀ w, Calls Tryz.prog 133 #[.string s, .int .i64 ((k : Int) + 1), .string ⟨#[43, 45]⟩] w fun e w' => e = .returned (.bool true) ∧ w = w') := Lib.hid (fun w => stands_yes s ⟨#[43, 45]⟩ (k + 1) hg w)
     have HD : Hid (∀ w, Calls Tryz.prog 132 #[.string s, .int .i64 ((k : Int) + 1 + 1)] w fun e w' => e = .returned (.int .i64 ((k + 2 + run isD (rest s (k + 2)) : Nat) : Int)) ∧ w = w') := Lib.hid (fun w => pastDigits_any s (k + 2) hlt2 hs w)
     have ek : k + (1 + 1) = k + 2 := rfl
     rw [ek]
     clear eg hg ek
     generalize run isD (rest s (k + 2)) = m at *
     by_cases hm : m = 0
     · subst hm
       rw [if_pos rfl]
       have heq : decide ((k : Int) + 1 + 1 < ((k + 2 + 0 : Nat) : Int)) = false := by simp only [decide_eq_false_iff_not]; omega
       go_enter Tryz.func134, Tryz.ntmps134
       go_wp2_with fail
       refine (HC.out _).mono ?_
       rintro e w' ⟨rfl, rfl⟩
       go_wp2_with fail
       refine (HG.out _).mono ?_
       rintro e w' ⟨rfl, rfl⟩
       go_wp2_with fail
       refine (HD.out _).mono ?_
       rintro e w' ⟨rfl, rfl⟩
       go_wp2_with fail
       go_ret
       exact ⟨rfl, rfl⟩
     · rw [if_neg hm]
       have hne : decide ((k : Int) + 1 + 1 < ((k + 2 + m : Nat) : Int)) = true := by simp only [decide_eq_true_eq]; omega
       go_enter Tryz.func134, Tryz.ntmps134
       go_wp2_with fail
       refine (HC.out _).mono ?_
       rintro e w' ⟨rfl, rfl⟩
       go_wp2_with fail
       refine (HG.out _).mono ?_
       rintro e w' ⟨rfl, rfl⟩
       go_wp2_with fail
       refine (HD.out _).mono ?_
       rintro e w' ⟨rfl, rfl⟩
       go_wp2_with fail
       go_ret
       exact ⟨ret_i64 (by omega), rfl⟩
   · have hg2 : fst isS (rest s (k + 1)) = false := by simpa using hg
     have eg : signLen (rest s (k + 1)) = 0 := by unfold signLen; rw [if_neg hg]
     rw [eg]
     have HG : Hid (∀ w, Calls Tryz.prog 133 #[.string s, .int .i64 ((k : Int) + 1), .string ⟨#[43, 45]⟩] w fun e w' => e = .returned (.bool false) ∧ w = w') := Lib.hid (fun w => stands_no s ⟨#[43, 45]⟩ (k + 1) hg2 w)
     have HD : Hid (∀ w, Calls Tryz.prog 132 #[.string s, .int .i64 ((k : Int) + 1)] w fun e w' => e = .returned (.int .i64 ((k + 1 + run isD (rest s (k + 1)) : Nat) : Int)) ∧ w = w') := Lib.hid (fun w => pastDigits_any s (k + 1) hlt hs w)
     have ek : k + (1 + 0) = k + 1 := rfl
     rw [ek]
     clear eg hg hg2 ek
     generalize run isD (rest s (k + 1)) = m at *
     by_cases hm : m = 0
     · subst hm
       rw [if_pos rfl]
       have heq : decide ((k : Int) + 1 < ((k + 1 + 0 : Nat) : Int)) = false := by simp only [decide_eq_false_iff_not]; omega
       go_enter Tryz.func134, Tryz.ntmps134
       go_wp2_with fail
       refine (HC.out _).mono ?_
       rintro e w' ⟨rfl, rfl⟩
       go_wp2_with fail
       refine (HG.out _).mono ?_
       rintro e w' ⟨rfl, rfl⟩
       go_wp2_with fail
       refine (HD.out _).mono ?_
       rintro e w' ⟨rfl, rfl⟩
       go_wp2_with fail
       go_ret
       exact ⟨rfl, rfl⟩
     · rw [if_neg hm]
       have hne : decide ((k : Int) + 1 < ((k + 1 + m : Nat) : Int)) = true := by simp only [decide_eq_true_eq]; omega
       go_enter Tryz.func134, Tryz.ntmps134
       go_wp2_with fail
       refine (HC.out _).mono ?_
       rintro e w' ⟨rfl, rfl⟩
       go_wp2_with fail
       refine (HG.out _).mono ?_
       rintro e w' ⟨rfl, rfl⟩
       go_wp2_with fail
       refine (HD.out _).mono ?_
       rintro e w' ⟨rfl, rfl⟩
       go_wp2_with fail
       go_ret
       exact ⟨ret_i64 (by omega), rfl⟩
 · have hd2 : fst (is1 101) (rest s k) = false := by simpa using hd
   have e : expL (rest s k) = 0 := by unfold expL; rw [if_neg hd]
   rw [e]
   have HC := Lib.hid (fun w => stands_no s ⟨#[101]⟩ k hd2 w)
   clear e hd hd2
   go_enter Tryz.func134, Tryz.ntmps134
   go_wp2_with fail
   refine (HC.out _).mono ?_
   rintro e w' ⟨rfl, rfl⟩
   go_wp2_with fail
   go_ret
   exact ⟨rfl, rfl⟩
end Go.Proofs.YtmlclgkhnekmnaaGreatDoor
