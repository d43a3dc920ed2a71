/- jtext's stands, pastBlanks, pastDigits, pastWhole, pastFraction, pastExponent, findMark, findWord, findNumber AT EVERY TEXT of at most 1000000 bytes, from every place of it: what they return; the world is as it was. Condition: the text's length. -/
import Derived.Test.YthaaolajbmafgaaGreatDoorShelf3
import Derived.Test.YthaaolajbmafgaaGreatDoorPlain
import Derived.WalkKit
import Derived.WalkLawsBesides
import Derived.WalkSpells
import Derived.Lib.Hide
import Derived.Outline
import Derived.LoopTactic
import Derived.OwnWalk
import Derived.KernelRfl
namespace Go.Proofs.YthaaolajbmafgaaGreatDoor
open Go.RowKit
def rest (s : ByteArray) (k : Nat) : List UInt8 := s.data.toList.drop k
theorem rest_zero (s : ByteArray) : rest s 0 = s.data.toList := List.drop_zero
theorem rest_len (s : ByteArray) (k : Nat) : (rest s k).length = s.size - k := by unfold rest; rw [List.length_drop]; rfl
theorem rest_ne (s : ByteArray) (k : Nat) (h : k < s.size) : rest s k ≠ [] := by
 intro e
 have := rest_len s k
 rw [e] at this
 simp at this
 omega
theorem rest_end (s : ByteArray) (k : Nat) (h : ¬ k < s.size) : rest s k = [] := by
 apply List.eq_nil_of_length_eq_zero
 rw [rest_len]
 omega
theorem rest_drop (s : ByteArray) (k n : Nat) : (rest s k).drop n = rest s (k + n) := by
 unfold rest; rw [List.drop_drop]
theorem rest_cons (s : ByteArray) (k : Nat) (h : k < s.size) : rest s k = s[k] :: rest s (k + 1) := by
 unfold rest
 rw [List.drop_eq_getElem_cons (by simpa using h)]
 rfl
theorem fst_at (p : UInt8 → Bool) (s : ByteArray) (k : Nat) (h : k < s.size) : fst p (rest s k) = p s[k] := by
 rw [rest_cons s k h]; rfl
theorem fst_end (p : UInt8 → Bool) (s : ByteArray) (k : Nat) (h : ¬ k < s.size) : fst p (rest s k) = false := by
 rw [rest_end s k h]; rfl
theorem ret_i64 {a b : Int} (h : a = b) : Ending.returned (.int .i64 a) = .returned (.int .i64 b) := by rw [h]
theorem ret_bool {a b : Bool} (h : a = b) : Ending.returned (.bool a) = .returned (.bool b) := by rw [h]
theorem index_has (l : List UInt8) (c : UInt8) : decide (0 ≤ Lib.indexByte l c) = l.contains c := by
 induction l with
 | nil => rfl
 | cons b l ih =>
  rw [Lib.indexByte]
  by_cases hb : (b == c) = true
  · have hb2 : (c == b) = true := by simpa using (beq_iff_eq.1 hb).symm
    rw [if_pos hb, List.contains_cons, hb2]; rfl
  · have hb2 : (c == b) = false := by rw [Bool.eq_false_iff]; intro h2; exact hb (by rw [beq_iff_eq] at h2 ⊢; exact h2.symm)
    rw [if_neg hb, List.contains_cons, hb2, Bool.false_or, ← ih]
    have := Lib.indexByte_ge l c
    by_cases hi : Lib.indexByte l c = -1
    · rw [if_pos (by simp [hi]), hi]
    · rw [if_neg (by simpa using hi)]
      rw [decide_eq_decide]; omega
theorem byte_back (c : UInt8) : ((c.toNat : Int)).toNat.toUInt8 = c := by simp
def stB (some : ByteArray) (l : List UInt8) : Bool := fst (fun c => some.data.toList.contains c) l
theorem st_len (some : ByteArray) (s : ByteArray) (k : Nat) (h : stB some (rest s k) = true) : k < s.size := by
 have := fst_len _ _ h
 rw [rest_len] at this
 omega
end Go.Proofs.YthaaolajbmafgaaGreatDoor
