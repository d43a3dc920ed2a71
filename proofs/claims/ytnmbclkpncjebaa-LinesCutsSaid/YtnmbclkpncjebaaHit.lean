/-
  PLAIN FACTS: the document's way to find a piece (of one to four bytes the number that they may be, held against its bytes) finds the piece. No program; no condition but those that each theorem says.
-/
import Derived.Test.YtnmbclkpncjebaaPlain
namespace Go.Proofs.Ytnmbclkpncjebaa

def lead (a m : Nat) : Nat := if m = 1 then a else if m = 3 then a % 16 else if m = 4 then a % 8 else a % 32
def numTo (l : List UInt8) (m : Nat) : Nat → Nat
  | 0 => lead (nth l 0) m
  | i + 1 => 64 * numTo l m i + nth l (i + 1) % 64
/-- The number that the first m bytes may be. -/
def num (l : List UInt8) (m : Nat) : Nat := numTo l m (m - 1)
def hitB (l : List UInt8) (m : Nat) : Bool := isPt (num l m) && encL (num l m) == l.take m
theorem nth_256 (l : List UInt8) (k : Nat) : nth l k < 256 := UInt8.toNat_lt _
theorem lead_le (a m : Nat) (h : a < 256) : lead a m ≤ 255 := by unfold lead; repeat' split
                                                                 all_goals omega
theorem numTo_le (l : List UInt8) (m i : Nat) (h : i ≤ 3) : numTo l m i ≤ 67108863 ∧ (i ≤ 2 → numTo l m i ≤ 1048575) := by
  have h0 : numTo l m 0 ≤ 255 := lead_le _ m (nth_256 l 0)
  have h1 : numTo l m 1 = 64 * numTo l m 0 + nth l 1 % 64 := rfl
  have h2 : numTo l m 2 = 64 * numTo l m 1 + nth l 2 % 64 := rfl
  have h3 : numTo l m 3 = 64 * numTo l m 2 + nth l 3 % 64 := rfl
  have : i = 0 ∨ i = 1 ∨ i = 2 ∨ i = 3 := by omega
  rcases this with rfl | rfl | rfl | rfl <;> omega
theorem take_nth (l : List UInt8) (m : Nat) (h : m ≤ l.length) : l.take m = ((List.range m).map (nth l)).map UInt8.ofNat := by
  apply List.ext_getElem
  · simp; omega
  · intro i h1 h2
    simp at h1
    simp [nth, List.getElem?_eq_getElem (show i < l.length by omega)]
theorem hit_dec (l : List UInt8) (m : Nat) (hl : m ≤ l.length) (h : hitB l m = true) : dec l = ((num l m : Int), m) := by
  unfold hitB at h
  rw [Bool.and_eq_true, beq_iff_eq] at h
  have e : l = encL (num l m) ++ l.drop m := by rw [h.2, List.take_append_drop]
  have hlen : (encL (num l m)).length = m := by rw [h.2, List.length_take]; omega
  have hd := dec_enc_append (num l m) h.1 (l.drop m)
  rw [← e, hlen] at hd
  exact hd
theorem hit_of_pt (l : List UInt8) (h : l ≠ []) (hp : 0 ≤ pt l) : hitB l (wd l) = true := by
  have hl := wd_le l h
  unfold hitB
  rw [take_nth l _ hl]
  unfold encL num
  revert hp
  unfold pt wd dec
  have ha := nth_256 l 0
  by_cases h1 : nth l 0 < 128
  · have e : decN (nth l 0) (nth l 1) (nth l 2) (nth l 3) = ((nth l 0 : Int), 1) := by unfold decN; rw [if_pos h1]
    rw [e]
    intro _
    have en : numTo l 1 0 = nth l 0 := rfl
    show (isPt ((numTo l 1 0 : Nat) : Int) && List.map UInt8.ofNat (encN (numTo l 1 0)) == List.map UInt8.ofNat [nth l 0]) = true
    rw [en]
    have e2 : encN (nth l 0) = [nth l 0] := by unfold encN; rw [if_pos h1]
    rw [e2]
    have : isPt ((nth l 0 : Nat) : Int) = true := by unfold isPt; rw [decide_eq_true_eq]; omega
    rw [this]
    simp
  · by_cases h2 : nth l 0 / 32 = 6 ∧ nth l 1 / 64 = 2 ∧ 128 ≤ nth l 0 % 32 * 64 + nth l 1 % 64
    · have e : decN (nth l 0) (nth l 1) (nth l 2) (nth l 3) = (((nth l 0 % 32 * 64 + nth l 1 % 64 : Nat) : Int), 2) := by unfold decN; rw [if_neg h1, if_pos h2]
      rw [e]
      intro _
      have en : numTo l 2 1 = 64 * (nth l 0 % 32) + nth l 1 % 64 := rfl
      show (isPt ((numTo l 2 1 : Nat) : Int) && List.map UInt8.ofNat (encN (numTo l 2 1)) == List.map UInt8.ofNat [nth l 0, nth l 1]) = true
      have e2 : encN (numTo l 2 1) = [nth l 0, nth l 1] := by
        unfold encN
        rw [if_neg (by omega), if_pos (by omega)]
        congr 1
        · omega
        · congr 1; omega
      rw [e2]
      have : isPt ((numTo l 2 1 : Nat) : Int) = true := by unfold isPt; rw [decide_eq_true_eq]; omega
      rw [this]
      simp
    · by_cases h3 : nth l 0 / 16 = 14 ∧ nth l 1 / 64 = 2 ∧ nth l 2 / 64 = 2 ∧ 2048 ≤ nth l 0 % 16 * 4096 + nth l 1 % 64 * 64 + nth l 2 % 64 ∧ (nth l 0 % 16 * 4096 + nth l 1 % 64 * 64 + nth l 2 % 64 < 55296 ∨ 57343 < nth l 0 % 16 * 4096 + nth l 1 % 64 * 64 + nth l 2 % 64)
      · have e : decN (nth l 0) (nth l 1) (nth l 2) (nth l 3) = (((nth l 0 % 16 * 4096 + nth l 1 % 64 * 64 + nth l 2 % 64 : Nat) : Int), 3) := by unfold decN; rw [if_neg h1, if_neg h2, if_pos h3]
        rw [e]
        intro _
        have en : numTo l 3 2 = 64 * (64 * (nth l 0 % 16) + nth l 1 % 64) + nth l 2 % 64 := rfl
        show (isPt ((numTo l 3 2 : Nat) : Int) && List.map UInt8.ofNat (encN (numTo l 3 2)) == List.map UInt8.ofNat [nth l 0, nth l 1, nth l 2]) = true
        have e2 : encN (numTo l 3 2) = [nth l 0, nth l 1, nth l 2] := by
          unfold encN
          rw [if_neg (by omega), if_neg (by omega), if_pos (by omega)]
          congr 1
          · omega
          · congr 1
            · omega
            · congr 1; omega
        rw [e2]
        have : isPt ((numTo l 3 2 : Nat) : Int) = true := by unfold isPt; rw [decide_eq_true_eq]; omega
        rw [this]
        simp
      · by_cases h4 : nth l 0 / 8 = 30 ∧ nth l 1 / 64 = 2 ∧ nth l 2 / 64 = 2 ∧ nth l 3 / 64 = 2 ∧ 65536 ≤ nth l 0 % 8 * 262144 + nth l 1 % 64 * 4096 + nth l 2 % 64 * 64 + nth l 3 % 64 ∧ nth l 0 % 8 * 262144 + nth l 1 % 64 * 4096 + nth l 2 % 64 * 64 + nth l 3 % 64 ≤ 1114111
        · have e : decN (nth l 0) (nth l 1) (nth l 2) (nth l 3) = (((nth l 0 % 8 * 262144 + nth l 1 % 64 * 4096 + nth l 2 % 64 * 64 + nth l 3 % 64 : Nat) : Int), 4) := by unfold decN; rw [if_neg h1, if_neg h2, if_neg h3, if_pos h4]
          rw [e]
          intro _
          have en : numTo l 4 3 = 64 * (64 * (64 * (nth l 0 % 8) + nth l 1 % 64) + nth l 2 % 64) + nth l 3 % 64 := rfl
          show (isPt ((numTo l 4 3 : Nat) : Int) && List.map UInt8.ofNat (encN (numTo l 4 3)) == List.map UInt8.ofNat [nth l 0, nth l 1, nth l 2, nth l 3]) = true
          have e2 : encN (numTo l 4 3) = [nth l 0, nth l 1, nth l 2, nth l 3] := by
            unfold encN
            rw [if_neg (by omega), if_neg (by omega), if_neg (by omega)]
            congr 1
            · omega
            · congr 1
              · omega
              · congr 1
                · omega
                · congr 1; omega
          rw [e2]
          have : isPt ((numTo l 4 3 : Nat) : Int) = true := by unfold isPt; rw [decide_eq_true_eq]; omega
          rw [this]
          simp
        · have e : decN (nth l 0) (nth l 1) (nth l 2) (nth l 3) = (-1, 1) := by unfold decN; rw [if_neg h1, if_neg h2, if_neg h3, if_neg h4]
          rw [e]
          intro h
          simp at h
/-- No hit at all: no point. -/
theorem no_hit (l : List UInt8) (h : l ≠ []) (hn : ∀ j, 1 ≤ j → j ≤ 4 → j ≤ l.length → hitB l j = false) : dec l = (-1, 1) := by
  have hp : pt l < 0 := by
    rcases Int.lt_or_le (pt l) 0 with h0 | h0
    · exact h0
    · have h1 := hit_of_pt l h h0
      rw [hn _ (wd_pos l) (wd_le4 l) (wd_le l h)] at h1
      cases h1
  obtain ⟨e1, e2⟩ := pt_neg l hp
  exact Prod.ext e1 e2
end Go.Proofs.Ytnmbclkpncjebaa
