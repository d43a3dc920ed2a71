/-
  PLAIN FACTS ABOUT URIS: which texts are names, which words are reserved, where a directory ends. No program; no condition but those that each theorem says.
-/
import Derived.WalkKit
namespace Go.Proofs.YtpphkkelikdhkaaDoor

def letB (n : Nat) : Bool := n == 95 || (decide (97 ≤ n) && decide (n ≤ 122)) || (decide (65 ≤ n) && decide (n ≤ 90))
def digB (n : Nat) : Bool := decide (48 ≤ n) && decide (n ≤ 57)
/-- May a byte stand at a place of a name? -/
def okAt (i : Nat) (b : UInt8) : Bool := letB b.toNat || (!(i == 0) && digB b.toNat)
def okF : Nat → List UInt8 → Bool
  | _, [] => true
  | i, b :: r => okAt i b && okF (i + 1) r
def nameB (l : List UInt8) : Bool := !l.isEmpty && decide (l.length ≤ 40) && !(l == [95]) && okF 0 l
/-- The reserved words. -/
def wordsL : List (List UInt8) := ["bool", "break", "continue", "else", "false", "float64", "for", "func", "if", "import", "int", "len", "package", "panic", "print", "return", "string", "struct", "true", "type", "var"].map fun s => s.toByteArray.data.toList
def resB (l : List UInt8) : Bool := wordsL.contains l
/-- Is a text's place one at which a directory may end? -/
def goodAt (m : List UInt8) (i : Nat) : Bool := decide (m[i]? = some 47) && nameB (m.take i) && !resB (m.take i) && nameB (m.drop (i + 1))
/-- The directory of what stands between head and tail. -/
def dirM (m : List UInt8) : Option (List UInt8) := if goodAt m (m.idxOf 47) then some (m.take (m.idxOf 47)) else none
def headL : List UInt8 := [102, 105, 108, 101, 58, 47, 47, 47]
def tailL : List UInt8 := [46, 103, 111]
def middle (l : List UInt8) : List UInt8 := (l.drop 8).take (l.length - 11)
/-- The directory of a URI. -/
def dirL (l : List UInt8) : Option (List UInt8) := if headL.isPrefixOf l && tailL.isSuffixOf (l.drop 8) then dirM (middle l) else none

theorem okF_mem : ∀ (l : List UInt8) (i : Nat), okF i l = true → ∀ b ∈ l, letB b.toNat = true ∨ digB b.toNat = true
  | [], _, _, b, hb => by simp at hb
  | c :: r, i, h, b, hb => by
    unfold okF at h
    rw [Bool.and_eq_true] at h
    rcases List.mem_cons.1 hb with rfl | hb
    · have := h.1
      unfold okAt at this
      rw [Bool.or_eq_true, Bool.and_eq_true] at this
      rcases this with h | h
      · exact .inl h
      · exact .inr h.2
    · exact okF_mem r _ h.2 b hb
theorem nameB_slash {l : List UInt8} (h : nameB l = true) : (47 : UInt8) ∉ l := by
  intro hm
  unfold nameB at h
  rw [Bool.and_eq_true] at h
  rcases okF_mem l 0 h.2 47 hm with h | h <;> revert h <;> decide
theorem good_first {m : List UInt8} {i : Nat} (h : goodAt m i = true) : m.idxOf 47 = i := by
  unfold goodAt at h
  rw [Bool.and_eq_true, Bool.and_eq_true, Bool.and_eq_true, decide_eq_true_eq] at h
  obtain ⟨⟨⟨h1, h2⟩, _⟩, _⟩ := h
  obtain ⟨hi, h1⟩ := List.getElem?_eq_some_iff.1 h1
  have e : m = m.take i ++ (47 :: m.drop (i + 1)) := by
    rw [← h1, List.getElem_cons_drop, List.take_append_drop]
  rw [e, List.idxOf_append, if_neg (nameB_slash h2), List.idxOf_cons_self, List.length_take]
  omega
theorem dirM_good {m : List UInt8} {i : Nat} (h : goodAt m i = true) : dirM m = some (m.take i) := by
  unfold dirM
  rw [good_first h, if_pos h]
theorem dirM_none {m : List UInt8} (h : ∀ i, i < m.length → goodAt m i = false) : dirM m = none := by
  unfold dirM
  by_cases hi : m.idxOf 47 < m.length
  · rw [h _ hi]; rfl
  · have : goodAt m (m.idxOf 47) = false := by
      unfold goodAt
      rw [List.getElem?_eq_none (by omega)]
      rfl
    rw [this]; rfl
theorem okF_step (l : List UInt8) (i : Nat) (b : UInt8) (h : l[i]? = some b) : okF i (l.drop i) = (okAt i b && okF (i + 1) (l.drop (i + 1))) := by
  obtain ⟨hi, rfl⟩ := List.getElem?_eq_some_iff.1 h
  rw [List.drop_eq_getElem_cons hi]
  rfl
theorem okF_end (l : List UInt8) (i : Nat) (h : l.length ≤ i) : okF i (l.drop i) = true := by
  rw [List.drop_eq_nil_of_le h]
  rfl
/-- What Dir returns. -/
def dirS (l : List UInt8) : ByteArray := match dirL l with
  | some d => ⟨d.toArray⟩
  | none => ⟨#[]⟩
def dirB (l : List UInt8) : Bool := (dirL l).isSome
theorem dir_some {l d : List UInt8} (h : dirL l = some d) : dirS l = ⟨d.toArray⟩ ∧ dirB l = true := by
  unfold dirS dirB
  rw [h]
  exact ⟨rfl, rfl⟩
theorem dir_none {l : List UInt8} (h : dirL l = none) : dirS l = ⟨#[]⟩ ∧ dirB l = false := by
  unfold dirS dirB
  rw [h]
  exact ⟨rfl, rfl⟩
theorem prefix_take (l : List UInt8) : headL.isPrefixOf l = (l.take 8 == headL) := by
  rw [Bool.eq_iff_iff, List.isPrefixOf_iff_prefix, beq_iff_eq, List.prefix_iff_eq_take]
  exact eq_comm
theorem suffix_drop (l : List UInt8) (h : 11 ≤ l.length) : tailL.isSuffixOf (l.drop 8) = (l.drop (l.length - 3) == tailL) := by
  rw [Bool.eq_iff_iff, List.isSuffixOf_iff_suffix, beq_iff_eq, List.suffix_iff_eq_drop, List.drop_drop, List.length_drop, show 8 + (l.length - 8 - tailL.length) = l.length - 3 by simp [tailL]; omega]
  exact eq_comm
theorem dirL_short {l : List UInt8} (h : l.length < 11) : dirL l = none := by
  unfold dirL
  rw [if_neg]
  intro hc
  rw [Bool.and_eq_true, List.isPrefixOf_iff_prefix, List.isSuffixOf_iff_suffix] at hc
  have h1 := hc.1.length_le
  have h2 := hc.2.length_le
  rw [List.length_drop] at h2
  simp [headL, tailL] at h1 h2
  omega
theorem dirL_head {l : List UInt8} (h : (l.take 8 == headL) = false) : dirL l = none := by
  unfold dirL
  rw [prefix_take, h]
  rfl
theorem dirL_tail {l : List UInt8} (hl : 11 ≤ l.length) (h : (l.drop (l.length - 3) == tailL) = false) : dirL l = none := by
  unfold dirL
  rw [suffix_drop l hl, h, Bool.and_false]
  rfl
theorem dirL_mid {l : List UInt8} (hl : 11 ≤ l.length) (h1 : (l.take 8 == headL) = true) (h2 : (l.drop (l.length - 3) == tailL) = true) : dirL l = dirM (middle l) := by
  unfold dirL
  rw [suffix_drop l hl, prefix_take, h1, h2]
  rfl
end Go.Proofs.YtpphkkelikdhkaaDoor
