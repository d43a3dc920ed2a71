/-
  PLAIN FACTS FOR THE CHAPTER'S EXAMPLES: long texts of one letter, their tokens and values; floats of short texts. No program.
-/
import Derived.Test.YtfjdhnfghdnmoaaGreatDoorLFltK
import Derived.Test.YtfjdhnfghdnmoaaGreatDoorLTold
namespace Go.Proofs.YtfjdhnfghdnmoaaGreatDoor
open Go.RowKit

def okB (l : List UInt8) : Bool := l == [49, 46, 53] || l == [49, 46, 53, 101, 51] || l == [49, 46, 53, 101, 48, 48, 48, 49]
theorem okB_is {l : List UInt8} (h : okB l = true) : OKK l := by
  unfold okB at h
  simp only [Bool.or_eq_true, beq_iff_eq] at h
  rcases h with (h | h) | h
  · exact .inl h
  · exact .inr (.inl h)
  · exact .inr (.inr h)
def fokB (x : List UInt8) : Bool := (List.range x.length).all fun k => (tokK (x.drop k)).1 != 4 || okB ((x.drop k).take (tokK (x.drop k)).2)
theorem fok_is {x : List UInt8} (h : fokB x = true) : floatsOk OKK ⟨x.toArray⟩ := by
  intro k hk h4
  have hk2 : k < x.length := hk
  have := List.all_eq_true.1 h k (List.mem_range.2 hk2)
  have e : rest ⟨x.toArray⟩ k = x.drop k := rfl
  rw [e] at h4 ⊢
  rw [h4] at this
  exact okB_is (by simpa using this)
theorem kind4 (l : List UInt8) (h : (tokK l).1 = 4) : fst isD l = true := by
  unfold tokK at h
  split at h
  · split at h <;> simp at h
  · split at h
    · assumption
    · split at h
      · simp at h
      · split at h <;> simp at h
theorem fst_all {p q : UInt8 → Bool} (hpq : ∀ c, p c = true → q c = false) : ∀ l : List UInt8, (∀ c ∈ l, p c = true) → fst q l = false
  | [], _ => rfl
  | c :: _, h => hpq c (h c List.mem_cons_self)
theorem fok_no {x : List UInt8} {OK : List UInt8 → Prop} (h : ∀ c ∈ x, isD c = false) : floatsOk OK ⟨x.toArray⟩ := by
  intro k _ h4
  have h1 := kind4 _ h4
  have e : rest ⟨x.toArray⟩ k = x.drop k := rfl
  rw [e] at h1
  cases hd : x.drop k with
  | nil => rw [hd] at h1; cases h1
  | cons c l =>
    rw [hd] at h1
    have h2 := h c (List.mem_of_mem_drop (by rw [hd]; exact List.mem_cons_self))
    have h3 : isD c = true := h1
    rw [h2] at h3
    cases h3
/-- A string of a's. -/
def qa (n : Nat) : List UInt8 := 34 :: (List.replicate n 97 ++ [34])
theorem qa_len (n : Nat) : (qa n).length = n + 2 := by unfold qa; simp
theorem qa_mem (n : Nat) : ∀ c ∈ qa n, c = 34 ∨ c = 97 := by
  intro c hc
  unfold qa at hc
  simp only [List.mem_cons, List.mem_append, List.mem_replicate, List.not_mem_nil, or_false] at hc
  rcases hc with rfl | ⟨_, rfl⟩ | rfl
  · exact .inl rfl
  · exact .inr rfl
  · exact .inl rfl
theorem uqB_a : ∀ n : Nat, uqB (List.replicate n 97 ++ [34]) = some (List.replicate n 97, n + 1)
  | 0 => uqB_end _ rfl
  | n + 1 => by
    have e : List.replicate (n + 1) (97 : UInt8) ++ [34] = 97 :: (List.replicate n 97 ++ [34]) := rfl
    rw [e, uqB_step _ rfl 97 1 rfl, List.drop_succ_cons, List.drop_zero, uqB_a n]
    simp only
    rw [Nat.add_comm 1 (n + 1), List.replicate_succ]
theorem uqS_a (n : Nat) : uqS (qa n) = some (List.replicate n 97, n + 2) := by
  have e : fst (is1 34) (qa n) = true := rfl
  unfold uqS
  rw [if_pos e]
  have e2 : (qa n).drop 1 = List.replicate n 97 ++ [34] := rfl
  rw [e2, uqB_a]
  rfl
theorem good_a (n : Nat) : good (qa n) = n + 2 := by
  have h := valid_lows (qa n) (fun c hc => by rcases qa_mem n c hc with rfl | rfl <;> decide)
  rw [valid_good, decide_eq_true_eq, qa_len] at h
  exact h
theorem val_a (n : Nat) : valR (qa n) = if 4096 < n then .error 3 else .ok (List.replicate n 97) := by
  unfold valR
  rw [uqS_a]
  simp only
  rw [good_a, qa_len, if_neg (by omega), List.length_replicate]
theorem tok_a (n : Nat) : tokK (qa n) = (5, n + 2) := by
  have e1 : fst isLt (qa n) = false := rfl
  have e2 : fst isD (qa n) = false := rfl
  have e3 : fst (is1 34) (qa n) = true := rfl
  unfold tokK
  rw [if_neg (by rw [e1]; simp), if_neg (by rw [e2]; simp), if_pos e3]
  unfold strL
  rw [uqS_a]
theorem gap_a (n : Nat) : gap (qa n) = (0, false) := by
  unfold gap qa
  rw [gapB, if_neg (by decide), if_neg (by decide)]
  have e : fst (is1 47) (34 :: (List.replicate n 97 ++ [34])) = false := rfl
  rw [e, Bool.false_and, if_neg (by simp), if_neg (by decide)]
theorem tokens_a (ff : List UInt8 → Nat) (n : Nat) (h1 : 4096 < n) (h2 : n ≤ 60000) : tokensL ff (qa n) = .error (0, 3) := by
  have e : (qa n).take (n + 2) = qa n := List.take_of_length_le (Nat.le_of_eq (qa_len n))
  have e2 : faultF ff 5 (qa n) = 3 := by
    unfold faultF
    rw [if_neg (by decide), if_neg (by decide), if_neg (by decide), if_pos rfl, valF_eq, val_a, if_pos h1]
    rfl
  have e3 : qa n ≠ [] := by intro h; cases h
  unfold tokensL
  rw [qa_len, good_a, if_neg (by omega), if_neg (by omega), lex_gap, gap_a]
  unfold lexT
  simp only [endIf, Nat.add_zero, List.drop_zero]
  rw [tok_a, if_neg e3]
  simp only [e, e2]
  rw [if_neg (by omega), if_pos (by decide)]
theorem tokens_long (ff : List UInt8 → Nat) (l : List UInt8) (h : 65536 < l.length) : tokensL ff l = .error (65536, 3) := by
  unfold tokensL
  rw [if_pos h]
theorem repeatL_one (c : UInt8) : ∀ n, Lib.repeatL [c] n = List.replicate n c
  | 0 => rfl
  | n + 1 => by rw [Lib.repeatL, repeatL_one c n, List.replicate_succ]; rfl
end Go.Proofs.YtfjdhnfghdnmoaaGreatDoor
