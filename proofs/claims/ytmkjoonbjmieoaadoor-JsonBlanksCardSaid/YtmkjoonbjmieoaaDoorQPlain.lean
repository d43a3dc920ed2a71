/-
  PLAIN FACTS ABOUT THE WORDS OF A TEXT OF JSON: blanks, digits, marks, words, numbers, escapes, strings, tokens, a text as a string. No program; no condition but those that each theorem says.
-/
import Derived.Test.YtmkjoonbjmieoaaDoorQUtf
namespace Go.Proofs.YtmkjoonbjmieoaaDoor

/-- How many bytes at the beginning are of a kind. -/
def run (p : UInt8 → Bool) : List UInt8 → Nat
  | [] => 0
  | c :: l => if p c then run p l + 1 else 0
/-- Is the first byte of a kind? -/
def fst (p : UInt8 → Bool) : List UInt8 → Bool
  | [] => false
  | c :: _ => p c
def isB (c : UInt8) : Bool := [32, 9, 10, 13].contains c
def isD (c : UInt8) : Bool := [48, 49, 50, 51, 52, 53, 54, 55, 56, 57].contains c
def isL (c : UInt8) : Bool := decide (97 ≤ c.toNat) && decide (c.toNat ≤ 122)
def isM (c : UInt8) : Bool := [123, 125, 91, 93, 58, 44].contains c
def isE (c : UInt8) : Bool := [101, 69].contains c
def isS (c : UInt8) : Bool := [43, 45].contains c
def is1 (d c : UInt8) : Bool := [d].contains c
theorem run_le (p : UInt8 → Bool) : ∀ l, run p l ≤ l.length
  | [] => Nat.le_refl _
  | c :: l => by
    have := run_le p l
    rw [run, List.length_cons]
    split <;> omega
theorem run_yes (p : UInt8 → Bool) (l : List UInt8) (h : fst p l = true) : run p l = run p (l.drop 1) + 1 := by
  cases l with
  | nil => simp [fst] at h
  | cons c l => have h' : p c = true := h; rw [run, if_pos h']; rfl
theorem run_no (p : UInt8 → Bool) (l : List UInt8) (h : fst p l = false) : run p l = 0 := by
  cases l with
  | nil => rfl
  | cons c l => have h' : p c = false := h; rw [run, if_neg (by rw [h']; simp)]
theorem fst_run (p : UInt8 → Bool) (l : List UInt8) : fst p (l.drop (run p l)) = false := by
  induction l with
  | nil => rfl
  | cons c l ih =>
    rw [run]
    split
    · exact ih
    · rename_i h
      have h' : p c = false := by simpa using h
      exact h'
theorem fst_len (p : UInt8 → Bool) (l : List UInt8) (h : fst p l = true) : 1 ≤ l.length := by
  cases l with
  | nil => simp [fst] at h
  | cons c l => simp
def wholeLen (l : List UInt8) : Nat := if fst (is1 48) l then 1 else run isD l
def fracLen (l : List UInt8) : Nat := if fst (is1 46) l then (if run isD (l.drop 1) = 0 then 0 else run isD (l.drop 1) + 1) else 0
def signLen (l : List UInt8) : Nat := if fst isS l then 1 else 0
def expLen (l : List UInt8) : Nat := if fst isE l then (if run isD (l.drop (1 + signLen (l.drop 1))) = 0 then 0 else 1 + signLen (l.drop 1) + run isD (l.drop (1 + signLen (l.drop 1)))) else 0
def minLen (l : List UInt8) : Nat := if fst (is1 45) l then 1 else 0
/-- How many bytes a number has that a text begins with; nought: it begins with none. -/
def numLen (l : List UInt8) : Nat :=
  let m := minLen l
  let n := wholeLen (l.drop m)
  if n = 0 then 0 else
    let f := fracLen (l.drop (m + n))
    m + n + f + expLen (l.drop (m + n + f))
def markLen (l : List UInt8) : Nat := if fst isM l then 1 else 0
def isWord (l : List UInt8) : Bool := l == [116, 114, 117, 101] || l == [102, 97, 108, 115, 101] || l == [110, 117, 108, 108]
def wordLen (l : List UInt8) : Nat := if isWord (l.take (run isL l)) then run isL l else 0
theorem wholeLen_le (l : List UInt8) : wholeLen l ≤ l.length := by
  unfold wholeLen
  split
  · exact fst_len _ l ‹_›
  · exact run_le _ l
theorem fracLen_le (l : List UInt8) : fracLen l ≤ l.length := by
  unfold fracLen
  have h1 := run_le isD (l.drop 1)
  rw [List.length_drop] at h1
  split
  · have := fst_len _ l ‹_›
    split <;> omega
  · omega
theorem signLen_le (l : List UInt8) : signLen l ≤ l.length ∧ signLen l ≤ 1 := by
  unfold signLen
  split
  · have := fst_len _ l ‹_›; omega
  · omega
theorem expLen_le (l : List UInt8) : expLen l ≤ l.length := by
  unfold expLen
  have h1 := run_le isD (l.drop (1 + signLen (l.drop 1)))
  have h2 := signLen_le (l.drop 1)
  rw [List.length_drop] at h1 h2
  split
  · have := fst_len _ l ‹_›
    split <;> omega
  · omega
theorem minLen_le (l : List UInt8) : minLen l ≤ l.length ∧ minLen l ≤ 1 := by
  unfold minLen
  split
  · have := fst_len _ l ‹_›; omega
  · omega
theorem numLen_le (l : List UInt8) : numLen l ≤ l.length := by
  unfold numLen
  have h1 := minLen_le l
  have h2 := wholeLen_le (l.drop (minLen l))
  have h3 := fracLen_le (l.drop (minLen l + wholeLen (l.drop (minLen l))))
  have h4 := expLen_le (l.drop (minLen l + wholeLen (l.drop (minLen l)) + fracLen (l.drop (minLen l + wholeLen (l.drop (minLen l))))))
  rw [List.length_drop] at h2 h3 h4
  simp only
  split <;> omega
theorem markLen_le (l : List UInt8) : markLen l ≤ l.length ∧ markLen l ≤ 1 := by
  unfold markLen
  split
  · have := fst_len _ l ‹_›; omega
  · omega
theorem wordLen_le (l : List UInt8) : wordLen l ≤ l.length := by
  unfold wordLen
  have := run_le isL l
  split <;> omega

/-- A hex digit's number. -/
def hexD (c : UInt8) : Option Nat :=
  if 48 ≤ c.toNat ∧ c.toNat ≤ 57 then some (c.toNat - 48)
  else if 97 ≤ c.toNat ∧ c.toNat ≤ 102 then some (c.toNat - 87)
  else if 65 ≤ c.toNat ∧ c.toNat ≤ 70 then some (c.toNat - 55)
  else none
theorem hexD_lt {c : UInt8} {n : Nat} (h : hexD c = some n) : n < 16 ∧ c.toNat < 128 := by
  unfold hexD at h
  split at h
  · simp at h; omega
  · split at h
    · simp at h; omega
    · split at h
      · simp at h; omega
      · simp at h
/-- The number of hex digits, from a number on. -/
def hexN : Nat → List UInt8 → Option Nat
  | n, [] => some n
  | n, c :: l => match hexD c with
    | none => none
    | some d => hexN (16 * n + d) l
def hex4 (l : List UInt8) : Option Nat := if l.length < 4 then none else hexN 0 (l.take 4)
theorem hexN_lt : ∀ (l : List UInt8) (n m : Nat), hexN n l = some m → m < (n + 1) * 16 ^ l.length
  | [], n, m, h => by simp [hexN] at h; simp; omega
  | c :: l, n, m, h => by
    unfold hexN at h
    split at h
    · simp at h
    · rename_i d hd
      have h1 := hexN_lt l _ m h
      have h2 := (hexD_lt hd).1
      rw [List.length_cons, Nat.pow_succ]
      refine Nat.lt_of_lt_of_le h1 ?_
      rw [Nat.mul_comm (16 ^ l.length) 16, ← Nat.mul_assoc]
      exact Nat.mul_le_mul_right _ (by omega)
theorem hex4_lt {l : List UInt8} {m : Nat} (h : hex4 l = some m) : m < 65536 ∧ 4 ≤ l.length := by
  unfold hex4 at h
  split at h
  · simp at h
  · have := hexN_lt _ _ _ h
    have e : (l.take 4).length = 4 := by rw [List.length_take]; omega
    rw [e] at this
    omega
/-- The number of a u and four hex digits. -/
def unitU (l : List UInt8) : Option Nat := if fst (is1 117) l then hex4 (l.drop 1) else none
theorem unitU_lt {l : List UInt8} {m : Nat} (h : unitU l = some m) : m < 65536 ∧ 5 ≤ l.length := by
  unfold unitU at h
  split at h
  · have := hex4_lt h
    rw [List.length_drop] at this
    omega
  · simp at h
/-- What a letter behind a backslash stands for. -/
def short (c : Nat) : Option Nat :=
  if c = 34 then some 34 else if c = 92 then some 92 else if c = 47 then some 47 else if c = 98 then some 8 else if c = 102 then some 12 else if c = 110 then some 10 else if c = 114 then some 13 else if c = 116 then some 9 else none
theorem short_lt {c n : Nat} (h : short c = some n) : n < 128 ∧ c < 128 ∧ c ≠ 117 := by
  unfold short at h
  repeat' split at h
  all_goals first | (simp at h; omega) | simp at h
/-- What stands for what is behind a backslash: the point, and how many bytes; none: it is no escape. -/
def escP (l : List UInt8) : Option (Nat × Nat) :=
  if l = [] then none else
  match short (nth l 0) with
  | some p => some (p, 1)
  | none =>
    match unitU l with
    | none => none
    | some a =>
      if a < 55296 ∨ 57343 < a then some (a, 5)
      else if 56320 ≤ a then none
      else if fst (is1 92) (l.drop 5) then
        match unitU (l.drop 6) with
        | none => none
        | some b => if b < 56320 ∨ 57343 < b then none else some (65536 + (a - 55296) * 1024 + (b - 56320), 11)
      else none
theorem escP_le {l : List UInt8} {p k : Nat} (h : escP l = some (p, k)) : 1 ≤ k ∧ k ≤ l.length ∧ isPt p = true := by
  unfold escP at h
  split at h
  · simp at h
  · rename_i hl
    have hpos := List.length_pos_iff.2 hl
    split at h
    · rename_i q hq
      simp at h
      have := short_lt hq
      refine ⟨by omega, by omega, ?_⟩
      unfold isPt; rw [decide_eq_true_eq]; omega
    · split at h
      · simp at h
      · rename_i a ha
        have h1 := unitU_lt ha
        split at h
        · simp at h
          refine ⟨by omega, by omega, ?_⟩
          unfold isPt; rw [decide_eq_true_eq]; omega
        · split at h
          · simp at h
          · split at h
            · split at h
              · simp at h
              · rename_i b hb
                have h2 := unitU_lt hb
                rw [List.length_drop] at h2
                split at h
                · simp at h
                · simp at h
                  refine ⟨by omega, by omega, ?_⟩
                  unfold isPt; rw [decide_eq_true_eq]; omega
            · simp at h
/-- What a string says, and its bytes, behind its first mark; byte by byte. -/
def strF : Nat → List UInt8 → Option (List UInt8 × Nat)
  | 0, _ => none
  | _ + 1, [] => none
  | f + 1, c :: t =>
    if c.toNat = 34 then some ([], 1)
    else if c.toNat < 32 then none
    else if c.toNat = 92 then
      match escP t with
      | none => none
      | some (p, k) => match strF f (t.drop k) with
        | none => none
        | some (x, n) => some (encL p ++ x, n + k + 1)
    else match strF f t with
      | none => none
      | some (x, n) => some (c :: x, n + 1)
def strB (l : List UInt8) : Option (List UInt8 × Nat) := strF (l.length + 1) l
theorem strF_eq : ∀ (f g : Nat) (l : List UInt8), l.length < f → l.length < g → strF f l = strF g l
  | 0, _, _, h, _ => by omega
  | _, 0, _, _, h => by omega
  | f + 1, g + 1, [], _, _ => rfl
  | f + 1, g + 1, c :: t, h, k => by
    rw [List.length_cons] at h k
    have e1 := strF_eq f g t (by omega) (by omega)
    have e2 : ∀ j, strF f (t.drop j) = strF g (t.drop j) := fun j => strF_eq f g _ (by rw [List.length_drop]; omega) (by rw [List.length_drop]; omega)
    simp only [strF, e1, e2]
theorem strB_nil : strB [] = none := rfl
theorem strB_end (c : UInt8) (t : List UInt8) (h : c.toNat = 34) : strB (c :: t) = some ([], 1) := by
  unfold strB; rw [strF, if_pos h]
theorem strB_low (c : UInt8) (t : List UInt8) (h : c.toNat ≠ 34) (h2 : c.toNat < 32) : strB (c :: t) = none := by
  unfold strB; rw [strF, if_neg h, if_pos h2]
theorem strB_esc (c : UInt8) (t : List UInt8) (h : c.toNat = 92) : strB (c :: t) = match escP t with
      | none => none
      | some (p, k) => match strB (t.drop k) with
        | none => none
        | some (x, n) => some (encL p ++ x, n + k + 1) := by
  unfold strB
  rw [strF, if_neg (by omega), if_neg (by omega), if_pos h]
  cases he : escP t with
  | none => rfl
  | some pk =>
    obtain ⟨p, k⟩ := pk
    simp only
    rw [strF_eq (c :: t).length ((t.drop k).length + 1) _ (by rw [List.length_drop, List.length_cons]; omega) (by omega)]
def plainB (c : UInt8) : Prop := c.toNat ≠ 34 ∧ ¬ c.toNat < 32 ∧ c.toNat ≠ 92
theorem strB_one (c : UInt8) (t : List UInt8) (h : plainB c) : strB (c :: t) = match strB t with
      | none => none
      | some (x, n) => some (c :: x, n + 1) := by
  unfold strB
  rw [strF, if_neg h.1, if_neg h.2.1, if_neg h.2.2]
  rfl
theorem strB_many : ∀ (a t : List UInt8), (∀ c ∈ a, plainB c) → strB (a ++ t) = match strB t with
      | none => none
      | some (x, n) => some (a ++ x, n + a.length)
  | [], t, _ => by cases h : strB t <;> simp [h]
  | c :: a, t, h => by
    have ih := strB_many a t (fun d hd => h d (List.mem_cons_of_mem _ hd))
    rw [List.cons_append, strB_one c _ (h c List.mem_cons_self), ih]
    cases h2 : strB t with
    | none => rfl
    | some xn => obtain ⟨x, n⟩ := xn; simp only [List.cons_append, List.length_cons]; rfl
/-- What a string says, and its bytes, behind its first mark; point by point. -/
def ptR (l : List UInt8) : Int := if pt l < 0 then 65533 else pt l
def strPF : Nat → List UInt8 → Option (List UInt8 × Nat)
  | 0, _ => none
  | f + 1, l =>
    if l = [] then none
    else if nth l 0 = 34 then some ([], 1)
    else if nth l 0 = 92 then
      match escP (l.drop 1) with
      | none => none
      | some (p, k) => match strPF f (l.drop (k + 1)) with
        | none => none
        | some (x, n) => some (encL p ++ x, n + (k + 1))
    else if ptR l < 32 then none
    else match strPF f (l.drop (wd l)) with
      | none => none
      | some (x, n) => some (encL (ptR l).toNat ++ x, n + wd l)
def strP (l : List UInt8) : Option (List UInt8 × Nat) := strPF (l.length + 1) l
theorem strPF_eq : ∀ (f g : Nat) (l : List UInt8), l.length < f → l.length < g → strPF f l = strPF g l
  | 0, _, _, h, _ => by omega
  | _, 0, _, _, h => by omega
  | f + 1, g + 1, l, h, k => by
    by_cases hl : l = []
    · rw [hl]; rfl
    · have h1 := drop_lt l hl
      have hpos := List.length_pos_iff.2 hl
      have e1 := strPF_eq f g (l.drop (wd l)) (by omega) (by omega)
      have e2 : ∀ j, strPF f (l.drop (j + 1)) = strPF g (l.drop (j + 1)) := fun j => strPF_eq f g _ (by rw [List.length_drop]; omega) (by rw [List.length_drop]; omega)
      simp only [strPF, e1, e2]
theorem strP_nil : strP [] = none := rfl
theorem strP_end (l : List UInt8) (h : l ≠ []) (h1 : nth l 0 = 34) : strP l = some ([], 1) := by
  unfold strP; rw [strPF, if_neg h, if_pos h1]
theorem strP_esc (l : List UInt8) (h : l ≠ []) (h1 : nth l 0 = 92) : strP l = match escP (l.drop 1) with
      | none => none
      | some (p, k) => match strP (l.drop (k + 1)) with
        | none => none
        | some (x, n) => some (encL p ++ x, n + (k + 1)) := by
  unfold strP
  have hpos := List.length_pos_iff.2 h
  rw [strPF, if_neg h, if_neg (by omega), if_pos h1]
  cases he : escP (l.drop 1) with
  | none => rfl
  | some pk =>
    obtain ⟨p, k⟩ := pk
    simp only
    rw [strPF_eq l.length ((l.drop (k + 1)).length + 1) _ (by rw [List.length_drop]; omega) (by omega)]
theorem strP_low (l : List UInt8) (h : l ≠ []) (h1 : nth l 0 ≠ 34) (h2 : nth l 0 ≠ 92) (h3 : ptR l < 32) : strP l = none := by
  unfold strP; rw [strPF, if_neg h, if_neg h1, if_neg h2, if_pos h3]
theorem strP_pt (l : List UInt8) (h : l ≠ []) (h1 : nth l 0 ≠ 34) (h2 : nth l 0 ≠ 92) (h3 : ¬ ptR l < 32) : strP l = match strP (l.drop (wd l)) with
      | none => none
      | some (x, n) => some (encL (ptR l).toNat ++ x, n + wd l) := by
  have hd := drop_lt l h
  unfold strP
  rw [strPF, if_neg h, if_neg h1, if_neg h2, if_neg h3, strPF_eq l.length ((l.drop (wd l)).length + 1) _ (by omega) (by omega)]
end Go.Proofs.YtmkjoonbjmieoaaDoor
