/-
  PLAIN FACTS ABOUT TOKENS OF A TEXT OF JSON: the token that a text begins with, all tokens of a text, strings' lengths. No program; no condition but those that each theorem says.
-/
import Derived.Test.YtmkjoonbjmieoaaDoorQStr
namespace Go.Proofs.YtmkjoonbjmieoaaDoor

theorem strPF_len : ∀ (f : Nat) (l x : List UInt8) (n : Nat), strPF f l = some (x, n) → 1 ≤ n ∧ n ≤ l.length ∧ x.length ≤ 4 * n
  | 0, _, _, _, h => by cases h
  | f + 1, l, x, n, h => by
    rw [strPF] at h
    split at h
    · cases h
    · rename_i hl
      have hpos := List.length_pos_iff.2 hl
      split at h
      · simp only [Option.some.injEq, Prod.mk.injEq] at h
        obtain ⟨rfl, rfl⟩ := h
        exact ⟨Nat.le_refl _, hpos, Nat.zero_le _⟩
      · split at h
        · split at h
          · cases h
          · rename_i p k he
            have h1 := escP_le he
            have h4 := encL_len p
            rw [List.length_drop] at h1
            split at h
            · cases h
            · rename_i y m hy
              have ih := strPF_len f _ y m hy
              rw [List.length_drop] at ih
              simp only [Option.some.injEq, Prod.mk.injEq] at h
              obtain ⟨rfl, rfl⟩ := h
              rw [List.length_append]
              omega
        · split at h
          · cases h
          · split at h
            · cases h
            · rename_i y m hy
              have ih := strPF_len f _ y m hy
              have h4 := encL_len (ptR l).toNat
              have hw := wd_le l hl
              have hw1 := wd_pos l
              rw [List.length_drop] at ih
              simp only [Option.some.injEq, Prod.mk.injEq] at h
              obtain ⟨rfl, rfl⟩ := h
              rw [List.length_append]
              omega
theorem tokStr_len {l x : List UInt8} {n : Nat} (h : tokStr l = some (x, n)) : 2 ≤ n ∧ n ≤ l.length ∧ x.length ≤ 4 * n := by
  unfold tokStr at h
  split at h
  · rename_i h1
    have := fst_len _ l h1
    cases he : strP (l.drop 1) with
    | none => rw [he] at h; cases h
    | some y =>
      obtain ⟨y, m⟩ := y
      rw [he] at h
      simp only [Option.map_some, Option.some.injEq, Prod.mk.injEq] at h
      obtain ⟨rfl, rfl⟩ := h
      have ih := strPF_len _ _ _ _ he
      rw [List.length_drop] at ih
      omega
  · cases h
/-- A token's kind, text and bytes. -/
abbrev Tk := Nat × List UInt8 × Nat
/-- The token that a text begins with. -/
def tokP (l : List UInt8) : Option Tk :=
  if markLen l ≠ 0 then some (1, l.take (markLen l), markLen l)
  else if wordLen l ≠ 0 then some (2, l.take (wordLen l), wordLen l)
  else if numLen l ≠ 0 then some (3, l.take (numLen l), numLen l)
  else (tokStr l).map fun x => (4, x.1, x.2)
theorem tokP_len {l x : List UInt8} {q n : Nat} (h : tokP l = some (q, x, n)) : 1 ≤ n ∧ n ≤ l.length ∧ x.length ≤ 4 * n := by
  unfold tokP at h
  have h1 := markLen_le l
  have h2 := wordLen_le l
  have h3 := numLen_le l
  split at h
  · simp only [Option.some.injEq, Prod.mk.injEq] at h
    obtain ⟨rfl, rfl, rfl⟩ := h
    rw [List.length_take]; omega
  · split at h
    · simp only [Option.some.injEq, Prod.mk.injEq] at h
      obtain ⟨rfl, rfl, rfl⟩ := h
      rw [List.length_take]; omega
    · split at h
      · simp only [Option.some.injEq, Prod.mk.injEq] at h
        obtain ⟨rfl, rfl, rfl⟩ := h
        rw [List.length_take]; omega
      · cases hs : tokStr l with
        | none => rw [hs] at h; cases h
        | some y =>
          obtain ⟨y, m⟩ := y
          rw [hs] at h
          simp only [Option.map_some, Option.some.injEq, Prod.mk.injEq] at h
          obtain ⟨rfl, rfl, rfl⟩ := h
          have := tokStr_len hs
          omega
/-- A token with its places. -/
abbrev Tok := Nat × List UInt8 × Nat × Nat
/-- The tokens of what stands from a place on, or the place at which none does. -/
def toksF : Nat → Nat → List UInt8 → Except Nat (List Tok)
  | 0, _, _ => .ok []
  | f + 1, k, l =>
    if l.drop (run isB l) = [] then .ok []
    else match tokP (l.drop (run isB l)) with
      | none => .error (k + run isB l)
      | some (q, x, n) => match toksF f (k + run isB l + n) (l.drop (run isB l + n)) with
        | .ok ts => .ok ((q, x, k + run isB l, k + run isB l + n) :: ts)
        | .error e => .error e
def toks (k : Nat) (l : List UInt8) : Except Nat (List Tok) := toksF (l.length + 1) k l
theorem toksF_eq : ∀ (f g k : Nat) (l : List UInt8), l.length < f → l.length < g → toksF f k l = toksF g k l
  | 0, _, _, _, h, _ => by omega
  | _, 0, _, _, _, h => by omega
  | f + 1, g + 1, k, l, h, j => by
    rw [toksF, toksF]
    by_cases hl : l.drop (run isB l) = []
    · rw [if_pos hl, if_pos hl]
    · rw [if_neg hl, if_neg hl]
      cases ht : tokP (l.drop (run isB l)) with
      | none => rfl
      | some t =>
        obtain ⟨q, x, n⟩ := t
        have := tokP_len ht
        have hpos := List.length_pos_iff.2 hl
        rw [List.length_drop] at this hpos
        simp only
        rw [toksF_eq f g _ _ (by rw [List.length_drop]; omega) (by rw [List.length_drop]; omega)]
theorem run_run (p : UInt8 → Bool) (l : List UInt8) : run p (l.drop (run p l)) = 0 := run_no p _ (fst_run p l)
/-- Blanks ahead make no difference but for places. -/
theorem toks_blanks (k : Nat) (l : List UInt8) : toks k l = toks (k + run isB l) (l.drop (run isB l)) := by
  have hle := run_le isB l
  unfold toks
  rw [toksF_eq ((l.drop (run isB l)).length + 1) (l.length + 1) _ _ (by omega) (by rw [List.length_drop]; omega), toksF, toksF, run_run]
  simp only [Nat.add_zero, Nat.zero_add, List.drop_drop]
theorem toks_end (k : Nat) : toks k [] = .ok [] := rfl
/-- Where no blank stands. -/
theorem toks_cons (k : Nat) (l : List UInt8) (hl : l ≠ []) (hb : fst isB l = false) : toks k l = match tokP l with
      | none => .error k
      | some (q, x, n) => match toks (k + n) (l.drop n) with
        | .ok ts => .ok ((q, x, k, k + n) :: ts)
        | .error e => .error e := by
  have hr := run_no isB l hb
  unfold toks
  rw [toksF, hr, List.drop_zero, if_neg hl]
  cases ht : tokP l with
  | none => rfl
  | some t =>
    obtain ⟨q, x, n⟩ := t
    have := tokP_len ht
    simp only [Nat.add_zero, Nat.zero_add]
    rw [toksF_eq l.length ((l.drop n).length + 1) _ _ (by rw [List.length_drop]; omega) (by omega)]
/-- All tokens, behind those that were taken. -/
def behind (acc : List Tok) : Except Nat (List Tok) → Except Nat (List Tok)
  | .ok ts => .ok (acc ++ ts)
  | .error e => .error e
theorem behind_nil (r : Except Nat (List Tok)) : behind [] r = r := by cases r <;> rfl
theorem behind_step (acc : List Tok) (k : Nat) (l : List UInt8) (hl : l ≠ []) (hb : fst isB l = false) (q : Nat) (x : List UInt8) (n : Nat) (ht : tokP l = some (q, x, n)) : behind acc (toks k l) = behind (acc ++ [(q, x, k, k + n)]) (toks (k + n) (l.drop n)) := by
  rw [toks_cons k l hl hb, ht]
  simp only
  cases toks (k + n) (l.drop n) with
  | ok ts => simp [behind]
  | error e => rfl
theorem behind_bad (acc : List Tok) (k : Nat) (l : List UInt8) (hl : l ≠ []) (hb : fst isB l = false) (ht : tokP l = none) : behind acc (toks k l) = .error k := by
  rw [toks_cons k l hl hb, ht]; rfl
end Go.Proofs.YtmkjoonbjmieoaaDoor
