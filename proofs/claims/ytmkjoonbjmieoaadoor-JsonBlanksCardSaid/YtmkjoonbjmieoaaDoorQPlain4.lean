/-
  PLAIN FACTS: tokens stand in order, each one's places in the text, blanks alone between them. No program; no condition but those that each theorem says.
-/
import Derived.Test.YtmkjoonbjmieoaaDoorQToks
namespace Go.Proofs.YtmkjoonbjmieoaaDoor

/-- Is a text blanks alone? -/
def blankB (l : List UInt8) : Bool := l.all isB
theorem run_take (p : UInt8 → Bool) : ∀ l : List UInt8, (l.take (run p l)).all p = true
  | [] => rfl
  | c :: l => by
    rw [run]
    split
    · rename_i h
      rw [List.take_succ_cons, List.all_cons, h, run_take p l]; rfl
    · rfl
/-- Tokens that stand in a text from a place on, one behind the other, with blanks alone between. -/
def Tiled : Nat → List UInt8 → List Tok → Prop
  | _, l, [] => blankB l = true
  | k, l, (q, x, a, b) :: ts => k ≤ a ∧ a < b ∧ b - k ≤ l.length ∧ blankB (l.take (a - k)) = true ∧ (q = 4 ∨ x = (l.drop (a - k)).take (b - a)) ∧ q ≤ 4 ∧ Tiled b (l.drop (b - k)) ts
theorem tokP_text {l x : List UInt8} {q n : Nat} (h : tokP l = some (q, x, n)) : (q = 4 ∨ x = l.take n) ∧ q ≤ 4 := by
  unfold tokP at h
  split at h
  · simp only [Option.some.injEq, Prod.mk.injEq] at h
    obtain ⟨rfl, rfl, rfl⟩ := h
    exact ⟨.inr rfl, by omega⟩
  · split at h
    · simp only [Option.some.injEq, Prod.mk.injEq] at h
      obtain ⟨rfl, rfl, rfl⟩ := h
      exact ⟨.inr rfl, by omega⟩
    · split at h
      · simp only [Option.some.injEq, Prod.mk.injEq] at h
        obtain ⟨rfl, rfl, rfl⟩ := h
        exact ⟨.inr rfl, by omega⟩
      · cases hs : tokStr l with
        | none => rw [hs] at h; cases h
        | some y =>
          rw [hs] at h
          simp only [Option.map_some, Option.some.injEq, Prod.mk.injEq] at h
          obtain ⟨rfl, rfl, rfl⟩ := h
          exact ⟨.inl rfl, by omega⟩
theorem tiled_toks : ∀ (f k : Nat) (l : List UInt8) (ts : List Tok), l.length < f → toksF f k l = .ok ts → Tiled k l ts
  | 0, _, _, _, h, _ => by omega
  | f + 1, k, l, ts, hl, h => by
    have hrl := run_le isB l
    rw [toksF] at h
    split at h
    · rename_i hd
      obtain rfl : [] = ts := by injection h
      have : run isB l = l.length := by
        have := congrArg List.length hd
        rw [List.length_drop, List.length_nil] at this
        omega
      have ht := run_take isB l
      rw [this, List.take_length] at ht
      exact ht
    · rename_i hd
      split at h
      · cases h
      · rename_i q x n ht
        have hn := tokP_len ht
        have htx := tokP_text ht
        rw [List.length_drop] at hn
        split at h
        · rename_i ts2 h2
          obtain rfl : _ = ts := by injection h
          have ih := tiled_toks f _ _ ts2 (by rw [List.length_drop]; omega) h2
          refine ⟨by omega, by omega, by omega, ?_, ?_, htx.2, ?_⟩
          · rw [show k + run isB l - k = run isB l by omega]; exact run_take isB l
          · rw [show k + run isB l - k = run isB l by omega, show k + run isB l + n - (k + run isB l) = n by omega]; exact htx.1
          · rw [show k + run isB l + n - k = run isB l + n by omega]; exact ih
        · cases h
theorem tiled_len : ∀ (ts : List Tok) (k : Nat) (l : List UInt8), Tiled k l ts → ts.length ≤ l.length
  | [], _, _, _ => Nat.zero_le _
  | (q, x, a, b) :: ts, k, l, h => by
    obtain ⟨h1, h2, h3, _, _, _, h7⟩ := h
    have := tiled_len ts _ _ h7
    rw [List.length_drop] at this
    rw [List.length_cons]
    omega
theorem toksF_err : ∀ (f k : Nat) (l : List UInt8) (e : Nat), l.length < f → toksF f k l = .error e → e < k + l.length
  | 0, _, _, _, h, _ => by omega
  | f + 1, k, l, e, hl, h => by
    rw [toksF] at h
    split at h
    · cases h
    · rename_i hd
      have hpos := List.length_pos_iff.2 hd
      rw [List.length_drop] at hpos
      split at h
      · obtain rfl : _ = e := by injection h
        omega
      · rename_i q x n ht
        have hn := tokP_len ht
        rw [List.length_drop] at hn
        split at h
        · cases h
        · rename_i e2 h2
          obtain rfl : _ = e := by injection h
          have := toksF_err f _ _ _ (by rw [List.length_drop]; omega) h2
          rw [List.length_drop] at this
          omega
theorem tokensR_err {l : List UInt8} {k e : Nat} (h : tokensR l = .error (k, e)) : k < l.length ∧ (e = 8 ∨ e = 4) := by
  unfold tokensR at h
  split at h
  · simp only [Except.error.injEq, Prod.mk.injEq] at h
    obtain ⟨rfl, rfl⟩ := h
    exact ⟨by assumption, .inl rfl⟩
  · cases ht : toks 0 l with
    | ok ts => rw [ht] at h; cases h
    | error e2 =>
      rw [ht] at h
      simp only [tokE, Except.error.injEq, Prod.mk.injEq] at h
      obtain ⟨rfl, rfl⟩ := h
      have := toksF_err _ _ _ _ (by omega) ht
      exact ⟨by omega, .inr rfl⟩
theorem tokensR_ok {l : List UInt8} {ts : List Tok} (h : tokensR l = .ok ts) : toks 0 l = .ok ts ∧ good l = l.length := by
  have hg := good_le l
  unfold tokensR at h
  split at h
  · cases h
  · cases ht : toks 0 l with
    | ok ts2 => rw [ht] at h; injection h with h; subst h; exact ⟨rfl, by omega⟩
    | error e2 => rw [ht] at h; cases h
theorem tokensR_tiled {l : List UInt8} {ts : List Tok} (h : tokensR l = .ok ts) : Tiled 0 l ts := tiled_toks _ _ _ _ (by omega) (tokensR_ok h).1
end Go.Proofs.YtmkjoonbjmieoaaDoor
