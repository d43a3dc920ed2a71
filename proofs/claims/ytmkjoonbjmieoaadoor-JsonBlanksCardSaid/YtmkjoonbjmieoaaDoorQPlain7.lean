/-
  PLAIN FACTS: the tokens of a text without their places (words); two texts one behind the other (words_join); blanks more between tokens (words_widen). No program; no condition but those that each theorem says.
-/
import Derived.Test.YtmkjoonbjmieoaaDoorQPlain6
namespace Go.Proofs.YtmkjoonbjmieoaaDoor

/-- A token without its places. -/
abbrev Wd := Nat × List UInt8
def strip (t : Tok) : Wd := (t.1, t.2.1)
def wordsOf : Except Nat (List Tok) → Option (List Wd)
  | .ok ts => some (ts.map strip)
  | .error _ => none
/-- The tokens of a text, without their places. -/
def words (l : List UInt8) : Option (List Wd) := wordsOf (toks 0 l)
theorem wordsOf_next (r : Except Nat (List Tok)) (t : Tok) : wordsOf (match r with
        | .ok ts => .ok (t :: ts)
        | .error e => .error e) = (wordsOf r).map (strip t :: ·) := by
  cases r <;> rfl
theorem toks_shift : ∀ (j : Nat) (l : List UInt8) (k k' : Nat), l.length ≤ j → wordsOf (toks k l) = wordsOf (toks k' l)
  | j, l, k, k', hj => by
    rw [toks_blanks k l, toks_blanks k' l]
    have hr := run_le isB l
    have hb := fst_run isB l
    by_cases he : l.drop (run isB l) = []
    · rw [he]; rfl
    · rw [toks_cons _ _ he hb, toks_cons _ _ he hb]
      have hp := List.length_pos_iff.2 he
      rw [List.length_drop] at hp
      cases ht : tokP (l.drop (run isB l)) with
      | none => rfl
      | some y =>
        obtain ⟨q, x, n⟩ := y
        have hn := tokP_len ht
        simp only
        refine (wordsOf_next _ (q, x, k + run isB l, k + run isB l + n)).trans (Eq.trans ?_ (wordsOf_next _ (q, x, k' + run isB l, k' + run isB l + n)).symm)
        cases j with
        | zero => omega
        | succ j => rw [toks_shift j _ (k + run isB l + n) (k' + run isB l + n) (by rw [List.length_drop, List.length_drop]; omega)]; rfl
theorem words_at (k : Nat) (l : List UInt8) : wordsOf (toks k l) = words l := toks_shift _ l k 0 (Nat.le_refl _)
theorem words_nil : words [] = some [] := rfl
theorem words_cons (l : List UInt8) (hl : l ≠ []) (hb : fst isB l = false) : words l = match tokP l with
      | none => none
      | some (q, x, n) => (words (l.drop n)).map ((q, x) :: ·) := by
  unfold words
  rw [toks_cons 0 l hl hb]
  cases ht : tokP l with
  | none => rfl
  | some y =>
    obtain ⟨q, x, n⟩ := y
    simp only
    refine (wordsOf_next _ (q, x, 0, 0 + n)).trans ?_
    rw [words_at]; rfl
theorem run_all (p : UInt8 → Bool) : ∀ (b l : List UInt8), b.all p = true → run p (b ++ l) = b.length + run p l
  | [], l, _ => by simp
  | c :: b, l, h => by
    rw [List.all_cons, Bool.and_eq_true] at h
    rw [List.cons_append, run, if_pos h.1, run_all p b l h.2, List.length_cons]
    omega
theorem words_skip (l : List UInt8) : words l = words (l.drop (run isB l)) := by
  show wordsOf (toks 0 l) = _
  rw [toks_blanks 0 l, words_at]
theorem words_blanks (b l : List UInt8) (h : b.all isB = true) : words (b ++ l) = words l := by
  rw [words_skip (b ++ l), words_skip l, run_all isB b l h, ← List.drop_drop, List.drop_left]
theorem words_all (b : List UInt8) (h : b.all isB = true) : words b = some [] := by
  have := words_blanks b [] h
  rw [List.append_nil] at this
  rw [this]; rfl
theorem valid_lows (m : List UInt8) : ∀ a : List UInt8, (∀ c ∈ a, c.toNat < 128) → valid (a ++ m) = valid m
  | [], _ => rfl
  | c :: a, h => by
    rw [List.cons_append, valid_ascii c _ (h c List.mem_cons_self)]
    exact valid_lows m a (fun d hd => h d (List.mem_cons_of_mem _ hd))
theorem valid_blanks (b m : List UInt8) (h : b.all isB = true) : valid (b ++ m) = valid m :=
  valid_lows m b (fun c hc => lowB c (List.all_eq_true.1 h c hc))
/-- A byte that a token begins with, or a blank, is no point and no e. -/
theorem tokP_calm {l : List UInt8} (h : tokP l ≠ none) : fst (is1 46) l = false ∧ fst isE l = false := by
  cases l with
  | nil => exact ⟨rfl, rfl⟩
  | cons c l =>
    have key : ∀ d : UInt8, (d = 46 ∨ d = 69 ∨ d = 101) → c ≠ d := by
      rintro d hd rfl
      apply h
      have e1 : markLen (c :: l) = 0 := markLen_no (by rcases hd with rfl | rfl | rfl <;> rfl)
      have e3 : numLen (c :: l) = 0 := numLen_no (by rcases hd with rfl | rfl | rfl <;> rfl) (by rcases hd with rfl | rfl | rfl <;> rfl) (by rcases hd with rfl | rfl | rfl <;> rfl)
      have e4 : tokStr (c :: l) = none := by
        unfold tokStr
        rw [if_neg (by rcases hd with rfl | rfl | rfl <;> exact (by decide : ¬ (false = true)))]
      have e2 : wordLen (c :: l) = 0 := by
        by_cases hL : isL c = true
        · unfold wordLen
          rw [if_neg]
          rw [run, if_pos hL, List.take_succ_cons]
          unfold isWord
          rcases hd with rfl | rfl | rfl <;> simp
        · exact wordLen_no (show isL c = false by simpa using hL)
      unfold tokP
      rw [if_neg (by omega), if_neg (by omega), if_neg (by omega), e4]; rfl
    refine ⟨?_, ?_⟩
    · have := key 46 (.inl rfl)
      rw [Bool.eq_false_iff]
      intro hh
      exact this (by simpa [fst, is1] using hh)
    · rw [Bool.eq_false_iff]
      intro hh
      have : c = 101 ∨ c = 69 := by simpa [fst, isE] using hh
      rcases this with e | e
      · exact key 101 (.inr (.inr rfl)) e
      · exact key 69 (.inr (.inl rfl)) e
theorem toks_calm {k : Nat} {l : List UInt8} {ts : List Tok} (h : toks k l = .ok ts) : fst (is1 46) l = false ∧ fst isE l = false := by
  by_cases hl : l = []
  · subst hl; exact ⟨rfl, rfl⟩
  by_cases hb : fst isB l = true
  · have hB : ∀ c, isB c = true → c = 32 ∨ c = 9 ∨ c = 10 ∨ c = 13 := fun c hc => by simpa [isB] using hc
    exact ⟨fst_no (fun c hc => by rcases hB c hc with rfl | rfl | rfl | rfl <;> rfl) hb, fst_no (fun c hc => by rcases hB c hc with rfl | rfl | rfl | rfl <;> rfl) hb⟩
  · rw [toks_cons k l hl (by simpa using hb)] at h
    refine tokP_calm (fun h0 => ?_)
    rw [h0] at h; cases h
theorem words_calm {l : List UInt8} {ws : List Wd} (h : words l = some ws) : fst (is1 46) l = false ∧ fst isE l = false := by
  unfold words at h
  cases hq : toks 0 l with
  | ok ts => exact toks_calm hq
  | error e => rw [hq] at h; cases h
/-- Nothing that could belong to a token ahead. -/
def soft (l : List UInt8) : Prop := fst isL l = false ∧ fst isD l = false ∧ fst (is1 46) l = false ∧ fst isE l = false
theorem soft_sep {l r : List UInt8} (h : soft r) : Sep l r := by
  unfold Sep
  obtain ⟨h1, h2, h3, h4⟩ := h
  rw [h1, h2]
  exact ⟨fun h => (by cases h), fun h => (by cases h), h3, h4⟩
theorem soft_nil : soft [] := ⟨rfl, rfl, rfl, rfl⟩
theorem soft_of (c : UInt8) (l : List UInt8) (h : isB c = true ∨ isM c = true) : soft (c :: l) := by
  rcases h with h | h
  · have hB : c = 32 ∨ c = 9 ∨ c = 10 ∨ c = 13 := by simpa [isB] using h
    rcases hB with rfl | rfl | rfl | rfl <;> exact ⟨rfl, rfl, rfl, rfl⟩
  · have hM : c = 123 ∨ c = 125 ∨ c = 91 ∨ c = 93 ∨ c = 58 ∨ c = 44 := by simpa [isM] using h
    rcases hM with rfl | rfl | rfl | rfl | rfl | rfl <;> exact ⟨rfl, rfl, rfl, rfl⟩
theorem soft_blanks (b l : List UInt8) (h : b.all isB = true) (hl : soft l) : soft (b ++ l) := by
  cases b with
  | nil => exact hl
  | cons c b =>
    rw [List.all_cons, Bool.and_eq_true] at h
    exact soft_of c _ (.inl h.1)
theorem valid_run (l : List UInt8) (hv : valid l = true) : valid (l.drop (run isB l)) = true := by
  have := valid_blanks (l.take (run isB l)) (l.drop (run isB l)) (run_take isB l)
  rw [List.take_append_drop] at this
  rw [← this]; exact hv
/-- ████ Two texts one behind the other. -/
theorem words_join (r : List UInt8) (hr : valid r = true) (hs : soft r) : ∀ (j : Nat) (l : List UInt8) (ws : List Wd), l.length ≤ j → valid l = true → words l = some ws → words (l ++ r) = (words r).map (ws ++ ·)
  | j, l, ws, hj, hv, h => by
    have hrl := run_le isB l
    have hsplit : l ++ r = l.take (run isB l) ++ (l.drop (run isB l) ++ r) := by rw [← List.append_assoc, List.take_append_drop]
    rw [hsplit, words_blanks _ _ (run_take isB l)]
    rw [words_skip l] at h
    have hvd := valid_run l hv
    have hb := fst_run isB l
    by_cases he : l.drop (run isB l) = []
    · rw [he] at h ⊢
      rw [words_nil] at h
      obtain rfl : [] = ws := by injection h
      rw [List.nil_append]
      cases words r <;> rfl
    · have hp := List.length_pos_iff.2 he
      have hdl : (l.drop (run isB l)).length = l.length - run isB l := List.length_drop
      generalize l.drop (run isB l) = m at *
      rw [words_cons m he hb] at h
      cases ht : tokP m with
      | none => rw [ht] at h; cases h
      | some y =>
        obtain ⟨q, x, n⟩ := y
        rw [ht] at h
        simp only at h
        have hn := tokP_len ht
        have hlast := tokP_last ht
        have hvm := valid_drop m n hvd (by omega) hn.2.1 hlast
        cases hw : words (m.drop n) with
        | none => rw [hw] at h; cases h
        | some ws2 =>
          rw [hw] at h
          simp only [Option.map_some, Option.some.injEq] at h
          have hvmr : valid (m.drop n ++ r) = true := by rw [valid_append _ _ hvm]; exact hr
          have hcut : tokP (m ++ r) = some (q, x, n) := by
            have hh := tokP_cut ht hvd (m.drop n ++ r) hvmr (by
              by_cases hz : m.drop n = []
              · rw [hz, List.nil_append]; exact soft_sep hs
              · have hcalm := words_calm hw
                have hf : ∀ p, fst p (m.drop n ++ r) = fst p (m.drop n) := by
                  intro p
                  cases hc : m.drop n with
                  | nil => exact absurd hc hz
                  | cons c t => rfl
                refine ⟨fun h => ?_, fun h => ?_, ?_, ?_⟩
                · rw [hf] at h; exact h
                · rw [hf] at h; exact h
                · rw [hf]; exact hcalm.1
                · rw [hf]; exact hcalm.2)
            rw [← List.append_assoc, List.take_append_drop] at hh
            exact hh
          have hne : m ++ r ≠ [] := by simp [he]
          have hfb : fst isB (m ++ r) = false := by
            cases m with
            | nil => exact absurd rfl he
            | cons c t => exact hb
          rw [words_cons _ hne hfb, hcut]
          simp only
          rw [List.drop_append_of_le_length hn.2.1]
          cases j with
          | zero => omega
          | succ j =>
            rw [words_join r hr hs j (m.drop n) ws2 (by rw [List.length_drop]; omega) hvm hw, ← h]
            cases words r <;> rfl
/-- A text with blanks put in ahead of each token, and behind all. -/
def widen (bs : Nat → List UInt8) : Nat → Nat → List Tok → List UInt8 → List UInt8
  | i, _, [], l => bs i ++ l
  | i, k, t :: ts, l => bs i ++ (l.take (t.2.2.2 - k) ++ widen bs (i + 1) t.2.2.2 ts (l.drop (t.2.2.2 - k)))
theorem blanks_calm (p : UInt8 → Bool) (hp : ∀ c, isB c = true → p c = false) : ∀ l : List UInt8, l.all isB = true → fst p l = false
  | [], _ => rfl
  | c :: l, h => by
    rw [List.all_cons, Bool.and_eq_true] at h
    exact hp c h.1
theorem isB_no (c : UInt8) (h : isB c = true) : isL c = false ∧ isD c = false ∧ is1 46 c = false ∧ isE c = false := by
  have hB : c = 32 ∨ c = 9 ∨ c = 10 ∨ c = 13 := by simpa [isB] using h
  rcases hB with rfl | rfl | rfl | rfl <;> exact ⟨rfl, rfl, rfl, rfl⟩
theorem toks_ok_cons {k : Nat} {l : List UInt8} {t : Tok} {ts : List Tok} (h : toks k l = .ok (t :: ts)) : ∃ q x n, l.drop (run isB l) ≠ [] ∧ tokP (l.drop (run isB l)) = some (q, x, n) ∧ t = (q, x, k + run isB l, k + run isB l + n) ∧ toks (k + run isB l + n) (l.drop (run isB l + n)) = .ok ts := by
  rw [toks_blanks k l] at h
  by_cases he : l.drop (run isB l) = []
  · rw [he, toks_end] at h; cases h
  · rw [toks_cons _ _ he (fst_run isB l)] at h
    cases ht : tokP (l.drop (run isB l)) with
    | none => rw [ht] at h; cases h
    | some y =>
      obtain ⟨q, x, n⟩ := y
      rw [ht] at h
      simp only [List.drop_drop] at h
      cases hq : toks (k + run isB l + n) (l.drop (run isB l + n)) with
      | error e => rw [hq] at h; cases h
      | ok ts2 =>
        rw [hq] at h
        simp only [Except.ok.injEq, List.cons.injEq] at h
        exact ⟨q, x, n, he, rfl, h.1.symm, by rw [hq, h.2]⟩
theorem toks_ok_nil {k : Nat} {l : List UInt8} (h : toks k l = .ok []) : l.all isB = true := by
  rw [toks_blanks k l] at h
  by_cases he : l.drop (run isB l) = []
  · have := run_take isB l
    have e : l.take (run isB l) = l := by
      have h2 := List.take_append_drop (run isB l) l
      rw [he, List.append_nil] at h2
      exact h2
    rw [e] at this
    exact this
  · rw [toks_cons _ _ he (fst_run isB l)] at h
    split at h
    · cases h
    · split at h
      · cases h
      · cases h
/-- ████ Blanks more change nothing but places. -/
theorem words_widen (bs : Nat → List UInt8) (hbs : ∀ i, (bs i).all isB = true) : ∀ (ts : List Tok) (i k : Nat) (l : List UInt8), valid l = true → toks k l = .ok ts →
    words (widen bs i k ts l) = some (ts.map strip) ∧ valid (widen bs i k ts l) = true ∧ ((fst isL (widen bs i k ts l) = true → fst isL l = true) ∧ (fst isD (widen bs i k ts l) = true → fst isD l = true) ∧ fst (is1 46) (widen bs i k ts l) = false ∧ fst isE (widen bs i k ts l) = false)
  | [], i, k, l, hv, h => by
    have ha := toks_ok_nil h
    have hall : (bs i ++ l).all isB = true := by rw [List.all_append, hbs i, ha]; rfl
    refine ⟨words_all _ hall, ?_, ?_⟩
    · show valid (bs i ++ l) = true
      rw [valid_blanks _ _ (hbs i)]; exact hv
    · show Sep l (bs i ++ l)
      exact ⟨fun h => (by rw [blanks_calm isL (fun c hc => (isB_no c hc).1) _ hall] at h; cases h), fun h => (by rw [blanks_calm isD (fun c hc => (isB_no c hc).2.1) _ hall] at h; cases h), blanks_calm _ (fun c hc => (isB_no c hc).2.2.1) _ hall, blanks_calm _ (fun c hc => (isB_no c hc).2.2.2) _ hall⟩
  | t :: ts, i, k, l, hv, h => by
    have hcalm := toks_calm h
    obtain ⟨q, x, n, he, ht, rfl, hts⟩ := toks_ok_cons h
    have hrl := run_le isB l
    have hb := fst_run isB l
    have hvd := valid_run l hv
    have hn := tokP_len ht
    have hlast := tokP_last ht
    have hdl : (l.drop (run isB l)).length = l.length - run isB l := List.length_drop
    have hpos := List.length_pos_iff.2 he
    have e0 : k + run isB l + n - k = run isB l + n := by omega
    obtain ⟨iw, iv, isep⟩ := words_widen bs hbs ts (i + 1) (k + run isB l + n) (l.drop (run isB l + n)) (by
      have := valid_drop _ n hvd (by omega) hn.2.1 hlast
      rw [List.drop_drop] at this; exact this) hts
    have esp : l.take (run isB l + n) = l.take (run isB l) ++ (l.drop (run isB l)).take n := List.take_add
    show words (bs i ++ (l.take (k + run isB l + n - k) ++ widen bs (i + 1) (k + run isB l + n) ts (l.drop (k + run isB l + n - k)))) = _ ∧ valid (bs i ++ (l.take (k + run isB l + n - k) ++ widen bs (i + 1) (k + run isB l + n) ts (l.drop (k + run isB l + n - k)))) = true ∧ Sep l (bs i ++ (l.take (k + run isB l + n - k) ++ widen bs (i + 1) (k + run isB l + n) ts (l.drop (k + run isB l + n - k))))
    rw [e0]
    generalize hW : widen bs (i + 1) (k + run isB l + n) ts (l.drop (run isB l + n)) = W at *
    have hdrop2 : (l.drop (run isB l)).drop n = l.drop (run isB l + n) := List.drop_drop
    have hcut := tokP_cut ht hvd W iv (by rw [hdrop2]; exact isep)
    have hvt := valid_take _ n hvd hn.2.1 (.inr hlast)
    refine ⟨?_, ?_, ?_⟩
    · rw [words_blanks _ _ (hbs i), esp, List.append_assoc, words_blanks _ _ (run_take isB l)]
      have hne : (l.drop (run isB l)).take n ++ W ≠ [] := by
        intro e
        have := congrArg List.length e
        rw [List.length_append, List.length_take, List.length_nil] at this
        omega
      rw [words_cons _ hne (by rw [fst_cut _ _ _ _ (by omega) he]; exact hb), hcut]
      simp only
      have hd : ((l.drop (run isB l)).take n ++ W).drop n = W := by
        rw [List.drop_append_of_le_length (by rw [List.length_take]; omega), List.drop_take, Nat.sub_self, List.take_zero, List.nil_append]
      rw [hd, iw]
      rfl
    · rw [valid_blanks _ _ (hbs i), esp, List.append_assoc, valid_blanks _ _ (run_take isB l), valid_append _ _ hvt]
      exact iv
    · have hl0 : l ≠ [] := by rintro rfl; simp at hpos
      have hf : ∀ p, fst p (l.take (run isB l + n) ++ W) = fst p l := fun p => fst_cut p l W _ (by omega) hl0
      by_cases hbi : bs i = []
      · rw [hbi, List.nil_append]
        refine ⟨fun h => ?_, fun h => ?_, ?_, ?_⟩
        · rw [hf] at h; exact h
        · rw [hf] at h; exact h
        · rw [hf]; exact hcalm.1
        · rw [hf]; exact hcalm.2
      · have hs : soft (bs i ++ (l.take (run isB l + n) ++ W)) := by
          have hbb := hbs i
          cases hc : bs i with
          | nil => exact absurd hc hbi
          | cons c b =>
            rw [hc, List.all_cons, Bool.and_eq_true] at hbb
            exact soft_of c _ (.inl hbb.1)
        exact soft_sep hs
end Go.Proofs.YtmkjoonbjmieoaaDoor
