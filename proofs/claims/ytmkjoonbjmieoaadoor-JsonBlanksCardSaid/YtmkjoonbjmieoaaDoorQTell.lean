/-
  A VALUE'S TEXT, plainly: its words (tkJ), that it is read as the value (parse_text), that what a text says may be (parse_may). No program; no condition but those that each theorem says.
-/
import Derived.Test.YtmkjoonbjmieoaaDoorQBuild
import Derived.Test.YtmkjoonbjmieoaaDoorQPlain7
namespace Go.Proofs.YtmkjoonbjmieoaaDoor
open Go.RowKit

/-- Words of a value's text. -/
def cm (first : Bool) : List Wd := if first then [] else [(1, [44])]
mutual
def tkJ : J → List Wd
  | .mk k s ks l =>
    if k = 0 then [(2, [110, 117, 108, 108])]
    else if k = 1 then [(2, [102, 97, 108, 115, 101])]
    else if k = 2 then [(2, [116, 114, 117, 101])]
    else if k = 3 then [(3, s)]
    else if k = 4 then [(4, s)]
    else if k = 5 then (1, [91]) :: (tkL true l ++ [(1, [93])])
    else (1, [123]) :: (tkK true ks l ++ [(1, [125])])
def tkL : Bool → List J → List Wd
  | _, [] => []
  | first, j :: l => cm first ++ tkJ j ++ tkL false l
def tkK : Bool → List (List UInt8) → List J → List Wd
  | first, key :: ks, j :: l => cm first ++ (4, key) :: (1, [58]) :: (tkJ j ++ tkK false ks l)
  | _, _, [] => []
  | _, [], _ :: _ => []
end
/-- A text that is these words, whatever stands behind it (but what could belong to its last one). -/
def Tx (t : List UInt8) (ws : List Wd) : Prop := valid t = true ∧ ∀ r, valid r = true → soft r → words (t ++ r) = (words r).map (ws ++ ·)
theorem map_nil (o : Option (List Wd)) : o.map (([] : List Wd) ++ ·) = o := by cases o <;> simp
theorem tx_nil : Tx [] [] := ⟨valid_nil, fun r _ _ => by rw [map_nil]; rfl⟩
theorem map_app (o : Option (List Wd)) (a b : List Wd) : (o.map (b ++ ·)).map (a ++ ·) = o.map ((a ++ b) ++ ·) := by cases o <;> simp
theorem tx_app {a b : List UInt8} {wa wb : List Wd} (ha : Tx a wa) (hb : Tx b wb) (hs : ∀ r, soft r → soft (b ++ r)) : Tx (a ++ b) (wa ++ wb) := by
  refine ⟨by rw [valid_append _ _ ha.1]; exact hb.1, fun r hv hr => ?_⟩
  rw [List.append_assoc, ha.2 (b ++ r) (by rw [valid_append _ _ hb.1]; exact hv) (hs r hr), hb.2 r hv hr, map_app]
theorem tx_words {t : List UInt8} {ws : List Wd} (hv : valid t = true) (h : words t = some ws) : Tx t ws :=
  ⟨hv, fun r hr hs => words_join r hr hs _ t ws (Nat.le_refl _) hv h⟩
theorem isM_low (c : UInt8) (h : isM c = true) : c.toNat < 128 := lowM c h
theorem words_mark (c : UInt8) (h : isM c = true) (r : List UInt8) : words (c :: r) = (words r).map ((1, [c]) :: ·) := by
  have hb : fst isB (c :: r) = false := by
    have hM : c = 123 ∨ c = 125 ∨ c = 91 ∨ c = 93 ∨ c = 58 ∨ c = 44 := by simpa [isM] using h
    rcases hM with rfl | rfl | rfl | rfl | rfl | rfl <;> rfl
  rw [words_cons _ (by simp) hb]
  have ht : tokP (c :: r) = some (1, [c], 1) := by
    unfold tokP markLen
    have hf : fst isM (c :: r) = true := h
    rw [hf]
    rfl
  rw [ht]
  rfl
theorem tx_mark {c : UInt8} (h : isM c = true) {t : List UInt8} {ws : List Wd} (ht : Tx t ws) : Tx (c :: t) ((1, [c]) :: ws) := by
  refine ⟨by rw [valid_ascii _ _ (lowM c h)]; exact ht.1, fun r hv hr => ?_⟩
  rw [List.cons_append, words_mark c h, ht.2 r hv hr]
  cases words r <;> rfl
theorem soft_mark {c : UInt8} (h : isM c = true) (l : List UInt8) : soft (c :: l) := soft_of c l (.inr h)
theorem words_quote (l : List UInt8) (h : valid l = true) : words (quoteL l) = some [(4, l)] := by
  have := (tokensR_ok (toks_quote l h)).1
  unfold words
  rw [this]; rfl
theorem tx_quote (l : List UInt8) (h : valid l = true) : Tx (quoteL l) [(4, l)] := tx_words (valid_quote l h) (words_quote l h)
theorem tokensR_va {l : List UInt8} {ts : List Tok} (h : tokensR l = .ok ts) : valid l = true := by
  rw [valid_good, decide_eq_true_eq]; exact (tokensR_ok h).2
theorem num_words {s : List UInt8} (h : isNumL s = true) : valid s = true ∧ words s = some [(3, s)] := by
  unfold isNumL at h
  cases hT : tokensR s with
  | error e => rw [hT] at h; cases h
  | ok ts =>
    rw [hT] at h
    refine ⟨tokensR_va hT, ?_⟩
    unfold isNumT at h
    simp only at h
    split at h
    · rename_i t
      rw [Bool.and_eq_true, beq_iff_eq, beq_iff_eq, txt_list] at h
      unfold words
      rw [(tokensR_ok hT).1]
      show some [(t.1, t.2.1)] = _
      rw [h.2]
      congr 3
      omega
    · cases h
theorem tx_num {s : List UInt8} (h : isNumL s = true) : Tx s [(3, s)] := tx_words (num_words h).1 (num_words h).2
theorem tx_null : Tx [110, 117, 108, 108] [(2, [110, 117, 108, 108])] := tx_words (by decide) (by decide)
theorem tx_false : Tx [102, 97, 108, 115, 101] [(2, [102, 97, 108, 115, 101])] := tx_words (by decide) (by decide)
theorem tx_true : Tx [116, 114, 117, 101] [(2, [116, 114, 117, 101])] := tx_words (by decide) (by decide)
/-- What the kind of a value that may be asks of its parts. -/
theorem formed_of {k : Int} {s : List UInt8} {nk ni : Nat} (h : formedB k (txt s) nk ni = true) :
    ((k = 0 ∨ k = 1 ∨ k = 2) ∧ s = [] ∧ nk = 0 ∧ ni = 0) ∨ (k = 3 ∧ isNumL s = true ∧ nk = 0 ∧ ni = 0) ∨ (k = 4 ∧ nk = 0 ∧ ni = 0) ∨ (k = 5 ∧ s = [] ∧ nk = 0) ∨ (k = 6 ∧ s = [] ∧ nk = ni) := by
  have hd : (txt s).data.toList = s := by unfold txt; simp
  unfold formedB at h
  rw [txt_list, hd] at h
  split at h
  · rename_i hk
    simp only [Bool.and_eq_true, List.isEmpty_iff, beq_iff_eq] at h
    exact .inl ⟨hk, h.1, by omega, by omega⟩
  · split at h
    · rename_i hk
      simp only [Bool.and_eq_true, beq_iff_eq] at h
      exact .inr (.inl ⟨hk, h.1, by omega, by omega⟩)
    · split at h
      · rename_i hk
        simp only [Bool.and_eq_true, beq_iff_eq] at h
        exact .inr (.inr (.inl ⟨hk, by omega, by omega⟩))
      · split at h
        · rename_i hk
          simp only [Bool.and_eq_true, List.isEmpty_iff, beq_iff_eq] at h
          exact .inr (.inr (.inr (.inl ⟨hk, h.1, by omega⟩)))
        · split at h
          · rename_i hk
            simp only [Bool.and_eq_true, List.isEmpty_iff, beq_iff_eq] at h
            exact .inr (.inr (.inr (.inr ⟨hk, h.1, by omega⟩)))
          · cases h
/-- What a value without a fault is, kind by kind. -/
theorem fault_of {k : Int} {s : List UInt8} {ks : List (List UInt8)} {l : List J} (h : faultJ (.mk k s ks l) = 0) :
    ((k = 0 ∨ k = 1 ∨ k = 2) ∧ s = [] ∧ ks = [] ∧ l = []) ∨ (k = 3 ∧ isNumL s = true ∧ ks = [] ∧ l = []) ∨ (k = 4 ∧ valid s = true ∧ ks = [] ∧ l = []) ∨ (k = 5 ∧ s = [] ∧ ks = [] ∧ faultL l = 0) ∨ (k = 6 ∧ s = [] ∧ ks.length = l.length ∧ faultK [] ks l = 0) := by
  rw [faultJ] at h
  split at h
  · cases h
  · rename_i hf
    have hf2 : formedB k (txt s) ks.length l.length = true := by simpa using hf
    split at h
    · cases h
    · rename_i hv
      rcases formed_of hf2 with ⟨hk, h1, h2, h3⟩ | ⟨hk, h1, h2, h3⟩ | ⟨hk, h2, h3⟩ | ⟨hk, h1, h2⟩ | ⟨hk, h1, h2⟩
      · exact .inl ⟨hk, h1, List.eq_nil_of_length_eq_zero h2, List.eq_nil_of_length_eq_zero h3⟩
      · exact .inr (.inl ⟨hk, h1, List.eq_nil_of_length_eq_zero h2, List.eq_nil_of_length_eq_zero h3⟩)
      · refine .inr (.inr (.inl ⟨hk, ?_, List.eq_nil_of_length_eq_zero h2, List.eq_nil_of_length_eq_zero h3⟩))
        cases hvs : valid s with
        | true => rfl
        | false => exact absurd ⟨hk, hvs⟩ hv
      · subst hk
        rw [if_neg (by omega)] at h
        exact .inr (.inr (.inr (.inl ⟨rfl, h1, List.eq_nil_of_length_eq_zero h2, h⟩)))
      · subst hk
        rw [if_pos rfl] at h
        exact .inr (.inr (.inr (.inr ⟨rfl, h1, h2, h⟩)))
theorem faultL_cons {j : J} {l : List J} (h : faultL (j :: l) = 0) : faultJ j = 0 ∧ faultL l = 0 := by
  rw [faultL] at h
  split at h
  · rename_i h0; exact ⟨h0, h⟩
  · rename_i h0; exact absurd h h0
theorem faultK_cons {met : List (List UInt8)} {key : List UInt8} {ks : List (List UInt8)} {j : J} {l : List J} (h : faultK met (key :: ks) (j :: l) = 0) : valid key = true ∧ met.contains key = false ∧ faultJ j = 0 ∧ faultK (key :: met) ks l = 0 := by
  rw [faultK] at h
  split at h
  · cases h
  · rename_i h0
    split at h
    · cases h
    · rename_i h1
      split at h
      · rename_i h2; exact ⟨by simpa using h0, by simpa using h1, h2, h⟩
      · rename_i h2; exact absurd h h2
theorem tx_cm (first : Bool) {t : List UInt8} {ws : List Wd} (ht : Tx t ws) : Tx ((if first then [] else [44]) ++ t) (cm first ++ ws) := by
  cases first
  · exact tx_mark rfl ht
  · exact ht
theorem soft_L : ∀ (l : List J) (r : List UInt8), soft r → soft (textL false l ++ r)
  | [], r, h => by rw [textL]; exact h
  | j :: l, r, h => by rw [textL]; exact soft_mark rfl _
theorem soft_K : ∀ (ks : List (List UInt8)) (l : List J) (r : List UInt8), soft r → soft (textK false ks l ++ r)
  | _, [], r, h => by rw [textK]; exact h
  | [], _ :: _, r, h => by rw [textK]; exact h
  | key :: ks, j :: l, r, h => by rw [textK]; exact soft_mark rfl _
mutual
theorem tx_J : ∀ (j : J), faultJ j = 0 → Tx (textJ j) (tkJ j)
  | .mk k s ks l, h => by
    rw [textJ, tkJ]
    rcases fault_of h with ⟨hk, _⟩ | ⟨rfl, hn, _⟩ | ⟨rfl, hv, _⟩ | ⟨rfl, _, _, hl⟩ | ⟨rfl, _, hlen, hl⟩
    · rcases hk with rfl | rfl | rfl
      · exact tx_null
      · exact tx_false
      · exact tx_true
    · exact tx_num hn
    · exact tx_quote s hv
    · exact tx_mark rfl (tx_app (tx_L true l hl) (tx_mark rfl tx_nil) (fun r _ => soft_mark rfl _))
    · exact tx_mark rfl (tx_app (tx_K true [] ks l hlen hl) (tx_mark rfl tx_nil) (fun r _ => soft_mark rfl _))
theorem tx_L : ∀ (first : Bool) (l : List J), faultL l = 0 → Tx (textL first l) (tkL first l)
  | first, [], _ => by rw [textL, tkL]; exact tx_nil
  | first, j :: l, h => by
    have h2 := faultL_cons h
    rw [textL, tkL, List.append_assoc, List.append_assoc]
    exact tx_cm first (tx_app (tx_J j h2.1) (tx_L false l h2.2) (soft_L l))
theorem tx_K : ∀ (first : Bool) (met ks : List (List UInt8)) (l : List J), ks.length = l.length → faultK met ks l = 0 → Tx (textK first ks l) (tkK first ks l)
  | first, met, [], [], _, _ => by rw [textK, tkK]; exact tx_nil
  | first, met, _ :: _, [], hlen, _ => by simp at hlen
  | first, met, [], _ :: _, hlen, _ => by simp at hlen
  | first, met, key :: ks, j :: l, hlen, h => by
    have h2 := faultK_cons h
    rw [textK, tkK, List.append_assoc, List.append_assoc]
    refine tx_cm first ?_
    have := tx_app (tx_quote key h2.1) (tx_mark (c := 58) rfl (tx_app (tx_J j h2.2.2.1) (tx_K false (key :: met) ks l (by simpa using hlen) h2.2.2.2) (soft_K ks l))) (fun r _ => soft_mark rfl _)
    simpa using this
end
/-- ████ The words of a value's text. -/
theorem words_J (j : J) (h : faultJ j = 0) : valid (textJ j) = true ∧ words (textJ j) = some (tkJ j) := by
  have hT := tx_J j h
  have := hT.2 [] valid_nil soft_nil
  rw [List.append_nil, words_nil] at this
  exact ⟨hT.1, by rw [this]; simp⟩

/-- How a row of tokens reads without places. -/
def SW (A : List Tok) (ws : List Wd) : Prop := A.map strip = ws
theorem sw_app {A : List Tok} {a b : List Wd} (h : SW A (a ++ b)) : ∃ X Y, A = X ++ Y ∧ SW X a ∧ SW Y b := by
  obtain ⟨X, Y, h1, h2, h3⟩ := List.map_eq_append_iff.1 h
  exact ⟨X, Y, h1, h2, h3⟩
theorem sw_cons {A : List Tok} {q : Nat} {x : List UInt8} {b : List Wd} (h : SW A ((q, x) :: b)) : ∃ t Y, A = t :: Y ∧ t.1 = q ∧ t.2.1 = x ∧ SW Y b := by
  obtain ⟨t, Y, h1, h2, h3⟩ := List.map_eq_cons_iff.1 h
  unfold strip at h2
  simp only [Prod.mk.injEq] at h2
  exact ⟨t, Y, h1, h2.1, h2.2, h3⟩
theorem sw_nil {A : List Tok} (h : SW A []) : A = [] := List.map_eq_nil_iff.1 h
theorem isMk_cons (c : UInt8) (t : Tok) (ts : List Tok) : isMk c (t :: ts) = (t.1 == 1 && t.2.1 == [c]) := rfl
theorem tkL_next (j : J) (l : List J) : tkL false (j :: l) = (1, [44]) :: tkL true (j :: l) := by rw [tkL, tkL]; rfl
theorem tkK_next (key : List UInt8) (ks : List (List UInt8)) (j : J) (l : List J) : tkK false (key :: ks) (j :: l) = (1, [44]) :: tkK true (key :: ks) (j :: l) := by rw [tkK, tkK]; rfl
/-- A value that may be begins with no mark that closes. -/
theorem tkJ_open (j : J) (h : faultJ j = 0) (A R : List Tok) (hA : SW A (tkJ j)) (c : UInt8) (hc : c = 93 ∨ c = 125) : isMk c (A ++ R) = false := by
  obtain ⟨k, s, ks, l⟩ := j
  have key : ∀ q x b, tkJ (.mk k s ks l) = (q, x) :: b → (q ≠ 1 ∨ x = [91] ∨ x = [123]) → isMk c (A ++ R) = false := by
    intro q x b he hq
    rw [he] at hA
    obtain ⟨t, Y, rfl, h1, h2, _⟩ := sw_cons hA
    rw [List.cons_append, isMk_cons, h1, h2]
    rcases hq with hq | rfl | rfl
    · rw [show (q == 1) = false from by simpa using hq]; rfl
    · rcases hc with rfl | rfl <;> exact Bool.and_false _
    · rcases hc with rfl | rfl <;> exact Bool.and_false _
  rw [tkJ] at key
  rcases fault_of h with ⟨hk, _⟩ | ⟨rfl, hn, _⟩ | ⟨rfl, hv, _⟩ | ⟨rfl, _, _, hl⟩ | ⟨rfl, _, hlen, hl⟩
  · rcases hk with rfl | rfl | rfl
    · exact key 2 _ _ rfl (.inl (by omega))
    · exact key 2 _ _ rfl (.inl (by omega))
    · exact key 2 _ _ rfl (.inl (by omega))
  · exact key 3 _ _ rfl (.inl (by omega))
  · exact key 4 _ _ rfl (.inl (by omega))
  · exact key 1 _ _ rfl (.inr (.inl rfl))
  · exact key 1 _ _ rfl (.inr (.inr rfl))
theorem mem_met {met ks : List (List UInt8)} (h : ∀ x, met.contains x = ks.contains x) (key : List UInt8) : ∀ x, (key :: met).contains x = (ks ++ [key]).contains x := by
  intro x
  rw [List.contains_cons, h x, Bool.eq_iff_iff]
  simp [or_comm]
mutual
theorem pv_J : ∀ (j : J) (f : Nat) (A R : List Tok), faultJ j = 0 → SW A (tkJ j) → 2 * A.length + 1 ≤ f → pv f (A ++ R) false = some (j, R, false)
  | _, 0, A, R, _, _, hf => by omega
  | .mk k s ks l, f + 1, A, R, h, hA, hf => by
    rw [tkJ] at hA
    rcases fault_of h with ⟨hk, rfl, rfl, rfl⟩ | ⟨rfl, hn, rfl, rfl⟩ | ⟨rfl, hv, rfl, rfl⟩ | ⟨rfl, rfl, rfl, hl⟩ | ⟨rfl, rfl, hlen, hl⟩
    · rcases hk with rfl | rfl | rfl
      · obtain ⟨t, Y, rfl, h1, h2, h3⟩ := sw_cons hA
        obtain rfl := sw_nil h3
        rw [List.cons_append, pv, if_pos h1, h2]; rfl
      · obtain ⟨t, Y, rfl, h1, h2, h3⟩ := sw_cons hA
        obtain rfl := sw_nil h3
        rw [List.cons_append, pv, if_pos h1, h2]; rfl
      · obtain ⟨t, Y, rfl, h1, h2, h3⟩ := sw_cons hA
        obtain rfl := sw_nil h3
        rw [List.cons_append, pv, if_pos h1, h2]; rfl
    · obtain ⟨t, Y, rfl, h1, h2, h3⟩ := sw_cons hA
      obtain rfl := sw_nil h3
      rw [List.cons_append, pv, if_neg (by omega), if_pos h1, h2]; rfl
    · obtain ⟨t, Y, rfl, h1, h2, h3⟩ := sw_cons hA
      obtain rfl := sw_nil h3
      rw [List.cons_append, pv, if_neg (by omega), if_neg (by omega), if_pos h1, h2]; rfl
    · obtain ⟨t, Y, rfl, h1, h2, h3⟩ := sw_cons hA
      obtain ⟨X, Z, rfl, hX, hZ⟩ := sw_app h3
      obtain ⟨e, Z2, rfl, e1, e2, e3⟩ := sw_cons hZ
      obtain rfl := sw_nil e3
      rw [List.cons_append, pv, if_neg (by omega), if_neg (by omega), if_neg (by omega), if_pos h1, if_pos h2, List.append_assoc]
      have he : ∀ T : List Tok, isMk 93 ([e] ++ T) = true := fun T => by rw [List.singleton_append, isMk_cons, e1, e2]; rfl
      match l, hl, hX with
      | [], hl, hX =>
        rw [tkL] at hX
        obtain rfl := sw_nil hX
        rw [List.nil_append, if_pos (he R)]
        rfl
      | j :: l2, hl, hX =>
        have hh := faultL_cons hl
        have ho : isMk 93 (X ++ ([e] ++ R)) = false := by
          rw [tkL, List.append_assoc] at hX
          obtain ⟨X1, X2, rfl, hX1, hX2⟩ := sw_app (a := cm true) hX
          obtain rfl : X1 = [] := sw_nil hX1
          obtain ⟨X3, X4, rfl, hX3, hX4⟩ := sw_app hX2
          rw [List.nil_append, List.append_assoc]
          exact tkJ_open j hh.1 X3 _ hX3 93 (.inl rfl)
        rw [if_neg (by rw [ho]; simp)]
        have := pv_L (j :: l2) f [] [] X e R (by simp) hl hX e1 e2 (by simp only [List.length_cons, List.length_append, List.length_nil] at hf; omega)
        rw [List.singleton_append, this]
        rfl
    · obtain ⟨t, Y, rfl, h1, h2, h3⟩ := sw_cons hA
      obtain ⟨X, Z, rfl, hX, hZ⟩ := sw_app h3
      obtain ⟨e, Z2, rfl, e1, e2, e3⟩ := sw_cons hZ
      obtain rfl := sw_nil e3
      rw [List.cons_append, pv, if_neg (by omega), if_neg (by omega), if_neg (by omega), if_pos h1, if_neg (by rw [h2]; decide), if_pos h2, List.append_assoc]
      have he : ∀ T : List Tok, isMk 125 ([e] ++ T) = true := fun T => by rw [List.singleton_append, isMk_cons, e1, e2]; rfl
      match ks, l, hlen, hl, hX with
      | [], [], _, hl, hX =>
        rw [tkK] at hX
        obtain rfl := sw_nil hX
        rw [List.nil_append, if_pos (he R)]
        rfl
      | [], _ :: _, hlen, _, _ => simp at hlen
      | _ :: _, [], hlen, _, _ => simp at hlen
      | key :: ks2, j :: l2, hlen, hl, hX =>
        have ho : isMk 125 (X ++ ([e] ++ R)) = false := by
          have hX' := hX
          rw [tkK] at hX'
          obtain ⟨X1, X2, rfl, hX1, hX2⟩ := sw_app (a := cm true) hX'
          obtain rfl : X1 = [] := sw_nil hX1
          obtain ⟨t3, X4, rfl, q1, q2, _⟩ := sw_cons hX2
          rw [List.nil_append, List.cons_append, isMk_cons, q1]
          rfl
        rw [if_neg (by rw [ho]; simp)]
        have := pv_K (j :: l2) f [] (key :: ks2) [] [] X e R (by simp) hlen (fun _ => rfl) hl hX e1 e2 (by simp only [List.length_cons, List.length_append, List.length_nil] at hf; omega)
        rw [List.singleton_append, this]
        rfl
theorem pv_L : ∀ (l : List J) (f : Nat) (acc : List J) (ks : List (List UInt8)) (A : List Tok) (e : Tok) (R : List Tok), l ≠ [] → faultL l = 0 → SW A (tkL true l) → e.1 = 1 → e.2.1 = [93] → 2 * (A.length + 1) ≤ f → pn f false acc ks (A ++ e :: R) false = some (acc ++ l, ks, R, false)
  | [], _, _, _, _, _, _, hne, _, _, _, _, _ => absurd rfl hne
  | _, 0, _, _, A, _, _, _, _, _, _, _, hf => by omega
  | j :: l, f + 1, acc, ks, A, e, R, _, h, hA, e1, e2, hf => by
    have hh := faultL_cons h
    rw [tkL, List.append_assoc] at hA
    obtain ⟨X1, X2, rfl, hX1, hX2⟩ := sw_app (a := cm true) hA
    obtain rfl : X1 = [] := sw_nil hX1
    obtain ⟨X, Y, rfl, hX, hY⟩ := sw_app hX2
    rw [List.nil_append, List.append_assoc, pn]
    simp only [List.nil_append, List.length_append] at hf
    rw [pv_J j f X (Y ++ e :: R) hh.1 hX (by omega)]
    have he : ∀ T : List Tok, isMk 93 (e :: T) = true := fun T => by rw [isMk_cons, e1, e2]; rfl
    dsimp only
    match l, hh.2, hY with
    | [], _, hY =>
      rw [tkL] at hY
      obtain rfl := sw_nil hY
      rw [List.nil_append, if_pos (he R)]
      rfl
    | j2 :: l2, h2, hY =>
      rw [tkL_next] at hY
      obtain ⟨c, Y2, rfl, c1, c2, hY2⟩ := sw_cons hY
      rw [List.cons_append, if_neg (by rw [isMk_cons, c1, c2]; decide), if_pos (by rw [isMk_cons, c1, c2]; rfl), List.tail_cons]
      rw [List.length_cons] at hf
      rw [pv_L (j2 :: l2) f (acc ++ [j]) ks Y2 e R (by simp) h2 hY2 e1 e2 (by omega), List.append_assoc]
      rfl
theorem pv_K : ∀ (l : List J) (f : Nat) (acc : List J) (nk : List (List UInt8)) (ks met : List (List UInt8)) (A : List Tok) (e : Tok) (R : List Tok), l ≠ [] → nk.length = l.length → (∀ x, met.contains x = ks.contains x) → faultK met nk l = 0 → SW A (tkK true nk l) → e.1 = 1 → e.2.1 = [125] → 2 * (A.length + 1) ≤ f → pn f true acc ks (A ++ e :: R) false = some (acc ++ l, ks ++ nk, R, false)
  | [], _, _, _, _, _, _, _, _, hne, _, _, _, _, _, _, _ => absurd rfl hne
  | _, 0, _, _, _, _, A, _, _, _, _, _, _, _, _, _, hf => by omega
  | _ :: _, _ + 1, _, [], _, _, _, _, _, _, hlen, _, _, _, _, _, _ => by simp at hlen
  | j :: l, f + 1, acc, key :: nk, ks, met, A, e, R, _, hlen, hmet, h, hA, e1, e2, hf => by
    have hh := faultK_cons h
    rw [tkK] at hA
    obtain ⟨X1, X2, rfl, hX1, hX2⟩ := sw_app (a := cm true) hA
    obtain rfl : X1 = [] := sw_nil hX1
    obtain ⟨t, X3, rfl, t1, t2, hX3⟩ := sw_cons hX2
    obtain ⟨o, X4, rfl, o1, o2, hX4⟩ := sw_cons hX3
    obtain ⟨X, Y, rfl, hX, hY⟩ := sw_app hX4
    rw [List.nil_append, List.cons_append, List.cons_append, List.append_assoc, pn]
    simp only [List.nil_append, List.length_append, List.length_cons] at hf
    rw [if_pos ⟨t1, by rw [isMk_cons, o1, o2]; rfl⟩, List.tail_cons, t2, ← hmet key, hh.2.1, Bool.or_false, pv_J j f X (Y ++ e :: R) hh.2.2.1 hX (by omega)]
    have he : ∀ T : List Tok, isMk 125 (e :: T) = true := fun T => by rw [isMk_cons, e1, e2]; rfl
    dsimp only
    match nk, l, hlen, hh.2.2.2, hY with
    | [], [], _, _, hY =>
      rw [tkK] at hY
      obtain rfl := sw_nil hY
      rw [List.nil_append, if_pos (he R)]
      rfl
    | [], _ :: _, hlen, _, _ => simp at hlen
    | _ :: _, [], hlen, _, _ => simp at hlen
    | key2 :: nk2, j2 :: l2, hlen, h2, hY =>
      rw [tkK_next] at hY
      obtain ⟨c, Y2, rfl, c1, c2, hY2⟩ := sw_cons hY
      rw [List.cons_append, if_neg (by rw [isMk_cons, c1, c2]; decide), if_pos (by rw [isMk_cons, c1, c2]; rfl), List.tail_cons]
      rw [List.length_cons] at hf
      rw [pv_K (j2 :: l2) f (acc ++ [j]) (key2 :: nk2) (ks ++ [key]) (key :: met) Y2 e R (by simp) (by simpa using hlen) (mem_met hmet key) h2 hY2 e1 e2 (by omega), List.append_assoc, List.append_assoc]
      rfl
end

theorem tokensR_ov {l : List UInt8} {ts : List Tok} (hv : valid l = true) (h : toks 0 l = .ok ts) : tokensR l = .ok ts := by
  unfold tokensR
  rw [valid_good, decide_eq_true_eq] at hv
  rw [if_neg (by omega), h]; rfl
/-- What a token does to the marks that are open. -/
theorem opn_of {t : Tok} {q : Nat} {x : List UInt8} (h1 : t.1 = q) (h2 : t.2.1 = x) (n : Nat) : opn t n = if q = 1 ∧ (x = [91] ∨ x = [123]) then n + 1 else if q = 1 ∧ (x = [93] ∨ x = [125]) then n - 1 else n := by
  unfold opn
  simp only [isMk_cons, h1, h2]
  by_cases hq : q = 1
  · subst hq
    simp only [beq_self_eq_true, Bool.true_and, Bool.or_eq_true, beq_iff_eq, true_and]
  · have : (q == 1) = false := by simpa using hq
    simp only [this, Bool.false_and, Bool.or_self, Bool.false_eq_true, if_false, hq, false_and]
theorem beyond_step {m n n' : Nat} {t : Tok} (h : opn t n = n') (hn : n' ≤ m) (ts : List Tok) : beyond m n (t :: ts) = beyond m n' ts := by
  rw [beyond, h, if_neg (by omega)]
theorem beyond_calm {t : Tok} {q : Nat} {x : List UInt8} (h1 : t.1 = q) (h2 : t.2.1 = x) (hq : q ≠ 1 ∨ x = [44] ∨ x = [58]) {m n : Nat} (hn : n ≤ m) (ts : List Tok) : beyond m n (t :: ts) = beyond m n ts := by
  refine beyond_step ?_ hn ts
  rw [opn_of h1 h2]
  rcases hq with hq | rfl | rfl
  · rw [if_neg (fun h => hq h.1), if_neg (fun h => hq h.1)]
  · rw [if_neg (by simp), if_neg (by simp)]
  · rw [if_neg (by simp), if_neg (by simp)]
theorem beyond_up {t : Tok} {x : List UInt8} (h1 : t.1 = 1) (h2 : t.2.1 = x) (hx : x = [91] ∨ x = [123]) {m n : Nat} (hn : n + 1 ≤ m) (ts : List Tok) : beyond m n (t :: ts) = beyond m (n + 1) ts := by
  refine beyond_step ?_ hn ts
  rw [opn_of h1 h2, if_pos ⟨rfl, hx⟩]
theorem beyond_down {t : Tok} {x : List UInt8} (h1 : t.1 = 1) (h2 : t.2.1 = x) (hx : x = [93] ∨ x = [125]) {m n : Nat} (hn : n ≤ m) (ts : List Tok) : beyond m (n + 1) (t :: ts) = beyond m n ts := by
  refine beyond_step ?_ hn ts
  rw [opn_of h1 h2, if_neg (by rcases hx with rfl | rfl <;> simp), if_pos ⟨rfl, hx⟩]; rfl
mutual
theorem by_J : ∀ (j : J) (m n : Nat) (A R : List Tok), faultJ j = 0 → n ≤ m → deepJ (m - n) j = false → SW A (tkJ j) → beyond m n (A ++ R) = beyond m n R
  | .mk k s ks l, m, n, A, R, h, hn, hd, hA => by
    rw [tkJ] at hA
    rcases fault_of h with ⟨hk, rfl, rfl, rfl⟩ | ⟨rfl, _, rfl, rfl⟩ | ⟨rfl, hv, rfl, rfl⟩ | ⟨rfl, rfl, rfl, hl⟩ | ⟨rfl, rfl, hlen, hl⟩
    · rcases hk with rfl | rfl | rfl
      · obtain ⟨t, Y, rfl, h1, h2, h3⟩ := sw_cons hA
        obtain rfl := sw_nil h3
        exact beyond_calm h1 h2 (.inl (by omega)) hn R
      · obtain ⟨t, Y, rfl, h1, h2, h3⟩ := sw_cons hA
        obtain rfl := sw_nil h3
        exact beyond_calm h1 h2 (.inl (by omega)) hn R
      · obtain ⟨t, Y, rfl, h1, h2, h3⟩ := sw_cons hA
        obtain rfl := sw_nil h3
        exact beyond_calm h1 h2 (.inl (by omega)) hn R
    · obtain ⟨t, Y, rfl, h1, h2, h3⟩ := sw_cons hA
      obtain rfl := sw_nil h3
      exact beyond_calm h1 h2 (.inl (by omega)) hn R
    · obtain ⟨t, Y, rfl, h1, h2, h3⟩ := sw_cons hA
      obtain rfl := sw_nil h3
      exact beyond_calm h1 h2 (.inl (by omega)) hn R
    · obtain ⟨t, Y, rfl, h1, h2, h3⟩ := sw_cons hA
      obtain ⟨X, Z, rfl, hX, hZ⟩ := sw_app h3
      obtain ⟨e, Z2, rfl, e1, e2, e3⟩ := sw_cons hZ
      obtain rfl := sw_nil e3
      cases hm : m - n with
      | zero => rw [hm, deepJ] at hd; simp at hd
      | succ d =>
        rw [hm, deepJ, if_pos (.inl rfl)] at hd
        rw [List.cons_append, beyond_up h1 h2 (.inl rfl) (by omega), List.append_assoc, by_L true l m (n + 1) X _ hl (by omega) (by rw [show m - (n + 1) = d by omega]; exact hd) hX]
        exact beyond_down e1 e2 (.inl rfl) hn R
    · obtain ⟨t, Y, rfl, h1, h2, h3⟩ := sw_cons hA
      obtain ⟨X, Z, rfl, hX, hZ⟩ := sw_app h3
      obtain ⟨e, Z2, rfl, e1, e2, e3⟩ := sw_cons hZ
      obtain rfl := sw_nil e3
      cases hm : m - n with
      | zero => rw [hm, deepJ] at hd; simp at hd
      | succ d =>
        rw [hm, deepJ, if_pos (.inr rfl)] at hd
        rw [List.cons_append, beyond_up h1 h2 (.inr rfl) (by omega), List.append_assoc, by_K true [] ks l m (n + 1) X _ hlen hl (by omega) (by rw [show m - (n + 1) = d by omega]; exact hd) hX]
        exact beyond_down e1 e2 (.inr rfl) hn R
theorem by_L : ∀ (first : Bool) (l : List J) (m n : Nat) (A R : List Tok), faultL l = 0 → n ≤ m → deepL (m - n) l = false → SW A (tkL first l) → beyond m n (A ++ R) = beyond m n R
  | first, [], m, n, A, R, _, _, _, hA => by
    rw [tkL] at hA
    obtain rfl := sw_nil hA
    rfl
  | first, j :: l, m, n, A, R, h, hn, hd, hA => by
    have hh := faultL_cons h
    rw [deepL, Bool.or_eq_false_iff] at hd
    rw [tkL, List.append_assoc] at hA
    obtain ⟨X1, X2, rfl, hX1, hX2⟩ := sw_app hA
    obtain ⟨X, Y, rfl, hX, hY⟩ := sw_app hX2
    have e : beyond m n (X ++ Y ++ R) = beyond m n R := by
      rw [List.append_assoc, by_J j m n X _ hh.1 hn hd.1 hX, by_L false l m n Y R hh.2 hn hd.2 hY]
    cases first with
    | true =>
      obtain rfl := sw_nil hX1
      exact e
    | false =>
      obtain ⟨c, Z, rfl, c1, c2, c3⟩ := sw_cons hX1
      obtain rfl := sw_nil c3
      rw [List.append_assoc, List.singleton_append, beyond_calm c1 c2 (.inr (.inl rfl)) hn]
      exact e
theorem by_K : ∀ (first : Bool) (met ks : List (List UInt8)) (l : List J) (m n : Nat) (A R : List Tok), ks.length = l.length → faultK met ks l = 0 → n ≤ m → deepL (m - n) l = false → SW A (tkK first ks l) → beyond m n (A ++ R) = beyond m n R
  | first, met, [], [], m, n, A, R, _, _, _, _, hA => by
    rw [tkK] at hA
    obtain rfl := sw_nil hA
    rfl
  | _, _, _ :: _, [], _, _, _, _, hlen, _, _, _, _ => by simp at hlen
  | _, _, [], _ :: _, _, _, _, _, hlen, _, _, _, _ => by simp at hlen
  | first, met, key :: ks, j :: l, m, n, A, R, hlen, h, hn, hd, hA => by
    have hh := faultK_cons h
    rw [deepL, Bool.or_eq_false_iff] at hd
    rw [tkK] at hA
    obtain ⟨X1, X2, rfl, hX1, hX2⟩ := sw_app hA
    obtain ⟨t, X3, rfl, t1, t2, hX3⟩ := sw_cons hX2
    obtain ⟨o, X4, rfl, o1, o2, hX4⟩ := sw_cons hX3
    obtain ⟨X, Y, rfl, hX, hY⟩ := sw_app hX4
    have e : beyond m n (t :: o :: (X ++ Y) ++ R) = beyond m n R := by
      rw [List.cons_append, List.cons_append, beyond_calm t1 t2 (.inl (by omega)) hn, beyond_calm o1 o2 (.inr (.inr rfl)) hn, List.append_assoc, by_J j m n X _ hh.2.2.1 hn hd.1 hX, by_K false (key :: met) ks l m n Y R (by simpa using hlen) hh.2.2.2 hn hd.2 hY]
    cases first with
    | true =>
      obtain rfl := sw_nil hX1
      exact e
    | false =>
      obtain ⟨c, Z, rfl, c1, c2, c3⟩ := sw_cons hX1
      obtain rfl := sw_nil c3
      rw [List.append_assoc, List.singleton_append, beyond_calm c1 c2 (.inr (.inl rfl)) hn]
      exact e
end
theorem check_of {j : J} (h : checkJ j = 0) : deepJ 64 j = false ∧ faultJ j = 0 := by
  unfold checkJ at h
  split at h
  · cases h
  · rename_i hd; exact ⟨by simpa using hd, h⟩
/-- ████ THE TEXT OF A VALUE THAT MAY BE IS READ AS THAT VALUE. -/
theorem parse_text (j : J) (h : checkJ j = 0) : parseR (textJ j) = .ok j := by
  obtain ⟨hd, hf⟩ := check_of h
  obtain ⟨hv, hw⟩ := words_J j hf
  unfold words at hw
  cases hT : toks 0 (textJ j) with
  | error e => rw [hT] at hw; cases hw
  | ok ts =>
    rw [hT] at hw
    have hsw : SW ts (tkJ j) := by injection hw
    have hb := by_J j 64 0 ts [] hf (by omega) hd hsw
    have hp := pv_J j (2 * ts.length + 1) ts [] hf hsw (Nat.le_refl _)
    rw [List.append_nil] at hb hp
    unfold parseR
    rw [tokensR_ov hv hT]
    simp only [hb, hp]
    rfl
mutual
theorem pv_mem : ∀ (f : Nat) (ts : List Tok) (tw : Bool) (j : J) (R : List Tok) (tw' : Bool), pv f ts tw = some (j, R, tw') → ∀ u ∈ R, u ∈ ts
  | 0, _, _, _, _, _, h => by rw [pv] at h; cases h
  | f + 1, [], _, _, _, _, h => by rw [pv] at h; cases h
  | f + 1, t :: ts, tw, j, R, tw', h => by
    rw [pv] at h
    intro u hu
    refine List.mem_cons_of_mem _ ?_
    repeat' split at h
    all_goals first
      | (simp only [Option.some.injEq, Prod.mk.injEq] at h
         obtain ⟨_, rfl, _⟩ := h
         first | exact hu | exact List.mem_of_mem_tail hu)
      | (cases hp : pn f false [] [] ts tw with
         | none => rw [hp] at h; cases h
         | some r =>
           obtain ⟨a, b, c, d⟩ := r
           rw [hp] at h
           simp only [Option.map_some, Option.some.injEq, Prod.mk.injEq] at h
           obtain ⟨_, rfl, _⟩ := h
           exact pn_mem f false [] [] ts tw a b c d hp u hu)
      | (cases hp : pn f true [] [] ts tw with
         | none => rw [hp] at h; cases h
         | some r =>
           obtain ⟨a, b, c, d⟩ := r
           rw [hp] at h
           simp only [Option.map_some, Option.some.injEq, Prod.mk.injEq] at h
           obtain ⟨_, rfl, _⟩ := h
           exact pn_mem f true [] [] ts tw a b c d hp u hu)
      | cases h
theorem pn_mem : ∀ (f : Nat) (o : Bool) (acc : List J) (ks : List (List UInt8)) (ts : List Tok) (tw : Bool) (a : List J) (b : List (List UInt8)) (R : List Tok) (tw' : Bool), pn f o acc ks ts tw = some (a, b, R, tw') → ∀ u ∈ R, u ∈ ts
  | 0, _, _, _, _, _, _, _, _, _, h => by rw [pn] at h; cases h
  | f + 1, false, acc, ks, ts, tw, a, b, R, tw', h => by
    rw [pn] at h
    intro u hu
    cases hp : pv f ts tw with
    | none => rw [hp] at h; cases h
    | some r =>
      obtain ⟨j, ts1, tw1⟩ := r
      rw [hp] at h
      simp only at h
      refine pv_mem f ts tw j ts1 tw1 hp u ?_
      split at h
      · simp only [Option.some.injEq, Prod.mk.injEq] at h
        obtain ⟨_, _, rfl, _⟩ := h
        exact List.mem_of_mem_tail hu
      · split at h
        · exact List.mem_of_mem_tail (pn_mem f false _ _ _ _ _ _ _ _ h u hu)
        · cases h
  | f + 1, true, acc, ks, [], tw, a, b, R, tw', h => by rw [pn] at h; cases h
  | f + 1, true, acc, ks, t :: ts, tw, a, b, R, tw', h => by
    rw [pn] at h
    intro u hu
    refine List.mem_cons_of_mem _ ?_
    split at h
    · cases hp : pv f ts.tail (tw || ks.contains t.2.1) with
      | none => rw [hp] at h; cases h
      | some r =>
        obtain ⟨j, ts1, tw1⟩ := r
        rw [hp] at h
        simp only at h
        refine List.mem_of_mem_tail (pv_mem f ts.tail _ j ts1 tw1 hp u ?_)
        split at h
        · simp only [Option.some.injEq, Prod.mk.injEq] at h
          obtain ⟨_, _, rfl, _⟩ := h
          exact List.mem_of_mem_tail hu
        · split at h
          · exact List.mem_of_mem_tail (pn_mem f true _ _ _ _ _ _ _ _ h u hu)
          · cases h
    · cases h
end

/-- What a token of a text is. -/
def GT (t : Tok) : Prop := (t.1 = 3 → isNumL t.2.1 = true) ∧ (t.1 = 4 → valid t.2.1 = true)
def GTs (ts : List Tok) : Prop := ∀ t ∈ ts, GT t
theorem GTs.tail {t : Tok} {ts : List Tok} (h : GTs (t :: ts)) : GTs ts := fun u hu => h u (List.mem_cons_of_mem _ hu)
theorem GTs.ltail {ts : List Tok} (h : GTs ts) : GTs ts.tail := fun u hu => h u (List.mem_of_mem_tail hu)
theorem strPF_valid : ∀ (f : Nat) (l x : List UInt8) (n : Nat), strPF f l = some (x, n) → valid x = true
  | 0, _, _, _, h => by cases h
  | f + 1, l, x, n, h => by
    rw [strPF] at h
    split at h
    · cases h
    · rename_i hl
      split at h
      · simp only [Option.some.injEq, Prod.mk.injEq] at h
        obtain ⟨rfl, rfl⟩ := h
        exact valid_nil
      · split at h
        · split at h
          · cases h
          · rename_i p k he
            have h1 := escP_le he
            split at h
            · cases h
            · rename_i y m hy
              have ih := strPF_valid f _ y m hy
              simp only [Option.some.injEq, Prod.mk.injEq] at h
              obtain ⟨rfl, rfl⟩ := h
              rw [valid_append _ _ (valid_enc p h1.2.2)]; exact ih
        · split at h
          · cases h
          · rename_i h32
            split at h
            · cases h
            · rename_i y m hy
              have ih := strPF_valid f _ y m hy
              simp only [Option.some.injEq, Prod.mk.injEq] at h
              obtain ⟨rfl, rfl⟩ := h
              have hp : isPt (((ptR l).toNat : Nat) : Int) = true := by
                unfold ptR
                split
                · rfl
                · exact isPt_pt l (by omega)
              rw [valid_append _ _ (valid_enc _ hp)]; exact ih
theorem tokP_GT {m x : List UInt8} {q n : Nat} (h : tokP m = some (q, x, n)) (hv : valid m = true) (hb : fst isB m = false) (a b : Nat) : GT (q, x, a, b) := by
  refine ⟨fun h3 => ?_, fun h4 => ?_⟩
  · obtain rfl : q = 3 := h3
    have hx : x = m.take n := by
      rcases (tokP_text h).1 with h0 | h0
      · omega
      · exact h0
    have hn := tokP_len h
    have hne : m ≠ [] := by rintro rfl; simp at hn; omega
    have hc := tokP_cut h hv [] valid_nil (soft_sep soft_nil)
    have hfb := fst_cut isB m [] n hn.1 hne
    rw [List.append_nil] at hc hfb
    have hvx : valid (m.take n) = true := valid_take m n hv hn.2.1 (.inr (tokP_last h))
    have hlen : (m.take n).length = n := by rw [List.length_take]; omega
    show isNumL x = true
    rw [hx]
    have ht : toks 0 (m.take n) = .ok [(3, m.take n, 0, 0 + n)] := by
      rw [toks_cons 0 _ (by intro h0; rw [h0] at hlen; simp at hlen; omega) (by rw [hfb]; exact hb), hc]
      simp only
      have : (m.take n).drop n = [] := List.drop_eq_nil_iff.2 (by omega)
      rw [this, toks_end, hx]
    unfold isNumL
    rw [tokensR_ov hvx ht]
    simp only
    unfold isNumT
    simp only
    rw [txt_list]
    simp
  · obtain rfl : q = 4 := h4
    show valid x = true
    unfold tokP at h
    split at h
    · simp at h
    · split at h
      · simp at h
      · split at h
        · simp at h
        · cases hs : tokStr m with
          | none => rw [hs] at h; cases h
          | some y =>
            obtain ⟨y, k⟩ := y
            rw [hs] at h
            simp only [Option.map_some, Option.some.injEq, Prod.mk.injEq] at h
            obtain ⟨_, rfl, rfl⟩ := h
            unfold tokStr at hs
            split at hs
            · cases hp : strP (m.drop 1) with
              | none => rw [hp] at hs; cases hs
              | some z =>
                obtain ⟨z, k2⟩ := z
                rw [hp] at hs
                simp only [Option.map_some, Option.some.injEq, Prod.mk.injEq] at hs
                obtain ⟨rfl, _⟩ := hs
                exact strPF_valid _ _ _ _ hp
            · cases hs
theorem toks_GT : ∀ (j k : Nat) (l : List UInt8) (ts : List Tok), l.length ≤ j → valid l = true → toks k l = .ok ts → GTs ts
  | j, k, l, [], _, _, _ => fun t ht => by cases ht
  | j, k, l, t :: ts, hj, hv, h => by
    obtain ⟨q, x, n, he, ht, rfl, hts⟩ := toks_ok_cons h
    have hvd := valid_run l hv
    have hn := tokP_len ht
    have hlast := tokP_last ht
    have hdl : (l.drop (run isB l)).length = l.length - run isB l := List.length_drop
    have hpos := List.length_pos_iff.2 he
    have hv2 := valid_drop _ n hvd (by omega) hn.2.1 hlast
    rw [List.drop_drop] at hv2
    intro u hu
    rcases List.mem_cons.1 hu with rfl | hu
    · exact tokP_GT ht hvd (fst_run isB l) _ _
    · cases j with
      | zero => omega
      | succ j => exact toks_GT j _ _ ts (by rw [List.length_drop]; omega) hv2 hts u hu
theorem formed_simple (k : Int) (hk : k = 0 ∨ k = 1 ∨ k = 2) : faultJ (.mk k [] [] []) = 0 := by
  rcases hk with rfl | rfl | rfl <;> (rw [faultJ, if_neg (by unfold formedB; rw [txt_list]; simp), if_neg (by omega), if_neg (by omega), faultL])
theorem faultJ_num {s : List UInt8} (h : isNumL s = true) : faultJ (.mk 3 s [] []) = 0 := by
  have hd : (txt s).data.toList = s := by unfold txt; simp
  have hf : formedB 3 (txt s) ([] : List (List UInt8)).length ([] : List J).length = true := by unfold formedB; rw [hd, h]; rfl
  rw [faultJ, hf, if_neg (by simp), if_neg (by omega), if_neg (by omega), faultL]
theorem faultJ_str {s : List UInt8} (h : valid s = true) : faultJ (.mk 4 s [] []) = 0 := by
  rw [faultJ, if_neg (by unfold formedB; simp), if_neg (by rw [h]; simp), if_neg (by omega), faultL]
theorem faultJ_arr {l : List J} (h : faultL l = 0) : faultJ (.mk 5 [] [] l) = 0 := by
  rw [faultJ, if_neg (by unfold formedB; rw [txt_list]; simp), if_neg (by omega), if_neg (by omega), h]
theorem faultJ_obj {ks : List (List UInt8)} {l : List J} (hn : ks.length = l.length) (h : faultK [] ks l = 0) : faultJ (.mk 6 [] ks l) = 0 := by
  rw [faultJ, if_neg (by unfold formedB; rw [txt_list]; simp [hn]), if_neg (by omega), if_pos rfl, h]
theorem faultL_app : ∀ (a : List J) (b : List J), faultL a = 0 → faultL b = 0 → faultL (a ++ b) = 0
  | [], b, _, h => h
  | j :: a, b, h, k => by
    have hh := faultL_cons h
    rw [List.cons_append, faultL, if_pos hh.1, faultL_app a b hh.2 k]
theorem beyond_mk {m n : Nat} {t : Tok} {ts : List Tok} (h : beyond m n (t :: ts) = false) : opn t n ≤ m ∧ beyond m (opn t n) ts = false := by
  rw [beyond] at h
  split at h
  · cases h
  · rename_i h0; exact ⟨by omega, h⟩
theorem isMk_of {c : UInt8} {ts : List Tok} (h : isMk c ts = true) : ∃ t R, ts = t :: R ∧ t.1 = 1 ∧ t.2.1 = [c] := by
  cases ts with
  | nil => cases h
  | cons t R =>
    rw [isMk_cons, Bool.and_eq_true, beq_iff_eq, beq_iff_eq] at h
    exact ⟨t, R, rfl, h.1, h.2⟩
theorem beyond_calm2 {t : Tok} {q : Nat} {x : List UInt8} (h1 : t.1 = q) (h2 : t.2.1 = x) (hq : q ≠ 1 ∨ x = [44] ∨ x = [58]) {m n : Nat} {ts : List Tok} (h : beyond m n (t :: ts) = false) : beyond m n ts = false := by
  have h3 := beyond_mk h
  have e : opn t n = n := by
    rw [opn_of h1 h2]
    rcases hq with hq | rfl | rfl
    · rw [if_neg (fun h => hq h.1), if_neg (fun h => hq h.1)]
    · rw [if_neg (by simp), if_neg (by simp)]
    · rw [if_neg (by simp), if_neg (by simp)]
  rw [e] at h3
  exact h3.2
theorem beyond_up2 {t : Tok} {x : List UInt8} (h1 : t.1 = 1) (h2 : t.2.1 = x) (hx : x = [91] ∨ x = [123]) {m n : Nat} {ts : List Tok} (h : beyond m n (t :: ts) = false) : n + 1 ≤ m ∧ beyond m (n + 1) ts = false := by
  have h3 := beyond_mk h
  rw [opn_of h1 h2, if_pos ⟨rfl, hx⟩] at h3
  exact h3
theorem beyond_down2 {t : Tok} {x : List UInt8} (h1 : t.1 = 1) (h2 : t.2.1 = x) (hx : x = [93] ∨ x = [125]) {m n : Nat} {ts : List Tok} (h : beyond m (n + 1) (t :: ts) = false) : beyond m n ts = false := by
  have h3 := beyond_mk h
  rw [opn_of h1 h2, if_neg (by rcases hx with rfl | rfl <;> simp), if_pos ⟨rfl, hx⟩] at h3
  exact h3.2
/-- What was read of a row of tokens: no key twice before, no fault, the rest is as deep as ahead. -/
def Pd (j : J) (ts R : List Tok) (tw : Bool) : Prop := tw = false ∧ faultJ j = 0 ∧ GTs R ∧ ∀ m n, n ≤ m → beyond m n ts = false → deepJ (m - n) j = false ∧ beyond m n R = false
theorem deep_kind {m : Nat} {k : Int} {s : List UInt8} {ks : List (List UInt8)} {l : List J} (h : k ≠ 5 ∧ k ≠ 6) : deepJ m (.mk k s ks l) = false := by
  cases m <;> rw [deepJ, if_neg (by omega)]
theorem pd_one {t : Tok} {R : List Tok} {k : Int} {s : List UInt8} (hG : GTs (t :: R)) (h1 : t.1 ≠ 1) (hk : k ≠ 5 ∧ k ≠ 6) (hf : faultJ (.mk k s [] []) = 0) : Pd (.mk k s [] []) (t :: R) R false :=
  ⟨rfl, hf, hG.tail, fun _ _ _ hb => ⟨deep_kind hk, beyond_calm2 rfl rfl (.inl h1) hb⟩⟩
theorem pd_box {t : Tok} {ts R : List Tok} {k : Int} {x : List UInt8} {ks : List (List UInt8)} {l : List J} {tw : Bool} (h1 : t.1 = 1) (h2 : t.2.1 = x) (hx : x = [91] ∨ x = [123]) (hk : k = 5 ∨ k = 6) (htw : tw = false) (hR : GTs R) (hf : faultJ (.mk k [] ks l) = 0)
    (h : ∀ m n, n + 1 ≤ m → beyond m (n + 1) ts = false → deepL (m - (n + 1)) l = false ∧ beyond m n R = false) : Pd (.mk k [] ks l) (t :: ts) R tw := by
  refine ⟨htw, hf, hR, fun m n hn hb => ?_⟩
  obtain ⟨hm, hb2⟩ := beyond_up2 h1 h2 hx hb
  obtain ⟨hd, hr⟩ := h m n hm hb2
  refine ⟨?_, hr⟩
  obtain ⟨d, hd2⟩ : ∃ d, m - n = d + 1 := ⟨m - n - 1, by omega⟩
  rw [hd2, deepJ, if_pos hk]
  rw [show m - (n + 1) = d by omega] at hd
  exact hd
mutual
theorem pv_may : ∀ (f : Nat) (ts : List Tok) (tw : Bool) (j : J) (R : List Tok), GTs ts → pv f ts tw = some (j, R, false) → Pd j ts R tw
  | 0, _, _, _, _, _, h => by rw [pv] at h; cases h
  | f + 1, [], _, _, _, _, h => by rw [pv] at h; cases h
  | f + 1, t :: ts, tw, j, R, hG, h => by
    have hg := hG t List.mem_cons_self
    rw [pv] at h
    split at h
    · rename_i h1
      simp only [Option.some.injEq, Prod.mk.injEq] at h
      obtain ⟨rfl, rfl, rfl⟩ := h
      refine pd_one hG (by omega) ?_ (formed_simple _ ?_)
      · unfold wordKind; split
        · omega
        · split <;> omega
      · unfold wordKind; split
        · omega
        · split <;> omega
    · split at h
      · rename_i h1
        simp only [Option.some.injEq, Prod.mk.injEq] at h
        obtain ⟨rfl, rfl, rfl⟩ := h
        exact pd_one hG (by omega) (by omega) (faultJ_num (hg.1 h1))
      · split at h
        · rename_i h1
          simp only [Option.some.injEq, Prod.mk.injEq] at h
          obtain ⟨rfl, rfl, rfl⟩ := h
          exact pd_one hG (by omega) (by omega) (faultJ_str (hg.2 h1))
        · split at h
          · rename_i h1
            split at h
            · rename_i h2
              split at h
              · rename_i hc
                simp only [Option.some.injEq, Prod.mk.injEq] at h
                obtain ⟨rfl, rfl, rfl⟩ := h
                obtain ⟨e, R, rfl, e1, e2⟩ := isMk_of hc
                exact pd_box h1 h2 (.inl rfl) (.inl rfl) rfl hG.tail.tail (faultJ_arr rfl) (fun m n _ hb => ⟨rfl, beyond_down2 e1 e2 (.inl rfl) hb⟩)
              · cases hp : pn f false [] [] ts tw with
                | none => rw [hp] at h; cases h
                | some r =>
                  obtain ⟨a, b, c, d⟩ := r
                  rw [hp] at h
                  simp only [Option.map_some, Option.some.injEq, Prod.mk.injEq] at h
                  obtain ⟨rfl, rfl, rfl⟩ := h
                  obtain ⟨htw, l, ha, hb, hl, hR, hd⟩ := pn_may f [] [] ts tw a b c hG.tail hp
                  rw [List.nil_append] at ha
                  subst ha
                  exact pd_box h1 h2 (.inl rfl) (.inl rfl) htw hR (faultJ_arr hl) hd
            · split at h
              · rename_i h2
                split at h
                · rename_i hc
                  simp only [Option.some.injEq, Prod.mk.injEq] at h
                  obtain ⟨rfl, rfl, rfl⟩ := h
                  obtain ⟨e, R, rfl, e1, e2⟩ := isMk_of hc
                  exact pd_box h1 h2 (.inr rfl) (.inr rfl) rfl hG.tail.tail (faultJ_obj rfl rfl) (fun m n _ hb => ⟨rfl, beyond_down2 e1 e2 (.inr rfl) hb⟩)
                · cases hp : pn f true [] [] ts tw with
                  | none => rw [hp] at h; cases h
                  | some r =>
                    obtain ⟨a, b, c, d⟩ := r
                    rw [hp] at h
                    simp only [Option.map_some, Option.some.injEq, Prod.mk.injEq] at h
                    obtain ⟨rfl, rfl, rfl⟩ := h
                    obtain ⟨htw, l, nk, ha, hb, hn, hl, hR, hd⟩ := pk_may f [] [] ts tw a b c hG.tail hp
                    rw [List.nil_append] at ha hb
                    subst ha hb
                    exact pd_box h1 h2 (.inr rfl) (.inr rfl) htw hR (faultJ_obj hn (hl [] (fun _ => rfl))) hd
              · cases h
          · cases h
theorem pn_may : ∀ (f : Nat) (acc : List J) (ks : List (List UInt8)) (ts : List Tok) (tw : Bool) (a : List J) (b : List (List UInt8)) (R : List Tok), GTs ts → pn f false acc ks ts tw = some (a, b, R, false) → tw = false ∧ ∃ l, a = acc ++ l ∧ b = ks ∧ faultL l = 0 ∧ GTs R ∧ ∀ m n, n + 1 ≤ m → beyond m (n + 1) ts = false → deepL (m - (n + 1)) l = false ∧ beyond m n R = false
  | 0, _, _, _, _, _, _, _, _, h => by rw [pn] at h; cases h
  | f + 1, acc, ks, ts, tw, a, b, R, hG, h => by
    rw [pn] at h
    cases hp : pv f ts tw with
    | none => rw [hp] at h; cases h
    | some r =>
      obtain ⟨j, ts1, tw1⟩ := r
      rw [hp] at h
      simp only at h
      split at h
      · rename_i hc
        simp only [Option.some.injEq, Prod.mk.injEq] at h
        obtain ⟨rfl, rfl, rfl, rfl⟩ := h
        obtain ⟨htw, hj, hg1, hd⟩ := pv_may f ts tw j ts1 hG hp
        obtain ⟨e, R, rfl, e1, e2⟩ := isMk_of hc
        refine ⟨htw, [j], rfl, rfl, by rw [faultL, if_pos hj, faultL], hg1.tail, fun m n hm hb => ?_⟩
        obtain ⟨d1, d2⟩ := hd m (n + 1) hm hb
        exact ⟨by rw [deepL, d1, deepL]; rfl, beyond_down2 e1 e2 (.inl rfl) d2⟩
      · split at h
        · rename_i hc
          obtain ⟨e, ts2, rfl, e1, e2⟩ := isMk_of hc
          rw [List.tail_cons] at h
          have hg1 : GTs ts2 := fun u hu => hG u (pv_mem f ts tw j _ tw1 hp u (List.mem_cons_of_mem _ hu))
          obtain ⟨htw1, l, ha, hb, hl, hR, hd2⟩ := pn_may f _ _ _ _ _ _ _ hg1 h
          subst htw1
          obtain ⟨htw, hj, _, hd⟩ := pv_may f ts tw j _ hG hp
          refine ⟨htw, j :: l, by rw [ha]; simp, hb, by rw [faultL, if_pos hj]; exact hl, hR, fun m n hm hb => ?_⟩
          obtain ⟨d1, d2⟩ := hd m (n + 1) hm hb
          obtain ⟨d3, d4⟩ := hd2 m n hm (beyond_calm2 e1 e2 (.inr (.inl rfl)) d2)
          exact ⟨by rw [deepL, d1, d3]; rfl, d4⟩
        · cases h
theorem pk_may : ∀ (f : Nat) (acc : List J) (ks : List (List UInt8)) (ts : List Tok) (tw : Bool) (a : List J) (b : List (List UInt8)) (R : List Tok), GTs ts → pn f true acc ks ts tw = some (a, b, R, false) → tw = false ∧ ∃ l nk, a = acc ++ l ∧ b = ks ++ nk ∧ nk.length = l.length ∧ (∀ met : List (List UInt8), (∀ x, met.contains x = ks.contains x) → faultK met nk l = 0) ∧ GTs R ∧ ∀ m n, n + 1 ≤ m → beyond m (n + 1) ts = false → deepL (m - (n + 1)) l = false ∧ beyond m n R = false
  | 0, _, _, _, _, _, _, _, _, h => by rw [pn] at h; cases h
  | f + 1, acc, ks, [], tw, a, b, R, hG, h => by rw [pn] at h; cases h
  | f + 1, acc, ks, t :: ts, tw, a, b, R, hG, h => by
    have hgt := hG t List.mem_cons_self
    rw [pn] at h
    split at h
    · rename_i ht
      obtain ⟨c, ts0, rfl, c1, c2⟩ := isMk_of ht.2
      rw [List.tail_cons] at h
      cases hp : pv f ts0 (tw || ks.contains t.2.1) with
      | none => rw [hp] at h; cases h
      | some r =>
        obtain ⟨j, ts1, tw1⟩ := r
        rw [hp] at h
        simp only at h
        have hv := hgt.2 ht.1
        split at h
        · rename_i hc
          simp only [Option.some.injEq, Prod.mk.injEq] at h
          obtain ⟨rfl, rfl, rfl, rfl⟩ := h
          obtain ⟨htw, hj, hg1, hd⟩ := pv_may f ts0 _ j ts1 hG.tail.tail hp
          rw [Bool.or_eq_false_iff] at htw
          obtain ⟨e, R, rfl, e1, e2⟩ := isMk_of hc
          refine ⟨htw.1, [j], [t.2.1], rfl, rfl, rfl, fun met hmet => ?_, hg1.tail, fun m n hm hb => ?_⟩
          · rw [faultK, if_neg (by rw [hv]; simp), if_neg (by rw [hmet, htw.2]; simp), if_pos hj, faultK]
          · obtain ⟨d1, d2⟩ := hd m (n + 1) hm (beyond_calm2 c1 c2 (.inr (.inr rfl)) (beyond_calm2 ht.1 rfl (.inl (by omega)) hb))
            exact ⟨by rw [deepL, d1, deepL]; rfl, beyond_down2 e1 e2 (.inr rfl) d2⟩
        · split at h
          · rename_i hc
            obtain ⟨e, ts2, rfl, e1, e2⟩ := isMk_of hc
            rw [List.tail_cons] at h
            have hg1 : GTs ts2 := fun u hu => hG.tail.tail u (pv_mem f ts0 _ j _ tw1 hp u (List.mem_cons_of_mem _ hu))
            obtain ⟨htw1, l, nk, ha, hb, hn, hl, hR, hd2⟩ := pk_may f _ _ _ _ _ _ _ hg1 h
            subst htw1
            obtain ⟨htw, hj, _, hd⟩ := pv_may f ts0 _ j _ hG.tail.tail hp
            rw [Bool.or_eq_false_iff] at htw
            refine ⟨htw.1, j :: l, t.2.1 :: nk, by rw [ha]; simp, by rw [hb]; simp, by simp [hn], fun met hmet => ?_, hR, fun m n hm hb => ?_⟩
            · rw [faultK, if_neg (by rw [hv]; simp), if_neg (by rw [hmet, htw.2]; simp), if_pos hj]
              exact hl _ (mem_met hmet t.2.1)
            · obtain ⟨d1, d2⟩ := hd m (n + 1) hm (beyond_calm2 c1 c2 (.inr (.inr rfl)) (beyond_calm2 ht.1 rfl (.inl (by omega)) hb))
              obtain ⟨d3, d4⟩ := hd2 m n hm (beyond_calm2 e1 e2 (.inr (.inl rfl)) d2)
              exact ⟨by rw [deepL, d1, d3]; rfl, d4⟩
          · cases h
    · cases h
end
/-- ████ WHAT A TEXT SAYS MAY BE. -/
theorem parse_may {l : List UInt8} {j : J} (h : parseR l = .ok j) : checkJ j = 0 := by
  unfold parseR at h
  cases hT : tokensR l with
  | error e => rw [hT] at h; cases h
  | ok ts =>
    rw [hT] at h
    simp only at h
    split at h
    · cases h
    · rename_i hb
      cases hp : pv (2 * ts.length + 1) ts false with
      | none => rw [hp] at h; cases h
      | some r =>
        obtain ⟨j', R, tw⟩ := r
        rw [hp] at h
        simp only at h
        split at h
        · rename_i hR
          cases tw with
          | true => simp at h
          | false =>
            simp only [Bool.false_eq_true, if_false, Except.ok.injEq] at h
            subst h
            have hG := toks_GT l.length 0 l ts (Nat.le_refl _) (tokensR_va hT) (tokensR_ok hT).1
            obtain ⟨_, hf, _, hd⟩ := pv_may _ ts false j' R hG hp
            have hd2 := (hd 64 0 (by omega) (by simpa using hb)).1
            unfold checkJ
            rw [if_neg (by rw [hd2]; simp), hf]
        · cases h
end Go.Proofs.YtmkjoonbjmieoaaDoor
