/-
  PLAIN FACTS: the tokens of a text as a string of JSON are one string of that text. No program; no condition but those that each theorem says.
  PLAIN FACTS: what a string says, point by point, is what it says byte by byte, where the text is valid. No program; no condition but those that each theorem says.
-/
import Derived.Test.YtmkjoonbjmieoaaDoorQQuo
import Derived.Test.YtmkjoonbjmieoaaDoorQToks
namespace Go.Proofs.YtmkjoonbjmieoaaDoor

theorem valid_low (m : List UInt8) : ∀ a : List UInt8, (∀ c ∈ a, c.toNat < 128) → valid (a ++ m) = valid m
  | [], _ => rfl
  | c :: a, h => by
    rw [List.cons_append, valid_ascii c _ (h c List.mem_cons_self)]
    exact valid_low m a (fun d hd => h d (List.mem_cons_of_mem _ hd))
theorem dg_toNat (n : Nat) (h : n < 16) : (dg n).toNat = if n < 10 then 48 + n else 87 + n := by
  unfold dg
  rw [ofNat_toNat _ (by split <;> omega)]
theorem qP_low (p : Nat) (h : p < 128) : ∀ c ∈ qP p, c.toNat < 128 := by
  intro c hc
  unfold qP at hc
  have d1 : p < 32 → (dg (p / 16)).toNat < 128 := fun h => by rw [dg_toNat _ (by omega)]; split <;> omega
  have d2 : (dg (p % 16)).toNat < 128 := by rw [dg_toNat _ (by omega)]; split <;> omega
  have e1 : encL p = [UInt8.ofNat p] := enc_ascii p h
  have e2 : (UInt8.ofNat p).toNat < 128 := by rw [ofNat_toNat p (by omega)]; exact h
  rw [e1] at hc
  repeat' split at hc
  all_goals (simp only [List.mem_cons, List.not_mem_nil, or_false] at hc)
  all_goals first
    | (rcases hc with rfl | rfl | rfl | rfl | rfl | rfl <;> first | decide | exact d1 (by assumption) | exact d2)
    | (rcases hc with rfl | rfl <;> decide)
    | (rw [hc]; exact e2)
theorem valid_qP (p : Nat) (hp : isPt (p : Int) = true) (m : List UInt8) : valid (qP p ++ m) = valid m := by
  by_cases h : p < 128
  · exact valid_low m _ (qP_low p h)
  · have e : qP p = encL p := by
      unfold qP
      rw [if_neg (by omega), if_neg (by omega), if_neg (by omega), if_neg (by omega), if_neg (by omega), if_neg (by omega), if_neg (by omega), if_neg (by omega)]
    rw [e]
    exact valid_append m _ (valid_enc p hp)
theorem valid_bodyQ (m : List UInt8) (l : List UInt8) : valid l = true → valid (bodyQ l ++ m) = valid m := by
  induction l using by_pieces with
  | nil => intro _; rfl
  | cons l h ih =>
    intro hv
    rw [valid_cons l h, Bool.and_eq_true, decide_eq_true_eq] at hv
    rw [bodyQ_next l h hv.1, List.append_assoc, valid_qP _ (isPt_pt l hv.1), ih hv.2]
theorem valid_quote (l : List UInt8) (h : valid l = true) : valid (quoteL l) = true := by
  unfold quoteL
  rw [valid_ascii _ _ (by decide), valid_bodyQ _ l h]
  decide
/-- A letter's escape. -/
theorem strP_letter (c : UInt8) (p : Nat) (m : List UInt8) (h : short c.toNat = some p) : strP (92 :: c :: m) = go (encL p) 2 (strP m) := by
  rw [strP_esc _ (by simp) rfl]
  have e : escP ((92 :: c :: m).drop 1) = some (p, 1) := by
    unfold escP
    rw [if_neg (by simp)]
    have : nth ((92 :: c :: m).drop 1) 0 = c.toNat := rfl
    rw [this, h]
  rw [e]
  show (match strP m with | none => none | some (x, n) => some (encL p ++ x, n + (1 + 1))) = _
  cases strP m <;> rfl
theorem hexD_dg (n : Nat) (h : n < 16) : hexD (dg n) = some n := by
  rcases (show n = 0 ∨ n = 1 ∨ n = 2 ∨ n = 3 ∨ n = 4 ∨ n = 5 ∨ n = 6 ∨ n = 7 ∨ n = 8 ∨ n = 9 ∨ n = 10 ∨ n = 11 ∨ n = 12 ∨ n = 13 ∨ n = 14 ∨ n = 15 by omega) with rfl | rfl | rfl | rfl | rfl | rfl | rfl | rfl | rfl | rfl | rfl | rfl | rfl | rfl | rfl | rfl
  all_goals decide
theorem strP_hex (p : Nat) (h : p < 32) (m : List UInt8) : strP (92 :: 117 :: 48 :: 48 :: dg (p / 16) :: dg (p % 16) :: m) = go (encL p) 6 (strP m) := by
  rw [strP_esc _ (by simp) rfl]
  have e : escP ((92 :: 117 :: 48 :: 48 :: dg (p / 16) :: dg (p % 16) :: m).drop 1) = some (p, 5) := by
    have hu : unitU ((92 :: 117 :: 48 :: 48 :: dg (p / 16) :: dg (p % 16) :: m).drop 1) = some p := by
      show unitU (117 :: 48 :: 48 :: dg (p / 16) :: dg (p % 16) :: m) = _
      unfold unitU
      rw [if_pos (show fst (is1 117) (117 :: 48 :: 48 :: dg (p / 16) :: dg (p % 16) :: m) = true from (by decide : is1 117 117 = true))]
      show hex4 (48 :: 48 :: dg (p / 16) :: dg (p % 16) :: m) = _
      unfold hex4
      rw [if_neg (by simp)]
      show hexN 0 [48, 48, dg (p / 16), dg (p % 16)] = _
      have h0 : hexD 48 = some 0 := by decide
      rw [hexN_cons_some h0, hexN_cons_some h0, hexN_cons_some (hexD_dg (p / 16) (by omega)), hexN_cons_some (hexD_dg (p % 16) (by omega))]
      show some _ = some _
      congr 1
      omega
    rw [escP_unit _ _ hu, if_pos (by omega)]
  rw [e]
  show (match strP m with | none => none | some (x, n) => some (encL p ++ x, n + (5 + 1))) = _
  cases strP m <;> rfl
theorem nth_enc (p : Nat) (hp : isPt (p : Int) = true) (m : List UInt8) : (p < 128 → nth (encL p ++ m) 0 = p) ∧ (128 ≤ p → 128 ≤ nth (encL p ++ m) 0) := by
  have hb : p ≤ 1114111 := by unfold isPt at hp; rw [decide_eq_true_eq] at hp; omega
  constructor
  · intro h
    rw [enc_ascii p h]
    show (UInt8.ofNat p).toNat = p
    exact ofNat_toNat p (by omega)
  · intro h
    have hne := encL_ne p
    cases he : encL p with
    | nil => exact absurd he hne
    | cons c r =>
      have := encL_far p h hb c (by rw [he]; exact List.mem_cons_self)
      exact this
theorem strP_qP (p : Nat) (hp : isPt (p : Int) = true) (m : List UInt8) : strP (qP p ++ m) = go (encL p) (qP p).length (strP m) := by
  unfold qP
  by_cases h34 : p = 34
  · subst h34; exact strP_letter 34 34 m (by decide)
  by_cases h92 : p = 92
  · subst h92; exact strP_letter 92 92 m (by decide)
  by_cases h8 : p = 8
  · subst h8; exact strP_letter 98 8 m (by decide)
  by_cases h9 : p = 9
  · subst h9; exact strP_letter 116 9 m (by decide)
  by_cases h10 : p = 10
  · subst h10; exact strP_letter 110 10 m (by decide)
  by_cases h12 : p = 12
  · subst h12; exact strP_letter 102 12 m (by decide)
  by_cases h13 : p = 13
  · subst h13; exact strP_letter 114 13 m (by decide)
  rw [if_neg h34, if_neg h92, if_neg h8, if_neg h9, if_neg h10, if_neg h12, if_neg h13]
  by_cases h32 : p < 32
  · rw [if_pos h32]; exact strP_hex p h32 m
  · rw [if_neg h32]
    have hd := dec_enc_append p hp m
    have e1 : pt (encL p ++ m) = (p : Int) := by unfold pt; rw [hd]
    have e2 : wd (encL p ++ m) = (encL p).length := by unfold wd; rw [hd]
    have er : ptR (encL p ++ m) = (p : Int) := by unfold ptR; rw [e1, if_neg (by omega)]
    have hn := nth_enc p hp m
    have hne : encL p ++ m ≠ [] := by simp [encL_ne p]
    have n34 : nth (encL p ++ m) 0 ≠ 34 := by
      rcases Nat.lt_or_ge p 128 with h | h
      · rw [hn.1 h]; exact h34
      · have := hn.2 h; omega
    have n92 : nth (encL p ++ m) 0 ≠ 92 := by
      rcases Nat.lt_or_ge p 128 with h | h
      · rw [hn.1 h]; exact h92
      · have := hn.2 h; omega
    rw [strP_pt _ hne n34 n92 (by rw [er]; omega), e2, er, Int.toNat_natCast, List.drop_append_of_le_length (Nat.le_refl _), List.drop_length, List.nil_append]
    cases strP m <;> rfl
theorem strP_body (l : List UInt8) : valid l = true → strP (bodyQ l ++ [34]) = some (l, (bodyQ l).length + 1) := by
  induction l using by_pieces with
  | nil => intro _; rfl
  | cons l h ih =>
    intro hv
    rw [valid_cons l h, Bool.and_eq_true, decide_eq_true_eq] at hv
    rw [bodyQ_next l h hv.1, List.append_assoc, strP_qP _ (isPt_pt l hv.1), ih hv.2, enc_dec l h hv.1]
    show some (_ ++ _, _) = _
    rw [List.take_append_drop, List.length_append]
    congr 2
    omega
/-- ████ The tokens of a text as a string are one string of that text. -/
theorem toks_quote (l : List UInt8) (h : valid l = true) : tokensR (quoteL l) = .ok [(4, l, 0, (quoteL l).length)] := by
  have hv := valid_quote l h
  have hlen : (quoteL l).length = (bodyQ l).length + 2 := by unfold quoteL; simp
  unfold tokensR
  rw [valid_good, decide_eq_true_eq] at hv
  rw [if_neg (by omega)]
  have ht : tokP (quoteL l) = some (4, l, (quoteL l).length) := by
    have hb := strP_body l h
    unfold tokP
    have m0 : markLen (quoteL l) = 0 := by unfold markLen quoteL; rw [if_neg (by simp [fst, isM])]
    have w0 : wordLen (quoteL l) = 0 := by
      have hr : run isL (quoteL l) = 0 := run_no _ _ (by unfold quoteL; simp [fst, isL])
      unfold wordLen; rw [hr]; rfl
    have n0 : numLen (quoteL l) = 0 := by
      have e1 : minLen (quoteL l) = 0 := by unfold minLen quoteL; rw [if_neg (by simp [fst, is1])]
      have e2 : wholeLen (quoteL l) = 0 := by
        unfold wholeLen
        rw [if_neg (by unfold quoteL; simp [fst, is1])]
        exact run_no _ _ (by unfold quoteL; simp [fst, isD])
      unfold numLen
      simp only [e1, List.drop_zero, e2, if_true]
    rw [if_neg (by omega), if_neg (by omega), if_neg (by omega)]
    unfold tokStr
    rw [if_pos (by unfold quoteL; simp [fst, is1])]
    have hd : (quoteL l).drop 1 = bodyQ l ++ [34] := rfl
    rw [hd, hb, hlen]
    rfl
  have hne : quoteL l ≠ [] := by unfold quoteL; simp
  rw [toks_cons 0 _ hne (by unfold quoteL; simp [fst, isB]), ht]
  simp only [Nat.zero_add, List.drop_length]
  rw [toks_end]
  rfl
end Go.Proofs.YtmkjoonbjmieoaaDoor
namespace Go.Proofs.YtmkjoonbjmieoaaDoor

theorem hexN_all : ∀ (l : List UInt8) (n m : Nat), hexN n l = some m → ∀ c ∈ l, c.toNat < 128
  | [], _, _, _, c, hc => by cases hc
  | a :: l, n, m, h, c, hc => by
    cases ha : hexD a with
    | none => rw [hexN_cons_none ha] at h; cases h
    | some d =>
      rw [hexN_cons_some ha] at h
      rcases List.mem_cons.1 hc with rfl | hc
      · exact (hexD_lt ha).2
      · exact hexN_all l _ _ h c hc
theorem unitU_last (l : List UInt8) (a : Nat) (h : unitU l = some a) : nth l 4 < 128 := by
  have hl := unitU_lt h
  unfold unitU at h
  split at h
  · unfold hex4 at h
    split at h
    · cases h
    · have hm := hexN_all _ _ _ h
      have h4 : 4 < l.length := by omega
      have hmem : l[4] ∈ (l.drop 1).take 4 := by
        refine List.mem_of_getElem? (i := 3) ?_
        rw [List.getElem?_take, if_pos (by omega), List.getElem?_drop, List.getElem?_eq_getElem h4]
      have := hm _ hmem
      unfold nth
      rw [List.getD_eq_getElem?_getD, List.getElem?_eq_getElem h4]
      exact this
  · cases h
theorem escP_last (l : List UInt8) (p k : Nat) (h : escP l = some (p, k)) : nth l (k - 1) < 128 := by
  cases hu : unitU l with
  | none =>
    rw [escP_short l hu] at h
    unfold shortP at h
    split at h
    · cases h
    · cases hs : short (nth l 0) with
      | none => rw [hs] at h; cases h
      | some q =>
        rw [hs] at h
        simp only [Option.map_some, Option.some.injEq, Prod.mk.injEq] at h
        rw [← h.2]
        exact (short_lt hs).2.1
  | some a =>
    rw [escP_unit l a hu] at h
    split at h
    · simp only [Option.some.injEq, Prod.mk.injEq] at h
      rw [← h.2]
      exact unitU_last l a hu
    · split at h
      · cases h
      · split at h
        · cases h
        · rename_i b hb
          split at h
          · cases h
          · simp only [Option.some.injEq, Prod.mk.injEq] at h
            rw [← h.2]
            unfold unitB at hb
            split at hb
            · rw [List.drop_drop] at hb
              have := unitU_last _ b hb
              rw [nth_drop] at this
              exact this
            · cases hb
theorem far_plain (l : List UInt8) (h : ∀ c ∈ l, 128 ≤ c.toNat) : ∀ c ∈ l, plainB c := by
  intro c hc
  have := h c hc
  exact ⟨by omega, by omega, by omega⟩
/-- ████ Point by point is byte by byte. -/
theorem strP_strB : ∀ (n : Nat) (l : List UInt8), l.length ≤ n → valid l = true → strP l = strB l
  | _, [], _, _ => rfl
  | 0, c :: t, h, _ => by simp at h
  | n + 1, c :: t, h, hv => by
    rw [List.length_cons] at h
    have h0 : nth (c :: t) 0 = c.toNat := rfl
    have hne : c :: t ≠ [] := by simp
    by_cases h34 : c.toNat = 34
    · rw [strP_end _ hne h34, strB_end c t h34]
    by_cases h92 : c.toNat = 92
    · rw [strP_esc _ hne h92, strB_esc c t h92]
      have hd : (c :: t).drop 1 = t := rfl
      rw [hd]
      cases he : escP t with
      | none => rfl
      | some x =>
        obtain ⟨p, k⟩ := x
        have hk := escP_le he
        have hlast := escP_last t p k he
        have hdk : (c :: t).drop (k + 1) = t.drop k := rfl
        have hvt : valid (t.drop k) = true := by
          rw [← hdk]
          refine valid_drop _ (k + 1) hv (by omega) (by rw [List.length_cons]; omega) ?_
          rw [show k + 1 - 1 = (k - 1) + 1 by omega]
          exact hlast
        simp only [hdk]
        rw [strP_strB n (t.drop k) (by rw [List.length_drop]; omega) hvt]
        cases strB (t.drop k) <;> rfl
    by_cases h128 : c.toNat < 128
    · obtain ⟨e1, e2⟩ := ptR_near (c :: t) h128
      rw [h0] at e1
      by_cases h32 : c.toNat < 32
      · rw [strP_low _ hne h34 h92 (by rw [e1]; omega), strB_low c t h34 h32]
      · have hvt : valid t = true := by rw [← valid_ascii c t h128]; exact hv
        rw [strP_pt _ hne h34 h92 (by rw [e1]; omega), e2, e1, Int.toNat_natCast, strB_one c t ⟨h34, h32, h92⟩]
        have hd : (c :: t).drop 1 = t := rfl
        rw [hd, strP_strB n t (by omega) hvt, enc_ascii c.toNat h128]
        have hc : UInt8.ofNat c.toNat = c := by simp
        rw [hc]
        cases strB t <;> rfl
    · rw [valid_cons _ hne, Bool.and_eq_true, decide_eq_true_eq] at hv
      obtain ⟨hp, hvd⟩ := hv
      have hfar := ptR_far (c :: t) (by rw [h0]; omega)
      have hr : ptR (c :: t) = pt (c :: t) := by unfold ptR; rw [if_neg (by omega)]
      rw [strP_pt _ hne h34 h92 (by omega), hr, enc_dec _ hne hp]
      rw [hr] at hfar
      have hpl := pt_le (c :: t)
      have hlt := drop_lt (c :: t) hne
      have hw := wd_le _ hne
      rw [List.length_cons] at hlt
      have hb : strB (c :: t) = strB ((c :: t).take (wd (c :: t)) ++ (c :: t).drop (wd (c :: t))) := by rw [List.take_append_drop]
      rw [hb, strB_many _ _ (far_plain _ (by
        intro d hd
        rw [← enc_dec _ hne hp] at hd
        exact encL_far _ (by omega) (by omega) d hd)), strP_strB n _ (by omega) hvd, List.length_take, Nat.min_eq_left hw]
end Go.Proofs.YtmkjoonbjmieoaaDoor
