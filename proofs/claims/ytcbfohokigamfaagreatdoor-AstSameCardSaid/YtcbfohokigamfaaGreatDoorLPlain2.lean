/-
  PLAIN FACTS ABOUT WHAT THE WORDS OF A TEXT OF MiniGo ARE WHERE THEY ARE WRITTEN AGAIN, EACH WITH A BLANK BEHIND IT: the same tokens, but for places. No program; no condition but those that each theorem says.
-/
import Derived.Test.YtcbfohokigamfaaGreatDoorLPlain
namespace Go.Proofs.YtcbfohokigamfaaGreatDoor

theorem isPt_pt (l : List UInt8) (h : 0 ≤ pt l) : isPt (((pt l).toNat : Nat) : Int) = true := by
  have e1 : (((pt l).toNat : Nat) : Int) = pt l := by omega
  rw [e1]
  clear e1
  have hp : pt l = (decN (nth l 0) (nth l 1) (nth l 2) (nth l 3)).1 := rfl
  rw [hp] at h ⊢
  generalize nth l 0 = a at *
  generalize nth l 1 = b at *
  generalize nth l 2 = c at *
  generalize nth l 3 = d at *
  unfold isPt
  rw [decide_eq_true_eq]
  revert h
  unfold decN
  repeat' split
  all_goals (intro h; simp only at h ⊢; omega)
/-- A valid text's part up to a byte below 128 is valid. -/
theorem valid_take (l : List UInt8) : ∀ n, valid l = true → 0 < n → n ≤ l.length → nth l (n - 1) < 128 → valid (l.take n) = true := by
  intro n hv h0 hn hb
  have hd := valid_drop l n hv h0 hn hb
  induction l using by_pieces generalizing n with
  | nil => rw [List.take_nil]; rfl
  | cons l h ih =>
    have hv0 := hv
    rw [valid_cons l h, Bool.and_eq_true, decide_eq_true_eq] at hv
    have hw := wd_le l h
    have hwp := wd_pos l
    obtain ⟨w2, w3, w4⟩ := decN_wide (nth l 0) (nth l 1) (nth l 2) (nth l 3)
    have hh := decN_head (nth l 0) (nth l 1) (nth l 2) (nth l 3)
    have hwd : wd l = (decN (nth l 0) (nth l 1) (nth l 2) (nth l 3)).2 := rfl
    rw [← hwd] at w2 w3 w4 hh
    have h4 := wd_le4 l
    have hge : wd l ≤ n := by
      rcases Nat.lt_or_ge n (wd l) with hlt | hge
      · exfalso
        rcases Nat.lt_or_ge n 2 with c | c
        · have e1 : n = 1 := by omega
          subst e1
          have g1 := (hh (by omega)).1
          rw [Nat.sub_self] at hb
          omega
        · have c1 : n = 2 ∨ n = 3 := by omega
          rcases c1 with rfl | rfl
          · have := w2 (by omega); simp at hb; omega
          · have := w3 (by omega); simp at hb; omega
      · exact hge
    have hsp : l.take n = l.take (wd l) ++ (l.drop (wd l)).take (n - wd l) := by
      have := List.take_add (l := l) (i := wd l) (j := n - wd l)
      rw [show wd l + (n - wd l) = n by omega] at this
      exact this
    have hne : l.take (wd l) ≠ [] := by
      intro e
      have := congrArg List.length e
      rw [List.length_take, List.length_nil] at this
      have := List.length_pos_iff.2 h
      omega
    have hval : valid (l.take (wd l)) = true := by
      have he : l.take (wd l) = encL (pt l).toNat := (enc_dec l h hv.1).symm
      rw [he]
      refine valid_enc _ ?_
      exact isPt_pt l hv.1
    rw [hsp, valid_append _ _ hval]
    by_cases he : n = wd l
    · rw [he, Nat.sub_self]; rfl
    · have hb2 : nth (l.drop (wd l)) (n - wd l - 1) < 128 := by
        rw [nth_drop, show wd l + (n - wd l - 1) = n - 1 by omega]; exact hb
      refine ih (n - wd l) hv.2 (by omega) (by rw [List.length_drop]; omega) hb2 ?_
      exact valid_drop _ _ hv.2 (by omega) (by rw [List.length_drop]; omega) hb2
/-- Where a byte below 128 stands a valid text goes on as one. -/
theorem valid_at (l : List UInt8) : ∀ n, valid l = true → n < l.length → nth l n < 128 → valid (l.drop n) = true := by
  induction l using by_pieces with
  | nil => intro n _ h _; simp at h
  | cons l h ih =>
    intro n hv hn hb
    have hv0 := hv
    rw [valid_cons l h, Bool.and_eq_true, decide_eq_true_eq] at hv
    have hw := wd_le l h
    have hwp := wd_pos l
    obtain ⟨w2, w3, w4⟩ := decN_wide (nth l 0) (nth l 1) (nth l 2) (nth l 3)
    have hwd : wd l = (decN (nth l 0) (nth l 1) (nth l 2) (nth l 3)).2 := rfl
    rw [← hwd] at w2 w3 w4
    have h4 := wd_le4 l
    rcases Nat.lt_or_ge n (wd l) with hlt | hge
    · have c0 : n = 0 ∨ n = 1 ∨ n = 2 ∨ n = 3 := by omega
      rcases c0 with rfl | rfl | rfl | rfl
      · exact hv0
      · have := w2 (by omega); omega
      · have := w3 (by omega); omega
      · have := w4 (by omega); omega
    · have e : l.drop n = (l.drop (wd l)).drop (n - wd l) := by rw [List.drop_drop]; congr 1; omega
      rw [e]
      refine ih (n - wd l) hv.2 (by rw [List.length_drop]; omega) ?_
      rw [nth_drop, show wd l + (n - wd l) = n by omega]; exact hb
theorem valid_low (m : List UInt8) : ∀ a : List UInt8, (∀ c ∈ a, c.toNat < 128) → valid (a ++ m) = valid m
  | [], _ => rfl
  | c :: a, h => by
    rw [List.cons_append, valid_ascii c _ (h c List.mem_cons_self)]
    exact valid_low m a fun x hx => h x (List.mem_cons_of_mem _ hx)
theorem valid_lows (a : List UInt8) (h : ∀ c ∈ a, c.toNat < 128) : valid a = true := by
  have := valid_low [] a h
  rw [List.append_nil] at this
  rw [this]; rfl

theorem fst_cut (p : UInt8 → Bool) (l : List UInt8) (n : Nat) (m : List UInt8) (h : 1 ≤ n) (hl : l ≠ []) : fst p (l.take n ++ m) = fst p l := by
  cases l with
  | nil => exact absurd rfl hl
  | cons c l => obtain ⟨k, rfl⟩ : ∃ k, n = k + 1 := ⟨n - 1, by omega⟩; rfl
theorem run_cut (p : UInt8 → Bool) (c : UInt8) (m : List UInt8) (hc : p c = false) : ∀ (l : List UInt8) (n : Nat), run p l ≤ n → n ≤ l.length → run p (l.take n ++ c :: m) = run p l
  | [], n, _, h => by
    rw [List.take_nil]
    show run p (c :: m) = 0
    rw [run, if_neg (by rw [hc]; simp)]
  | d :: l, n, h1, h2 => by
    rw [run] at h1 ⊢
    by_cases hd : p d = true
    · rw [if_pos hd] at h1 ⊢
      obtain ⟨k, rfl⟩ : ∃ k, n = k + 1 := ⟨n - 1, by omega⟩
      rw [List.length_cons] at h2
      rw [List.take_succ_cons, List.cons_append, run, if_pos hd, run_cut p c m hc l k (by omega) (by omega)]
    · rw [if_neg hd]
      cases n with
      | zero => rw [List.take_zero]; show run p (c :: m) = 0; rw [run, if_neg (by rw [hc]; simp)]
      | succ k => rw [List.take_succ_cons, List.cons_append, run, if_neg hd]
theorem drop_cut (l : List UInt8) (n j : Nat) (m : List UInt8) (hj : j ≤ n) (hn : n ≤ l.length) : (l.take n ++ m).drop j = (l.drop j).take (n - j) ++ m := by
  rw [List.drop_append_of_le_length (by rw [List.length_take]; omega), List.drop_take]
theorem take_cut (l : List UInt8) (n j : Nat) (m : List UInt8) (hj : j ≤ n) (hn : n ≤ l.length) : (l.take n ++ m).take j = l.take j := by
  rw [List.take_append_of_le_length (by rw [List.length_take]; omega), List.take_take, Nat.min_eq_left hj]
theorem fst_ne (p : UInt8 → Bool) (l : List UInt8) (h : fst p l = true) : l ≠ [] := by
  intro e; subst e; simp [fst] at h
theorem expL_cut (l m : List UInt8) : expL (l.take (expL l) ++ 32 :: m) = expL l := by
  have hle := expL_le l
  by_cases h1 : fst (is1 101) l = true
  · have hne := fst_ne _ _ h1
    by_cases h2 : run isD (l.drop (1 + signLen (l.drop 1))) = 0
    · have e : expL l = 0 := by unfold expL; rw [if_pos h1, if_pos h2]
      rw [e, List.take_zero]; rfl
    · have e : expL l = 1 + signLen (l.drop 1) + run isD (l.drop (1 + signLen (l.drop 1))) := by unfold expL; rw [if_pos h1, if_neg h2]
      have hs := signLen_le (l.drop 1)
      have hr := run_le isD (l.drop (1 + signLen (l.drop 1)))
      rw [List.length_drop] at hs hr
      have f1 : fst (is1 101) (l.take (expL l) ++ 32 :: m) = true := by rw [fst_cut _ _ _ _ (by omega) hne]; exact h1
      have d1 : (l.take (expL l) ++ 32 :: m).drop 1 = (l.drop 1).take (expL l - 1) ++ 32 :: m := drop_cut _ _ _ _ (by omega) hle
      have hne1 : l.drop 1 ≠ [] := by
        intro e1
        have := congrArg List.length e1
        rw [List.length_drop] at this
        simp at this
        omega
      have s1 : signLen ((l.take (expL l) ++ 32 :: m).drop 1) = signLen (l.drop 1) := by
        rw [d1]
        unfold signLen
        rw [fst_cut _ _ _ _ (by omega) hne1]
      have d2 : (l.take (expL l) ++ 32 :: m).drop (1 + signLen (l.drop 1)) = (l.drop (1 + signLen (l.drop 1))).take (expL l - (1 + signLen (l.drop 1))) ++ 32 :: m := drop_cut _ _ _ _ (by omega) hle
      have r1 : run isD ((l.take (expL l) ++ 32 :: m).drop (1 + signLen (l.drop 1))) = run isD (l.drop (1 + signLen (l.drop 1))) := by
        rw [d2]
        exact run_cut isD 32 m rfl _ _ (by omega) (by rw [List.length_drop]; omega)
      have e2 : expL (l.take (expL l) ++ 32 :: m) = if run isD ((l.take (expL l) ++ 32 :: m).drop (1 + signLen ((l.take (expL l) ++ 32 :: m).drop 1))) = 0 then 0 else 1 + signLen ((l.take (expL l) ++ 32 :: m).drop 1) + run isD ((l.take (expL l) ++ 32 :: m).drop (1 + signLen ((l.take (expL l) ++ 32 :: m).drop 1))) := by
        generalize hx : l.take (expL l) ++ 32 :: m = x at *
        unfold expL
        rw [if_pos f1]
      rw [e2, s1, r1, if_neg h2, e]
  · have e : expL l = 0 := by unfold expL; rw [if_neg h1]
    rw [e, List.take_zero]; rfl
theorem numK_cut (l m : List UInt8) (h : fst isD l = true) : numK (l.take (numK l).2 ++ 32 :: m) = numK l := by
  have hle := numK_le l
  have hr := run_le isD l
  have h0 : 1 ≤ run isD l := by rw [run_yes isD l h]; omega
  by_cases h1 : fst (is1 46) (l.drop (run isD l)) = true
  · have hne := fst_ne _ _ h1
    by_cases h2 : run isD (l.drop (run isD l + 1)) = 0
    · have e : numK l = (3, run isD l) := by unfold numK; rw [if_pos h1, if_pos h2]
      rw [e]
      simp only
      have r1 : run isD (l.take (run isD l) ++ 32 :: m) = run isD l := run_cut isD 32 m rfl l _ (Nat.le_refl _) hr
      have d1 : (l.take (run isD l) ++ 32 :: m).drop (run isD l) = 32 :: m := by
        rw [drop_cut _ _ _ _ (Nat.le_refl _) hr, Nat.sub_self, List.take_zero]; rfl
      have e2 : numK (l.take (run isD l) ++ 32 :: m) = (3, run isD l) := by
        generalize hx : l.take (run isD l) ++ 32 :: m = x at *
        unfold numK
        rw [r1, d1, if_neg (by simp [fst, is1])]
      exact e2
    · have e : numK l = (4, run isD l + 1 + run isD (l.drop (run isD l + 1)) + expL (l.drop (run isD l + 1 + run isD (l.drop (run isD l + 1))))) := by unfold numK; rw [if_pos h1, if_neg h2]
      rw [e] at hle ⊢
      simp only at hle ⊢
      have hr2 := run_le isD (l.drop (run isD l + 1))
      rw [List.length_drop] at hr2
      generalize hE : expL (l.drop (run isD l + 1 + run isD (l.drop (run isD l + 1)))) = E at *
      generalize hb : run isD (l.drop (run isD l + 1)) = b at *
      generalize ha : run isD l = a at *
      have r1 : run isD (l.take (a + 1 + b + E) ++ 32 :: m) = a := by
        rw [run_cut isD 32 m rfl l _ (by omega) hle, ha]
      have d1 : (l.take (a + 1 + b + E) ++ 32 :: m).drop a = (l.drop a).take (a + 1 + b + E - a) ++ 32 :: m := drop_cut _ _ _ _ (by omega) hle
      have f1 : fst (is1 46) ((l.take (a + 1 + b + E) ++ 32 :: m).drop a) = true := by
        rw [d1, fst_cut _ _ _ _ (by omega) hne]; exact h1
      have d2 : (l.take (a + 1 + b + E) ++ 32 :: m).drop (a + 1) = (l.drop (a + 1)).take (a + 1 + b + E - (a + 1)) ++ 32 :: m := drop_cut _ _ _ _ (by omega) hle
      have r2 : run isD ((l.take (a + 1 + b + E) ++ 32 :: m).drop (a + 1)) = b := by
        rw [d2, run_cut isD 32 m rfl _ _ (by omega) (by rw [List.length_drop]; omega), hb]
      have d3 : (l.take (a + 1 + b + E) ++ 32 :: m).drop (a + 1 + b) = (l.drop (a + 1 + b)).take E ++ 32 :: m := by
        rw [drop_cut _ _ _ _ (by omega) hle]; congr 2; omega
      have e3 : expL ((l.take (a + 1 + b + E) ++ 32 :: m).drop (a + 1 + b)) = E := by
        rw [d3]
        have := expL_cut (l.drop (a + 1 + b)) m
        rw [hE] at this
        exact this
      generalize hx : l.take (a + 1 + b + E) ++ 32 :: m = x at *
      unfold numK
      rw [r1, if_pos f1, r2, if_neg h2, e3]
  · have e : numK l = (3, run isD l) := by unfold numK; rw [if_neg h1]
    rw [e]
    simp only
    have r1 : run isD (l.take (run isD l) ++ 32 :: m) = run isD l := run_cut isD 32 m rfl l _ (Nat.le_refl _) hr
    have d1 : (l.take (run isD l) ++ 32 :: m).drop (run isD l) = 32 :: m := by
      rw [drop_cut _ _ _ _ (Nat.le_refl _) hr, Nat.sub_self, List.take_zero]; rfl
    have e2 : numK (l.take (run isD l) ++ 32 :: m) = (3, run isD l) := by
      generalize hx : l.take (run isD l) ++ 32 :: m = x at *
      unfold numK
      rw [r1, d1, if_neg (by simp [fst, is1])]
    exact e2
theorem pieceQ_cut (l m : List UInt8) (c : UInt8) (n : Nat) (h : pieceQ l = some (c, n)) (k : Nat) (hk : n ≤ k) : pieceQ (l.take k ++ m) = some (c, n) := by
  have hn := pieceQ_len h
  match l, h, hn with
  | [], h, _ => simp [pieceQ] at h
  | a :: t, h, hn =>
    obtain ⟨j, rfl⟩ : ∃ j, k = j + 1 := ⟨k - 1, by omega⟩
    rw [List.take_succ_cons, List.cons_append]
    simp only [pieceQ] at h ⊢
    by_cases h1 : a.toNat = 92
    · rw [if_pos h1] at h ⊢
      match t, h, hn with
      | [], h, _ => simp [escQ] at h
      | d :: u, h, hn =>
        have hj : 2 ≤ n := (escQ_len h).1
        obtain ⟨i, rfl⟩ : ∃ i, j = i + 1 := ⟨j - 1, by omega⟩
        rw [List.take_succ_cons, List.cons_append]
        simp only [escQ] at h ⊢
        by_cases g1 : d.toNat = 110
        · rw [if_pos g1] at h ⊢; exact h
        · rw [if_neg g1] at h ⊢
          by_cases g2 : d.toNat = 116
          · rw [if_pos g2] at h ⊢; exact h
          · rw [if_neg g2] at h ⊢
            by_cases g3 : d.toNat = 92 ∨ d.toNat = 34
            · rw [if_pos g3] at h ⊢; exact h
            · rw [if_neg g3] at h ⊢
              by_cases g4 : d.toNat = 120
              · rw [if_pos g4] at h ⊢
                have h4 := hexP_len h
                match u, h, h4 with
                | [], h, h4 => simp at h4
                | [x], h, h4 => simp at h4
                | x :: y :: v, h, h4 =>
                  obtain ⟨q, rfl⟩ : ∃ q, i = q + 2 := ⟨i - 2, by omega⟩
                  rw [List.take_succ_cons, List.take_succ_cons, List.cons_append, List.cons_append]
                  exact h
              · rw [if_neg g4] at h; cases h
    · rw [if_neg h1] at h ⊢
      exact h
theorem uqB_cut : ∀ (f : Nat) (l : List UInt8), l.length < f → ∀ (x : List UInt8) (n : Nat), uqB l = some (x, n) → ∀ m, uqB (l.take n ++ m) = some (x, n)
  | 0, _, hf, _, _, _, _ => by omega
  | f + 1, l, hf, x, n, h, m => by
    have hn := uqF_len _ _ _ _ h
    have hl : l ≠ [] := by intro e; subst e; cases h
    by_cases h1 : fst (is1 34) l = true
    · rw [uqB_end l h1] at h
      obtain ⟨rfl, rfl⟩ : [] = x ∧ 1 = n := by simpa using h
      exact uqB_end _ (by rw [fst_cut _ _ _ _ (Nat.le_refl _) hl]; exact h1)
    · have h1 : fst (is1 34) l = false := by simpa using h1
      have h2 : fst (is1 34) (l.take n ++ m) = false := by rw [fst_cut _ _ _ _ hn.1 hl]; exact h1
      cases hp : pieceQ l with
      | none => rw [uqB_bad l h1 hp] at h; cases h
      | some p =>
        obtain ⟨c, k⟩ := p
        have hk := pieceQ_len hp
        rw [uqB_step l h1 c k hp] at h
        cases hy : uqB (l.drop k) with
        | none => rw [hy] at h; cases h
        | some y =>
          obtain ⟨y, j⟩ := y
          rw [hy] at h
          obtain ⟨rfl, rfl⟩ : c :: y = x ∧ k + j = n := by simpa using h
          have hq := pieceQ_cut l m c k hp (k + j) (by omega)
          rw [uqB_step _ h2 c k hq, drop_cut l (k + j) k m (by omega) hn.2.1, show k + j - k = j by omega]
          rw [uqB_cut f (l.drop k) (by rw [List.length_drop]; omega) y j hy m]
theorem uqS_cut (l : List UInt8) (x : List UInt8) (n : Nat) (h : uqS l = some (x, n)) (m : List UInt8) : uqS (l.take n ++ m) = some (x, n) := by
  have hn := uqS_len h
  unfold uqS at h
  split at h
  · rename_i h1
    have hne := fst_ne _ _ h1
    cases he : uqB (l.drop 1) with
    | none => rw [he] at h; cases h
    | some y =>
      obtain ⟨y, j⟩ := y
      rw [he] at h
      obtain ⟨rfl, rfl⟩ : y = x ∧ j + 1 = n := by simpa using h
      unfold uqS
      rw [if_pos (by rw [fst_cut _ _ _ _ (by omega) hne]; exact h1), drop_cut l (j + 1) 1 m (by omega) hn.2.1, show j + 1 - 1 = j by omega, uqB_cut _ _ (Nat.lt_succ_self _) y j he m]
      rfl
  · cases h
end Go.Proofs.YtcbfohokigamfaaGreatDoor
