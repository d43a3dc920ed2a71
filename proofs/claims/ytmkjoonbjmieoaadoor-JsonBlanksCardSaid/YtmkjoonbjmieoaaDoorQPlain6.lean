/-
  PLAIN FACTS: what stands behind a token may be another text (tokP_cut); bytes below 128 in tokens; valid texts up to such a byte. No program; no condition but those that each theorem says.
-/
import Derived.Test.YtmkjoonbjmieoaaDoorQPlain5
import Derived.Test.YtmkjoonbjmieoaaDoorQPlain4
namespace Go.Proofs.YtmkjoonbjmieoaaDoor

/-- What stands behind a token leaves it as it is. -/
def Sep (r0 r1 : List UInt8) : Prop := (fst isL r1 = true → fst isL r0 = true) ∧ (fst isD r1 = true → fst isD r0 = true) ∧ fst (is1 46) r1 = false ∧ fst isE r1 = false
theorem take_cut (m r : List UInt8) (n k : Nat) (hk : k ≤ n) (hn : n ≤ m.length) : (m.take n ++ r).drop k = (m.drop k).take (n - k) ++ r := by
  rw [List.drop_append_of_le_length (by rw [List.length_take]; omega), List.drop_take]
theorem fst_cut (p : UInt8 → Bool) (m r : List UInt8) (n : Nat) (h0 : 0 < n) : m ≠ [] → fst p (m.take n ++ r) = fst p m := by
  intro hm
  cases m with
  | nil => exact absurd rfl hm
  | cons c m =>
    cases n with
    | zero => omega
    | succ n => rfl
theorem run_cut (p : UInt8 → Bool) (r : List UInt8) : ∀ (m : List UInt8) (n : Nat), n ≤ m.length → run p m ≤ n → (fst p r = true → fst p (m.drop n) = true) → run p (m.take n ++ r) = run p m
  | m, 0, _, h, hs => by
    rw [List.take_zero, List.nil_append]
    have h0 : run p m = 0 := by omega
    rw [h0]
    by_cases hr : fst p r = true
    · have := run_yes p m (by simpa using hs hr)
      omega
    · exact run_no p r (by simpa using hr)
  | [], n + 1, hl, _, _ => by simp at hl
  | c :: m, n + 1, hl, h, hs => by
    rw [List.take_succ_cons, List.cons_append, run, run]
    rw [run] at h
    by_cases hc : p c = true
    · rw [if_pos hc] at h ⊢
      rw [if_pos hc, run_cut p r m n (by simpa using hl) (by omega) (by simpa using hs)]
    · rw [if_neg hc, if_neg hc]
theorem numLen_cut (l r : List UInt8) (n : Nat) (h : numLen l = n) (h0 : n ≠ 0) (hs : Sep (l.drop n) r) : numLen (l.take n ++ r) = n := by
  obtain ⟨_, hsD, hs46, hsE⟩ := hs
  have hne : l ≠ [] := by
    rintro rfl
    exact h0 (by rw [← h]; rfl)
  have hle := numLen_le l
  rw [h] at hle
  have hm : minLen (l.take n ++ r) = minLen l := by
    unfold minLen; rw [fst_cut _ l r n (by omega) hne]
  have hml := minLen_le l
  unfold numLen at h ⊢
  rw [hm]
  simp only at h ⊢
  by_cases hw : wholeLen (l.drop (minLen l)) = 0
  · rw [if_pos hw] at h; omega
  rw [if_neg hw] at h
  have hfl := fracLen_le (l.drop (minLen l + wholeLen (l.drop (minLen l))))
  have hel := expLen_le (l.drop (minLen l + wholeLen (l.drop (minLen l)) + fracLen (l.drop (minLen l + wholeLen (l.drop (minLen l))))))
  have hwl := wholeLen_le (l.drop (minLen l))
  clear hm
  generalize minLen l = a at *
  generalize hww : wholeLen (l.drop a) = w at *
  replace hww := hww.symm
  generalize hff : fracLen (l.drop (a + w)) = f at *
  replace hff := hff.symm
  generalize hee : expLen (l.drop (a + w + f)) = e at *
  replace hee := hee.symm
  have hn : n = a + w + f + e := by omega
  clear h
  -- the whole part
  have e1 : wholeLen ((l.take n ++ r).drop a) = w := by
    rw [take_cut l r n a (by omega) hle]
    have hda : l.drop a ≠ [] := by
      intro h; rw [h] at hww; exact hw hww
    unfold wholeLen at hww ⊢
    rw [fst_cut _ _ r _ (by omega) hda]
    by_cases h48 : fst (is1 48) (l.drop a) = true
    · rw [if_pos h48] at hww ⊢; exact hww.symm
    · rw [if_neg h48] at hww ⊢
      rw [run_cut isD r (l.drop a) (n - a) (by rw [List.length_drop]; omega) (by omega) (by
        intro hr
        rw [List.drop_drop, show a + (n - a) = n by omega]
        exact hsD hr)]
      exact hww.symm
  rw [e1, if_neg hw]
  -- the fraction
  have e2 : fracLen ((l.take n ++ r).drop (a + w)) = f := by
    rw [take_cut l r n (a + w) (by omega) hle]
    by_cases hz : n - (a + w) = 0
    · rw [hz, List.take_zero, List.nil_append]
      unfold fracLen
      rw [if_neg (by rw [hs46]; simp)]
      omega
    · have hd : l.drop (a + w) ≠ [] := by
        intro h
        have := congrArg List.length h
        rw [List.length_drop, List.length_nil] at this
        omega
      unfold fracLen at hff ⊢
      rw [fst_cut _ _ r _ (by omega) hd]
      by_cases h46 : fst (is1 46) (l.drop (a + w)) = true
      · rw [if_pos h46] at hff ⊢
        rw [take_cut (l.drop (a + w)) r (n - (a + w)) 1 (by omega) (by rw [List.length_drop]; omega)]
        have hdn : (l.drop (a + w)).drop 1 = l.drop (a + w + 1) := by rw [List.drop_drop]
        have hrun : run isD ((l.drop (a + w)).drop 1) ≤ n - (a + w) - 1 := by
          split at hff
          · omega
          · omega
        rw [run_cut isD r _ (n - (a + w) - 1) (by rw [hdn, List.length_drop]; omega) hrun (by
          intro hr
          rw [hdn, List.drop_drop, show a + w + 1 + (n - (a + w) - 1) = n by omega]
          exact hsD hr)]
        exact hff.symm
      · rw [if_neg h46] at hff ⊢; exact hff.symm
  rw [e2]
  have e3 : expLen ((l.take n ++ r).drop (a + w + f)) = e := by
    rw [take_cut l r n (a + w + f) (by omega) hle]
    by_cases hz : n - (a + w + f) = 0
    · rw [hz, List.take_zero, List.nil_append]
      unfold expLen
      rw [if_neg (by rw [hsE]; simp)]
      omega
    · have hd : l.drop (a + w + f) ≠ [] := by
        intro h
        have := congrArg List.length h
        rw [List.length_drop, List.length_nil] at this
        omega
      unfold expLen at hee ⊢
      rw [fst_cut _ _ r _ (by omega) hd]
      by_cases hE : fst isE (l.drop (a + w + f)) = true
      · rw [if_pos hE] at hee ⊢
        have hd1 : (l.drop (a + w + f)).drop 1 = l.drop (a + w + f + 1) := by rw [List.drop_drop]
        have hse := signLen_le ((l.drop (a + w + f)).drop 1)
        by_cases hr0 : run isD ((l.drop (a + w + f)).drop (1 + signLen ((l.drop (a + w + f)).drop 1))) = 0
        · rw [if_pos hr0] at hee; omega
        · rw [if_neg hr0] at hee
          have hsg : signLen (((l.drop (a + w + f)).take (n - (a + w + f)) ++ r).drop 1) = signLen ((l.drop (a + w + f)).drop 1) := by
            rw [take_cut (l.drop (a + w + f)) r (n - (a + w + f)) 1 (by omega) (by rw [List.length_drop]; omega)]
            unfold signLen
            rw [fst_cut _ _ r _ (by omega) (by
              intro h
              rw [h] at hse
              have := congrArg List.length h
              rw [List.length_drop, List.length_drop, List.length_nil] at this
              omega)]
          rw [hsg, take_cut (l.drop (a + w + f)) r (n - (a + w + f)) _ (by omega) (by rw [List.length_drop]; omega)]
          rw [run_cut isD r _ _ (by rw [List.length_drop, List.length_drop]; omega) (by omega) (by
            intro hr
            rw [List.drop_drop, List.drop_drop]
            rw [show a + w + f + (1 + signLen ((l.drop (a + w + f)).drop 1) + (n - (a + w + f) - (1 + signLen ((l.drop (a + w + f)).drop 1)))) = n by omega]
            exact hsD hr), if_neg hr0]
          exact hee.symm
      · rw [if_neg hE] at hee ⊢; exact hee.symm
  rw [e3]
  exact hn.symm
theorem hex4_cut (l r : List UInt8) (a n : Nat) (h : hex4 l = some a) (h4 : 4 ≤ n) (hn : n ≤ l.length) : hex4 (l.take n ++ r) = some a := by
  have hl := hex4_lt h
  unfold hex4 at h ⊢
  rw [if_neg (by omega)] at h
  rw [if_neg (by rw [List.length_append, List.length_take]; omega), List.take_append_of_le_length (by rw [List.length_take]; omega), List.take_take, Nat.min_eq_left h4]
  exact h
theorem unitU_cut (l r : List UInt8) (a n : Nat) (h : unitU l = some a) (h5 : 5 ≤ n) (hn : n ≤ l.length) : unitU (l.take n ++ r) = some a := by
  have hl := unitU_lt h
  unfold unitU at h ⊢
  split at h
  · rename_i hf
    rw [fst_cut _ l r n (by omega) (by intro e; rw [e] at hl; simp at hl), if_pos hf, take_cut l r n 1 (by omega) hn]
    exact hex4_cut _ r a _ h (by omega) (by rw [List.length_drop]; omega)
  · cases h
theorem nth_cut (l r : List UInt8) (n k : Nat) (hk : k < n) (hn : n ≤ l.length) : nth (l.take n ++ r) k = nth l k := by
  rw [nth_append _ _ _ (by rw [List.length_take]; omega)]
  unfold nth
  rw [List.getD_eq_getElem?_getD, List.getD_eq_getElem?_getD, List.getElem?_take, if_pos hk]
theorem escP_cut (l r : List UInt8) (p k n : Nat) (h : escP l = some (p, k)) (hk : k ≤ n) (hn : n ≤ l.length) : escP (l.take n ++ r) = some (p, k) := by
  have hle := escP_le h
  have hne : l ≠ [] := by rintro rfl; simp at hle; omega
  unfold escP at h ⊢
  rw [if_neg hne] at h
  have hn0 : l.take n ++ r ≠ [] := by
    intro e
    have := congrArg List.length e
    rw [List.length_append, List.length_take, List.length_nil] at this
    omega
  rw [if_neg hn0, nth_cut l r n 0 (by omega) hn]
  cases hs : short (nth l 0) with
  | some c => rw [hs] at h; exact h
  | none =>
    rw [hs] at h
    simp only at h ⊢
    cases hu : unitU l with
    | none => rw [hu] at h; cases h
    | some a =>
      rw [hu] at h
      simp only at h
      have hul := unitU_lt hu
      by_cases c1 : a < 55296 ∨ 57343 < a
      · rw [if_pos c1] at h
        have hk5 : k = 5 := by simp only [Option.some.injEq, Prod.mk.injEq] at h; omega
        rw [unitU_cut l r a n hu (by omega) hn]
        simp only
        rw [if_pos c1]
        exact h
      · rw [if_neg c1] at h
        by_cases c2 : 56320 ≤ a
        · rw [if_pos c2] at h; cases h
        · rw [if_neg c2] at h
          by_cases c3 : fst (is1 92) (l.drop 5) = true
          · rw [if_pos c3] at h
            cases hb : unitU (l.drop 6) with
            | none => rw [hb] at h; cases h
            | some b =>
              rw [hb] at h
              simp only at h
              by_cases c4 : b < 56320 ∨ 57343 < b
              · rw [if_pos c4] at h; cases h
              · rw [if_neg c4] at h
                have hk11 : k = 11 := by simp only [Option.some.injEq, Prod.mk.injEq] at h; omega
                rw [unitU_cut l r a n hu (by omega) hn]
                simp only
                rw [if_neg c1, if_neg c2, take_cut l r n 5 (by omega) hn, fst_cut _ _ r _ (by omega) (by
                  intro e
                  have := congrArg List.length e
                  rw [List.length_drop, List.length_nil] at this
                  omega), if_pos c3, take_cut l r n 6 (by omega) hn, unitU_cut _ r b _ hb (by omega) (by rw [List.length_drop]; omega)]
                simp only
                rw [if_neg c4]
                exact h
          · rw [if_neg c3] at h; cases h
theorem strB_cut (r : List UInt8) : ∀ (j : Nat) (l x : List UInt8) (m n : Nat), l.length ≤ j → strB l = some (x, m) → m ≤ n → n ≤ l.length → strB (l.take n ++ r) = some (x, m)
  | _, [], _, _, _, _, h, _, _ => by rw [strB_nil] at h; cases h
  | 0, _ :: _, _, _, _, hj, _, _, _ => by simp at hj
  | j + 1, c :: t, x, m, n, hj, h, hm, hn => by
    rw [List.length_cons] at hj hn
    have hm1 : 1 ≤ m := by
      unfold strB at h
      rw [strF] at h
      split at h
      · simp only [Option.some.injEq, Prod.mk.injEq] at h; omega
      · split at h
        · cases h
        · split at h
          · split at h
            · cases h
            · split at h
              · cases h
              · simp only [Option.some.injEq, Prod.mk.injEq] at h; omega
          · split at h
            · cases h
            · simp only [Option.some.injEq, Prod.mk.injEq] at h; omega
    obtain ⟨n, rfl⟩ : ∃ n', n = n' + 1 := ⟨n - 1, by omega⟩
    rw [List.take_succ_cons, List.cons_append]
    by_cases h34 : c.toNat = 34
    · rw [strB_end c t h34] at h
      rw [strB_end c _ h34]; exact h
    by_cases h32 : c.toNat < 32
    · rw [strB_low c t h34 h32] at h; cases h
    by_cases h92 : c.toNat = 92
    · rw [strB_esc c t h92] at h
      rw [strB_esc c _ h92]
      cases he : escP t with
      | none => rw [he] at h; cases h
      | some y =>
        obtain ⟨p, k⟩ := y
        rw [he] at h
        simp only at h
        have hk := escP_le he
        cases hb : strB (t.drop k) with
        | none => rw [hb] at h; cases h
        | some z =>
          obtain ⟨y, q⟩ := z
          rw [hb] at h
          simp only [Option.some.injEq, Prod.mk.injEq] at h
          rw [escP_cut t r p k n he (by omega) (by omega)]
          simp only
          rw [take_cut t r n k (by omega) (by omega), strB_cut r j (t.drop k) y q (n - k) (by rw [List.length_drop]; omega) hb (by omega) (by rw [List.length_drop]; omega)]
          simp only [Option.some.injEq, Prod.mk.injEq]
          exact h
    · have hp : plainB c := ⟨h34, h32, h92⟩
      rw [strB_one c t hp] at h
      rw [strB_one c _ hp]
      cases hb : strB t with
      | none => rw [hb] at h; cases h
      | some z =>
        obtain ⟨y, q⟩ := z
        rw [hb] at h
        simp only [Option.some.injEq, Prod.mk.injEq] at h
        rw [strB_cut r j t y q n (by omega) hb (by omega) (by omega)]
        simp only [Option.some.injEq, Prod.mk.injEq]
        exact h
/-- All of the first n bytes are below 128. -/
def lowN (l : List UInt8) (n : Nat) : Prop := ∀ i, i < n → nth l i < 128
theorem lowN_add {l : List UInt8} {a b : Nat} (h : lowN l a) (k : lowN (l.drop a) b) : lowN l (a + b) := by
  intro i hi
  by_cases hia : i < a
  · exact h i hia
  · have := k (i - a) (by omega)
    rw [nth_drop] at this
    rwa [show a + (i - a) = i by omega] at this
theorem lowN_zero (l : List UInt8) : lowN l 0 := fun i hi => by omega
theorem lowN_fst (p : UInt8 → Bool) (hp : ∀ c, p c = true → c.toNat < 128) (l : List UInt8) (h : fst p l = true) : lowN l 1 := by
  intro i hi
  obtain rfl : i = 0 := by omega
  cases l with
  | nil => cases h
  | cons c l => exact hp c h
theorem lowN_run (p : UInt8 → Bool) (hp : ∀ c, p c = true → c.toNat < 128) : ∀ l : List UInt8, lowN l (run p l)
  | [] => lowN_zero _
  | c :: l => by
    rw [run]
    split
    · rename_i h
      rw [Nat.add_comm]
      exact lowN_add (lowN_fst p hp (c :: l) h) (lowN_run p hp l)
    · exact lowN_zero _
theorem mem_low (s : List UInt8) (hs : s.all (fun c => decide (c.toNat < 128)) = true) (c : UInt8) (h : s.contains c = true) : c.toNat < 128 := by
  rw [List.all_eq_true] at hs
  have := hs c (by simpa using h)
  simpa using this
theorem lowD (c : UInt8) (h : isD c = true) : c.toNat < 128 := mem_low _ (by decide) c h
theorem lowM (c : UInt8) (h : isM c = true) : c.toNat < 128 := mem_low _ (by decide) c h
theorem lowE (c : UInt8) (h : isE c = true) : c.toNat < 128 := mem_low _ (by decide) c h
theorem lowS (c : UInt8) (h : isS c = true) : c.toNat < 128 := mem_low _ (by decide) c h
theorem lowB (c : UInt8) (h : isB c = true) : c.toNat < 128 := mem_low _ (by decide) c h
theorem low1 (d : UInt8) (hd : d.toNat < 128) (c : UInt8) (h : is1 d c = true) : c.toNat < 128 := mem_low [d] (by simpa using hd) c h
theorem lowL (c : UInt8) (h : isL c = true) : c.toNat < 128 := by
  unfold isL at h
  rw [Bool.and_eq_true, decide_eq_true_eq, decide_eq_true_eq] at h
  omega
theorem lowN_whole (l : List UInt8) : lowN l (wholeLen l) := by
  unfold wholeLen
  split
  · exact lowN_fst _ (low1 48 (by decide)) l ‹_›
  · exact lowN_run _ lowD l
theorem lowN_min (l : List UInt8) : lowN l (minLen l) := by
  unfold minLen
  split
  · exact lowN_fst _ (low1 45 (by decide)) l ‹_›
  · exact lowN_zero _
theorem lowN_frac (l : List UInt8) : lowN l (fracLen l) := by
  unfold fracLen
  split
  · split
    · exact lowN_zero _
    · rw [Nat.add_comm]
      exact lowN_add (lowN_fst _ (low1 46 (by decide)) l ‹_›) (lowN_run _ lowD _)
  · exact lowN_zero _
theorem lowN_sign (l : List UInt8) : lowN l (signLen l) := by
  unfold signLen
  split
  · exact lowN_fst _ lowS l ‹_›
  · exact lowN_zero _
theorem lowN_exp (l : List UInt8) : lowN l (expLen l) := by
  unfold expLen
  split
  · split
    · exact lowN_zero _
    · exact lowN_add (lowN_add (lowN_fst _ lowE l ‹_›) (lowN_sign _)) (lowN_run _ lowD _)
  · exact lowN_zero _
theorem lowN_num (l : List UInt8) : lowN l (numLen l) := by
  unfold numLen
  simp only
  split
  · exact lowN_zero _
  · exact lowN_add (lowN_add (lowN_add (lowN_min l) (lowN_whole _)) (lowN_frac _)) (lowN_exp _)
theorem lowN_word (l : List UInt8) : lowN l (wordLen l) := by
  unfold wordLen
  split
  · exact lowN_run _ lowL l
  · exact lowN_zero _
theorem lowN_mark (l : List UInt8) : lowN l (markLen l) := by
  unfold markLen
  split
  · exact lowN_fst _ lowM l ‹_›
  · exact lowN_zero _
theorem strP_last : ∀ (j : Nat) (l x : List UInt8) (m : Nat), l.length ≤ j → strP l = some (x, m) → nth l (m - 1) = 34 ∧ 1 ≤ m
  | j, [], _, _, _, h => by rw [strP_nil] at h; cases h
  | 0, _ :: _, _, _, hj, _ => by simp at hj
  | j + 1, c :: t, x, m, hj, h => by
    rw [List.length_cons] at hj
    have hne : c :: t ≠ [] := by simp
    by_cases h34 : nth (c :: t) 0 = 34
    · rw [strP_end _ hne h34] at h
      simp only [Option.some.injEq, Prod.mk.injEq] at h
      rw [← h.2]
      exact ⟨h34, Nat.le_refl _⟩
    by_cases h92 : nth (c :: t) 0 = 92
    · rw [strP_esc _ hne h92] at h
      split at h
      · cases h
      · rename_i p k he
        have hk := escP_le he
        split at h
        · cases h
        · rename_i y q hb
          have ih := strP_last j _ y q (by rw [List.length_drop, List.length_cons]; omega) hb
          simp only [Option.some.injEq, Prod.mk.injEq] at h
          rw [nth_drop] at ih
          rw [← h.2, show q + (k + 1) - 1 = k + 1 + (q - 1) by omega]
          exact ⟨ih.1, by omega⟩
    by_cases h32 : ptR (c :: t) < 32
    · rw [strP_low _ hne h34 h92 h32] at h; cases h
    · rw [strP_pt _ hne h34 h92 h32] at h
      have hw := drop_lt (c :: t) hne
      have hwp := wd_pos (c :: t)
      split at h
      · cases h
      · rename_i y q hb
        rw [List.length_cons] at hw
        have ih := strP_last j _ y q (by omega) hb
        simp only [Option.some.injEq, Prod.mk.injEq] at h
        rw [nth_drop] at ih
        rw [← h.2, show q + wd (c :: t) - 1 = wd (c :: t) + (q - 1) by omega]
        exact ⟨ih.1, by omega⟩
theorem tokP_last {l x : List UInt8} {q n : Nat} (h : tokP l = some (q, x, n)) : nth l (n - 1) < 128 := by
  have hn := tokP_len h
  unfold tokP at h
  split at h
  · simp only [Option.some.injEq, Prod.mk.injEq] at h
    rw [← h.2.2]
    exact lowN_mark l _ (by omega)
  · split at h
    · simp only [Option.some.injEq, Prod.mk.injEq] at h
      rw [← h.2.2]
      exact lowN_word l _ (by omega)
    · split at h
      · simp only [Option.some.injEq, Prod.mk.injEq] at h
        rw [← h.2.2]
        exact lowN_num l _ (by omega)
      · unfold tokStr at h
        split at h
        · cases hs : strP (l.drop 1) with
          | none => rw [hs] at h; cases h
          | some y =>
            obtain ⟨y, m⟩ := y
            rw [hs] at h
            simp only [Option.map_some, Option.some.injEq, Prod.mk.injEq] at h
            have := strP_last _ _ y m (Nat.le_refl _) hs
            rw [nth_drop] at this
            rw [← h.2.2, show m + 1 - 1 = 1 + (m - 1) by omega, this.1]
            omega
        · cases h
/-- Up to a byte below 128 a valid text is one. -/
theorem valid_take (l : List UInt8) : ∀ n, valid l = true → n ≤ l.length → (n = 0 ∨ nth l (n - 1) < 128) → valid (l.take n) = true := by
  induction l using by_pieces with
  | nil => intro n _ _ _; rw [List.take_nil]; rfl
  | cons l h ih =>
    intro n hv hn hb
    rcases hb with rfl | hb
    · rfl
    by_cases hn0 : n = 0
    · subst hn0; rfl
    have hv' := hv
    rw [valid_cons l h, Bool.and_eq_true, decide_eq_true_eq] at hv
    have hw := wd_le l h
    have hwp := wd_pos l
    obtain ⟨w2, w3, w4⟩ := decN_wide (nth l 0) (nth l 1) (nth l 2) (nth l 3)
    have hh := decN_head (nth l 0) (nth l 1) (nth l 2) (nth l 3)
    have hwd : wd l = (decN (nth l 0) (nth l 1) (nth l 2) (nth l 3)).2 := rfl
    rw [← hwd] at w2 w3 w4 hh
    have h4 := wd_le4 l
    have hge : wd l ≤ n := by
      rcases Nat.lt_or_ge n (wd l) with hlt | hge
      · exfalso
        have c1 : n = 1 ∨ n = 2 ∨ n = 3 := by omega
        rcases c1 with rfl | rfl | rfl
        · have := hh (by omega); simp at hb; omega
        · have := w2 (by omega); simp at hb; omega
        · have := w3 (by omega); simp at hb; omega
      · exact hge
    have e : l.take n = l.take (wd l) ++ (l.drop (wd l)).take (n - wd l) := by
      have : n = wd l + (n - wd l) := by omega
      conv => lhs; rw [this]
      rw [List.take_add]
    have hvw : valid (l.take (wd l)) = true := by
      have hd : dec (l.take (wd l) ++ l.drop (wd l)) = dec l := by rw [List.take_append_drop]
      have hne : l.take (wd l) ≠ [] := by
        intro e0
        have := congrArg List.length e0
        rw [List.length_take, List.length_nil] at this
        omega
      have hsame : dec (l.take (wd l)) = dec l := by
        unfold dec
        have n0 : nth (l.take (wd l)) 0 = nth l 0 := by
          unfold nth; rw [List.getD_eq_getElem?_getD, List.getD_eq_getElem?_getD, List.getElem?_take, if_pos (by omega)]
        have nk : ∀ k, k < wd l → nth (l.take (wd l)) k = nth l k := by
          intro k hk
          unfold nth; rw [List.getD_eq_getElem?_getD, List.getD_eq_getElem?_getD, List.getElem?_take, if_pos hk]
        rw [n0]
        exact decN_same _ _ _ _ _ _ _ hv.1 (fun h2 => nk 1 (by omega)) (fun h3 => nk 2 (by omega)) (fun h4 => nk 3 (by omega))
      rw [valid_cons _ hne]
      have e1 : pt (l.take (wd l)) = pt l := by unfold pt; rw [hsame]
      have e2 : wd (l.take (wd l)) = wd l := by
        show (dec (l.take (wd l))).2 = wd l
        rw [hsame]; rfl
      rw [e1, e2, decide_eq_true hv.1, Bool.true_and]
      have : (l.take (wd l)).drop (wd l) = [] := by
        apply List.eq_nil_of_length_eq_zero
        rw [List.length_drop, List.length_take]
        omega
      rw [this]; rfl
    rw [e, valid_append _ _ hvw]
    refine ih (n - wd l) hv.2 (by rw [List.length_drop]; omega) ?_
    by_cases hz : n - wd l = 0
    · exact .inl hz
    · right
      rw [nth_drop, show wd l + (n - wd l - 1) = n - 1 by omega]
      exact hb
theorem markLen_no {l : List UInt8} (h : fst isM l = false) : markLen l = 0 := by unfold markLen; rw [h]; rfl
theorem wordLen_no {l : List UInt8} (h : fst isL l = false) : wordLen l = 0 := by
  unfold wordLen
  rw [run_no _ _ h]
  rfl
theorem numLen_no {l : List UInt8} (h : fst (is1 45) l = false) (h2 : fst isD l = false) (h3 : fst (is1 48) l = false) : numLen l = 0 := by
  unfold numLen minLen wholeLen
  simp only [h, Bool.false_eq_true, if_false, List.drop_zero, h3, run_no _ _ h2, if_true]
theorem fst_no {p p' : UInt8 → Bool} (hp : ∀ c, p c = true → p' c = false) {l : List UInt8} (h : fst p l = true) : fst p' l = false := by
  cases l with
  | nil => cases h
  | cons c l => exact hp c h
theorem letter_big (c : UInt8) (h : isL c = true) : 97 ≤ c.toNat := by
  unfold isL at h
  rw [Bool.and_eq_true, decide_eq_true_eq, decide_eq_true_eq] at h
  exact h.1
/-- ████ What stands behind a token may be another text. -/
theorem tokP_cut {l x : List UInt8} {q n : Nat} (h : tokP l = some (q, x, n)) (hv : valid l = true) (r : List UInt8) (hr : valid r = true) (hs : Sep (l.drop n) r) : tokP (l.take n ++ r) = some (q, x, n) := by
  have hn := tokP_len h
  have hlast := tokP_last h
  have hne : l ≠ [] := by rintro rfl; simp at hn; omega
  have hvt := valid_take l n hv hn.2.1 (.inr hlast)
  have hf : ∀ p, fst p (l.take n ++ r) = fst p l := fun p => fst_cut p l r n (by omega) hne
  have htk : (l.take n ++ r).take n = l.take n := by rw [List.take_append_of_le_length (by rw [List.length_take]; omega), List.take_take, Nat.min_self]
  unfold tokP at h ⊢
  have hM : markLen (l.take n ++ r) = markLen l := by unfold markLen; rw [hf]
  rw [hM]
  by_cases h1 : markLen l ≠ 0
  · rw [if_pos h1] at h ⊢
    simp only [Option.some.injEq, Prod.mk.injEq] at h ⊢
    refine ⟨h.1, ?_, h.2.2⟩
    rw [h.2.2, htk, ← h.2.2]
    exact h.2.1
  · rw [if_neg h1] at h ⊢
    by_cases h2 : wordLen l ≠ 0
    · rw [if_pos h2] at h
      have hwn : wordLen l = n := by simp only [Option.some.injEq, Prod.mk.injEq] at h; exact h.2.2
      have hw2 : wordLen (l.take n ++ r) = n := by
        unfold wordLen at hwn h2 ⊢
        split at hwn
        · rename_i hw
          rw [run_cut isL r l n hn.2.1 (by omega) (fun hh => hs.1 hh), hwn, htk, ← hwn, if_pos hw]
        · omega
      rw [if_pos (by omega), hw2, htk]
      rw [hwn] at h
      exact h
    · rw [if_neg h2] at h
      by_cases h3 : numLen l ≠ 0
      · rw [if_pos h3] at h
        have hwn : numLen l = n := by simp only [Option.some.injEq, Prod.mk.injEq] at h; exact h.2.2
        have hn2 := numLen_cut l r n hwn (by omega) hs
        have hlf : fst isL l = false := by
          by_cases hL : fst isL l = true
          · exfalso
            apply h3
            refine numLen_no (fst_no ?_ hL) (fst_no ?_ hL) (fst_no ?_ hL)
            all_goals (intro c hc; have hc := letter_big c hc; rw [Bool.eq_false_iff]; intro hh)
            · have : c = 45 := by simpa [is1] using hh
              subst this; revert hc; decide
            · unfold isD at hh
              have : c = 48 ∨ c = 49 ∨ c = 50 ∨ c = 51 ∨ c = 52 ∨ c = 53 ∨ c = 54 ∨ c = 55 ∨ c = 56 ∨ c = 57 := by simpa using hh
              rcases this with rfl | rfl | rfl | rfl | rfl | rfl | rfl | rfl | rfl | rfl <;> revert hc <;> decide
            · have : c = 48 := by simpa [is1] using hh
              subst this; revert hc; decide
          · simpa using hL
        rw [if_neg (by rw [wordLen_no (by rw [hf]; exact hlf)]; simp), if_pos (by omega), hn2, htk]
        rw [hwn] at h
        exact h
      · rw [if_neg h3] at h
        unfold tokStr at h
        split at h
        · rename_i h34
          have hc34 : ∀ c : UInt8, is1 34 c = true → c = 34 := fun c hc => by simpa [is1] using hc
          have f1 : fst isL (l.take n ++ r) = false := by rw [hf]; exact fst_no (fun c hc => by rw [hc34 c hc]; decide) h34
          have f2 : fst (is1 45) (l.take n ++ r) = false := by rw [hf]; exact fst_no (fun c hc => by rw [hc34 c hc]; decide) h34
          have f3 : fst isD (l.take n ++ r) = false := by rw [hf]; exact fst_no (fun c hc => by rw [hc34 c hc]; decide) h34
          have f4 : fst (is1 48) (l.take n ++ r) = false := by rw [hf]; exact fst_no (fun c hc => by rw [hc34 c hc]; decide) h34
          rw [if_neg (by rw [wordLen_no f1]; simp), if_neg (by rw [numLen_no f2 f3 f4]; simp)]
          unfold tokStr
          rw [hf, if_pos h34]
          have hvd : valid (l.drop 1) = true := valid_drop l 1 hv (by omega) (by omega) (by
            cases l with
            | nil => exact absurd rfl hne
            | cons c l =>
              have := hc34 c h34
              subst this
              show (34 : UInt8).toNat < 128
              decide)
          cases hsp : strP (l.drop 1) with
          | none => rw [hsp] at h; cases h
          | some y =>
            obtain ⟨y, m⟩ := y
            rw [hsp] at h
            simp only [Option.map_some, Option.some.injEq, Prod.mk.injEq] at h
            rw [take_cut l r n 1 (by omega) hn.2.1]
            have hv2 : valid ((l.drop 1).take (n - 1) ++ r) = true := by
              rw [valid_append _ _ (valid_take _ _ hvd (by rw [List.length_drop]; omega) ?_)]
              · exact hr
              · by_cases hz : n - 1 = 0
                · exact .inl hz
                · right; rw [nth_drop, show 1 + (n - 1 - 1) = n - 1 by omega]; exact hlast
            rw [strP_strB _ _ (Nat.le_refl _) hvd] at hsp
            rw [strP_strB _ _ (Nat.le_refl _) hv2, strB_cut r _ _ y m (n - 1) (Nat.le_refl _) hsp (by omega) (by rw [List.length_drop]; omega)]
            simp only [Option.map_some, Option.some.injEq, Prod.mk.injEq]
            exact h
        · cases h
end Go.Proofs.YtmkjoonbjmieoaaDoor
