/-
  PLAIN FACTS: WHERE TOKENS STAND (tiles_of: in order, with blanks, lines' ends and comments alone between them); what a name, or a string's literal, is alone (name_alone, names_two, value_alone). Conditions: those that each theorem says.
-/
import Derived.Test.YtcbfohokigamfaaGreatDoorLPlain3
namespace Go.Proofs.YtcbfohokigamfaaGreatDoor

/-- Is it blanks, lines' ends and comments alone? In a comment, or not. -/
def idleB : Bool → List UInt8 → Bool
  | _, [] => true
  | true, c :: l => if c.toNat = 10 then idleB false l else idleB true l
  | false, c :: l => if fst (is1 47) (c :: l) && fst (is1 47) l then idleB true l else if [32, 9, 10, 13].contains c then idleB false l else false
theorem idle_gap : ∀ (com : Bool) (l : List UInt8), idleB com (l.take (gapB com l).1) = true
  | true, [] => rfl
  | false, [] => rfl
  | com, c :: l => by
    have h1 := idle_gap false l
    have h2 := idle_gap true l
    rw [gapB]
    split
    · rename_i g
      simp only
      rw [List.take_succ_cons]
      have e : c = 10 := UInt8.toNat_inj.1 g
      subst e
      cases com with
      | true => exact h1
      | false =>
        have : idleB false (10 :: l.take (gapB false l).1) = idleB false (l.take (gapB false l).1) := rfl
        rw [this]; exact h1
    · rename_i g
      split
      · rename_i g2
        subst g2
        simp only
        rw [List.take_succ_cons, idleB, if_neg g]; exact h2
      · rename_i g2
        have g2 : com = false := by simpa using g2
        subst g2
        split
        · rename_i g3
          simp only
          rw [List.take_succ_cons, idleB]
          rw [Bool.and_eq_true] at g3
          have : fst (is1 47) (l.take (gapB true l).1) = true := by
            cases l with
            | nil => simp [fst] at g3
            | cons d t =>
              have hd : d = 47 := by
                have := g3.2
                simpa [fst, is1] using this
              subst hd
              have : (gapB true (47 :: t)).1 = (gapB true t).1 + 1 := rfl
              rw [this, List.take_succ_cons]; rfl
          rw [if_pos (by rw [Bool.and_eq_true]; exact ⟨g3.1, this⟩)]
          exact h2
        · rename_i g3
          split
          · rename_i g4
            simp only
            rw [List.take_succ_cons, idleB]
            have hc : c = 32 ∨ c = 9 ∨ c = 13 := by simpa [isBk] using g4
            rw [if_neg (by rcases hc with rfl | rfl | rfl <;> simp [fst, is1]), if_pos (by rcases hc with rfl | rfl | rfl <;> decide)]
            exact h1
          · rfl
def tile1 (l : List UInt8) (at0 : Nat) (first : Bool) (t : Tok) : Prop :=
  at0 ≤ t.2.2.1 ∧ t.2.2.1 ≤ t.2.2.2 ∧ t.2.2.2 ≤ l.length ∧ (l.drop t.2.2.1).take (t.2.2.2 - t.2.2.1) = t.2.1 ∧ idleB false ((l.drop at0).take (t.2.2.1 - at0)) = true ∧ (t.2.2.1 = t.2.2.2 → t.1 = 7 ∧ first = false ∧ at0 = t.2.2.1)
def TileL (l : List UInt8) : Nat → Bool → List Tok → Prop
  | at0, _, [] => at0 ≤ l.length ∧ idleB false (l.drop at0) = true
  | at0, b, t :: us => tile1 l at0 b t ∧ TileL l t.2.2.2 false us
/-- Where the last one of tokens ends. -/
def lastTo (acc : List Tok) : Nat := match acc.getLast? with
  | none => 0
  | some t => t.2.2.2
theorem tile_ends (l : List UInt8) (acc : List Tok) (us : List Tok) (k : Nat) (hk : k ≤ l.length) (hl : lastTo acc = k) (b : Bool) (h : TileL l k (acc.isEmpty) us) : ∃ vs, endIf b acc ++ us = acc ++ vs ∧ TileL l k acc.isEmpty vs := by
  cases b with
  | false => exact ⟨us, rfl, h⟩
  | true =>
    show ∃ vs, ends acc ++ us = acc ++ vs ∧ _
    cases hg : acc.getLast? with
    | none => exact ⟨us, by rw [ends_none acc hg], h⟩
    | some p =>
      have hp : p.2.2.2 = k := by unfold lastTo at hl; rw [hg] at hl; exact hl
      rw [ends_last acc p hg]
      by_cases hw : wants p = true
      · rw [if_pos hw]
        have hne : acc.isEmpty = false := by
          cases acc with
          | nil => cases hg
          | cons a b => rfl
        refine ⟨(7, [], p.2.2.2, p.2.2.2) :: us, by simp, ?_⟩
        rw [hp, hne]
        rw [hne] at h
        refine ⟨⟨Nat.le_refl _, Nat.le_refl _, hk, by rw [Nat.sub_self]; rfl, by rw [Nat.sub_self]; rfl, fun _ => ⟨rfl, rfl, rfl⟩⟩, h⟩
      · rw [if_neg hw]
        exact ⟨us, rfl, h⟩
theorem lexF_tiles (ff : List UInt8 → Nat) (l : List UInt8) : ∀ (f k : Nat) (acc ts : List Tok), l.length - k < f → k ≤ l.length → lastTo acc = k → lexF ff f acc k (l.drop k) = .ok ts → ∃ us, ts = acc ++ us ∧ TileL l k acc.isEmpty us
  | 0, _, _, _, h, _, _, _ => by omega
  | f + 1, k, acc, ts, h, hk, hl, he => by
    have hg := gapB_le false (l.drop k)
    have hid := idle_gap false (l.drop k)
    change (gap (l.drop k)).1 ≤ _ at hg
    change idleB false ((l.drop k).take (gap (l.drop k)).1) = true at hid
    rw [List.length_drop] at hg
    rw [lexF, List.drop_drop] at he
    by_cases h0 : l.drop (k + (gap (l.drop k)).1) = []
    · rw [if_pos h0] at he
      have hlen := congrArg List.length h0
      rw [List.length_drop, List.length_nil] at hlen
      rw [List.take_of_length_le (by rw [List.length_drop]; omega)] at hid
      obtain ⟨vs, g1, g2⟩ := tile_ends l acc [] k hk hl (gap (l.drop k)).2 ⟨hk, hid⟩
      have : endIf (gap (l.drop k)).2 acc = ts := by injection he
      exact ⟨vs, by rw [← this, ← g1, List.append_nil], g2⟩
    · rw [if_neg h0] at he
      by_cases h1 : (tokK (l.drop (k + (gap (l.drop k)).1))).2 = 0
      · rw [if_pos h1] at he; cases he
      · rw [if_neg h1] at he
        have hle := tokK_le (l.drop (k + (gap (l.drop k)).1))
        rw [List.length_drop] at hle
        generalize htk : tokK (l.drop (k + (gap (l.drop k)).1)) = tk at *
        generalize (gap (l.drop k)).1 = g at *
        by_cases h2 : faultF ff tk.1 ((l.drop (k + g)).take tk.2) = 0
        · rw [if_neg (by rw [h2]; simp), List.drop_drop, show k + (g + tk.2) = k + g + tk.2 by omega] at he
          obtain ⟨us, e1, e2⟩ := lexF_tiles ff l f (k + g + tk.2) _ ts (by omega) (by omega) (by unfold lastTo; rw [List.getLast?_append, List.getLast?_singleton]; rfl) he
          have hemp : (endIf (gap (l.drop k)).2 acc ++ [(tk.1, (l.drop (k + g)).take tk.2, k + g, k + g + tk.2)]).isEmpty = false := by simp
          rw [hemp] at e2
          obtain ⟨vs, g1, g2⟩ := tile_ends l acc ((tk.1, (l.drop (k + g)).take tk.2, k + g, k + g + tk.2) :: us) k hk hl (gap (l.drop k)).2
            ⟨⟨by simp only; omega, by simp only; omega, by simp only; omega, by simp only; rw [show k + g + tk.2 - (k + g) = tk.2 by omega], by simp only; rw [show k + g - k = g by omega]; exact hid, fun hh => by simp only at hh; omega⟩, e2⟩
          refine ⟨vs, ?_, g2⟩
          rw [e1, ← g1]; simp
        · rw [if_pos h2] at he; cases he
/-- ████ Where tokens stand. -/
theorem tiles_of (ff : List UInt8 → Nat) (l : List UInt8) (ts : List Tok) (h : tokensL ff l = .ok ts) : TileL l 0 true ts := by
  unfold tokensL at h
  split at h
  · cases h
  · split at h
    · cases h
    · obtain ⟨us, e1, e2⟩ := lexF_tiles ff l (l.length + 1) 0 [] ts (by omega) (by omega) rfl h
      rw [List.nil_append] at e1
      subst e1
      exact e2
theorem lexF_place (ff : List UInt8 → Nat) : ∀ (f : Nat) (l : List UInt8), l.length < f → ∀ (acc : List Tok) (k p e : Nat), lexF ff f acc k l = .error (p, e) → k ≤ p ∧ p < k + l.length ∧ e ≠ 0
  | 0, _, h, _, _, _, _, _ => by omega
  | f + 1, l, h, acc, k, p, e, he => by
    have hg := gapB_le false l
    change (gap l).1 ≤ l.length at hg
    rw [lexF] at he
    by_cases h0 : l.drop (gap l).1 = []
    · rw [if_pos h0] at he; cases he
    · rw [if_neg h0] at he
      have hpos := List.length_pos_iff.2 h0
      rw [List.length_drop] at hpos
      by_cases h1 : (tokK (l.drop (gap l).1)).2 = 0
      · rw [if_pos h1] at he
        injection he with he
        injection he with e1 e2
        omega
      · rw [if_neg h1] at he
        by_cases h2 : faultF ff (tokK (l.drop (gap l).1)).1 ((l.drop (gap l).1).take (tokK (l.drop (gap l).1)).2) = 0
        · rw [if_neg (by rw [h2]; simp)] at he
          have hle := tokK_le (l.drop (gap l).1)
          rw [List.length_drop] at hle
          have := lexF_place ff f _ (by rw [List.length_drop]; omega) _ _ p e he
          rw [List.length_drop] at this
          omega
        · rw [if_pos h2] at he
          injection he with he
          injection he with e1 e2
          exact ⟨by omega, by omega, by rw [← e2]; exact h2⟩
/-- A place with an error lies in the text. -/
theorem place_in (ff : List UInt8 → Nat) (l : List UInt8) (p e : Nat) (h : tokensL ff l = .error (p, e)) (hl : l.length ≤ 65536) : p < l.length ∧ e ≠ 0 := by
  unfold tokensL at h
  rw [if_neg (by omega)] at h
  split at h
  · rename_i hg
    injection h with h
    injection h with e1 e2
    omega
  · have := lexF_place ff _ l (Nat.lt_succ_self _) [] 0 p e h
    omega

/-- Is it a name? -/
def nameB (s : List UInt8) : Bool := fst isLt s && decide (run isW s = s.length) && !isRes s && decide (nameF s = 0)
theorem run_all (p : UInt8 → Bool) : ∀ l, run p l = l.length → ∀ c ∈ l, p c = true
  | [], _, _, h => by cases h
  | d :: l, h, c, hc => by
    rw [run, List.length_cons] at h
    split at h
    · rename_i hd
      rcases List.mem_cons.1 hc with rfl | hc
      · exact hd
      · exact run_all p l (by omega) c hc
    · omega
theorem all_run (p : UInt8 → Bool) : ∀ l, (∀ c ∈ l, p c = true) → run p l = l.length
  | [], _ => rfl
  | d :: l, h => by
    rw [run, if_pos (h d List.mem_cons_self), all_run p l (fun c hc => h c (List.mem_cons_of_mem _ hc)), List.length_cons]
theorem lt_gap (c : UInt8) (h : isLt c = true) : c.toNat ≠ 10 ∧ is1 47 c = false ∧ isBk c = false := by
  have : ∀ k : Fin 256, isLt (UInt8.ofNat k.val) = true → k.val ≠ 10 ∧ is1 47 (UInt8.ofNat k.val) = false ∧ isBk (UInt8.ofNat k.val) = false := by decide +kernel
  have h1 := this ⟨c.toNat, c.toNat_lt⟩
  simp only [UInt8.ofNat_toNat] at h1
  exact h1 h
theorem gap_lt (l : List UInt8) (h : fst isLt l = true) : gap l = (0, false) := by
  cases l with
  | nil => simp [fst] at h
  | cons c l =>
    obtain ⟨h1, h2, h3⟩ := lt_gap c h
    unfold gap
    rw [gapB, if_neg h1, if_neg (by simp), if_neg (by show ¬ (is1 47 c && fst (is1 47) l) = true; rw [h2]; simp), if_neg (by rw [h3]; simp)]
theorem gap_34 (l : List UInt8) (h : fst (is1 34) l = true) : gap l = (0, false) := by
  cases l with
  | nil => simp [fst] at h
  | cons c l =>
    have : c = 34 := by simpa [fst, is1] using h
    subst this
    rfl
structure NameIs (s : List UInt8) : Prop where
  lt : fst isLt s = true
  run : run isW s = s.length
  res : isRes s = false
  ok : nameF s = 0
theorem name_is {s : List UInt8} (h : nameB s = true) : NameIs s := by
  unfold nameB at h
  simp only [Bool.and_eq_true, decide_eq_true_eq, Bool.not_eq_true'] at h
  exact ⟨h.1.1.1, h.1.1.2, h.1.2, h.2⟩
theorem name_low {s : List UInt8} (h : NameIs s) : ∀ c ∈ s, c.toNat < 128 := fun c hc => isW_low c (run_all isW s h.run c hc)
theorem name_tok {s : List UInt8} (h : NameIs s) : tokK s = (1, s.length) := by
  unfold tokK
  rw [if_pos h.lt, h.run, List.take_length, h.res]
  rfl
theorem name_real (ff : List UInt8 → Nat) {s : List UInt8} (h : NameIs s) : RealTok ff 1 s := by
  have ht := name_tok h
  have hne := fst_ne _ _ h.lt
  have hp := List.length_pos_iff.2 hne
  have := real_of ff s (gap_lt s h.lt) hne (valid_lows s (name_low h)) (by rw [ht]; simp only; omega) (by rw [ht]; simp only; rw [List.take_length]; unfold faultF; rw [if_pos rfl]; exact h.ok)
  rw [ht] at this
  simp only at this
  rw [List.take_length] at this
  exact this
/-- A token that ends a text. -/
theorem lex_last (ff : List UInt8 → Nat) (acc : List Tok) (k q : Nat) (s : List UInt8) (hne : s ≠ []) (hg : gap s = (0, false)) (ht : tokK s = (q, s.length)) (hf : faultF ff q s = 0) (hw : ∀ a b, wants (q, s, a, b) = true) : lex ff acc k s = .ok (acc ++ [(q, s, k, k + s.length), (7, [], k + s.length, k + s.length)]) := by
  have hp := List.length_pos_iff.2 hne
  rw [lex_gap, hg]
  simp only [List.drop_zero, Nat.add_zero]
  unfold lexT
  rw [if_neg hne, ht]
  simp only
  rw [if_neg (by omega), List.take_length, if_neg (by rw [hf]; simp), List.drop_length, lex_nil]
  rw [ends_last _ (q, s, k, k + s.length) (by rw [List.getLast?_append, List.getLast?_singleton]; rfl), if_pos (hw _ _)]
  simp [endIf]
theorem name_alone (ff : List UInt8 → Nat) (s : List UInt8) (h : nameB s = true) (hl : s.length ≤ 65536) : tokensL ff s = .ok [(1, s, 0, s.length), (7, [], s.length, s.length)] := by
  have hn := name_is h
  unfold tokensL
  rw [if_neg (by omega), if_neg (valid_full (valid_lows s (name_low hn)))]
  have := lex_last ff [] 0 1 s (fst_ne _ _ hn.lt) (gap_lt s hn.lt) (name_tok hn) (name_real ff hn).ok (fun a b => rfl)
  rw [this]
  simp
theorem names_two (ff : List UInt8 → Nat) (s t : List UInt8) (h : nameB s = true) (g : nameB t = true) (hl : s.length + t.length + 1 ≤ 65536) : ∃ a b c d : Nat, tokensL ff (s ++ 32 :: t) = .ok [(1, s, 0, s.length), (1, t, a, b), (7, [], c, d)] := by
  have hn := name_is h
  have gn := name_is g
  refine ⟨s.length + 1, s.length + 1 + t.length, s.length + 1 + t.length, s.length + 1 + t.length, ?_⟩
  unfold tokensL
  rw [if_neg (by rw [List.length_append, List.length_cons]; omega), if_neg (valid_full (by rw [valid_low _ _ (name_low hn), valid_ascii 32 _ (by decide)]; exact valid_lows t (name_low gn)))]
  rw [lex_tok ff [] 0 1 s t (name_real ff hn), lex_blank]
  have := lex_last ff ([] ++ [(1, s, 0, 0 + s.length)]) (0 + s.length + 1) 1 t (fst_ne _ _ gn.lt) (gap_lt t gn.lt) (name_tok gn) (name_real ff gn).ok (fun a b => rfl)
  rw [this]
  simp
theorem name_join (s t : List UInt8) (h : nameB s = true) (g : nameB t = true) : nameB (s ++ t) = (decide (s.length + t.length ≤ 40) && !isRes (s ++ t)) := by
  have hn := name_is h
  have gn := name_is g
  have hp := List.length_pos_iff.2 (fst_ne _ _ hn.lt)
  have gp := List.length_pos_iff.2 (fst_ne _ _ gn.lt)
  have e1 : fst isLt (s ++ t) = true := by
    have := hn.lt
    cases s with
    | nil => simp at hp
    | cons c s => exact this
  have e2 : run isW (s ++ t) = (s ++ t).length := all_run isW _ (fun c hc => by
    rcases List.mem_append.1 hc with hc | hc
    · exact run_all isW s hn.run c hc
    · exact run_all isW t gn.run c hc)
  have e3 : nameF (s ++ t) = if 40 < s.length + t.length then 3 else 0 := by
    unfold nameF
    rw [List.length_append, if_neg (c := s ++ t = [95]) (by
      intro e
      have := congrArg List.length e
      rw [List.length_append, List.length_singleton] at this
      omega)]
  unfold nameB
  rw [e1, e2, e3, decide_eq_true rfl, Bool.true_and, Bool.true_and, Bool.and_comm]
  congr 1
  rw [decide_eq_decide]
  split <;> omega
theorem value_alone (ff : List UInt8 → Nat) (s v : List UInt8) (h : valR s = .ok v) (hl : s.length ≤ 65536) : tokensL ff s = .ok [(5, s, 0, s.length), (7, [], s.length, s.length)] ∧ v.length + 2 ≤ s.length := by
  have hvf : valF s = 0 := by unfold valF; rw [h]
  unfold valR at h
  split at h
  · cases h
  · rename_i x n hu
    have hn := uqS_len hu
    split at h
    · cases h
    · rename_i hc
      split at h
      · cases h
      · have e : x = v := by injection h
        subst e
        have en : n = s.length := by omega
        have h34 : fst (is1 34) s = true := by
          unfold uqS at hu
          split at hu
          · assumption
          · cases hu
        have hne := fst_ne _ _ h34
        have ht : tokK s = (5, s.length) := by
          have c : fst isLt s = false ∧ fst isD s = false := by
            cases s with
            | nil => exact absurd rfl hne
            | cons a b =>
              have : a = 34 := by simpa [fst, is1] using h34
              subst this
              exact ⟨rfl, rfl⟩
          unfold tokK
          rw [c.1, c.2, h34]
          simp only [Bool.false_eq_true, if_false, if_true]
          unfold strL
          rw [hu, en]
        refine ⟨?_, by omega⟩
        unfold tokensL
        rw [if_neg (by omega), if_neg (by omega)]
        have := lex_last ff [] 0 5 s hne (gap_34 s h34) ht (by unfold faultF; rw [if_neg (by omega), if_neg (by omega), if_neg (by omega), if_pos rfl]; exact hvf) (fun a b => rfl)
        rw [this]
        simp
end Go.Proofs.YtcbfohokigamfaaGreatDoor
