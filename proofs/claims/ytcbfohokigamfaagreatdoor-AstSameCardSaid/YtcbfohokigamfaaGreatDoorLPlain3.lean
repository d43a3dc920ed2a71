/-
  PLAIN FACTS: THE TOKENS OF A TEXT, WRITTEN AGAIN (a blank behind each, a line's end for a semicolon that was put in), ARE THE SAME TOKENS, but for places (again_same), and no more than three times as long (again_len). Conditions: those that each theorem says.
-/
import Derived.Test.YtcbfohokigamfaaGreatDoorLPlain2
namespace Go.Proofs.YtcbfohokigamfaaGreatDoor

theorem tokK_cut (l m : List UInt8) (h : (tokK l).2 ≠ 0) : tokK (l.take (tokK l).2 ++ 32 :: m) = tokK l := by
  have hle := tokK_le l
  have hne : l ≠ [] := by intro e; subst e; exact h rfl
  by_cases h1 : fst isLt l = true
  · have e : tokK l = (if isRes (l.take (run isW l)) then 2 else 1, run isW l) := by unfold tokK; rw [if_pos h1]
    have h2 : (tokK l).2 = run isW l := by rw [e]
    rw [h2] at h hle ⊢
    have f1 : fst isLt (l.take (run isW l) ++ 32 :: m) = true := by rw [fst_cut _ _ _ _ (by omega) hne]; exact h1
    have r1 : run isW (l.take (run isW l) ++ 32 :: m) = run isW l := run_cut isW 32 m rfl l _ (Nat.le_refl _) hle
    have t1 : (l.take (run isW l) ++ 32 :: m).take (run isW l) = l.take (run isW l) := take_cut _ _ _ _ (Nat.le_refl _) hle
    rw [e]
    generalize l.take (run isW l) ++ 32 :: m = x at *
    unfold tokK
    rw [if_pos f1, r1, t1]
  · by_cases h2 : fst isD l = true
    · have e : tokK l = numK l := by unfold tokK; rw [if_neg h1, if_pos h2]
      rw [e] at h hle ⊢
      have f1 : fst isLt (l.take (numK l).2 ++ 32 :: m) = fst isLt l := fst_cut _ _ _ _ (by omega) hne
      have f2 : fst isD (l.take (numK l).2 ++ 32 :: m) = fst isD l := fst_cut _ _ _ _ (by omega) hne
      have hn := numK_cut l m h2
      unfold tokK
      rw [f1, f2, if_neg h1, if_pos h2, hn]
    · by_cases h3 : fst (is1 34) l = true
      · have e : tokK l = (5, strL l) := by unfold tokK; rw [if_neg h1, if_neg h2, if_pos h3]
        rw [e] at h hle ⊢
        simp only at h hle ⊢
        have f1 : fst isLt (l.take (strL l) ++ 32 :: m) = fst isLt l := fst_cut _ _ _ _ (by omega) hne
        have f2 : fst isD (l.take (strL l) ++ 32 :: m) = fst isD l := fst_cut _ _ _ _ (by omega) hne
        have f3 : fst (is1 34) (l.take (strL l) ++ 32 :: m) = fst (is1 34) l := fst_cut _ _ _ _ (by omega) hne
        have hs : strL (l.take (strL l) ++ 32 :: m) = strL l := by
          cases hu : uqS l with
          | none => exfalso; apply h; unfold strL; rw [hu]
          | some p =>
            obtain ⟨v, n⟩ := p
            have hL : strL l = n := by unfold strL; rw [hu]
            rw [hL]
            unfold strL
            rw [uqS_cut l v n hu]
        unfold tokK
        rw [f1, f2, f3, if_neg h1, if_neg h2, if_pos h3, hs]
      · by_cases h4 : fst (is1 59) l = true
        · have e : tokK l = (7, 1) := by unfold tokK; rw [if_neg h1, if_neg h2, if_neg h3, if_pos h4]
          rw [e] at h hle ⊢
          simp only at h hle ⊢
          unfold tokK
          rw [fst_cut _ _ _ _ (by omega) hne, fst_cut _ _ _ _ (by omega) hne, fst_cut _ _ _ _ (by omega) hne, fst_cut _ _ _ _ (by omega) hne, if_neg h1, if_neg h2, if_neg h3, if_pos h4]
        · have e : tokK l = (6, markL l) := by unfold tokK; rw [if_neg h1, if_neg h2, if_neg h3, if_neg h4]
          rw [e] at h hle ⊢
          simp only at h hle ⊢
          have hm : markL (l.take (markL l) ++ 32 :: m) = markL l := by
            by_cases g1 : mk2 l = true
            · have e2 : markL l = 2 := by unfold markL; rw [if_pos g1]
              rw [e2] at hle ⊢
              have : mk2 (l.take 2 ++ 32 :: m) = mk2 l := by unfold mk2; rw [take_cut _ _ _ _ (Nat.le_refl _) hle]
              unfold markL
              rw [this, if_pos g1]
            · by_cases g2 : mk1 l = true
              · have e2 : markL l = 1 := by unfold markL; rw [if_neg g1, if_pos g2]
                rw [e2]
                have q1 : mk2 (l.take 1 ++ 32 :: m) = false := by
                  cases l with
                  | nil => exact absurd rfl hne
                  | cons c l => simp [mk2]
                have q2 : mk1 (l.take 1 ++ 32 :: m) = true := by unfold mk1; rw [fst_cut _ _ _ _ (by omega) hne]; exact g2
                unfold markL
                rw [q1, q2]; rfl
              · exfalso; apply h; unfold markL; rw [if_neg g1, if_neg g2]
          unfold tokK
          rw [fst_cut _ _ _ _ (by omega) hne, fst_cut _ _ _ _ (by omega) hne, fst_cut _ _ _ _ (by omega) hne, fst_cut _ _ _ _ (by omega) hne, if_neg h1, if_neg h2, if_neg h3, if_neg h4, hm]

theorem gapB_stop : ∀ (com : Bool) (l : List UInt8), l.drop (gapB com l).1 ≠ [] → gapB false (l.drop (gapB com l).1) = (0, false)
  | _, [], h => absurd rfl h
  | com, c :: l, h => by
    have h1 := gapB_stop false l
    have h2 := gapB_stop true l
    rw [gapB] at h ⊢
    split
    · rename_i g; rw [if_pos g] at h; exact h1 h
    · rename_i g; rw [if_neg g] at h
      split
      · rename_i g2; rw [if_pos g2] at h; exact h2 h
      · rename_i g2; rw [if_neg g2] at h
        split
        · rename_i g3; rw [if_pos g3] at h; exact h2 h
        · rename_i g3; rw [if_neg g3] at h
          split
          · rename_i g4; rw [if_pos g4] at h; exact h1 h
          · rename_i g4
            show gapB false (c :: l) = (0, false)
            rw [gapB, if_neg g, if_neg (by simp), if_neg g3, if_neg g4]
theorem gapB_end : ∀ (com : Bool) (l : List UInt8), l.drop (gapB com l).1 = [] → (gapB com l).2 = true
  | _, [], _ => rfl
  | com, c :: l, h => by
    have h1 := gapB_end false l
    have h2 := gapB_end true l
    rw [gapB] at h ⊢
    split
    · rfl
    · rename_i g; rw [if_neg g] at h
      split
      · rename_i g2; rw [if_pos g2] at h; exact h2 h
      · rename_i g2; rw [if_neg g2] at h
        split
        · rename_i g3; rw [if_pos g3] at h; exact h2 h
        · rename_i g3; rw [if_neg g3] at h
          split
          · rename_i g4; rw [if_pos g4] at h; exact h1 h
          · rename_i g4; rw [if_neg g4] at h; cases h
theorem gap_cut (l m : List UInt8) (n : Nat) (h : gap l = (0, false)) (hn : 1 ≤ n) (hl : l ≠ []) : gap (l.take n ++ 32 :: m) = (0, false) := by
  unfold gap at h ⊢
  cases l with
  | nil => exact absurd rfl hl
  | cons c t =>
    obtain ⟨k, rfl⟩ : ∃ k, n = k + 1 := ⟨n - 1, by omega⟩
    rw [List.take_succ_cons, List.cons_append]
    rw [gapB] at h ⊢
    split at h
    · simp at h
    · rename_i g1
      rw [if_neg g1]
      rw [if_neg (by simp)] at h ⊢
      split at h
      · simp at h
      · rename_i g3
        split at h
        · simp at h
        · rename_i g4
          have g5 : ¬ (fst (is1 47) (c :: (t.take k ++ 32 :: m)) && fst (is1 47) (t.take k ++ 32 :: m)) = true := by
            intro hh
            apply g3
            rw [Bool.and_eq_true] at hh ⊢
            refine ⟨hh.1, ?_⟩
            cases k with
            | zero => rw [List.take_zero] at hh; simp [fst, is1] at hh
            | succ k =>
              cases t with
              | nil => rw [List.take_nil] at hh; simp [fst, is1] at hh
              | cons d t => exact hh.2
          rw [if_neg g5, if_neg g4]

/-- A token's text that stands by itself. -/
structure RealTok (ff : List UInt8 → Nat) (q : Nat) (x : List UInt8) : Prop where
  ne : x ≠ []
  tok : ∀ m, tokK (x ++ 32 :: m) = (q, x.length)
  gap : ∀ m, gap (x ++ 32 :: m) = (0, false)
  ok : faultF ff q x = 0
  val : valid x = true

theorem run_last (p : UInt8 → Bool) : ∀ l, 1 ≤ run p l → p (l.getD (run p l - 1) 0) = true
  | [], h => by simp [run] at h
  | c :: l, h => by
    rw [run] at h ⊢
    split at h
    · rename_i hc
      rw [if_pos hc]
      cases hr : run p l with
      | zero => exact hc
      | succ k =>
        have := run_last p l (by omega)
        rw [hr] at this
        exact this
    · omega
theorem isD_low (c : UInt8) (h : isD c = true) : c.toNat < 128 := by
  have : ∀ k : Fin 256, isD (UInt8.ofNat k.val) = true → k.val < 128 := by decide +kernel
  have h1 := this ⟨c.toNat, c.toNat_lt⟩
  simp only [UInt8.ofNat_toNat] at h1
  exact h1 h
theorem isW_low (c : UInt8) (h : isW c = true) : c.toNat < 128 := by
  have : ∀ k : Fin 256, isW (UInt8.ofNat k.val) = true → k.val < 128 := by decide +kernel
  have h1 := this ⟨c.toNat, c.toNat_lt⟩
  simp only [UInt8.ofNat_toNat] at h1
  exact h1 h
theorem nth_add (l : List UInt8) (n k : Nat) : (l.drop n).getD k 0 = l.getD (n + k) 0 := by
  rw [List.getD_eq_getElem?_getD, List.getD_eq_getElem?_getD, List.getElem?_drop]
theorem uqB_last : ∀ (f : Nat) (l : List UInt8), l.length < f → ∀ (x : List UInt8) (n : Nat), uqB l = some (x, n) → nth l (n - 1) = 34
  | 0, _, hf, _, _, _ => by omega
  | f + 1, l, hf, x, n, h => by
    have hl : l ≠ [] := by intro e; subst e; cases h
    by_cases h1 : fst (is1 34) l = true
    · rw [uqB_end l h1] at h
      obtain ⟨rfl, rfl⟩ : [] = x ∧ 1 = n := by simpa using h
      cases l with
      | nil => exact absurd rfl hl
      | cons c l =>
        have hc : is1 34 c = true := h1
        have : c = 34 := by simpa [is1] using hc
        subst this; rfl
    · have h1 : fst (is1 34) l = false := by simpa using h1
      cases hp : pieceQ l with
      | none => rw [uqB_bad l h1 hp] at h; cases h
      | some p =>
        obtain ⟨c, k⟩ := p
        have hk := pieceQ_len hp
        rw [uqB_step l h1 c k hp] at h
        cases hy : uqB (l.drop k) with
        | none => rw [hy] at h; cases h
        | some y =>
          obtain ⟨y, j⟩ := y
          rw [hy] at h
          obtain ⟨rfl, rfl⟩ : c :: y = x ∧ k + j = n := by simpa using h
          have hj := uqF_len _ _ _ _ hy
          have := uqB_last f (l.drop k) (by rw [List.length_drop]; omega) y j hy
          rw [nth_drop] at this
          rw [show k + j - 1 = k + (j - 1) by omega]
          exact this
theorem fst_nth (p : UInt8 → Bool) (l : List UInt8) (h : fst p l = true) : p (l.getD 0 0) = true := by
  cases l with
  | nil => simp [fst] at h
  | cons c l => exact h
/-- A token's first and last byte are below 128. -/
theorem tok_low (l : List UInt8) (h : (tokK l).2 ≠ 0) : nth l 0 < 128 ∧ nth l ((tokK l).2 - 1) < 128 := by
  have hne : l ≠ [] := by intro e; subst e; exact h rfl
  unfold nth
  by_cases h1 : fst isLt l = true
  · have e : (tokK l).2 = run isW l := by unfold tokK; rw [if_pos h1]
    rw [e] at h ⊢
    refine ⟨isW_low _ ?_, isW_low _ (run_last isW l (by omega))⟩
    have := fst_nth _ _ h1
    unfold isW; rw [this]; rfl
  · by_cases h2 : fst isD l = true
    · have e : tokK l = numK l := by unfold tokK; rw [if_neg h1, if_pos h2]
      rw [e] at h ⊢
      refine ⟨isD_low _ (fst_nth _ _ h2), isD_low _ ?_⟩
      have r0 : 1 ≤ run isD l := by rw [run_yes isD l h2]; omega
      by_cases g1 : fst (is1 46) (l.drop (run isD l)) = true
      · by_cases g2 : run isD (l.drop (run isD l + 1)) = 0
        · have en : (numK l).2 = run isD l := by unfold numK; rw [if_pos g1, if_pos g2]
          rw [en]; exact run_last isD l r0
        · have en : (numK l).2 = run isD l + 1 + run isD (l.drop (run isD l + 1)) + expL (l.drop (run isD l + 1 + run isD (l.drop (run isD l + 1)))) := by unfold numK; rw [if_pos g1, if_neg g2]
          rw [en]
          have hb := run_last isD (l.drop (run isD l + 1)) (by omega)
          generalize run isD (l.drop (run isD l + 1)) = b at *
          generalize run isD l = a at *
          rw [nth_add] at hb
          by_cases g3 : fst (is1 101) (l.drop (a + 1 + b)) = true
          · by_cases g4 : run isD ((l.drop (a + 1 + b)).drop (1 + signLen ((l.drop (a + 1 + b)).drop 1))) = 0
            · have ee : expL (l.drop (a + 1 + b)) = 0 := by unfold expL; rw [if_pos g3, if_pos g4]
              rw [ee, show a + 1 + b + 0 - 1 = a + 1 + (b - 1) by omega]; exact hb
            · have ee : expL (l.drop (a + 1 + b)) = 1 + signLen ((l.drop (a + 1 + b)).drop 1) + run isD ((l.drop (a + 1 + b)).drop (1 + signLen ((l.drop (a + 1 + b)).drop 1))) := by unfold expL; rw [if_pos g3, if_neg g4]
              rw [ee]
              have hx := run_last isD _ (Nat.one_le_iff_ne_zero.2 g4)
              generalize run isD ((l.drop (a + 1 + b)).drop (1 + signLen ((l.drop (a + 1 + b)).drop 1))) = z at *
              rw [nth_add, nth_add] at hx
              rw [show a + 1 + b + (1 + signLen ((l.drop (a + 1 + b)).drop 1) + z) - 1 = a + 1 + b + (1 + signLen ((l.drop (a + 1 + b)).drop 1) + (z - 1)) by omega]
              exact hx
          · have ee : expL (l.drop (a + 1 + b)) = 0 := by unfold expL; rw [if_neg g3]
            rw [ee, show a + 1 + b + 0 - 1 = a + 1 + (b - 1) by omega]; exact hb
      · have en : (numK l).2 = run isD l := by unfold numK; rw [if_neg g1]
        rw [en]; exact run_last isD l r0
    · by_cases h3 : fst (is1 34) l = true
      · have e : tokK l = (5, strL l) := by unfold tokK; rw [if_neg h1, if_neg h2, if_pos h3]
        rw [e] at h ⊢
        simp only at h ⊢
        have c0 := fst_nth _ _ h3
        have c1 : l.getD 0 0 = 34 := by simpa [is1] using c0
        refine ⟨by rw [c1]; decide, ?_⟩
        cases hu : uqS l with
        | none => exfalso; apply h; unfold strL; rw [hu]
        | some p =>
          obtain ⟨v, n⟩ := p
          have hL : strL l = n := by unfold strL; rw [hu]
          rw [hL]
          unfold uqS at hu
          rw [if_pos h3] at hu
          cases he : uqB (l.drop 1) with
          | none => rw [he] at hu; cases hu
          | some y =>
            obtain ⟨y, j⟩ := y
            rw [he] at hu
            obtain ⟨rfl, rfl⟩ : y = v ∧ j + 1 = n := by simpa using hu
            have := uqB_last _ _ (Nat.lt_succ_self _) y j he
            have hj := uqF_len _ _ _ _ he
            rw [nth_drop] at this
            unfold nth at this
            rw [show j + 1 - 1 = 1 + (j - 1) by omega, this]
            decide
      · by_cases h4 : fst (is1 59) l = true
        · have e : tokK l = (7, 1) := by unfold tokK; rw [if_neg h1, if_neg h2, if_neg h3, if_pos h4]
          rw [e]
          have c0 := fst_nth _ _ h4
          have c1 : l.getD 0 0 = 59 := by simpa [is1] using c0
          exact ⟨by rw [c1]; decide, by rw [Nat.sub_self, c1]; decide⟩
        · have e : tokK l = (6, markL l) := by unfold tokK; rw [if_neg h1, if_neg h2, if_neg h3, if_neg h4]
          rw [e] at h ⊢
          simp only at h ⊢
          by_cases g1 : mk2 l = true
          · have e2 : markL l = 2 := by unfold markL; rw [if_pos g1]
            have h2l := mk2_len l g1
            rw [e2]
            match l, h2l, g1 with
            | a :: b :: t, _, g1 =>
              have : (a = 61 ∧ b = 61) ∨ (a = 33 ∧ b = 61) ∨ (a = 60 ∧ b = 61) ∨ (a = 62 ∧ b = 61) ∨ (a = 38 ∧ b = 38) ∨ (a = 124 ∧ b = 124) ∨ (a = 58 ∧ b = 61) := by simpa [mk2] using g1
              show a.toNat < 128 ∧ b.toNat < 128
              rcases this with ⟨rfl, rfl⟩ | ⟨rfl, rfl⟩ | ⟨rfl, rfl⟩ | ⟨rfl, rfl⟩ | ⟨rfl, rfl⟩ | ⟨rfl, rfl⟩ | ⟨rfl, rfl⟩ <;> decide
          · by_cases g2 : mk1 l = true
            · have e2 : markL l = 1 := by unfold markL; rw [if_neg g1, if_pos g2]
              rw [e2]
              have c0 := fst_nth _ _ g2
              have : ∀ k : Fin 256, [43, 45, 42, 47, 37, 60, 62, 33, 61, 40, 41, 123, 125, 44, 46, 58].contains (UInt8.ofNat k.val) = true → k.val < 128 := by decide +kernel
              have h5 := this ⟨(l.getD 0 0).toNat, (l.getD 0 0).toNat_lt⟩
              simp only [UInt8.ofNat_toNat] at h5
              exact ⟨h5 c0, h5 c0⟩
            · exfalso; apply h; unfold markL; rw [if_neg g1, if_neg g2]
/-- A token that a valid text begins with. -/
theorem real_of (ff : List UInt8 → Nat) (l : List UInt8) (hg : gap l = (0, false)) (hl : l ≠ []) (hv : valid l = true) (h : (tokK l).2 ≠ 0) (hf : faultF ff (tokK l).1 (l.take (tokK l).2) = 0) : RealTok ff (tokK l).1 (l.take (tokK l).2) := by
  have hle := tokK_le l
  refine ⟨?_, fun m => ?_, fun m => gap_cut l m _ hg (by omega) hl, hf, valid_take l _ hv (by omega) hle (tok_low l h).2⟩
  · intro e
    have := congrArg List.length e
    rw [List.length_take, List.length_nil] at this
    omega
  · rw [tokK_cut l m h, List.length_take, Nat.min_eq_left hle]

/-- Tokens behind a token, as they come out of a text. -/
inductive WF (ff : List UInt8 → Nat) : Option Tok → List Tok → Prop
  | nil (p : Option Tok) : (∀ t, p = some t → wants t = false) → WF ff p []
  | semi (p : Tok) (k : Nat) (us : List Tok) : wants p = true → WF ff (some (7, [], k, k)) us → WF ff (some p) ((7, [], k, k) :: us)
  | real (p : Option Tok) (t : Tok) (us : List Tok) : RealTok ff t.1 t.2.1 → WF ff (some t) us → WF ff p (t :: us)
def sumX : List Tok → Nat
  | [] => 0
  | t :: us => t.2.1.length + sumX us
theorem semi_no (k : Nat) : wants (7, [], k, k) = false := rfl
theorem ends_last (acc : List Tok) (t : Tok) (h : acc.getLast? = some t) : ends acc = if wants t then acc ++ [(7, [], t.2.2.2, t.2.2.2)] else acc := by
  unfold ends; rw [h]
theorem ends_none (acc : List Tok) (h : acc.getLast? = none) : ends acc = acc := by
  unfold ends; rw [h]
theorem wf_ends (ff : List UInt8 → Nat) (acc : List Tok) : ∃ us, ends acc = acc ++ us ∧ WF ff acc.getLast? us ∧ sumX us = 0 := by
  cases h : acc.getLast? with
  | none => exact ⟨[], by rw [ends_none acc h, List.append_nil], .nil _ (fun t ht => by cases ht), rfl⟩
  | some t =>
    rw [ends_last acc t h]
    by_cases hw : wants t = true
    · rw [if_pos hw]
      exact ⟨[_], rfl, .semi t _ [] hw (.nil _ (fun u hu => by cases hu; exact semi_no _)), rfl⟩
    · rw [if_neg hw]
      exact ⟨[], by rw [List.append_nil], .nil _ (fun u hu => by cases hu; simpa using hw), rfl⟩
theorem wf_real (ff : List UInt8 → Nat) (b : Bool) (acc : List Tok) (t : Tok) (us : List Tok) (hr : RealTok ff t.1 t.2.1) (h : WF ff (some t) us) : ∃ vs, endIf b acc ++ [t] ++ us = acc ++ vs ∧ WF ff acc.getLast? vs ∧ sumX vs = t.2.1.length + sumX us := by
  cases b with
  | false => exact ⟨t :: us, by simp [endIf], .real _ t us hr h, rfl⟩
  | true =>
    show ∃ vs, ends acc ++ [t] ++ us = acc ++ vs ∧ _
    cases hl : acc.getLast? with
    | none => exact ⟨t :: us, by rw [ends_none acc hl]; simp, .real _ t us hr h, rfl⟩
    | some p =>
      rw [ends_last acc p hl]
      by_cases hw : wants p = true
      · rw [if_pos hw]
        exact ⟨(7, [], p.2.2.2, p.2.2.2) :: t :: us, by simp, .semi p _ _ hw (.real _ t us hr h), by simp [sumX]⟩
      · rw [if_neg hw]
        exact ⟨t :: us, by simp, .real _ t us hr h, rfl⟩
theorem lexF_WF (ff : List UInt8 → Nat) : ∀ (f : Nat) (l : List UInt8), l.length < f → ∀ (acc : List Tok) (k : Nat) (ts : List Tok), valid l = true → lexF ff f acc k l = .ok ts → ∃ us, ts = acc ++ us ∧ WF ff acc.getLast? us ∧ sumX us ≤ l.length
  | 0, _, h, _, _, _, _, _ => by omega
  | f + 1, l, h, acc, k, ts, hv, he => by
    have hg := gapB_le false l
    have hst := gapB_stop false l
    have hen := gapB_end false l
    rw [lexF] at he
    change (gap l).1 ≤ l.length at hg
    by_cases h0 : l.drop (gap l).1 = []
    · rw [if_pos h0] at he
      have hb : (gap l).2 = true := hen h0
      rw [hb] at he
      obtain ⟨us, e1, e2, e3⟩ := wf_ends ff acc
      have : ends acc = ts := by injection he
      exact ⟨us, by rw [← this, e1], e2, by omega⟩
    · rw [if_neg h0] at he
      have hs : gap (l.drop (gap l).1) = (0, false) := hst h0
      by_cases h1 : (tokK (l.drop (gap l).1)).2 = 0
      · rw [if_pos h1] at he; cases he
      · rw [if_neg h1] at he
        by_cases h2 : faultF ff (tokK (l.drop (gap l).1)).1 ((l.drop (gap l).1).take (tokK (l.drop (gap l).1)).2) = 0
        · rw [if_neg (by rw [h2]; simp)] at he
          have hlow := tok_low _ h1
          have hle := tokK_le (l.drop (gap l).1)
          have hpos := List.length_pos_iff.2 h0
          rw [List.length_drop] at hle hpos
          have hv1 : valid (l.drop (gap l).1) = true := valid_at l _ hv (by omega) (by have := hlow.1; rw [nth_drop] at this; exact this)
          have hr := real_of ff _ hs h0 hv1 h1 h2
          have hv2 : valid (l.drop ((gap l).1 + (tokK (l.drop (gap l).1)).2)) = true := by
            rw [← List.drop_drop]
            exact valid_drop _ _ hv1 (by omega) (by rw [List.length_drop]; exact hle) hlow.2
          obtain ⟨us, e1, e2, e3⟩ := lexF_WF ff f _ (by rw [List.length_drop]; omega) _ _ ts hv2 he
          rw [List.getLast?_append, List.getLast?_singleton, Option.some_or] at e2
          obtain ⟨vs, g1, g2, g3⟩ := wf_real ff (gap l).2 acc _ us hr e2
          refine ⟨vs, by rw [e1, g1], g2, ?_⟩
          rw [g3, List.length_take, List.length_drop]
          rw [List.length_drop] at e3
          omega
        · rw [if_pos h2] at he; cases he
/-- Tokens written again. -/
def agn1 (t : Tok) : List UInt8 := if t.1 = 7 ∧ t.2.1 = [] then [10] else t.2.1 ++ [32]
def agn (ts : List Tok) : List UInt8 := ts.flatMap agn1
theorem lex_nil (ff : List UInt8 → Nat) (acc : List Tok) (k : Nat) : lex ff acc k [] = .ok (ends acc) := rfl
theorem lex_blank (ff : List UInt8 → Nat) (acc : List Tok) (k : Nat) (m : List UInt8) : lex ff acc k (32 :: m) = lex ff acc (k + 1) m := by
  have e : gap (32 :: m) = ((gap m).1 + 1, (gap m).2) := rfl
  rw [lex_gap, lex_gap, e]
  simp only [List.drop_succ_cons]
  rw [show k + ((gap m).1 + 1) = k + 1 + (gap m).1 by omega]
theorem lex_nl (ff : List UInt8 → Nat) (acc : List Tok) (k : Nat) (m : List UInt8) : lex ff acc k (10 :: m) = lex ff (ends acc) (k + 1) m := by
  have e : gap (10 :: m) = ((gap m).1 + 1, true) := rfl
  have e2 : endIf (gap m).2 (ends acc) = ends acc := by
    unfold endIf
    split
    · exact ends_ends acc
    · rfl
  rw [lex_gap, lex_gap, e, e2]
  simp only [List.drop_succ_cons]
  rw [show k + ((gap m).1 + 1) = k + 1 + (gap m).1 by omega]
  rfl
theorem lex_tok (ff : List UInt8 → Nat) (acc : List Tok) (k : Nat) (q : Nat) (x m : List UInt8) (h : RealTok ff q x) : lex ff acc k (x ++ 32 :: m) = lex ff (acc ++ [(q, x, k, k + x.length)]) (k + x.length) (32 :: m) := by
  have hg := h.gap m
  have ht := h.tok m
  have hp := List.length_pos_iff.2 h.ne
  rw [lex_gap, hg]
  simp only [List.drop_zero, Nat.add_zero]
  unfold lexT
  rw [if_neg (by simp [h.ne]), ht]
  simp only
  rw [if_neg (by omega), List.take_left, if_neg (by rw [h.ok]; simp), List.drop_left]
  rfl
theorem wants_eq (a b : Tok) (h : a.1 = b.1) (g : a.2.1 = b.2.1) : wants a = wants b := by unfold wants; rw [h, g]
def kt (t : Tok) : Nat × List UInt8 := (t.1, t.2.1)
theorem agn_real {ff : List UInt8 → Nat} {t : Tok} (h : RealTok ff t.1 t.2.1) : agn1 t = t.2.1 ++ [32] := by
  unfold agn1; rw [if_neg (fun hh => h.ne hh.2)]
theorem relex (ff : List UInt8 → Nat) (p : Option Tok) (us : List Tok) (h : WF ff p us) : ∀ (acc : List Tok) (k : Nat), acc.getLast?.map kt = p.map kt → ∃ vs, lex ff acc k (agn us) = .ok (acc ++ vs) ∧ vs.map kt = us.map kt := by
  induction h with
  | nil p hp =>
    intro acc k ha
    refine ⟨[], ?_, rfl⟩
    show lex ff acc k [] = _
    rw [lex_nil, List.append_nil]
    cases hl : acc.getLast? with
    | none => rw [ends_none acc hl]
    | some t =>
      rw [hl] at ha
      cases p with
      | none => cases ha
      | some u =>
        have hk : kt t = kt u := by simpa using ha
        have h1 : t.1 = u.1 := congrArg (fun z : Nat × List UInt8 => z.1) hk
        have h2 : t.2.1 = u.2.1 := congrArg (fun z : Nat × List UInt8 => z.2) hk
        rw [ends_last acc t hl, wants_eq t u h1 h2, hp u rfl]
        rfl
  | semi p j us hw _ ih =>
    intro acc k ha
    cases hl : acc.getLast? with
    | none => rw [hl] at ha; cases ha
    | some t =>
      rw [hl] at ha
      have hk : kt t = kt p := by simpa using ha
      have h1 : t.1 = p.1 := congrArg (fun z : Nat × List UInt8 => z.1) hk
      have h2 : t.2.1 = p.2.1 := congrArg (fun z : Nat × List UInt8 => z.2) hk
      have e : agn ((7, [], j, j) :: us) = 10 :: agn us := rfl
      rw [e, lex_nl, ends_last acc t hl, wants_eq t p h1 h2, hw, if_pos rfl]
      obtain ⟨vs, g1, g2⟩ := ih (acc ++ [(7, [], t.2.2.2, t.2.2.2)]) (k + 1) (by rw [List.getLast?_append, List.getLast?_singleton]; rfl)
      refine ⟨(7, [], t.2.2.2, t.2.2.2) :: vs, ?_, ?_⟩
      · rw [g1]; simp
      · rw [List.map_cons, List.map_cons, g2]; rfl
  | real p t us hr _ ih =>
    intro acc k ha
    have e : agn (t :: us) = t.2.1 ++ 32 :: agn us := by
      show agn1 t ++ agn us = _
      rw [agn_real hr, List.append_assoc]; rfl
    rw [e, lex_tok ff acc k t.1 t.2.1 _ hr, lex_blank]
    obtain ⟨vs, g1, g2⟩ := ih (acc ++ [(t.1, t.2.1, k, k + t.2.1.length)]) (k + t.2.1.length + 1) (by rw [List.getLast?_append, List.getLast?_singleton]; rfl)
    refine ⟨(t.1, t.2.1, k, k + t.2.1.length) :: vs, ?_, ?_⟩
    · rw [g1]; simp
    · rw [List.map_cons, List.map_cons, g2]; rfl
theorem wf_len (ff : List UInt8 → Nat) (p : Option Tok) (us : List Tok) (h : WF ff p us) : (agn us).length ≤ 3 * sumX us + (match p with
    | none => 0
    | some t => if wants t then 1 else 0) := by
  induction h with
  | nil p hp => exact Nat.zero_le _
  | semi p j us hw _ ih =>
    have e : agn ((7, [], j, j) :: us) = 10 :: agn us := rfl
    rw [e, List.length_cons]
    simp only [hw, if_true]
    simp only [semi_no, Bool.false_eq_true, if_false] at ih
    simp only [sumX, List.length_nil]
    omega
  | real p t us hr _ ih =>
    have e : agn (t :: us) = t.2.1 ++ 32 :: agn us := by
      show agn1 t ++ agn us = _
      rw [agn_real hr, List.append_assoc]; rfl
    have hp := List.length_pos_iff.2 hr.ne
    rw [e, List.length_append, List.length_cons]
    simp only [sumX]
    simp only at ih
    have : (if wants t = true then 1 else 0) ≤ 1 := by split <;> omega
    omega
theorem wf_valid (ff : List UInt8 → Nat) (p : Option Tok) (us : List Tok) (h : WF ff p us) : valid (agn us) = true := by
  induction h with
  | nil p hp => rfl
  | semi p j us hw _ ih =>
    show valid (10 :: agn us) = true
    rw [valid_ascii 10 _ (by decide)]; exact ih
  | real p t us hr _ ih =>
    have e : agn (t :: us) = t.2.1 ++ 32 :: agn us := by
      show agn1 t ++ agn us = _
      rw [agn_real hr, List.append_assoc]; rfl
    rw [e, valid_append _ _ hr.val, valid_ascii 32 _ (by decide)]; exact ih
theorem valid_full {l : List UInt8} (h : valid l = true) : ¬ good l < l.length := by
  rw [valid_good, decide_eq_true_eq] at h; omega
theorem full_valid {l : List UInt8} (h : ¬ good l < l.length) : valid l = true := by
  have := good_le l
  rw [valid_good, decide_eq_true_eq]; omega
theorem tokens_WF (ff : List UInt8 → Nat) (l : List UInt8) (ts : List Tok) (h : tokensL ff l = .ok ts) : WF ff none ts ∧ sumX ts ≤ l.length := by
  unfold tokensL at h
  split at h
  · cases h
  · split at h
    · cases h
    · rename_i hg
      obtain ⟨us, e1, e2, e3⟩ := lexF_WF ff _ l (Nat.lt_succ_self _) [] 0 ts (full_valid hg) h
      rw [List.nil_append] at e1
      subst e1
      exact ⟨e2, e3⟩
theorem again_len (ff : List UInt8 → Nat) (l : List UInt8) (ts : List Tok) (h : tokensL ff l = .ok ts) : (agn ts).length ≤ 3 * l.length := by
  obtain ⟨h1, h2⟩ := tokens_WF ff l ts h
  have := wf_len ff none ts h1
  simp only at this
  omega
/-- ████ The tokens of tokens written again are the same, but for places. -/
theorem again_same (ff : List UInt8 → Nat) (l : List UInt8) (ts : List Tok) (h : tokensL ff l = .ok ts) (hl : l.length ≤ 21000) : ∃ vs, tokensL ff (agn ts) = .ok vs ∧ vs.map kt = ts.map kt := by
  obtain ⟨h1, h2⟩ := tokens_WF ff l ts h
  have h3 := again_len ff l ts h
  have h4 := wf_valid ff none ts h1
  obtain ⟨vs, g1, g2⟩ := relex ff none ts h1 [] 0 rfl
  refine ⟨vs, ?_, g2⟩
  unfold tokensL
  rw [if_neg (by omega), if_neg (valid_full h4), g1, List.nil_append]
end Go.Proofs.YtcbfohokigamfaaGreatDoor
