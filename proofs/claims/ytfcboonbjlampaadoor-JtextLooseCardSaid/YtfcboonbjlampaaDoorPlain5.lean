/-
  PLAIN FACTS: what a string says, point by point, is what it says byte by byte, where the text is valid. No program; no condition but those that each theorem says.
-/
import Derived.Test.YtfcboonbjlampaaDoorPlain3
namespace Go.Proofs.YtfcboonbjlampaaDoor

theorem hexN_all : ∀ (l : List UInt8) (n m : Nat), hexN n l = some m → ∀ c ∈ l, c.toNat < 128
  | [], _, _, _, c, hc => by cases hc
  | a :: l, n, m, h, c, hc => by
    cases ha : hexD a with
    | none => rw [hexN_cons_none ha] at h; cases h
    | some d =>
      rw [hexN_cons_some ha] at h
      rcases List.mem_cons.1 hc with rfl | hc
      · exact (hexD_lt ha).2
      · exact hexN_all l _ _ h c hc
theorem unitU_last (l : List UInt8) (a : Nat) (h : unitU l = some a) : nth l 4 < 128 := by
  have hl := unitU_lt h
  unfold unitU at h
  split at h
  · unfold hex4 at h
    split at h
    · cases h
    · have hm := hexN_all _ _ _ h
      have h4 : 4 < l.length := by omega
      have hmem : l[4] ∈ (l.drop 1).take 4 := by
        refine List.mem_of_getElem? (i := 3) ?_
        rw [List.getElem?_take, if_pos (by omega), List.getElem?_drop, List.getElem?_eq_getElem h4]
      have := hm _ hmem
      unfold nth
      rw [List.getD_eq_getElem?_getD, List.getElem?_eq_getElem h4]
      exact this
  · cases h
theorem escP_last (l : List UInt8) (p k : Nat) (h : escP l = some (p, k)) : nth l (k - 1) < 128 := by
  cases hu : unitU l with
  | none =>
    rw [escP_short l hu] at h
    unfold shortP at h
    split at h
    · cases h
    · cases hs : short (nth l 0) with
      | none => rw [hs] at h; cases h
      | some q =>
        rw [hs] at h
        simp only [Option.map_some, Option.some.injEq, Prod.mk.injEq] at h
        rw [← h.2]
        exact (short_lt hs).2.1
  | some a =>
    rw [escP_unit l a hu] at h
    split at h
    · simp only [Option.some.injEq, Prod.mk.injEq] at h
      rw [← h.2]
      exact unitU_last l a hu
    · split at h
      · cases h
      · split at h
        · cases h
        · rename_i b hb
          split at h
          · cases h
          · simp only [Option.some.injEq, Prod.mk.injEq] at h
            rw [← h.2]
            unfold unitB at hb
            split at hb
            · rw [List.drop_drop] at hb
              have := unitU_last _ b hb
              rw [nth_drop] at this
              exact this
            · cases hb
theorem far_plain (l : List UInt8) (h : ∀ c ∈ l, 128 ≤ c.toNat) : ∀ c ∈ l, plainB c := by
  intro c hc
  have := h c hc
  exact ⟨by omega, by omega, by omega⟩
/-- ████ Point by point is byte by byte. -/
theorem strP_strB : ∀ (n : Nat) (l : List UInt8), l.length ≤ n → valid l = true → strP l = strB l
  | _, [], _, _ => rfl
  | 0, c :: t, h, _ => by simp at h
  | n + 1, c :: t, h, hv => by
    rw [List.length_cons] at h
    have h0 : nth (c :: t) 0 = c.toNat := rfl
    have hne : c :: t ≠ [] := by simp
    by_cases h34 : c.toNat = 34
    · rw [strP_end _ hne h34, strB_end c t h34]
    by_cases h92 : c.toNat = 92
    · rw [strP_esc _ hne h92, strB_esc c t h92]
      have hd : (c :: t).drop 1 = t := rfl
      rw [hd]
      cases he : escP t with
      | none => rfl
      | some x =>
        obtain ⟨p, k⟩ := x
        have hk := escP_le he
        have hlast := escP_last t p k he
        have hdk : (c :: t).drop (k + 1) = t.drop k := rfl
        have hvt : valid (t.drop k) = true := by
          rw [← hdk]
          refine valid_drop _ (k + 1) hv (by omega) (by rw [List.length_cons]; omega) ?_
          rw [show k + 1 - 1 = (k - 1) + 1 by omega]
          exact hlast
        simp only [hdk]
        rw [strP_strB n (t.drop k) (by rw [List.length_drop]; omega) hvt]
        cases strB (t.drop k) <;> rfl
    by_cases h128 : c.toNat < 128
    · obtain ⟨e1, e2⟩ := ptR_near (c :: t) h128
      rw [h0] at e1
      by_cases h32 : c.toNat < 32
      · rw [strP_low _ hne h34 h92 (by rw [e1]; omega), strB_low c t h34 h32]
      · have hvt : valid t = true := by rw [← valid_ascii c t h128]; exact hv
        rw [strP_pt _ hne h34 h92 (by rw [e1]; omega), e2, e1, Int.toNat_natCast, strB_one c t ⟨h34, h32, h92⟩]
        have hd : (c :: t).drop 1 = t := rfl
        rw [hd, strP_strB n t (by omega) hvt, enc_ascii c.toNat h128]
        have hc : UInt8.ofNat c.toNat = c := by simp
        rw [hc]
        cases strB t <;> rfl
    · rw [valid_cons _ hne, Bool.and_eq_true, decide_eq_true_eq] at hv
      obtain ⟨hp, hvd⟩ := hv
      have hfar := ptR_far (c :: t) (by rw [h0]; omega)
      have hr : ptR (c :: t) = pt (c :: t) := by unfold ptR; rw [if_neg (by omega)]
      rw [strP_pt _ hne h34 h92 (by omega), hr, enc_dec _ hne hp]
      rw [hr] at hfar
      have hpl := pt_le (c :: t)
      have hlt := drop_lt (c :: t) hne
      have hw := wd_le _ hne
      rw [List.length_cons] at hlt
      have hb : strB (c :: t) = strB ((c :: t).take (wd (c :: t)) ++ (c :: t).drop (wd (c :: t))) := by rw [List.take_append_drop]
      rw [hb, strB_many _ _ (far_plain _ (by
        intro d hd
        rw [← enc_dec _ hne hp] at hd
        exact encL_far _ (by omega) (by omega) d hd)), strP_strB n _ (by omega) hvd, List.length_take, Nat.min_eq_left hw]
end Go.Proofs.YtfcboonbjlampaaDoor
