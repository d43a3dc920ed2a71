/-
  PLAIN FACTS ABOUT WHAT LEADS BACK: what Invert tells fits what the splices make, and makes the text of it. No program; no condition but those that each theorem says.
-/
import Derived.Test.YtlgjlfljohapfaaEInvert
namespace Go.Proofs.Ytlgjlfljohapfaa
open Go.RowKit

theorem ext_bytes (s : ByteArray) (a b : Nat) : (s.extract a b).data.toList = (s.data.toList.drop a).take (b - a) := Lib.extract_data s a b
theorem size_bytes (s : ByteArray) : s.data.toList.length = s.size := rfl
theorem drop_split (l : List UInt8) (a b : Nat) (h : a ≤ b) : (l.drop a).take (b - a) ++ l.drop b = l.drop a := by
  have := List.take_append_drop (b - a) (l.drop a)
  rw [List.drop_drop, show a + (b - a) = b by omega] at this
  exact this
theorem cat_pcs_cons (text : ByteArray) (a : Nat) (x : Spl) (L : List Spl) : cat (pcsF text a (x :: L)) = (text.data.toList.drop a).take (x.f.toNat - a) ++ (x.s.data.toList ++ cat (pcsF text x.t.toNat L)) := by
  rw [pcsF, cat_cons, cat_cons, ext_bytes]
theorem cat_pcs_nil (text : ByteArray) (a : Nat) : cat (pcsF text a []) = text.data.toList.drop a := by
  rw [pcsF, cat_cons, cat_nil, List.append_nil, ext_bytes, List.take_of_length_le]
  rw [List.length_drop, size_bytes]
  exact Nat.le_refl _
theorem back_aux (text : ByteArray) (T : List UInt8) : ∀ (L : List Spl) (a : Nat) (sh : Int) (p : List UInt8), a ≤ text.size → fitsF text.size a L = true → (p.length : Int) = a + sh → T = p ++ cat (pcsF text a L) →
    fitsF T.length (p.length : Int) (invF text sh L) = true ∧ cat (pcsF (textOf T) p.length (invF text sh L)) = text.data.toList.drop a
  | [], a, sh, p, ha, _, _, hT => by
    refine ⟨rfl, ?_⟩
    rw [invF, cat_pcs_nil, textOf_list, hT, List.drop_append_of_le_length (Nat.le_refl _), List.drop_eq_nil_of_le (Nat.le_refl _), List.nil_append, cat_pcs_nil]
  | x :: L, a, sh, p, ha, hf, hp, hT => by
    obtain ⟨f1, f2, f3, f4⟩ := fitsF_step hf
    obtain ⟨xf, xt, xs⟩ := x
    simp only at f1 f2 f3 f4
    obtain ⟨f, rfl⟩ := Int.eq_ofNat_of_zero_le (show 0 ≤ xf by omega)
    obtain ⟨t, rfl⟩ := Int.eq_ofNat_of_zero_le (show 0 ≤ xt by omega)
    rw [cat_pcs_cons] at hT
    simp only [Int.toNat_natCast] at hT
    have hl1 : ((text.data.toList.drop a).take (f - a)).length = f - a := by
      rw [List.length_take, List.length_drop, size_bytes]
      omega
    have hp' : (((p ++ (text.data.toList.drop a).take (f - a)) ++ xs.data.toList).length : Int) = t + (sh + grow ⟨(f : Int), (t : Int), xs⟩) := by
      rw [List.length_append, List.length_append, hl1, size_bytes]
      unfold grow
      simp only
      omega
    have hT' : T = ((p ++ (text.data.toList.drop a).take (f - a)) ++ xs.data.toList) ++ cat (pcsF text t L) := by
      rw [hT]
      simp [List.append_assoc]
    obtain ⟨ih1, ih2⟩ := back_aux text T L t _ _ (by omega) f4 hp' hT'
    have hlen : ((p ++ (text.data.toList.drop a).take (f - a)) ++ xs.data.toList).length = p.length + (f - a) + xs.size := by
      rw [List.length_append, List.length_append, hl1, size_bytes]
    have hTl : p.length + (f - a) + xs.size ≤ T.length := by
      rw [hT', List.length_append, hlen]
      omega
    rw [hlen] at ih1 ih2
    have e1 : (f : Int) + sh = ((p.length + (f - a) : Nat) : Int) := by omega
    have e2 : (f : Int) + sh + xs.size = ((p.length + (f - a) + xs.size : Nat) : Int) := by omega
    rw [invF]
    simp only [Int.toNat_natCast]
    refine ⟨?_, ?_⟩
    · rw [fitsF_yes (by simp only; omega) (by simp only; omega) (by simp only; omega)]
      simp only
      rw [e2]
      exact ih1
    · rw [cat_pcs_cons]
      simp only
      rw [e2, e1, Int.toNat_natCast, Int.toNat_natCast, ih2, textOf_list, show p.length + (f - a) - p.length = f - a by omega]
      have h1 : (T.drop p.length).take (f - a) = (text.data.toList.drop a).take (f - a) := by
        rw [hT, List.drop_append_of_le_length (Nat.le_refl _), List.drop_eq_nil_of_le (Nat.le_refl _), List.nil_append, List.take_append_of_le_length (by rw [hl1]; exact Nat.le_refl _), List.take_of_length_le (by rw [hl1]; exact Nat.le_refl _)]
      rw [h1, ext_bytes, drop_split _ _ _ (by omega), drop_split _ _ _ (by omega)]
/-- How long what splices make may be. -/
theorem made_len (text : ByteArray) (m : Nat) : ∀ (L : List Spl) (a : Nat), a ≤ text.size → fitsF text.size a L = true → (∀ x ∈ L, x.s.size ≤ m) → (cat (pcsF text a L)).length ≤ (text.size - a) + m * L.length
  | [], a, ha, _, _ => by
    rw [cat_pcs_nil, List.length_drop, size_bytes]
    omega
  | x :: L, a, ha, hf, hm => by
    obtain ⟨f1, f2, f3, f4⟩ := fitsF_step hf
    have hx := hm x List.mem_cons_self
    obtain ⟨xf, xt, xs⟩ := x
    simp only at f1 f2 f3 f4 hx
    obtain ⟨f, rfl⟩ := Int.eq_ofNat_of_zero_le (show 0 ≤ xf by omega)
    obtain ⟨t, rfl⟩ := Int.eq_ofNat_of_zero_le (show 0 ≤ xt by omega)
    have ih := made_len text m L t (by omega) f4 (fun y hy => hm y (List.mem_cons_of_mem _ hy))
    rw [cat_pcs_cons]
    simp only [Int.toNat_natCast]
    rw [List.length_append, List.length_append, size_bytes, List.length_take, List.length_drop, size_bytes, List.length_cons, Nat.mul_succ]
    omega
theorem few_lim {text : ByteArray} {L : List Spl} (ht : text.size ≤ 1500) (hn : L.length ≤ 30) (hx : ∀ x ∈ L, x.s.size ≤ 300) : Lim text L := ⟨by omega, by omega, fun x h => by have := hx x h; omega⟩
theorem few_made {text : ByteArray} {L : List Spl} (ht : text.size ≤ 1500) (hn : L.length ≤ 30) (hx : ∀ x ∈ L, x.s.size ≤ 300) (hf : fits text.size L = true) : (madeL text L).length ≤ 10500 := by
  have hf0 : fitsF text.size ((0 : Nat) : Int) L = true := by unfold fits at hf; rw [Bool.and_eq_true] at hf; exact hf.2
  have := made_len text 300 L 0 (Nat.zero_le _) hf0 hx
  unfold madeL
  omega
theorem few_fault {text : ByteArray} {L : List Spl} (ht : text.size ≤ 1500) (hn : L.length ≤ 30) (hx : ∀ x ∈ L, x.s.size ≤ 300) : faultV text L = chkE (fits text.size L) := by
  unfold faultV chkE
  by_cases hf : fits text.size L = true
  · have := few_made ht hn hx hf
    rw [if_pos hf, if_pos hf, if_neg (by omega)]
  · rw [if_neg hf, if_neg hf]
/-- What leads back fits, and leads back. -/
theorem back_yes {text : ByteArray} {L : List Spl} (ht : text.size ≤ 1500) (hn : L.length ≤ 30) (hx : ∀ x ∈ L, x.s.size ≤ 300) (hf : fits text.size L = true) :
    Lim (textOf (madeL text L)) (invL text L) ∧ faultV (textOf (madeL text L)) (invL text L) = 0 ∧ applyS (textOf (madeL text L)) (invL text L) = text := by
  have hf0 : fitsF text.size ((0 : Nat) : Int) L = true := by unfold fits at hf; rw [Bool.and_eq_true] at hf; exact hf.2
  have hm := few_made ht hn hx hf
  obtain ⟨h1, h2⟩ := back_aux text (madeL text L) L 0 0 [] (Nat.zero_le _) hf0 rfl rfl
  have hs : (textOf (madeL text L)).size = (madeL text L).length := textOf_size _
  have h3 : fits (textOf (madeL text L)).size (invL text L) = true := by
    unfold fits
    rw [hs, decide_eq_true (by omega), Bool.true_and]
    exact h1
  have h4 : madeL (textOf (madeL text L)) (invL text L) = text.data.toList := h2.trans (by simp)
  have h5 : faultV (textOf (madeL text L)) (invL text L) = 0 := by
    unfold faultV
    rw [if_pos h3, h4, if_neg (by rw [size_bytes]; omega)]
  refine ⟨⟨by rw [hs]; omega, by unfold invL; rw [invF_len]; omega, ?_⟩, h5, ?_⟩
  · have key : ∀ (L : List Spl) (sh : Int), ∀ x ∈ invF text sh L, x.s.size ≤ 1000000 := by
      intro L
      induction L with
      | nil => intro sh x h; cases h
      | cons y L ih =>
        intro sh x h
        rcases List.mem_cons.1 h with rfl | h
        · exact ext_le _ _ _ (by omega)
        · exact ih _ x h
    exact key L 0
  · unfold applyS
    rw [if_pos h5, h4]
    rfl
end Go.Proofs.Ytlgjlfljohapfaa
