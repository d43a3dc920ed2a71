/-
  edits' faultOf and Apply, AT EVERY TEXT and every list of splices. No memory that was there turns. Conditions: the lengths.
-/
import Derived.Test.YtlgjlfljohapfaaEJoin
namespace Go.Proofs.Ytlgjlfljohapfaa
open Go.RowKit

/-- Why splices make nothing of a text. -/
def faultV (text : ByteArray) (L : List Spl) : Int := if fits text.size L = true then (if 65536 < (madeL text L).length then 3 else 0) else 2
def applyS (text : ByteArray) (L : List Spl) : ByteArray := if faultV text L = 0 then textOf (madeL text L) else ⟨#[]⟩
/-- What splices and a text must be, for the walks. -/
structure Lim (text : ByteArray) (L : List Spl) : Prop where
  text : text.size ≤ 1000000
  len : L.length ≤ 1000
  each : ∀ x ∈ L, x.s.size ≤ 1000000
theorem pcs_tot (text : ByteArray) (L : List Spl) : tot (pcsF text 0 L) = (madeL text L).length := rfl
theorem pcsF_each (text : ByteArray) (h : text.size ≤ 1000000) : ∀ (L : List Spl) (a : Nat), (∀ x ∈ L, x.s.size ≤ 1000000) → (cat (pcsF text a L)).length ≤ (2 * L.length + 1) * 1000000
  | [], a, _ => by
    rw [pcsF, cat_cons, cat_nil, List.append_nil]
    have h1 := ext_le text a text.size h
    have h2 : (text.extract a text.size).data.toList.length = (text.extract a text.size).size := rfl
    simp only [List.length_nil]
    omega
  | x :: L, a, hx => by
    have ih := pcsF_each text h L x.t.toNat (fun y hy => hx y (List.mem_cons_of_mem _ hy))
    have h1 := ext_le text a x.f.toNat h
    have h2 : (text.extract a x.f.toNat).data.toList.length = (text.extract a x.f.toNat).size := rfl
    have h3 := hx x List.mem_cons_self
    have h4 : x.s.data.toList.length = x.s.size := rfl
    rw [pcsF, cat_cons, cat_cons, List.length_append, List.length_append, List.length_cons]
    omega
set_option maxRecDepth 100000 in
set_option maxHeartbeats 1000000 in
theorem faultOf_any (text : ByteArray) (A : Option Addr) (L : List Spl) (c : Nat) (hl : Lim text L) (w : World) (hS : SR w A L) :
    Calls Try.prog 38 #[.string text, .slice A L.length c] w fun e w' => e = .returned (.int .i64 (faultV text L)) ∧ Below w.heap.size w w' := by
  have HC := Lib.hid (check_any (text.size : Int) A L c (by have := hl.len; omega) w hS)
  have hts := hl.text
  unfold faultV
  by_cases hf : fits text.size L = true
  · have HP := Lib.hid (fun W (hb : Below w.heap.size w W) => pieces_any text A L c hl.text hl.len hl.each hf W (hS.keep hb))
    rw [hf] at HC
    rw [hf, if_pos rfl]
    have HZ := Lib.hid (fun lb W h => size_any 60 lb (pcsF text 0 L) W h)
    rw [pcs_tot] at HZ
    have hb3 := pcsF_each text hl.text L 0 hl.each
    have hb3 : (madeL text L).length ≤ (2 * L.length + 1) * 1000000 := hb3
    have hln := hl.len
    generalize (madeL text L).length = M at *
    have hM : M ≤ 3000000000 := by omega
    clear hb3 hln hf hl hS
    by_cases hgt : 65536 < M
    · rw [if_pos hgt]
      go_enter Try.func38, Try.ntmps38
      go_wp2_with fail
      refine HC.out.mono ?_
      rintro e w1 ⟨rfl, hb1⟩
      have HB1 := Lib.hid hb1
      clear hb1
      unfold chkE
      go_wp2_with fail
      refine (HP.out _ HB1.out).mono ?_
      rintro e w2 ⟨lb, rfl, hI, hb2⟩
      have HI := Lib.hid hI
      have HB2 := Lib.hid (HB1.out.trans (hb2.mono HB1.out.size))
      clear hI hb2
      go_wp2_with fail
      refine (HZ.out _ _ HI.out).mono ?_
      rintro e w3 ⟨rfl, hb3⟩
      have HB3 := Lib.hid (HB2.out.trans (hb3.mono HB2.out.size))
      clear hb3
      go_wp2_with fail
      go_ret
      exact ⟨rfl, HB3.out⟩
    · rw [if_neg hgt]
      go_enter Try.func38, Try.ntmps38
      go_wp2_with fail
      refine HC.out.mono ?_
      rintro e w1 ⟨rfl, hb1⟩
      have HB1 := Lib.hid hb1
      clear hb1
      unfold chkE
      go_wp2_with fail
      refine (HP.out _ HB1.out).mono ?_
      rintro e w2 ⟨lb, rfl, hI, hb2⟩
      have HI := Lib.hid hI
      have HB2 := Lib.hid (HB1.out.trans (hb2.mono HB1.out.size))
      clear hI hb2
      go_wp2_with fail
      refine (HZ.out _ _ HI.out).mono ?_
      rintro e w3 ⟨rfl, hb3⟩
      have HB3 := Lib.hid (HB2.out.trans (hb3.mono HB2.out.size))
      clear hb3
      go_wp2_with fail
      go_ret
      exact ⟨rfl, HB3.out⟩
  · have hf2 : fits text.size L = false := by simpa using hf
    rw [hf2] at HC
    rw [if_neg hf]
    clear hf hf2
    unfold chkE at HC
    go_enter Try.func38, Try.ntmps38
    go_wp2_with fail
    refine HC.out.mono ?_
    rintro e w1 ⟨rfl, hb1⟩
    go_wp2_with fail
    go_ret
    exact ⟨rfl, hb1⟩
set_option maxRecDepth 100000 in
set_option maxHeartbeats 1000000 in
theorem apply_any (text : ByteArray) (A : Option Addr) (L : List Spl) (c : Nat) (hl : Lim text L) (w : World) (hS : SR w A L) :
    Calls Try.prog 14 #[.string text, .slice A L.length c] w fun e w' => e = .returned (.tuple #[.string (applyS text L), .int .i64 (faultV text L)]) ∧ Below w.heap.size w w' := by
  have HC := Lib.hid (faultOf_any text A L c hl w hS)
  by_cases h0 : faultV text L = 0
  · have hf : fits text.size L = true := by
      unfold faultV at h0
      by_cases hf : fits text.size L = true
      · exact hf
      · rw [if_neg hf] at h0; omega
    have HP := Lib.hid (fun W (hb : Below w.heap.size w W) => pieces_any text A L c hl.text hl.len hl.each hf W (hS.keep hb))
    have hb3 : tot (pcsF text 0 L) ≤ (2 * L.length + 1) * 1000000 := pcsF_each text hl.text L 0 hl.each
    have hln := hl.len
    have HZ := Lib.hid (fun lb W h => joined_any 60 lb (pcsF text 0 L) (by omega) W h)
    rw [show textOf (cat (pcsF text 0 L)) = applyS text L from by unfold applyS; rw [if_pos h0]; rfl] at HZ
    rw [h0] at HC ⊢
    generalize applyS text L = S at *
    clear hb3 hln hf hl hS h0
    go_enter Try.func14, Try.ntmps14
    go_wp2_with fail
    refine HC.out.mono ?_
    rintro e w1 ⟨rfl, hb1⟩
    have HB1 := Lib.hid hb1
    clear hb1
    go_wp2_with fail
    refine (HP.out _ HB1.out).mono ?_
    rintro e w2 ⟨lb, rfl, hI, hb2⟩
    have HI := Lib.hid hI
    have HB2 := Lib.hid (HB1.out.trans (hb2.mono HB1.out.size))
    clear hI hb2
    go_wp2_with fail
    refine (HZ.out _ _ HI.out).mono ?_
    rintro e w3 ⟨rfl, hb3⟩
    have HB3 := Lib.hid (HB2.out.trans (hb3.mono HB2.out.size))
    clear hb3
    go_wp2_with fail
    go_ret2
    exact ⟨rfl, HB3.out⟩
  · have ha : applyS text L = ⟨#[]⟩ := by unfold applyS; rw [if_neg h0]
    rw [ha]
    have h2 : faultV text L = 2 ∨ faultV text L = 3 := by
      unfold faultV at h0 ⊢
      split
      · rename_i hf
        rw [if_pos hf] at h0
        split
        · exact .inr rfl
        · rename_i hg; rw [if_neg hg] at h0; exact absurd rfl h0
      · exact .inl rfl
    generalize faultV text L = F at *
    clear ha hS hl h0
    rcases h2 with rfl | rfl
    all_goals
      go_enter Try.func14, Try.ntmps14
      go_wp2_with fail
      refine HC.out.mono ?_
      rintro e w1 ⟨rfl, hb1⟩
      go_wp2_with fail
      go_ret2
      exact ⟨rfl, hb1⟩
end Go.Proofs.Ytlgjlfljohapfaa
