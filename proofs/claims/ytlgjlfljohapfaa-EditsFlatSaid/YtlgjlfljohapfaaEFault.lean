/-
  edits' meanings and faultOfParts, AT EVERY TEXT and list of parts. No memory that was there turns. Conditions: the lengths.
-/
import Derived.Test.YtlgjlfljohapfaaEParts
namespace Go.Proofs.Ytlgjlfljohapfaa
open Go.RowKit Go.Shelf

/-- What a text and parts must be, for the walks. -/
structure LimP (text : ByteArray) (P : List Prt) : Prop where
  text : text.size ≤ 1000000
  len : P.length ≤ 1000
  each : ∀ x ∈ P, x.s.size ≤ 1000000
theorem means_tot {text : ByteArray} {P : List Prt} (h : LimP text P) : tot (means text P) ≤ 1000000000 := by
  have key : ∀ P : List Prt, (∀ x ∈ P, x.s.size ≤ 1000000) → tot (means text P) ≤ P.length * 1000000 := by
    intro P
    induction P with
    | nil => intro _; exact Nat.zero_le _
    | cons x P ih =>
      intro hx
      have h1 := ih (fun y hy => hx y (List.mem_cons_of_mem _ hy))
      have h2 : (meanS text x).size ≤ 1000000 := by
        unfold meanS
        split
        · exact ext_le _ _ _ h.text
        · exact hx x List.mem_cons_self
      show (cat (meanS text x :: means text P)).length ≤ _
      rw [cat_cons, List.length_append, List.length_cons, size_bytes]
      unfold tot at h1
      omega
  have := key P h.each
  have := h.len
  omega
set_option maxRecDepth 100000 in
theorem meanings_any (text : ByteArray) (A : Option Addr) (P : List Prt) (c : Nat) (hl : LimP text P) (hok : P.all (prtOk text) = true) (w : World) (hS : PR w A P) :
    Calls Try.prog 49 #[.string text, .slice A P.length c] w fun e w' => ∃ lb, e = .returned (.func (.func 66) #[] lb) ∧ Iter w' 66 lb (means text P) ∧ Below w.heap.size w w' := by
  have hb1 := alloc_below w (.cells #[.string text] 9)
  have hb2 := alloc_below (w.alloc (.cells #[.string text] 9)) (.cells #[.slice A P.length c] 68)
  have hb := hb1.trans (hb2.mono hb1.size)
  have h2 := heap_keep hb2 (alloc_top w #[.string text] 9)
  have h1 := alloc_top (w.alloc (.cells #[.string text] 9)) #[.slice A P.length c] 68
  have hS2 := hS.keep hb
  have hln := hl.len
  have HI : Hid (Iter ((w.alloc (.cells #[.string text] 9)).alloc (.cells #[.slice A P.length c] 68)) 66 #[.pointer (some ⟨w.heap.size + 1, 0, none⟩), .pointer (some ⟨w.heap.size, 0, none⟩)] (means text P)) := Lib.hid (by
    refine ⟨enters_of Try.func66 (by kernel_rfl) rfl, fun n X W0 hb3 hX l J Jx W hbW hJ hJx hY h0 => ?_⟩
    rw [World.size_alloc] at h1
    have hx : ∀ k, k < w.heap.size + 2 → ¬ X k := fun k hk hx => by have := (hX k hx).1; simp at this; omega
    refine means_seq n text A P c hl.text hl.len hl.each hok (w.heap.size + 1) w.heap.size X W0 (heap_keep hb3 h1) (heap_keep hb3 h2) (hS2.keep hb3) (fun k hk => (hX k hk).2) (hx _ (by omega)) (fun h0 b o e => ?_) l J Jx W hbW hJ hJx (fun pre x W1 h hp => hY pre x W1 h (by omega)) h0
    obtain ⟨b', o', e', hc⟩ := hS h0
    rw [e] at e'
    cases e'
    have := cell_lt (hc 0 _ (List.getElem?_eq_getElem h0)).1
    exact hx _ (by omega))
  have HB := Lib.hid hb
  clear hb1 hb2 hb h1 h2 hS2 hS hl hok hln
  go_enter Try.func49, Try.ntmps49
  go_wp2_with fail
  go_ret
  exact ⟨_, rfl, HI.out, HB.out⟩
set_option maxRecDepth 100000 in
set_option maxHeartbeats 2000000 in
theorem faultOfParts_any (text : ByteArray) (A : Option Addr) (P : List Prt) (c : Nat) (hl : LimP text P) (w : World) (hS : PR w A P) :
    Calls Try.prog 48 #[.string text, .slice A P.length c] w fun e w' => e = .returned (.int .i64 (partsE text P)) ∧ Below w.heap.size w w' := by
  have HS := Lib.hid hS
  have hts := hl.text
  have hln := hl.len
  have HM := Lib.hid (fun (hok : P.all (prtOk text) = true) W hb => meanings_any text A P c hl hok W (hS.keep hb))
  have HZ := Lib.hid (fun lb W h => size_any 66 lb (means text P) W h)
  have hmt := means_tot hl
  obtain ⟨r, hr⟩ : ∃ r, P.all (prtOk text) = r := ⟨_, rfl⟩
  have hE : partsE text P = if r = true then (if 65536 < tot (means text P) then 3 else 0) else 2 := by unfold partsE; rw [hr]
  rw [hE]
  rw [hr] at HM
  have HR : Hid (r = (P.drop 0).all (prtOk text)) := Lib.hid hr.symm
  generalize tot (means text P) = M at *
  clear hS hl hr hE
  go_enter Try.func48, Try.ntmps48
  go_wp2_with fail
  go_loopw [9] (fun k wr => ∃ i : Nat, k = .int .i64 (i : Int) ∧ i ≤ P.length ∧ Hid (r = (P.drop i).all (prtOk text)) ∧ Hid (Below w.heap.size w wr)) (fun k _ => P.length - (intOf k).toNat)
  case atStart => exact ⟨0, rfl, Nat.zero_le _, HR, Lib.hid (Below.refl _ _)⟩
  case round =>
    obtain ⟨i, rfl, hi, hf, hb⟩ := hrel
    clear HR
    by_cases hlt : i < P.length
    · obtain ⟨x, hx⟩ : ∃ x, P[i]? = some x := ⟨_, List.getElem?_eq_getElem hlt⟩
      obtain ⟨b, o, rfl, d0, d1, d2, d3⟩ := HS.out.at hx
      have hbw := cell_lt d0
      have c0 := cell_keep2 hb.out d0 hbw
      have c1 := cell_keep2 hb.out d1 hbw
      have c2 := cell_keep2 hb.out d2 hbw
      have c3 := cell_keep2 hb.out d3 hbw
      have hd := drop_at hx
      rw [hd, List.all_cons] at hf
      have q : decide ((i : Int) < (P.length : Int)) = true := by simpa using hlt
      have HB2 := Lib.hid (hb.out.trans ((alloc_below wr (.cells #[.int .i64 x.f, .int .i64 x.t, .string x.s, .bool x.n] 67)).mono hb.out.size))
      have HT := Lib.hid (alloc_top wr #[.int .i64 x.f, .int .i64 x.t, .string x.s, .bool x.n] 67)
      have HCP := Lib.hid (fun W => isCopy_any x W)
      unfold prtOk at hf
      clear hx hd d0 d1 d2 d3 hbw hb
      cases hcp : isCp x with
      | false =>
        rw [hcp] at HCP hf
        have HF : Hid (r = (P.drop (i + 1)).all (prtOk text)) := Lib.hid (by rw [hf.out]; simp; rfl)
        clear hcp hf
        go_wp2_with fail
        refine (HCP.out _).mono ?_
        rintro e w2 ⟨rfl, hb2⟩
        have HB3 := Lib.hid (HB2.out.trans (hb2.mono HB2.out.size))
        clear hb2 HB2 HT c0 c1 c2 c3
        go_wp2_with fail
        go_roundw
        case rel => exact ⟨i + 1, by go_num, by omega, HF, HB3⟩
        case measure => simp [intOf]; omega
      | true =>
        rw [hcp] at HCP hf
        by_cases hin : 0 ≤ x.f ∧ x.f ≤ x.t ∧ x.t ≤ text.size
        · obtain ⟨g1, g2, g3⟩ := hin
          have hin : inT text x = true := by unfold inT; rw [decide_eq_true g1, decide_eq_true g2, decide_eq_true g3]; rfl
          have HF : Hid (r = (P.drop (i + 1)).all (prtOk text)) := Lib.hid (by rw [hf.out, hin]; simp; rfl)
          have e1 : ¬ x.f < 0 := by omega
          have e2 : ¬ x.t < x.f := by omega
          have e3 : ¬ (text.size : Int) < x.t := by omega
          clear hcp hf hin
          go_wp2_with fail
          refine (HCP.out _).mono ?_
          rintro e w2 ⟨rfl, hb2⟩
          have HB3 := Lib.hid (HB2.out.trans (hb2.mono HB2.out.size))
          have hc2 := heap_keep hb2 HT.out
          have k0 := cell_at (i := 0) hc2
          have k1 := cell_at (i := 1) hc2
          clear hb2 HB2 HT c0 c1 c2 c3 hc2
          go_wp2_with fail
          go_roundw
          case rel => exact ⟨i + 1, by go_num, by omega, HF, HB3⟩
          case measure => simp [intOf]; omega
        · have hin2 : inT text x = false := by
            unfold inT
            by_cases g1 : 0 ≤ x.f
            · by_cases g2 : x.f ≤ x.t
              · rw [decide_eq_false (p := x.t ≤ text.size) (fun g3 => hin ⟨g1, g2, g3⟩)]; simp
              · rw [decide_eq_false g2]; simp
            · rw [decide_eq_false g1]; simp
          have hrf : r = false := by rw [hf.out, hin2]; rfl
          subst hrf
          clear hcp hf hin2 HM
          go_wp2_with fail
          refine (HCP.out _).mono ?_
          rintro e w2 ⟨rfl, hb2⟩
          have HB3 := Lib.hid (HB2.out.trans (hb2.mono HB2.out.size))
          have hc2 := heap_keep hb2 HT.out
          have k0 := cell_at (i := 0) hc2
          have k1 := cell_at (i := 1) hc2
          clear hb2 HB2 HT c0 c1 c2 c3 hc2
          go_wp2_with fail
          all_goals first
            | (exfalso; omega)
            | (go_ret; exact ⟨rfl, HB3.out⟩)
    · have hrt : r = true := by rw [hf.out, List.drop_eq_nil_of_le (by omega)]; rfl
      subst hrt
      have HM1 := Lib.hid (HM.out rfl wr hb.out)
      have q : decide ((i : Int) < (P.length : Int)) = false := by simp; omega
      clear hf HM
      go_wp2_with fail
      refine HM1.out.mono ?_
      rintro e w2 ⟨lb, rfl, hI, hb2⟩
      have HI := Lib.hid hI
      have HB2 := Lib.hid (hb.out.trans (hb2.mono hb.out.size))
      clear hI hb2
      go_wp2_with fail
      refine (HZ.out _ _ HI.out).mono ?_
      rintro e w3 ⟨rfl, hb3⟩
      have HB3 := Lib.hid (HB2.out.trans (hb3.mono HB2.out.size))
      clear hb3 HB2 HM1
      by_cases hgt : 65536 < M
      · go_wp2_with fail
        go_ret
        exact ⟨by first | rfl | simp [hgt], HB3.out⟩
      · go_wp2_with fail
        go_ret
        exact ⟨by first | rfl | simp [hgt], HB3.out⟩
end Go.Proofs.Ytlgjlfljohapfaa
