/- The parser's loopHead, expr. (Written by a program.) -/
import Derived.Test.YthaaolajbmafgaaGreatDoorPFl
import Derived.Test.YthaaolajbmafgaaGreatDoorPW1
import Derived.Test.YthaaolajbmafgaaGreatDoorPNames
namespace Go.Proofs.YthaaolajbmafgaaGreatDoor
open Go.RowKit
set_option maxRecDepth 100000 in
set_option maxHeartbeats 8000000 in
theorem ploopHead_expr (p : PC) (ex : Rd) (f : Nat) (hE : RdC p 201 #[.pointer (some ⟨p.R, 0, none⟩)] ex) (hD : RdC p 184 #[.pointer (some ⟨p.R, 0, none⟩)] (defineP p.ts ex)) (hCh : RdC p 186 #[.pointer (some ⟨p.R, 0, none⟩)] (chainP p.ts ex f)) (hSM : SimC p ex) (hG : ∀ s n s2, chainP p.ts ex f s = some (.ok n s2) → SelG n) (hGe : ∀ s n s2, ex s = some (.ok n s2) → SelG n) (s : Ps) (w : World) (hs : PSt p w s) (hi : 1 ≤ s.i) (r : Pz (Nd × Nd × Nd)) (hr : loopHeadP p.ts ex f s = some r) (hk : kdB p.ts s 7 = false) (hdd : nxB p.ts s mDef = false) :
 Calls Tryz.prog 203 #[.pointer (some ⟨p.R, 0, none⟩)] w (ThEnd p w s r) := by
 unfold loopHeadP loopTail at hr
 simp only [hk, hdd, Bool.false_eq_true, if_false] at hr
 have HR := Lib.hid hr
 have HI0 : Hid (1 ≤ s.i ∧ s.i ≤ s.i ∧ s.o = s.o) := Lib.hid ⟨hi, Nat.le_refl _, rfl⟩
 have tf0 := tk_f0
 have tf1 := tk_f1
 have tf2 := tk_f2
 have HRL := Lib.hid (And.intro hs.rlt hs.glt)
 have HNB : Hid (¬ (w.heap.size + 2 < p.R)) := Lib.hid (by have := hs.rlt; omega)
 obtain ⟨w0, hw0⟩ : ∃ W, W = (((w.alloc (.cells #[.int .i64 0, .int .i64 0, .int .i64 0, .int .i64 0, .string ⟨#[]⟩, .slice none 0 0] 24)).alloc (.cells #[.int .i64 0, .int .i64 0, .int .i64 0, .int .i64 0, .string ⟨#[]⟩, .slice none 0 0] 24)).alloc (.cells #[.int .i64 0, .int .i64 0, .int .i64 0, .int .i64 0, .string ⟨#[]⟩, .slice none 0 0] 24)) := ⟨_, rfl⟩
 have F0 : Hid (Fl p w w0 s) := Lib.hid (by rw [hw0]; exact ⟨((hs.alloc _).alloc _).alloc _, (((PFr.refl _ _).alloc _).alloc _).alloc _, hs.rlt, hs.glt, by rw [World.size_alloc, World.size_alloc, World.size_alloc]; omega⟩)
 have T_a : Hid (w0.heap[w.heap.size]? = some (.cells #[.int .i64 0, .int .i64 0, .int .i64 0, .int .i64 0, .string ⟨#[]⟩, .slice none 0 0] 24 (0, 0))) := Lib.hid (by rw [hw0]; exact blk_alloc (blk_alloc (alloc_top w _ _)))
 have hl_a : Hid (w.heap.size ≤ w.heap.size) := Lib.hid (by omega)
 have T_e : Hid (w0.heap[w.heap.size + 1]? = some (.cells #[.int .i64 0, .int .i64 0, .int .i64 0, .int .i64 0, .string ⟨#[]⟩, .slice none 0 0] 24 (0, 0))) := Lib.hid (by rw [hw0]; exact blk_alloc (alloc_top2 w _ _ _))
 have hl_e : Hid (w.heap.size ≤ w.heap.size + 1) := Lib.hid (by omega)
 have T_z : Hid (w0.heap[w.heap.size + 1 + 1]? = some (.cells #[.int .i64 0, .int .i64 0, .int .i64 0, .int .i64 0, .string ⟨#[]⟩, .slice none 0 0] 24 (0, 0))) := Lib.hid (by rw [hw0]; exact alloc_top3 w _ _ _ _)
 have hl_z : Hid (w.heap.size ≤ w.heap.size + 1 + 1) := Lib.hid (by omega)
 have HW0 := Lib.hid hw0
 have HE := Lib.hid hE
 have HD := Lib.hid hD
 have HCH := Lib.hid hCh
 have HSM := Lib.hid hSM
 have HG := Lib.hid hG
 have HGE := Lib.hid hGe
 have HK := Lib.hid hk
 have HDD := Lib.hid hdd
 clear hs hi hr hw0 hE hD hCh hSM hG hGe hk hdd
 go_enter Tryz.func203, Tryz.ntmps203
 go_wp2_with fail
 rw [← HW0.out]
 refine (pkind_any p 7 s _ (F0.out).st).mono ?_
 rintro ee w1 ⟨rfl, hb⟩
 have F1 := Lib.hid ((F0.out).below hb)
 have HI1 := HI0
 have hr0 := HRL.out
 have hl0a := hl_a.out
 have hl0e := hl_e.out
 have hl0z := hl_z.out
 have hl0 := F0.out.lt
 have hs0a := (Array.getElem?_eq_some_iff.1 T_a.out).1
 have hs0e := (Array.getElem?_eq_some_iff.1 T_e.out).1
 have hs0z := (Array.getElem?_eq_some_iff.1 T_z.out).1
 have T_a := Lib.hid ((PFr.of_below (R := p.R) hb).kept (N := w.heap.size) (by omega) T_a.out)
 have T_e := Lib.hid ((PFr.of_below (R := p.R) hb).kept (N := w.heap.size + 1) (by omega) T_e.out)
 have T_z := Lib.hid ((PFr.of_below (R := p.R) hb).kept (N := w.heap.size + 1 + 1) (by omega) T_z.out)
 clear hr0 hl0 hs0a hs0e hs0z hl0a hl0e hl0z
 clear hb
 obtain ⟨b, hc⟩ : ∃ b, kdB p.ts s 7 = b := ⟨_, rfl⟩
 have hr := HR.out
 try rw [hc]
 cases b with
 | true =>
  try simp only [optP] at hr
  have HR := Lib.hid hr
  have HC1 := Lib.hid hc
  clear hr hc
  have h1 := HK.out; rw [HC1.out] at h1; cases h1
 | false =>
  try simp only [optP] at hr
  have HR := Lib.hid hr
  have HC1 := Lib.hid hc
  clear hr hc
  go_wp2_with fail
  refine (pnames_any p mDef s _ (F1.out).st).mono ?_
  rintro ee w2 ⟨rfl, hb⟩
  have F2 := Lib.hid ((F1.out).below hb)
  have HI2 := HI1
  have hr0 := HRL.out
  have hl0a := hl_a.out
  have hl0e := hl_e.out
  have hl0z := hl_z.out
  have hl0 := F1.out.lt
  have hs0a := (Array.getElem?_eq_some_iff.1 T_a.out).1
  have hs0e := (Array.getElem?_eq_some_iff.1 T_e.out).1
  have hs0z := (Array.getElem?_eq_some_iff.1 T_z.out).1
  have T_a := Lib.hid ((PFr.of_below (R := p.R) hb).kept (N := w.heap.size) (by omega) T_a.out)
  have T_e := Lib.hid ((PFr.of_below (R := p.R) hb).kept (N := w.heap.size + 1) (by omega) T_e.out)
  have T_z := Lib.hid ((PFr.of_below (R := p.R) hb).kept (N := w.heap.size + 1 + 1) (by omega) T_z.out)
  clear hr0 hl0 hs0a hs0e hs0z hl0a hl0e hl0z
  clear hb
  obtain ⟨b, hc⟩ : ∃ b, nxB p.ts s mDef = b := ⟨_, rfl⟩
  have hr := HR.out
  try rw [hc]
  cases b with
  | true =>
   try simp only [hc, optP, if_true, if_false, Bool.false_eq_true, Bool.not_true, Bool.not_false, Bool.true_and, Bool.false_and, Bool.and_true, Bool.and_false, Bool.true_or, Bool.false_or, Bool.or_true, Bool.or_false] at hr
   have HR := Lib.hid hr
   have HC2 := Lib.hid hc
   clear hr hc
   have h1 := HDD.out; rw [HC2.out] at h1; cases h1
  | false =>
   try simp only [hc, optP, if_true, if_false, Bool.false_eq_true, Bool.not_true, Bool.not_false, Bool.true_and, Bool.false_and, Bool.and_true, Bool.and_false, Bool.true_or, Bool.false_or, Bool.or_true, Bool.or_false] at hr
   have HR := Lib.hid hr
   have HC2 := Lib.hid hc
   clear hr hc
   go_wp2_with fail
   obtain ⟨r1, hx, hr⟩ := bind_pf HR.out
   have HR := Lib.hid hr
   clear hr
   refine (HE.out s _ (F2.out).st (by have h1 := HI2.out; omega) r1 hx).mono ?_
   have HX_e := Lib.hid hx
   clear hx
   intro ee w3 he
   cases r1 with
   | bad kk xx =>
    obtain ⟨rfl, hf⟩ := he
    have hrr : r = .bad kk xx := HR.out
    subst hrr
    have HE := Lib.hid ((F2.out).fr.trans hf)
    clear hf
    go_wp2_with fail
    exact ⟨rfl, rfl, HE.out⟩
   | ok n_e s3 =>
    obtain ⟨⟨v, rfl, hn⟩, hs, hf, hi, ho⟩ := he
    obtain ⟨A_e, c_e, rfl, hc, hk⟩ := hn.open
    have F3 := Lib.hid ((F2.out).step hf hs)
    have HI3 : Hid (1 ≤ s3.i ∧ s.i < s3.i ∧ s3.o = s.o + 0) := Lib.hid (by have h1 := HI2.out; omega)
    have K_e : Hid (n_e.kids.length ≤ c_e ∧ SIn w3 (fun b => w.heap.size + 2 < b) n_e.kids A_e) := Lib.hid ⟨hc, hk.wide (fun k _ h1 => (Nat.lt_of_lt_of_le (F2.out).lt h1))⟩
    have hr0 := HRL.out
    have hl0a := hl_a.out
    have hl0e := hl_e.out
    have hl0z := hl_z.out
    have hl0 := F2.out.lt
    have hs0a := (Array.getElem?_eq_some_iff.1 T_a.out).1
    have hs0e := (Array.getElem?_eq_some_iff.1 T_e.out).1
    have hs0z := (Array.getElem?_eq_some_iff.1 T_z.out).1
    have T_a := Lib.hid (hf.kept (N := w.heap.size) (by omega) T_a.out)
    have T_e := Lib.hid (hf.kept (N := w.heap.size + 1) (by omega) T_e.out)
    have T_z := Lib.hid (hf.kept (N := w.heap.size + 1 + 1) (by omega) T_z.out)
    clear hr0 hl0 hs0a hs0e hs0z hl0a hl0e hl0z
    clear hn hc hk hs hf hi ho
    obtain ⟨qe0, qe1, qe2, qe3, qe4, qe5⟩ := six_cells T_e.out
    have qel := (Array.getElem?_eq_some_iff.1 T_e.out).1
    have fe0 := frozen_of_row _ (w.heap.size + 1) 0 _ _ T_e.out
    have fe1 := frozen_of_row _ (w.heap.size + 1) 1 _ _ T_e.out
    have fe2 := frozen_of_row _ (w.heap.size + 1) 2 _ _ T_e.out
    have fe3 := frozen_of_row _ (w.heap.size + 1) 3 _ _ T_e.out
    have fe4 := frozen_of_row _ (w.heap.size + 1) 4 _ _ T_e.out
    have fe5 := frozen_of_row _ (w.heap.size + 1) 5 _ _ T_e.out
    go_wp2_with fail
    clear qe0 qe1 qe2 qe3 qe4 qe5 qel fe0 fe1 fe2 fe3 fe4 fe5
    refine (pstands_any p mLBrace s3 _ ((F3.out.set6 (N := w.heap.size + 1) hl_e.out _ _ _ _ _ _)).st).mono ?_
    rintro ee w4 ⟨rfl, hb⟩
    have F4 := Lib.hid (((F3.out.set6 (N := w.heap.size + 1) hl_e.out _ _ _ _ _ _)).below hb)
    have HI4 := HI3
    have hr0 := HRL.out
    have hl0a := hl_a.out
    have hl0e := hl_e.out
    have hl0z := hl_z.out
    have hl0 := F3.out.lt
    have hs0a := (Array.getElem?_eq_some_iff.1 T_a.out).1
    have hs0e := (Array.getElem?_eq_some_iff.1 T_e.out).1
    have hs0z := (Array.getElem?_eq_some_iff.1 T_z.out).1
    have T_a := Lib.hid ((PFr.of_below (R := p.R) hb).kept (N := w.heap.size) (by omega) (blk_set6 (R := w.heap.size + 1) T_a.out (by omega) _ _ _ _ _ _))
    have K_e : Hid (n_e.kids.length ≤ c_e ∧ SIn w4 (fun b => w.heap.size + 2 < b) n_e.kids A_e) := Lib.hid (And.intro K_e.out.1 (SIn.fr (SIn.keep (Q := (fun b => w.heap.size + 2 < b)) (fun k hk _ => six_otherP (R := w.heap.size + 1) (by have h7 : w.heap.size + 2 < k := hk; omega) ..) (fun _ hk _ => hk) K_e.out.2) (PFr.of_below (R := p.R) hb) (fun hh => HNB.out hh)))
    have T_e := Lib.hid ((PFr.of_below (R := p.R) hb).kept (N := w.heap.size + 1) (by omega) (six_heap T_e.out))
    have T_z := Lib.hid ((PFr.of_below (R := p.R) hb).kept (N := w.heap.size + 1 + 1) (by omega) (blk_set6 (R := w.heap.size + 1) T_z.out (by omega) _ _ _ _ _ _))
    clear hr0 hl0 hs0a hs0e hs0z hl0a hl0e hl0z
    clear hb
    obtain ⟨b, hc⟩ : ∃ b, atB p.ts s3 mLBrace = b := ⟨_, rfl⟩
    have hr := HR.out
    try rw [hc]
    cases b with
    | true =>
     try simp only [hc, if_true] at hr
     have HR := Lib.hid hr
     have HC4 := Lib.hid hc
     clear hr hc
     have K_a : Hid (noN.kids.length ≤ 0 ∧ SIn w4 (fun b => w.heap.size + 2 < b) noN.kids none) := Lib.hid ⟨Nat.zero_le _, sin0⟩
     have K_z : Hid (noN.kids.length ≤ 0 ∧ SIn w4 (fun b => w.heap.size + 2 < b) noN.kids none) := Lib.hid ⟨Nat.zero_le _, sin0⟩
     obtain ⟨qa0, qa1, qa2, qa3, qa4, qa5⟩ := six_cells T_a.out
     have fa0 := frozen_of_row _ (w.heap.size) 0 _ _ T_a.out
     have fa1 := frozen_of_row _ (w.heap.size) 1 _ _ T_a.out
     have fa2 := frozen_of_row _ (w.heap.size) 2 _ _ T_a.out
     have fa3 := frozen_of_row _ (w.heap.size) 3 _ _ T_a.out
     have fa4 := frozen_of_row _ (w.heap.size) 4 _ _ T_a.out
     have fa5 := frozen_of_row _ (w.heap.size) 5 _ _ T_a.out
     have qal := (Array.getElem?_eq_some_iff.1 T_a.out).1
     obtain ⟨qe0, qe1, qe2, qe3, qe4, qe5⟩ := six_cells T_e.out
     have fe0 := frozen_of_row _ (w.heap.size + 1) 0 _ _ T_e.out
     have fe1 := frozen_of_row _ (w.heap.size + 1) 1 _ _ T_e.out
     have fe2 := frozen_of_row _ (w.heap.size + 1) 2 _ _ T_e.out
     have fe3 := frozen_of_row _ (w.heap.size + 1) 3 _ _ T_e.out
     have fe4 := frozen_of_row _ (w.heap.size + 1) 4 _ _ T_e.out
     have fe5 := frozen_of_row _ (w.heap.size + 1) 5 _ _ T_e.out
     have qel := (Array.getElem?_eq_some_iff.1 T_e.out).1
     obtain ⟨qz0, qz1, qz2, qz3, qz4, qz5⟩ := six_cells T_z.out
     have fz0 := frozen_of_row _ (w.heap.size + 1 + 1) 0 _ _ T_z.out
     have fz1 := frozen_of_row _ (w.heap.size + 1 + 1) 1 _ _ T_z.out
     have fz2 := frozen_of_row _ (w.heap.size + 1 + 1) 2 _ _ T_z.out
     have fz3 := frozen_of_row _ (w.heap.size + 1 + 1) 3 _ _ T_z.out
     have fz4 := frozen_of_row _ (w.heap.size + 1 + 1) 4 _ _ T_z.out
     have fz5 := frozen_of_row _ (w.heap.size + 1 + 1) 5 _ _ T_z.out
     have qzl := (Array.getElem?_eq_some_iff.1 T_z.out).1
     go_wp2_with fail
     go_region
     clear qa0 qa1 qa2 qa3 qa4 qa5 qe0 qe1 qe2 qe3 qe4 qe5 qz0 qz1 qz2 qz3 qz4 qz5 fa0 fa1 fa2 fa3 fa4 fa5 fe0 fe1 fe2 fe3 fe4 fe5 fz0 fz1 fz2 fz3 fz4 fz5
     go_wp2_with fail
     have hrr := (Option.some.inj HR.out).symm
     subst hrr
     have h1 := HI4.out
     refine ret_cell3A (p := 2) (q := 3) (t := 4) rfl _ rfl rfl rfl (.agg (cNd noN none 0)) (.agg (cNd n_e A_e c_e)) (.agg (cNd noN none 0)) ?_ ?_ ?_ ?_
     · exact load_ndD (blk_set6 (R := w.heap.size + 1 + 1) (blk_set6 (R := w.heap.size + 1) (six_heap T_a.out) (by omega) _ _ _ _ _ _) (by omega) _ _ _ _ _ _)
     · exact load_ndD (blk_set6 (R := w.heap.size + 1 + 1) (six_heap (blk_set6 (R := w.heap.size) T_e.out (by omega) _ _ _ _ _ _)) (by omega) _ _ _ _ _ _)
     · exact load_ndD (six_heap (blk_set6 (R := w.heap.size + 1) (blk_set6 (R := w.heap.size) T_z.out (by omega) _ _ _ _ _ _) (by omega) _ _ _ _ _ _))
     exact Fl.done (Fl.drew (((F4.out.set6 (N := w.heap.size) hl_a.out _ _ _ _ _ _).set6 (N := w.heap.size + 1) hl_e.out _ _ _ _ _ _).set6 (N := w.heap.size + 1 + 1) hl_z.out _ _ _ _ _ _)) ⟨K_a.out.1, SIn.drewP (p := p) (SIn.keep (Q := (fun b => w.heap.size + 2 < b)) (fun k hk _ => six_otherP (R := w.heap.size + 1 + 1) (by have h7 : w.heap.size + 2 < k := hk; omega) ..) (fun _ hk _ => hk) (SIn.keep (Q := (fun b => w.heap.size + 2 < b)) (fun k hk _ => six_otherP (R := w.heap.size + 1) (by have h7 : w.heap.size + 2 < k := hk; omega) ..) (fun _ hk _ => hk) (SIn.keep (Q := (fun b => w.heap.size + 2 < b)) (fun k hk _ => six_otherP (R := w.heap.size) (by have h7 : w.heap.size + 2 < k := hk; omega) ..) (fun _ hk _ => hk) K_a.out.2))) (fun hh => HNB.out hh)⟩ ⟨K_e.out.1, SIn.drewP (p := p) (SIn.keep (Q := (fun b => w.heap.size + 2 < b)) (fun k hk _ => six_otherP (R := w.heap.size + 1 + 1) (by have h7 : w.heap.size + 2 < k := hk; omega) ..) (fun _ hk _ => hk) (SIn.keep (Q := (fun b => w.heap.size + 2 < b)) (fun k hk _ => six_otherP (R := w.heap.size + 1) (by have h7 : w.heap.size + 2 < k := hk; omega) ..) (fun _ hk _ => hk) (SIn.keep (Q := (fun b => w.heap.size + 2 < b)) (fun k hk _ => six_otherP (R := w.heap.size) (by have h7 : w.heap.size + 2 < k := hk; omega) ..) (fun _ hk _ => hk) K_e.out.2))) (fun hh => HNB.out hh)⟩ ⟨K_z.out.1, SIn.drewP (p := p) (SIn.keep (Q := (fun b => w.heap.size + 2 < b)) (fun k hk _ => six_otherP (R := w.heap.size + 1 + 1) (by have h7 : w.heap.size + 2 < k := hk; omega) ..) (fun _ hk _ => hk) (SIn.keep (Q := (fun b => w.heap.size + 2 < b)) (fun k hk _ => six_otherP (R := w.heap.size + 1) (by have h7 : w.heap.size + 2 < k := hk; omega) ..) (fun _ hk _ => hk) (SIn.keep (Q := (fun b => w.heap.size + 2 < b)) (fun k hk _ => six_otherP (R := w.heap.size) (by have h7 : w.heap.size + 2 < k := hk; omega) ..) (fun _ hk _ => hk) K_z.out.2))) (fun hh => HNB.out hh)⟩ (by omega) (by omega)
    | false =>
     try simp only [hc, if_false, Bool.false_eq_true] at hr
     have HR := Lib.hid hr
     have HC4 := Lib.hid hc
     clear hr hc
     obtain ⟨qe0, qe1, qe2, qe3, qe4, qe5⟩ := six_cells T_e.out
     have qel := (Array.getElem?_eq_some_iff.1 T_e.out).1
     go_wp2_with fail
     clear qe0 qe1 qe2 qe3 qe4 qe5 qel
     obtain ⟨r2, hx, hr⟩ := bind_pf HR.out
     have HR := Lib.hid hr
     clear hr
     refine (HSM.out (fun b => w.heap.size + 2 < b) n_e _ _ s3 _ (F4.out).st (by have h1 := HI4.out; omega) (HGE.out _ _ _ HX_e.out) K_e.out.1 K_e.out.2 (fun b hb => (Nat.lt_of_lt_of_le (F4.out).lt hb)) (fun hh => HNB.out hh) r2 hx).mono ?_
     clear hx
     intro ee w5 he
     cases r2 with
     | bad kk xx =>
      obtain ⟨rfl, hf⟩ := he
      have hrr : r = .bad kk xx := HR.out
      subst hrr
      have HE := Lib.hid ((F4.out).fr.trans hf)
      clear hf
      go_wp2_with fail
      exact ⟨rfl, rfl, HE.out⟩
     | ok n_a s5 =>
      obtain ⟨⟨v, rfl, hn⟩, hs, hf, hi, ho⟩ := he
      obtain ⟨A_a, c_a, rfl, hc, hk⟩ := hn.open
      have F5 := Lib.hid ((F4.out).step hf hs)
      have HI5 : Hid (1 ≤ s5.i ∧ s.i < s5.i ∧ s5.o = s.o + 0) := Lib.hid (by have h1 := HI4.out; omega)
      have K_a : Hid (n_a.kids.length ≤ c_a ∧ SIn w5 (fun b => w.heap.size + 2 < b) n_a.kids A_a) := Lib.hid ⟨hc, hk⟩
      have hr0 := HRL.out
      have hl0a := hl_a.out
      have hl0e := hl_e.out
      have hl0z := hl_z.out
      have hl0 := F4.out.lt
      have hs0a := (Array.getElem?_eq_some_iff.1 T_a.out).1
      have hs0e := (Array.getElem?_eq_some_iff.1 T_e.out).1
      have hs0z := (Array.getElem?_eq_some_iff.1 T_z.out).1
      have T_a := Lib.hid (hf.kept (N := w.heap.size) (by omega) T_a.out)
      have K_e : Hid (n_e.kids.length ≤ c_e ∧ SIn w5 (fun b => w.heap.size + 2 < b) n_e.kids A_e) := Lib.hid (And.intro K_e.out.1 (SIn.fr K_e.out.2 hf (fun hh => HNB.out hh)))
      have T_e := Lib.hid (hf.kept (N := w.heap.size + 1) (by omega) T_e.out)
      have T_z := Lib.hid (hf.kept (N := w.heap.size + 1 + 1) (by omega) T_z.out)
      clear hr0 hl0 hs0a hs0e hs0z hl0a hl0e hl0z
      clear hn hc hk hs hf hi ho
      obtain ⟨qa0, qa1, qa2, qa3, qa4, qa5⟩ := six_cells T_a.out
      have qal := (Array.getElem?_eq_some_iff.1 T_a.out).1
      have fa0 := frozen_of_row _ (w.heap.size) 0 _ _ T_a.out
      have fa1 := frozen_of_row _ (w.heap.size) 1 _ _ T_a.out
      have fa2 := frozen_of_row _ (w.heap.size) 2 _ _ T_a.out
      have fa3 := frozen_of_row _ (w.heap.size) 3 _ _ T_a.out
      have fa4 := frozen_of_row _ (w.heap.size) 4 _ _ T_a.out
      have fa5 := frozen_of_row _ (w.heap.size) 5 _ _ T_a.out
      obtain ⟨qe0, qe1, qe2, qe3, qe4, qe5⟩ := six_cells T_e.out
      have qel := (Array.getElem?_eq_some_iff.1 T_e.out).1
      have fe0 := frozen_of_row _ (w.heap.size + 1) 0 _ _ T_e.out
      have fe1 := frozen_of_row _ (w.heap.size + 1) 1 _ _ T_e.out
      have fe2 := frozen_of_row _ (w.heap.size + 1) 2 _ _ T_e.out
      have fe3 := frozen_of_row _ (w.heap.size + 1) 3 _ _ T_e.out
      have fe4 := frozen_of_row _ (w.heap.size + 1) 4 _ _ T_e.out
      have fe5 := frozen_of_row _ (w.heap.size + 1) 5 _ _ T_e.out
      go_wp2_with fail
      clear qa0 qa1 qa2 qa3 qa4 qa5 qal fa0 fa1 fa2 fa3 fa4 fa5 qe0 qe1 qe2 qe3 qe4 qe5 qel fe0 fe1 fe2 fe3 fe4 fe5
      obtain ⟨r3, hx, hr⟩ := bind_pf HR.out
      have HR := Lib.hid hr
      clear hr
      refine (ptakeK_any p 7 (by decide) s5 _ (((F5.out.set6 (N := w.heap.size) hl_a.out _ _ _ _ _ _).set6 (N := w.heap.size + 1) hl_e.out _ _ _ _ _ _)).st r3 hx).mono ?_
      clear hx
      intro ee w6 he
      cases r3 with
      | bad kk xx =>
       obtain ⟨rfl, hf⟩ := he
       have hrr : r = .bad kk xx := HR.out
       subst hrr
       have HE := Lib.hid ((((F5.out.set6 (N := w.heap.size) hl_a.out _ _ _ _ _ _).set6 (N := w.heap.size + 1) hl_e.out _ _ _ _ _ _)).fr.trans hf)
       clear hf
       go_wp2_with fail
       exact ⟨rfl, rfl, HE.out⟩
      | ok t3 s6 =>
       obtain ⟨rfl, hs, hf, hi, ho⟩ := he
       have F6 := Lib.hid ((((F5.out.set6 (N := w.heap.size) hl_a.out _ _ _ _ _ _).set6 (N := w.heap.size + 1) hl_e.out _ _ _ _ _ _)).step hf hs)
       have HI6 : Hid (1 ≤ s6.i ∧ s.i < s6.i ∧ s6.o = s.o + 0) := Lib.hid (by have h1 := HI5.out; omega)
       have hr0 := HRL.out
       have hl0a := hl_a.out
       have hl0e := hl_e.out
       have hl0z := hl_z.out
       have hl0 := F5.out.lt
       have hs0a := (Array.getElem?_eq_some_iff.1 T_a.out).1
       have hs0e := (Array.getElem?_eq_some_iff.1 T_e.out).1
       have hs0z := (Array.getElem?_eq_some_iff.1 T_z.out).1
       have K_a : Hid (n_a.kids.length ≤ c_a ∧ SIn w6 (fun b => w.heap.size + 2 < b) n_a.kids A_a) := Lib.hid (And.intro K_a.out.1 (SIn.fr (SIn.keep (Q := (fun b => w.heap.size + 2 < b)) (fun k hk _ => six_otherP (R := w.heap.size + 1) (by have h7 : w.heap.size + 2 < k := hk; omega) ..) (fun _ hk _ => hk) (SIn.keep (Q := (fun b => w.heap.size + 2 < b)) (fun k hk _ => six_otherP (R := w.heap.size) (by have h7 : w.heap.size + 2 < k := hk; omega) ..) (fun _ hk _ => hk) K_a.out.2)) hf (fun hh => HNB.out hh)))
       have T_a := Lib.hid (hf.kept (N := w.heap.size) (by omega) (blk_set6 (R := w.heap.size + 1) (six_heap T_a.out) (by omega) _ _ _ _ _ _))
       have T_e := Lib.hid (hf.kept (N := w.heap.size + 1) (by omega) (six_heap (blk_set6 (R := w.heap.size) T_e.out (by omega) _ _ _ _ _ _)))
       have T_z := Lib.hid (hf.kept (N := w.heap.size + 1 + 1) (by omega) (blk_set6 (R := w.heap.size + 1) (blk_set6 (R := w.heap.size) T_z.out (by omega) _ _ _ _ _ _) (by omega) _ _ _ _ _ _))
       clear hr0 hl0 hs0a hs0e hs0z hl0a hl0e hl0z
       clear hs hf hi ho
       go_wp2_with fail
       refine (pkind_any p 7 s6 _ (F6.out).st).mono ?_
       rintro ee w7 ⟨rfl, hb⟩
       have F7 := Lib.hid ((F6.out).below hb)
       have HI7 := HI6
       have hr0 := HRL.out
       have hl0a := hl_a.out
       have hl0e := hl_e.out
       have hl0z := hl_z.out
       have hl0 := F6.out.lt
       have hs0a := (Array.getElem?_eq_some_iff.1 T_a.out).1
       have hs0e := (Array.getElem?_eq_some_iff.1 T_e.out).1
       have hs0z := (Array.getElem?_eq_some_iff.1 T_z.out).1
       have K_a : Hid (n_a.kids.length ≤ c_a ∧ SIn w7 (fun b => w.heap.size + 2 < b) n_a.kids A_a) := Lib.hid (And.intro K_a.out.1 (SIn.fr K_a.out.2 (PFr.of_below (R := p.R) hb) (fun hh => HNB.out hh)))
       have T_a := Lib.hid ((PFr.of_below (R := p.R) hb).kept (N := w.heap.size) (by omega) T_a.out)
       have T_e := Lib.hid ((PFr.of_below (R := p.R) hb).kept (N := w.heap.size + 1) (by omega) T_e.out)
       have T_z := Lib.hid ((PFr.of_below (R := p.R) hb).kept (N := w.heap.size + 1 + 1) (by omega) T_z.out)
       clear hr0 hl0 hs0a hs0e hs0z hl0a hl0e hl0z
       clear hb
       obtain ⟨b, hc⟩ : ∃ b, kdB p.ts s6 7 = b := ⟨_, rfl⟩
       have hr := HR.out
       try rw [hc]
       cases b with
       | true =>
        try simp only [hc, if_false, Bool.false_eq_true, Bool.not_true] at hr
        have HR := Lib.hid hr
        have HC7 := Lib.hid hc
        clear hr hc
        have HR := Lib.hid (bind_ok HR.out)
        obtain ⟨A_e, hA⟩ : ∃ A : Option Addr, A = none := ⟨_, rfl⟩
        obtain ⟨c_e, hcc⟩ : ∃ c : Nat, c = 0 := ⟨_, rfl⟩
        have T_e : Hid (w7.heap[w.heap.size + 1]? = some (.cells (cNd noN A_e c_e) 24 (0, 0))) := Lib.hid (by rw [hA, hcc]; exact T_e.out)
        have K_e : Hid (noN.kids.length ≤ c_e ∧ SIn w7 (fun b => w.heap.size + 2 < b) noN.kids A_e) := Lib.hid ⟨Nat.zero_le _, by rw [hA]; exact sin0⟩
        clear hA hcc
        go_wp2_with fail
        obtain ⟨r4, hx, hr⟩ := bind_pf HR.out
        have HR := Lib.hid hr
        clear hr
        refine (ptakeK_any p 7 (by decide) s6 _ (F7.out).st r4 hx).mono ?_
        clear hx
        intro ee w8 he
        cases r4 with
        | bad kk xx =>
         obtain ⟨rfl, hf⟩ := he
         have hrr : r = .bad kk xx := HR.out
         subst hrr
         have HE := Lib.hid ((F7.out).fr.trans hf)
         clear hf
         go_wp2_with fail
         exact ⟨rfl, rfl, HE.out⟩
        | ok t4 s8 =>
         obtain ⟨rfl, hs, hf, hi, ho⟩ := he
         have F8 := Lib.hid ((F7.out).step hf hs)
         have HI8 : Hid (1 ≤ s8.i ∧ s.i < s8.i ∧ s8.o = s.o + 0) := Lib.hid (by have h1 := HI7.out; omega)
         have hr0 := HRL.out
         have hl0a := hl_a.out
         have hl0e := hl_e.out
         have hl0z := hl_z.out
         have hl0 := F7.out.lt
         have hs0a := (Array.getElem?_eq_some_iff.1 T_a.out).1
         have hs0e := (Array.getElem?_eq_some_iff.1 T_e.out).1
         have hs0z := (Array.getElem?_eq_some_iff.1 T_z.out).1
         have K_a : Hid (n_a.kids.length ≤ c_a ∧ SIn w8 (fun b => w.heap.size + 2 < b) n_a.kids A_a) := Lib.hid (And.intro K_a.out.1 (SIn.fr K_a.out.2 hf (fun hh => HNB.out hh)))
         have T_a := Lib.hid (hf.kept (N := w.heap.size) (by omega) T_a.out)
         have K_e : Hid (noN.kids.length ≤ c_e ∧ SIn w8 (fun b => w.heap.size + 2 < b) noN.kids A_e) := Lib.hid (And.intro K_e.out.1 (SIn.fr K_e.out.2 hf (fun hh => HNB.out hh)))
         have T_e := Lib.hid (hf.kept (N := w.heap.size + 1) (by omega) T_e.out)
         have T_z := Lib.hid (hf.kept (N := w.heap.size + 1 + 1) (by omega) T_z.out)
         clear hr0 hl0 hs0a hs0e hs0z hl0a hl0e hl0z
         clear hs hf hi ho
         go_wp2_with fail
         refine (pstands_any p mLBrace s8 _ (F8.out).st).mono ?_
         rintro ee w9 ⟨rfl, hb⟩
         have F9 := Lib.hid ((F8.out).below hb)
         have HI9 := HI8
         have hr0 := HRL.out
         have hl0a := hl_a.out
         have hl0e := hl_e.out
         have hl0z := hl_z.out
         have hl0 := F8.out.lt
         have hs0a := (Array.getElem?_eq_some_iff.1 T_a.out).1
         have hs0e := (Array.getElem?_eq_some_iff.1 T_e.out).1
         have hs0z := (Array.getElem?_eq_some_iff.1 T_z.out).1
         have K_a : Hid (n_a.kids.length ≤ c_a ∧ SIn w9 (fun b => w.heap.size + 2 < b) n_a.kids A_a) := Lib.hid (And.intro K_a.out.1 (SIn.fr K_a.out.2 (PFr.of_below (R := p.R) hb) (fun hh => HNB.out hh)))
         have T_a := Lib.hid ((PFr.of_below (R := p.R) hb).kept (N := w.heap.size) (by omega) T_a.out)
         have K_e : Hid (noN.kids.length ≤ c_e ∧ SIn w9 (fun b => w.heap.size + 2 < b) noN.kids A_e) := Lib.hid (And.intro K_e.out.1 (SIn.fr K_e.out.2 (PFr.of_below (R := p.R) hb) (fun hh => HNB.out hh)))
         have T_e := Lib.hid ((PFr.of_below (R := p.R) hb).kept (N := w.heap.size + 1) (by omega) T_e.out)
         have T_z := Lib.hid ((PFr.of_below (R := p.R) hb).kept (N := w.heap.size + 1 + 1) (by omega) T_z.out)
         clear hr0 hl0 hs0a hs0e hs0z hl0a hl0e hl0z
         clear hb
         obtain ⟨b, hc⟩ : ∃ b, atB p.ts s8 mLBrace = b := ⟨_, rfl⟩
         have hr := HR.out
         try rw [hc]
         cases b with
         | true =>
          try simp only [hc, if_false, Bool.false_eq_true, Bool.not_true] at hr
          have HR := Lib.hid hr
          have HC9 := Lib.hid hc
          clear hr hc
          have HR := Lib.hid (bind_ok HR.out)
          obtain ⟨A_z, hA⟩ : ∃ A : Option Addr, A = none := ⟨_, rfl⟩
          obtain ⟨c_z, hcc⟩ : ∃ c : Nat, c = 0 := ⟨_, rfl⟩
          have T_z : Hid (w9.heap[w.heap.size + 1 + 1]? = some (.cells (cNd noN A_z c_z) 24 (0, 0))) := Lib.hid (by rw [hA, hcc]; exact T_z.out)
          have K_z : Hid (noN.kids.length ≤ c_z ∧ SIn w9 (fun b => w.heap.size + 2 < b) noN.kids A_z) := Lib.hid ⟨Nat.zero_le _, by rw [hA]; exact sin0⟩
          clear hA hcc
          obtain ⟨qa0, qa1, qa2, qa3, qa4, qa5⟩ := six_cells T_a.out
          have fa0 := frozen_of_row _ (w.heap.size) 0 _ _ T_a.out
          have fa1 := frozen_of_row _ (w.heap.size) 1 _ _ T_a.out
          have fa2 := frozen_of_row _ (w.heap.size) 2 _ _ T_a.out
          have fa3 := frozen_of_row _ (w.heap.size) 3 _ _ T_a.out
          have fa4 := frozen_of_row _ (w.heap.size) 4 _ _ T_a.out
          have fa5 := frozen_of_row _ (w.heap.size) 5 _ _ T_a.out
          have qal := (Array.getElem?_eq_some_iff.1 T_a.out).1
          obtain ⟨qe0, qe1, qe2, qe3, qe4, qe5⟩ := six_cells T_e.out
          have fe0 := frozen_of_row _ (w.heap.size + 1) 0 _ _ T_e.out
          have fe1 := frozen_of_row _ (w.heap.size + 1) 1 _ _ T_e.out
          have fe2 := frozen_of_row _ (w.heap.size + 1) 2 _ _ T_e.out
          have fe3 := frozen_of_row _ (w.heap.size + 1) 3 _ _ T_e.out
          have fe4 := frozen_of_row _ (w.heap.size + 1) 4 _ _ T_e.out
          have fe5 := frozen_of_row _ (w.heap.size + 1) 5 _ _ T_e.out
          have qel := (Array.getElem?_eq_some_iff.1 T_e.out).1
          obtain ⟨qz0, qz1, qz2, qz3, qz4, qz5⟩ := six_cells T_z.out
          have fz0 := frozen_of_row _ (w.heap.size + 1 + 1) 0 _ _ T_z.out
          have fz1 := frozen_of_row _ (w.heap.size + 1 + 1) 1 _ _ T_z.out
          have fz2 := frozen_of_row _ (w.heap.size + 1 + 1) 2 _ _ T_z.out
          have fz3 := frozen_of_row _ (w.heap.size + 1 + 1) 3 _ _ T_z.out
          have fz4 := frozen_of_row _ (w.heap.size + 1 + 1) 4 _ _ T_z.out
          have fz5 := frozen_of_row _ (w.heap.size + 1 + 1) 5 _ _ T_z.out
          have qzl := (Array.getElem?_eq_some_iff.1 T_z.out).1
          go_wp2_with fail
          go_region
          clear qa0 qa1 qa2 qa3 qa4 qa5 qe0 qe1 qe2 qe3 qe4 qe5 qz0 qz1 qz2 qz3 qz4 qz5 fa0 fa1 fa2 fa3 fa4 fa5 fe0 fe1 fe2 fe3 fe4 fe5 fz0 fz1 fz2 fz3 fz4 fz5
          go_wp2_with fail
          have hrr := (Option.some.inj HR.out).symm
          subst hrr
          have h1 := HI9.out
          refine ret_cell3A (p := 2) (q := 3) (t := 4) rfl _ rfl rfl rfl (.agg (cNd n_a A_a c_a)) (.agg (cNd noN A_e c_e)) (.agg (cNd noN A_z c_z)) ?_ ?_ ?_ ?_
          · exact load_ndD (blk_set6 (R := w.heap.size + 1 + 1) (blk_set6 (R := w.heap.size + 1) (six_heap T_a.out) (by omega) _ _ _ _ _ _) (by omega) _ _ _ _ _ _)
          · exact load_ndD (blk_set6 (R := w.heap.size + 1 + 1) (six_heap (blk_set6 (R := w.heap.size) T_e.out (by omega) _ _ _ _ _ _)) (by omega) _ _ _ _ _ _)
          · exact load_ndD (six_heap (blk_set6 (R := w.heap.size + 1) (blk_set6 (R := w.heap.size) T_z.out (by omega) _ _ _ _ _ _) (by omega) _ _ _ _ _ _))
          exact Fl.done (Fl.drew (((F9.out.set6 (N := w.heap.size) hl_a.out _ _ _ _ _ _).set6 (N := w.heap.size + 1) hl_e.out _ _ _ _ _ _).set6 (N := w.heap.size + 1 + 1) hl_z.out _ _ _ _ _ _)) ⟨K_a.out.1, SIn.drewP (p := p) (SIn.keep (Q := (fun b => w.heap.size + 2 < b)) (fun k hk _ => six_otherP (R := w.heap.size + 1 + 1) (by have h7 : w.heap.size + 2 < k := hk; omega) ..) (fun _ hk _ => hk) (SIn.keep (Q := (fun b => w.heap.size + 2 < b)) (fun k hk _ => six_otherP (R := w.heap.size + 1) (by have h7 : w.heap.size + 2 < k := hk; omega) ..) (fun _ hk _ => hk) (SIn.keep (Q := (fun b => w.heap.size + 2 < b)) (fun k hk _ => six_otherP (R := w.heap.size) (by have h7 : w.heap.size + 2 < k := hk; omega) ..) (fun _ hk _ => hk) K_a.out.2))) (fun hh => HNB.out hh)⟩ ⟨K_e.out.1, SIn.drewP (p := p) (SIn.keep (Q := (fun b => w.heap.size + 2 < b)) (fun k hk _ => six_otherP (R := w.heap.size + 1 + 1) (by have h7 : w.heap.size + 2 < k := hk; omega) ..) (fun _ hk _ => hk) (SIn.keep (Q := (fun b => w.heap.size + 2 < b)) (fun k hk _ => six_otherP (R := w.heap.size + 1) (by have h7 : w.heap.size + 2 < k := hk; omega) ..) (fun _ hk _ => hk) (SIn.keep (Q := (fun b => w.heap.size + 2 < b)) (fun k hk _ => six_otherP (R := w.heap.size) (by have h7 : w.heap.size + 2 < k := hk; omega) ..) (fun _ hk _ => hk) K_e.out.2))) (fun hh => HNB.out hh)⟩ ⟨K_z.out.1, SIn.drewP (p := p) (SIn.keep (Q := (fun b => w.heap.size + 2 < b)) (fun k hk _ => six_otherP (R := w.heap.size + 1 + 1) (by have h7 : w.heap.size + 2 < k := hk; omega) ..) (fun _ hk _ => hk) (SIn.keep (Q := (fun b => w.heap.size + 2 < b)) (fun k hk _ => six_otherP (R := w.heap.size + 1) (by have h7 : w.heap.size + 2 < k := hk; omega) ..) (fun _ hk _ => hk) (SIn.keep (Q := (fun b => w.heap.size + 2 < b)) (fun k hk _ => six_otherP (R := w.heap.size) (by have h7 : w.heap.size + 2 < k := hk; omega) ..) (fun _ hk _ => hk) K_z.out.2))) (fun hh => HNB.out hh)⟩ (by omega) (by omega)
         | false =>
          try simp only [hc, if_true, Bool.not_false] at hr
          have HR := Lib.hid hr
          have HC9 := Lib.hid hc
          clear hr hc
          have hrb := bind_assocP HR.out
          have HR := Lib.hid hrb
          clear hrb
          go_wp2_with fail
          obtain ⟨r5, hx, hr⟩ := bind_pf HR.out
          have HR := Lib.hid hr
          clear hr
          refine (HCH.out s8 _ (F9.out).st (by have h1 := HI9.out; omega) r5 hx).mono ?_
          have HX_c := Lib.hid hx
          clear hx
          intro ee w10 he
          cases r5 with
          | bad kk xx =>
           obtain ⟨rfl, hf⟩ := he
           have hrr : r = .bad kk xx := HR.out
           subst hrr
           have HE := Lib.hid ((F9.out).fr.trans hf)
           clear hf
           go_wp2_with fail
           exact ⟨rfl, rfl, HE.out⟩
          | ok n_c s10 =>
           obtain ⟨⟨v, rfl, hn⟩, hs, hf, hi, ho⟩ := he
           obtain ⟨A_c, c_c, rfl, hc, hk⟩ := hn.open
           have F10 := Lib.hid ((F9.out).step hf hs)
           have HI10 : Hid (1 ≤ s10.i ∧ s.i < s10.i ∧ s10.o = s.o + 0) := Lib.hid (by have h1 := HI9.out; omega)
           have K_c : Hid (n_c.kids.length ≤ c_c ∧ SIn w10 (fun b => w.heap.size + 2 < b) n_c.kids A_c) := Lib.hid ⟨hc, hk.wide (fun k _ h1 => (Nat.lt_of_lt_of_le (F9.out).lt h1))⟩
           have hr0 := HRL.out
           have hl0a := hl_a.out
           have hl0e := hl_e.out
           have hl0z := hl_z.out
           have hl0 := F9.out.lt
           have hs0a := (Array.getElem?_eq_some_iff.1 T_a.out).1
           have hs0e := (Array.getElem?_eq_some_iff.1 T_e.out).1
           have hs0z := (Array.getElem?_eq_some_iff.1 T_z.out).1
           have K_a : Hid (n_a.kids.length ≤ c_a ∧ SIn w10 (fun b => w.heap.size + 2 < b) n_a.kids A_a) := Lib.hid (And.intro K_a.out.1 (SIn.fr K_a.out.2 hf (fun hh => HNB.out hh)))
           have T_a := Lib.hid (hf.kept (N := w.heap.size) (by omega) T_a.out)
           have K_e : Hid (noN.kids.length ≤ c_e ∧ SIn w10 (fun b => w.heap.size + 2 < b) noN.kids A_e) := Lib.hid (And.intro K_e.out.1 (SIn.fr K_e.out.2 hf (fun hh => HNB.out hh)))
           have T_e := Lib.hid (hf.kept (N := w.heap.size + 1) (by omega) T_e.out)
           have T_z := Lib.hid (hf.kept (N := w.heap.size + 1 + 1) (by omega) T_z.out)
           clear hr0 hl0 hs0a hs0e hs0z hl0a hl0e hl0z
           clear hn hc hk hs hf hi ho
           go_wp2_with fail
           obtain ⟨r6, hx, hr⟩ := bind_pf HR.out
           have HR := Lib.hid hr
           clear hr
           refine (HSM.out (fun b => w.heap.size + 2 < b) n_c _ _ s10 _ (F10.out).st (by have h1 := HI10.out; omega) (HG.out _ _ _ HX_c.out) K_c.out.1 K_c.out.2 (fun b hb => (Nat.lt_of_lt_of_le (F10.out).lt hb)) (fun hh => HNB.out hh) r6 hx).mono ?_
           clear hx
           intro ee w11 he
           cases r6 with
           | bad kk xx =>
            obtain ⟨rfl, hf⟩ := he
            have hrr : r = .bad kk xx := HR.out
            subst hrr
            have HE := Lib.hid ((F10.out).fr.trans hf)
            clear hf
            go_wp2_with fail
            exact ⟨rfl, rfl, HE.out⟩
           | ok n_z s11 =>
            obtain ⟨⟨v, rfl, hn⟩, hs, hf, hi, ho⟩ := he
            obtain ⟨A_z, c_z, rfl, hc, hk⟩ := hn.open
            have F11 := Lib.hid ((F10.out).step hf hs)
            have HI11 : Hid (1 ≤ s11.i ∧ s.i < s11.i ∧ s11.o = s.o + 0) := Lib.hid (by have h1 := HI10.out; omega)
            have K_z : Hid (n_z.kids.length ≤ c_z ∧ SIn w11 (fun b => w.heap.size + 2 < b) n_z.kids A_z) := Lib.hid ⟨hc, hk⟩
            have hr0 := HRL.out
            have hl0a := hl_a.out
            have hl0e := hl_e.out
            have hl0z := hl_z.out
            have hl0 := F10.out.lt
            have hs0a := (Array.getElem?_eq_some_iff.1 T_a.out).1
            have hs0e := (Array.getElem?_eq_some_iff.1 T_e.out).1
            have hs0z := (Array.getElem?_eq_some_iff.1 T_z.out).1
            have K_a : Hid (n_a.kids.length ≤ c_a ∧ SIn w11 (fun b => w.heap.size + 2 < b) n_a.kids A_a) := Lib.hid (And.intro K_a.out.1 (SIn.fr K_a.out.2 hf (fun hh => HNB.out hh)))
            have T_a := Lib.hid (hf.kept (N := w.heap.size) (by omega) T_a.out)
            have K_e : Hid (noN.kids.length ≤ c_e ∧ SIn w11 (fun b => w.heap.size + 2 < b) noN.kids A_e) := Lib.hid (And.intro K_e.out.1 (SIn.fr K_e.out.2 hf (fun hh => HNB.out hh)))
            have T_e := Lib.hid (hf.kept (N := w.heap.size + 1) (by omega) T_e.out)
            have T_z := Lib.hid (hf.kept (N := w.heap.size + 1 + 1) (by omega) T_z.out)
            have K_c : Hid (n_c.kids.length ≤ c_c ∧ SIn w11 (fun b => w.heap.size + 2 < b) n_c.kids A_c) := Lib.hid (And.intro K_c.out.1 (SIn.fr K_c.out.2 hf (fun hh => HNB.out hh)))
            clear hr0 hl0 hs0a hs0e hs0z hl0a hl0e hl0z
            clear hn hc hk hs hf hi ho
            obtain ⟨qa0, qa1, qa2, qa3, qa4, qa5⟩ := six_cells T_a.out
            have fa0 := frozen_of_row _ (w.heap.size) 0 _ _ T_a.out
            have fa1 := frozen_of_row _ (w.heap.size) 1 _ _ T_a.out
            have fa2 := frozen_of_row _ (w.heap.size) 2 _ _ T_a.out
            have fa3 := frozen_of_row _ (w.heap.size) 3 _ _ T_a.out
            have fa4 := frozen_of_row _ (w.heap.size) 4 _ _ T_a.out
            have fa5 := frozen_of_row _ (w.heap.size) 5 _ _ T_a.out
            have qal := (Array.getElem?_eq_some_iff.1 T_a.out).1
            obtain ⟨qe0, qe1, qe2, qe3, qe4, qe5⟩ := six_cells T_e.out
            have fe0 := frozen_of_row _ (w.heap.size + 1) 0 _ _ T_e.out
            have fe1 := frozen_of_row _ (w.heap.size + 1) 1 _ _ T_e.out
            have fe2 := frozen_of_row _ (w.heap.size + 1) 2 _ _ T_e.out
            have fe3 := frozen_of_row _ (w.heap.size + 1) 3 _ _ T_e.out
            have fe4 := frozen_of_row _ (w.heap.size + 1) 4 _ _ T_e.out
            have fe5 := frozen_of_row _ (w.heap.size + 1) 5 _ _ T_e.out
            have qel := (Array.getElem?_eq_some_iff.1 T_e.out).1
            obtain ⟨qz0, qz1, qz2, qz3, qz4, qz5⟩ := six_cells T_z.out
            have fz0 := frozen_of_row _ (w.heap.size + 1 + 1) 0 _ _ T_z.out
            have fz1 := frozen_of_row _ (w.heap.size + 1 + 1) 1 _ _ T_z.out
            have fz2 := frozen_of_row _ (w.heap.size + 1 + 1) 2 _ _ T_z.out
            have fz3 := frozen_of_row _ (w.heap.size + 1 + 1) 3 _ _ T_z.out
            have fz4 := frozen_of_row _ (w.heap.size + 1 + 1) 4 _ _ T_z.out
            have fz5 := frozen_of_row _ (w.heap.size + 1 + 1) 5 _ _ T_z.out
            have qzl := (Array.getElem?_eq_some_iff.1 T_z.out).1
            go_wp2_with fail
            go_region
            clear qa0 qa1 qa2 qa3 qa4 qa5 qe0 qe1 qe2 qe3 qe4 qe5 qz0 qz1 qz2 qz3 qz4 qz5 fa0 fa1 fa2 fa3 fa4 fa5 fe0 fe1 fe2 fe3 fe4 fe5 fz0 fz1 fz2 fz3 fz4 fz5
            go_wp2_with fail
            have hrr := (Option.some.inj HR.out).symm
            subst hrr
            have h1 := HI11.out
            refine ret_cell3A (p := 2) (q := 3) (t := 4) rfl _ rfl rfl rfl (.agg (cNd n_a A_a c_a)) (.agg (cNd noN A_e c_e)) (.agg (cNd n_z A_z c_z)) ?_ ?_ ?_ ?_
            · exact load_ndD (blk_set6 (R := w.heap.size + 1 + 1) (blk_set6 (R := w.heap.size + 1) (six_heap (blk_set6 (R := w.heap.size + 1 + 1) T_a.out (by omega) _ _ _ _ _ _)) (by omega) _ _ _ _ _ _) (by omega) _ _ _ _ _ _)
            · exact load_ndD (blk_set6 (R := w.heap.size + 1 + 1) (six_heap (blk_set6 (R := w.heap.size) (blk_set6 (R := w.heap.size + 1 + 1) T_e.out (by omega) _ _ _ _ _ _) (by omega) _ _ _ _ _ _)) (by omega) _ _ _ _ _ _)
            · exact load_ndD (six_heap (blk_set6 (R := w.heap.size + 1) (blk_set6 (R := w.heap.size) (six_heap T_z.out) (by omega) _ _ _ _ _ _) (by omega) _ _ _ _ _ _))
            exact Fl.done (Fl.drew ((((F11.out.set6 (N := w.heap.size + 1 + 1) hl_z.out _ _ _ _ _ _).set6 (N := w.heap.size) hl_a.out _ _ _ _ _ _).set6 (N := w.heap.size + 1) hl_e.out _ _ _ _ _ _).set6 (N := w.heap.size + 1 + 1) hl_z.out _ _ _ _ _ _)) ⟨K_a.out.1, SIn.drewP (p := p) (SIn.keep (Q := (fun b => w.heap.size + 2 < b)) (fun k hk _ => six_otherP (R := w.heap.size + 1 + 1) (by have h7 : w.heap.size + 2 < k := hk; omega) ..) (fun _ hk _ => hk) (SIn.keep (Q := (fun b => w.heap.size + 2 < b)) (fun k hk _ => six_otherP (R := w.heap.size + 1) (by have h7 : w.heap.size + 2 < k := hk; omega) ..) (fun _ hk _ => hk) (SIn.keep (Q := (fun b => w.heap.size + 2 < b)) (fun k hk _ => six_otherP (R := w.heap.size) (by have h7 : w.heap.size + 2 < k := hk; omega) ..) (fun _ hk _ => hk) (SIn.keep (Q := (fun b => w.heap.size + 2 < b)) (fun k hk _ => six_otherP (R := w.heap.size + 1 + 1) (by have h7 : w.heap.size + 2 < k := hk; omega) ..) (fun _ hk _ => hk) K_a.out.2)))) (fun hh => HNB.out hh)⟩ ⟨K_e.out.1, SIn.drewP (p := p) (SIn.keep (Q := (fun b => w.heap.size + 2 < b)) (fun k hk _ => six_otherP (R := w.heap.size + 1 + 1) (by have h7 : w.heap.size + 2 < k := hk; omega) ..) (fun _ hk _ => hk) (SIn.keep (Q := (fun b => w.heap.size + 2 < b)) (fun k hk _ => six_otherP (R := w.heap.size + 1) (by have h7 : w.heap.size + 2 < k := hk; omega) ..) (fun _ hk _ => hk) (SIn.keep (Q := (fun b => w.heap.size + 2 < b)) (fun k hk _ => six_otherP (R := w.heap.size) (by have h7 : w.heap.size + 2 < k := hk; omega) ..) (fun _ hk _ => hk) (SIn.keep (Q := (fun b => w.heap.size + 2 < b)) (fun k hk _ => six_otherP (R := w.heap.size + 1 + 1) (by have h7 : w.heap.size + 2 < k := hk; omega) ..) (fun _ hk _ => hk) K_e.out.2)))) (fun hh => HNB.out hh)⟩ ⟨K_z.out.1, SIn.drewP (p := p) (SIn.keep (Q := (fun b => w.heap.size + 2 < b)) (fun k hk _ => six_otherP (R := w.heap.size + 1 + 1) (by have h7 : w.heap.size + 2 < k := hk; omega) ..) (fun _ hk _ => hk) (SIn.keep (Q := (fun b => w.heap.size + 2 < b)) (fun k hk _ => six_otherP (R := w.heap.size + 1) (by have h7 : w.heap.size + 2 < k := hk; omega) ..) (fun _ hk _ => hk) (SIn.keep (Q := (fun b => w.heap.size + 2 < b)) (fun k hk _ => six_otherP (R := w.heap.size) (by have h7 : w.heap.size + 2 < k := hk; omega) ..) (fun _ hk _ => hk) (SIn.keep (Q := (fun b => w.heap.size + 2 < b)) (fun k hk _ => six_otherP (R := w.heap.size + 1 + 1) (by have h7 : w.heap.size + 2 < k := hk; omega) ..) (fun _ hk _ => hk) K_z.out.2)))) (fun hh => HNB.out hh)⟩ (by omega) (by omega)
       | false =>
        try simp only [hc, if_true, Bool.not_false] at hr
        have HR := Lib.hid hr
        have HC7 := Lib.hid hc
        clear hr hc
        go_wp2_with fail
        obtain ⟨r4, hx, hr⟩ := bind_pf HR.out
        have HR := Lib.hid hr
        clear hr
        refine (HE.out s6 _ (F7.out).st (by have h1 := HI7.out; omega) r4 hx).mono ?_
        clear hx
        intro ee w8 he
        cases r4 with
        | bad kk xx =>
         obtain ⟨rfl, hf⟩ := he
         have hrr : r = .bad kk xx := HR.out
         subst hrr
         have HE := Lib.hid ((F7.out).fr.trans hf)
         clear hf
         go_wp2_with fail
         exact ⟨rfl, rfl, HE.out⟩
        | ok n_e s8 =>
         obtain ⟨⟨v, rfl, hn⟩, hs, hf, hi, ho⟩ := he
         obtain ⟨A_e, c_e, rfl, hc, hk⟩ := hn.open
         have F8 := Lib.hid ((F7.out).step hf hs)
         have HI8 : Hid (1 ≤ s8.i ∧ s.i < s8.i ∧ s8.o = s.o + 0) := Lib.hid (by have h1 := HI7.out; omega)
         have K_e : Hid (n_e.kids.length ≤ c_e ∧ SIn w8 (fun b => w.heap.size + 2 < b) n_e.kids A_e) := Lib.hid ⟨hc, hk.wide (fun k _ h1 => (Nat.lt_of_lt_of_le (F7.out).lt h1))⟩
         have hr0 := HRL.out
         have hl0a := hl_a.out
         have hl0e := hl_e.out
         have hl0z := hl_z.out
         have hl0 := F7.out.lt
         have hs0a := (Array.getElem?_eq_some_iff.1 T_a.out).1
         have hs0e := (Array.getElem?_eq_some_iff.1 T_e.out).1
         have hs0z := (Array.getElem?_eq_some_iff.1 T_z.out).1
         have K_a : Hid (n_a.kids.length ≤ c_a ∧ SIn w8 (fun b => w.heap.size + 2 < b) n_a.kids A_a) := Lib.hid (And.intro K_a.out.1 (SIn.fr K_a.out.2 hf (fun hh => HNB.out hh)))
         have T_a := Lib.hid (hf.kept (N := w.heap.size) (by omega) T_a.out)
         have T_e := Lib.hid (hf.kept (N := w.heap.size + 1) (by omega) T_e.out)
         have T_z := Lib.hid (hf.kept (N := w.heap.size + 1 + 1) (by omega) T_z.out)
         clear hr0 hl0 hs0a hs0e hs0z hl0a hl0e hl0z
         clear hn hc hk hs hf hi ho
         obtain ⟨qe0, qe1, qe2, qe3, qe4, qe5⟩ := six_cells T_e.out
         have qel := (Array.getElem?_eq_some_iff.1 T_e.out).1
         have fe0 := frozen_of_row _ (w.heap.size + 1) 0 _ _ T_e.out
         have fe1 := frozen_of_row _ (w.heap.size + 1) 1 _ _ T_e.out
         have fe2 := frozen_of_row _ (w.heap.size + 1) 2 _ _ T_e.out
         have fe3 := frozen_of_row _ (w.heap.size + 1) 3 _ _ T_e.out
         have fe4 := frozen_of_row _ (w.heap.size + 1) 4 _ _ T_e.out
         have fe5 := frozen_of_row _ (w.heap.size + 1) 5 _ _ T_e.out
         go_wp2_with fail
         clear qe0 qe1 qe2 qe3 qe4 qe5 qel fe0 fe1 fe2 fe3 fe4 fe5
         obtain ⟨r5, hx, hr⟩ := bind_pf HR.out
         have HR := Lib.hid hr
         clear hr
         refine (ptakeK_any p 7 (by decide) s8 _ ((F8.out.set6 (N := w.heap.size + 1) hl_e.out _ _ _ _ _ _)).st r5 hx).mono ?_
         clear hx
         intro ee w9 he
         cases r5 with
         | bad kk xx =>
          obtain ⟨rfl, hf⟩ := he
          have hrr : r = .bad kk xx := HR.out
          subst hrr
          have HE := Lib.hid (((F8.out.set6 (N := w.heap.size + 1) hl_e.out _ _ _ _ _ _)).fr.trans hf)
          clear hf
          go_wp2_with fail
          exact ⟨rfl, rfl, HE.out⟩
         | ok t5 s9 =>
          obtain ⟨rfl, hs, hf, hi, ho⟩ := he
          have F9 := Lib.hid (((F8.out.set6 (N := w.heap.size + 1) hl_e.out _ _ _ _ _ _)).step hf hs)
          have HI9 : Hid (1 ≤ s9.i ∧ s.i < s9.i ∧ s9.o = s.o + 0) := Lib.hid (by have h1 := HI8.out; omega)
          have hr0 := HRL.out
          have hl0a := hl_a.out
          have hl0e := hl_e.out
          have hl0z := hl_z.out
          have hl0 := F8.out.lt
          have hs0a := (Array.getElem?_eq_some_iff.1 T_a.out).1
          have hs0e := (Array.getElem?_eq_some_iff.1 T_e.out).1
          have hs0z := (Array.getElem?_eq_some_iff.1 T_z.out).1
          have K_a : Hid (n_a.kids.length ≤ c_a ∧ SIn w9 (fun b => w.heap.size + 2 < b) n_a.kids A_a) := Lib.hid (And.intro K_a.out.1 (SIn.fr (SIn.keep (Q := (fun b => w.heap.size + 2 < b)) (fun k hk _ => six_otherP (R := w.heap.size + 1) (by have h7 : w.heap.size + 2 < k := hk; omega) ..) (fun _ hk _ => hk) K_a.out.2) hf (fun hh => HNB.out hh)))
          have T_a := Lib.hid (hf.kept (N := w.heap.size) (by omega) (blk_set6 (R := w.heap.size + 1) T_a.out (by omega) _ _ _ _ _ _))
          have K_e : Hid (n_e.kids.length ≤ c_e ∧ SIn w9 (fun b => w.heap.size + 2 < b) n_e.kids A_e) := Lib.hid (And.intro K_e.out.1 (SIn.fr (SIn.keep (Q := (fun b => w.heap.size + 2 < b)) (fun k hk _ => six_otherP (R := w.heap.size + 1) (by have h7 : w.heap.size + 2 < k := hk; omega) ..) (fun _ hk _ => hk) K_e.out.2) hf (fun hh => HNB.out hh)))
          have T_e := Lib.hid (hf.kept (N := w.heap.size + 1) (by omega) (six_heap T_e.out))
          have T_z := Lib.hid (hf.kept (N := w.heap.size + 1 + 1) (by omega) (blk_set6 (R := w.heap.size + 1) T_z.out (by omega) _ _ _ _ _ _))
          clear hr0 hl0 hs0a hs0e hs0z hl0a hl0e hl0z
          clear hs hf hi ho
          go_wp2_with fail
          refine (pstands_any p mLBrace s9 _ (F9.out).st).mono ?_
          rintro ee w10 ⟨rfl, hb⟩
          have F10 := Lib.hid ((F9.out).below hb)
          have HI10 := HI9
          have hr0 := HRL.out
          have hl0a := hl_a.out
          have hl0e := hl_e.out
          have hl0z := hl_z.out
          have hl0 := F9.out.lt
          have hs0a := (Array.getElem?_eq_some_iff.1 T_a.out).1
          have hs0e := (Array.getElem?_eq_some_iff.1 T_e.out).1
          have hs0z := (Array.getElem?_eq_some_iff.1 T_z.out).1
          have K_a : Hid (n_a.kids.length ≤ c_a ∧ SIn w10 (fun b => w.heap.size + 2 < b) n_a.kids A_a) := Lib.hid (And.intro K_a.out.1 (SIn.fr K_a.out.2 (PFr.of_below (R := p.R) hb) (fun hh => HNB.out hh)))
          have T_a := Lib.hid ((PFr.of_below (R := p.R) hb).kept (N := w.heap.size) (by omega) T_a.out)
          have K_e : Hid (n_e.kids.length ≤ c_e ∧ SIn w10 (fun b => w.heap.size + 2 < b) n_e.kids A_e) := Lib.hid (And.intro K_e.out.1 (SIn.fr K_e.out.2 (PFr.of_below (R := p.R) hb) (fun hh => HNB.out hh)))
          have T_e := Lib.hid ((PFr.of_below (R := p.R) hb).kept (N := w.heap.size + 1) (by omega) T_e.out)
          have T_z := Lib.hid ((PFr.of_below (R := p.R) hb).kept (N := w.heap.size + 1 + 1) (by omega) T_z.out)
          clear hr0 hl0 hs0a hs0e hs0z hl0a hl0e hl0z
          clear hb
          obtain ⟨b, hc⟩ : ∃ b, atB p.ts s9 mLBrace = b := ⟨_, rfl⟩
          have hr := HR.out
          try rw [hc]
          cases b with
          | true =>
           try simp only [hc, if_false, Bool.false_eq_true, Bool.not_true] at hr
           have HR := Lib.hid hr
           have HC10 := Lib.hid hc
           clear hr hc
           have HR := Lib.hid (bind_ok HR.out)
           obtain ⟨A_z, hA⟩ : ∃ A : Option Addr, A = none := ⟨_, rfl⟩
           obtain ⟨c_z, hcc⟩ : ∃ c : Nat, c = 0 := ⟨_, rfl⟩
           have T_z : Hid (w10.heap[w.heap.size + 1 + 1]? = some (.cells (cNd noN A_z c_z) 24 (0, 0))) := Lib.hid (by rw [hA, hcc]; exact T_z.out)
           have K_z : Hid (noN.kids.length ≤ c_z ∧ SIn w10 (fun b => w.heap.size + 2 < b) noN.kids A_z) := Lib.hid ⟨Nat.zero_le _, by rw [hA]; exact sin0⟩
           clear hA hcc
           obtain ⟨qa0, qa1, qa2, qa3, qa4, qa5⟩ := six_cells T_a.out
           have fa0 := frozen_of_row _ (w.heap.size) 0 _ _ T_a.out
           have fa1 := frozen_of_row _ (w.heap.size) 1 _ _ T_a.out
           have fa2 := frozen_of_row _ (w.heap.size) 2 _ _ T_a.out
           have fa3 := frozen_of_row _ (w.heap.size) 3 _ _ T_a.out
           have fa4 := frozen_of_row _ (w.heap.size) 4 _ _ T_a.out
           have fa5 := frozen_of_row _ (w.heap.size) 5 _ _ T_a.out
           have qal := (Array.getElem?_eq_some_iff.1 T_a.out).1
           obtain ⟨qe0, qe1, qe2, qe3, qe4, qe5⟩ := six_cells T_e.out
           have fe0 := frozen_of_row _ (w.heap.size + 1) 0 _ _ T_e.out
           have fe1 := frozen_of_row _ (w.heap.size + 1) 1 _ _ T_e.out
           have fe2 := frozen_of_row _ (w.heap.size + 1) 2 _ _ T_e.out
           have fe3 := frozen_of_row _ (w.heap.size + 1) 3 _ _ T_e.out
           have fe4 := frozen_of_row _ (w.heap.size + 1) 4 _ _ T_e.out
           have fe5 := frozen_of_row _ (w.heap.size + 1) 5 _ _ T_e.out
           have qel := (Array.getElem?_eq_some_iff.1 T_e.out).1
           obtain ⟨qz0, qz1, qz2, qz3, qz4, qz5⟩ := six_cells T_z.out
           have fz0 := frozen_of_row _ (w.heap.size + 1 + 1) 0 _ _ T_z.out
           have fz1 := frozen_of_row _ (w.heap.size + 1 + 1) 1 _ _ T_z.out
           have fz2 := frozen_of_row _ (w.heap.size + 1 + 1) 2 _ _ T_z.out
           have fz3 := frozen_of_row _ (w.heap.size + 1 + 1) 3 _ _ T_z.out
           have fz4 := frozen_of_row _ (w.heap.size + 1 + 1) 4 _ _ T_z.out
           have fz5 := frozen_of_row _ (w.heap.size + 1 + 1) 5 _ _ T_z.out
           have qzl := (Array.getElem?_eq_some_iff.1 T_z.out).1
           go_wp2_with fail
           go_region
           clear qa0 qa1 qa2 qa3 qa4 qa5 qe0 qe1 qe2 qe3 qe4 qe5 qz0 qz1 qz2 qz3 qz4 qz5 fa0 fa1 fa2 fa3 fa4 fa5 fe0 fe1 fe2 fe3 fe4 fe5 fz0 fz1 fz2 fz3 fz4 fz5
           go_wp2_with fail
           have hrr := (Option.some.inj HR.out).symm
           subst hrr
           have h1 := HI10.out
           refine ret_cell3A (p := 2) (q := 3) (t := 4) rfl _ rfl rfl rfl (.agg (cNd n_a A_a c_a)) (.agg (cNd n_e A_e c_e)) (.agg (cNd noN A_z c_z)) ?_ ?_ ?_ ?_
           · exact load_ndD (blk_set6 (R := w.heap.size + 1 + 1) (blk_set6 (R := w.heap.size + 1) (six_heap T_a.out) (by omega) _ _ _ _ _ _) (by omega) _ _ _ _ _ _)
           · exact load_ndD (blk_set6 (R := w.heap.size + 1 + 1) (six_heap (blk_set6 (R := w.heap.size) T_e.out (by omega) _ _ _ _ _ _)) (by omega) _ _ _ _ _ _)
           · exact load_ndD (six_heap (blk_set6 (R := w.heap.size + 1) (blk_set6 (R := w.heap.size) T_z.out (by omega) _ _ _ _ _ _) (by omega) _ _ _ _ _ _))
           exact Fl.done (Fl.drew (((F10.out.set6 (N := w.heap.size) hl_a.out _ _ _ _ _ _).set6 (N := w.heap.size + 1) hl_e.out _ _ _ _ _ _).set6 (N := w.heap.size + 1 + 1) hl_z.out _ _ _ _ _ _)) ⟨K_a.out.1, SIn.drewP (p := p) (SIn.keep (Q := (fun b => w.heap.size + 2 < b)) (fun k hk _ => six_otherP (R := w.heap.size + 1 + 1) (by have h7 : w.heap.size + 2 < k := hk; omega) ..) (fun _ hk _ => hk) (SIn.keep (Q := (fun b => w.heap.size + 2 < b)) (fun k hk _ => six_otherP (R := w.heap.size + 1) (by have h7 : w.heap.size + 2 < k := hk; omega) ..) (fun _ hk _ => hk) (SIn.keep (Q := (fun b => w.heap.size + 2 < b)) (fun k hk _ => six_otherP (R := w.heap.size) (by have h7 : w.heap.size + 2 < k := hk; omega) ..) (fun _ hk _ => hk) K_a.out.2))) (fun hh => HNB.out hh)⟩ ⟨K_e.out.1, SIn.drewP (p := p) (SIn.keep (Q := (fun b => w.heap.size + 2 < b)) (fun k hk _ => six_otherP (R := w.heap.size + 1 + 1) (by have h7 : w.heap.size + 2 < k := hk; omega) ..) (fun _ hk _ => hk) (SIn.keep (Q := (fun b => w.heap.size + 2 < b)) (fun k hk _ => six_otherP (R := w.heap.size + 1) (by have h7 : w.heap.size + 2 < k := hk; omega) ..) (fun _ hk _ => hk) (SIn.keep (Q := (fun b => w.heap.size + 2 < b)) (fun k hk _ => six_otherP (R := w.heap.size) (by have h7 : w.heap.size + 2 < k := hk; omega) ..) (fun _ hk _ => hk) K_e.out.2))) (fun hh => HNB.out hh)⟩ ⟨K_z.out.1, SIn.drewP (p := p) (SIn.keep (Q := (fun b => w.heap.size + 2 < b)) (fun k hk _ => six_otherP (R := w.heap.size + 1 + 1) (by have h7 : w.heap.size + 2 < k := hk; omega) ..) (fun _ hk _ => hk) (SIn.keep (Q := (fun b => w.heap.size + 2 < b)) (fun k hk _ => six_otherP (R := w.heap.size + 1) (by have h7 : w.heap.size + 2 < k := hk; omega) ..) (fun _ hk _ => hk) (SIn.keep (Q := (fun b => w.heap.size + 2 < b)) (fun k hk _ => six_otherP (R := w.heap.size) (by have h7 : w.heap.size + 2 < k := hk; omega) ..) (fun _ hk _ => hk) K_z.out.2))) (fun hh => HNB.out hh)⟩ (by omega) (by omega)
          | false =>
           try simp only [hc, if_true, Bool.not_false] at hr
           have HR := Lib.hid hr
           have HC10 := Lib.hid hc
           clear hr hc
           have hrb := bind_assocP HR.out
           have HR := Lib.hid hrb
           clear hrb
           go_wp2_with fail
           obtain ⟨r6, hx, hr⟩ := bind_pf HR.out
           have HR := Lib.hid hr
           clear hr
           refine (HCH.out s9 _ (F10.out).st (by have h1 := HI10.out; omega) r6 hx).mono ?_
           have HX_c := Lib.hid hx
           clear hx
           intro ee w11 he
           cases r6 with
           | bad kk xx =>
            obtain ⟨rfl, hf⟩ := he
            have hrr : r = .bad kk xx := HR.out
            subst hrr
            have HE := Lib.hid ((F10.out).fr.trans hf)
            clear hf
            go_wp2_with fail
            exact ⟨rfl, rfl, HE.out⟩
           | ok n_c s11 =>
            obtain ⟨⟨v, rfl, hn⟩, hs, hf, hi, ho⟩ := he
            obtain ⟨A_c, c_c, rfl, hc, hk⟩ := hn.open
            have F11 := Lib.hid ((F10.out).step hf hs)
            have HI11 : Hid (1 ≤ s11.i ∧ s.i < s11.i ∧ s11.o = s.o + 0) := Lib.hid (by have h1 := HI10.out; omega)
            have K_c : Hid (n_c.kids.length ≤ c_c ∧ SIn w11 (fun b => w.heap.size + 2 < b) n_c.kids A_c) := Lib.hid ⟨hc, hk.wide (fun k _ h1 => (Nat.lt_of_lt_of_le (F10.out).lt h1))⟩
            have hr0 := HRL.out
            have hl0a := hl_a.out
            have hl0e := hl_e.out
            have hl0z := hl_z.out
            have hl0 := F10.out.lt
            have hs0a := (Array.getElem?_eq_some_iff.1 T_a.out).1
            have hs0e := (Array.getElem?_eq_some_iff.1 T_e.out).1
            have hs0z := (Array.getElem?_eq_some_iff.1 T_z.out).1
            have K_a : Hid (n_a.kids.length ≤ c_a ∧ SIn w11 (fun b => w.heap.size + 2 < b) n_a.kids A_a) := Lib.hid (And.intro K_a.out.1 (SIn.fr K_a.out.2 hf (fun hh => HNB.out hh)))
            have T_a := Lib.hid (hf.kept (N := w.heap.size) (by omega) T_a.out)
            have K_e : Hid (n_e.kids.length ≤ c_e ∧ SIn w11 (fun b => w.heap.size + 2 < b) n_e.kids A_e) := Lib.hid (And.intro K_e.out.1 (SIn.fr K_e.out.2 hf (fun hh => HNB.out hh)))
            have T_e := Lib.hid (hf.kept (N := w.heap.size + 1) (by omega) T_e.out)
            have T_z := Lib.hid (hf.kept (N := w.heap.size + 1 + 1) (by omega) T_z.out)
            clear hr0 hl0 hs0a hs0e hs0z hl0a hl0e hl0z
            clear hn hc hk hs hf hi ho
            go_wp2_with fail
            obtain ⟨r7, hx, hr⟩ := bind_pf HR.out
            have HR := Lib.hid hr
            clear hr
            refine (HSM.out (fun b => w.heap.size + 2 < b) n_c _ _ s11 _ (F11.out).st (by have h1 := HI11.out; omega) (HG.out _ _ _ HX_c.out) K_c.out.1 K_c.out.2 (fun b hb => (Nat.lt_of_lt_of_le (F11.out).lt hb)) (fun hh => HNB.out hh) r7 hx).mono ?_
            clear hx
            intro ee w12 he
            cases r7 with
            | bad kk xx =>
             obtain ⟨rfl, hf⟩ := he
             have hrr : r = .bad kk xx := HR.out
             subst hrr
             have HE := Lib.hid ((F11.out).fr.trans hf)
             clear hf
             go_wp2_with fail
             exact ⟨rfl, rfl, HE.out⟩
            | ok n_z s12 =>
             obtain ⟨⟨v, rfl, hn⟩, hs, hf, hi, ho⟩ := he
             obtain ⟨A_z, c_z, rfl, hc, hk⟩ := hn.open
             have F12 := Lib.hid ((F11.out).step hf hs)
             have HI12 : Hid (1 ≤ s12.i ∧ s.i < s12.i ∧ s12.o = s.o + 0) := Lib.hid (by have h1 := HI11.out; omega)
             have K_z : Hid (n_z.kids.length ≤ c_z ∧ SIn w12 (fun b => w.heap.size + 2 < b) n_z.kids A_z) := Lib.hid ⟨hc, hk⟩
             have hr0 := HRL.out
             have hl0a := hl_a.out
             have hl0e := hl_e.out
             have hl0z := hl_z.out
             have hl0 := F11.out.lt
             have hs0a := (Array.getElem?_eq_some_iff.1 T_a.out).1
             have hs0e := (Array.getElem?_eq_some_iff.1 T_e.out).1
             have hs0z := (Array.getElem?_eq_some_iff.1 T_z.out).1
             have K_a : Hid (n_a.kids.length ≤ c_a ∧ SIn w12 (fun b => w.heap.size + 2 < b) n_a.kids A_a) := Lib.hid (And.intro K_a.out.1 (SIn.fr K_a.out.2 hf (fun hh => HNB.out hh)))
             have T_a := Lib.hid (hf.kept (N := w.heap.size) (by omega) T_a.out)
             have K_e : Hid (n_e.kids.length ≤ c_e ∧ SIn w12 (fun b => w.heap.size + 2 < b) n_e.kids A_e) := Lib.hid (And.intro K_e.out.1 (SIn.fr K_e.out.2 hf (fun hh => HNB.out hh)))
             have T_e := Lib.hid (hf.kept (N := w.heap.size + 1) (by omega) T_e.out)
             have T_z := Lib.hid (hf.kept (N := w.heap.size + 1 + 1) (by omega) T_z.out)
             have K_c : Hid (n_c.kids.length ≤ c_c ∧ SIn w12 (fun b => w.heap.size + 2 < b) n_c.kids A_c) := Lib.hid (And.intro K_c.out.1 (SIn.fr K_c.out.2 hf (fun hh => HNB.out hh)))
             clear hr0 hl0 hs0a hs0e hs0z hl0a hl0e hl0z
             clear hn hc hk hs hf hi ho
             obtain ⟨qa0, qa1, qa2, qa3, qa4, qa5⟩ := six_cells T_a.out
             have fa0 := frozen_of_row _ (w.heap.size) 0 _ _ T_a.out
             have fa1 := frozen_of_row _ (w.heap.size) 1 _ _ T_a.out
             have fa2 := frozen_of_row _ (w.heap.size) 2 _ _ T_a.out
             have fa3 := frozen_of_row _ (w.heap.size) 3 _ _ T_a.out
             have fa4 := frozen_of_row _ (w.heap.size) 4 _ _ T_a.out
             have fa5 := frozen_of_row _ (w.heap.size) 5 _ _ T_a.out
             have qal := (Array.getElem?_eq_some_iff.1 T_a.out).1
             obtain ⟨qe0, qe1, qe2, qe3, qe4, qe5⟩ := six_cells T_e.out
             have fe0 := frozen_of_row _ (w.heap.size + 1) 0 _ _ T_e.out
             have fe1 := frozen_of_row _ (w.heap.size + 1) 1 _ _ T_e.out
             have fe2 := frozen_of_row _ (w.heap.size + 1) 2 _ _ T_e.out
             have fe3 := frozen_of_row _ (w.heap.size + 1) 3 _ _ T_e.out
             have fe4 := frozen_of_row _ (w.heap.size + 1) 4 _ _ T_e.out
             have fe5 := frozen_of_row _ (w.heap.size + 1) 5 _ _ T_e.out
             have qel := (Array.getElem?_eq_some_iff.1 T_e.out).1
             obtain ⟨qz0, qz1, qz2, qz3, qz4, qz5⟩ := six_cells T_z.out
             have fz0 := frozen_of_row _ (w.heap.size + 1 + 1) 0 _ _ T_z.out
             have fz1 := frozen_of_row _ (w.heap.size + 1 + 1) 1 _ _ T_z.out
             have fz2 := frozen_of_row _ (w.heap.size + 1 + 1) 2 _ _ T_z.out
             have fz3 := frozen_of_row _ (w.heap.size + 1 + 1) 3 _ _ T_z.out
             have fz4 := frozen_of_row _ (w.heap.size + 1 + 1) 4 _ _ T_z.out
             have fz5 := frozen_of_row _ (w.heap.size + 1 + 1) 5 _ _ T_z.out
             have qzl := (Array.getElem?_eq_some_iff.1 T_z.out).1
             go_wp2_with fail
             go_region
             clear qa0 qa1 qa2 qa3 qa4 qa5 qe0 qe1 qe2 qe3 qe4 qe5 qz0 qz1 qz2 qz3 qz4 qz5 fa0 fa1 fa2 fa3 fa4 fa5 fe0 fe1 fe2 fe3 fe4 fe5 fz0 fz1 fz2 fz3 fz4 fz5
             go_wp2_with fail
             have hrr := (Option.some.inj HR.out).symm
             subst hrr
             have h1 := HI12.out
             refine ret_cell3A (p := 2) (q := 3) (t := 4) rfl _ rfl rfl rfl (.agg (cNd n_a A_a c_a)) (.agg (cNd n_e A_e c_e)) (.agg (cNd n_z A_z c_z)) ?_ ?_ ?_ ?_
             · exact load_ndD (blk_set6 (R := w.heap.size + 1 + 1) (blk_set6 (R := w.heap.size + 1) (six_heap (blk_set6 (R := w.heap.size + 1 + 1) T_a.out (by omega) _ _ _ _ _ _)) (by omega) _ _ _ _ _ _) (by omega) _ _ _ _ _ _)
             · exact load_ndD (blk_set6 (R := w.heap.size + 1 + 1) (six_heap (blk_set6 (R := w.heap.size) (blk_set6 (R := w.heap.size + 1 + 1) T_e.out (by omega) _ _ _ _ _ _) (by omega) _ _ _ _ _ _)) (by omega) _ _ _ _ _ _)
             · exact load_ndD (six_heap (blk_set6 (R := w.heap.size + 1) (blk_set6 (R := w.heap.size) (six_heap T_z.out) (by omega) _ _ _ _ _ _) (by omega) _ _ _ _ _ _))
             exact Fl.done (Fl.drew ((((F12.out.set6 (N := w.heap.size + 1 + 1) hl_z.out _ _ _ _ _ _).set6 (N := w.heap.size) hl_a.out _ _ _ _ _ _).set6 (N := w.heap.size + 1) hl_e.out _ _ _ _ _ _).set6 (N := w.heap.size + 1 + 1) hl_z.out _ _ _ _ _ _)) ⟨K_a.out.1, SIn.drewP (p := p) (SIn.keep (Q := (fun b => w.heap.size + 2 < b)) (fun k hk _ => six_otherP (R := w.heap.size + 1 + 1) (by have h7 : w.heap.size + 2 < k := hk; omega) ..) (fun _ hk _ => hk) (SIn.keep (Q := (fun b => w.heap.size + 2 < b)) (fun k hk _ => six_otherP (R := w.heap.size + 1) (by have h7 : w.heap.size + 2 < k := hk; omega) ..) (fun _ hk _ => hk) (SIn.keep (Q := (fun b => w.heap.size + 2 < b)) (fun k hk _ => six_otherP (R := w.heap.size) (by have h7 : w.heap.size + 2 < k := hk; omega) ..) (fun _ hk _ => hk) (SIn.keep (Q := (fun b => w.heap.size + 2 < b)) (fun k hk _ => six_otherP (R := w.heap.size + 1 + 1) (by have h7 : w.heap.size + 2 < k := hk; omega) ..) (fun _ hk _ => hk) K_a.out.2)))) (fun hh => HNB.out hh)⟩ ⟨K_e.out.1, SIn.drewP (p := p) (SIn.keep (Q := (fun b => w.heap.size + 2 < b)) (fun k hk _ => six_otherP (R := w.heap.size + 1 + 1) (by have h7 : w.heap.size + 2 < k := hk; omega) ..) (fun _ hk _ => hk) (SIn.keep (Q := (fun b => w.heap.size + 2 < b)) (fun k hk _ => six_otherP (R := w.heap.size + 1) (by have h7 : w.heap.size + 2 < k := hk; omega) ..) (fun _ hk _ => hk) (SIn.keep (Q := (fun b => w.heap.size + 2 < b)) (fun k hk _ => six_otherP (R := w.heap.size) (by have h7 : w.heap.size + 2 < k := hk; omega) ..) (fun _ hk _ => hk) (SIn.keep (Q := (fun b => w.heap.size + 2 < b)) (fun k hk _ => six_otherP (R := w.heap.size + 1 + 1) (by have h7 : w.heap.size + 2 < k := hk; omega) ..) (fun _ hk _ => hk) K_e.out.2)))) (fun hh => HNB.out hh)⟩ ⟨K_z.out.1, SIn.drewP (p := p) (SIn.keep (Q := (fun b => w.heap.size + 2 < b)) (fun k hk _ => six_otherP (R := w.heap.size + 1 + 1) (by have h7 : w.heap.size + 2 < k := hk; omega) ..) (fun _ hk _ => hk) (SIn.keep (Q := (fun b => w.heap.size + 2 < b)) (fun k hk _ => six_otherP (R := w.heap.size + 1) (by have h7 : w.heap.size + 2 < k := hk; omega) ..) (fun _ hk _ => hk) (SIn.keep (Q := (fun b => w.heap.size + 2 < b)) (fun k hk _ => six_otherP (R := w.heap.size) (by have h7 : w.heap.size + 2 < k := hk; omega) ..) (fun _ hk _ => hk) (SIn.keep (Q := (fun b => w.heap.size + 2 < b)) (fun k hk _ => six_otherP (R := w.heap.size + 1 + 1) (by have h7 : w.heap.size + 2 < k := hk; omega) ..) (fun _ hk _ => hk) K_z.out.2)))) (fun hh => HNB.out hh)⟩ (by omega) (by omega)
end Go.Proofs.YthaaolajbmafgaaGreatDoor
