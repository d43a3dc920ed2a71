/- The parser's variable. (Written by a program.) The parser's condition. (Written by a program.) -/
import Derived.Test.YthaaolajbmafgaaGreatDoorPW1
namespace Go.Proofs.YthaaolajbmafgaaGreatDoor
open Go.RowKit
set_option maxRecDepth 100000 in
set_option maxHeartbeats 4000000 in
theorem pvariable_any (p : PC) (ex : Rd) (hE : RdC p 201 #[.pointer (some ⟨p.R, 0, none⟩)] ex) (hT : RdC p 131 #[.pointer (some ⟨p.R, 0, none⟩)] (typP p.ts)) : RdC p 179 #[.pointer (some ⟨p.R, 0, none⟩)] (variableP p.ts ex) := by
 intro s w hs hi r hr
 unfold variableP at hr
 have HR := Lib.hid hr
 have HI0 : Hid (1 ≤ s.i ∧ s.i ≤ s.i ∧ s.o = s.o) := Lib.hid ⟨hi, Nat.le_refl _, rfl⟩
 have HE := Lib.hid hE
 have HT := Lib.hid hT
 have tf0 := tk_f0
 have tf1 := tk_f1
 have tf2 := tk_f2
 have HRL := Lib.hid (And.intro hs.rlt hs.glt)
 have FS := Lib.hid (Fm.start hs (.int .i64 0) (.int .i64 0) (.int .i64 0) (.int .i64 0) (.string ⟨#[]⟩) (.slice none 0 0))
 obtain ⟨w0, hw0⟩ : ∃ W, W = w.alloc (.cells #[.int .i64 0, .int .i64 0, .int .i64 0, .int .i64 0, .string ⟨#[]⟩, .slice none 0 0] 24) := ⟨_, rfl⟩
 have F0 : Hid (Fm p w w0 s) := Lib.hid (by rw [hw0]; exact FS.out)
 have HW0 := Lib.hid hw0
 clear hs hi hr hw0 FS hE hT
 go_enter Tryz.func179, Tryz.ntmps179
 go_wp2_with fail
 rw [← HW0.out]
 obtain ⟨r1, hx, hr⟩ := bind_pf HR.out
 have HR := Lib.hid hr
 clear hr
 refine (ptake_any p wVar (by decide) s _ (F0.out).st r1 hx).mono ?_
 clear hx
 intro ee w1 he
 cases r1 with
 | bad kk xx =>
  obtain ⟨rfl, hf⟩ := he
  have hrr : r = .bad kk xx := HR.out
  subst hrr
  have HE := Lib.hid ((F0.out).fr.trans hf)
  clear hf
  go_wp2_with fail
  exact ⟨rfl, rfl, HE.out⟩
 | ok t1 s1 =>
  obtain ⟨rfl, hs, hf, hi, ho⟩ := he
  have F1 := Lib.hid ((F0.out).step hf hs)
  have HI1 : Hid (1 ≤ s1.i ∧ s.i < s1.i ∧ s1.o = s.o + 0) := Lib.hid (by have h1 := HI0.out; omega)
  have hr0 := HRL.out
  have hl0 := F0.out.lt
  clear hr0 hl0
  clear hs hf hi ho
  go_wp2_with fail
  obtain ⟨r2, hx, hr⟩ := bind_pf HR.out
  have HR := Lib.hid hr
  clear hr
  refine (ptakeK_any p 1 (by decide) s1 _ (F1.out).st r2 hx).mono ?_
  clear hx
  intro ee w2 he
  cases r2 with
  | bad kk xx =>
   obtain ⟨rfl, hf⟩ := he
   have hrr : r = .bad kk xx := HR.out
   subst hrr
   have HE := Lib.hid ((F1.out).fr.trans hf)
   clear hf
   go_wp2_with fail
   exact ⟨rfl, rfl, HE.out⟩
  | ok t s2 =>
   obtain ⟨rfl, hs, hf, hi, ho⟩ := he
   have F2 := Lib.hid ((F1.out).step hf hs)
   have HI2 : Hid (1 ≤ s2.i ∧ s.i < s2.i ∧ s2.o = s.o + 0) := Lib.hid (by have h1 := HI1.out; omega)
   have hr0 := HRL.out
   have hl0 := F1.out.lt
   clear hr0 hl0
   clear hs hf hi ho
   go_wp2_with fail
   refine (pstands_any p mEq s2 _ ((((F2.out.alloc _).alloc _).alloc _)).st).mono ?_
   rintro ee w3 ⟨rfl, hb⟩
   have F3 := Lib.hid (((((F2.out.alloc _).alloc _).alloc _)).below hb)
   have HI3 := HI2
   have hr0 := HRL.out
   have hl0 := F2.out.lt
   have T_t := Lib.hid ((PFr.of_below (R := p.R) hb).kept (N := w2.heap.size) (by omega) (blk_alloc (blk_alloc (alloc_top w2 _ _))))
   have hl_t : Hid (w.heap.size < w2.heap.size) := Lib.hid (by omega)
   have T_y := Lib.hid ((PFr.of_below (R := p.R) hb).kept (N := w2.heap.size + 1) (by omega) (blk_alloc (alloc_top2 w2 _ _ _)))
   have hl_y : Hid (w.heap.size < w2.heap.size + 1) := Lib.hid (by omega)
   have T_e := Lib.hid ((PFr.of_below (R := p.R) hb).kept (N := w2.heap.size + 1 + 1) (by omega) (alloc_top3 w2 _ _ _ _))
   have hl_e : Hid (w.heap.size < w2.heap.size + 1 + 1) := Lib.hid (by omega)
   clear hr0 hl0
   clear hb
   obtain ⟨b, hc⟩ : ∃ b, atB p.ts s2 mEq = b := ⟨_, rfl⟩
   have hr := HR.out
   try rw [hc]
   cases b with
   | true =>
    simp only [hc, optP, if_false, Bool.false_eq_true, Bool.not_true] at hr
    have HR := Lib.hid hr
    have HC3 := Lib.hid hc
    clear hr hc
    have HR := Lib.hid (bind_ok HR.out)
    obtain ⟨A_y, hA⟩ : ∃ A : Option Addr, A = none := ⟨_, rfl⟩
    obtain ⟨c_y, hcc⟩ : ∃ c : Nat, c = 0 := ⟨_, rfl⟩
    have T_y : Hid (w3.heap[w2.heap.size + 1]? = some (.cells (cNd noN A_y c_y) 24 (0, 0))) := Lib.hid (by rw [hA, hcc]; exact T_y.out)
    have K_y : Hid (noN.kids.length ≤ c_y ∧ SIn w3 (fun b => ((w.heap.size < b) ∧ b ≠ w2.heap.size + 1) ∧ b ≠ w2.heap.size + 1 + 1) noN.kids A_y) := Lib.hid ⟨Nat.zero_le _, by rw [hA]; exact sin0⟩
    clear hA hcc
    go_wp2_with fail
    refine (ppassed_any p mEq (by decide) s2 _ (F3.out).st).mono ?_
    rintro ee w4 ⟨rfl, hs, hf⟩
    have F4 := Lib.hid ((F3.out).step hf hs)
    have hr0 := HRL.out
    have hl0t := hl_t.out
    have hl0y := hl_y.out
    have hl0e := hl_e.out
    have hl0 := F3.out.lt
    have hs0t := (Array.getElem?_eq_some_iff.1 T_t.out).1
    have hs0y := (Array.getElem?_eq_some_iff.1 T_y.out).1
    have hs0e := (Array.getElem?_eq_some_iff.1 T_e.out).1
    have T_t := Lib.hid (hf.kept (N := w2.heap.size) (by omega) T_t.out)
    have K_y : Hid (noN.kids.length ≤ c_y ∧ SIn w4 (fun b => ((w.heap.size < b) ∧ b ≠ w2.heap.size + 1) ∧ b ≠ w2.heap.size + 1 + 1) noN.kids A_y) := Lib.hid (And.intro K_y.out.1 (SIn.fr K_y.out.2 hf (fun hh => by have h2 : w.heap.size < p.R := hh.1.1; omega)))
    have T_y := Lib.hid (hf.kept (N := w2.heap.size + 1) (by omega) T_y.out)
    have T_e := Lib.hid (hf.kept (N := w2.heap.size + 1 + 1) (by omega) T_e.out)
    clear hr0 hl0 hs0t hs0y hs0e hl0t hl0y hl0e
    clear hs hf
    obtain ⟨b, hc⟩ : ∃ b, atB p.ts s2 mEq = b := ⟨_, rfl⟩
    have hr := HR.out
    try rw [hc]
    cases b with
    | true =>
     have F4 : Hid (Fm p w w4 (adv s2)) := Lib.hid (by have h3 := F4.out; unfold psd at h3; rw [if_pos hc] at h3; exact h3)
     have HI4 : Hid (1 ≤ (adv s2).i ∧ s.i < (adv s2).i ∧ (adv s2).o = s.o + 0) := Lib.hid (by have h1 := HI3.out; unfold adv; simp only; omega)
     simp only [hc, if_true] at hr
     have HR := Lib.hid hr
     clear hr hc
     go_wp2_with fail
     obtain ⟨r3, hx, hr⟩ := bind_pf HR.out
     have HR := Lib.hid hr
     clear hr
     refine (HE.out (adv s2) _ (F4.out).st (by have h1 := HI4.out; omega) r3 hx).mono ?_
     clear hx
     intro ee w5 he
     cases r3 with
     | bad kk xx =>
      obtain ⟨rfl, hf⟩ := he
      have hrr : r = .bad kk xx := HR.out
      subst hrr
      have HE := Lib.hid ((F4.out).fr.trans hf)
      clear hf
      go_wp2_with fail
      exact ⟨rfl, rfl, HE.out⟩
     | ok n_e s5 =>
      obtain ⟨⟨v, rfl, hn⟩, hs, hf, hi, ho⟩ := he
      obtain ⟨A_e, c_e, rfl, hc, hk⟩ := hn.open
      have F5 := Lib.hid ((F4.out).step hf hs)
      have HI5 : Hid (1 ≤ s5.i ∧ s.i < s5.i ∧ s5.o = s.o + 0) := Lib.hid (by have h1 := HI4.out; omega)
      have K_e : Hid (n_e.kids.length ≤ c_e ∧ SIn w5 (fun b => ((w.heap.size < b) ∧ b ≠ w2.heap.size + 1) ∧ b ≠ w2.heap.size + 1 + 1) n_e.kids A_e) := Lib.hid ⟨hc, hk.wide (fun k _ h1 => ⟨⟨Nat.lt_of_lt_of_le (F4.out).lt h1, Nat.ne_of_gt (Nat.lt_of_lt_of_le (Array.getElem?_eq_some_iff.1 T_y.out).1 h1)⟩, Nat.ne_of_gt (Nat.lt_of_lt_of_le (Array.getElem?_eq_some_iff.1 T_e.out).1 h1)⟩)⟩
      have hr0 := HRL.out
      have hl0t := hl_t.out
      have hl0y := hl_y.out
      have hl0e := hl_e.out
      have hl0 := F4.out.lt
      have hs0t := (Array.getElem?_eq_some_iff.1 T_t.out).1
      have hs0y := (Array.getElem?_eq_some_iff.1 T_y.out).1
      have hs0e := (Array.getElem?_eq_some_iff.1 T_e.out).1
      have T_t := Lib.hid (hf.kept (N := w2.heap.size) (by omega) T_t.out)
      have K_y : Hid (noN.kids.length ≤ c_y ∧ SIn w5 (fun b => ((w.heap.size < b) ∧ b ≠ w2.heap.size + 1) ∧ b ≠ w2.heap.size + 1 + 1) noN.kids A_y) := Lib.hid (And.intro K_y.out.1 (SIn.fr K_y.out.2 hf (fun hh => by have h2 : w.heap.size < p.R := hh.1.1; omega)))
      have T_y := Lib.hid (hf.kept (N := w2.heap.size + 1) (by omega) T_y.out)
      have T_e := Lib.hid (hf.kept (N := w2.heap.size + 1 + 1) (by omega) T_e.out)
      clear hr0 hl0 hs0t hs0y hs0e hl0t hl0y hl0e
      clear hn hc hk hs hf hi ho
      obtain ⟨qt0, qt1, qt2, qt3⟩ := tk4 T_t.out
      have qtl := (Array.getElem?_eq_some_iff.1 T_t.out).1
      obtain ⟨qy0, qy1, qy2, qy3, qy4, qy5⟩ := six_cells T_y.out
      have qyl := (Array.getElem?_eq_some_iff.1 T_y.out).1
      obtain ⟨qe0, qe1, qe2, qe3, qe4, qe5⟩ := six_cells T_e.out
      have qel := (Array.getElem?_eq_some_iff.1 T_e.out).1
      have fe0 := frozen_of_row _ (w2.heap.size + 1 + 1) 0 _ _ T_e.out
      have fe1 := frozen_of_row _ (w2.heap.size + 1 + 1) 1 _ _ T_e.out
      have fe2 := frozen_of_row _ (w2.heap.size + 1 + 1) 2 _ _ T_e.out
      have fe3 := frozen_of_row _ (w2.heap.size + 1 + 1) 3 _ _ T_e.out
      have fe4 := frozen_of_row _ (w2.heap.size + 1 + 1) 4 _ _ T_e.out
      have fe5 := frozen_of_row _ (w2.heap.size + 1 + 1) 5 _ _ T_e.out
      go_wp2_with fail
      clear qt0 qt1 qt2 qt3 qtl qy0 qy1 qy2 qy3 qy4 qy5 qyl qe0 qe1 qe2 qe3 qe4 qe5 qel fe0 fe1 fe2 fe3 fe4 fe5
      refine (pmade_any p s5 _ (((F5.out.set6 (N := w2.heap.size + 1 + 1) hl_e.out _ _ _ _ _ _).alloc _)).st (by have h1 := HI5.out; omega) _ _ _ _ _ _ _).mono ?_
      rintro ee w6 ⟨rfl, hb⟩
      have F6 := Lib.hid ((((F5.out.set6 (N := w2.heap.size + 1 + 1) hl_e.out _ _ _ _ _ _).alloc _)).below hb)
      have HI6 := HI5
      have hrow := blk_below (alloc_top _ _ _) hb
      simp only [World.size_setCell] at hrow
      have HROW := Lib.hid hrow
      clear hrow
      have hm_y := (Array.getElem?_eq_some_iff.1 T_y.out).1
      have hm_e := (Array.getElem?_eq_some_iff.1 T_e.out).1
      have hr0 := HRL.out
      have hl0t := hl_t.out
      have hl0y := hl_y.out
      have hl0e := hl_e.out
      have hl0 := F5.out.lt
      have hs0t := (Array.getElem?_eq_some_iff.1 T_t.out).1
      have hs0y := (Array.getElem?_eq_some_iff.1 T_y.out).1
      have hs0e := (Array.getElem?_eq_some_iff.1 T_e.out).1
      have T_t := Lib.hid ((PFr.of_below (R := p.R) hb).kept (N := w2.heap.size) (by omega) (blk_alloc (blk_set6 (R := w2.heap.size + 1 + 1) T_t.out (by omega) _ _ _ _ _ _)))
      have K_y : Hid (noN.kids.length ≤ c_y ∧ SIn w6 (fun b => ((w.heap.size < b) ∧ b ≠ w2.heap.size + 1) ∧ b ≠ w2.heap.size + 1 + 1) noN.kids A_y) := Lib.hid (And.intro K_y.out.1 (SIn.fr (SIn.below (SIn.keep (Q := (fun b => ((w.heap.size < b) ∧ b ≠ w2.heap.size + 1) ∧ b ≠ w2.heap.size + 1 + 1)) (fun k hk _ => six_otherP (R := w2.heap.size + 1 + 1) hk.2 ..) (fun _ hk _ => hk) K_y.out.2) (alloc_below _ _)) (PFr.of_below (R := p.R) hb) (fun hh => by have h2 : w.heap.size < p.R := hh.1.1; omega)))
      have T_y := Lib.hid ((PFr.of_below (R := p.R) hb).kept (N := w2.heap.size + 1) (by omega) (blk_alloc (blk_set6 (R := w2.heap.size + 1 + 1) T_y.out (by omega) _ _ _ _ _ _)))
      have K_e : Hid (n_e.kids.length ≤ c_e ∧ SIn w6 (fun b => ((w.heap.size < b) ∧ b ≠ w2.heap.size + 1) ∧ b ≠ w2.heap.size + 1 + 1) n_e.kids A_e) := Lib.hid (And.intro K_e.out.1 (SIn.fr (SIn.below (SIn.keep (Q := (fun b => ((w.heap.size < b) ∧ b ≠ w2.heap.size + 1) ∧ b ≠ w2.heap.size + 1 + 1)) (fun k hk _ => six_otherP (R := w2.heap.size + 1 + 1) hk.2 ..) (fun _ hk _ => hk) K_e.out.2) (alloc_below _ _)) (PFr.of_below (R := p.R) hb) (fun hh => by have h2 : w.heap.size < p.R := hh.1.1; omega)))
      have T_e := Lib.hid ((PFr.of_below (R := p.R) hb).kept (N := w2.heap.size + 1 + 1) (by omega) (blk_alloc (six_heap T_e.out)))
      clear hr0 hl0 hs0t hs0y hs0e hl0t hl0y hl0e
      clear hb
      have hz := F6.out.lt
      have hzp := F5.out.lt
      have h1 := HI6.out
      have HSS := Lib.hid (sin2 (P := (fun b => ((w.heap.size < b) ∧ b ≠ w2.heap.size + 1) ∧ b ≠ w2.heap.size + 1 + 1)) HROW.out (⟨⟨by omega, by omega⟩, by omega⟩) K_y.out.1 K_y.out.2 K_e.out.1 K_e.out.2)
      clear hz hzp h1 hm_y hm_e
      have hrr := (Option.some.inj HR.out).symm
      subst hrr
      obtain ⟨z0, z1, z2, z3, z4, z5, hres⟩ := F6.out.res
      obtain ⟨y0, y1, y2, y3, y4, y5⟩ := six_cells hres
      have x0 := frozen_of_row _ w.heap.size 0 _ _ hres
      have x1 := frozen_of_row _ w.heap.size 1 _ _ hres
      have x2 := frozen_of_row _ w.heap.size 2 _ _ hres
      have x3 := frozen_of_row _ w.heap.size 3 _ _ hres
      have x4 := frozen_of_row _ w.heap.size 4 _ _ hres
      have x5 := frozen_of_row _ w.heap.size 5 _ _ hres
      have HRES := Lib.hid hres
      clear hres
      go_wp2_with fail
      have h1 := HI6.out
      exact ret_cell1A (p := 2) rfl _ rfl _ (load_nd (six_heap HRES.out)) (F6.out.done (HSS.out.wide (fun _ _ hk => hk.1.1)) (Nat.le_refl _) (by omega) (by omega) _ _ _ _ _ _ rfl)
    | false =>
     have F4 : Hid (Fm p w w4 s2) := Lib.hid (by have h3 := F4.out; unfold psd at h3; rw [if_neg (by rw [hc]; decide)] at h3; exact h3)
     have HI4 := HI3
     simp only [hc, if_false, Bool.false_eq_true] at hr
     have HR := Lib.hid hr
     clear hr hc
     have HR := Lib.hid (bind_ok HR.out)
     obtain ⟨A_e, hA⟩ : ∃ A : Option Addr, A = none := ⟨_, rfl⟩
     obtain ⟨c_e, hcc⟩ : ∃ c : Nat, c = 0 := ⟨_, rfl⟩
     have T_e : Hid (w4.heap[w2.heap.size + 1 + 1]? = some (.cells (cNd noN A_e c_e) 24 (0, 0))) := Lib.hid (by rw [hA, hcc]; exact T_e.out)
     have K_e : Hid (noN.kids.length ≤ c_e ∧ SIn w4 (fun b => ((w.heap.size < b) ∧ b ≠ w2.heap.size + 1) ∧ b ≠ w2.heap.size + 1 + 1) noN.kids A_e) := Lib.hid ⟨Nat.zero_le _, by rw [hA]; exact sin0⟩
     clear hA hcc
     obtain ⟨qt0, qt1, qt2, qt3⟩ := tk4 T_t.out
     have qtl := (Array.getElem?_eq_some_iff.1 T_t.out).1
     obtain ⟨qy0, qy1, qy2, qy3, qy4, qy5⟩ := six_cells T_y.out
     have qyl := (Array.getElem?_eq_some_iff.1 T_y.out).1
     obtain ⟨qe0, qe1, qe2, qe3, qe4, qe5⟩ := six_cells T_e.out
     have qel := (Array.getElem?_eq_some_iff.1 T_e.out).1
     go_wp2_with fail
     clear qt0 qt1 qt2 qt3 qtl qy0 qy1 qy2 qy3 qy4 qy5 qyl qe0 qe1 qe2 qe3 qe4 qe5 qel
     refine (pmade_any p s2 _ ((F4.out.alloc _)).st (by have h1 := HI4.out; omega) _ _ _ _ _ _ _).mono ?_
     rintro ee w5 ⟨rfl, hb⟩
     have F5 := Lib.hid (((F4.out.alloc _)).below hb)
     have HI5 := HI4
     have hrow := blk_below (alloc_top w4 _ _) hb
     have HROW := Lib.hid hrow
     clear hrow
     have hm_y := (Array.getElem?_eq_some_iff.1 T_y.out).1
     have hm_e := (Array.getElem?_eq_some_iff.1 T_e.out).1
     have hr0 := HRL.out
     have hl0t := hl_t.out
     have hl0y := hl_y.out
     have hl0e := hl_e.out
     have hl0 := F4.out.lt
     have hs0t := (Array.getElem?_eq_some_iff.1 T_t.out).1
     have hs0y := (Array.getElem?_eq_some_iff.1 T_y.out).1
     have hs0e := (Array.getElem?_eq_some_iff.1 T_e.out).1
     have T_t := Lib.hid ((PFr.of_below (R := p.R) hb).kept (N := w2.heap.size) (by omega) (blk_alloc T_t.out))
     have K_y : Hid (noN.kids.length ≤ c_y ∧ SIn w5 (fun b => ((w.heap.size < b) ∧ b ≠ w2.heap.size + 1) ∧ b ≠ w2.heap.size + 1 + 1) noN.kids A_y) := Lib.hid (And.intro K_y.out.1 (SIn.fr (SIn.below K_y.out.2 (alloc_below _ _)) (PFr.of_below (R := p.R) hb) (fun hh => by have h2 : w.heap.size < p.R := hh.1.1; omega)))
     have T_y := Lib.hid ((PFr.of_below (R := p.R) hb).kept (N := w2.heap.size + 1) (by omega) (blk_alloc T_y.out))
     have K_e : Hid (noN.kids.length ≤ c_e ∧ SIn w5 (fun b => ((w.heap.size < b) ∧ b ≠ w2.heap.size + 1) ∧ b ≠ w2.heap.size + 1 + 1) noN.kids A_e) := Lib.hid (And.intro K_e.out.1 (SIn.fr (SIn.below K_e.out.2 (alloc_below _ _)) (PFr.of_below (R := p.R) hb) (fun hh => by have h2 : w.heap.size < p.R := hh.1.1; omega)))
     have T_e := Lib.hid ((PFr.of_below (R := p.R) hb).kept (N := w2.heap.size + 1 + 1) (by omega) (blk_alloc T_e.out))
     clear hr0 hl0 hs0t hs0y hs0e hl0t hl0y hl0e
     clear hb
     have hz := F5.out.lt
     have hzp := F4.out.lt
     have h1 := HI5.out
     have HSS := Lib.hid (sin2 (P := (fun b => ((w.heap.size < b) ∧ b ≠ w2.heap.size + 1) ∧ b ≠ w2.heap.size + 1 + 1)) HROW.out (⟨⟨by omega, by omega⟩, by omega⟩) K_y.out.1 K_y.out.2 K_e.out.1 K_e.out.2)
     clear hz hzp h1 hm_y hm_e
     have hrr := (Option.some.inj HR.out).symm
     subst hrr
     obtain ⟨z0, z1, z2, z3, z4, z5, hres⟩ := F5.out.res
     obtain ⟨y0, y1, y2, y3, y4, y5⟩ := six_cells hres
     have x0 := frozen_of_row _ w.heap.size 0 _ _ hres
     have x1 := frozen_of_row _ w.heap.size 1 _ _ hres
     have x2 := frozen_of_row _ w.heap.size 2 _ _ hres
     have x3 := frozen_of_row _ w.heap.size 3 _ _ hres
     have x4 := frozen_of_row _ w.heap.size 4 _ _ hres
     have x5 := frozen_of_row _ w.heap.size 5 _ _ hres
     have HRES := Lib.hid hres
     clear hres
     go_wp2_with fail
     have h1 := HI5.out
     exact ret_cell1A (p := 2) rfl _ rfl _ (load_nd (six_heap HRES.out)) (F5.out.done (HSS.out.wide (fun _ _ hk => hk.1.1)) (Nat.le_refl _) (by omega) (by omega) _ _ _ _ _ _ rfl)
   | false =>
    simp only [hc, optP, if_true, Bool.not_false] at hr
    have HR := Lib.hid hr
    have HC3 := Lib.hid hc
    clear hr hc
    go_wp2_with fail
    obtain ⟨r3, hx, hr⟩ := bind_pf HR.out
    have HR := Lib.hid hr
    clear hr
    refine (HT.out s2 _ (F3.out).st (by have h1 := HI3.out; omega) r3 hx).mono ?_
    clear hx
    intro ee w4 he
    cases r3 with
    | bad kk xx =>
     obtain ⟨rfl, hf⟩ := he
     have hrr : r = .bad kk xx := HR.out
     subst hrr
     have HE := Lib.hid ((F3.out).fr.trans hf)
     clear hf
     go_wp2_with fail
     exact ⟨rfl, rfl, HE.out⟩
    | ok n_y s4 =>
     obtain ⟨⟨v, rfl, hn⟩, hs, hf, hi, ho⟩ := he
     obtain ⟨A_y, c_y, rfl, hc, hk⟩ := hn.open
     have F4 := Lib.hid ((F3.out).step hf hs)
     have HI4 : Hid (1 ≤ s4.i ∧ s.i < s4.i ∧ s4.o = s.o + 0) := Lib.hid (by have h1 := HI3.out; omega)
     have K_y : Hid (n_y.kids.length ≤ c_y ∧ SIn w4 (fun b => ((w.heap.size < b) ∧ b ≠ w2.heap.size + 1) ∧ b ≠ w2.heap.size + 1 + 1) n_y.kids A_y) := Lib.hid ⟨hc, hk.wide (fun k _ h1 => ⟨⟨Nat.lt_of_lt_of_le (F3.out).lt h1, Nat.ne_of_gt (Nat.lt_of_lt_of_le (Array.getElem?_eq_some_iff.1 T_y.out).1 h1)⟩, Nat.ne_of_gt (Nat.lt_of_lt_of_le (Array.getElem?_eq_some_iff.1 T_e.out).1 h1)⟩)⟩
     have hr0 := HRL.out
     have hl0t := hl_t.out
     have hl0y := hl_y.out
     have hl0e := hl_e.out
     have hl0 := F3.out.lt
     have hs0t := (Array.getElem?_eq_some_iff.1 T_t.out).1
     have hs0y := (Array.getElem?_eq_some_iff.1 T_y.out).1
     have hs0e := (Array.getElem?_eq_some_iff.1 T_e.out).1
     have T_t := Lib.hid (hf.kept (N := w2.heap.size) (by omega) T_t.out)
     have T_y := Lib.hid (hf.kept (N := w2.heap.size + 1) (by omega) T_y.out)
     have T_e := Lib.hid (hf.kept (N := w2.heap.size + 1 + 1) (by omega) T_e.out)
     clear hr0 hl0 hs0t hs0y hs0e hl0t hl0y hl0e
     clear hn hc hk hs hf hi ho
     obtain ⟨qy0, qy1, qy2, qy3, qy4, qy5⟩ := six_cells T_y.out
     have qyl := (Array.getElem?_eq_some_iff.1 T_y.out).1
     have fy0 := frozen_of_row _ (w2.heap.size + 1) 0 _ _ T_y.out
     have fy1 := frozen_of_row _ (w2.heap.size + 1) 1 _ _ T_y.out
     have fy2 := frozen_of_row _ (w2.heap.size + 1) 2 _ _ T_y.out
     have fy3 := frozen_of_row _ (w2.heap.size + 1) 3 _ _ T_y.out
     have fy4 := frozen_of_row _ (w2.heap.size + 1) 4 _ _ T_y.out
     have fy5 := frozen_of_row _ (w2.heap.size + 1) 5 _ _ T_y.out
     go_wp2_with fail
     clear qy0 qy1 qy2 qy3 qy4 qy5 qyl fy0 fy1 fy2 fy3 fy4 fy5
     refine (ppassed_any p mEq (by decide) s4 _ ((F4.out.set6 (N := w2.heap.size + 1) hl_y.out _ _ _ _ _ _)).st).mono ?_
     rintro ee w5 ⟨rfl, hs, hf⟩
     have F5 := Lib.hid (((F4.out.set6 (N := w2.heap.size + 1) hl_y.out _ _ _ _ _ _)).step hf hs)
     have hr0 := HRL.out
     have hl0t := hl_t.out
     have hl0y := hl_y.out
     have hl0e := hl_e.out
     have hl0 := F4.out.lt
     have hs0t := (Array.getElem?_eq_some_iff.1 T_t.out).1
     have hs0y := (Array.getElem?_eq_some_iff.1 T_y.out).1
     have hs0e := (Array.getElem?_eq_some_iff.1 T_e.out).1
     have T_t := Lib.hid (hf.kept (N := w2.heap.size) (by omega) (blk_set6 (R := w2.heap.size + 1) T_t.out (by omega) _ _ _ _ _ _))
     have K_y : Hid (n_y.kids.length ≤ c_y ∧ SIn w5 (fun b => ((w.heap.size < b) ∧ b ≠ w2.heap.size + 1) ∧ b ≠ w2.heap.size + 1 + 1) n_y.kids A_y) := Lib.hid (And.intro K_y.out.1 (SIn.fr (SIn.keep (Q := (fun b => ((w.heap.size < b) ∧ b ≠ w2.heap.size + 1) ∧ b ≠ w2.heap.size + 1 + 1)) (fun k hk _ => six_otherP (R := w2.heap.size + 1) hk.1.2 ..) (fun _ hk _ => hk) K_y.out.2) hf (fun hh => by have h2 : w.heap.size < p.R := hh.1.1; omega)))
     have T_y := Lib.hid (hf.kept (N := w2.heap.size + 1) (by omega) (six_heap T_y.out))
     have T_e := Lib.hid (hf.kept (N := w2.heap.size + 1 + 1) (by omega) (blk_set6 (R := w2.heap.size + 1) T_e.out (by omega) _ _ _ _ _ _))
     clear hr0 hl0 hs0t hs0y hs0e hl0t hl0y hl0e
     clear hs hf
     obtain ⟨b, hc⟩ : ∃ b, atB p.ts s4 mEq = b := ⟨_, rfl⟩
     have hr := HR.out
     try rw [hc]
     cases b with
     | true =>
      have F5 : Hid (Fm p w w5 (adv s4)) := Lib.hid (by have h3 := F5.out; unfold psd at h3; rw [if_pos hc] at h3; exact h3)
      have HI5 : Hid (1 ≤ (adv s4).i ∧ s.i < (adv s4).i ∧ (adv s4).o = s.o + 0) := Lib.hid (by have h1 := HI4.out; unfold adv; simp only; omega)
      simp only [hc, if_true] at hr
      have HR := Lib.hid hr
      clear hr hc
      go_wp2_with fail
      obtain ⟨r4, hx, hr⟩ := bind_pf HR.out
      have HR := Lib.hid hr
      clear hr
      refine (HE.out (adv s4) _ (F5.out).st (by have h1 := HI5.out; omega) r4 hx).mono ?_
      clear hx
      intro ee w6 he
      cases r4 with
      | bad kk xx =>
       obtain ⟨rfl, hf⟩ := he
       have hrr : r = .bad kk xx := HR.out
       subst hrr
       have HE := Lib.hid ((F5.out).fr.trans hf)
       clear hf
       go_wp2_with fail
       exact ⟨rfl, rfl, HE.out⟩
      | ok n_e s6 =>
       obtain ⟨⟨v, rfl, hn⟩, hs, hf, hi, ho⟩ := he
       obtain ⟨A_e, c_e, rfl, hc, hk⟩ := hn.open
       have F6 := Lib.hid ((F5.out).step hf hs)
       have HI6 : Hid (1 ≤ s6.i ∧ s.i < s6.i ∧ s6.o = s.o + 0) := Lib.hid (by have h1 := HI5.out; omega)
       have K_e : Hid (n_e.kids.length ≤ c_e ∧ SIn w6 (fun b => ((w.heap.size < b) ∧ b ≠ w2.heap.size + 1) ∧ b ≠ w2.heap.size + 1 + 1) n_e.kids A_e) := Lib.hid ⟨hc, hk.wide (fun k _ h1 => ⟨⟨Nat.lt_of_lt_of_le (F5.out).lt h1, Nat.ne_of_gt (Nat.lt_of_lt_of_le (Array.getElem?_eq_some_iff.1 T_y.out).1 h1)⟩, Nat.ne_of_gt (Nat.lt_of_lt_of_le (Array.getElem?_eq_some_iff.1 T_e.out).1 h1)⟩)⟩
       have hr0 := HRL.out
       have hl0t := hl_t.out
       have hl0y := hl_y.out
       have hl0e := hl_e.out
       have hl0 := F5.out.lt
       have hs0t := (Array.getElem?_eq_some_iff.1 T_t.out).1
       have hs0y := (Array.getElem?_eq_some_iff.1 T_y.out).1
       have hs0e := (Array.getElem?_eq_some_iff.1 T_e.out).1
       have T_t := Lib.hid (hf.kept (N := w2.heap.size) (by omega) T_t.out)
       have K_y : Hid (n_y.kids.length ≤ c_y ∧ SIn w6 (fun b => ((w.heap.size < b) ∧ b ≠ w2.heap.size + 1) ∧ b ≠ w2.heap.size + 1 + 1) n_y.kids A_y) := Lib.hid (And.intro K_y.out.1 (SIn.fr K_y.out.2 hf (fun hh => by have h2 : w.heap.size < p.R := hh.1.1; omega)))
       have T_y := Lib.hid (hf.kept (N := w2.heap.size + 1) (by omega) T_y.out)
       have T_e := Lib.hid (hf.kept (N := w2.heap.size + 1 + 1) (by omega) T_e.out)
       clear hr0 hl0 hs0t hs0y hs0e hl0t hl0y hl0e
       clear hn hc hk hs hf hi ho
       obtain ⟨qt0, qt1, qt2, qt3⟩ := tk4 T_t.out
       have qtl := (Array.getElem?_eq_some_iff.1 T_t.out).1
       obtain ⟨qy0, qy1, qy2, qy3, qy4, qy5⟩ := six_cells T_y.out
       have qyl := (Array.getElem?_eq_some_iff.1 T_y.out).1
       obtain ⟨qe0, qe1, qe2, qe3, qe4, qe5⟩ := six_cells T_e.out
       have qel := (Array.getElem?_eq_some_iff.1 T_e.out).1
       have fe0 := frozen_of_row _ (w2.heap.size + 1 + 1) 0 _ _ T_e.out
       have fe1 := frozen_of_row _ (w2.heap.size + 1 + 1) 1 _ _ T_e.out
       have fe2 := frozen_of_row _ (w2.heap.size + 1 + 1) 2 _ _ T_e.out
       have fe3 := frozen_of_row _ (w2.heap.size + 1 + 1) 3 _ _ T_e.out
       have fe4 := frozen_of_row _ (w2.heap.size + 1 + 1) 4 _ _ T_e.out
       have fe5 := frozen_of_row _ (w2.heap.size + 1 + 1) 5 _ _ T_e.out
       go_wp2_with fail
       clear qt0 qt1 qt2 qt3 qtl qy0 qy1 qy2 qy3 qy4 qy5 qyl qe0 qe1 qe2 qe3 qe4 qe5 qel fe0 fe1 fe2 fe3 fe4 fe5
       refine (pmade_any p s6 _ (((F6.out.set6 (N := w2.heap.size + 1 + 1) hl_e.out _ _ _ _ _ _).alloc _)).st (by have h1 := HI6.out; omega) _ _ _ _ _ _ _).mono ?_
       rintro ee w7 ⟨rfl, hb⟩
       have F7 := Lib.hid ((((F6.out.set6 (N := w2.heap.size + 1 + 1) hl_e.out _ _ _ _ _ _).alloc _)).below hb)
       have HI7 := HI6
       have hrow := blk_below (alloc_top _ _ _) hb
       simp only [World.size_setCell] at hrow
       have HROW := Lib.hid hrow
       clear hrow
       have hm_y := (Array.getElem?_eq_some_iff.1 T_y.out).1
       have hm_e := (Array.getElem?_eq_some_iff.1 T_e.out).1
       have hr0 := HRL.out
       have hl0t := hl_t.out
       have hl0y := hl_y.out
       have hl0e := hl_e.out
       have hl0 := F6.out.lt
       have hs0t := (Array.getElem?_eq_some_iff.1 T_t.out).1
       have hs0y := (Array.getElem?_eq_some_iff.1 T_y.out).1
       have hs0e := (Array.getElem?_eq_some_iff.1 T_e.out).1
       have T_t := Lib.hid ((PFr.of_below (R := p.R) hb).kept (N := w2.heap.size) (by omega) (blk_alloc (blk_set6 (R := w2.heap.size + 1 + 1) T_t.out (by omega) _ _ _ _ _ _)))
       have K_y : Hid (n_y.kids.length ≤ c_y ∧ SIn w7 (fun b => ((w.heap.size < b) ∧ b ≠ w2.heap.size + 1) ∧ b ≠ w2.heap.size + 1 + 1) n_y.kids A_y) := Lib.hid (And.intro K_y.out.1 (SIn.fr (SIn.below (SIn.keep (Q := (fun b => ((w.heap.size < b) ∧ b ≠ w2.heap.size + 1) ∧ b ≠ w2.heap.size + 1 + 1)) (fun k hk _ => six_otherP (R := w2.heap.size + 1 + 1) hk.2 ..) (fun _ hk _ => hk) K_y.out.2) (alloc_below _ _)) (PFr.of_below (R := p.R) hb) (fun hh => by have h2 : w.heap.size < p.R := hh.1.1; omega)))
       have T_y := Lib.hid ((PFr.of_below (R := p.R) hb).kept (N := w2.heap.size + 1) (by omega) (blk_alloc (blk_set6 (R := w2.heap.size + 1 + 1) T_y.out (by omega) _ _ _ _ _ _)))
       have K_e : Hid (n_e.kids.length ≤ c_e ∧ SIn w7 (fun b => ((w.heap.size < b) ∧ b ≠ w2.heap.size + 1) ∧ b ≠ w2.heap.size + 1 + 1) n_e.kids A_e) := Lib.hid (And.intro K_e.out.1 (SIn.fr (SIn.below (SIn.keep (Q := (fun b => ((w.heap.size < b) ∧ b ≠ w2.heap.size + 1) ∧ b ≠ w2.heap.size + 1 + 1)) (fun k hk _ => six_otherP (R := w2.heap.size + 1 + 1) hk.2 ..) (fun _ hk _ => hk) K_e.out.2) (alloc_below _ _)) (PFr.of_below (R := p.R) hb) (fun hh => by have h2 : w.heap.size < p.R := hh.1.1; omega)))
       have T_e := Lib.hid ((PFr.of_below (R := p.R) hb).kept (N := w2.heap.size + 1 + 1) (by omega) (blk_alloc (six_heap T_e.out)))
       clear hr0 hl0 hs0t hs0y hs0e hl0t hl0y hl0e
       clear hb
       have hz := F7.out.lt
       have hzp := F6.out.lt
       have h1 := HI7.out
       have HSS := Lib.hid (sin2 (P := (fun b => ((w.heap.size < b) ∧ b ≠ w2.heap.size + 1) ∧ b ≠ w2.heap.size + 1 + 1)) HROW.out (⟨⟨by omega, by omega⟩, by omega⟩) K_y.out.1 K_y.out.2 K_e.out.1 K_e.out.2)
       clear hz hzp h1 hm_y hm_e
       have hrr := (Option.some.inj HR.out).symm
       subst hrr
       obtain ⟨z0, z1, z2, z3, z4, z5, hres⟩ := F7.out.res
       obtain ⟨y0, y1, y2, y3, y4, y5⟩ := six_cells hres
       have x0 := frozen_of_row _ w.heap.size 0 _ _ hres
       have x1 := frozen_of_row _ w.heap.size 1 _ _ hres
       have x2 := frozen_of_row _ w.heap.size 2 _ _ hres
       have x3 := frozen_of_row _ w.heap.size 3 _ _ hres
       have x4 := frozen_of_row _ w.heap.size 4 _ _ hres
       have x5 := frozen_of_row _ w.heap.size 5 _ _ hres
       have HRES := Lib.hid hres
       clear hres
       go_wp2_with fail
       have h1 := HI7.out
       exact ret_cell1A (p := 2) rfl _ rfl _ (load_nd (six_heap HRES.out)) (F7.out.done (HSS.out.wide (fun _ _ hk => hk.1.1)) (Nat.le_refl _) (by omega) (by omega) _ _ _ _ _ _ rfl)
     | false =>
      have F5 : Hid (Fm p w w5 s4) := Lib.hid (by have h3 := F5.out; unfold psd at h3; rw [if_neg (by rw [hc]; decide)] at h3; exact h3)
      have HI5 := HI4
      simp only [hc, if_false, Bool.false_eq_true] at hr
      have HR := Lib.hid hr
      clear hr hc
      have HR := Lib.hid (bind_ok HR.out)
      obtain ⟨A_e, hA⟩ : ∃ A : Option Addr, A = none := ⟨_, rfl⟩
      obtain ⟨c_e, hcc⟩ : ∃ c : Nat, c = 0 := ⟨_, rfl⟩
      have T_e : Hid (w5.heap[w2.heap.size + 1 + 1]? = some (.cells (cNd noN A_e c_e) 24 (0, 0))) := Lib.hid (by rw [hA, hcc]; exact T_e.out)
      have K_e : Hid (noN.kids.length ≤ c_e ∧ SIn w5 (fun b => ((w.heap.size < b) ∧ b ≠ w2.heap.size + 1) ∧ b ≠ w2.heap.size + 1 + 1) noN.kids A_e) := Lib.hid ⟨Nat.zero_le _, by rw [hA]; exact sin0⟩
      clear hA hcc
      obtain ⟨qt0, qt1, qt2, qt3⟩ := tk4 T_t.out
      have qtl := (Array.getElem?_eq_some_iff.1 T_t.out).1
      obtain ⟨qy0, qy1, qy2, qy3, qy4, qy5⟩ := six_cells T_y.out
      have qyl := (Array.getElem?_eq_some_iff.1 T_y.out).1
      obtain ⟨qe0, qe1, qe2, qe3, qe4, qe5⟩ := six_cells T_e.out
      have qel := (Array.getElem?_eq_some_iff.1 T_e.out).1
      go_wp2_with fail
      clear qt0 qt1 qt2 qt3 qtl qy0 qy1 qy2 qy3 qy4 qy5 qyl qe0 qe1 qe2 qe3 qe4 qe5 qel
      refine (pmade_any p s4 _ ((F5.out.alloc _)).st (by have h1 := HI5.out; omega) _ _ _ _ _ _ _).mono ?_
      rintro ee w6 ⟨rfl, hb⟩
      have F6 := Lib.hid (((F5.out.alloc _)).below hb)
      have HI6 := HI5
      have hrow := blk_below (alloc_top w5 _ _) hb
      have HROW := Lib.hid hrow
      clear hrow
      have hm_y := (Array.getElem?_eq_some_iff.1 T_y.out).1
      have hm_e := (Array.getElem?_eq_some_iff.1 T_e.out).1
      have hr0 := HRL.out
      have hl0t := hl_t.out
      have hl0y := hl_y.out
      have hl0e := hl_e.out
      have hl0 := F5.out.lt
      have hs0t := (Array.getElem?_eq_some_iff.1 T_t.out).1
      have hs0y := (Array.getElem?_eq_some_iff.1 T_y.out).1
      have hs0e := (Array.getElem?_eq_some_iff.1 T_e.out).1
      have T_t := Lib.hid ((PFr.of_below (R := p.R) hb).kept (N := w2.heap.size) (by omega) (blk_alloc T_t.out))
      have K_y : Hid (n_y.kids.length ≤ c_y ∧ SIn w6 (fun b => ((w.heap.size < b) ∧ b ≠ w2.heap.size + 1) ∧ b ≠ w2.heap.size + 1 + 1) n_y.kids A_y) := Lib.hid (And.intro K_y.out.1 (SIn.fr (SIn.below K_y.out.2 (alloc_below _ _)) (PFr.of_below (R := p.R) hb) (fun hh => by have h2 : w.heap.size < p.R := hh.1.1; omega)))
      have T_y := Lib.hid ((PFr.of_below (R := p.R) hb).kept (N := w2.heap.size + 1) (by omega) (blk_alloc T_y.out))
      have K_e : Hid (noN.kids.length ≤ c_e ∧ SIn w6 (fun b => ((w.heap.size < b) ∧ b ≠ w2.heap.size + 1) ∧ b ≠ w2.heap.size + 1 + 1) noN.kids A_e) := Lib.hid (And.intro K_e.out.1 (SIn.fr (SIn.below K_e.out.2 (alloc_below _ _)) (PFr.of_below (R := p.R) hb) (fun hh => by have h2 : w.heap.size < p.R := hh.1.1; omega)))
      have T_e := Lib.hid ((PFr.of_below (R := p.R) hb).kept (N := w2.heap.size + 1 + 1) (by omega) (blk_alloc T_e.out))
      clear hr0 hl0 hs0t hs0y hs0e hl0t hl0y hl0e
      clear hb
      have hz := F6.out.lt
      have hzp := F5.out.lt
      have h1 := HI6.out
      have HSS := Lib.hid (sin2 (P := (fun b => ((w.heap.size < b) ∧ b ≠ w2.heap.size + 1) ∧ b ≠ w2.heap.size + 1 + 1)) HROW.out (⟨⟨by omega, by omega⟩, by omega⟩) K_y.out.1 K_y.out.2 K_e.out.1 K_e.out.2)
      clear hz hzp h1 hm_y hm_e
      have hrr := (Option.some.inj HR.out).symm
      subst hrr
      obtain ⟨z0, z1, z2, z3, z4, z5, hres⟩ := F6.out.res
      obtain ⟨y0, y1, y2, y3, y4, y5⟩ := six_cells hres
      have x0 := frozen_of_row _ w.heap.size 0 _ _ hres
      have x1 := frozen_of_row _ w.heap.size 1 _ _ hres
      have x2 := frozen_of_row _ w.heap.size 2 _ _ hres
      have x3 := frozen_of_row _ w.heap.size 3 _ _ hres
      have x4 := frozen_of_row _ w.heap.size 4 _ _ hres
      have x5 := frozen_of_row _ w.heap.size 5 _ _ hres
      have HRES := Lib.hid hres
      clear hres
      go_wp2_with fail
      have h1 := HI6.out
      exact ret_cell1A (p := 2) rfl _ rfl _ (load_nd (six_heap HRES.out)) (F6.out.done (HSS.out.wide (fun _ _ hk => hk.1.1)) (Nat.le_refl _) (by omega) (by omega) _ _ _ _ _ _ rfl)
end Go.Proofs.YthaaolajbmafgaaGreatDoor
namespace Go.Proofs.YthaaolajbmafgaaGreatDoor
open Go.RowKit
set_option maxRecDepth 100000 in
set_option maxHeartbeats 4000000 in
theorem pcondition_any (p : PC) (ex st co : Rd) (f : Nat) (hE : RdC p 201 #[.pointer (some ⟨p.R, 0, none⟩)] ex) (hB : RdC p 132 #[.pointer (some ⟨p.R, 0, none⟩)] (blockP p.ts st f)) (hO : RdC p 202 #[.pointer (some ⟨p.R, 0, none⟩)] (otherP p.ts st co f)) : RdC p 177 #[.pointer (some ⟨p.R, 0, none⟩)] (condP p.ts ex st co f) := by
 intro s w hs hi r hr
 unfold condP at hr
 have HR := Lib.hid hr
 have HI0 : Hid (1 ≤ s.i ∧ s.i ≤ s.i ∧ s.o = s.o) := Lib.hid ⟨hi, Nat.le_refl _, rfl⟩
 have HE := Lib.hid hE
 have HB := Lib.hid hB
 have HO := Lib.hid hO
 have tf0 := tk_f0
 have tf1 := tk_f1
 have tf2 := tk_f2
 have HRL := Lib.hid (And.intro hs.rlt hs.glt)
 have FS := Lib.hid (Fm.start hs (.int .i64 0) (.int .i64 0) (.int .i64 0) (.int .i64 0) (.string ⟨#[]⟩) (.slice none 0 0))
 obtain ⟨w0, hw0⟩ : ∃ W, W = w.alloc (.cells #[.int .i64 0, .int .i64 0, .int .i64 0, .int .i64 0, .string ⟨#[]⟩, .slice none 0 0] 24) := ⟨_, rfl⟩
 have F0 : Hid (Fm p w w0 s) := Lib.hid (by rw [hw0]; exact FS.out)
 have HW0 := Lib.hid hw0
 clear hs hi hr hw0 FS hE hB hO
 go_enter Tryz.func177, Tryz.ntmps177
 go_wp2_with fail
 rw [← HW0.out]
 obtain ⟨r1, hx, hr⟩ := bind_pf HR.out
 have HR := Lib.hid hr
 clear hr
 refine (ptake_any p wIf (by decide) s _ (F0.out).st r1 hx).mono ?_
 clear hx
 intro ee w1 he
 cases r1 with
 | bad kk xx =>
  obtain ⟨rfl, hf⟩ := he
  have hrr : r = .bad kk xx := HR.out
  subst hrr
  have HE := Lib.hid ((F0.out).fr.trans hf)
  clear hf
  go_wp2_with fail
  exact ⟨rfl, rfl, HE.out⟩
 | ok t1 s1 =>
  obtain ⟨rfl, hs, hf, hi, ho⟩ := he
  have F1 := Lib.hid ((F0.out).step hf hs)
  have HI1 : Hid (1 ≤ s1.i ∧ s.i < s1.i ∧ s1.o = s.o + 0) := Lib.hid (by have h1 := HI0.out; omega)
  have hr0 := HRL.out
  have hl0 := F0.out.lt
  clear hr0 hl0
  clear hs hf hi ho
  have HI1 : Hid (1 ≤ (headP s1).i ∧ s.i < (headP s1).i ∧ (headP s1).o = s.o + 0) := HI1
  have qp2 := F1.out.st.cells.2.2.1
  have fp2 := F1.out.st.unf 2
  have qp3 := F1.out.st.cells.2.2.2
  have fp3 := F1.out.st.unf 3
  have qpl := F1.out.st.rlt
  go_wp2_with fail
  clear qp2 fp2 qp3 fp3 qpl
  obtain ⟨r2, hx, hr⟩ := bind_pf HR.out
  have HR := Lib.hid hr
  clear hr
  refine (HE.out (headP s1) _ ((F1.out.store 3 _ (PSt.store (s' := (headP s1)) F1.out.st 3 _ rfl (F1.out.st.lt) (F1.out.st.op) F1.out.st.op))).st (by have h1 := HI1.out; omega) r2 hx).mono ?_
  clear hx
  intro ee w2 he
  cases r2 with
  | bad kk xx =>
   obtain ⟨rfl, hf⟩ := he
   have hrr : r = .bad kk xx := HR.out
   subst hrr
   have HE := Lib.hid (((F1.out.store 3 _ (PSt.store (s' := (headP s1)) F1.out.st 3 _ rfl (F1.out.st.lt) (F1.out.st.op) F1.out.st.op))).fr.trans hf)
   clear hf
   go_wp2_with fail
   exact ⟨rfl, rfl, HE.out⟩
  | ok n_e s2 =>
   obtain ⟨⟨v, rfl, hn⟩, hs, hf, hi, ho⟩ := he
   obtain ⟨A_e, c_e, rfl, hc, hk⟩ := hn.open
   have F2 := Lib.hid (((F1.out.store 3 _ (PSt.store (s' := (headP s1)) F1.out.st 3 _ rfl (F1.out.st.lt) (F1.out.st.op) F1.out.st.op))).step hf hs)
   have HI2 : Hid (1 ≤ s2.i ∧ s.i < s2.i ∧ s2.o = s.o + 0) := Lib.hid (by have h1 := HI1.out; omega)
   have K_e : Hid (n_e.kids.length ≤ c_e ∧ SIn w2 (fun b => w.heap.size < b) n_e.kids A_e) := Lib.hid ⟨hc, hk.wide (fun k _ h1 => Nat.lt_of_lt_of_le ((F1.out.store 3 _ (PSt.store (s' := (headP s1)) F1.out.st 3 _ rfl (F1.out.st.lt) (F1.out.st.op) F1.out.st.op))).lt h1)⟩
   have hr0 := HRL.out
   have hl0 := F1.out.lt
   clear hr0 hl0
   clear hn hc hk hs hf hi ho
   have HI2 : Hid (1 ≤ (bodyP s2).i ∧ s.i < (bodyP s2).i ∧ (bodyP s2).o = s.o + 0) := HI2
   have qp3 := F2.out.st.cells.2.2.2
   have fp3 := F2.out.st.unf 3
   have qpl := F2.out.st.rlt
   go_wp2_with fail
   clear qp3 fp3 qpl
   obtain ⟨r3, hx, hr⟩ := bind_pf HR.out
   have HR := Lib.hid hr
   clear hr
   refine (HB.out (bodyP s2) _ (((F2.out.store 3 _ (PSt.store (s' := (bodyP s2)) F2.out.st 3 _ rfl (F2.out.st.lt) (F2.out.st.op) (Nat.zero_le _))).alloc _)).st (by have h1 := HI2.out; omega) r3 hx).mono ?_
   clear hx
   intro ee w3 he
   cases r3 with
   | bad kk xx =>
    obtain ⟨rfl, hf⟩ := he
    have hrr : r = .bad kk xx := HR.out
    subst hrr
    have HE := Lib.hid ((((F2.out.store 3 _ (PSt.store (s' := (bodyP s2)) F2.out.st 3 _ rfl (F2.out.st.lt) (F2.out.st.op) (Nat.zero_le _))).alloc _)).fr.trans hf)
    clear hf
    go_wp2_with fail
    exact ⟨rfl, rfl, HE.out⟩
   | ok n_b s3 =>
    obtain ⟨⟨v, rfl, hn⟩, hs, hf, hi, ho⟩ := he
    obtain ⟨A_b, c_b, rfl, hc, hk⟩ := hn.open
    have F3 := Lib.hid ((((F2.out.store 3 _ (PSt.store (s' := (bodyP s2)) F2.out.st 3 _ rfl (F2.out.st.lt) (F2.out.st.op) (Nat.zero_le _))).alloc _)).step hf hs)
    have HI3 : Hid (1 ≤ s3.i ∧ s.i < s3.i ∧ s3.o = s.o + 0) := Lib.hid (by have h1 := HI2.out; omega)
    have K_b : Hid (n_b.kids.length ≤ c_b ∧ SIn w3 (fun b => w.heap.size < b) n_b.kids A_b) := Lib.hid ⟨hc, hk.wide (fun k _ h1 => Nat.lt_of_lt_of_le (((F2.out.store 3 _ (PSt.store (s' := (bodyP s2)) F2.out.st 3 _ rfl (F2.out.st.lt) (F2.out.st.op) (Nat.zero_le _))).alloc _)).lt h1)⟩
    have hr0 := HRL.out
    have hl0 := F2.out.lt
    have K_e : Hid (n_e.kids.length ≤ c_e ∧ SIn w3 (fun b => w.heap.size < b) n_e.kids A_e) := Lib.hid (And.intro K_e.out.1 (SIn.fr (SIn.below (SIn.fr K_e.out.2 ((PFr.refl p.R _).set (p := ⟨p.R, 3, none⟩) (.inl rfl) _) (fun hh => by have h2 : w.heap.size < p.R := hh; omega)) (alloc_below _ _)) hf (fun hh => by have h2 : w.heap.size < p.R := hh; omega)))
    have T_e := Lib.hid (hf.kept (N := w2.heap.size) (by omega) (alloc_topS w2 _ _ _ _))
    have hl_e : Hid (w.heap.size < w2.heap.size) := Lib.hid (by omega)
    have hd_e : Hid (0 = 0) := Lib.hid (by omega)
    clear hr0 hl0
    clear hn hc hk hs hf hi ho
    go_wp2_with fail
    refine (ppassed_any p wElse (by decide) s3 _ (((F3.out.alloc _).alloc _)).st).mono ?_
    rintro ee w4 ⟨rfl, hs, hf⟩
    have F4 := Lib.hid ((((F3.out.alloc _).alloc _)).step hf hs)
    have hr0 := HRL.out
    have hl0e := hl_e.out
    have hl0 := F3.out.lt
    have hs0e := (Array.getElem?_eq_some_iff.1 T_e.out).1
    have hd0e := hd_e.out
    have K_e : Hid (n_e.kids.length ≤ c_e ∧ SIn w4 (fun b => (w.heap.size < b) ∧ b ≠ w3.heap.size + 1) n_e.kids A_e) := Lib.hid (And.intro K_e.out.1 (SIn.fr (SIn.below (SIn.wide (Q := (fun b => (w.heap.size < b) ∧ b ≠ w3.heap.size + 1)) (SIn.below K_e.out.2 (alloc_below _ _)) (fun k hk h1 => And.intro h1 (by have hk2 := hk; first | omega | (simp only [World.size_alloc] at hk2; omega)))) (alloc_below _ _)) hf (fun hh => by have h2 : w.heap.size < p.R := hh.1; omega)))
    have T_e := Lib.hid (hf.kept (N := w2.heap.size) (by omega) (blk_alloc (blk_alloc T_e.out)))
    have K_b : Hid (n_b.kids.length ≤ c_b ∧ SIn w4 (fun b => (w.heap.size < b) ∧ b ≠ w3.heap.size + 1) n_b.kids A_b) := Lib.hid (And.intro K_b.out.1 (SIn.fr (SIn.below (SIn.wide (Q := (fun b => (w.heap.size < b) ∧ b ≠ w3.heap.size + 1)) (SIn.below K_b.out.2 (alloc_below _ _)) (fun k hk h1 => And.intro h1 (by have hk2 := hk; first | omega | (simp only [World.size_alloc] at hk2; omega)))) (alloc_below _ _)) hf (fun hh => by have h2 : w.heap.size < p.R := hh.1; omega)))
    have T_b := Lib.hid (hf.kept (N := w3.heap.size) (by omega) (blk_alloc (alloc_top w3 _ _)))
    have hl_b : Hid (w.heap.size < w3.heap.size) := Lib.hid (by omega)
    have hd_b : Hid (w2.heap.size < w3.heap.size) := Lib.hid (by omega)
    have T_o := Lib.hid (hf.kept (N := w3.heap.size + 1) (by omega) (alloc_top2 w3 _ _ _))
    have hl_o : Hid (w.heap.size < w3.heap.size + 1) := Lib.hid (by omega)
    have hd_o : Hid (w2.heap.size < w3.heap.size + 1) := Lib.hid (by omega)
    clear hr0 hl0 hd0e hs0e hl0e
    clear hs hf
    obtain ⟨b, hc⟩ : ∃ b, atB p.ts s3 wElse = b := ⟨_, rfl⟩
    have hr := HR.out
    try rw [hc]
    cases b with
    | true =>
     have F4 : Hid (Fm p w w4 (adv s3)) := Lib.hid (by have h3 := F4.out; unfold psd at h3; rw [if_pos hc] at h3; exact h3)
     have HI4 : Hid (1 ≤ (adv s3).i ∧ s.i < (adv s3).i ∧ (adv s3).o = s.o + 0) := Lib.hid (by have h1 := HI3.out; unfold adv; simp only; omega)
     simp only [hc, optP, if_true] at hr
     have HR := Lib.hid hr
     clear hr hc
     go_wp2_with fail
     obtain ⟨r4, hx, hr⟩ := bind_pf HR.out
     have HR := Lib.hid hr
     clear hr
     refine (HO.out (adv s3) _ (F4.out).st (by have h1 := HI4.out; omega) r4 hx).mono ?_
     clear hx
     intro ee w5 he
     cases r4 with
     | bad kk xx =>
      obtain ⟨rfl, hf⟩ := he
      have hrr : r = .bad kk xx := HR.out
      subst hrr
      have HE := Lib.hid ((F4.out).fr.trans hf)
      clear hf
      go_wp2_with fail
      exact ⟨rfl, rfl, HE.out⟩
     | ok n_o s5 =>
      obtain ⟨⟨v, rfl, hn⟩, hs, hf, hi, ho⟩ := he
      obtain ⟨A_o, c_o, rfl, hc, hk⟩ := hn.open
      have F5 := Lib.hid ((F4.out).step hf hs)
      have HI5 : Hid (1 ≤ s5.i ∧ s.i < s5.i ∧ s5.o = s.o + 0) := Lib.hid (by have h1 := HI4.out; omega)
      have K_o : Hid (n_o.kids.length ≤ c_o ∧ SIn w5 (fun b => (w.heap.size < b) ∧ b ≠ w3.heap.size + 1) n_o.kids A_o) := Lib.hid ⟨hc, hk.wide (fun k _ h1 => ⟨Nat.lt_of_lt_of_le (F4.out).lt h1, Nat.ne_of_gt (Nat.lt_of_lt_of_le (Array.getElem?_eq_some_iff.1 T_o.out).1 h1)⟩)⟩
      have hr0 := HRL.out
      have hl0e := hl_e.out
      have hl0b := hl_b.out
      have hl0o := hl_o.out
      have hl0 := F4.out.lt
      have hs0e := (Array.getElem?_eq_some_iff.1 T_e.out).1
      have hs0b := (Array.getElem?_eq_some_iff.1 T_b.out).1
      have hs0o := (Array.getElem?_eq_some_iff.1 T_o.out).1
      have hd0e := hd_e.out
      have hd0b := hd_b.out
      have hd0o := hd_o.out
      have K_e : Hid (n_e.kids.length ≤ c_e ∧ SIn w5 (fun b => (w.heap.size < b) ∧ b ≠ w3.heap.size + 1) n_e.kids A_e) := Lib.hid (And.intro K_e.out.1 (SIn.fr K_e.out.2 hf (fun hh => by have h2 : w.heap.size < p.R := hh.1; omega)))
      have T_e := Lib.hid (hf.kept (N := w2.heap.size) (by omega) T_e.out)
      have K_b : Hid (n_b.kids.length ≤ c_b ∧ SIn w5 (fun b => (w.heap.size < b) ∧ b ≠ w3.heap.size + 1) n_b.kids A_b) := Lib.hid (And.intro K_b.out.1 (SIn.fr K_b.out.2 hf (fun hh => by have h2 : w.heap.size < p.R := hh.1; omega)))
      have T_b := Lib.hid (hf.kept (N := w3.heap.size) (by omega) T_b.out)
      have T_o := Lib.hid (hf.kept (N := w3.heap.size + 1) (by omega) T_o.out)
      clear hr0 hl0 hd0e hd0b hd0o hs0e hs0b hs0o hl0e hl0b hl0o
      clear hn hc hk hs hf hi ho
      obtain ⟨qe0, qe1, qe2, qe3, qe4, qe5⟩ := six_cells T_e.out
      have qel := (Array.getElem?_eq_some_iff.1 T_e.out).1
      obtain ⟨qb0, qb1, qb2, qb3, qb4, qb5⟩ := six_cells T_b.out
      have qbl := (Array.getElem?_eq_some_iff.1 T_b.out).1
      obtain ⟨qo0, qo1, qo2, qo3, qo4, qo5⟩ := six_cells T_o.out
      have qol := (Array.getElem?_eq_some_iff.1 T_o.out).1
      have fo0 := frozen_of_row _ (w3.heap.size + 1) 0 _ _ T_o.out
      have fo1 := frozen_of_row _ (w3.heap.size + 1) 1 _ _ T_o.out
      have fo2 := frozen_of_row _ (w3.heap.size + 1) 2 _ _ T_o.out
      have fo3 := frozen_of_row _ (w3.heap.size + 1) 3 _ _ T_o.out
      have fo4 := frozen_of_row _ (w3.heap.size + 1) 4 _ _ T_o.out
      have fo5 := frozen_of_row _ (w3.heap.size + 1) 5 _ _ T_o.out
      have naoe : ¬ (w3.heap.size + 1 = w2.heap.size) := by have hxo := hd_o.out; have hxe := hd_e.out; omega
      have nboe : ¬ (w2.heap.size = w3.heap.size + 1) := by omega
      go_wp2_with fail
      clear qe0 qe1 qe2 qe3 qe4 qe5 qel qb0 qb1 qb2 qb3 qb4 qb5 qbl qo0 qo1 qo2 qo3 qo4 qo5 qol fo0 fo1 fo2 fo3 fo4 fo5 naoe nboe
      refine (pmade_any p s5 _ (((F5.out.set6 (N := w3.heap.size + 1) hl_o.out _ _ _ _ _ _).alloc _)).st (by have h1 := HI5.out; omega) _ _ _ _ _ _ _).mono ?_
      rintro ee w6 ⟨rfl, hb⟩
      have F6 := Lib.hid ((((F5.out.set6 (N := w3.heap.size + 1) hl_o.out _ _ _ _ _ _).alloc _)).below hb)
      have HI6 := HI5
      have hrow := blk_below (alloc_top _ _ _) hb
      simp only [World.size_setCell] at hrow
      have HROW := Lib.hid hrow
      clear hrow
      have hm_o := (Array.getElem?_eq_some_iff.1 T_o.out).1
      have hr0 := HRL.out
      have hl0e := hl_e.out
      have hl0b := hl_b.out
      have hl0o := hl_o.out
      have hl0 := F5.out.lt
      have hs0e := (Array.getElem?_eq_some_iff.1 T_e.out).1
      have hs0b := (Array.getElem?_eq_some_iff.1 T_b.out).1
      have hs0o := (Array.getElem?_eq_some_iff.1 T_o.out).1
      have hd0e := hd_e.out
      have hd0b := hd_b.out
      have hd0o := hd_o.out
      have K_e : Hid (n_e.kids.length ≤ c_e ∧ SIn w6 (fun b => (w.heap.size < b) ∧ b ≠ w3.heap.size + 1) n_e.kids A_e) := Lib.hid (And.intro K_e.out.1 (SIn.fr (SIn.below (SIn.keep (Q := (fun b => (w.heap.size < b) ∧ b ≠ w3.heap.size + 1)) (fun k hk _ => six_otherP (R := w3.heap.size + 1) hk.2 ..) (fun _ hk _ => hk) K_e.out.2) (alloc_below _ _)) (PFr.of_below (R := p.R) hb) (fun hh => by have h2 : w.heap.size < p.R := hh.1; omega)))
      have T_e := Lib.hid ((PFr.of_below (R := p.R) hb).kept (N := w2.heap.size) (by omega) (blk_alloc (blk_set6 (R := w3.heap.size + 1) T_e.out (by omega) _ _ _ _ _ _)))
      have K_b : Hid (n_b.kids.length ≤ c_b ∧ SIn w6 (fun b => (w.heap.size < b) ∧ b ≠ w3.heap.size + 1) n_b.kids A_b) := Lib.hid (And.intro K_b.out.1 (SIn.fr (SIn.below (SIn.keep (Q := (fun b => (w.heap.size < b) ∧ b ≠ w3.heap.size + 1)) (fun k hk _ => six_otherP (R := w3.heap.size + 1) hk.2 ..) (fun _ hk _ => hk) K_b.out.2) (alloc_below _ _)) (PFr.of_below (R := p.R) hb) (fun hh => by have h2 : w.heap.size < p.R := hh.1; omega)))
      have T_b := Lib.hid ((PFr.of_below (R := p.R) hb).kept (N := w3.heap.size) (by omega) (blk_alloc (blk_set6 (R := w3.heap.size + 1) T_b.out (by omega) _ _ _ _ _ _)))
      have K_o : Hid (n_o.kids.length ≤ c_o ∧ SIn w6 (fun b => (w.heap.size < b) ∧ b ≠ w3.heap.size + 1) n_o.kids A_o) := Lib.hid (And.intro K_o.out.1 (SIn.fr (SIn.below (SIn.keep (Q := (fun b => (w.heap.size < b) ∧ b ≠ w3.heap.size + 1)) (fun k hk _ => six_otherP (R := w3.heap.size + 1) hk.2 ..) (fun _ hk _ => hk) K_o.out.2) (alloc_below _ _)) (PFr.of_below (R := p.R) hb) (fun hh => by have h2 : w.heap.size < p.R := hh.1; omega)))
      have T_o := Lib.hid ((PFr.of_below (R := p.R) hb).kept (N := w3.heap.size + 1) (by omega) (blk_alloc (six_heap T_o.out)))
      clear hr0 hl0 hd0e hd0b hd0o hs0e hs0b hs0o hl0e hl0b hl0o
      clear hb
      have hz := F6.out.lt
      have hzp := F5.out.lt
      have h1 := HI6.out
      have HSS := Lib.hid (sin3 (P := (fun b => (w.heap.size < b) ∧ b ≠ w3.heap.size + 1)) HROW.out (⟨by omega, by omega⟩) K_e.out.1 K_e.out.2 K_b.out.1 K_b.out.2 K_o.out.1 K_o.out.2)
      clear hz hzp h1 hm_o
      have hrr := (Option.some.inj HR.out).symm
      subst hrr
      obtain ⟨z0, z1, z2, z3, z4, z5, hres⟩ := F6.out.res
      obtain ⟨y0, y1, y2, y3, y4, y5⟩ := six_cells hres
      have x0 := frozen_of_row _ w.heap.size 0 _ _ hres
      have x1 := frozen_of_row _ w.heap.size 1 _ _ hres
      have x2 := frozen_of_row _ w.heap.size 2 _ _ hres
      have x3 := frozen_of_row _ w.heap.size 3 _ _ hres
      have x4 := frozen_of_row _ w.heap.size 4 _ _ hres
      have x5 := frozen_of_row _ w.heap.size 5 _ _ hres
      have HRES := Lib.hid hres
      clear hres
      go_wp2_with fail
      have h1 := HI6.out
      exact ret_cell1A (p := 2) rfl _ rfl _ (load_nd (six_heap HRES.out)) (F6.out.done (HSS.out.wide (fun _ _ hk => hk.1)) (Nat.le_refl _) (by omega) (by omega) _ _ _ _ _ _ rfl)
    | false =>
     have F4 : Hid (Fm p w w4 s3) := Lib.hid (by have h3 := F4.out; unfold psd at h3; rw [if_neg (by rw [hc]; decide)] at h3; exact h3)
     have HI4 := HI3
     simp only [hc, optP, if_false, Bool.false_eq_true] at hr
     have HR := Lib.hid hr
     clear hr hc
     have HR := Lib.hid (bind_ok HR.out)
     obtain ⟨A_o, hA⟩ : ∃ A : Option Addr, A = none := ⟨_, rfl⟩
     obtain ⟨c_o, hcc⟩ : ∃ c : Nat, c = 0 := ⟨_, rfl⟩
     have T_o : Hid (w4.heap[w3.heap.size + 1]? = some (.cells (cNd noN A_o c_o) 24 (0, 0))) := Lib.hid (by rw [hA, hcc]; exact T_o.out)
     have K_o : Hid (noN.kids.length ≤ c_o ∧ SIn w4 (fun b => (w.heap.size < b) ∧ b ≠ w3.heap.size + 1) noN.kids A_o) := Lib.hid ⟨Nat.zero_le _, by rw [hA]; exact sin0⟩
     clear hA hcc
     obtain ⟨qe0, qe1, qe2, qe3, qe4, qe5⟩ := six_cells T_e.out
     have qel := (Array.getElem?_eq_some_iff.1 T_e.out).1
     obtain ⟨qb0, qb1, qb2, qb3, qb4, qb5⟩ := six_cells T_b.out
     have qbl := (Array.getElem?_eq_some_iff.1 T_b.out).1
     obtain ⟨qo0, qo1, qo2, qo3, qo4, qo5⟩ := six_cells T_o.out
     have qol := (Array.getElem?_eq_some_iff.1 T_o.out).1
     go_wp2_with fail
     clear qe0 qe1 qe2 qe3 qe4 qe5 qel qb0 qb1 qb2 qb3 qb4 qb5 qbl qo0 qo1 qo2 qo3 qo4 qo5 qol
     refine (pmade_any p s3 _ ((F4.out.alloc _)).st (by have h1 := HI4.out; omega) _ _ _ _ _ _ _).mono ?_
     rintro ee w5 ⟨rfl, hb⟩
     have F5 := Lib.hid (((F4.out.alloc _)).below hb)
     have HI5 := HI4
     have hrow := blk_below (alloc_top w4 _ _) hb
     have HROW := Lib.hid hrow
     clear hrow
     have hm_o := (Array.getElem?_eq_some_iff.1 T_o.out).1
     have hr0 := HRL.out
     have hl0e := hl_e.out
     have hl0b := hl_b.out
     have hl0o := hl_o.out
     have hl0 := F4.out.lt
     have hs0e := (Array.getElem?_eq_some_iff.1 T_e.out).1
     have hs0b := (Array.getElem?_eq_some_iff.1 T_b.out).1
     have hs0o := (Array.getElem?_eq_some_iff.1 T_o.out).1
     have hd0e := hd_e.out
     have hd0b := hd_b.out
     have hd0o := hd_o.out
     have K_e : Hid (n_e.kids.length ≤ c_e ∧ SIn w5 (fun b => (w.heap.size < b) ∧ b ≠ w3.heap.size + 1) n_e.kids A_e) := Lib.hid (And.intro K_e.out.1 (SIn.fr (SIn.below K_e.out.2 (alloc_below _ _)) (PFr.of_below (R := p.R) hb) (fun hh => by have h2 : w.heap.size < p.R := hh.1; omega)))
     have T_e := Lib.hid ((PFr.of_below (R := p.R) hb).kept (N := w2.heap.size) (by omega) (blk_alloc T_e.out))
     have K_b : Hid (n_b.kids.length ≤ c_b ∧ SIn w5 (fun b => (w.heap.size < b) ∧ b ≠ w3.heap.size + 1) n_b.kids A_b) := Lib.hid (And.intro K_b.out.1 (SIn.fr (SIn.below K_b.out.2 (alloc_below _ _)) (PFr.of_below (R := p.R) hb) (fun hh => by have h2 : w.heap.size < p.R := hh.1; omega)))
     have T_b := Lib.hid ((PFr.of_below (R := p.R) hb).kept (N := w3.heap.size) (by omega) (blk_alloc T_b.out))
     have K_o : Hid (noN.kids.length ≤ c_o ∧ SIn w5 (fun b => (w.heap.size < b) ∧ b ≠ w3.heap.size + 1) noN.kids A_o) := Lib.hid (And.intro K_o.out.1 (SIn.fr (SIn.below K_o.out.2 (alloc_below _ _)) (PFr.of_below (R := p.R) hb) (fun hh => by have h2 : w.heap.size < p.R := hh.1; omega)))
     have T_o := Lib.hid ((PFr.of_below (R := p.R) hb).kept (N := w3.heap.size + 1) (by omega) (blk_alloc T_o.out))
     clear hr0 hl0 hd0e hd0b hd0o hs0e hs0b hs0o hl0e hl0b hl0o
     clear hb
     have hz := F5.out.lt
     have hzp := F4.out.lt
     have h1 := HI5.out
     have HSS := Lib.hid (sin3 (P := (fun b => (w.heap.size < b) ∧ b ≠ w3.heap.size + 1)) HROW.out (⟨by omega, by omega⟩) K_e.out.1 K_e.out.2 K_b.out.1 K_b.out.2 K_o.out.1 K_o.out.2)
     clear hz hzp h1 hm_o
     have hrr := (Option.some.inj HR.out).symm
     subst hrr
     obtain ⟨z0, z1, z2, z3, z4, z5, hres⟩ := F5.out.res
     obtain ⟨y0, y1, y2, y3, y4, y5⟩ := six_cells hres
     have x0 := frozen_of_row _ w.heap.size 0 _ _ hres
     have x1 := frozen_of_row _ w.heap.size 1 _ _ hres
     have x2 := frozen_of_row _ w.heap.size 2 _ _ hres
     have x3 := frozen_of_row _ w.heap.size 3 _ _ hres
     have x4 := frozen_of_row _ w.heap.size 4 _ _ hres
     have x5 := frozen_of_row _ w.heap.size 5 _ _ hres
     have HRES := Lib.hid hres
     clear hres
     go_wp2_with fail
     have h1 := HI5.out
     exact ret_cell1A (p := 2) rfl _ rfl _ (load_nd (six_heap HRES.out)) (F5.out.done (HSS.out.wide (fun _ _ hk => hk.1)) (Nat.le_refl _) (by omega) (by omega) _ _ _ _ _ _ rfl)
end Go.Proofs.YthaaolajbmafgaaGreatDoor
