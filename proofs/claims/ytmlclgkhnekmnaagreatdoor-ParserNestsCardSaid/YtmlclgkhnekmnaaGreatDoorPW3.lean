/- The parser's types, unary, block, params, structType, decl, other. (Written by a program.) -/
import Derived.Test.YtmlclgkhnekmnaaGreatDoorPW1
namespace Go.Proofs.YtmlclgkhnekmnaaGreatDoor
open Go.RowKit
set_option maxRecDepth 100000 in
set_option maxHeartbeats 4000000 in
theorem ptyp_any (p : PC) (hO : RdC p 143 #[.pointer (some ⟨p.R, 0, none⟩)] (ownTypeP p.ts)) : RdC p 118 #[.pointer (some ⟨p.R, 0, none⟩)] (typP p.ts) := by
 intro s w hs hi r hr
 unfold typP at hr
 have HR := Lib.hid hr
 have HI0 : Hid (1 ≤ s.i ∧ s.i ≤ s.i ∧ s.o = s.o) := Lib.hid ⟨hi, Nat.le_refl _, rfl⟩
 have HO := Lib.hid hO
 have tf0 := tk_f0
 have tf1 := tk_f1
 have tf2 := tk_f2
 have HRL := Lib.hid (And.intro hs.rlt hs.glt)
 have FS := Lib.hid (Fm.start hs (.int .i64 0) (.int .i64 0) (.int .i64 0) (.int .i64 0) (.string ⟨#[]⟩) (.slice none 0 0))
 obtain ⟨w0, hw0⟩ : ∃ W, W = w.alloc (.cells #[.int .i64 0, .int .i64 0, .int .i64 0, .int .i64 0, .string ⟨#[]⟩, .slice none 0 0] 24) := ⟨_, rfl⟩
 have F0 : Hid (Fm p w w0 s) := Lib.hid (by rw [hw0]; exact FS.out)
 have HW0 := Lib.hid hw0
 clear hs hi hr hw0 FS hO
 go_enter Tryz.func118, Tryz.ntmps118
 go_wp2_with fail
 rw [← HW0.out]
 refine (ptoken_any p s _ (F0.out).st).mono ?_
 rintro ee w1 ⟨rfl, hb⟩
 have F1 := Lib.hid ((F0.out).below hb)
 have HI1 := HI0
 have hr0 := HRL.out
 have hl0 := F0.out.lt
 clear hr0 hl0
 clear hb
 obtain ⟨b, hc⟩ : ∃ b, atB p.ts s wInt = b := ⟨_, rfl⟩
 have hq1 : ((txt (tk p.ts s).2.1).toList == [105, 110, 116]) = b := by rw [← hc]; exact tx_at p.ts s wInt
 have hr := HR.out
 cases b with
 | true =>
  simp only [hc, if_true, Bool.true_or] at hr
  have HR := Lib.hid hr
  have HC1 := Lib.hid hc
  clear hr hc
  go_wp2_with fail
  have HR := Lib.hid (bind_next HR.out)
  refine (pnext_any p s _ ((F1.out.alloc _)).st (F1.out.st.more_at (m := wInt) (by decide) HC1.out)).mono ?_
  rintro ee w2 ⟨rfl, hs, hf, -, -⟩
  have F2 := Lib.hid (((F1.out.alloc _)).step hf hs)
  have HI2 : Hid (1 ≤ (adv s).i ∧ s.i < (adv s).i ∧ (adv s).o = s.o + 0) := Lib.hid (by have h1 := HI1.out; unfold adv; simp only; omega)
  have hr0 := HRL.out
  have hl0 := F1.out.lt
  have T_t := Lib.hid (hf.kept (N := w1.heap.size) (by omega) (alloc_top w1 _ _))
  have hl_t : Hid (w.heap.size < w1.heap.size) := Lib.hid (by omega)
  have hd_t : Hid (0 = 0) := Lib.hid (by omega)
  clear hr0 hl0
  clear hs hf
  obtain ⟨qt0, qt1, qt2, qt3⟩ := tk4 T_t.out
  have qtl := (Array.getElem?_eq_some_iff.1 T_t.out).1
  go_wp2_with fail
  clear qt0 qt1 qt2 qt3 qtl
  refine (pmade_any p (adv s) _ (F2.out).st (by have h1 := HI2.out; omega) _ _ _ _ _ _ _).mono ?_
  rintro ee w3 ⟨rfl, hb⟩
  have F3 := Lib.hid ((F2.out).below hb)
  have HI3 := HI2
  have hr0 := HRL.out
  have hl0t := hl_t.out
  have hl0 := F2.out.lt
  have hs0t := (Array.getElem?_eq_some_iff.1 T_t.out).1
  have hd0t := hd_t.out
  have T_t := Lib.hid ((PFr.of_below (R := p.R) hb).kept (N := w1.heap.size) (by omega) T_t.out)
  clear hr0 hl0 hd0t hs0t hl0t
  clear hb
  have hz := F3.out.lt
  have hzp := F2.out.lt
  have h1 := HI3.out
  have HSS := Lib.hid (sin0 (W := w3) (P := (fun b => w.heap.size < b)))
  clear hz hzp h1
  have hrr := (Option.some.inj HR.out).symm
  subst hrr
  obtain ⟨z0, z1, z2, z3, z4, z5, hres⟩ := F3.out.res
  obtain ⟨y0, y1, y2, y3, y4, y5⟩ := six_cells hres
  have x0 := frozen_of_row _ w.heap.size 0 _ _ hres
  have x1 := frozen_of_row _ w.heap.size 1 _ _ hres
  have x2 := frozen_of_row _ w.heap.size 2 _ _ hres
  have x3 := frozen_of_row _ w.heap.size 3 _ _ hres
  have x4 := frozen_of_row _ w.heap.size 4 _ _ hres
  have x5 := frozen_of_row _ w.heap.size 5 _ _ hres
  have HRES := Lib.hid hres
  clear hres
  go_wp2_with fail
  have h1 := HI3.out
  exact ret_cell1A (p := 2) rfl _ rfl _ (load_nd (six_heap HRES.out)) (F3.out.done (HSS.out.wide (fun _ _ hk => hk)) (Nat.le_refl _) (by omega) (by omega) _ _ _ _ _ _ rfl)
 | false =>
  simp only [hc, Bool.false_or] at hr
  have HR := Lib.hid hr
  have HC1 := Lib.hid hc
  clear hr hc
  obtain ⟨b, hc⟩ : ∃ b, atB p.ts s wBool = b := ⟨_, rfl⟩
  have hq2 : ((txt (tk p.ts s).2.1).toList == [98, 111, 111, 108]) = b := by rw [← hc]; exact tx_at p.ts s wBool
  have hr := HR.out
  cases b with
  | true =>
   simp only [hc, if_true, Bool.true_or] at hr
   have HR := Lib.hid hr
   have HC1 := Lib.hid hc
   clear hr hc
   go_wp2_with fail
   have HR := Lib.hid (bind_next HR.out)
   refine (pnext_any p s _ ((F1.out.alloc _)).st (F1.out.st.more_at (m := wBool) (by decide) HC1.out)).mono ?_
   rintro ee w2 ⟨rfl, hs, hf, -, -⟩
   have F2 := Lib.hid (((F1.out.alloc _)).step hf hs)
   have HI2 : Hid (1 ≤ (adv s).i ∧ s.i < (adv s).i ∧ (adv s).o = s.o + 0) := Lib.hid (by have h1 := HI1.out; unfold adv; simp only; omega)
   have hr0 := HRL.out
   have hl0 := F1.out.lt
   have T_t := Lib.hid (hf.kept (N := w1.heap.size) (by omega) (alloc_top w1 _ _))
   have hl_t : Hid (w.heap.size < w1.heap.size) := Lib.hid (by omega)
   have hd_t : Hid (0 = 0) := Lib.hid (by omega)
   clear hr0 hl0
   clear hs hf
   obtain ⟨qt0, qt1, qt2, qt3⟩ := tk4 T_t.out
   have qtl := (Array.getElem?_eq_some_iff.1 T_t.out).1
   go_wp2_with fail
   clear qt0 qt1 qt2 qt3 qtl
   refine (pmade_any p (adv s) _ (F2.out).st (by have h1 := HI2.out; omega) _ _ _ _ _ _ _).mono ?_
   rintro ee w3 ⟨rfl, hb⟩
   have F3 := Lib.hid ((F2.out).below hb)
   have HI3 := HI2
   have hr0 := HRL.out
   have hl0t := hl_t.out
   have hl0 := F2.out.lt
   have hs0t := (Array.getElem?_eq_some_iff.1 T_t.out).1
   have hd0t := hd_t.out
   have T_t := Lib.hid ((PFr.of_below (R := p.R) hb).kept (N := w1.heap.size) (by omega) T_t.out)
   clear hr0 hl0 hd0t hs0t hl0t
   clear hb
   have hz := F3.out.lt
   have hzp := F2.out.lt
   have h1 := HI3.out
   have HSS := Lib.hid (sin0 (W := w3) (P := (fun b => w.heap.size < b)))
   clear hz hzp h1
   have hrr := (Option.some.inj HR.out).symm
   subst hrr
   obtain ⟨z0, z1, z2, z3, z4, z5, hres⟩ := F3.out.res
   obtain ⟨y0, y1, y2, y3, y4, y5⟩ := six_cells hres
   have x0 := frozen_of_row _ w.heap.size 0 _ _ hres
   have x1 := frozen_of_row _ w.heap.size 1 _ _ hres
   have x2 := frozen_of_row _ w.heap.size 2 _ _ hres
   have x3 := frozen_of_row _ w.heap.size 3 _ _ hres
   have x4 := frozen_of_row _ w.heap.size 4 _ _ hres
   have x5 := frozen_of_row _ w.heap.size 5 _ _ hres
   have HRES := Lib.hid hres
   clear hres
   go_wp2_with fail
   have h1 := HI3.out
   exact ret_cell1A (p := 2) rfl _ rfl _ (load_nd (six_heap HRES.out)) (F3.out.done (HSS.out.wide (fun _ _ hk => hk)) (Nat.le_refl _) (by omega) (by omega) _ _ _ _ _ _ rfl)
  | false =>
   simp only [hc, Bool.false_or] at hr
   have HR := Lib.hid hr
   have HC1 := Lib.hid hc
   clear hr hc
   obtain ⟨b, hc⟩ : ∃ b, atB p.ts s wString = b := ⟨_, rfl⟩
   have hq3 : ((txt (tk p.ts s).2.1).toList == [115, 116, 114, 105, 110, 103]) = b := by rw [← hc]; exact tx_at p.ts s wString
   have hr := HR.out
   cases b with
   | true =>
    simp only [hc, if_true, Bool.true_or] at hr
    have HR := Lib.hid hr
    have HC1 := Lib.hid hc
    clear hr hc
    go_wp2_with fail
    have HR := Lib.hid (bind_next HR.out)
    refine (pnext_any p s _ ((F1.out.alloc _)).st (F1.out.st.more_at (m := wString) (by decide) HC1.out)).mono ?_
    rintro ee w2 ⟨rfl, hs, hf, -, -⟩
    have F2 := Lib.hid (((F1.out.alloc _)).step hf hs)
    have HI2 : Hid (1 ≤ (adv s).i ∧ s.i < (adv s).i ∧ (adv s).o = s.o + 0) := Lib.hid (by have h1 := HI1.out; unfold adv; simp only; omega)
    have hr0 := HRL.out
    have hl0 := F1.out.lt
    have T_t := Lib.hid (hf.kept (N := w1.heap.size) (by omega) (alloc_top w1 _ _))
    have hl_t : Hid (w.heap.size < w1.heap.size) := Lib.hid (by omega)
    have hd_t : Hid (0 = 0) := Lib.hid (by omega)
    clear hr0 hl0
    clear hs hf
    obtain ⟨qt0, qt1, qt2, qt3⟩ := tk4 T_t.out
    have qtl := (Array.getElem?_eq_some_iff.1 T_t.out).1
    go_wp2_with fail
    clear qt0 qt1 qt2 qt3 qtl
    refine (pmade_any p (adv s) _ (F2.out).st (by have h1 := HI2.out; omega) _ _ _ _ _ _ _).mono ?_
    rintro ee w3 ⟨rfl, hb⟩
    have F3 := Lib.hid ((F2.out).below hb)
    have HI3 := HI2
    have hr0 := HRL.out
    have hl0t := hl_t.out
    have hl0 := F2.out.lt
    have hs0t := (Array.getElem?_eq_some_iff.1 T_t.out).1
    have hd0t := hd_t.out
    have T_t := Lib.hid ((PFr.of_below (R := p.R) hb).kept (N := w1.heap.size) (by omega) T_t.out)
    clear hr0 hl0 hd0t hs0t hl0t
    clear hb
    have hz := F3.out.lt
    have hzp := F2.out.lt
    have h1 := HI3.out
    have HSS := Lib.hid (sin0 (W := w3) (P := (fun b => w.heap.size < b)))
    clear hz hzp h1
    have hrr := (Option.some.inj HR.out).symm
    subst hrr
    obtain ⟨z0, z1, z2, z3, z4, z5, hres⟩ := F3.out.res
    obtain ⟨y0, y1, y2, y3, y4, y5⟩ := six_cells hres
    have x0 := frozen_of_row _ w.heap.size 0 _ _ hres
    have x1 := frozen_of_row _ w.heap.size 1 _ _ hres
    have x2 := frozen_of_row _ w.heap.size 2 _ _ hres
    have x3 := frozen_of_row _ w.heap.size 3 _ _ hres
    have x4 := frozen_of_row _ w.heap.size 4 _ _ hres
    have x5 := frozen_of_row _ w.heap.size 5 _ _ hres
    have HRES := Lib.hid hres
    clear hres
    go_wp2_with fail
    have h1 := HI3.out
    exact ret_cell1A (p := 2) rfl _ rfl _ (load_nd (six_heap HRES.out)) (F3.out.done (HSS.out.wide (fun _ _ hk => hk)) (Nat.le_refl _) (by omega) (by omega) _ _ _ _ _ _ rfl)
   | false =>
    simp only [hc, Bool.false_or] at hr
    have HR := Lib.hid hr
    have HC1 := Lib.hid hc
    clear hr hc
    obtain ⟨b, hc⟩ : ∃ b, atB p.ts s wFloat = b := ⟨_, rfl⟩
    have hq4 : ((txt (tk p.ts s).2.1).toList == [102, 108, 111, 97, 116, 54, 52]) = b := by rw [← hc]; exact tx_at p.ts s wFloat
    have hr := HR.out
    cases b with
    | true =>
     simp only [hc, if_true] at hr
     have HR := Lib.hid hr
     have HC1 := Lib.hid hc
     clear hr hc
     go_wp2_with fail
     have HR := Lib.hid (bind_next HR.out)
     refine (pnext_any p s _ ((F1.out.alloc _)).st (F1.out.st.more_at (m := wFloat) (by decide) HC1.out)).mono ?_
     rintro ee w2 ⟨rfl, hs, hf, -, -⟩
     have F2 := Lib.hid (((F1.out.alloc _)).step hf hs)
     have HI2 : Hid (1 ≤ (adv s).i ∧ s.i < (adv s).i ∧ (adv s).o = s.o + 0) := Lib.hid (by have h1 := HI1.out; unfold adv; simp only; omega)
     have hr0 := HRL.out
     have hl0 := F1.out.lt
     have T_t := Lib.hid (hf.kept (N := w1.heap.size) (by omega) (alloc_top w1 _ _))
     have hl_t : Hid (w.heap.size < w1.heap.size) := Lib.hid (by omega)
     have hd_t : Hid (0 = 0) := Lib.hid (by omega)
     clear hr0 hl0
     clear hs hf
     obtain ⟨qt0, qt1, qt2, qt3⟩ := tk4 T_t.out
     have qtl := (Array.getElem?_eq_some_iff.1 T_t.out).1
     go_wp2_with fail
     clear qt0 qt1 qt2 qt3 qtl
     refine (pmade_any p (adv s) _ (F2.out).st (by have h1 := HI2.out; omega) _ _ _ _ _ _ _).mono ?_
     rintro ee w3 ⟨rfl, hb⟩
     have F3 := Lib.hid ((F2.out).below hb)
     have HI3 := HI2
     have hr0 := HRL.out
     have hl0t := hl_t.out
     have hl0 := F2.out.lt
     have hs0t := (Array.getElem?_eq_some_iff.1 T_t.out).1
     have hd0t := hd_t.out
     have T_t := Lib.hid ((PFr.of_below (R := p.R) hb).kept (N := w1.heap.size) (by omega) T_t.out)
     clear hr0 hl0 hd0t hs0t hl0t
     clear hb
     have hz := F3.out.lt
     have hzp := F2.out.lt
     have h1 := HI3.out
     have HSS := Lib.hid (sin0 (W := w3) (P := (fun b => w.heap.size < b)))
     clear hz hzp h1
     have hrr := (Option.some.inj HR.out).symm
     subst hrr
     obtain ⟨z0, z1, z2, z3, z4, z5, hres⟩ := F3.out.res
     obtain ⟨y0, y1, y2, y3, y4, y5⟩ := six_cells hres
     have x0 := frozen_of_row _ w.heap.size 0 _ _ hres
     have x1 := frozen_of_row _ w.heap.size 1 _ _ hres
     have x2 := frozen_of_row _ w.heap.size 2 _ _ hres
     have x3 := frozen_of_row _ w.heap.size 3 _ _ hres
     have x4 := frozen_of_row _ w.heap.size 4 _ _ hres
     have x5 := frozen_of_row _ w.heap.size 5 _ _ hres
     have HRES := Lib.hid hres
     clear hres
     go_wp2_with fail
     have h1 := HI3.out
     exact ret_cell1A (p := 2) rfl _ rfl _ (load_nd (six_heap HRES.out)) (F3.out.done (HSS.out.wide (fun _ _ hk => hk)) (Nat.le_refl _) (by omega) (by omega) _ _ _ _ _ _ rfl)
    | false =>
     simp only [hc, if_false, Bool.false_eq_true] at hr
     have HR := Lib.hid hr
     have HC1 := Lib.hid hc
     clear hr hc
     go_wp2_with fail
     obtain ⟨r1, hx, hr⟩ := bind_pf HR.out
     have HR := Lib.hid hr
     clear hr
     refine (HO.out s _ ((F1.out.alloc _)).st (by have h1 := HI1.out; omega) r1 hx).mono ?_
     clear hx
     intro ee w2 he
     cases r1 with
     | bad kk xx =>
      obtain ⟨rfl, hf⟩ := he
      have hrr : r = .bad kk xx := HR.out
      subst hrr
      have HE := Lib.hid (((F1.out.alloc _)).fr.trans hf)
      clear hf
      go_wp2_with fail
      exact ⟨rfl, rfl, HE.out⟩
     | ok n_y s2 =>
      obtain ⟨⟨v, rfl, hn⟩, hs, hf, hi, ho⟩ := he
      obtain ⟨A_y, c_y, rfl, hc, hk⟩ := hn.open
      have F2 := Lib.hid (((F1.out.alloc _)).step hf hs)
      have HI2 : Hid (1 ≤ s2.i ∧ s.i < s2.i ∧ s2.o = s.o + 0) := Lib.hid (by have h1 := HI1.out; omega)
      have K_y : Hid (n_y.kids.length ≤ c_y ∧ SIn w2 (fun b => w.heap.size < b) n_y.kids A_y) := Lib.hid ⟨hc, hk.wide (fun k _ h1 => Nat.lt_of_lt_of_le ((F1.out.alloc _)).lt h1)⟩
      have hr0 := HRL.out
      have hl0 := F1.out.lt
      have T_t := Lib.hid (hf.kept (N := w1.heap.size) (by omega) (alloc_top w1 _ _))
      have hl_t : Hid (w.heap.size < w1.heap.size) := Lib.hid (by omega)
      have hd_t : Hid (0 = 0) := Lib.hid (by omega)
      clear hr0 hl0
      clear hn hc hk hs hf hi ho
      go_wp2_with fail
      refine (ppassed_any p mDot (by decide) s2 _ ((F2.out.alloc _)).st).mono ?_
      rintro ee w3 ⟨rfl, hs, hf⟩
      have F3 := Lib.hid (((F2.out.alloc _)).step hf hs)
      have hr0 := HRL.out
      have hl0t := hl_t.out
      have hl0 := F2.out.lt
      have hs0t := (Array.getElem?_eq_some_iff.1 T_t.out).1
      have hd0t := hd_t.out
      have T_t := Lib.hid (hf.kept (N := w1.heap.size) (by omega) (blk_alloc T_t.out))
      have K_y : Hid (n_y.kids.length ≤ c_y ∧ SIn w3 (fun b => (w.heap.size < b) ∧ b ≠ w2.heap.size) n_y.kids A_y) := Lib.hid (And.intro K_y.out.1 (SIn.fr (SIn.below (SIn.wide (Q := (fun b => (w.heap.size < b) ∧ b ≠ w2.heap.size)) K_y.out.2 (fun k hk h1 => And.intro h1 (by have hk2 := hk; first | omega | (simp only [World.size_alloc] at hk2; omega)))) (alloc_below _ _)) hf (fun hh => by have h2 : w.heap.size < p.R := hh.1; omega)))
      have T_y := Lib.hid (hf.kept (N := w2.heap.size) (by omega) (alloc_top w2 _ _))
      have hl_y : Hid (w.heap.size < w2.heap.size) := Lib.hid (by omega)
      have hd_y : Hid (w1.heap.size < w2.heap.size) := Lib.hid (by omega)
      clear hr0 hl0 hd0t hs0t hl0t
      clear hs hf
      obtain ⟨b, hc⟩ : ∃ b, atB p.ts s2 mDot = b := ⟨_, rfl⟩
      have hr := HR.out
      try rw [hc]
      cases b with
      | true =>
       have F3 : Hid (Fm p w w3 (adv s2)) := Lib.hid (by have h3 := F3.out; unfold psd at h3; rw [if_pos hc] at h3; exact h3)
       have HI3 : Hid (1 ≤ (adv s2).i ∧ s.i < (adv s2).i ∧ (adv s2).o = s.o + 0) := Lib.hid (by have h1 := HI2.out; unfold adv; simp only; omega)
       simp only [hc, if_true] at hr
       have HR := Lib.hid hr
       clear hr hc
       go_wp2_with fail
       obtain ⟨r2, hx, hr⟩ := bind_pf HR.out
       have HR := Lib.hid hr
       clear hr
       refine (ptakeK_any p 1 (by decide) (adv s2) _ (F3.out).st r2 hx).mono ?_
       clear hx
       intro ee w4 he
       cases r2 with
       | bad kk xx =>
        obtain ⟨rfl, hf⟩ := he
        have hrr : r = .bad kk xx := HR.out
        subst hrr
        have HE := Lib.hid ((F3.out).fr.trans hf)
        clear hf
        go_wp2_with fail
        exact ⟨rfl, rfl, HE.out⟩
       | ok nm s4 =>
        obtain ⟨rfl, hs, hf, hi, ho⟩ := he
        have F4 := Lib.hid ((F3.out).step hf hs)
        have HI4 : Hid (1 ≤ s4.i ∧ s.i < s4.i ∧ s4.o = s.o + 0) := Lib.hid (by have h1 := HI3.out; omega)
        have hr0 := HRL.out
        have hl0t := hl_t.out
        have hl0y := hl_y.out
        have hl0 := F3.out.lt
        have hs0t := (Array.getElem?_eq_some_iff.1 T_t.out).1
        have hs0y := (Array.getElem?_eq_some_iff.1 T_y.out).1
        have hd0t := hd_t.out
        have hd0y := hd_y.out
        have T_t := Lib.hid (hf.kept (N := w1.heap.size) (by omega) T_t.out)
        have K_y : Hid (n_y.kids.length ≤ c_y ∧ SIn w4 (fun b => (w.heap.size < b) ∧ b ≠ w2.heap.size) n_y.kids A_y) := Lib.hid (And.intro K_y.out.1 (SIn.fr K_y.out.2 hf (fun hh => by have h2 : w.heap.size < p.R := hh.1; omega)))
        have T_y := Lib.hid (hf.kept (N := w2.heap.size) (by omega) T_y.out)
        clear hr0 hl0 hd0t hd0y hs0t hs0y hl0t hl0y
        clear hs hf hi ho
        obtain ⟨qy0, qy1, qy2, qy3, qy4, qy5⟩ := six_cells T_y.out
        have qyl := (Array.getElem?_eq_some_iff.1 T_y.out).1
        have fy0 := frozen_of_row _ (w2.heap.size) 0 _ _ T_y.out
        go_wp2_with fail
        clear qy0 qy1 qy2 qy3 qy4 qy5 qyl fy0
        refine (pmade_any p s4 _ ((((F4.out.set (a := ⟨w2.heap.size, 0, none⟩) hl_y.out _).alloc _).alloc _)).st (by have h1 := HI4.out; omega) _ _ _ _ _ _ _).mono ?_
        rintro ee w5 ⟨rfl, hb⟩
        have F5 := Lib.hid (((((F4.out.set (a := ⟨w2.heap.size, 0, none⟩) hl_y.out _).alloc _).alloc _)).below hb)
        have HI5 := HI4
        have hrow := blk_below (alloc_top (World.alloc _ _) _ _) hb
        simp only [World.size_alloc, World.size_setCell] at hrow
        have HROW := Lib.hid hrow
        clear hrow
        have hm_y := (Array.getElem?_eq_some_iff.1 T_y.out).1
        have hr0 := HRL.out
        have hl0t := hl_t.out
        have hl0y := hl_y.out
        have hl0 := F4.out.lt
        have hs0t := (Array.getElem?_eq_some_iff.1 T_t.out).1
        have hs0y := (Array.getElem?_eq_some_iff.1 T_y.out).1
        have hd0t := hd_t.out
        have hd0y := hd_y.out
        have T_t := Lib.hid ((PFr.of_below (R := p.R) hb).kept (N := w1.heap.size) (by omega) (blk_alloc (blk_alloc (blk_set (a := ⟨w2.heap.size, 0, none⟩) T_t.out (by show _ ≠ w2.heap.size; omega)))))
        have K_y : Hid (n_y.kids.length ≤ c_y ∧ SIn w5 (fun b => (w.heap.size < b) ∧ b ≠ w2.heap.size) n_y.kids A_y) := Lib.hid (And.intro K_y.out.1 (SIn.fr (SIn.below (SIn.below (SIn.keep (Q := (fun b => (w.heap.size < b) ∧ b ≠ w2.heap.size)) (fun k hk _ => heap_setCell_other _ ⟨w2.heap.size, 0, none⟩ k _ hk.2) (fun _ hk _ => hk) K_y.out.2) (alloc_below _ _)) (alloc_below _ _)) (PFr.of_below (R := p.R) hb) (fun hh => by have h2 : w.heap.size < p.R := hh.1; omega)))
        have T_y := Lib.hid ((PFr.of_below (R := p.R) hb).kept (N := w2.heap.size) (by omega) (blk_alloc (blk_alloc (heap_setCell_same _ w2.heap.size 0 _ _ _ T_y.out))))
        have T_nm := Lib.hid ((PFr.of_below (R := p.R) hb).kept (N := w4.heap.size) (by omega) (blk_alloc (alloc_topS w4 _ _ _ _)))
        have hl_nm : Hid (w.heap.size < w4.heap.size) := Lib.hid (by omega)
        have hd_nm : Hid (w1.heap.size < w4.heap.size ∧ w2.heap.size < w4.heap.size) := Lib.hid (by omega)
        clear hr0 hl0 hd0t hd0y hs0t hs0y hl0t hl0y
        clear hb
        have hz := F5.out.lt
        have hzp := F4.out.lt
        have h1 := HI5.out
        have HSS := Lib.hid (sin1 (P := (fun b => (w.heap.size < b) ∧ b ≠ w2.heap.size)) (n := ofKind 25 n_y) HROW.out (⟨by omega, by omega⟩) K_y.out.1 K_y.out.2)
        clear hz hzp h1 hm_y
        have hrr := (Option.some.inj HR.out).symm
        subst hrr
        obtain ⟨z0, z1, z2, z3, z4, z5, hres⟩ := F5.out.res
        obtain ⟨y0, y1, y2, y3, y4, y5⟩ := six_cells hres
        have x0 := frozen_of_row _ w.heap.size 0 _ _ hres
        have x1 := frozen_of_row _ w.heap.size 1 _ _ hres
        have x2 := frozen_of_row _ w.heap.size 2 _ _ hres
        have x3 := frozen_of_row _ w.heap.size 3 _ _ hres
        have x4 := frozen_of_row _ w.heap.size 4 _ _ hres
        have x5 := frozen_of_row _ w.heap.size 5 _ _ hres
        have HRES := Lib.hid hres
        clear hres
        go_wp2_with fail
        have h1 := HI5.out
        exact ret_cell1A (p := 2) rfl _ rfl _ (load_nd (six_heap HRES.out)) (F5.out.done (HSS.out.wide (fun _ _ hk => hk.1)) (Nat.le_refl _) (by omega) (by omega) _ _ _ _ _ _ rfl)
      | false =>
       have F3 : Hid (Fm p w w3 s2) := Lib.hid (by have h3 := F3.out; unfold psd at h3; rw [if_neg (by rw [hc]; decide)] at h3; exact h3)
       have HI3 := HI2
       simp only [hc, if_false, Bool.false_eq_true] at hr
       have HR := Lib.hid hr
       clear hr hc
       obtain ⟨qy0, qy1, qy2, qy3, qy4, qy5⟩ := six_cells T_y.out
       have qyl := (Array.getElem?_eq_some_iff.1 T_y.out).1
       have hrr := (Option.some.inj HR.out).symm
       subst hrr
       obtain ⟨z0, z1, z2, z3, z4, z5, hres⟩ := F3.out.res
       obtain ⟨y0, y1, y2, y3, y4, y5⟩ := six_cells hres
       have x0 := frozen_of_row _ w.heap.size 0 _ _ hres
       have x1 := frozen_of_row _ w.heap.size 1 _ _ hres
       have x2 := frozen_of_row _ w.heap.size 2 _ _ hres
       have x3 := frozen_of_row _ w.heap.size 3 _ _ hres
       have x4 := frozen_of_row _ w.heap.size 4 _ _ hres
       have x5 := frozen_of_row _ w.heap.size 5 _ _ hres
       have HRES := Lib.hid hres
       clear hres
       go_wp2_with fail
       have h1 := HI3.out
       exact ret_cell1A (p := 2) rfl _ rfl _ (load_nd (six_heap HRES.out)) (F3.out.doneN (s := s) (n := n_y) (K_y.out.2.wide (fun _ _ hk => hk.1)) K_y.out.1 (by omega) (by omega))
set_option maxRecDepth 100000 in
set_option maxHeartbeats 4000000 in
theorem pnameAndType_any (p : PC) (k : Nat) (hT : RdC p 118 #[.pointer (some ⟨p.R, 0, none⟩)] (typP p.ts)) : RdC p 142 #[.pointer (some ⟨p.R, 0, none⟩), .int .i64 (k : Int)] (ntP p.ts k) := by
 intro s w hs hi r hr
 unfold ntP at hr
 have HR := Lib.hid hr
 have HI0 : Hid (1 ≤ s.i ∧ s.i ≤ s.i ∧ s.o = s.o) := Lib.hid ⟨hi, Nat.le_refl _, rfl⟩
 have HT := Lib.hid hT
 have tf0 := tk_f0
 have tf1 := tk_f1
 have tf2 := tk_f2
 have HRL := Lib.hid (And.intro hs.rlt hs.glt)
 have FS := Lib.hid (Fm.start hs (.int .i64 0) (.int .i64 0) (.int .i64 0) (.int .i64 0) (.string ⟨#[]⟩) (.slice none 0 0))
 obtain ⟨w0, hw0⟩ : ∃ W, W = w.alloc (.cells #[.int .i64 0, .int .i64 0, .int .i64 0, .int .i64 0, .string ⟨#[]⟩, .slice none 0 0] 24) := ⟨_, rfl⟩
 have F0 : Hid (Fm p w w0 s) := Lib.hid (by rw [hw0]; exact FS.out)
 have HW0 := Lib.hid hw0
 clear hs hi hr hw0 FS hT
 go_enter Tryz.func142, Tryz.ntmps142
 go_wp2_with fail
 rw [← HW0.out]
 obtain ⟨r1, hx, hr⟩ := bind_pf HR.out
 have HR := Lib.hid hr
 clear hr
 refine (ptakeK_any p 1 (by decide) s _ (F0.out).st r1 hx).mono ?_
 clear hx
 intro ee w1 he
 cases r1 with
 | bad kk xx =>
  obtain ⟨rfl, hf⟩ := he
  have hrr : r = .bad kk xx := HR.out
  subst hrr
  have HE := Lib.hid ((F0.out).fr.trans hf)
  clear hf
  go_wp2_with fail
  exact ⟨rfl, rfl, HE.out⟩
 | ok t s1 =>
  obtain ⟨rfl, hs, hf, hi, ho⟩ := he
  have F1 := Lib.hid ((F0.out).step hf hs)
  have HI1 : Hid (1 ≤ s1.i ∧ s.i < s1.i ∧ s1.o = s.o + 0) := Lib.hid (by have h1 := HI0.out; omega)
  have hr0 := HRL.out
  have hl0 := F0.out.lt
  clear hr0 hl0
  clear hs hf hi ho
  go_wp2_with fail
  obtain ⟨r2, hx, hr⟩ := bind_pf HR.out
  have HR := Lib.hid hr
  clear hr
  refine (HT.out s1 _ ((F1.out.alloc _)).st (by have h1 := HI1.out; omega) r2 hx).mono ?_
  clear hx
  intro ee w2 he
  cases r2 with
  | bad kk xx =>
   obtain ⟨rfl, hf⟩ := he
   have hrr : r = .bad kk xx := HR.out
   subst hrr
   have HE := Lib.hid (((F1.out.alloc _)).fr.trans hf)
   clear hf
   go_wp2_with fail
   exact ⟨rfl, rfl, HE.out⟩
  | ok n_y s2 =>
   obtain ⟨⟨v, rfl, hn⟩, hs, hf, hi, ho⟩ := he
   obtain ⟨A_y, c_y, rfl, hc, hk⟩ := hn.open
   have F2 := Lib.hid (((F1.out.alloc _)).step hf hs)
   have HI2 : Hid (1 ≤ s2.i ∧ s.i < s2.i ∧ s2.o = s.o + 0) := Lib.hid (by have h1 := HI1.out; omega)
   have K_y : Hid (n_y.kids.length ≤ c_y ∧ SIn w2 (fun b => w.heap.size < b) n_y.kids A_y) := Lib.hid ⟨hc, hk.wide (fun k _ h1 => Nat.lt_of_lt_of_le ((F1.out.alloc _)).lt h1)⟩
   have hr0 := HRL.out
   have hl0 := F1.out.lt
   have T_t := Lib.hid (hf.kept (N := w1.heap.size) (by omega) (alloc_top w1 _ _))
   have hl_t : Hid (w.heap.size < w1.heap.size) := Lib.hid (by omega)
   have hd_t : Hid (0 = 0) := Lib.hid (by omega)
   clear hr0 hl0
   clear hn hc hk hs hf hi ho
   obtain ⟨qt0, qt1, qt2, qt3⟩ := tk4 T_t.out
   have qtl := (Array.getElem?_eq_some_iff.1 T_t.out).1
   go_wp2_with fail
   clear qt0 qt1 qt2 qt3 qtl
   refine (pmade_any p s2 _ (((F2.out.alloc _).alloc _)).st (by have h1 := HI2.out; omega) _ _ _ _ _ _ _).mono ?_
   rintro ee w3 ⟨rfl, hb⟩
   have F3 := Lib.hid ((((F2.out.alloc _).alloc _)).below hb)
   have HI3 := HI2
   have hrow := blk_below (alloc_top (World.alloc w2 _) _ _) hb
   simp only [World.size_alloc] at hrow
   have HROW := Lib.hid hrow
   clear hrow
   have hr0 := HRL.out
   have hl0t := hl_t.out
   have hl0 := F2.out.lt
   have hs0t := (Array.getElem?_eq_some_iff.1 T_t.out).1
   have hd0t := hd_t.out
   have T_t := Lib.hid ((PFr.of_below (R := p.R) hb).kept (N := w1.heap.size) (by omega) (blk_alloc (blk_alloc T_t.out)))
   have K_y : Hid (n_y.kids.length ≤ c_y ∧ SIn w3 (fun b => w.heap.size < b) n_y.kids A_y) := Lib.hid (And.intro K_y.out.1 (SIn.fr (SIn.below (SIn.below K_y.out.2 (alloc_below _ _)) (alloc_below _ _)) (PFr.of_below (R := p.R) hb) (fun hh => by have h2 : w.heap.size < p.R := hh; omega)))
   have T_y := Lib.hid ((PFr.of_below (R := p.R) hb).kept (N := w2.heap.size) (by omega) (blk_alloc (alloc_top w2 _ _)))
   have hl_y : Hid (w.heap.size < w2.heap.size) := Lib.hid (by omega)
   have hd_y : Hid (w1.heap.size < w2.heap.size) := Lib.hid (by omega)
   clear hr0 hl0 hd0t hs0t hl0t
   clear hb
   have hz := F3.out.lt
   have hzp := F2.out.lt
   have h1 := HI3.out
   have HSS := Lib.hid (sin1 (P := (fun b => w.heap.size < b)) HROW.out (by omega) K_y.out.1 K_y.out.2)
   clear hz hzp h1
   have hrr := (Option.some.inj HR.out).symm
   subst hrr
   obtain ⟨z0, z1, z2, z3, z4, z5, hres⟩ := F3.out.res
   obtain ⟨y0, y1, y2, y3, y4, y5⟩ := six_cells hres
   have x0 := frozen_of_row _ w.heap.size 0 _ _ hres
   have x1 := frozen_of_row _ w.heap.size 1 _ _ hres
   have x2 := frozen_of_row _ w.heap.size 2 _ _ hres
   have x3 := frozen_of_row _ w.heap.size 3 _ _ hres
   have x4 := frozen_of_row _ w.heap.size 4 _ _ hres
   have x5 := frozen_of_row _ w.heap.size 5 _ _ hres
   have HRES := Lib.hid hres
   clear hres
   go_wp2_with fail
   have h1 := HI3.out
   exact ret_cell1A (p := 4) rfl _ rfl _ (load_nd (six_heap HRES.out)) (F3.out.done (HSS.out.wide (fun _ _ hk => hk)) (Nat.le_refl _) (by omega) (by omega) _ _ _ _ _ _ rfl)
set_option maxRecDepth 100000 in
set_option maxHeartbeats 4000000 in
theorem punary_any (p : PC) (un ex : Rd) (f : Nat) (hU : RdC p 223 #[.pointer (some ⟨p.R, 0, none⟩)] un) (hC : RdC p 171 #[.pointer (some ⟨p.R, 0, none⟩)] (chainP p.ts ex f)) : RdC p 223 #[.pointer (some ⟨p.R, 0, none⟩)] (unaryP p.ts un ex f) := by
 intro s w hs hi r hr
 unfold unaryP at hr
 have HR := Lib.hid hr
 have HI0 : Hid (1 ≤ s.i ∧ s.i ≤ s.i ∧ s.o = s.o) := Lib.hid ⟨hi, Nat.le_refl _, rfl⟩
 have HU := Lib.hid hU
 have HC := Lib.hid hC
 have tf0 := tk_f0
 have tf1 := tk_f1
 have tf2 := tk_f2
 have HRL := Lib.hid (And.intro hs.rlt hs.glt)
 have FS := Lib.hid (Fm.start hs (.int .i64 0) (.int .i64 0) (.int .i64 0) (.int .i64 0) (.string ⟨#[]⟩) (.slice none 0 0))
 obtain ⟨w0, hw0⟩ : ∃ W, W = w.alloc (.cells #[.int .i64 0, .int .i64 0, .int .i64 0, .int .i64 0, .string ⟨#[]⟩, .slice none 0 0] 24) := ⟨_, rfl⟩
 have F0 : Hid (Fm p w w0 s) := Lib.hid (by rw [hw0]; exact FS.out)
 have HW0 := Lib.hid hw0
 clear hs hi hr hw0 FS hU hC
 go_enter Tryz.func223, Tryz.ntmps223
 go_wp2_with fail
 rw [← HW0.out]
 refine (pstands_any p mMinus s _ (F0.out).st).mono ?_
 rintro ee w1 ⟨rfl, hb⟩
 have F1 := Lib.hid ((F0.out).below hb)
 have HI1 := HI0
 have hr0 := HRL.out
 have hl0 := F0.out.lt
 clear hr0 hl0
 clear hb
 obtain ⟨b, hc⟩ : ∃ b, atB p.ts s mMinus = b := ⟨_, rfl⟩
 have hr := HR.out
 try rw [hc]
 cases b with
 | true =>
  simp only [hc, if_true, Bool.true_or] at hr
  have HR := Lib.hid hr
  have HC1 := Lib.hid hc
  clear hr hc
  go_wp2_with fail
  have HR := Lib.hid (bind_next HR.out)
  refine (pnext_any p s _ (F1.out).st (F1.out.st.more_at (m := mMinus) (by decide) HC1.out)).mono ?_
  rintro ee w2 ⟨rfl, hs, hf, -, -⟩
  have F2 := Lib.hid ((F1.out).step hf hs)
  have HI2 : Hid (1 ≤ (adv s).i ∧ s.i < (adv s).i ∧ (adv s).o = s.o + 0) := Lib.hid (by have h1 := HI1.out; unfold adv; simp only; omega)
  have hr0 := HRL.out
  have hl0 := F1.out.lt
  clear hr0 hl0
  clear hs hf
  go_wp2_with fail
  obtain ⟨r1, hx, hr⟩ := bind_pf HR.out
  have HR := Lib.hid hr
  clear hr
  refine (HU.out (adv s) _ ((F2.out.alloc _)).st (by have h1 := HI2.out; omega) r1 hx).mono ?_
  clear hx
  intro ee w3 he
  cases r1 with
  | bad kk xx =>
   obtain ⟨rfl, hf⟩ := he
   have hrr : r = .bad kk xx := HR.out
   subst hrr
   have HE := Lib.hid (((F2.out.alloc _)).fr.trans hf)
   clear hf
   go_wp2_with fail
   exact ⟨rfl, rfl, HE.out⟩
  | ok n_e s3 =>
   obtain ⟨⟨v, rfl, hn⟩, hs, hf, hi, ho⟩ := he
   obtain ⟨A_e, c_e, rfl, hc, hk⟩ := hn.open
   have F3 := Lib.hid (((F2.out.alloc _)).step hf hs)
   have HI3 : Hid (1 ≤ s3.i ∧ s.i < s3.i ∧ s3.o = s.o + 0) := Lib.hid (by have h1 := HI2.out; omega)
   have K_e : Hid (n_e.kids.length ≤ c_e ∧ SIn w3 (fun b => w.heap.size < b) n_e.kids A_e) := Lib.hid ⟨hc, hk.wide (fun k _ h1 => Nat.lt_of_lt_of_le ((F2.out.alloc _)).lt h1)⟩
   have hr0 := HRL.out
   have hl0 := F2.out.lt
   have T_t := Lib.hid (hf.kept (N := w2.heap.size) (by omega) (alloc_top w2 _ _))
   have hl_t : Hid (w.heap.size < w2.heap.size) := Lib.hid (by omega)
   have hd_t : Hid (0 = 0) := Lib.hid (by omega)
   clear hr0 hl0
   clear hn hc hk hs hf hi ho
   obtain ⟨qt0, qt1, qt2, qt3⟩ := tk4 T_t.out
   have qtl := (Array.getElem?_eq_some_iff.1 T_t.out).1
   go_wp2_with fail
   clear qt0 qt1 qt2 qt3 qtl
   refine (pmade_any p s3 _ (((F3.out.alloc _).alloc _)).st (by have h1 := HI3.out; omega) _ _ _ _ _ _ _).mono ?_
   rintro ee w4 ⟨rfl, hb⟩
   have F4 := Lib.hid ((((F3.out.alloc _).alloc _)).below hb)
   have HI4 := HI3
   have hrow := blk_below (alloc_top (World.alloc w3 _) _ _) hb
   simp only [World.size_alloc] at hrow
   have HROW := Lib.hid hrow
   clear hrow
   have hr0 := HRL.out
   have hl0t := hl_t.out
   have hl0 := F3.out.lt
   have hs0t := (Array.getElem?_eq_some_iff.1 T_t.out).1
   have hd0t := hd_t.out
   have T_t := Lib.hid ((PFr.of_below (R := p.R) hb).kept (N := w2.heap.size) (by omega) (blk_alloc (blk_alloc T_t.out)))
   have K_e : Hid (n_e.kids.length ≤ c_e ∧ SIn w4 (fun b => w.heap.size < b) n_e.kids A_e) := Lib.hid (And.intro K_e.out.1 (SIn.fr (SIn.below (SIn.below K_e.out.2 (alloc_below _ _)) (alloc_below _ _)) (PFr.of_below (R := p.R) hb) (fun hh => by have h2 : w.heap.size < p.R := hh; omega)))
   have T_e := Lib.hid ((PFr.of_below (R := p.R) hb).kept (N := w3.heap.size) (by omega) (blk_alloc (alloc_top w3 _ _)))
   have hl_e : Hid (w.heap.size < w3.heap.size) := Lib.hid (by omega)
   have hd_e : Hid (w2.heap.size < w3.heap.size) := Lib.hid (by omega)
   clear hr0 hl0 hd0t hs0t hl0t
   clear hb
   have hz := F4.out.lt
   have hzp := F3.out.lt
   have h1 := HI4.out
   have HSS := Lib.hid (sin1 (P := (fun b => w.heap.size < b)) HROW.out (by omega) K_e.out.1 K_e.out.2)
   clear hz hzp h1
   have hrr := (Option.some.inj HR.out).symm
   subst hrr
   obtain ⟨z0, z1, z2, z3, z4, z5, hres⟩ := F4.out.res
   obtain ⟨y0, y1, y2, y3, y4, y5⟩ := six_cells hres
   have x0 := frozen_of_row _ w.heap.size 0 _ _ hres
   have x1 := frozen_of_row _ w.heap.size 1 _ _ hres
   have x2 := frozen_of_row _ w.heap.size 2 _ _ hres
   have x3 := frozen_of_row _ w.heap.size 3 _ _ hres
   have x4 := frozen_of_row _ w.heap.size 4 _ _ hres
   have x5 := frozen_of_row _ w.heap.size 5 _ _ hres
   have HRES := Lib.hid hres
   clear hres
   go_wp2_with fail
   have h1 := HI4.out
   exact ret_cell1A (p := 2) rfl _ rfl _ (load_nd (six_heap HRES.out)) (F4.out.done (HSS.out.wide (fun _ _ hk => hk)) (Nat.le_refl _) (by omega) (by omega) _ _ _ _ _ _ rfl)
 | false =>
  simp only [hc, Bool.false_or] at hr
  have HR := Lib.hid hr
  have HC1 := Lib.hid hc
  clear hr hc
  go_wp2_with fail
  refine (pstands_any p mNot s _ (F1.out).st).mono ?_
  rintro ee w2 ⟨rfl, hb⟩
  have F2 := Lib.hid ((F1.out).below hb)
  have HI2 := HI1
  have hr0 := HRL.out
  have hl0 := F1.out.lt
  clear hr0 hl0
  clear hb
  obtain ⟨b, hc⟩ : ∃ b, atB p.ts s mNot = b := ⟨_, rfl⟩
  have hr := HR.out
  try rw [hc]
  cases b with
  | true =>
   simp only [hc, if_true] at hr
   have HR := Lib.hid hr
   have HC2 := Lib.hid hc
   clear hr hc
   go_wp2_with fail
   have HR := Lib.hid (bind_next HR.out)
   refine (pnext_any p s _ (F2.out).st (F2.out.st.more_at (m := mNot) (by decide) HC2.out)).mono ?_
   rintro ee w3 ⟨rfl, hs, hf, -, -⟩
   have F3 := Lib.hid ((F2.out).step hf hs)
   have HI3 : Hid (1 ≤ (adv s).i ∧ s.i < (adv s).i ∧ (adv s).o = s.o + 0) := Lib.hid (by have h1 := HI2.out; unfold adv; simp only; omega)
   have hr0 := HRL.out
   have hl0 := F2.out.lt
   clear hr0 hl0
   clear hs hf
   go_wp2_with fail
   obtain ⟨r1, hx, hr⟩ := bind_pf HR.out
   have HR := Lib.hid hr
   clear hr
   refine (HU.out (adv s) _ ((F3.out.alloc _)).st (by have h1 := HI3.out; omega) r1 hx).mono ?_
   clear hx
   intro ee w4 he
   cases r1 with
   | bad kk xx =>
    obtain ⟨rfl, hf⟩ := he
    have hrr : r = .bad kk xx := HR.out
    subst hrr
    have HE := Lib.hid (((F3.out.alloc _)).fr.trans hf)
    clear hf
    go_wp2_with fail
    exact ⟨rfl, rfl, HE.out⟩
   | ok n_e s4 =>
    obtain ⟨⟨v, rfl, hn⟩, hs, hf, hi, ho⟩ := he
    obtain ⟨A_e, c_e, rfl, hc, hk⟩ := hn.open
    have F4 := Lib.hid (((F3.out.alloc _)).step hf hs)
    have HI4 : Hid (1 ≤ s4.i ∧ s.i < s4.i ∧ s4.o = s.o + 0) := Lib.hid (by have h1 := HI3.out; omega)
    have K_e : Hid (n_e.kids.length ≤ c_e ∧ SIn w4 (fun b => w.heap.size < b) n_e.kids A_e) := Lib.hid ⟨hc, hk.wide (fun k _ h1 => Nat.lt_of_lt_of_le ((F3.out.alloc _)).lt h1)⟩
    have hr0 := HRL.out
    have hl0 := F3.out.lt
    have T_t := Lib.hid (hf.kept (N := w3.heap.size) (by omega) (alloc_top w3 _ _))
    have hl_t : Hid (w.heap.size < w3.heap.size) := Lib.hid (by omega)
    have hd_t : Hid (0 = 0) := Lib.hid (by omega)
    clear hr0 hl0
    clear hn hc hk hs hf hi ho
    obtain ⟨qt0, qt1, qt2, qt3⟩ := tk4 T_t.out
    have qtl := (Array.getElem?_eq_some_iff.1 T_t.out).1
    go_wp2_with fail
    clear qt0 qt1 qt2 qt3 qtl
    refine (pmade_any p s4 _ (((F4.out.alloc _).alloc _)).st (by have h1 := HI4.out; omega) _ _ _ _ _ _ _).mono ?_
    rintro ee w5 ⟨rfl, hb⟩
    have F5 := Lib.hid ((((F4.out.alloc _).alloc _)).below hb)
    have HI5 := HI4
    have hrow := blk_below (alloc_top (World.alloc w4 _) _ _) hb
    simp only [World.size_alloc] at hrow
    have HROW := Lib.hid hrow
    clear hrow
    have hr0 := HRL.out
    have hl0t := hl_t.out
    have hl0 := F4.out.lt
    have hs0t := (Array.getElem?_eq_some_iff.1 T_t.out).1
    have hd0t := hd_t.out
    have T_t := Lib.hid ((PFr.of_below (R := p.R) hb).kept (N := w3.heap.size) (by omega) (blk_alloc (blk_alloc T_t.out)))
    have K_e : Hid (n_e.kids.length ≤ c_e ∧ SIn w5 (fun b => w.heap.size < b) n_e.kids A_e) := Lib.hid (And.intro K_e.out.1 (SIn.fr (SIn.below (SIn.below K_e.out.2 (alloc_below _ _)) (alloc_below _ _)) (PFr.of_below (R := p.R) hb) (fun hh => by have h2 : w.heap.size < p.R := hh; omega)))
    have T_e := Lib.hid ((PFr.of_below (R := p.R) hb).kept (N := w4.heap.size) (by omega) (blk_alloc (alloc_top w4 _ _)))
    have hl_e : Hid (w.heap.size < w4.heap.size) := Lib.hid (by omega)
    have hd_e : Hid (w3.heap.size < w4.heap.size) := Lib.hid (by omega)
    clear hr0 hl0 hd0t hs0t hl0t
    clear hb
    have hz := F5.out.lt
    have hzp := F4.out.lt
    have h1 := HI5.out
    have HSS := Lib.hid (sin1 (P := (fun b => w.heap.size < b)) HROW.out (by omega) K_e.out.1 K_e.out.2)
    clear hz hzp h1
    have hrr := (Option.some.inj HR.out).symm
    subst hrr
    obtain ⟨z0, z1, z2, z3, z4, z5, hres⟩ := F5.out.res
    obtain ⟨y0, y1, y2, y3, y4, y5⟩ := six_cells hres
    have x0 := frozen_of_row _ w.heap.size 0 _ _ hres
    have x1 := frozen_of_row _ w.heap.size 1 _ _ hres
    have x2 := frozen_of_row _ w.heap.size 2 _ _ hres
    have x3 := frozen_of_row _ w.heap.size 3 _ _ hres
    have x4 := frozen_of_row _ w.heap.size 4 _ _ hres
    have x5 := frozen_of_row _ w.heap.size 5 _ _ hres
    have HRES := Lib.hid hres
    clear hres
    go_wp2_with fail
    have h1 := HI5.out
    exact ret_cell1A (p := 2) rfl _ rfl _ (load_nd (six_heap HRES.out)) (F5.out.done (HSS.out.wide (fun _ _ hk => hk)) (Nat.le_refl _) (by omega) (by omega) _ _ _ _ _ _ rfl)
  | false =>
   simp only [hc, if_false, Bool.false_eq_true] at hr
   have HR := Lib.hid hr
   have HC2 := Lib.hid hc
   clear hr hc
   go_wp2_with fail
   refine (HC.out s _ (F2.out).st (by have h1 := HI2.out; omega) r HR.out).mono ?_
   intro ee w3 he
   cases r with
   | bad kk xx =>
    obtain ⟨rfl, hf⟩ := he
    have HE := Lib.hid ((F2.out).fr.trans hf)
    clear hf
    go_wp2_with fail
    exact ⟨rfl, rfl, HE.out⟩
   | ok n_z s3 =>
    obtain ⟨⟨v, rfl, hn⟩, hs, hf, hi, ho⟩ := he
    obtain ⟨A_z, c_z, rfl, hc, hk⟩ := hn.open
    have F3 := Lib.hid ((F2.out).step hf hs)
    have HI3 : Hid (1 ≤ s3.i ∧ s.i < s3.i ∧ s3.o = s.o + 0) := Lib.hid (by have h1 := HI2.out; omega)
    have K_z : Hid (n_z.kids.length ≤ c_z ∧ SIn w3 (fun b => w.heap.size < b) n_z.kids A_z) := Lib.hid ⟨hc, hk.wide (fun k _ h1 => Nat.lt_of_lt_of_le (F2.out).lt h1)⟩
    clear hn hc hk hs hf hi ho
    obtain ⟨z0, z1, z2, z3, z4, z5, hres⟩ := F3.out.res
    obtain ⟨y0, y1, y2, y3, y4, y5⟩ := six_cells hres
    have x0 := frozen_of_row _ w.heap.size 0 _ _ hres
    have x1 := frozen_of_row _ w.heap.size 1 _ _ hres
    have x2 := frozen_of_row _ w.heap.size 2 _ _ hres
    have x3 := frozen_of_row _ w.heap.size 3 _ _ hres
    have x4 := frozen_of_row _ w.heap.size 4 _ _ hres
    have x5 := frozen_of_row _ w.heap.size 5 _ _ hres
    have HRES := Lib.hid hres
    clear hres
    go_wp2_with fail
    have h1 := HI3.out
    exact ret_cell1A (p := 2) rfl _ rfl _ (load_nd (six_heap HRES.out)) (F3.out.doneN (K_z.out.2.wide (fun _ _ hk => hk)) K_z.out.1 (by omega) (by omega))
set_option maxRecDepth 100000 in
set_option maxHeartbeats 4000000 in
theorem pblock_any (p : PC) (st : Rd) (f : Nat) (hL : RsC p 114 #[.pointer (some ⟨p.R, 0, none⟩), .func (.func 147) #[.pointer (some ⟨p.R, 0, none⟩)] #[]] (linesP p.ts st f)) : RdC p 119 #[.pointer (some ⟨p.R, 0, none⟩)] (blockP p.ts st f) := by
 intro s w hs hi r hr
 unfold blockP at hr
 have HR := Lib.hid hr
 have HI0 : Hid (1 ≤ s.i ∧ s.i ≤ s.i ∧ s.o = s.o) := Lib.hid ⟨hi, Nat.le_refl _, rfl⟩
 have HL := Lib.hid hL
 have tf0 := tk_f0
 have tf1 := tk_f1
 have tf2 := tk_f2
 have HRL := Lib.hid (And.intro hs.rlt hs.glt)
 have FS := Lib.hid (Fm.start hs (.int .i64 0) (.int .i64 0) (.int .i64 0) (.int .i64 0) (.string ⟨#[]⟩) (.slice none 0 0))
 obtain ⟨w0, hw0⟩ : ∃ W, W = w.alloc (.cells #[.int .i64 0, .int .i64 0, .int .i64 0, .int .i64 0, .string ⟨#[]⟩, .slice none 0 0] 24) := ⟨_, rfl⟩
 have F0 : Hid (Fm p w w0 s) := Lib.hid (by rw [hw0]; exact FS.out)
 have HW0 := Lib.hid hw0
 clear hs hi hr hw0 FS hL
 go_enter Tryz.func119, Tryz.ntmps119
 go_wp2_with fail
 rw [← HW0.out]
 refine (ptoken_any p s _ (F0.out).st).mono ?_
 rintro ee w1 ⟨rfl, hb⟩
 have F1 := Lib.hid ((F0.out).below hb)
 have HI1 := HI0
 have hr0 := HRL.out
 have hl0 := F0.out.lt
 clear hr0 hl0
 clear hb
 go_wp2_with fail
 obtain ⟨r1, hx, hr⟩ := bind_pf HR.out
 have HR := Lib.hid hr
 clear hr
 refine (HL.out s _ (F1.out).st (by have h1 := HI1.out; omega) r1 hx).mono ?_
 clear hx
 intro ee w2 he
 cases r1 with
 | bad kk xx =>
  obtain ⟨rfl, hf⟩ := he
  have hrr : r = .bad kk xx := HR.out
  subst hrr
  have HE := Lib.hid ((F1.out).fr.trans hf)
  clear hf
  go_wp2_with fail
  exact ⟨rfl, rfl, HE.out⟩
 | ok n_l s2 =>
  obtain ⟨⟨A_l, c_l, rfl, hc, hk, hle⟩, hs, hf, hi, ho⟩ := he
  have F2 := Lib.hid ((F1.out).step hf hs)
  have HI2 : Hid (1 ≤ s2.i ∧ s.i < s2.i ∧ s2.o = s.o + 0) := Lib.hid (by have h1 := HI1.out; omega)
  have K_l : Hid (n_l.length ≤ c_l ∧ SIn w2 (fun b => w.heap.size < b) n_l A_l) := Lib.hid ⟨hc, hk.wide (fun k _ h1 => Nat.lt_of_lt_of_le (F1.out).lt h1)⟩
  have hr0 := HRL.out
  have hl0 := F1.out.lt
  clear hr0 hl0
  have L_l := Lib.hid hle
  clear hc hk hle hs hf hi ho
  go_wp2_with fail
  refine (pmade_any p s2 _ (F2.out).st (by have h1 := HI2.out; omega) _ _ _ _ _ _ _).mono ?_
  rintro ee w3 ⟨rfl, hb⟩
  have F3 := Lib.hid ((F2.out).below hb)
  have HI3 := HI2
  have hr0 := HRL.out
  have hl0 := F2.out.lt
  have K_l : Hid (n_l.length ≤ c_l ∧ SIn w3 (fun b => w.heap.size < b) n_l A_l) := Lib.hid (And.intro K_l.out.1 (SIn.fr K_l.out.2 (PFr.of_below (R := p.R) hb) (fun hh => by have h2 : w.heap.size < p.R := hh; omega)))
  clear hr0 hl0
  clear hb
  have hz := F3.out.lt
  have hzp := F2.out.lt
  have h1 := HI3.out
  have HSS := Lib.hid (K_l.out.2)
  clear hz hzp h1
  have hrr := (Option.some.inj HR.out).symm
  subst hrr
  obtain ⟨z0, z1, z2, z3, z4, z5, hres⟩ := F3.out.res
  obtain ⟨y0, y1, y2, y3, y4, y5⟩ := six_cells hres
  have x0 := frozen_of_row _ w.heap.size 0 _ _ hres
  have x1 := frozen_of_row _ w.heap.size 1 _ _ hres
  have x2 := frozen_of_row _ w.heap.size 2 _ _ hres
  have x3 := frozen_of_row _ w.heap.size 3 _ _ hres
  have x4 := frozen_of_row _ w.heap.size 4 _ _ hres
  have x5 := frozen_of_row _ w.heap.size 5 _ _ hres
  have HRES := Lib.hid hres
  clear hres
  go_wp2_with fail
  have h1 := HI3.out
  exact ret_cell1A (p := 2) rfl _ rfl _ (load_nd (six_heap HRES.out)) (F3.out.done (HSS.out.wide (fun _ _ hk => hk)) K_l.out.1 (by omega) (by omega) _ _ _ _ _ _ rfl)
set_option maxRecDepth 100000 in
set_option maxHeartbeats 4000000 in
theorem pparams_any (p : PC) (f : Nat) (hL : RsC p 144 #[.pointer (some ⟨p.R, 0, none⟩), .string (txt mOpen), .string (txt mClose), .func (.func 145) #[.pointer (some ⟨p.R, 0, none⟩)] #[]] (rowP p.ts mOpen mClose (ntP p.ts 7) f)) : RdC p 117 #[.pointer (some ⟨p.R, 0, none⟩)] (paramsP p.ts f) := by
 intro s w hs hi r hr
 unfold paramsP at hr
 have HR := Lib.hid hr
 have HI0 : Hid (1 ≤ s.i ∧ s.i ≤ s.i ∧ s.o = s.o) := Lib.hid ⟨hi, Nat.le_refl _, rfl⟩
 have HL := Lib.hid hL
 have tf0 := tk_f0
 have tf1 := tk_f1
 have tf2 := tk_f2
 have HRL := Lib.hid (And.intro hs.rlt hs.glt)
 have FS := Lib.hid (Fm.start hs (.int .i64 0) (.int .i64 0) (.int .i64 0) (.int .i64 0) (.string ⟨#[]⟩) (.slice none 0 0))
 obtain ⟨w0, hw0⟩ : ∃ W, W = w.alloc (.cells #[.int .i64 0, .int .i64 0, .int .i64 0, .int .i64 0, .string ⟨#[]⟩, .slice none 0 0] 24) := ⟨_, rfl⟩
 have F0 : Hid (Fm p w w0 s) := Lib.hid (by rw [hw0]; exact FS.out)
 have HW0 := Lib.hid hw0
 clear hs hi hr hw0 FS hL
 go_enter Tryz.func117, Tryz.ntmps117
 go_wp2_with fail
 rw [← HW0.out]
 refine (ptoken_any p s _ (F0.out).st).mono ?_
 rintro ee w1 ⟨rfl, hb⟩
 have F1 := Lib.hid ((F0.out).below hb)
 have HI1 := HI0
 have hr0 := HRL.out
 have hl0 := F0.out.lt
 clear hr0 hl0
 clear hb
 go_wp2_with fail
 obtain ⟨r1, hx, hr⟩ := bind_pf HR.out
 have HR := Lib.hid hr
 clear hr
 refine (HL.out s _ (F1.out).st (by have h1 := HI1.out; omega) r1 hx).mono ?_
 clear hx
 intro ee w2 he
 cases r1 with
 | bad kk xx =>
  obtain ⟨rfl, hf⟩ := he
  have hrr : r = .bad kk xx := HR.out
  subst hrr
  have HE := Lib.hid ((F1.out).fr.trans hf)
  clear hf
  go_wp2_with fail
  exact ⟨rfl, rfl, HE.out⟩
 | ok n_l s2 =>
  obtain ⟨⟨A_l, c_l, rfl, hc, hk, hle⟩, hs, hf, hi, ho⟩ := he
  have F2 := Lib.hid ((F1.out).step hf hs)
  have HI2 : Hid (1 ≤ s2.i ∧ s.i < s2.i ∧ s2.o = s.o + 0) := Lib.hid (by have h1 := HI1.out; omega)
  have K_l : Hid (n_l.length ≤ c_l ∧ SIn w2 (fun b => w.heap.size < b) n_l A_l) := Lib.hid ⟨hc, hk.wide (fun k _ h1 => Nat.lt_of_lt_of_le (F1.out).lt h1)⟩
  have hr0 := HRL.out
  have hl0 := F1.out.lt
  clear hr0 hl0
  have L_l := Lib.hid hle
  clear hc hk hle hs hf hi ho
  go_wp2_with fail
  refine (pmade_any p s2 _ (F2.out).st (by have h1 := HI2.out; omega) _ _ _ _ _ _ _).mono ?_
  rintro ee w3 ⟨rfl, hb⟩
  have F3 := Lib.hid ((F2.out).below hb)
  have HI3 := HI2
  have hr0 := HRL.out
  have hl0 := F2.out.lt
  have K_l : Hid (n_l.length ≤ c_l ∧ SIn w3 (fun b => w.heap.size < b) n_l A_l) := Lib.hid (And.intro K_l.out.1 (SIn.fr K_l.out.2 (PFr.of_below (R := p.R) hb) (fun hh => by have h2 : w.heap.size < p.R := hh; omega)))
  clear hr0 hl0
  clear hb
  have hz := F3.out.lt
  have hzp := F2.out.lt
  have h1 := HI3.out
  have HSS := Lib.hid (K_l.out.2)
  clear hz hzp h1
  have hrr := (Option.some.inj HR.out).symm
  subst hrr
  obtain ⟨z0, z1, z2, z3, z4, z5, hres⟩ := F3.out.res
  obtain ⟨y0, y1, y2, y3, y4, y5⟩ := six_cells hres
  have x0 := frozen_of_row _ w.heap.size 0 _ _ hres
  have x1 := frozen_of_row _ w.heap.size 1 _ _ hres
  have x2 := frozen_of_row _ w.heap.size 2 _ _ hres
  have x3 := frozen_of_row _ w.heap.size 3 _ _ hres
  have x4 := frozen_of_row _ w.heap.size 4 _ _ hres
  have x5 := frozen_of_row _ w.heap.size 5 _ _ hres
  have HRES := Lib.hid hres
  clear hres
  go_wp2_with fail
  have h1 := HI3.out
  exact ret_cell1A (p := 2) rfl _ rfl _ (load_nd (six_heap HRES.out)) (F3.out.done (HSS.out.wide (fun _ _ hk => hk)) K_l.out.1 (by omega) (by omega) _ _ _ _ _ _ rfl)
set_option maxRecDepth 100000 in
set_option maxHeartbeats 4000000 in
theorem pstructType_any (p : PC) (f : Nat) (hL : RsC p 114 #[.pointer (some ⟨p.R, 0, none⟩), .func (.func 115) #[.pointer (some ⟨p.R, 0, none⟩)] #[]] (linesP p.ts (ntP p.ts 4) f)) : RdC p 95 #[.pointer (some ⟨p.R, 0, none⟩)] (structP p.ts f) := by
 intro s w hs hi r hr
 unfold structP at hr
 have HR := Lib.hid hr
 have HI0 : Hid (1 ≤ s.i ∧ s.i ≤ s.i ∧ s.o = s.o) := Lib.hid ⟨hi, Nat.le_refl _, rfl⟩
 have HL := Lib.hid hL
 have tf0 := tk_f0
 have tf1 := tk_f1
 have tf2 := tk_f2
 have HRL := Lib.hid (And.intro hs.rlt hs.glt)
 have FS := Lib.hid (Fm.start hs (.int .i64 0) (.int .i64 0) (.int .i64 0) (.int .i64 0) (.string ⟨#[]⟩) (.slice none 0 0))
 obtain ⟨w0, hw0⟩ : ∃ W, W = w.alloc (.cells #[.int .i64 0, .int .i64 0, .int .i64 0, .int .i64 0, .string ⟨#[]⟩, .slice none 0 0] 24) := ⟨_, rfl⟩
 have F0 : Hid (Fm p w w0 s) := Lib.hid (by rw [hw0]; exact FS.out)
 have HW0 := Lib.hid hw0
 clear hs hi hr hw0 FS hL
 go_enter Tryz.func95, Tryz.ntmps95
 go_wp2_with fail
 rw [← HW0.out]
 obtain ⟨r1, hx, hr⟩ := bind_pf HR.out
 have HR := Lib.hid hr
 clear hr
 refine (ptake_any p wType (by decide) s _ (F0.out).st r1 hx).mono ?_
 clear hx
 intro ee w1 he
 cases r1 with
 | bad kk xx =>
  obtain ⟨rfl, hf⟩ := he
  have hrr : r = .bad kk xx := HR.out
  subst hrr
  have HE := Lib.hid ((F0.out).fr.trans hf)
  clear hf
  go_wp2_with fail
  exact ⟨rfl, rfl, HE.out⟩
 | ok t1 s1 =>
  obtain ⟨rfl, hs, hf, hi, ho⟩ := he
  have F1 := Lib.hid ((F0.out).step hf hs)
  have HI1 : Hid (1 ≤ s1.i ∧ s.i < s1.i ∧ s1.o = s.o + 0) := Lib.hid (by have h1 := HI0.out; omega)
  have hr0 := HRL.out
  have hl0 := F0.out.lt
  clear hr0 hl0
  clear hs hf hi ho
  go_wp2_with fail
  obtain ⟨r2, hx, hr⟩ := bind_pf HR.out
  have HR := Lib.hid hr
  clear hr
  refine (ptakeK_any p 1 (by decide) s1 _ (F1.out).st r2 hx).mono ?_
  clear hx
  intro ee w2 he
  cases r2 with
  | bad kk xx =>
   obtain ⟨rfl, hf⟩ := he
   have hrr : r = .bad kk xx := HR.out
   subst hrr
   have HE := Lib.hid ((F1.out).fr.trans hf)
   clear hf
   go_wp2_with fail
   exact ⟨rfl, rfl, HE.out⟩
  | ok t s2 =>
   obtain ⟨rfl, hs, hf, hi, ho⟩ := he
   have F2 := Lib.hid ((F1.out).step hf hs)
   have HI2 : Hid (1 ≤ s2.i ∧ s.i < s2.i ∧ s2.o = s.o + 0) := Lib.hid (by have h1 := HI1.out; omega)
   have hr0 := HRL.out
   have hl0 := F1.out.lt
   clear hr0 hl0
   clear hs hf hi ho
   go_wp2_with fail
   obtain ⟨r3, hx, hr⟩ := bind_pf HR.out
   have HR := Lib.hid hr
   clear hr
   refine (ptake_any p wStruct (by decide) s2 _ ((F2.out.alloc _)).st r3 hx).mono ?_
   clear hx
   intro ee w3 he
   cases r3 with
   | bad kk xx =>
    obtain ⟨rfl, hf⟩ := he
    have hrr : r = .bad kk xx := HR.out
    subst hrr
    have HE := Lib.hid (((F2.out.alloc _)).fr.trans hf)
    clear hf
    go_wp2_with fail
    exact ⟨rfl, rfl, HE.out⟩
   | ok t3 s3 =>
    obtain ⟨rfl, hs, hf, hi, ho⟩ := he
    have F3 := Lib.hid (((F2.out.alloc _)).step hf hs)
    have HI3 : Hid (1 ≤ s3.i ∧ s.i < s3.i ∧ s3.o = s.o + 0) := Lib.hid (by have h1 := HI2.out; omega)
    have hr0 := HRL.out
    have hl0 := F2.out.lt
    have T_t := Lib.hid (hf.kept (N := w2.heap.size) (by omega) (alloc_top w2 _ _))
    have hl_t : Hid (w.heap.size < w2.heap.size) := Lib.hid (by omega)
    have hd_t : Hid (0 = 0) := Lib.hid (by omega)
    clear hr0 hl0
    clear hs hf hi ho
    go_wp2_with fail
    obtain ⟨r4, hx, hr⟩ := bind_pf HR.out
    have HR := Lib.hid hr
    clear hr
    refine (HL.out s3 _ (F3.out).st (by have h1 := HI3.out; omega) r4 hx).mono ?_
    clear hx
    intro ee w4 he
    cases r4 with
    | bad kk xx =>
     obtain ⟨rfl, hf⟩ := he
     have hrr : r = .bad kk xx := HR.out
     subst hrr
     have HE := Lib.hid ((F3.out).fr.trans hf)
     clear hf
     go_wp2_with fail
     exact ⟨rfl, rfl, HE.out⟩
    | ok n_l s4 =>
     obtain ⟨⟨A_l, c_l, rfl, hc, hk, hle⟩, hs, hf, hi, ho⟩ := he
     have F4 := Lib.hid ((F3.out).step hf hs)
     have HI4 : Hid (1 ≤ s4.i ∧ s.i < s4.i ∧ s4.o = s.o + 0) := Lib.hid (by have h1 := HI3.out; omega)
     have K_l : Hid (n_l.length ≤ c_l ∧ SIn w4 (fun b => w.heap.size < b) n_l A_l) := Lib.hid ⟨hc, hk.wide (fun k _ h1 => Nat.lt_of_lt_of_le (F3.out).lt h1)⟩
     have hr0 := HRL.out
     have hl0t := hl_t.out
     have hl0 := F3.out.lt
     have hs0t := (Array.getElem?_eq_some_iff.1 T_t.out).1
     have hd0t := hd_t.out
     have T_t := Lib.hid (hf.kept (N := w2.heap.size) (by omega) T_t.out)
     clear hr0 hl0 hd0t hs0t hl0t
     have L_l := Lib.hid hle
     clear hc hk hle hs hf hi ho
     obtain ⟨qt0, qt1, qt2, qt3⟩ := tk4 T_t.out
     have qtl := (Array.getElem?_eq_some_iff.1 T_t.out).1
     go_wp2_with fail
     clear qt0 qt1 qt2 qt3 qtl
     refine (pmade_any p s4 _ (F4.out).st (by have h1 := HI4.out; omega) _ _ _ _ _ _ _).mono ?_
     rintro ee w5 ⟨rfl, hb⟩
     have F5 := Lib.hid ((F4.out).below hb)
     have HI5 := HI4
     have hr0 := HRL.out
     have hl0t := hl_t.out
     have hl0 := F4.out.lt
     have hs0t := (Array.getElem?_eq_some_iff.1 T_t.out).1
     have hd0t := hd_t.out
     have T_t := Lib.hid ((PFr.of_below (R := p.R) hb).kept (N := w2.heap.size) (by omega) T_t.out)
     have K_l : Hid (n_l.length ≤ c_l ∧ SIn w5 (fun b => w.heap.size < b) n_l A_l) := Lib.hid (And.intro K_l.out.1 (SIn.fr K_l.out.2 (PFr.of_below (R := p.R) hb) (fun hh => by have h2 : w.heap.size < p.R := hh; omega)))
     clear hr0 hl0 hd0t hs0t hl0t
     clear hb
     have hz := F5.out.lt
     have hzp := F4.out.lt
     have h1 := HI5.out
     have HSS := Lib.hid (K_l.out.2)
     clear hz hzp h1
     have hrr := (Option.some.inj HR.out).symm
     subst hrr
     obtain ⟨z0, z1, z2, z3, z4, z5, hres⟩ := F5.out.res
     obtain ⟨y0, y1, y2, y3, y4, y5⟩ := six_cells hres
     have x0 := frozen_of_row _ w.heap.size 0 _ _ hres
     have x1 := frozen_of_row _ w.heap.size 1 _ _ hres
     have x2 := frozen_of_row _ w.heap.size 2 _ _ hres
     have x3 := frozen_of_row _ w.heap.size 3 _ _ hres
     have x4 := frozen_of_row _ w.heap.size 4 _ _ hres
     have x5 := frozen_of_row _ w.heap.size 5 _ _ hres
     have HRES := Lib.hid hres
     clear hres
     go_wp2_with fail
     have h1 := HI5.out
     exact ret_cell1A (p := 2) rfl _ rfl _ (load_nd (six_heap HRES.out)) (F5.out.done (HSS.out.wide (fun _ _ hk => hk)) K_l.out.1 (by omega) (by omega) _ _ _ _ _ _ rfl)
set_option maxRecDepth 100000 in
set_option maxHeartbeats 4000000 in
theorem pdecl_any (p : PC) (f : Nat) (hS : RdC p 95 #[.pointer (some ⟨p.R, 0, none⟩)] (structP p.ts f)) (hF : RdC p 96 #[.pointer (some ⟨p.R, 0, none⟩)] (functionP p.ts f)) : RdC p 68 #[.pointer (some ⟨p.R, 0, none⟩)] (declP p.ts f) := by
 intro s w hs hi r hr
 unfold declP at hr
 have HR := Lib.hid hr
 have HI0 : Hid (1 ≤ s.i ∧ s.i ≤ s.i ∧ s.o = s.o) := Lib.hid ⟨hi, Nat.le_refl _, rfl⟩
 have HS := Lib.hid hS
 have HF := Lib.hid hF
 have tf0 := tk_f0
 have tf1 := tk_f1
 have tf2 := tk_f2
 have HRL := Lib.hid (And.intro hs.rlt hs.glt)
 have FS := Lib.hid (Fm.start hs (.int .i64 0) (.int .i64 0) (.int .i64 0) (.int .i64 0) (.string ⟨#[]⟩) (.slice none 0 0))
 obtain ⟨w0, hw0⟩ : ∃ W, W = w.alloc (.cells #[.int .i64 0, .int .i64 0, .int .i64 0, .int .i64 0, .string ⟨#[]⟩, .slice none 0 0] 24) := ⟨_, rfl⟩
 have F0 : Hid (Fm p w w0 s) := Lib.hid (by rw [hw0]; exact FS.out)
 have HW0 := Lib.hid hw0
 clear hs hi hr hw0 FS hS hF
 go_enter Tryz.func68, Tryz.ntmps68
 go_wp2_with fail
 rw [← HW0.out]
 refine (pstands_any p wType s _ (F0.out).st).mono ?_
 rintro ee w1 ⟨rfl, hb⟩
 have F1 := Lib.hid ((F0.out).below hb)
 have HI1 := HI0
 have hr0 := HRL.out
 have hl0 := F0.out.lt
 clear hr0 hl0
 clear hb
 obtain ⟨b, hc⟩ : ∃ b, atB p.ts s wType = b := ⟨_, rfl⟩
 have hr := HR.out
 try rw [hc]
 cases b with
 | true =>
  simp only [hc, if_true] at hr
  have HR := Lib.hid hr
  have HC1 := Lib.hid hc
  clear hr hc
  go_wp2_with fail
  refine (HS.out s _ (F1.out).st (by have h1 := HI1.out; omega) r HR.out).mono ?_
  intro ee w2 he
  cases r with
  | bad kk xx =>
   obtain ⟨rfl, hf⟩ := he
   have HE := Lib.hid ((F1.out).fr.trans hf)
   clear hf
   go_wp2_with fail
   exact ⟨rfl, rfl, HE.out⟩
  | ok n_z s2 =>
   obtain ⟨⟨v, rfl, hn⟩, hs, hf, hi, ho⟩ := he
   obtain ⟨A_z, c_z, rfl, hc, hk⟩ := hn.open
   have F2 := Lib.hid ((F1.out).step hf hs)
   have HI2 : Hid (1 ≤ s2.i ∧ s.i < s2.i ∧ s2.o = s.o + 0) := Lib.hid (by have h1 := HI1.out; omega)
   have K_z : Hid (n_z.kids.length ≤ c_z ∧ SIn w2 (fun b => w.heap.size < b) n_z.kids A_z) := Lib.hid ⟨hc, hk.wide (fun k _ h1 => Nat.lt_of_lt_of_le (F1.out).lt h1)⟩
   clear hn hc hk hs hf hi ho
   obtain ⟨z0, z1, z2, z3, z4, z5, hres⟩ := F2.out.res
   obtain ⟨y0, y1, y2, y3, y4, y5⟩ := six_cells hres
   have x0 := frozen_of_row _ w.heap.size 0 _ _ hres
   have x1 := frozen_of_row _ w.heap.size 1 _ _ hres
   have x2 := frozen_of_row _ w.heap.size 2 _ _ hres
   have x3 := frozen_of_row _ w.heap.size 3 _ _ hres
   have x4 := frozen_of_row _ w.heap.size 4 _ _ hres
   have x5 := frozen_of_row _ w.heap.size 5 _ _ hres
   have HRES := Lib.hid hres
   clear hres
   go_wp2_with fail
   have h1 := HI2.out
   exact ret_cell1A (p := 2) rfl _ rfl _ (load_nd (six_heap HRES.out)) (F2.out.doneN (K_z.out.2.wide (fun _ _ hk => hk)) K_z.out.1 (by omega) (by omega))
 | false =>
  simp only [hc, if_false, Bool.false_eq_true] at hr
  have HR := Lib.hid hr
  have HC1 := Lib.hid hc
  clear hr hc
  go_wp2_with fail
  refine (HF.out s _ (F1.out).st (by have h1 := HI1.out; omega) r HR.out).mono ?_
  intro ee w2 he
  cases r with
  | bad kk xx =>
   obtain ⟨rfl, hf⟩ := he
   have HE := Lib.hid ((F1.out).fr.trans hf)
   clear hf
   go_wp2_with fail
   exact ⟨rfl, rfl, HE.out⟩
  | ok n_z s2 =>
   obtain ⟨⟨v, rfl, hn⟩, hs, hf, hi, ho⟩ := he
   obtain ⟨A_z, c_z, rfl, hc, hk⟩ := hn.open
   have F2 := Lib.hid ((F1.out).step hf hs)
   have HI2 : Hid (1 ≤ s2.i ∧ s.i < s2.i ∧ s2.o = s.o + 0) := Lib.hid (by have h1 := HI1.out; omega)
   have K_z : Hid (n_z.kids.length ≤ c_z ∧ SIn w2 (fun b => w.heap.size < b) n_z.kids A_z) := Lib.hid ⟨hc, hk.wide (fun k _ h1 => Nat.lt_of_lt_of_le (F1.out).lt h1)⟩
   clear hn hc hk hs hf hi ho
   obtain ⟨z0, z1, z2, z3, z4, z5, hres⟩ := F2.out.res
   obtain ⟨y0, y1, y2, y3, y4, y5⟩ := six_cells hres
   have x0 := frozen_of_row _ w.heap.size 0 _ _ hres
   have x1 := frozen_of_row _ w.heap.size 1 _ _ hres
   have x2 := frozen_of_row _ w.heap.size 2 _ _ hres
   have x3 := frozen_of_row _ w.heap.size 3 _ _ hres
   have x4 := frozen_of_row _ w.heap.size 4 _ _ hres
   have x5 := frozen_of_row _ w.heap.size 5 _ _ hres
   have HRES := Lib.hid hres
   clear hres
   go_wp2_with fail
   have h1 := HI2.out
   exact ret_cell1A (p := 2) rfl _ rfl _ (load_nd (six_heap HRES.out)) (F2.out.doneN (K_z.out.2.wide (fun _ _ hk => hk)) K_z.out.1 (by omega) (by omega))
set_option maxRecDepth 100000 in
set_option maxHeartbeats 4000000 in
theorem pother_any (p : PC) (st co : Rd) (f : Nat) (hC : RdC p 162 #[.pointer (some ⟨p.R, 0, none⟩)] co) (hB : RdC p 119 #[.pointer (some ⟨p.R, 0, none⟩)] (blockP p.ts st f)) : RdC p 187 #[.pointer (some ⟨p.R, 0, none⟩)] (otherP p.ts st co f) := by
 intro s w hs hi r hr
 unfold otherP at hr
 have HR := Lib.hid hr
 have HI0 : Hid (1 ≤ s.i ∧ s.i ≤ s.i ∧ s.o = s.o) := Lib.hid ⟨hi, Nat.le_refl _, rfl⟩
 have HC := Lib.hid hC
 have HB := Lib.hid hB
 have tf0 := tk_f0
 have tf1 := tk_f1
 have tf2 := tk_f2
 have HRL := Lib.hid (And.intro hs.rlt hs.glt)
 have FS := Lib.hid (Fm.start hs (.int .i64 0) (.int .i64 0) (.int .i64 0) (.int .i64 0) (.string ⟨#[]⟩) (.slice none 0 0))
 obtain ⟨w0, hw0⟩ : ∃ W, W = w.alloc (.cells #[.int .i64 0, .int .i64 0, .int .i64 0, .int .i64 0, .string ⟨#[]⟩, .slice none 0 0] 24) := ⟨_, rfl⟩
 have F0 : Hid (Fm p w w0 s) := Lib.hid (by rw [hw0]; exact FS.out)
 have HW0 := Lib.hid hw0
 clear hs hi hr hw0 FS hC hB
 go_enter Tryz.func187, Tryz.ntmps187
 go_wp2_with fail
 rw [← HW0.out]
 refine (pstands_any p wIf s _ (F0.out).st).mono ?_
 rintro ee w1 ⟨rfl, hb⟩
 have F1 := Lib.hid ((F0.out).below hb)
 have HI1 := HI0
 have hr0 := HRL.out
 have hl0 := F0.out.lt
 clear hr0 hl0
 clear hb
 obtain ⟨b, hc⟩ : ∃ b, atB p.ts s wIf = b := ⟨_, rfl⟩
 have hr := HR.out
 try rw [hc]
 cases b with
 | true =>
  simp only [hc, if_true] at hr
  have HR := Lib.hid hr
  have HC1 := Lib.hid hc
  clear hr hc
  go_wp2_with fail
  refine (HC.out s _ (F1.out).st (by have h1 := HI1.out; omega) r HR.out).mono ?_
  intro ee w2 he
  cases r with
  | bad kk xx =>
   obtain ⟨rfl, hf⟩ := he
   have HE := Lib.hid ((F1.out).fr.trans hf)
   clear hf
   go_wp2_with fail
   exact ⟨rfl, rfl, HE.out⟩
  | ok n_z s2 =>
   obtain ⟨⟨v, rfl, hn⟩, hs, hf, hi, ho⟩ := he
   obtain ⟨A_z, c_z, rfl, hc, hk⟩ := hn.open
   have F2 := Lib.hid ((F1.out).step hf hs)
   have HI2 : Hid (1 ≤ s2.i ∧ s.i < s2.i ∧ s2.o = s.o + 0) := Lib.hid (by have h1 := HI1.out; omega)
   have K_z : Hid (n_z.kids.length ≤ c_z ∧ SIn w2 (fun b => w.heap.size < b) n_z.kids A_z) := Lib.hid ⟨hc, hk.wide (fun k _ h1 => Nat.lt_of_lt_of_le (F1.out).lt h1)⟩
   clear hn hc hk hs hf hi ho
   obtain ⟨z0, z1, z2, z3, z4, z5, hres⟩ := F2.out.res
   obtain ⟨y0, y1, y2, y3, y4, y5⟩ := six_cells hres
   have x0 := frozen_of_row _ w.heap.size 0 _ _ hres
   have x1 := frozen_of_row _ w.heap.size 1 _ _ hres
   have x2 := frozen_of_row _ w.heap.size 2 _ _ hres
   have x3 := frozen_of_row _ w.heap.size 3 _ _ hres
   have x4 := frozen_of_row _ w.heap.size 4 _ _ hres
   have x5 := frozen_of_row _ w.heap.size 5 _ _ hres
   have HRES := Lib.hid hres
   clear hres
   go_wp2_with fail
   have h1 := HI2.out
   exact ret_cell1A (p := 2) rfl _ rfl _ (load_nd (six_heap HRES.out)) (F2.out.doneN (K_z.out.2.wide (fun _ _ hk => hk)) K_z.out.1 (by omega) (by omega))
 | false =>
  simp only [hc, if_false, Bool.false_eq_true] at hr
  have HR := Lib.hid hr
  have HC1 := Lib.hid hc
  clear hr hc
  go_wp2_with fail
  refine (HB.out s _ (F1.out).st (by have h1 := HI1.out; omega) r HR.out).mono ?_
  intro ee w2 he
  cases r with
  | bad kk xx =>
   obtain ⟨rfl, hf⟩ := he
   have HE := Lib.hid ((F1.out).fr.trans hf)
   clear hf
   go_wp2_with fail
   exact ⟨rfl, rfl, HE.out⟩
  | ok n_z s2 =>
   obtain ⟨⟨v, rfl, hn⟩, hs, hf, hi, ho⟩ := he
   obtain ⟨A_z, c_z, rfl, hc, hk⟩ := hn.open
   have F2 := Lib.hid ((F1.out).step hf hs)
   have HI2 : Hid (1 ≤ s2.i ∧ s.i < s2.i ∧ s2.o = s.o + 0) := Lib.hid (by have h1 := HI1.out; omega)
   have K_z : Hid (n_z.kids.length ≤ c_z ∧ SIn w2 (fun b => w.heap.size < b) n_z.kids A_z) := Lib.hid ⟨hc, hk.wide (fun k _ h1 => Nat.lt_of_lt_of_le (F1.out).lt h1)⟩
   clear hn hc hk hs hf hi ho
   obtain ⟨z0, z1, z2, z3, z4, z5, hres⟩ := F2.out.res
   obtain ⟨y0, y1, y2, y3, y4, y5⟩ := six_cells hres
   have x0 := frozen_of_row _ w.heap.size 0 _ _ hres
   have x1 := frozen_of_row _ w.heap.size 1 _ _ hres
   have x2 := frozen_of_row _ w.heap.size 2 _ _ hres
   have x3 := frozen_of_row _ w.heap.size 3 _ _ hres
   have x4 := frozen_of_row _ w.heap.size 4 _ _ hres
   have x5 := frozen_of_row _ w.heap.size 5 _ _ hres
   have HRES := Lib.hid hres
   clear hres
   go_wp2_with fail
   have h1 := HI2.out
   exact ret_cell1A (p := 2) rfl _ rfl _ (load_nd (six_heap HRES.out)) (F2.out.doneN (K_z.out.2.wide (fun _ _ hk => hk)) K_z.out.1 (by omega) (by omega))
end Go.Proofs.YtmlclgkhnekmnaaGreatDoor
