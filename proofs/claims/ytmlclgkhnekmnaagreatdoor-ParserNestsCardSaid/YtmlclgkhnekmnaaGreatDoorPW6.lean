/- The parser's operand. (Written by a program.) -/
import Derived.Test.YtmlclgkhnekmnaaGreatDoorPW1
namespace Go.Proofs.YtmlclgkhnekmnaaGreatDoor
open Go.RowKit
set_option maxRecDepth 100000 in
set_option maxHeartbeats 4000000 in
theorem poperand_any (p : PC) (ex : Rd) (hE : RdC p 186 #[.pointer (some ⟨p.R, 0, none⟩)] ex) (f : Nat) (hA : RsC p 193 #[.pointer (some ⟨p.R, 0, none⟩)] (argsP p.ts ex f)) : RdC p 191 #[.pointer (some ⟨p.R, 0, none⟩)] (operandP p.ts ex f) := by
 intro s w hs hi r hr
 unfold operandP at hr
 have HR := Lib.hid hr
 have HI0 : Hid (1 ≤ s.i ∧ s.i ≤ s.i ∧ s.o = s.o) := Lib.hid ⟨hi, Nat.le_refl _, rfl⟩
 have HE := Lib.hid hE
 have HA := Lib.hid hA
 have tf0 := tk_f0
 have tf1 := tk_f1
 have tf2 := tk_f2
 have HRL := Lib.hid (And.intro hs.rlt hs.glt)
 have FS := Lib.hid (Fm.start hs (.int .i64 0) (.int .i64 0) (.int .i64 0) (.int .i64 0) (.string ⟨#[]⟩) (.slice none 0 0))
 obtain ⟨w0, hw0⟩ : ∃ W, W = w.alloc (.cells #[.int .i64 0, .int .i64 0, .int .i64 0, .int .i64 0, .string ⟨#[]⟩, .slice none 0 0] 24) := ⟨_, rfl⟩
 have F0 : Hid (Fm p w w0 s) := Lib.hid (by rw [hw0]; exact FS.out)
 have HW0 := Lib.hid hw0
 clear hs hi hr hw0 FS hE hA
 go_enter Tryz.func191, Tryz.ntmps191
 go_wp2_with fail
 rw [← HW0.out]
 refine (ptoken_any p s _ (F0.out).st).mono ?_
 rintro ee w1 ⟨rfl, hb⟩
 have F1 := Lib.hid ((F0.out).below hb)
 have HI1 := HI0
 have hr0 := HRL.out
 have hl0 := F0.out.lt
 clear hr0 hl0
 clear hb
 obtain ⟨b, hc⟩ : ∃ b, kdB p.ts s 3 = b := ⟨_, rfl⟩
 have hq1 : (((((tk p.ts s).1 : Nat) : Int) == 3)) = b := by rw [← hc]; exact kd_int p.ts s 3
 have hr := HR.out
 cases b with
 | true =>
  simp only [hc, if_true] at hr
  have HR := Lib.hid hr
  have HC1 := Lib.hid hc
  clear hr hc
  go_wp2_with fail
  refine (pleaf_any p 21 s _ ((F1.out.alloc _)).st (by have h1 := HI1.out; omega) (F1.out.st.more_kd (k := 3) (by decide) HC1.out) r HR.out).mono ?_
  intro ee w2 he
  cases r with
  | bad kk xx =>
   obtain ⟨rfl, hf⟩ := he
   have HE := Lib.hid (((F1.out.alloc _)).fr.trans hf)
   clear hf
   go_wp2_with fail
   exact ⟨rfl, rfl, HE.out⟩
  | ok n_z s2 =>
   obtain ⟨⟨v, rfl, hn⟩, hs, hf, hi, ho⟩ := he
   obtain ⟨A_z, c_z, rfl, hc, hk⟩ := hn.open
   have F2 := Lib.hid (((F1.out.alloc _)).step hf hs)
   have HI2 : Hid (1 ≤ s2.i ∧ s.i < s2.i ∧ s2.o = s.o + 0) := Lib.hid (by have h1 := HI1.out; omega)
   have K_z : Hid (n_z.kids.length ≤ c_z ∧ SIn w2 (fun b => w.heap.size < b) n_z.kids A_z) := Lib.hid ⟨hc, hk.wide (fun k _ h1 => Nat.lt_of_lt_of_le ((F1.out.alloc _)).lt h1)⟩
   clear hn hc hk hs hf hi ho
   obtain ⟨z0, z1, z2, z3, z4, z5, hres⟩ := F2.out.res
   obtain ⟨y0, y1, y2, y3, y4, y5⟩ := six_cells hres
   have x0 := frozen_of_row _ w.heap.size 0 _ _ hres
   have x1 := frozen_of_row _ w.heap.size 1 _ _ hres
   have x2 := frozen_of_row _ w.heap.size 2 _ _ hres
   have x3 := frozen_of_row _ w.heap.size 3 _ _ hres
   have x4 := frozen_of_row _ w.heap.size 4 _ _ hres
   have x5 := frozen_of_row _ w.heap.size 5 _ _ hres
   have HRES := Lib.hid hres
   clear hres
   go_wp2_with fail
   have h1 := HI2.out
   exact ret_cell1A (p := 2) rfl _ rfl _ (load_nd (six_heap HRES.out)) (F2.out.doneN (K_z.out.2.wide (fun _ _ hk => hk)) K_z.out.1 (by omega) (by omega))
 | false =>
  simp only [hc, if_false, Bool.false_eq_true] at hr
  have HR := Lib.hid hr
  have HC1 := Lib.hid hc
  clear hr hc
  obtain ⟨b, hc⟩ : ∃ b, kdB p.ts s 4 = b := ⟨_, rfl⟩
  have hq2 : (((((tk p.ts s).1 : Nat) : Int) == 4)) = b := by rw [← hc]; exact kd_int p.ts s 4
  have hr := HR.out
  cases b with
  | true =>
   simp only [hc, if_true] at hr
   have HR := Lib.hid hr
   have HC1 := Lib.hid hc
   clear hr hc
   go_wp2_with fail
   refine (pleaf_any p 22 s _ ((F1.out.alloc _)).st (by have h1 := HI1.out; omega) (F1.out.st.more_kd (k := 4) (by decide) HC1.out) r HR.out).mono ?_
   intro ee w2 he
   cases r with
   | bad kk xx =>
    obtain ⟨rfl, hf⟩ := he
    have HE := Lib.hid (((F1.out.alloc _)).fr.trans hf)
    clear hf
    go_wp2_with fail
    exact ⟨rfl, rfl, HE.out⟩
   | ok n_z s2 =>
    obtain ⟨⟨v, rfl, hn⟩, hs, hf, hi, ho⟩ := he
    obtain ⟨A_z, c_z, rfl, hc, hk⟩ := hn.open
    have F2 := Lib.hid (((F1.out.alloc _)).step hf hs)
    have HI2 : Hid (1 ≤ s2.i ∧ s.i < s2.i ∧ s2.o = s.o + 0) := Lib.hid (by have h1 := HI1.out; omega)
    have K_z : Hid (n_z.kids.length ≤ c_z ∧ SIn w2 (fun b => w.heap.size < b) n_z.kids A_z) := Lib.hid ⟨hc, hk.wide (fun k _ h1 => Nat.lt_of_lt_of_le ((F1.out.alloc _)).lt h1)⟩
    clear hn hc hk hs hf hi ho
    obtain ⟨z0, z1, z2, z3, z4, z5, hres⟩ := F2.out.res
    obtain ⟨y0, y1, y2, y3, y4, y5⟩ := six_cells hres
    have x0 := frozen_of_row _ w.heap.size 0 _ _ hres
    have x1 := frozen_of_row _ w.heap.size 1 _ _ hres
    have x2 := frozen_of_row _ w.heap.size 2 _ _ hres
    have x3 := frozen_of_row _ w.heap.size 3 _ _ hres
    have x4 := frozen_of_row _ w.heap.size 4 _ _ hres
    have x5 := frozen_of_row _ w.heap.size 5 _ _ hres
    have HRES := Lib.hid hres
    clear hres
    go_wp2_with fail
    have h1 := HI2.out
    exact ret_cell1A (p := 2) rfl _ rfl _ (load_nd (six_heap HRES.out)) (F2.out.doneN (K_z.out.2.wide (fun _ _ hk => hk)) K_z.out.1 (by omega) (by omega))
  | false =>
   simp only [hc, if_false, Bool.false_eq_true] at hr
   have HR := Lib.hid hr
   have HC1 := Lib.hid hc
   clear hr hc
   obtain ⟨b, hc⟩ : ∃ b, kdB p.ts s 5 = b := ⟨_, rfl⟩
   have hq3 : (((((tk p.ts s).1 : Nat) : Int) == 5)) = b := by rw [← hc]; exact kd_int p.ts s 5
   have hr := HR.out
   cases b with
   | true =>
    simp only [hc, if_true] at hr
    have HR := Lib.hid hr
    have HC1 := Lib.hid hc
    clear hr hc
    go_wp2_with fail
    refine (pleaf_any p 23 s _ ((F1.out.alloc _)).st (by have h1 := HI1.out; omega) (F1.out.st.more_kd (k := 5) (by decide) HC1.out) r HR.out).mono ?_
    intro ee w2 he
    cases r with
    | bad kk xx =>
     obtain ⟨rfl, hf⟩ := he
     have HE := Lib.hid (((F1.out.alloc _)).fr.trans hf)
     clear hf
     go_wp2_with fail
     exact ⟨rfl, rfl, HE.out⟩
    | ok n_z s2 =>
     obtain ⟨⟨v, rfl, hn⟩, hs, hf, hi, ho⟩ := he
     obtain ⟨A_z, c_z, rfl, hc, hk⟩ := hn.open
     have F2 := Lib.hid (((F1.out.alloc _)).step hf hs)
     have HI2 : Hid (1 ≤ s2.i ∧ s.i < s2.i ∧ s2.o = s.o + 0) := Lib.hid (by have h1 := HI1.out; omega)
     have K_z : Hid (n_z.kids.length ≤ c_z ∧ SIn w2 (fun b => w.heap.size < b) n_z.kids A_z) := Lib.hid ⟨hc, hk.wide (fun k _ h1 => Nat.lt_of_lt_of_le ((F1.out.alloc _)).lt h1)⟩
     clear hn hc hk hs hf hi ho
     obtain ⟨z0, z1, z2, z3, z4, z5, hres⟩ := F2.out.res
     obtain ⟨y0, y1, y2, y3, y4, y5⟩ := six_cells hres
     have x0 := frozen_of_row _ w.heap.size 0 _ _ hres
     have x1 := frozen_of_row _ w.heap.size 1 _ _ hres
     have x2 := frozen_of_row _ w.heap.size 2 _ _ hres
     have x3 := frozen_of_row _ w.heap.size 3 _ _ hres
     have x4 := frozen_of_row _ w.heap.size 4 _ _ hres
     have x5 := frozen_of_row _ w.heap.size 5 _ _ hres
     have HRES := Lib.hid hres
     clear hres
     go_wp2_with fail
     have h1 := HI2.out
     exact ret_cell1A (p := 2) rfl _ rfl _ (load_nd (six_heap HRES.out)) (F2.out.doneN (K_z.out.2.wide (fun _ _ hk => hk)) K_z.out.1 (by omega) (by omega))
   | false =>
    simp only [hc, if_false, Bool.false_eq_true] at hr
    have HR := Lib.hid hr
    have HC1 := Lib.hid hc
    clear hr hc
    obtain ⟨b, hc⟩ : ∃ b, kdB p.ts s 1 = b := ⟨_, rfl⟩
    have hq4 : (((((tk p.ts s).1 : Nat) : Int) == 1)) = b := by rw [← hc]; exact kd_int p.ts s 1
    have hr := HR.out
    cases b with
    | true =>
     simp only [hc, if_true] at hr
     have HR := Lib.hid hr
     have HC1 := Lib.hid hc
     clear hr hc
     go_wp2_with fail
     refine (pleaf_any p 25 s _ ((F1.out.alloc _)).st (by have h1 := HI1.out; omega) (F1.out.st.more_kd (k := 1) (by decide) HC1.out) r HR.out).mono ?_
     intro ee w2 he
     cases r with
     | bad kk xx =>
      obtain ⟨rfl, hf⟩ := he
      have HE := Lib.hid (((F1.out.alloc _)).fr.trans hf)
      clear hf
      go_wp2_with fail
      exact ⟨rfl, rfl, HE.out⟩
     | ok n_z s2 =>
      obtain ⟨⟨v, rfl, hn⟩, hs, hf, hi, ho⟩ := he
      obtain ⟨A_z, c_z, rfl, hc, hk⟩ := hn.open
      have F2 := Lib.hid (((F1.out.alloc _)).step hf hs)
      have HI2 : Hid (1 ≤ s2.i ∧ s.i < s2.i ∧ s2.o = s.o + 0) := Lib.hid (by have h1 := HI1.out; omega)
      have K_z : Hid (n_z.kids.length ≤ c_z ∧ SIn w2 (fun b => w.heap.size < b) n_z.kids A_z) := Lib.hid ⟨hc, hk.wide (fun k _ h1 => Nat.lt_of_lt_of_le ((F1.out.alloc _)).lt h1)⟩
      clear hn hc hk hs hf hi ho
      obtain ⟨z0, z1, z2, z3, z4, z5, hres⟩ := F2.out.res
      obtain ⟨y0, y1, y2, y3, y4, y5⟩ := six_cells hres
      have x0 := frozen_of_row _ w.heap.size 0 _ _ hres
      have x1 := frozen_of_row _ w.heap.size 1 _ _ hres
      have x2 := frozen_of_row _ w.heap.size 2 _ _ hres
      have x3 := frozen_of_row _ w.heap.size 3 _ _ hres
      have x4 := frozen_of_row _ w.heap.size 4 _ _ hres
      have x5 := frozen_of_row _ w.heap.size 5 _ _ hres
      have HRES := Lib.hid hres
      clear hres
      go_wp2_with fail
      have h1 := HI2.out
      exact ret_cell1A (p := 2) rfl _ rfl _ (load_nd (six_heap HRES.out)) (F2.out.doneN (K_z.out.2.wide (fun _ _ hk => hk)) K_z.out.1 (by omega) (by omega))
    | false =>
     simp only [hc, if_false, Bool.false_eq_true] at hr
     have HR := Lib.hid hr
     have HC1 := Lib.hid hc
     clear hr hc
     go_wp2_with fail
     refine (ptoken_any p s _ ((F1.out.alloc _)).st).mono ?_
     rintro ee w2 ⟨rfl, hb⟩
     have F2 := Lib.hid (((F1.out.alloc _)).below hb)
     have HI2 := HI1
     have hr0 := HRL.out
     have hl0 := F1.out.lt
     have T_t := Lib.hid ((PFr.of_below (R := p.R) hb).kept (N := w1.heap.size) (by omega) (alloc_top w1 _ _))
     have hl_t : Hid (w.heap.size < w1.heap.size) := Lib.hid (by omega)
     have hd_t : Hid (0 = 0) := Lib.hid (by omega)
     clear hr0 hl0
     clear hb
     obtain ⟨b, hc⟩ : ∃ b, atB p.ts s wTrue = b := ⟨_, rfl⟩
     have hq5 : ((txt (tk p.ts s).2.1).toList == [116, 114, 117, 101]) = b := by rw [← hc]; exact tx_at p.ts s wTrue
     have hr := HR.out
     cases b with
     | true =>
      simp only [hc, if_true, Bool.true_or] at hr
      have HR := Lib.hid hr
      have HC2 := Lib.hid hc
      clear hr hc
      go_wp2_with fail
      refine (pleaf_any p 24 s _ ((F2.out.alloc _)).st (by have h1 := HI2.out; omega) (F2.out.st.more_at (m := wTrue) (by decide) HC2.out) r HR.out).mono ?_
      intro ee w3 he
      cases r with
      | bad kk xx =>
       obtain ⟨rfl, hf⟩ := he
       have HE := Lib.hid (((F2.out.alloc _)).fr.trans hf)
       clear hf
       go_wp2_with fail
       exact ⟨rfl, rfl, HE.out⟩
      | ok n_z s3 =>
       obtain ⟨⟨v, rfl, hn⟩, hs, hf, hi, ho⟩ := he
       obtain ⟨A_z, c_z, rfl, hc, hk⟩ := hn.open
       have F3 := Lib.hid (((F2.out.alloc _)).step hf hs)
       have HI3 : Hid (1 ≤ s3.i ∧ s.i < s3.i ∧ s3.o = s.o + 0) := Lib.hid (by have h1 := HI2.out; omega)
       have K_z : Hid (n_z.kids.length ≤ c_z ∧ SIn w3 (fun b => w.heap.size < b) n_z.kids A_z) := Lib.hid ⟨hc, hk.wide (fun k _ h1 => Nat.lt_of_lt_of_le ((F2.out.alloc _)).lt h1)⟩
       clear hn hc hk hs hf hi ho
       obtain ⟨z0, z1, z2, z3, z4, z5, hres⟩ := F3.out.res
       obtain ⟨y0, y1, y2, y3, y4, y5⟩ := six_cells hres
       have x0 := frozen_of_row _ w.heap.size 0 _ _ hres
       have x1 := frozen_of_row _ w.heap.size 1 _ _ hres
       have x2 := frozen_of_row _ w.heap.size 2 _ _ hres
       have x3 := frozen_of_row _ w.heap.size 3 _ _ hres
       have x4 := frozen_of_row _ w.heap.size 4 _ _ hres
       have x5 := frozen_of_row _ w.heap.size 5 _ _ hres
       have HRES := Lib.hid hres
       clear hres
       go_wp2_with fail
       have h1 := HI3.out
       exact ret_cell1A (p := 2) rfl _ rfl _ (load_nd (six_heap HRES.out)) (F3.out.doneN (K_z.out.2.wide (fun _ _ hk => hk)) K_z.out.1 (by omega) (by omega))
     | false =>
      simp only [hc, Bool.false_or] at hr
      have HR := Lib.hid hr
      have HC2 := Lib.hid hc
      clear hr hc
      obtain ⟨b, hc⟩ : ∃ b, atB p.ts s wFalse = b := ⟨_, rfl⟩
      have hq6 : ((txt (tk p.ts s).2.1).toList == [102, 97, 108, 115, 101]) = b := by rw [← hc]; exact tx_at p.ts s wFalse
      have hr := HR.out
      cases b with
      | true =>
       simp only [hc, if_true] at hr
       have HR := Lib.hid hr
       have HC2 := Lib.hid hc
       clear hr hc
       go_wp2_with fail
       refine (pleaf_any p 24 s _ ((F2.out.alloc _)).st (by have h1 := HI2.out; omega) (F2.out.st.more_at (m := wFalse) (by decide) HC2.out) r HR.out).mono ?_
       intro ee w3 he
       cases r with
       | bad kk xx =>
        obtain ⟨rfl, hf⟩ := he
        have HE := Lib.hid (((F2.out.alloc _)).fr.trans hf)
        clear hf
        go_wp2_with fail
        exact ⟨rfl, rfl, HE.out⟩
       | ok n_z s3 =>
        obtain ⟨⟨v, rfl, hn⟩, hs, hf, hi, ho⟩ := he
        obtain ⟨A_z, c_z, rfl, hc, hk⟩ := hn.open
        have F3 := Lib.hid (((F2.out.alloc _)).step hf hs)
        have HI3 : Hid (1 ≤ s3.i ∧ s.i < s3.i ∧ s3.o = s.o + 0) := Lib.hid (by have h1 := HI2.out; omega)
        have K_z : Hid (n_z.kids.length ≤ c_z ∧ SIn w3 (fun b => w.heap.size < b) n_z.kids A_z) := Lib.hid ⟨hc, hk.wide (fun k _ h1 => Nat.lt_of_lt_of_le ((F2.out.alloc _)).lt h1)⟩
        clear hn hc hk hs hf hi ho
        obtain ⟨z0, z1, z2, z3, z4, z5, hres⟩ := F3.out.res
        obtain ⟨y0, y1, y2, y3, y4, y5⟩ := six_cells hres
        have x0 := frozen_of_row _ w.heap.size 0 _ _ hres
        have x1 := frozen_of_row _ w.heap.size 1 _ _ hres
        have x2 := frozen_of_row _ w.heap.size 2 _ _ hres
        have x3 := frozen_of_row _ w.heap.size 3 _ _ hres
        have x4 := frozen_of_row _ w.heap.size 4 _ _ hres
        have x5 := frozen_of_row _ w.heap.size 5 _ _ hres
        have HRES := Lib.hid hres
        clear hres
        go_wp2_with fail
        have h1 := HI3.out
        exact ret_cell1A (p := 2) rfl _ rfl _ (load_nd (six_heap HRES.out)) (F3.out.doneN (K_z.out.2.wide (fun _ _ hk => hk)) K_z.out.1 (by omega) (by omega))
      | false =>
       simp only [hc, if_false, Bool.false_eq_true] at hr
       have HR := Lib.hid hr
       have HC2 := Lib.hid hc
       clear hr hc
       obtain ⟨b, hc⟩ : ∃ b, atB p.ts s wInt = b := ⟨_, rfl⟩
       have hq7 : ((txt (tk p.ts s).2.1).toList == [105, 110, 116]) = b := by rw [← hc]; exact tx_at p.ts s wInt
       have hr := HR.out
       cases b with
       | true =>
        simp only [hc, if_true, Bool.true_or] at hr
        have HR := Lib.hid hr
        have HC2 := Lib.hid hc
        clear hr hc
        go_wp2_with fail
        have HR := Lib.hid (bind_next HR.out)
        refine (pnext_any p s _ ((F2.out.alloc _)).st (F2.out.st.more_at (m := wInt) (by decide) HC2.out)).mono ?_
        rintro ee w3 ⟨rfl, hs, hf, -, -⟩
        have F3 := Lib.hid (((F2.out.alloc _)).step hf hs)
        have HI3 : Hid (1 ≤ (adv s).i ∧ s.i < (adv s).i ∧ (adv s).o = s.o + 0) := Lib.hid (by have h1 := HI2.out; unfold adv; simp only; omega)
        have hr0 := HRL.out
        have hl0t := hl_t.out
        have hl0 := F2.out.lt
        have hs0t := (Array.getElem?_eq_some_iff.1 T_t.out).1
        have hd0t := hd_t.out
        have T_t := Lib.hid (hf.kept (N := w1.heap.size) (by omega) (blk_alloc T_t.out))
        have T_u := Lib.hid (hf.kept (N := w2.heap.size) (by omega) (alloc_top w2 _ _))
        have hl_u : Hid (w.heap.size < w2.heap.size) := Lib.hid (by omega)
        have hd_u : Hid (w1.heap.size < w2.heap.size) := Lib.hid (by omega)
        clear hr0 hl0 hd0t hs0t hl0t
        clear hs hf
        go_wp2_with fail
        obtain ⟨r1, hx, hr⟩ := bind_pf HR.out
        have HR := Lib.hid hr
        clear hr
        refine (HA.out (adv s) _ (F3.out).st (by have h1 := HI3.out; omega) r1 hx).mono ?_
        clear hx
        intro ee w4 he
        cases r1 with
        | bad kk xx =>
         obtain ⟨rfl, hf⟩ := he
         have hrr : r = .bad kk xx := HR.out
         subst hrr
         have HE := Lib.hid ((F3.out).fr.trans hf)
         clear hf
         go_wp2_with fail
         exact ⟨rfl, rfl, HE.out⟩
        | ok n_l s4 =>
         obtain ⟨⟨A_l, c_l, rfl, hc, hk, hle⟩, hs, hf, hi, ho⟩ := he
         have F4 := Lib.hid ((F3.out).step hf hs)
         have HI4 : Hid (1 ≤ s4.i ∧ s.i < s4.i ∧ s4.o = s.o + 0) := Lib.hid (by have h1 := HI3.out; omega)
         have K_l : Hid (n_l.length ≤ c_l ∧ SIn w4 (fun b => w.heap.size < b) n_l A_l) := Lib.hid ⟨hc, hk.wide (fun k _ h1 => Nat.lt_of_lt_of_le (F3.out).lt h1)⟩
         have hr0 := HRL.out
         have hl0t := hl_t.out
         have hl0u := hl_u.out
         have hl0 := F3.out.lt
         have hs0t := (Array.getElem?_eq_some_iff.1 T_t.out).1
         have hs0u := (Array.getElem?_eq_some_iff.1 T_u.out).1
         have hd0t := hd_t.out
         have hd0u := hd_u.out
         have T_t := Lib.hid (hf.kept (N := w1.heap.size) (by omega) T_t.out)
         have T_u := Lib.hid (hf.kept (N := w2.heap.size) (by omega) T_u.out)
         clear hr0 hl0 hd0t hd0u hs0t hs0u hl0t hl0u
         have L_l := Lib.hid hle
         clear hc hk hle hs hf hi ho
         obtain ⟨qu0, qu1, qu2, qu3⟩ := tk4 T_u.out
         have qul := (Array.getElem?_eq_some_iff.1 T_u.out).1
         go_wp2_with fail
         clear qu0 qu1 qu2 qu3 qul
         refine (pmade_any p s4 _ (F4.out).st (by have h1 := HI4.out; omega) _ _ _ _ _ _ _).mono ?_
         rintro ee w5 ⟨rfl, hb⟩
         have F5 := Lib.hid ((F4.out).below hb)
         have HI5 := HI4
         have hr0 := HRL.out
         have hl0t := hl_t.out
         have hl0u := hl_u.out
         have hl0 := F4.out.lt
         have hs0t := (Array.getElem?_eq_some_iff.1 T_t.out).1
         have hs0u := (Array.getElem?_eq_some_iff.1 T_u.out).1
         have hd0t := hd_t.out
         have hd0u := hd_u.out
         have T_t := Lib.hid ((PFr.of_below (R := p.R) hb).kept (N := w1.heap.size) (by omega) T_t.out)
         have T_u := Lib.hid ((PFr.of_below (R := p.R) hb).kept (N := w2.heap.size) (by omega) T_u.out)
         have K_l : Hid (n_l.length ≤ c_l ∧ SIn w5 (fun b => w.heap.size < b) n_l A_l) := Lib.hid (And.intro K_l.out.1 (SIn.fr K_l.out.2 (PFr.of_below (R := p.R) hb) (fun hh => by have h2 : w.heap.size < p.R := hh; omega)))
         clear hr0 hl0 hd0t hd0u hs0t hs0u hl0t hl0u
         clear hb
         have hz := F5.out.lt
         have hzp := F4.out.lt
         have h1 := HI5.out
         have HSS := Lib.hid (K_l.out.2)
         clear hz hzp h1
         have hrr := (Option.some.inj HR.out).symm
         subst hrr
         obtain ⟨z0, z1, z2, z3, z4, z5, hres⟩ := F5.out.res
         obtain ⟨y0, y1, y2, y3, y4, y5⟩ := six_cells hres
         have x0 := frozen_of_row _ w.heap.size 0 _ _ hres
         have x1 := frozen_of_row _ w.heap.size 1 _ _ hres
         have x2 := frozen_of_row _ w.heap.size 2 _ _ hres
         have x3 := frozen_of_row _ w.heap.size 3 _ _ hres
         have x4 := frozen_of_row _ w.heap.size 4 _ _ hres
         have x5 := frozen_of_row _ w.heap.size 5 _ _ hres
         have HRES := Lib.hid hres
         clear hres
         go_wp2_with fail
         have h1 := HI5.out
         exact ret_cell1A (p := 2) rfl _ rfl _ (load_nd (six_heap HRES.out)) (F5.out.done (HSS.out.wide (fun _ _ hk => hk)) K_l.out.1 (by omega) (by omega) _ _ _ _ _ _ rfl)
       | false =>
        simp only [hc, Bool.false_or] at hr
        have HR := Lib.hid hr
        have HC2 := Lib.hid hc
        clear hr hc
        obtain ⟨b, hc⟩ : ∃ b, atB p.ts s wFloat = b := ⟨_, rfl⟩
        have hq8 : ((txt (tk p.ts s).2.1).toList == [102, 108, 111, 97, 116, 54, 52]) = b := by rw [← hc]; exact tx_at p.ts s wFloat
        have hr := HR.out
        cases b with
        | true =>
         simp only [hc, if_true, Bool.true_or] at hr
         have HR := Lib.hid hr
         have HC2 := Lib.hid hc
         clear hr hc
         go_wp2_with fail
         have HR := Lib.hid (bind_next HR.out)
         refine (pnext_any p s _ ((F2.out.alloc _)).st (F2.out.st.more_at (m := wFloat) (by decide) HC2.out)).mono ?_
         rintro ee w3 ⟨rfl, hs, hf, -, -⟩
         have F3 := Lib.hid (((F2.out.alloc _)).step hf hs)
         have HI3 : Hid (1 ≤ (adv s).i ∧ s.i < (adv s).i ∧ (adv s).o = s.o + 0) := Lib.hid (by have h1 := HI2.out; unfold adv; simp only; omega)
         have hr0 := HRL.out
         have hl0t := hl_t.out
         have hl0 := F2.out.lt
         have hs0t := (Array.getElem?_eq_some_iff.1 T_t.out).1
         have hd0t := hd_t.out
         have T_t := Lib.hid (hf.kept (N := w1.heap.size) (by omega) (blk_alloc T_t.out))
         have T_u := Lib.hid (hf.kept (N := w2.heap.size) (by omega) (alloc_top w2 _ _))
         have hl_u : Hid (w.heap.size < w2.heap.size) := Lib.hid (by omega)
         have hd_u : Hid (w1.heap.size < w2.heap.size) := Lib.hid (by omega)
         clear hr0 hl0 hd0t hs0t hl0t
         clear hs hf
         go_wp2_with fail
         obtain ⟨r1, hx, hr⟩ := bind_pf HR.out
         have HR := Lib.hid hr
         clear hr
         refine (HA.out (adv s) _ (F3.out).st (by have h1 := HI3.out; omega) r1 hx).mono ?_
         clear hx
         intro ee w4 he
         cases r1 with
         | bad kk xx =>
          obtain ⟨rfl, hf⟩ := he
          have hrr : r = .bad kk xx := HR.out
          subst hrr
          have HE := Lib.hid ((F3.out).fr.trans hf)
          clear hf
          go_wp2_with fail
          exact ⟨rfl, rfl, HE.out⟩
         | ok n_l s4 =>
          obtain ⟨⟨A_l, c_l, rfl, hc, hk, hle⟩, hs, hf, hi, ho⟩ := he
          have F4 := Lib.hid ((F3.out).step hf hs)
          have HI4 : Hid (1 ≤ s4.i ∧ s.i < s4.i ∧ s4.o = s.o + 0) := Lib.hid (by have h1 := HI3.out; omega)
          have K_l : Hid (n_l.length ≤ c_l ∧ SIn w4 (fun b => w.heap.size < b) n_l A_l) := Lib.hid ⟨hc, hk.wide (fun k _ h1 => Nat.lt_of_lt_of_le (F3.out).lt h1)⟩
          have hr0 := HRL.out
          have hl0t := hl_t.out
          have hl0u := hl_u.out
          have hl0 := F3.out.lt
          have hs0t := (Array.getElem?_eq_some_iff.1 T_t.out).1
          have hs0u := (Array.getElem?_eq_some_iff.1 T_u.out).1
          have hd0t := hd_t.out
          have hd0u := hd_u.out
          have T_t := Lib.hid (hf.kept (N := w1.heap.size) (by omega) T_t.out)
          have T_u := Lib.hid (hf.kept (N := w2.heap.size) (by omega) T_u.out)
          clear hr0 hl0 hd0t hd0u hs0t hs0u hl0t hl0u
          have L_l := Lib.hid hle
          clear hc hk hle hs hf hi ho
          obtain ⟨qu0, qu1, qu2, qu3⟩ := tk4 T_u.out
          have qul := (Array.getElem?_eq_some_iff.1 T_u.out).1
          go_wp2_with fail
          clear qu0 qu1 qu2 qu3 qul
          refine (pmade_any p s4 _ (F4.out).st (by have h1 := HI4.out; omega) _ _ _ _ _ _ _).mono ?_
          rintro ee w5 ⟨rfl, hb⟩
          have F5 := Lib.hid ((F4.out).below hb)
          have HI5 := HI4
          have hr0 := HRL.out
          have hl0t := hl_t.out
          have hl0u := hl_u.out
          have hl0 := F4.out.lt
          have hs0t := (Array.getElem?_eq_some_iff.1 T_t.out).1
          have hs0u := (Array.getElem?_eq_some_iff.1 T_u.out).1
          have hd0t := hd_t.out
          have hd0u := hd_u.out
          have T_t := Lib.hid ((PFr.of_below (R := p.R) hb).kept (N := w1.heap.size) (by omega) T_t.out)
          have T_u := Lib.hid ((PFr.of_below (R := p.R) hb).kept (N := w2.heap.size) (by omega) T_u.out)
          have K_l : Hid (n_l.length ≤ c_l ∧ SIn w5 (fun b => w.heap.size < b) n_l A_l) := Lib.hid (And.intro K_l.out.1 (SIn.fr K_l.out.2 (PFr.of_below (R := p.R) hb) (fun hh => by have h2 : w.heap.size < p.R := hh; omega)))
          clear hr0 hl0 hd0t hd0u hs0t hs0u hl0t hl0u
          clear hb
          have hz := F5.out.lt
          have hzp := F4.out.lt
          have h1 := HI5.out
          have HSS := Lib.hid (K_l.out.2)
          clear hz hzp h1
          have hrr := (Option.some.inj HR.out).symm
          subst hrr
          obtain ⟨z0, z1, z2, z3, z4, z5, hres⟩ := F5.out.res
          obtain ⟨y0, y1, y2, y3, y4, y5⟩ := six_cells hres
          have x0 := frozen_of_row _ w.heap.size 0 _ _ hres
          have x1 := frozen_of_row _ w.heap.size 1 _ _ hres
          have x2 := frozen_of_row _ w.heap.size 2 _ _ hres
          have x3 := frozen_of_row _ w.heap.size 3 _ _ hres
          have x4 := frozen_of_row _ w.heap.size 4 _ _ hres
          have x5 := frozen_of_row _ w.heap.size 5 _ _ hres
          have HRES := Lib.hid hres
          clear hres
          go_wp2_with fail
          have h1 := HI5.out
          exact ret_cell1A (p := 2) rfl _ rfl _ (load_nd (six_heap HRES.out)) (F5.out.done (HSS.out.wide (fun _ _ hk => hk)) K_l.out.1 (by omega) (by omega) _ _ _ _ _ _ rfl)
        | false =>
         simp only [hc, Bool.false_or] at hr
         have HR := Lib.hid hr
         have HC2 := Lib.hid hc
         clear hr hc
         obtain ⟨b, hc⟩ : ∃ b, atB p.ts s wLen = b := ⟨_, rfl⟩
         have hq9 : ((txt (tk p.ts s).2.1).toList == [108, 101, 110]) = b := by rw [← hc]; exact tx_at p.ts s wLen
         have hr := HR.out
         cases b with
         | true =>
          simp only [hc, if_true, Bool.true_or] at hr
          have HR := Lib.hid hr
          have HC2 := Lib.hid hc
          clear hr hc
          go_wp2_with fail
          have HR := Lib.hid (bind_next HR.out)
          refine (pnext_any p s _ ((F2.out.alloc _)).st (F2.out.st.more_at (m := wLen) (by decide) HC2.out)).mono ?_
          rintro ee w3 ⟨rfl, hs, hf, -, -⟩
          have F3 := Lib.hid (((F2.out.alloc _)).step hf hs)
          have HI3 : Hid (1 ≤ (adv s).i ∧ s.i < (adv s).i ∧ (adv s).o = s.o + 0) := Lib.hid (by have h1 := HI2.out; unfold adv; simp only; omega)
          have hr0 := HRL.out
          have hl0t := hl_t.out
          have hl0 := F2.out.lt
          have hs0t := (Array.getElem?_eq_some_iff.1 T_t.out).1
          have hd0t := hd_t.out
          have T_t := Lib.hid (hf.kept (N := w1.heap.size) (by omega) (blk_alloc T_t.out))
          have T_u := Lib.hid (hf.kept (N := w2.heap.size) (by omega) (alloc_top w2 _ _))
          have hl_u : Hid (w.heap.size < w2.heap.size) := Lib.hid (by omega)
          have hd_u : Hid (w1.heap.size < w2.heap.size) := Lib.hid (by omega)
          clear hr0 hl0 hd0t hs0t hl0t
          clear hs hf
          go_wp2_with fail
          obtain ⟨r1, hx, hr⟩ := bind_pf HR.out
          have HR := Lib.hid hr
          clear hr
          refine (HA.out (adv s) _ (F3.out).st (by have h1 := HI3.out; omega) r1 hx).mono ?_
          clear hx
          intro ee w4 he
          cases r1 with
          | bad kk xx =>
           obtain ⟨rfl, hf⟩ := he
           have hrr : r = .bad kk xx := HR.out
           subst hrr
           have HE := Lib.hid ((F3.out).fr.trans hf)
           clear hf
           go_wp2_with fail
           exact ⟨rfl, rfl, HE.out⟩
          | ok n_l s4 =>
           obtain ⟨⟨A_l, c_l, rfl, hc, hk, hle⟩, hs, hf, hi, ho⟩ := he
           have F4 := Lib.hid ((F3.out).step hf hs)
           have HI4 : Hid (1 ≤ s4.i ∧ s.i < s4.i ∧ s4.o = s.o + 0) := Lib.hid (by have h1 := HI3.out; omega)
           have K_l : Hid (n_l.length ≤ c_l ∧ SIn w4 (fun b => w.heap.size < b) n_l A_l) := Lib.hid ⟨hc, hk.wide (fun k _ h1 => Nat.lt_of_lt_of_le (F3.out).lt h1)⟩
           have hr0 := HRL.out
           have hl0t := hl_t.out
           have hl0u := hl_u.out
           have hl0 := F3.out.lt
           have hs0t := (Array.getElem?_eq_some_iff.1 T_t.out).1
           have hs0u := (Array.getElem?_eq_some_iff.1 T_u.out).1
           have hd0t := hd_t.out
           have hd0u := hd_u.out
           have T_t := Lib.hid (hf.kept (N := w1.heap.size) (by omega) T_t.out)
           have T_u := Lib.hid (hf.kept (N := w2.heap.size) (by omega) T_u.out)
           clear hr0 hl0 hd0t hd0u hs0t hs0u hl0t hl0u
           have L_l := Lib.hid hle
           clear hc hk hle hs hf hi ho
           obtain ⟨qu0, qu1, qu2, qu3⟩ := tk4 T_u.out
           have qul := (Array.getElem?_eq_some_iff.1 T_u.out).1
           go_wp2_with fail
           clear qu0 qu1 qu2 qu3 qul
           refine (pmade_any p s4 _ (F4.out).st (by have h1 := HI4.out; omega) _ _ _ _ _ _ _).mono ?_
           rintro ee w5 ⟨rfl, hb⟩
           have F5 := Lib.hid ((F4.out).below hb)
           have HI5 := HI4
           have hr0 := HRL.out
           have hl0t := hl_t.out
           have hl0u := hl_u.out
           have hl0 := F4.out.lt
           have hs0t := (Array.getElem?_eq_some_iff.1 T_t.out).1
           have hs0u := (Array.getElem?_eq_some_iff.1 T_u.out).1
           have hd0t := hd_t.out
           have hd0u := hd_u.out
           have T_t := Lib.hid ((PFr.of_below (R := p.R) hb).kept (N := w1.heap.size) (by omega) T_t.out)
           have T_u := Lib.hid ((PFr.of_below (R := p.R) hb).kept (N := w2.heap.size) (by omega) T_u.out)
           have K_l : Hid (n_l.length ≤ c_l ∧ SIn w5 (fun b => w.heap.size < b) n_l A_l) := Lib.hid (And.intro K_l.out.1 (SIn.fr K_l.out.2 (PFr.of_below (R := p.R) hb) (fun hh => by have h2 : w.heap.size < p.R := hh; omega)))
           clear hr0 hl0 hd0t hd0u hs0t hs0u hl0t hl0u
           clear hb
           have hz := F5.out.lt
           have hzp := F4.out.lt
           have h1 := HI5.out
           have HSS := Lib.hid (K_l.out.2)
           clear hz hzp h1
           have hrr := (Option.some.inj HR.out).symm
           subst hrr
           obtain ⟨z0, z1, z2, z3, z4, z5, hres⟩ := F5.out.res
           obtain ⟨y0, y1, y2, y3, y4, y5⟩ := six_cells hres
           have x0 := frozen_of_row _ w.heap.size 0 _ _ hres
           have x1 := frozen_of_row _ w.heap.size 1 _ _ hres
           have x2 := frozen_of_row _ w.heap.size 2 _ _ hres
           have x3 := frozen_of_row _ w.heap.size 3 _ _ hres
           have x4 := frozen_of_row _ w.heap.size 4 _ _ hres
           have x5 := frozen_of_row _ w.heap.size 5 _ _ hres
           have HRES := Lib.hid hres
           clear hres
           go_wp2_with fail
           have h1 := HI5.out
           exact ret_cell1A (p := 2) rfl _ rfl _ (load_nd (six_heap HRES.out)) (F5.out.done (HSS.out.wide (fun _ _ hk => hk)) K_l.out.1 (by omega) (by omega) _ _ _ _ _ _ rfl)
         | false =>
          simp only [hc, Bool.false_or] at hr
          have HR := Lib.hid hr
          have HC2 := Lib.hid hc
          clear hr hc
          obtain ⟨b, hc⟩ : ∃ b, atB p.ts s wPrint = b := ⟨_, rfl⟩
          have hq10 : ((txt (tk p.ts s).2.1).toList == [112, 114, 105, 110, 116]) = b := by rw [← hc]; exact tx_at p.ts s wPrint
          have hr := HR.out
          cases b with
          | true =>
           simp only [hc, if_true, Bool.true_or] at hr
           have HR := Lib.hid hr
           have HC2 := Lib.hid hc
           clear hr hc
           go_wp2_with fail
           have HR := Lib.hid (bind_next HR.out)
           refine (pnext_any p s _ ((F2.out.alloc _)).st (F2.out.st.more_at (m := wPrint) (by decide) HC2.out)).mono ?_
           rintro ee w3 ⟨rfl, hs, hf, -, -⟩
           have F3 := Lib.hid (((F2.out.alloc _)).step hf hs)
           have HI3 : Hid (1 ≤ (adv s).i ∧ s.i < (adv s).i ∧ (adv s).o = s.o + 0) := Lib.hid (by have h1 := HI2.out; unfold adv; simp only; omega)
           have hr0 := HRL.out
           have hl0t := hl_t.out
           have hl0 := F2.out.lt
           have hs0t := (Array.getElem?_eq_some_iff.1 T_t.out).1
           have hd0t := hd_t.out
           have T_t := Lib.hid (hf.kept (N := w1.heap.size) (by omega) (blk_alloc T_t.out))
           have T_u := Lib.hid (hf.kept (N := w2.heap.size) (by omega) (alloc_top w2 _ _))
           have hl_u : Hid (w.heap.size < w2.heap.size) := Lib.hid (by omega)
           have hd_u : Hid (w1.heap.size < w2.heap.size) := Lib.hid (by omega)
           clear hr0 hl0 hd0t hs0t hl0t
           clear hs hf
           go_wp2_with fail
           obtain ⟨r1, hx, hr⟩ := bind_pf HR.out
           have HR := Lib.hid hr
           clear hr
           refine (HA.out (adv s) _ (F3.out).st (by have h1 := HI3.out; omega) r1 hx).mono ?_
           clear hx
           intro ee w4 he
           cases r1 with
           | bad kk xx =>
            obtain ⟨rfl, hf⟩ := he
            have hrr : r = .bad kk xx := HR.out
            subst hrr
            have HE := Lib.hid ((F3.out).fr.trans hf)
            clear hf
            go_wp2_with fail
            exact ⟨rfl, rfl, HE.out⟩
           | ok n_l s4 =>
            obtain ⟨⟨A_l, c_l, rfl, hc, hk, hle⟩, hs, hf, hi, ho⟩ := he
            have F4 := Lib.hid ((F3.out).step hf hs)
            have HI4 : Hid (1 ≤ s4.i ∧ s.i < s4.i ∧ s4.o = s.o + 0) := Lib.hid (by have h1 := HI3.out; omega)
            have K_l : Hid (n_l.length ≤ c_l ∧ SIn w4 (fun b => w.heap.size < b) n_l A_l) := Lib.hid ⟨hc, hk.wide (fun k _ h1 => Nat.lt_of_lt_of_le (F3.out).lt h1)⟩
            have hr0 := HRL.out
            have hl0t := hl_t.out
            have hl0u := hl_u.out
            have hl0 := F3.out.lt
            have hs0t := (Array.getElem?_eq_some_iff.1 T_t.out).1
            have hs0u := (Array.getElem?_eq_some_iff.1 T_u.out).1
            have hd0t := hd_t.out
            have hd0u := hd_u.out
            have T_t := Lib.hid (hf.kept (N := w1.heap.size) (by omega) T_t.out)
            have T_u := Lib.hid (hf.kept (N := w2.heap.size) (by omega) T_u.out)
            clear hr0 hl0 hd0t hd0u hs0t hs0u hl0t hl0u
            have L_l := Lib.hid hle
            clear hc hk hle hs hf hi ho
            obtain ⟨qu0, qu1, qu2, qu3⟩ := tk4 T_u.out
            have qul := (Array.getElem?_eq_some_iff.1 T_u.out).1
            go_wp2_with fail
            clear qu0 qu1 qu2 qu3 qul
            refine (pmade_any p s4 _ (F4.out).st (by have h1 := HI4.out; omega) _ _ _ _ _ _ _).mono ?_
            rintro ee w5 ⟨rfl, hb⟩
            have F5 := Lib.hid ((F4.out).below hb)
            have HI5 := HI4
            have hr0 := HRL.out
            have hl0t := hl_t.out
            have hl0u := hl_u.out
            have hl0 := F4.out.lt
            have hs0t := (Array.getElem?_eq_some_iff.1 T_t.out).1
            have hs0u := (Array.getElem?_eq_some_iff.1 T_u.out).1
            have hd0t := hd_t.out
            have hd0u := hd_u.out
            have T_t := Lib.hid ((PFr.of_below (R := p.R) hb).kept (N := w1.heap.size) (by omega) T_t.out)
            have T_u := Lib.hid ((PFr.of_below (R := p.R) hb).kept (N := w2.heap.size) (by omega) T_u.out)
            have K_l : Hid (n_l.length ≤ c_l ∧ SIn w5 (fun b => w.heap.size < b) n_l A_l) := Lib.hid (And.intro K_l.out.1 (SIn.fr K_l.out.2 (PFr.of_below (R := p.R) hb) (fun hh => by have h2 : w.heap.size < p.R := hh; omega)))
            clear hr0 hl0 hd0t hd0u hs0t hs0u hl0t hl0u
            clear hb
            have hz := F5.out.lt
            have hzp := F4.out.lt
            have h1 := HI5.out
            have HSS := Lib.hid (K_l.out.2)
            clear hz hzp h1
            have hrr := (Option.some.inj HR.out).symm
            subst hrr
            obtain ⟨z0, z1, z2, z3, z4, z5, hres⟩ := F5.out.res
            obtain ⟨y0, y1, y2, y3, y4, y5⟩ := six_cells hres
            have x0 := frozen_of_row _ w.heap.size 0 _ _ hres
            have x1 := frozen_of_row _ w.heap.size 1 _ _ hres
            have x2 := frozen_of_row _ w.heap.size 2 _ _ hres
            have x3 := frozen_of_row _ w.heap.size 3 _ _ hres
            have x4 := frozen_of_row _ w.heap.size 4 _ _ hres
            have x5 := frozen_of_row _ w.heap.size 5 _ _ hres
            have HRES := Lib.hid hres
            clear hres
            go_wp2_with fail
            have h1 := HI5.out
            exact ret_cell1A (p := 2) rfl _ rfl _ (load_nd (six_heap HRES.out)) (F5.out.done (HSS.out.wide (fun _ _ hk => hk)) K_l.out.1 (by omega) (by omega) _ _ _ _ _ _ rfl)
          | false =>
           simp only [hc, Bool.false_or] at hr
           have HR := Lib.hid hr
           have HC2 := Lib.hid hc
           clear hr hc
           obtain ⟨b, hc⟩ : ∃ b, atB p.ts s wPanic = b := ⟨_, rfl⟩
           have hq11 : ((txt (tk p.ts s).2.1).toList == [112, 97, 110, 105, 99]) = b := by rw [← hc]; exact tx_at p.ts s wPanic
           have hr := HR.out
           cases b with
           | true =>
            simp only [hc, if_true] at hr
            have HR := Lib.hid hr
            have HC2 := Lib.hid hc
            clear hr hc
            go_wp2_with fail
            have HR := Lib.hid (bind_next HR.out)
            refine (pnext_any p s _ ((F2.out.alloc _)).st (F2.out.st.more_at (m := wPanic) (by decide) HC2.out)).mono ?_
            rintro ee w3 ⟨rfl, hs, hf, -, -⟩
            have F3 := Lib.hid (((F2.out.alloc _)).step hf hs)
            have HI3 : Hid (1 ≤ (adv s).i ∧ s.i < (adv s).i ∧ (adv s).o = s.o + 0) := Lib.hid (by have h1 := HI2.out; unfold adv; simp only; omega)
            have hr0 := HRL.out
            have hl0t := hl_t.out
            have hl0 := F2.out.lt
            have hs0t := (Array.getElem?_eq_some_iff.1 T_t.out).1
            have hd0t := hd_t.out
            have T_t := Lib.hid (hf.kept (N := w1.heap.size) (by omega) (blk_alloc T_t.out))
            have T_u := Lib.hid (hf.kept (N := w2.heap.size) (by omega) (alloc_top w2 _ _))
            have hl_u : Hid (w.heap.size < w2.heap.size) := Lib.hid (by omega)
            have hd_u : Hid (w1.heap.size < w2.heap.size) := Lib.hid (by omega)
            clear hr0 hl0 hd0t hs0t hl0t
            clear hs hf
            go_wp2_with fail
            obtain ⟨r1, hx, hr⟩ := bind_pf HR.out
            have HR := Lib.hid hr
            clear hr
            refine (HA.out (adv s) _ (F3.out).st (by have h1 := HI3.out; omega) r1 hx).mono ?_
            clear hx
            intro ee w4 he
            cases r1 with
            | bad kk xx =>
             obtain ⟨rfl, hf⟩ := he
             have hrr : r = .bad kk xx := HR.out
             subst hrr
             have HE := Lib.hid ((F3.out).fr.trans hf)
             clear hf
             go_wp2_with fail
             exact ⟨rfl, rfl, HE.out⟩
            | ok n_l s4 =>
             obtain ⟨⟨A_l, c_l, rfl, hc, hk, hle⟩, hs, hf, hi, ho⟩ := he
             have F4 := Lib.hid ((F3.out).step hf hs)
             have HI4 : Hid (1 ≤ s4.i ∧ s.i < s4.i ∧ s4.o = s.o + 0) := Lib.hid (by have h1 := HI3.out; omega)
             have K_l : Hid (n_l.length ≤ c_l ∧ SIn w4 (fun b => w.heap.size < b) n_l A_l) := Lib.hid ⟨hc, hk.wide (fun k _ h1 => Nat.lt_of_lt_of_le (F3.out).lt h1)⟩
             have hr0 := HRL.out
             have hl0t := hl_t.out
             have hl0u := hl_u.out
             have hl0 := F3.out.lt
             have hs0t := (Array.getElem?_eq_some_iff.1 T_t.out).1
             have hs0u := (Array.getElem?_eq_some_iff.1 T_u.out).1
             have hd0t := hd_t.out
             have hd0u := hd_u.out
             have T_t := Lib.hid (hf.kept (N := w1.heap.size) (by omega) T_t.out)
             have T_u := Lib.hid (hf.kept (N := w2.heap.size) (by omega) T_u.out)
             clear hr0 hl0 hd0t hd0u hs0t hs0u hl0t hl0u
             have L_l := Lib.hid hle
             clear hc hk hle hs hf hi ho
             obtain ⟨qu0, qu1, qu2, qu3⟩ := tk4 T_u.out
             have qul := (Array.getElem?_eq_some_iff.1 T_u.out).1
             go_wp2_with fail
             clear qu0 qu1 qu2 qu3 qul
             refine (pmade_any p s4 _ (F4.out).st (by have h1 := HI4.out; omega) _ _ _ _ _ _ _).mono ?_
             rintro ee w5 ⟨rfl, hb⟩
             have F5 := Lib.hid ((F4.out).below hb)
             have HI5 := HI4
             have hr0 := HRL.out
             have hl0t := hl_t.out
             have hl0u := hl_u.out
             have hl0 := F4.out.lt
             have hs0t := (Array.getElem?_eq_some_iff.1 T_t.out).1
             have hs0u := (Array.getElem?_eq_some_iff.1 T_u.out).1
             have hd0t := hd_t.out
             have hd0u := hd_u.out
             have T_t := Lib.hid ((PFr.of_below (R := p.R) hb).kept (N := w1.heap.size) (by omega) T_t.out)
             have T_u := Lib.hid ((PFr.of_below (R := p.R) hb).kept (N := w2.heap.size) (by omega) T_u.out)
             have K_l : Hid (n_l.length ≤ c_l ∧ SIn w5 (fun b => w.heap.size < b) n_l A_l) := Lib.hid (And.intro K_l.out.1 (SIn.fr K_l.out.2 (PFr.of_below (R := p.R) hb) (fun hh => by have h2 : w.heap.size < p.R := hh; omega)))
             clear hr0 hl0 hd0t hd0u hs0t hs0u hl0t hl0u
             clear hb
             have hz := F5.out.lt
             have hzp := F4.out.lt
             have h1 := HI5.out
             have HSS := Lib.hid (K_l.out.2)
             clear hz hzp h1
             have hrr := (Option.some.inj HR.out).symm
             subst hrr
             obtain ⟨z0, z1, z2, z3, z4, z5, hres⟩ := F5.out.res
             obtain ⟨y0, y1, y2, y3, y4, y5⟩ := six_cells hres
             have x0 := frozen_of_row _ w.heap.size 0 _ _ hres
             have x1 := frozen_of_row _ w.heap.size 1 _ _ hres
             have x2 := frozen_of_row _ w.heap.size 2 _ _ hres
             have x3 := frozen_of_row _ w.heap.size 3 _ _ hres
             have x4 := frozen_of_row _ w.heap.size 4 _ _ hres
             have x5 := frozen_of_row _ w.heap.size 5 _ _ hres
             have HRES := Lib.hid hres
             clear hres
             go_wp2_with fail
             have h1 := HI5.out
             exact ret_cell1A (p := 2) rfl _ rfl _ (load_nd (six_heap HRES.out)) (F5.out.done (HSS.out.wide (fun _ _ hk => hk)) K_l.out.1 (by omega) (by omega) _ _ _ _ _ _ rfl)
           | false =>
            simp only [hc, if_false, Bool.false_eq_true] at hr
            have HR := Lib.hid hr
            have HC2 := Lib.hid hc
            clear hr hc
            go_wp2_with fail
            obtain ⟨r1, hx, hr⟩ := bind_pf HR.out
            have HR := Lib.hid hr
            clear hr
            refine (pbegin_any p mOpen (by decide) s _ ((F2.out.alloc _)).st r1 hx).mono ?_
            clear hx
            intro ee w3 he
            cases r1 with
            | bad kk xx =>
             obtain ⟨rfl, hf⟩ := he
             have hrr : r = .bad kk xx := HR.out
             subst hrr
             have HE := Lib.hid (((F2.out.alloc _)).fr.trans hf)
             clear hf
             go_wp2_with fail
             exact ⟨rfl, rfl, HE.out⟩
            | ok t1 s3 =>
             obtain ⟨rfl, hs, hf, hi, ho⟩ := he
             have F3 := Lib.hid (((F2.out.alloc _)).step hf hs)
             have HI3 : Hid (1 ≤ s3.i ∧ s.i < s3.i ∧ s3.o = s.o + 1) := Lib.hid (by have h1 := HI2.out; omega)
             have hr0 := HRL.out
             have hl0t := hl_t.out
             have hl0 := F2.out.lt
             have hs0t := (Array.getElem?_eq_some_iff.1 T_t.out).1
             have hd0t := hd_t.out
             have T_t := Lib.hid (hf.kept (N := w1.heap.size) (by omega) (blk_alloc T_t.out))
             have T_u := Lib.hid (hf.kept (N := w2.heap.size) (by omega) (alloc_top w2 _ _))
             have hl_u : Hid (w.heap.size < w2.heap.size) := Lib.hid (by omega)
             have hd_u : Hid (w1.heap.size < w2.heap.size) := Lib.hid (by omega)
             clear hr0 hl0 hd0t hs0t hl0t
             clear hs hf hi ho
             go_wp2_with fail
             obtain ⟨r2, hx, hr⟩ := bind_pf HR.out
             have HR := Lib.hid hr
             clear hr
             refine (HE.out s3 _ (F3.out).st (by have h1 := HI3.out; omega) r2 hx).mono ?_
             clear hx
             intro ee w4 he
             cases r2 with
             | bad kk xx =>
              obtain ⟨rfl, hf⟩ := he
              have hrr : r = .bad kk xx := HR.out
              subst hrr
              have HE := Lib.hid ((F3.out).fr.trans hf)
              clear hf
              go_wp2_with fail
              exact ⟨rfl, rfl, HE.out⟩
             | ok n_e s4 =>
              obtain ⟨⟨v, rfl, hn⟩, hs, hf, hi, ho⟩ := he
              obtain ⟨A_e, c_e, rfl, hc, hk⟩ := hn.open
              have F4 := Lib.hid ((F3.out).step hf hs)
              have HI4 : Hid (1 ≤ s4.i ∧ s.i < s4.i ∧ s4.o = s.o + 1) := Lib.hid (by have h1 := HI3.out; omega)
              have K_e : Hid (n_e.kids.length ≤ c_e ∧ SIn w4 (fun b => w.heap.size < b) n_e.kids A_e) := Lib.hid ⟨hc, hk.wide (fun k _ h1 => Nat.lt_of_lt_of_le (F3.out).lt h1)⟩
              have hr0 := HRL.out
              have hl0t := hl_t.out
              have hl0u := hl_u.out
              have hl0 := F3.out.lt
              have hs0t := (Array.getElem?_eq_some_iff.1 T_t.out).1
              have hs0u := (Array.getElem?_eq_some_iff.1 T_u.out).1
              have hd0t := hd_t.out
              have hd0u := hd_u.out
              have T_t := Lib.hid (hf.kept (N := w1.heap.size) (by omega) T_t.out)
              have T_u := Lib.hid (hf.kept (N := w2.heap.size) (by omega) T_u.out)
              clear hr0 hl0 hd0t hd0u hs0t hs0u hl0t hl0u
              clear hn hc hk hs hf hi ho
              go_wp2_with fail
              obtain ⟨r3, hx, hr⟩ := bind_pf HR.out
              have HR := Lib.hid hr
              clear hr
              refine (pfinish_any p mClose (by decide) s4 _ ((F4.out.alloc _)).st (by have h1 := HI4.out; omega) r3 hx).mono ?_
              clear hx
              intro ee w5 he
              cases r3 with
              | bad kk xx =>
               obtain ⟨rfl, hf⟩ := he
               have hrr : r = .bad kk xx := HR.out
               subst hrr
               have HE := Lib.hid (((F4.out.alloc _)).fr.trans hf)
               clear hf
               go_wp2_with fail
               exact ⟨rfl, rfl, HE.out⟩
              | ok uu s5 =>
               obtain ⟨rfl, hs, hf, hi, ho⟩ := he
               have F5 := Lib.hid (((F4.out.alloc _)).step hf hs)
               have HI5 : Hid (1 ≤ s5.i ∧ s.i < s5.i ∧ s5.o = s.o + 0) := Lib.hid (by have h1 := HI4.out; omega)
               have hr0 := HRL.out
               have hl0t := hl_t.out
               have hl0u := hl_u.out
               have hl0 := F4.out.lt
               have hs0t := (Array.getElem?_eq_some_iff.1 T_t.out).1
               have hs0u := (Array.getElem?_eq_some_iff.1 T_u.out).1
               have hd0t := hd_t.out
               have hd0u := hd_u.out
               have T_t := Lib.hid (hf.kept (N := w1.heap.size) (by omega) (blk_alloc T_t.out))
               have T_u := Lib.hid (hf.kept (N := w2.heap.size) (by omega) (blk_alloc T_u.out))
               have K_e : Hid (n_e.kids.length ≤ c_e ∧ SIn w5 (fun b => w.heap.size < b) n_e.kids A_e) := Lib.hid (And.intro K_e.out.1 (SIn.fr (SIn.below K_e.out.2 (alloc_below _ _)) hf (fun hh => by have h2 : w.heap.size < p.R := hh; omega)))
               have T_e := Lib.hid (hf.kept (N := w4.heap.size) (by omega) (alloc_top w4 _ _))
               have hl_e : Hid (w.heap.size < w4.heap.size) := Lib.hid (by omega)
               have hd_e : Hid (w1.heap.size < w4.heap.size ∧ w2.heap.size < w4.heap.size) := Lib.hid (by omega)
               clear hr0 hl0 hd0t hd0u hs0t hs0u hl0t hl0u
               clear hs hf hi ho
               obtain ⟨qe0, qe1, qe2, qe3, qe4, qe5⟩ := six_cells T_e.out
               have qel := (Array.getElem?_eq_some_iff.1 T_e.out).1
               go_wp2_with fail
               clear qe0 qe1 qe2 qe3 qe4 qe5 qel
               refine (pmade_any p s5 _ ((F5.out.alloc _)).st (by have h1 := HI5.out; omega) _ _ _ _ _ _ _).mono ?_
               rintro ee w6 ⟨rfl, hb⟩
               have F6 := Lib.hid (((F5.out.alloc _)).below hb)
               have HI6 := HI5
               have hrow := blk_below (alloc_top w5 _ _) hb
               have HROW := Lib.hid hrow
               clear hrow
               have hr0 := HRL.out
               have hl0t := hl_t.out
               have hl0u := hl_u.out
               have hl0e := hl_e.out
               have hl0 := F5.out.lt
               have hs0t := (Array.getElem?_eq_some_iff.1 T_t.out).1
               have hs0u := (Array.getElem?_eq_some_iff.1 T_u.out).1
               have hs0e := (Array.getElem?_eq_some_iff.1 T_e.out).1
               have hd0t := hd_t.out
               have hd0u := hd_u.out
               have hd0e := hd_e.out
               have T_t := Lib.hid ((PFr.of_below (R := p.R) hb).kept (N := w1.heap.size) (by omega) (blk_alloc T_t.out))
               have T_u := Lib.hid ((PFr.of_below (R := p.R) hb).kept (N := w2.heap.size) (by omega) (blk_alloc T_u.out))
               have K_e : Hid (n_e.kids.length ≤ c_e ∧ SIn w6 (fun b => w.heap.size < b) n_e.kids A_e) := Lib.hid (And.intro K_e.out.1 (SIn.fr (SIn.below K_e.out.2 (alloc_below _ _)) (PFr.of_below (R := p.R) hb) (fun hh => by have h2 : w.heap.size < p.R := hh; omega)))
               have T_e := Lib.hid ((PFr.of_below (R := p.R) hb).kept (N := w4.heap.size) (by omega) (blk_alloc T_e.out))
               clear hr0 hl0 hd0t hd0u hd0e hs0t hs0u hs0e hl0t hl0u hl0e
               clear hb
               have hz := F6.out.lt
               have hzp := F5.out.lt
               have h1 := HI6.out
               have HSS := Lib.hid (sin1 (P := (fun b => w.heap.size < b)) HROW.out (by omega) K_e.out.1 K_e.out.2)
               clear hz hzp h1
               have hrr := (Option.some.inj HR.out).symm
               subst hrr
               obtain ⟨z0, z1, z2, z3, z4, z5, hres⟩ := F6.out.res
               obtain ⟨y0, y1, y2, y3, y4, y5⟩ := six_cells hres
               have x0 := frozen_of_row _ w.heap.size 0 _ _ hres
               have x1 := frozen_of_row _ w.heap.size 1 _ _ hres
               have x2 := frozen_of_row _ w.heap.size 2 _ _ hres
               have x3 := frozen_of_row _ w.heap.size 3 _ _ hres
               have x4 := frozen_of_row _ w.heap.size 4 _ _ hres
               have x5 := frozen_of_row _ w.heap.size 5 _ _ hres
               have HRES := Lib.hid hres
               clear hres
               go_wp2_with fail
               have h1 := HI6.out
               exact ret_cell1A (p := 2) rfl _ rfl _ (load_nd (six_heap HRES.out)) (F6.out.done (HSS.out.wide (fun _ _ hk => hk)) (Nat.le_refl _) (by omega) (by omega) _ _ _ _ _ _ rfl)
end Go.Proofs.YtmlclgkhnekmnaaGreatDoor
