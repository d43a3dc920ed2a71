/- The parser's function. (Written by a program.) -/
import Derived.Test.YthaaolajbmafgaaGreatDoorPW1
namespace Go.Proofs.YthaaolajbmafgaaGreatDoor
open Go.RowKit
set_option maxRecDepth 100000 in
set_option maxHeartbeats 4000000 in
theorem pfunction_any (p : PC) (f : Nat) (hRR : RdC p 129 #[.pointer (some ⟨p.R, 0, none⟩)] (receiverP p.ts)) (hP : RdC p 130 #[.pointer (some ⟨p.R, 0, none⟩)] (paramsP p.ts f)) (hT : RdC p 131 #[.pointer (some ⟨p.R, 0, none⟩)] (typP p.ts)) (hB : RdC p 132 #[.pointer (some ⟨p.R, 0, none⟩)] (blockP p.ts (stF p.ts f).1 f)) : RdC p 105 #[.pointer (some ⟨p.R, 0, none⟩)] (functionP p.ts f) := by
 intro s w hs hi r hr
 unfold functionP at hr
 have HR := Lib.hid hr
 have HI0 : Hid (1 ≤ s.i ∧ s.i ≤ s.i ∧ s.o = s.o) := Lib.hid ⟨hi, Nat.le_refl _, rfl⟩
 have HRR := Lib.hid hRR
 have HP := Lib.hid hP
 have HT := Lib.hid hT
 have HB := Lib.hid hB
 have tf0 := tk_f0
 have tf1 := tk_f1
 have tf2 := tk_f2
 have HRL := Lib.hid (And.intro hs.rlt hs.glt)
 have FS := Lib.hid (Fm.start hs (.int .i64 0) (.int .i64 0) (.int .i64 0) (.int .i64 0) (.string ⟨#[]⟩) (.slice none 0 0))
 obtain ⟨w0, hw0⟩ : ∃ W, W = w.alloc (.cells #[.int .i64 0, .int .i64 0, .int .i64 0, .int .i64 0, .string ⟨#[]⟩, .slice none 0 0] 24) := ⟨_, rfl⟩
 have F0 : Hid (Fm p w w0 s) := Lib.hid (by rw [hw0]; exact FS.out)
 have HW0 := Lib.hid hw0
 clear hs hi hr hw0 FS hRR hP hT hB
 go_enter Tryz.func105, Tryz.ntmps105
 go_wp2_with fail
 rw [← HW0.out]
 obtain ⟨r1, hx, hr⟩ := bind_pf HR.out
 have HR := Lib.hid hr
 clear hr
 refine (ptake_any p wFunc (by decide) s _ (F0.out).st r1 hx).mono ?_
 clear hx
 intro ee w1 he
 cases r1 with
 | bad kk xx =>
  obtain ⟨rfl, hf⟩ := he
  have hrr : r = .bad kk xx := HR.out
  subst hrr
  have HE := Lib.hid ((F0.out).fr.trans hf)
  clear hf
  go_wp2_with fail
  exact ⟨rfl, rfl, HE.out⟩
 | ok t1 s1 =>
  obtain ⟨rfl, hs, hf, hi, ho⟩ := he
  have F1 := Lib.hid ((F0.out).step hf hs)
  have HI1 : Hid (1 ≤ s1.i ∧ s.i < s1.i ∧ s1.o = s.o + 0) := Lib.hid (by have h1 := HI0.out; omega)
  have hr0 := HRL.out
  have hl0 := F0.out.lt
  clear hr0 hl0
  clear hs hf hi ho
  go_wp2_with fail
  refine (pstands_any p mOpen s1 _ (((F1.out.alloc _).alloc _)).st).mono ?_
  rintro ee w2 ⟨rfl, hb⟩
  have F2 := Lib.hid ((((F1.out.alloc _).alloc _)).below hb)
  have HI2 := HI1
  have hr0 := HRL.out
  have hl0 := F1.out.lt
  have T_r := Lib.hid ((PFr.of_below (R := p.R) hb).kept (N := w1.heap.size) (by omega) (blk_alloc (alloc_top w1 _ _)))
  have hl_r : Hid (w.heap.size < w1.heap.size) := Lib.hid (by omega)
  have hd_r : Hid (0 = 0) := Lib.hid (by omega)
  have T_y := Lib.hid ((PFr.of_below (R := p.R) hb).kept (N := w1.heap.size + 1) (by omega) (alloc_top2 w1 _ _ _))
  have hl_y : Hid (w.heap.size < w1.heap.size + 1) := Lib.hid (by omega)
  have hd_y : Hid (0 = 0) := Lib.hid (by omega)
  clear hr0 hl0
  clear hb
  obtain ⟨b, hc⟩ : ∃ b, atB p.ts s1 mOpen = b := ⟨_, rfl⟩
  have hr := HR.out
  try rw [hc]
  cases b with
  | true =>
   simp only [hc, optP, if_true] at hr
   have HR := Lib.hid hr
   have HC2 := Lib.hid hc
   clear hr hc
   go_wp2_with fail
   obtain ⟨r2, hx, hr⟩ := bind_pf HR.out
   have HR := Lib.hid hr
   clear hr
   refine (HRR.out s1 _ (F2.out).st (by have h1 := HI2.out; omega) r2 hx).mono ?_
   clear hx
   intro ee w3 he
   cases r2 with
   | bad kk xx =>
    obtain ⟨rfl, hf⟩ := he
    have hrr : r = .bad kk xx := HR.out
    subst hrr
    have HE := Lib.hid ((F2.out).fr.trans hf)
    clear hf
    go_wp2_with fail
    exact ⟨rfl, rfl, HE.out⟩
   | ok n_r s3 =>
    obtain ⟨⟨v, rfl, hn⟩, hs, hf, hi, ho⟩ := he
    obtain ⟨A_r, c_r, rfl, hc, hk⟩ := hn.open
    have F3 := Lib.hid ((F2.out).step hf hs)
    have HI3 : Hid (1 ≤ s3.i ∧ s.i < s3.i ∧ s3.o = s.o + 0) := Lib.hid (by have h1 := HI2.out; omega)
    have K_r : Hid (n_r.kids.length ≤ c_r ∧ SIn w3 (fun b => ((w.heap.size < b) ∧ b ≠ w1.heap.size) ∧ b ≠ w1.heap.size + 1) n_r.kids A_r) := Lib.hid ⟨hc, hk.wide (fun k _ h1 => ⟨⟨Nat.lt_of_lt_of_le (F2.out).lt h1, Nat.ne_of_gt (Nat.lt_of_lt_of_le (Array.getElem?_eq_some_iff.1 T_r.out).1 h1)⟩, Nat.ne_of_gt (Nat.lt_of_lt_of_le (Array.getElem?_eq_some_iff.1 T_y.out).1 h1)⟩)⟩
    have hr0 := HRL.out
    have hl0r := hl_r.out
    have hl0y := hl_y.out
    have hl0 := F2.out.lt
    have hs0r := (Array.getElem?_eq_some_iff.1 T_r.out).1
    have hs0y := (Array.getElem?_eq_some_iff.1 T_y.out).1
    have hd0r := hd_r.out
    have hd0y := hd_y.out
    have T_r := Lib.hid (hf.kept (N := w1.heap.size) (by omega) T_r.out)
    have T_y := Lib.hid (hf.kept (N := w1.heap.size + 1) (by omega) T_y.out)
    clear hr0 hl0 hd0r hd0y hs0r hs0y hl0r hl0y
    clear hn hc hk hs hf hi ho
    obtain ⟨qr0, qr1, qr2, qr3, qr4, qr5⟩ := six_cells T_r.out
    have qrl := (Array.getElem?_eq_some_iff.1 T_r.out).1
    have fr0 := frozen_of_row _ (w1.heap.size) 0 _ _ T_r.out
    have fr1 := frozen_of_row _ (w1.heap.size) 1 _ _ T_r.out
    have fr2 := frozen_of_row _ (w1.heap.size) 2 _ _ T_r.out
    have fr3 := frozen_of_row _ (w1.heap.size) 3 _ _ T_r.out
    have fr4 := frozen_of_row _ (w1.heap.size) 4 _ _ T_r.out
    have fr5 := frozen_of_row _ (w1.heap.size) 5 _ _ T_r.out
    go_wp2_with fail
    clear qr0 qr1 qr2 qr3 qr4 qr5 qrl fr0 fr1 fr2 fr3 fr4 fr5
    obtain ⟨r3, hx, hr⟩ := bind_pf HR.out
    have HR := Lib.hid hr
    clear hr
    refine (ptakeK_any p 1 (by decide) s3 _ ((F3.out.set6 (N := w1.heap.size) hl_r.out _ _ _ _ _ _)).st r3 hx).mono ?_
    clear hx
    intro ee w4 he
    cases r3 with
    | bad kk xx =>
     obtain ⟨rfl, hf⟩ := he
     have hrr : r = .bad kk xx := HR.out
     subst hrr
     have HE := Lib.hid (((F3.out.set6 (N := w1.heap.size) hl_r.out _ _ _ _ _ _)).fr.trans hf)
     clear hf
     go_wp2_with fail
     exact ⟨rfl, rfl, HE.out⟩
    | ok t s4 =>
     obtain ⟨rfl, hs, hf, hi, ho⟩ := he
     have F4 := Lib.hid (((F3.out.set6 (N := w1.heap.size) hl_r.out _ _ _ _ _ _)).step hf hs)
     have HI4 : Hid (1 ≤ s4.i ∧ s.i < s4.i ∧ s4.o = s.o + 0) := Lib.hid (by have h1 := HI3.out; omega)
     have hr0 := HRL.out
     have hl0r := hl_r.out
     have hl0y := hl_y.out
     have hl0 := F3.out.lt
     have hs0r := (Array.getElem?_eq_some_iff.1 T_r.out).1
     have hs0y := (Array.getElem?_eq_some_iff.1 T_y.out).1
     have hd0r := hd_r.out
     have hd0y := hd_y.out
     have K_r : Hid (n_r.kids.length ≤ c_r ∧ SIn w4 (fun b => ((w.heap.size < b) ∧ b ≠ w1.heap.size) ∧ b ≠ w1.heap.size + 1) n_r.kids A_r) := Lib.hid (And.intro K_r.out.1 (SIn.fr (SIn.keep (Q := (fun b => ((w.heap.size < b) ∧ b ≠ w1.heap.size) ∧ b ≠ w1.heap.size + 1)) (fun k hk _ => six_otherP (R := w1.heap.size) hk.1.2 ..) (fun _ hk _ => hk) K_r.out.2) hf (fun hh => by have h2 : w.heap.size < p.R := hh.1.1; omega)))
     have T_r := Lib.hid (hf.kept (N := w1.heap.size) (by omega) (six_heap T_r.out))
     have T_y := Lib.hid (hf.kept (N := w1.heap.size + 1) (by omega) (blk_set6 (R := w1.heap.size) T_y.out (by omega) _ _ _ _ _ _))
     clear hr0 hl0 hd0r hd0y hs0r hs0y hl0r hl0y
     clear hs hf hi ho
     go_wp2_with fail
     obtain ⟨r4, hx, hr⟩ := bind_pf HR.out
     have HR := Lib.hid hr
     clear hr
     refine (HP.out s4 _ ((F4.out.alloc _)).st (by have h1 := HI4.out; omega) r4 hx).mono ?_
     clear hx
     intro ee w5 he
     cases r4 with
     | bad kk xx =>
      obtain ⟨rfl, hf⟩ := he
      have hrr : r = .bad kk xx := HR.out
      subst hrr
      have HE := Lib.hid (((F4.out.alloc _)).fr.trans hf)
      clear hf
      go_wp2_with fail
      exact ⟨rfl, rfl, HE.out⟩
     | ok n_a s5 =>
      obtain ⟨⟨v, rfl, hn⟩, hs, hf, hi, ho⟩ := he
      obtain ⟨A_a, c_a, rfl, hc, hk⟩ := hn.open
      have F5 := Lib.hid (((F4.out.alloc _)).step hf hs)
      have HI5 : Hid (1 ≤ s5.i ∧ s.i < s5.i ∧ s5.o = s.o + 0) := Lib.hid (by have h1 := HI4.out; omega)
      have K_a : Hid (n_a.kids.length ≤ c_a ∧ SIn w5 (fun b => ((w.heap.size < b) ∧ b ≠ w1.heap.size) ∧ b ≠ w1.heap.size + 1) n_a.kids A_a) := Lib.hid ⟨hc, hk.wide (fun k _ h1 => ⟨⟨Nat.lt_of_lt_of_le ((F4.out.alloc _)).lt h1, Nat.ne_of_gt (Nat.lt_of_lt_of_le (Array.getElem?_eq_some_iff.1 (blk_alloc T_r.out)).1 h1)⟩, Nat.ne_of_gt (Nat.lt_of_lt_of_le (Array.getElem?_eq_some_iff.1 (blk_alloc T_y.out)).1 h1)⟩)⟩
      have hr0 := HRL.out
      have hl0r := hl_r.out
      have hl0y := hl_y.out
      have hl0 := F4.out.lt
      have hs0r := (Array.getElem?_eq_some_iff.1 T_r.out).1
      have hs0y := (Array.getElem?_eq_some_iff.1 T_y.out).1
      have hd0r := hd_r.out
      have hd0y := hd_y.out
      have K_r : Hid (n_r.kids.length ≤ c_r ∧ SIn w5 (fun b => ((w.heap.size < b) ∧ b ≠ w1.heap.size) ∧ b ≠ w1.heap.size + 1) n_r.kids A_r) := Lib.hid (And.intro K_r.out.1 (SIn.fr (SIn.below K_r.out.2 (alloc_below _ _)) hf (fun hh => by have h2 : w.heap.size < p.R := hh.1.1; omega)))
      have T_r := Lib.hid (hf.kept (N := w1.heap.size) (by omega) (blk_alloc T_r.out))
      have T_y := Lib.hid (hf.kept (N := w1.heap.size + 1) (by omega) (blk_alloc T_y.out))
      have T_t := Lib.hid (hf.kept (N := w4.heap.size) (by omega) (alloc_top w4 _ _))
      have hl_t : Hid (w.heap.size < w4.heap.size) := Lib.hid (by omega)
      have hd_t : Hid (w1.heap.size < w4.heap.size ∧ w1.heap.size + 1 < w4.heap.size) := Lib.hid (by omega)
      clear hr0 hl0 hd0r hd0y hs0r hs0y hl0r hl0y
      clear hn hc hk hs hf hi ho
      go_wp2_with fail
      refine (pstands_any p mLBrace s5 _ ((F5.out.alloc _)).st).mono ?_
      rintro ee w6 ⟨rfl, hb⟩
      have F6 := Lib.hid (((F5.out.alloc _)).below hb)
      have HI6 := HI5
      have hr0 := HRL.out
      have hl0r := hl_r.out
      have hl0y := hl_y.out
      have hl0t := hl_t.out
      have hl0 := F5.out.lt
      have hs0r := (Array.getElem?_eq_some_iff.1 T_r.out).1
      have hs0y := (Array.getElem?_eq_some_iff.1 T_y.out).1
      have hs0t := (Array.getElem?_eq_some_iff.1 T_t.out).1
      have hd0r := hd_r.out
      have hd0y := hd_y.out
      have hd0t := hd_t.out
      have K_r : Hid (n_r.kids.length ≤ c_r ∧ SIn w6 (fun b => ((w.heap.size < b) ∧ b ≠ w1.heap.size) ∧ b ≠ w1.heap.size + 1) n_r.kids A_r) := Lib.hid (And.intro K_r.out.1 (SIn.fr (SIn.below K_r.out.2 (alloc_below _ _)) (PFr.of_below (R := p.R) hb) (fun hh => by have h2 : w.heap.size < p.R := hh.1.1; omega)))
      have T_r := Lib.hid ((PFr.of_below (R := p.R) hb).kept (N := w1.heap.size) (by omega) (blk_alloc T_r.out))
      have T_y := Lib.hid ((PFr.of_below (R := p.R) hb).kept (N := w1.heap.size + 1) (by omega) (blk_alloc T_y.out))
      have T_t := Lib.hid ((PFr.of_below (R := p.R) hb).kept (N := w4.heap.size) (by omega) (blk_alloc T_t.out))
      have K_a : Hid (n_a.kids.length ≤ c_a ∧ SIn w6 (fun b => ((w.heap.size < b) ∧ b ≠ w1.heap.size) ∧ b ≠ w1.heap.size + 1) n_a.kids A_a) := Lib.hid (And.intro K_a.out.1 (SIn.fr (SIn.below K_a.out.2 (alloc_below _ _)) (PFr.of_below (R := p.R) hb) (fun hh => by have h2 : w.heap.size < p.R := hh.1.1; omega)))
      have T_a := Lib.hid ((PFr.of_below (R := p.R) hb).kept (N := w5.heap.size) (by omega) (alloc_top w5 _ _))
      have hl_a : Hid (w.heap.size < w5.heap.size) := Lib.hid (by omega)
      have hd_a : Hid (w1.heap.size < w5.heap.size ∧ w1.heap.size + 1 < w5.heap.size ∧ w4.heap.size < w5.heap.size) := Lib.hid (by omega)
      clear hr0 hl0 hd0r hd0y hd0t hs0r hs0y hs0t hl0r hl0y hl0t
      clear hb
      obtain ⟨b, hc⟩ : ∃ b, atB p.ts s5 mLBrace = b := ⟨_, rfl⟩
      have hr := HR.out
      try rw [hc]
      cases b with
      | true =>
       simp only [hc, if_false, Bool.false_eq_true, Bool.not_true] at hr
       have HR := Lib.hid hr
       have HC6 := Lib.hid hc
       clear hr hc
       have HR := Lib.hid (bind_ok HR.out)
       obtain ⟨A_y, hA⟩ : ∃ A : Option Addr, A = none := ⟨_, rfl⟩
       obtain ⟨c_y, hcc⟩ : ∃ c : Nat, c = 0 := ⟨_, rfl⟩
       have T_y : Hid (w6.heap[w1.heap.size + 1]? = some (.cells (cNd noN A_y c_y) 24 (0, 0))) := Lib.hid (by rw [hA, hcc]; exact T_y.out)
       have K_y : Hid (noN.kids.length ≤ c_y ∧ SIn w6 (fun b => ((w.heap.size < b) ∧ b ≠ w1.heap.size) ∧ b ≠ w1.heap.size + 1) noN.kids A_y) := Lib.hid ⟨Nat.zero_le _, by rw [hA]; exact sin0⟩
       clear hA hcc
       go_wp2_with fail
       obtain ⟨r5, hx, hr⟩ := bind_pf HR.out
       have HR := Lib.hid hr
       clear hr
       refine (HB.out s5 _ (F6.out).st (by have h1 := HI6.out; omega) r5 hx).mono ?_
       clear hx
       intro ee w7 he
       cases r5 with
       | bad kk xx =>
        obtain ⟨rfl, hf⟩ := he
        have hrr : r = .bad kk xx := HR.out
        subst hrr
        have HE := Lib.hid ((F6.out).fr.trans hf)
        clear hf
        go_wp2_with fail
        exact ⟨rfl, rfl, HE.out⟩
       | ok n_b s7 =>
        obtain ⟨⟨v, rfl, hn⟩, hs, hf, hi, ho⟩ := he
        obtain ⟨A_b, c_b, rfl, hc, hk⟩ := hn.open
        have F7 := Lib.hid ((F6.out).step hf hs)
        have HI7 : Hid (1 ≤ s7.i ∧ s.i < s7.i ∧ s7.o = s.o + 0) := Lib.hid (by have h1 := HI6.out; omega)
        have K_b : Hid (n_b.kids.length ≤ c_b ∧ SIn w7 (fun b => ((w.heap.size < b) ∧ b ≠ w1.heap.size) ∧ b ≠ w1.heap.size + 1) n_b.kids A_b) := Lib.hid ⟨hc, hk.wide (fun k _ h1 => ⟨⟨Nat.lt_of_lt_of_le (F6.out).lt h1, Nat.ne_of_gt (Nat.lt_of_lt_of_le (Array.getElem?_eq_some_iff.1 T_r.out).1 h1)⟩, Nat.ne_of_gt (Nat.lt_of_lt_of_le (Array.getElem?_eq_some_iff.1 T_y.out).1 h1)⟩)⟩
        have hr0 := HRL.out
        have hl0r := hl_r.out
        have hl0y := hl_y.out
        have hl0t := hl_t.out
        have hl0a := hl_a.out
        have hl0 := F6.out.lt
        have hs0r := (Array.getElem?_eq_some_iff.1 T_r.out).1
        have hs0y := (Array.getElem?_eq_some_iff.1 T_y.out).1
        have hs0t := (Array.getElem?_eq_some_iff.1 T_t.out).1
        have hs0a := (Array.getElem?_eq_some_iff.1 T_a.out).1
        have hd0r := hd_r.out
        have hd0y := hd_y.out
        have hd0t := hd_t.out
        have hd0a := hd_a.out
        have K_r : Hid (n_r.kids.length ≤ c_r ∧ SIn w7 (fun b => ((w.heap.size < b) ∧ b ≠ w1.heap.size) ∧ b ≠ w1.heap.size + 1) n_r.kids A_r) := Lib.hid (And.intro K_r.out.1 (SIn.fr K_r.out.2 hf (fun hh => by have h2 : w.heap.size < p.R := hh.1.1; omega)))
        have T_r := Lib.hid (hf.kept (N := w1.heap.size) (by omega) T_r.out)
        have K_y : Hid (noN.kids.length ≤ c_y ∧ SIn w7 (fun b => ((w.heap.size < b) ∧ b ≠ w1.heap.size) ∧ b ≠ w1.heap.size + 1) noN.kids A_y) := Lib.hid (And.intro K_y.out.1 (SIn.fr K_y.out.2 hf (fun hh => by have h2 : w.heap.size < p.R := hh.1.1; omega)))
        have T_y := Lib.hid (hf.kept (N := w1.heap.size + 1) (by omega) T_y.out)
        have T_t := Lib.hid (hf.kept (N := w4.heap.size) (by omega) T_t.out)
        have K_a : Hid (n_a.kids.length ≤ c_a ∧ SIn w7 (fun b => ((w.heap.size < b) ∧ b ≠ w1.heap.size) ∧ b ≠ w1.heap.size + 1) n_a.kids A_a) := Lib.hid (And.intro K_a.out.1 (SIn.fr K_a.out.2 hf (fun hh => by have h2 : w.heap.size < p.R := hh.1.1; omega)))
        have T_a := Lib.hid (hf.kept (N := w5.heap.size) (by omega) T_a.out)
        clear hr0 hl0 hd0r hd0y hd0t hd0a hs0r hs0y hs0t hs0a hl0r hl0y hl0t hl0a
        clear hn hc hk hs hf hi ho
        obtain ⟨qt0, qt1, qt2, qt3⟩ := tk4 T_t.out
        have qtl := (Array.getElem?_eq_some_iff.1 T_t.out).1
        obtain ⟨qr0, qr1, qr2, qr3, qr4, qr5⟩ := six_cells T_r.out
        have qrl := (Array.getElem?_eq_some_iff.1 T_r.out).1
        obtain ⟨qa0, qa1, qa2, qa3, qa4, qa5⟩ := six_cells T_a.out
        have qal := (Array.getElem?_eq_some_iff.1 T_a.out).1
        obtain ⟨qy0, qy1, qy2, qy3, qy4, qy5⟩ := six_cells T_y.out
        have qyl := (Array.getElem?_eq_some_iff.1 T_y.out).1
        go_wp2_with fail
        clear qt0 qt1 qt2 qt3 qtl qr0 qr1 qr2 qr3 qr4 qr5 qrl qa0 qa1 qa2 qa3 qa4 qa5 qal qy0 qy1 qy2 qy3 qy4 qy5 qyl
        refine (pmade_any p s7 _ (((F7.out.alloc _).alloc _)).st (by have h1 := HI7.out; omega) _ _ _ _ _ _ _).mono ?_
        rintro ee w8 ⟨rfl, hb⟩
        have F8 := Lib.hid ((((F7.out.alloc _).alloc _)).below hb)
        have HI8 := HI7
        have hrow := blk_below (alloc_top (World.alloc w7 _) _ _) hb
        simp only [World.size_alloc] at hrow
        have HROW := Lib.hid hrow
        clear hrow
        have hm_r := (Array.getElem?_eq_some_iff.1 T_r.out).1
        have hm_y := (Array.getElem?_eq_some_iff.1 T_y.out).1
        have hr0 := HRL.out
        have hl0r := hl_r.out
        have hl0y := hl_y.out
        have hl0t := hl_t.out
        have hl0a := hl_a.out
        have hl0 := F7.out.lt
        have hs0r := (Array.getElem?_eq_some_iff.1 T_r.out).1
        have hs0y := (Array.getElem?_eq_some_iff.1 T_y.out).1
        have hs0t := (Array.getElem?_eq_some_iff.1 T_t.out).1
        have hs0a := (Array.getElem?_eq_some_iff.1 T_a.out).1
        have hd0r := hd_r.out
        have hd0y := hd_y.out
        have hd0t := hd_t.out
        have hd0a := hd_a.out
        have K_r : Hid (n_r.kids.length ≤ c_r ∧ SIn w8 (fun b => ((w.heap.size < b) ∧ b ≠ w1.heap.size) ∧ b ≠ w1.heap.size + 1) n_r.kids A_r) := Lib.hid (And.intro K_r.out.1 (SIn.fr (SIn.below (SIn.below K_r.out.2 (alloc_below _ _)) (alloc_below _ _)) (PFr.of_below (R := p.R) hb) (fun hh => by have h2 : w.heap.size < p.R := hh.1.1; omega)))
        have T_r := Lib.hid ((PFr.of_below (R := p.R) hb).kept (N := w1.heap.size) (by omega) (blk_alloc (blk_alloc T_r.out)))
        have K_y : Hid (noN.kids.length ≤ c_y ∧ SIn w8 (fun b => ((w.heap.size < b) ∧ b ≠ w1.heap.size) ∧ b ≠ w1.heap.size + 1) noN.kids A_y) := Lib.hid (And.intro K_y.out.1 (SIn.fr (SIn.below (SIn.below K_y.out.2 (alloc_below _ _)) (alloc_below _ _)) (PFr.of_below (R := p.R) hb) (fun hh => by have h2 : w.heap.size < p.R := hh.1.1; omega)))
        have T_y := Lib.hid ((PFr.of_below (R := p.R) hb).kept (N := w1.heap.size + 1) (by omega) (blk_alloc (blk_alloc T_y.out)))
        have T_t := Lib.hid ((PFr.of_below (R := p.R) hb).kept (N := w4.heap.size) (by omega) (blk_alloc (blk_alloc T_t.out)))
        have K_a : Hid (n_a.kids.length ≤ c_a ∧ SIn w8 (fun b => ((w.heap.size < b) ∧ b ≠ w1.heap.size) ∧ b ≠ w1.heap.size + 1) n_a.kids A_a) := Lib.hid (And.intro K_a.out.1 (SIn.fr (SIn.below (SIn.below K_a.out.2 (alloc_below _ _)) (alloc_below _ _)) (PFr.of_below (R := p.R) hb) (fun hh => by have h2 : w.heap.size < p.R := hh.1.1; omega)))
        have T_a := Lib.hid ((PFr.of_below (R := p.R) hb).kept (N := w5.heap.size) (by omega) (blk_alloc (blk_alloc T_a.out)))
        have K_b : Hid (n_b.kids.length ≤ c_b ∧ SIn w8 (fun b => ((w.heap.size < b) ∧ b ≠ w1.heap.size) ∧ b ≠ w1.heap.size + 1) n_b.kids A_b) := Lib.hid (And.intro K_b.out.1 (SIn.fr (SIn.below (SIn.below K_b.out.2 (alloc_below _ _)) (alloc_below _ _)) (PFr.of_below (R := p.R) hb) (fun hh => by have h2 : w.heap.size < p.R := hh.1.1; omega)))
        have T_b := Lib.hid ((PFr.of_below (R := p.R) hb).kept (N := w7.heap.size) (by omega) (blk_alloc (alloc_top w7 _ _)))
        have hl_b : Hid (w.heap.size < w7.heap.size) := Lib.hid (by omega)
        have hd_b : Hid (w1.heap.size < w7.heap.size ∧ w1.heap.size + 1 < w7.heap.size ∧ w4.heap.size < w7.heap.size ∧ w5.heap.size < w7.heap.size) := Lib.hid (by omega)
        clear hr0 hl0 hd0r hd0y hd0t hd0a hs0r hs0y hs0t hs0a hl0r hl0y hl0t hl0a
        clear hb
        have hz := F8.out.lt
        have hzp := F7.out.lt
        have h1 := HI8.out
        have HSS := Lib.hid (sin4 (P := (fun b => ((w.heap.size < b) ∧ b ≠ w1.heap.size) ∧ b ≠ w1.heap.size + 1)) HROW.out (⟨⟨by omega, by omega⟩, by omega⟩) K_r.out.1 K_r.out.2 K_a.out.1 K_a.out.2 K_y.out.1 K_y.out.2 K_b.out.1 K_b.out.2)
        clear hz hzp h1 hm_r hm_y
        have hrr := (Option.some.inj HR.out).symm
        subst hrr
        obtain ⟨z0, z1, z2, z3, z4, z5, hres⟩ := F8.out.res
        obtain ⟨y0, y1, y2, y3, y4, y5⟩ := six_cells hres
        have x0 := frozen_of_row _ w.heap.size 0 _ _ hres
        have x1 := frozen_of_row _ w.heap.size 1 _ _ hres
        have x2 := frozen_of_row _ w.heap.size 2 _ _ hres
        have x3 := frozen_of_row _ w.heap.size 3 _ _ hres
        have x4 := frozen_of_row _ w.heap.size 4 _ _ hres
        have x5 := frozen_of_row _ w.heap.size 5 _ _ hres
        have HRES := Lib.hid hres
        clear hres
        go_wp2_with fail
        have h1 := HI8.out
        exact ret_cell1A (p := 2) rfl _ rfl _ (load_nd (six_heap HRES.out)) (F8.out.done (HSS.out.wide (fun _ _ hk => hk.1.1)) (Nat.le_refl _) (by omega) (by omega) _ _ _ _ _ _ rfl)
      | false =>
       simp only [hc, if_true, Bool.not_false] at hr
       have HR := Lib.hid hr
       have HC6 := Lib.hid hc
       clear hr hc
       go_wp2_with fail
       obtain ⟨r5, hx, hr⟩ := bind_pf HR.out
       have HR := Lib.hid hr
       clear hr
       refine (HT.out s5 _ (F6.out).st (by have h1 := HI6.out; omega) r5 hx).mono ?_
       clear hx
       intro ee w7 he
       cases r5 with
       | bad kk xx =>
        obtain ⟨rfl, hf⟩ := he
        have hrr : r = .bad kk xx := HR.out
        subst hrr
        have HE := Lib.hid ((F6.out).fr.trans hf)
        clear hf
        go_wp2_with fail
        exact ⟨rfl, rfl, HE.out⟩
       | ok n_y s7 =>
        obtain ⟨⟨v, rfl, hn⟩, hs, hf, hi, ho⟩ := he
        obtain ⟨A_y, c_y, rfl, hc, hk⟩ := hn.open
        have F7 := Lib.hid ((F6.out).step hf hs)
        have HI7 : Hid (1 ≤ s7.i ∧ s.i < s7.i ∧ s7.o = s.o + 0) := Lib.hid (by have h1 := HI6.out; omega)
        have K_y : Hid (n_y.kids.length ≤ c_y ∧ SIn w7 (fun b => ((w.heap.size < b) ∧ b ≠ w1.heap.size) ∧ b ≠ w1.heap.size + 1) n_y.kids A_y) := Lib.hid ⟨hc, hk.wide (fun k _ h1 => ⟨⟨Nat.lt_of_lt_of_le (F6.out).lt h1, Nat.ne_of_gt (Nat.lt_of_lt_of_le (Array.getElem?_eq_some_iff.1 T_r.out).1 h1)⟩, Nat.ne_of_gt (Nat.lt_of_lt_of_le (Array.getElem?_eq_some_iff.1 T_y.out).1 h1)⟩)⟩
        have hr0 := HRL.out
        have hl0r := hl_r.out
        have hl0y := hl_y.out
        have hl0t := hl_t.out
        have hl0a := hl_a.out
        have hl0 := F6.out.lt
        have hs0r := (Array.getElem?_eq_some_iff.1 T_r.out).1
        have hs0y := (Array.getElem?_eq_some_iff.1 T_y.out).1
        have hs0t := (Array.getElem?_eq_some_iff.1 T_t.out).1
        have hs0a := (Array.getElem?_eq_some_iff.1 T_a.out).1
        have hd0r := hd_r.out
        have hd0y := hd_y.out
        have hd0t := hd_t.out
        have hd0a := hd_a.out
        have K_r : Hid (n_r.kids.length ≤ c_r ∧ SIn w7 (fun b => ((w.heap.size < b) ∧ b ≠ w1.heap.size) ∧ b ≠ w1.heap.size + 1) n_r.kids A_r) := Lib.hid (And.intro K_r.out.1 (SIn.fr K_r.out.2 hf (fun hh => by have h2 : w.heap.size < p.R := hh.1.1; omega)))
        have T_r := Lib.hid (hf.kept (N := w1.heap.size) (by omega) T_r.out)
        have T_y := Lib.hid (hf.kept (N := w1.heap.size + 1) (by omega) T_y.out)
        have T_t := Lib.hid (hf.kept (N := w4.heap.size) (by omega) T_t.out)
        have K_a : Hid (n_a.kids.length ≤ c_a ∧ SIn w7 (fun b => ((w.heap.size < b) ∧ b ≠ w1.heap.size) ∧ b ≠ w1.heap.size + 1) n_a.kids A_a) := Lib.hid (And.intro K_a.out.1 (SIn.fr K_a.out.2 hf (fun hh => by have h2 : w.heap.size < p.R := hh.1.1; omega)))
        have T_a := Lib.hid (hf.kept (N := w5.heap.size) (by omega) T_a.out)
        clear hr0 hl0 hd0r hd0y hd0t hd0a hs0r hs0y hs0t hs0a hl0r hl0y hl0t hl0a
        clear hn hc hk hs hf hi ho
        obtain ⟨qy0, qy1, qy2, qy3, qy4, qy5⟩ := six_cells T_y.out
        have qyl := (Array.getElem?_eq_some_iff.1 T_y.out).1
        have fy0 := frozen_of_row _ (w1.heap.size + 1) 0 _ _ T_y.out
        have fy1 := frozen_of_row _ (w1.heap.size + 1) 1 _ _ T_y.out
        have fy2 := frozen_of_row _ (w1.heap.size + 1) 2 _ _ T_y.out
        have fy3 := frozen_of_row _ (w1.heap.size + 1) 3 _ _ T_y.out
        have fy4 := frozen_of_row _ (w1.heap.size + 1) 4 _ _ T_y.out
        have fy5 := frozen_of_row _ (w1.heap.size + 1) 5 _ _ T_y.out
        go_wp2_with fail
        clear qy0 qy1 qy2 qy3 qy4 qy5 qyl fy0 fy1 fy2 fy3 fy4 fy5
        obtain ⟨r6, hx, hr⟩ := bind_pf HR.out
        have HR := Lib.hid hr
        clear hr
        refine (HB.out s7 _ ((F7.out.set6 (N := w1.heap.size + 1) hl_y.out _ _ _ _ _ _)).st (by have h1 := HI7.out; omega) r6 hx).mono ?_
        clear hx
        intro ee w8 he
        cases r6 with
        | bad kk xx =>
         obtain ⟨rfl, hf⟩ := he
         have hrr : r = .bad kk xx := HR.out
         subst hrr
         have HE := Lib.hid (((F7.out.set6 (N := w1.heap.size + 1) hl_y.out _ _ _ _ _ _)).fr.trans hf)
         clear hf
         go_wp2_with fail
         exact ⟨rfl, rfl, HE.out⟩
        | ok n_b s8 =>
         obtain ⟨⟨v, rfl, hn⟩, hs, hf, hi, ho⟩ := he
         obtain ⟨A_b, c_b, rfl, hc, hk⟩ := hn.open
         have F8 := Lib.hid (((F7.out.set6 (N := w1.heap.size + 1) hl_y.out _ _ _ _ _ _)).step hf hs)
         have HI8 : Hid (1 ≤ s8.i ∧ s.i < s8.i ∧ s8.o = s.o + 0) := Lib.hid (by have h1 := HI7.out; omega)
         have K_b : Hid (n_b.kids.length ≤ c_b ∧ SIn w8 (fun b => ((w.heap.size < b) ∧ b ≠ w1.heap.size) ∧ b ≠ w1.heap.size + 1) n_b.kids A_b) := Lib.hid ⟨hc, hk.wide (fun k _ h1 => ⟨⟨Nat.lt_of_lt_of_le ((F7.out.set6 (N := w1.heap.size + 1) hl_y.out _ _ _ _ _ _)).lt h1, Nat.ne_of_gt (Nat.lt_of_lt_of_le (Array.getElem?_eq_some_iff.1 (blk_set6 (R := w1.heap.size + 1) T_r.out (by omega) _ _ _ _ _ _)).1 h1)⟩, Nat.ne_of_gt (Nat.lt_of_lt_of_le (Array.getElem?_eq_some_iff.1 (six_heap T_y.out)).1 h1)⟩)⟩
         have hr0 := HRL.out
         have hl0r := hl_r.out
         have hl0y := hl_y.out
         have hl0t := hl_t.out
         have hl0a := hl_a.out
         have hl0 := F7.out.lt
         have hs0r := (Array.getElem?_eq_some_iff.1 T_r.out).1
         have hs0y := (Array.getElem?_eq_some_iff.1 T_y.out).1
         have hs0t := (Array.getElem?_eq_some_iff.1 T_t.out).1
         have hs0a := (Array.getElem?_eq_some_iff.1 T_a.out).1
         have hd0r := hd_r.out
         have hd0y := hd_y.out
         have hd0t := hd_t.out
         have hd0a := hd_a.out
         have K_r : Hid (n_r.kids.length ≤ c_r ∧ SIn w8 (fun b => ((w.heap.size < b) ∧ b ≠ w1.heap.size) ∧ b ≠ w1.heap.size + 1) n_r.kids A_r) := Lib.hid (And.intro K_r.out.1 (SIn.fr (SIn.keep (Q := (fun b => ((w.heap.size < b) ∧ b ≠ w1.heap.size) ∧ b ≠ w1.heap.size + 1)) (fun k hk _ => six_otherP (R := w1.heap.size + 1) hk.2 ..) (fun _ hk _ => hk) K_r.out.2) hf (fun hh => by have h2 : w.heap.size < p.R := hh.1.1; omega)))
         have T_r := Lib.hid (hf.kept (N := w1.heap.size) (by omega) (blk_set6 (R := w1.heap.size + 1) T_r.out (by omega) _ _ _ _ _ _))
         have K_y : Hid (n_y.kids.length ≤ c_y ∧ SIn w8 (fun b => ((w.heap.size < b) ∧ b ≠ w1.heap.size) ∧ b ≠ w1.heap.size + 1) n_y.kids A_y) := Lib.hid (And.intro K_y.out.1 (SIn.fr (SIn.keep (Q := (fun b => ((w.heap.size < b) ∧ b ≠ w1.heap.size) ∧ b ≠ w1.heap.size + 1)) (fun k hk _ => six_otherP (R := w1.heap.size + 1) hk.2 ..) (fun _ hk _ => hk) K_y.out.2) hf (fun hh => by have h2 : w.heap.size < p.R := hh.1.1; omega)))
         have T_y := Lib.hid (hf.kept (N := w1.heap.size + 1) (by omega) (six_heap T_y.out))
         have T_t := Lib.hid (hf.kept (N := w4.heap.size) (by omega) (blk_set6 (R := w1.heap.size + 1) T_t.out (by omega) _ _ _ _ _ _))
         have K_a : Hid (n_a.kids.length ≤ c_a ∧ SIn w8 (fun b => ((w.heap.size < b) ∧ b ≠ w1.heap.size) ∧ b ≠ w1.heap.size + 1) n_a.kids A_a) := Lib.hid (And.intro K_a.out.1 (SIn.fr (SIn.keep (Q := (fun b => ((w.heap.size < b) ∧ b ≠ w1.heap.size) ∧ b ≠ w1.heap.size + 1)) (fun k hk _ => six_otherP (R := w1.heap.size + 1) hk.2 ..) (fun _ hk _ => hk) K_a.out.2) hf (fun hh => by have h2 : w.heap.size < p.R := hh.1.1; omega)))
         have T_a := Lib.hid (hf.kept (N := w5.heap.size) (by omega) (blk_set6 (R := w1.heap.size + 1) T_a.out (by omega) _ _ _ _ _ _))
         clear hr0 hl0 hd0r hd0y hd0t hd0a hs0r hs0y hs0t hs0a hl0r hl0y hl0t hl0a
         clear hn hc hk hs hf hi ho
         obtain ⟨qt0, qt1, qt2, qt3⟩ := tk4 T_t.out
         have qtl := (Array.getElem?_eq_some_iff.1 T_t.out).1
         obtain ⟨qr0, qr1, qr2, qr3, qr4, qr5⟩ := six_cells T_r.out
         have qrl := (Array.getElem?_eq_some_iff.1 T_r.out).1
         obtain ⟨qa0, qa1, qa2, qa3, qa4, qa5⟩ := six_cells T_a.out
         have qal := (Array.getElem?_eq_some_iff.1 T_a.out).1
         obtain ⟨qy0, qy1, qy2, qy3, qy4, qy5⟩ := six_cells T_y.out
         have qyl := (Array.getElem?_eq_some_iff.1 T_y.out).1
         go_wp2_with fail
         clear qt0 qt1 qt2 qt3 qtl qr0 qr1 qr2 qr3 qr4 qr5 qrl qa0 qa1 qa2 qa3 qa4 qa5 qal qy0 qy1 qy2 qy3 qy4 qy5 qyl
         refine (pmade_any p s8 _ (((F8.out.alloc _).alloc _)).st (by have h1 := HI8.out; omega) _ _ _ _ _ _ _).mono ?_
         rintro ee w9 ⟨rfl, hb⟩
         have F9 := Lib.hid ((((F8.out.alloc _).alloc _)).below hb)
         have HI9 := HI8
         have hrow := blk_below (alloc_top (World.alloc w8 _) _ _) hb
         simp only [World.size_alloc] at hrow
         have HROW := Lib.hid hrow
         clear hrow
         have hm_r := (Array.getElem?_eq_some_iff.1 T_r.out).1
         have hm_y := (Array.getElem?_eq_some_iff.1 T_y.out).1
         have hr0 := HRL.out
         have hl0r := hl_r.out
         have hl0y := hl_y.out
         have hl0t := hl_t.out
         have hl0a := hl_a.out
         have hl0 := F8.out.lt
         have hs0r := (Array.getElem?_eq_some_iff.1 T_r.out).1
         have hs0y := (Array.getElem?_eq_some_iff.1 T_y.out).1
         have hs0t := (Array.getElem?_eq_some_iff.1 T_t.out).1
         have hs0a := (Array.getElem?_eq_some_iff.1 T_a.out).1
         have hd0r := hd_r.out
         have hd0y := hd_y.out
         have hd0t := hd_t.out
         have hd0a := hd_a.out
         have K_r : Hid (n_r.kids.length ≤ c_r ∧ SIn w9 (fun b => ((w.heap.size < b) ∧ b ≠ w1.heap.size) ∧ b ≠ w1.heap.size + 1) n_r.kids A_r) := Lib.hid (And.intro K_r.out.1 (SIn.fr (SIn.below (SIn.below K_r.out.2 (alloc_below _ _)) (alloc_below _ _)) (PFr.of_below (R := p.R) hb) (fun hh => by have h2 : w.heap.size < p.R := hh.1.1; omega)))
         have T_r := Lib.hid ((PFr.of_below (R := p.R) hb).kept (N := w1.heap.size) (by omega) (blk_alloc (blk_alloc T_r.out)))
         have K_y : Hid (n_y.kids.length ≤ c_y ∧ SIn w9 (fun b => ((w.heap.size < b) ∧ b ≠ w1.heap.size) ∧ b ≠ w1.heap.size + 1) n_y.kids A_y) := Lib.hid (And.intro K_y.out.1 (SIn.fr (SIn.below (SIn.below K_y.out.2 (alloc_below _ _)) (alloc_below _ _)) (PFr.of_below (R := p.R) hb) (fun hh => by have h2 : w.heap.size < p.R := hh.1.1; omega)))
         have T_y := Lib.hid ((PFr.of_below (R := p.R) hb).kept (N := w1.heap.size + 1) (by omega) (blk_alloc (blk_alloc T_y.out)))
         have T_t := Lib.hid ((PFr.of_below (R := p.R) hb).kept (N := w4.heap.size) (by omega) (blk_alloc (blk_alloc T_t.out)))
         have K_a : Hid (n_a.kids.length ≤ c_a ∧ SIn w9 (fun b => ((w.heap.size < b) ∧ b ≠ w1.heap.size) ∧ b ≠ w1.heap.size + 1) n_a.kids A_a) := Lib.hid (And.intro K_a.out.1 (SIn.fr (SIn.below (SIn.below K_a.out.2 (alloc_below _ _)) (alloc_below _ _)) (PFr.of_below (R := p.R) hb) (fun hh => by have h2 : w.heap.size < p.R := hh.1.1; omega)))
         have T_a := Lib.hid ((PFr.of_below (R := p.R) hb).kept (N := w5.heap.size) (by omega) (blk_alloc (blk_alloc T_a.out)))
         have K_b : Hid (n_b.kids.length ≤ c_b ∧ SIn w9 (fun b => ((w.heap.size < b) ∧ b ≠ w1.heap.size) ∧ b ≠ w1.heap.size + 1) n_b.kids A_b) := Lib.hid (And.intro K_b.out.1 (SIn.fr (SIn.below (SIn.below K_b.out.2 (alloc_below _ _)) (alloc_below _ _)) (PFr.of_below (R := p.R) hb) (fun hh => by have h2 : w.heap.size < p.R := hh.1.1; omega)))
         have T_b := Lib.hid ((PFr.of_below (R := p.R) hb).kept (N := w8.heap.size) (by omega) (blk_alloc (alloc_top w8 _ _)))
         have hl_b : Hid (w.heap.size < w8.heap.size) := Lib.hid (by omega)
         have hd_b : Hid (w1.heap.size < w8.heap.size ∧ w1.heap.size + 1 < w8.heap.size ∧ w4.heap.size < w8.heap.size ∧ w5.heap.size < w8.heap.size) := Lib.hid (by omega)
         clear hr0 hl0 hd0r hd0y hd0t hd0a hs0r hs0y hs0t hs0a hl0r hl0y hl0t hl0a
         clear hb
         have hz := F9.out.lt
         have hzp := F8.out.lt
         have h1 := HI9.out
         have HSS := Lib.hid (sin4 (P := (fun b => ((w.heap.size < b) ∧ b ≠ w1.heap.size) ∧ b ≠ w1.heap.size + 1)) HROW.out (⟨⟨by omega, by omega⟩, by omega⟩) K_r.out.1 K_r.out.2 K_a.out.1 K_a.out.2 K_y.out.1 K_y.out.2 K_b.out.1 K_b.out.2)
         clear hz hzp h1 hm_r hm_y
         have hrr := (Option.some.inj HR.out).symm
         subst hrr
         obtain ⟨z0, z1, z2, z3, z4, z5, hres⟩ := F9.out.res
         obtain ⟨y0, y1, y2, y3, y4, y5⟩ := six_cells hres
         have x0 := frozen_of_row _ w.heap.size 0 _ _ hres
         have x1 := frozen_of_row _ w.heap.size 1 _ _ hres
         have x2 := frozen_of_row _ w.heap.size 2 _ _ hres
         have x3 := frozen_of_row _ w.heap.size 3 _ _ hres
         have x4 := frozen_of_row _ w.heap.size 4 _ _ hres
         have x5 := frozen_of_row _ w.heap.size 5 _ _ hres
         have HRES := Lib.hid hres
         clear hres
         go_wp2_with fail
         have h1 := HI9.out
         exact ret_cell1A (p := 2) rfl _ rfl _ (load_nd (six_heap HRES.out)) (F9.out.done (HSS.out.wide (fun _ _ hk => hk.1.1)) (Nat.le_refl _) (by omega) (by omega) _ _ _ _ _ _ rfl)
  | false =>
   simp only [hc, optP, if_false, Bool.false_eq_true] at hr
   have HR := Lib.hid hr
   have HC2 := Lib.hid hc
   clear hr hc
   have HR := Lib.hid (bind_ok HR.out)
   obtain ⟨A_r, hA⟩ : ∃ A : Option Addr, A = none := ⟨_, rfl⟩
   obtain ⟨c_r, hcc⟩ : ∃ c : Nat, c = 0 := ⟨_, rfl⟩
   have T_r : Hid (w2.heap[w1.heap.size]? = some (.cells (cNd noN A_r c_r) 24 (0, 0))) := Lib.hid (by rw [hA, hcc]; exact T_r.out)
   have K_r : Hid (noN.kids.length ≤ c_r ∧ SIn w2 (fun b => ((w.heap.size < b) ∧ b ≠ w1.heap.size) ∧ b ≠ w1.heap.size + 1) noN.kids A_r) := Lib.hid ⟨Nat.zero_le _, by rw [hA]; exact sin0⟩
   clear hA hcc
   go_wp2_with fail
   obtain ⟨r2, hx, hr⟩ := bind_pf HR.out
   have HR := Lib.hid hr
   clear hr
   refine (ptakeK_any p 1 (by decide) s1 _ (F2.out).st r2 hx).mono ?_
   clear hx
   intro ee w3 he
   cases r2 with
   | bad kk xx =>
    obtain ⟨rfl, hf⟩ := he
    have hrr : r = .bad kk xx := HR.out
    subst hrr
    have HE := Lib.hid ((F2.out).fr.trans hf)
    clear hf
    go_wp2_with fail
    exact ⟨rfl, rfl, HE.out⟩
   | ok t s3 =>
    obtain ⟨rfl, hs, hf, hi, ho⟩ := he
    have F3 := Lib.hid ((F2.out).step hf hs)
    have HI3 : Hid (1 ≤ s3.i ∧ s.i < s3.i ∧ s3.o = s.o + 0) := Lib.hid (by have h1 := HI2.out; omega)
    have hr0 := HRL.out
    have hl0r := hl_r.out
    have hl0y := hl_y.out
    have hl0 := F2.out.lt
    have hs0r := (Array.getElem?_eq_some_iff.1 T_r.out).1
    have hs0y := (Array.getElem?_eq_some_iff.1 T_y.out).1
    have hd0r := hd_r.out
    have hd0y := hd_y.out
    have K_r : Hid (noN.kids.length ≤ c_r ∧ SIn w3 (fun b => ((w.heap.size < b) ∧ b ≠ w1.heap.size) ∧ b ≠ w1.heap.size + 1) noN.kids A_r) := Lib.hid (And.intro K_r.out.1 (SIn.fr K_r.out.2 hf (fun hh => by have h2 : w.heap.size < p.R := hh.1.1; omega)))
    have T_r := Lib.hid (hf.kept (N := w1.heap.size) (by omega) T_r.out)
    have T_y := Lib.hid (hf.kept (N := w1.heap.size + 1) (by omega) T_y.out)
    clear hr0 hl0 hd0r hd0y hs0r hs0y hl0r hl0y
    clear hs hf hi ho
    go_wp2_with fail
    obtain ⟨r3, hx, hr⟩ := bind_pf HR.out
    have HR := Lib.hid hr
    clear hr
    refine (HP.out s3 _ ((F3.out.alloc _)).st (by have h1 := HI3.out; omega) r3 hx).mono ?_
    clear hx
    intro ee w4 he
    cases r3 with
    | bad kk xx =>
     obtain ⟨rfl, hf⟩ := he
     have hrr : r = .bad kk xx := HR.out
     subst hrr
     have HE := Lib.hid (((F3.out.alloc _)).fr.trans hf)
     clear hf
     go_wp2_with fail
     exact ⟨rfl, rfl, HE.out⟩
    | ok n_a s4 =>
     obtain ⟨⟨v, rfl, hn⟩, hs, hf, hi, ho⟩ := he
     obtain ⟨A_a, c_a, rfl, hc, hk⟩ := hn.open
     have F4 := Lib.hid (((F3.out.alloc _)).step hf hs)
     have HI4 : Hid (1 ≤ s4.i ∧ s.i < s4.i ∧ s4.o = s.o + 0) := Lib.hid (by have h1 := HI3.out; omega)
     have K_a : Hid (n_a.kids.length ≤ c_a ∧ SIn w4 (fun b => ((w.heap.size < b) ∧ b ≠ w1.heap.size) ∧ b ≠ w1.heap.size + 1) n_a.kids A_a) := Lib.hid ⟨hc, hk.wide (fun k _ h1 => ⟨⟨Nat.lt_of_lt_of_le ((F3.out.alloc _)).lt h1, Nat.ne_of_gt (Nat.lt_of_lt_of_le (Array.getElem?_eq_some_iff.1 (blk_alloc T_r.out)).1 h1)⟩, Nat.ne_of_gt (Nat.lt_of_lt_of_le (Array.getElem?_eq_some_iff.1 (blk_alloc T_y.out)).1 h1)⟩)⟩
     have hr0 := HRL.out
     have hl0r := hl_r.out
     have hl0y := hl_y.out
     have hl0 := F3.out.lt
     have hs0r := (Array.getElem?_eq_some_iff.1 T_r.out).1
     have hs0y := (Array.getElem?_eq_some_iff.1 T_y.out).1
     have hd0r := hd_r.out
     have hd0y := hd_y.out
     have K_r : Hid (noN.kids.length ≤ c_r ∧ SIn w4 (fun b => ((w.heap.size < b) ∧ b ≠ w1.heap.size) ∧ b ≠ w1.heap.size + 1) noN.kids A_r) := Lib.hid (And.intro K_r.out.1 (SIn.fr (SIn.below K_r.out.2 (alloc_below _ _)) hf (fun hh => by have h2 : w.heap.size < p.R := hh.1.1; omega)))
     have T_r := Lib.hid (hf.kept (N := w1.heap.size) (by omega) (blk_alloc T_r.out))
     have T_y := Lib.hid (hf.kept (N := w1.heap.size + 1) (by omega) (blk_alloc T_y.out))
     have T_t := Lib.hid (hf.kept (N := w3.heap.size) (by omega) (alloc_top w3 _ _))
     have hl_t : Hid (w.heap.size < w3.heap.size) := Lib.hid (by omega)
     have hd_t : Hid (w1.heap.size < w3.heap.size ∧ w1.heap.size + 1 < w3.heap.size) := Lib.hid (by omega)
     clear hr0 hl0 hd0r hd0y hs0r hs0y hl0r hl0y
     clear hn hc hk hs hf hi ho
     go_wp2_with fail
     refine (pstands_any p mLBrace s4 _ ((F4.out.alloc _)).st).mono ?_
     rintro ee w5 ⟨rfl, hb⟩
     have F5 := Lib.hid (((F4.out.alloc _)).below hb)
     have HI5 := HI4
     have hr0 := HRL.out
     have hl0r := hl_r.out
     have hl0y := hl_y.out
     have hl0t := hl_t.out
     have hl0 := F4.out.lt
     have hs0r := (Array.getElem?_eq_some_iff.1 T_r.out).1
     have hs0y := (Array.getElem?_eq_some_iff.1 T_y.out).1
     have hs0t := (Array.getElem?_eq_some_iff.1 T_t.out).1
     have hd0r := hd_r.out
     have hd0y := hd_y.out
     have hd0t := hd_t.out
     have K_r : Hid (noN.kids.length ≤ c_r ∧ SIn w5 (fun b => ((w.heap.size < b) ∧ b ≠ w1.heap.size) ∧ b ≠ w1.heap.size + 1) noN.kids A_r) := Lib.hid (And.intro K_r.out.1 (SIn.fr (SIn.below K_r.out.2 (alloc_below _ _)) (PFr.of_below (R := p.R) hb) (fun hh => by have h2 : w.heap.size < p.R := hh.1.1; omega)))
     have T_r := Lib.hid ((PFr.of_below (R := p.R) hb).kept (N := w1.heap.size) (by omega) (blk_alloc T_r.out))
     have T_y := Lib.hid ((PFr.of_below (R := p.R) hb).kept (N := w1.heap.size + 1) (by omega) (blk_alloc T_y.out))
     have T_t := Lib.hid ((PFr.of_below (R := p.R) hb).kept (N := w3.heap.size) (by omega) (blk_alloc T_t.out))
     have K_a : Hid (n_a.kids.length ≤ c_a ∧ SIn w5 (fun b => ((w.heap.size < b) ∧ b ≠ w1.heap.size) ∧ b ≠ w1.heap.size + 1) n_a.kids A_a) := Lib.hid (And.intro K_a.out.1 (SIn.fr (SIn.below K_a.out.2 (alloc_below _ _)) (PFr.of_below (R := p.R) hb) (fun hh => by have h2 : w.heap.size < p.R := hh.1.1; omega)))
     have T_a := Lib.hid ((PFr.of_below (R := p.R) hb).kept (N := w4.heap.size) (by omega) (alloc_top w4 _ _))
     have hl_a : Hid (w.heap.size < w4.heap.size) := Lib.hid (by omega)
     have hd_a : Hid (w1.heap.size < w4.heap.size ∧ w1.heap.size + 1 < w4.heap.size ∧ w3.heap.size < w4.heap.size) := Lib.hid (by omega)
     clear hr0 hl0 hd0r hd0y hd0t hs0r hs0y hs0t hl0r hl0y hl0t
     clear hb
     obtain ⟨b, hc⟩ : ∃ b, atB p.ts s4 mLBrace = b := ⟨_, rfl⟩
     have hr := HR.out
     try rw [hc]
     cases b with
     | true =>
      simp only [hc, if_false, Bool.false_eq_true, Bool.not_true] at hr
      have HR := Lib.hid hr
      have HC5 := Lib.hid hc
      clear hr hc
      have HR := Lib.hid (bind_ok HR.out)
      obtain ⟨A_y, hA⟩ : ∃ A : Option Addr, A = none := ⟨_, rfl⟩
      obtain ⟨c_y, hcc⟩ : ∃ c : Nat, c = 0 := ⟨_, rfl⟩
      have T_y : Hid (w5.heap[w1.heap.size + 1]? = some (.cells (cNd noN A_y c_y) 24 (0, 0))) := Lib.hid (by rw [hA, hcc]; exact T_y.out)
      have K_y : Hid (noN.kids.length ≤ c_y ∧ SIn w5 (fun b => ((w.heap.size < b) ∧ b ≠ w1.heap.size) ∧ b ≠ w1.heap.size + 1) noN.kids A_y) := Lib.hid ⟨Nat.zero_le _, by rw [hA]; exact sin0⟩
      clear hA hcc
      go_wp2_with fail
      obtain ⟨r4, hx, hr⟩ := bind_pf HR.out
      have HR := Lib.hid hr
      clear hr
      refine (HB.out s4 _ (F5.out).st (by have h1 := HI5.out; omega) r4 hx).mono ?_
      clear hx
      intro ee w6 he
      cases r4 with
      | bad kk xx =>
       obtain ⟨rfl, hf⟩ := he
       have hrr : r = .bad kk xx := HR.out
       subst hrr
       have HE := Lib.hid ((F5.out).fr.trans hf)
       clear hf
       go_wp2_with fail
       exact ⟨rfl, rfl, HE.out⟩
      | ok n_b s6 =>
       obtain ⟨⟨v, rfl, hn⟩, hs, hf, hi, ho⟩ := he
       obtain ⟨A_b, c_b, rfl, hc, hk⟩ := hn.open
       have F6 := Lib.hid ((F5.out).step hf hs)
       have HI6 : Hid (1 ≤ s6.i ∧ s.i < s6.i ∧ s6.o = s.o + 0) := Lib.hid (by have h1 := HI5.out; omega)
       have K_b : Hid (n_b.kids.length ≤ c_b ∧ SIn w6 (fun b => ((w.heap.size < b) ∧ b ≠ w1.heap.size) ∧ b ≠ w1.heap.size + 1) n_b.kids A_b) := Lib.hid ⟨hc, hk.wide (fun k _ h1 => ⟨⟨Nat.lt_of_lt_of_le (F5.out).lt h1, Nat.ne_of_gt (Nat.lt_of_lt_of_le (Array.getElem?_eq_some_iff.1 T_r.out).1 h1)⟩, Nat.ne_of_gt (Nat.lt_of_lt_of_le (Array.getElem?_eq_some_iff.1 T_y.out).1 h1)⟩)⟩
       have hr0 := HRL.out
       have hl0r := hl_r.out
       have hl0y := hl_y.out
       have hl0t := hl_t.out
       have hl0a := hl_a.out
       have hl0 := F5.out.lt
       have hs0r := (Array.getElem?_eq_some_iff.1 T_r.out).1
       have hs0y := (Array.getElem?_eq_some_iff.1 T_y.out).1
       have hs0t := (Array.getElem?_eq_some_iff.1 T_t.out).1
       have hs0a := (Array.getElem?_eq_some_iff.1 T_a.out).1
       have hd0r := hd_r.out
       have hd0y := hd_y.out
       have hd0t := hd_t.out
       have hd0a := hd_a.out
       have K_r : Hid (noN.kids.length ≤ c_r ∧ SIn w6 (fun b => ((w.heap.size < b) ∧ b ≠ w1.heap.size) ∧ b ≠ w1.heap.size + 1) noN.kids A_r) := Lib.hid (And.intro K_r.out.1 (SIn.fr K_r.out.2 hf (fun hh => by have h2 : w.heap.size < p.R := hh.1.1; omega)))
       have T_r := Lib.hid (hf.kept (N := w1.heap.size) (by omega) T_r.out)
       have K_y : Hid (noN.kids.length ≤ c_y ∧ SIn w6 (fun b => ((w.heap.size < b) ∧ b ≠ w1.heap.size) ∧ b ≠ w1.heap.size + 1) noN.kids A_y) := Lib.hid (And.intro K_y.out.1 (SIn.fr K_y.out.2 hf (fun hh => by have h2 : w.heap.size < p.R := hh.1.1; omega)))
       have T_y := Lib.hid (hf.kept (N := w1.heap.size + 1) (by omega) T_y.out)
       have T_t := Lib.hid (hf.kept (N := w3.heap.size) (by omega) T_t.out)
       have K_a : Hid (n_a.kids.length ≤ c_a ∧ SIn w6 (fun b => ((w.heap.size < b) ∧ b ≠ w1.heap.size) ∧ b ≠ w1.heap.size + 1) n_a.kids A_a) := Lib.hid (And.intro K_a.out.1 (SIn.fr K_a.out.2 hf (fun hh => by have h2 : w.heap.size < p.R := hh.1.1; omega)))
       have T_a := Lib.hid (hf.kept (N := w4.heap.size) (by omega) T_a.out)
       clear hr0 hl0 hd0r hd0y hd0t hd0a hs0r hs0y hs0t hs0a hl0r hl0y hl0t hl0a
       clear hn hc hk hs hf hi ho
       obtain ⟨qt0, qt1, qt2, qt3⟩ := tk4 T_t.out
       have qtl := (Array.getElem?_eq_some_iff.1 T_t.out).1
       obtain ⟨qr0, qr1, qr2, qr3, qr4, qr5⟩ := six_cells T_r.out
       have qrl := (Array.getElem?_eq_some_iff.1 T_r.out).1
       obtain ⟨qa0, qa1, qa2, qa3, qa4, qa5⟩ := six_cells T_a.out
       have qal := (Array.getElem?_eq_some_iff.1 T_a.out).1
       obtain ⟨qy0, qy1, qy2, qy3, qy4, qy5⟩ := six_cells T_y.out
       have qyl := (Array.getElem?_eq_some_iff.1 T_y.out).1
       go_wp2_with fail
       clear qt0 qt1 qt2 qt3 qtl qr0 qr1 qr2 qr3 qr4 qr5 qrl qa0 qa1 qa2 qa3 qa4 qa5 qal qy0 qy1 qy2 qy3 qy4 qy5 qyl
       refine (pmade_any p s6 _ (((F6.out.alloc _).alloc _)).st (by have h1 := HI6.out; omega) _ _ _ _ _ _ _).mono ?_
       rintro ee w7 ⟨rfl, hb⟩
       have F7 := Lib.hid ((((F6.out.alloc _).alloc _)).below hb)
       have HI7 := HI6
       have hrow := blk_below (alloc_top (World.alloc w6 _) _ _) hb
       simp only [World.size_alloc] at hrow
       have HROW := Lib.hid hrow
       clear hrow
       have hm_r := (Array.getElem?_eq_some_iff.1 T_r.out).1
       have hm_y := (Array.getElem?_eq_some_iff.1 T_y.out).1
       have hr0 := HRL.out
       have hl0r := hl_r.out
       have hl0y := hl_y.out
       have hl0t := hl_t.out
       have hl0a := hl_a.out
       have hl0 := F6.out.lt
       have hs0r := (Array.getElem?_eq_some_iff.1 T_r.out).1
       have hs0y := (Array.getElem?_eq_some_iff.1 T_y.out).1
       have hs0t := (Array.getElem?_eq_some_iff.1 T_t.out).1
       have hs0a := (Array.getElem?_eq_some_iff.1 T_a.out).1
       have hd0r := hd_r.out
       have hd0y := hd_y.out
       have hd0t := hd_t.out
       have hd0a := hd_a.out
       have K_r : Hid (noN.kids.length ≤ c_r ∧ SIn w7 (fun b => ((w.heap.size < b) ∧ b ≠ w1.heap.size) ∧ b ≠ w1.heap.size + 1) noN.kids A_r) := Lib.hid (And.intro K_r.out.1 (SIn.fr (SIn.below (SIn.below K_r.out.2 (alloc_below _ _)) (alloc_below _ _)) (PFr.of_below (R := p.R) hb) (fun hh => by have h2 : w.heap.size < p.R := hh.1.1; omega)))
       have T_r := Lib.hid ((PFr.of_below (R := p.R) hb).kept (N := w1.heap.size) (by omega) (blk_alloc (blk_alloc T_r.out)))
       have K_y : Hid (noN.kids.length ≤ c_y ∧ SIn w7 (fun b => ((w.heap.size < b) ∧ b ≠ w1.heap.size) ∧ b ≠ w1.heap.size + 1) noN.kids A_y) := Lib.hid (And.intro K_y.out.1 (SIn.fr (SIn.below (SIn.below K_y.out.2 (alloc_below _ _)) (alloc_below _ _)) (PFr.of_below (R := p.R) hb) (fun hh => by have h2 : w.heap.size < p.R := hh.1.1; omega)))
       have T_y := Lib.hid ((PFr.of_below (R := p.R) hb).kept (N := w1.heap.size + 1) (by omega) (blk_alloc (blk_alloc T_y.out)))
       have T_t := Lib.hid ((PFr.of_below (R := p.R) hb).kept (N := w3.heap.size) (by omega) (blk_alloc (blk_alloc T_t.out)))
       have K_a : Hid (n_a.kids.length ≤ c_a ∧ SIn w7 (fun b => ((w.heap.size < b) ∧ b ≠ w1.heap.size) ∧ b ≠ w1.heap.size + 1) n_a.kids A_a) := Lib.hid (And.intro K_a.out.1 (SIn.fr (SIn.below (SIn.below K_a.out.2 (alloc_below _ _)) (alloc_below _ _)) (PFr.of_below (R := p.R) hb) (fun hh => by have h2 : w.heap.size < p.R := hh.1.1; omega)))
       have T_a := Lib.hid ((PFr.of_below (R := p.R) hb).kept (N := w4.heap.size) (by omega) (blk_alloc (blk_alloc T_a.out)))
       have K_b : Hid (n_b.kids.length ≤ c_b ∧ SIn w7 (fun b => ((w.heap.size < b) ∧ b ≠ w1.heap.size) ∧ b ≠ w1.heap.size + 1) n_b.kids A_b) := Lib.hid (And.intro K_b.out.1 (SIn.fr (SIn.below (SIn.below K_b.out.2 (alloc_below _ _)) (alloc_below _ _)) (PFr.of_below (R := p.R) hb) (fun hh => by have h2 : w.heap.size < p.R := hh.1.1; omega)))
       have T_b := Lib.hid ((PFr.of_below (R := p.R) hb).kept (N := w6.heap.size) (by omega) (blk_alloc (alloc_top w6 _ _)))
       have hl_b : Hid (w.heap.size < w6.heap.size) := Lib.hid (by omega)
       have hd_b : Hid (w1.heap.size < w6.heap.size ∧ w1.heap.size + 1 < w6.heap.size ∧ w3.heap.size < w6.heap.size ∧ w4.heap.size < w6.heap.size) := Lib.hid (by omega)
       clear hr0 hl0 hd0r hd0y hd0t hd0a hs0r hs0y hs0t hs0a hl0r hl0y hl0t hl0a
       clear hb
       have hz := F7.out.lt
       have hzp := F6.out.lt
       have h1 := HI7.out
       have HSS := Lib.hid (sin4 (P := (fun b => ((w.heap.size < b) ∧ b ≠ w1.heap.size) ∧ b ≠ w1.heap.size + 1)) HROW.out (⟨⟨by omega, by omega⟩, by omega⟩) K_r.out.1 K_r.out.2 K_a.out.1 K_a.out.2 K_y.out.1 K_y.out.2 K_b.out.1 K_b.out.2)
       clear hz hzp h1 hm_r hm_y
       have hrr := (Option.some.inj HR.out).symm
       subst hrr
       obtain ⟨z0, z1, z2, z3, z4, z5, hres⟩ := F7.out.res
       obtain ⟨y0, y1, y2, y3, y4, y5⟩ := six_cells hres
       have x0 := frozen_of_row _ w.heap.size 0 _ _ hres
       have x1 := frozen_of_row _ w.heap.size 1 _ _ hres
       have x2 := frozen_of_row _ w.heap.size 2 _ _ hres
       have x3 := frozen_of_row _ w.heap.size 3 _ _ hres
       have x4 := frozen_of_row _ w.heap.size 4 _ _ hres
       have x5 := frozen_of_row _ w.heap.size 5 _ _ hres
       have HRES := Lib.hid hres
       clear hres
       go_wp2_with fail
       have h1 := HI7.out
       exact ret_cell1A (p := 2) rfl _ rfl _ (load_nd (six_heap HRES.out)) (F7.out.done (HSS.out.wide (fun _ _ hk => hk.1.1)) (Nat.le_refl _) (by omega) (by omega) _ _ _ _ _ _ rfl)
     | false =>
      simp only [hc, if_true, Bool.not_false] at hr
      have HR := Lib.hid hr
      have HC5 := Lib.hid hc
      clear hr hc
      go_wp2_with fail
      obtain ⟨r4, hx, hr⟩ := bind_pf HR.out
      have HR := Lib.hid hr
      clear hr
      refine (HT.out s4 _ (F5.out).st (by have h1 := HI5.out; omega) r4 hx).mono ?_
      clear hx
      intro ee w6 he
      cases r4 with
      | bad kk xx =>
       obtain ⟨rfl, hf⟩ := he
       have hrr : r = .bad kk xx := HR.out
       subst hrr
       have HE := Lib.hid ((F5.out).fr.trans hf)
       clear hf
       go_wp2_with fail
       exact ⟨rfl, rfl, HE.out⟩
      | ok n_y s6 =>
       obtain ⟨⟨v, rfl, hn⟩, hs, hf, hi, ho⟩ := he
       obtain ⟨A_y, c_y, rfl, hc, hk⟩ := hn.open
       have F6 := Lib.hid ((F5.out).step hf hs)
       have HI6 : Hid (1 ≤ s6.i ∧ s.i < s6.i ∧ s6.o = s.o + 0) := Lib.hid (by have h1 := HI5.out; omega)
       have K_y : Hid (n_y.kids.length ≤ c_y ∧ SIn w6 (fun b => ((w.heap.size < b) ∧ b ≠ w1.heap.size) ∧ b ≠ w1.heap.size + 1) n_y.kids A_y) := Lib.hid ⟨hc, hk.wide (fun k _ h1 => ⟨⟨Nat.lt_of_lt_of_le (F5.out).lt h1, Nat.ne_of_gt (Nat.lt_of_lt_of_le (Array.getElem?_eq_some_iff.1 T_r.out).1 h1)⟩, Nat.ne_of_gt (Nat.lt_of_lt_of_le (Array.getElem?_eq_some_iff.1 T_y.out).1 h1)⟩)⟩
       have hr0 := HRL.out
       have hl0r := hl_r.out
       have hl0y := hl_y.out
       have hl0t := hl_t.out
       have hl0a := hl_a.out
       have hl0 := F5.out.lt
       have hs0r := (Array.getElem?_eq_some_iff.1 T_r.out).1
       have hs0y := (Array.getElem?_eq_some_iff.1 T_y.out).1
       have hs0t := (Array.getElem?_eq_some_iff.1 T_t.out).1
       have hs0a := (Array.getElem?_eq_some_iff.1 T_a.out).1
       have hd0r := hd_r.out
       have hd0y := hd_y.out
       have hd0t := hd_t.out
       have hd0a := hd_a.out
       have K_r : Hid (noN.kids.length ≤ c_r ∧ SIn w6 (fun b => ((w.heap.size < b) ∧ b ≠ w1.heap.size) ∧ b ≠ w1.heap.size + 1) noN.kids A_r) := Lib.hid (And.intro K_r.out.1 (SIn.fr K_r.out.2 hf (fun hh => by have h2 : w.heap.size < p.R := hh.1.1; omega)))
       have T_r := Lib.hid (hf.kept (N := w1.heap.size) (by omega) T_r.out)
       have T_y := Lib.hid (hf.kept (N := w1.heap.size + 1) (by omega) T_y.out)
       have T_t := Lib.hid (hf.kept (N := w3.heap.size) (by omega) T_t.out)
       have K_a : Hid (n_a.kids.length ≤ c_a ∧ SIn w6 (fun b => ((w.heap.size < b) ∧ b ≠ w1.heap.size) ∧ b ≠ w1.heap.size + 1) n_a.kids A_a) := Lib.hid (And.intro K_a.out.1 (SIn.fr K_a.out.2 hf (fun hh => by have h2 : w.heap.size < p.R := hh.1.1; omega)))
       have T_a := Lib.hid (hf.kept (N := w4.heap.size) (by omega) T_a.out)
       clear hr0 hl0 hd0r hd0y hd0t hd0a hs0r hs0y hs0t hs0a hl0r hl0y hl0t hl0a
       clear hn hc hk hs hf hi ho
       obtain ⟨qy0, qy1, qy2, qy3, qy4, qy5⟩ := six_cells T_y.out
       have qyl := (Array.getElem?_eq_some_iff.1 T_y.out).1
       have fy0 := frozen_of_row _ (w1.heap.size + 1) 0 _ _ T_y.out
       have fy1 := frozen_of_row _ (w1.heap.size + 1) 1 _ _ T_y.out
       have fy2 := frozen_of_row _ (w1.heap.size + 1) 2 _ _ T_y.out
       have fy3 := frozen_of_row _ (w1.heap.size + 1) 3 _ _ T_y.out
       have fy4 := frozen_of_row _ (w1.heap.size + 1) 4 _ _ T_y.out
       have fy5 := frozen_of_row _ (w1.heap.size + 1) 5 _ _ T_y.out
       go_wp2_with fail
       clear qy0 qy1 qy2 qy3 qy4 qy5 qyl fy0 fy1 fy2 fy3 fy4 fy5
       obtain ⟨r5, hx, hr⟩ := bind_pf HR.out
       have HR := Lib.hid hr
       clear hr
       refine (HB.out s6 _ ((F6.out.set6 (N := w1.heap.size + 1) hl_y.out _ _ _ _ _ _)).st (by have h1 := HI6.out; omega) r5 hx).mono ?_
       clear hx
       intro ee w7 he
       cases r5 with
       | bad kk xx =>
        obtain ⟨rfl, hf⟩ := he
        have hrr : r = .bad kk xx := HR.out
        subst hrr
        have HE := Lib.hid (((F6.out.set6 (N := w1.heap.size + 1) hl_y.out _ _ _ _ _ _)).fr.trans hf)
        clear hf
        go_wp2_with fail
        exact ⟨rfl, rfl, HE.out⟩
       | ok n_b s7 =>
        obtain ⟨⟨v, rfl, hn⟩, hs, hf, hi, ho⟩ := he
        obtain ⟨A_b, c_b, rfl, hc, hk⟩ := hn.open
        have F7 := Lib.hid (((F6.out.set6 (N := w1.heap.size + 1) hl_y.out _ _ _ _ _ _)).step hf hs)
        have HI7 : Hid (1 ≤ s7.i ∧ s.i < s7.i ∧ s7.o = s.o + 0) := Lib.hid (by have h1 := HI6.out; omega)
        have K_b : Hid (n_b.kids.length ≤ c_b ∧ SIn w7 (fun b => ((w.heap.size < b) ∧ b ≠ w1.heap.size) ∧ b ≠ w1.heap.size + 1) n_b.kids A_b) := Lib.hid ⟨hc, hk.wide (fun k _ h1 => ⟨⟨Nat.lt_of_lt_of_le ((F6.out.set6 (N := w1.heap.size + 1) hl_y.out _ _ _ _ _ _)).lt h1, Nat.ne_of_gt (Nat.lt_of_lt_of_le (Array.getElem?_eq_some_iff.1 (blk_set6 (R := w1.heap.size + 1) T_r.out (by omega) _ _ _ _ _ _)).1 h1)⟩, Nat.ne_of_gt (Nat.lt_of_lt_of_le (Array.getElem?_eq_some_iff.1 (six_heap T_y.out)).1 h1)⟩)⟩
        have hr0 := HRL.out
        have hl0r := hl_r.out
        have hl0y := hl_y.out
        have hl0t := hl_t.out
        have hl0a := hl_a.out
        have hl0 := F6.out.lt
        have hs0r := (Array.getElem?_eq_some_iff.1 T_r.out).1
        have hs0y := (Array.getElem?_eq_some_iff.1 T_y.out).1
        have hs0t := (Array.getElem?_eq_some_iff.1 T_t.out).1
        have hs0a := (Array.getElem?_eq_some_iff.1 T_a.out).1
        have hd0r := hd_r.out
        have hd0y := hd_y.out
        have hd0t := hd_t.out
        have hd0a := hd_a.out
        have K_r : Hid (noN.kids.length ≤ c_r ∧ SIn w7 (fun b => ((w.heap.size < b) ∧ b ≠ w1.heap.size) ∧ b ≠ w1.heap.size + 1) noN.kids A_r) := Lib.hid (And.intro K_r.out.1 (SIn.fr (SIn.keep (Q := (fun b => ((w.heap.size < b) ∧ b ≠ w1.heap.size) ∧ b ≠ w1.heap.size + 1)) (fun k hk _ => six_otherP (R := w1.heap.size + 1) hk.2 ..) (fun _ hk _ => hk) K_r.out.2) hf (fun hh => by have h2 : w.heap.size < p.R := hh.1.1; omega)))
        have T_r := Lib.hid (hf.kept (N := w1.heap.size) (by omega) (blk_set6 (R := w1.heap.size + 1) T_r.out (by omega) _ _ _ _ _ _))
        have K_y : Hid (n_y.kids.length ≤ c_y ∧ SIn w7 (fun b => ((w.heap.size < b) ∧ b ≠ w1.heap.size) ∧ b ≠ w1.heap.size + 1) n_y.kids A_y) := Lib.hid (And.intro K_y.out.1 (SIn.fr (SIn.keep (Q := (fun b => ((w.heap.size < b) ∧ b ≠ w1.heap.size) ∧ b ≠ w1.heap.size + 1)) (fun k hk _ => six_otherP (R := w1.heap.size + 1) hk.2 ..) (fun _ hk _ => hk) K_y.out.2) hf (fun hh => by have h2 : w.heap.size < p.R := hh.1.1; omega)))
        have T_y := Lib.hid (hf.kept (N := w1.heap.size + 1) (by omega) (six_heap T_y.out))
        have T_t := Lib.hid (hf.kept (N := w3.heap.size) (by omega) (blk_set6 (R := w1.heap.size + 1) T_t.out (by omega) _ _ _ _ _ _))
        have K_a : Hid (n_a.kids.length ≤ c_a ∧ SIn w7 (fun b => ((w.heap.size < b) ∧ b ≠ w1.heap.size) ∧ b ≠ w1.heap.size + 1) n_a.kids A_a) := Lib.hid (And.intro K_a.out.1 (SIn.fr (SIn.keep (Q := (fun b => ((w.heap.size < b) ∧ b ≠ w1.heap.size) ∧ b ≠ w1.heap.size + 1)) (fun k hk _ => six_otherP (R := w1.heap.size + 1) hk.2 ..) (fun _ hk _ => hk) K_a.out.2) hf (fun hh => by have h2 : w.heap.size < p.R := hh.1.1; omega)))
        have T_a := Lib.hid (hf.kept (N := w4.heap.size) (by omega) (blk_set6 (R := w1.heap.size + 1) T_a.out (by omega) _ _ _ _ _ _))
        clear hr0 hl0 hd0r hd0y hd0t hd0a hs0r hs0y hs0t hs0a hl0r hl0y hl0t hl0a
        clear hn hc hk hs hf hi ho
        obtain ⟨qt0, qt1, qt2, qt3⟩ := tk4 T_t.out
        have qtl := (Array.getElem?_eq_some_iff.1 T_t.out).1
        obtain ⟨qr0, qr1, qr2, qr3, qr4, qr5⟩ := six_cells T_r.out
        have qrl := (Array.getElem?_eq_some_iff.1 T_r.out).1
        obtain ⟨qa0, qa1, qa2, qa3, qa4, qa5⟩ := six_cells T_a.out
        have qal := (Array.getElem?_eq_some_iff.1 T_a.out).1
        obtain ⟨qy0, qy1, qy2, qy3, qy4, qy5⟩ := six_cells T_y.out
        have qyl := (Array.getElem?_eq_some_iff.1 T_y.out).1
        go_wp2_with fail
        clear qt0 qt1 qt2 qt3 qtl qr0 qr1 qr2 qr3 qr4 qr5 qrl qa0 qa1 qa2 qa3 qa4 qa5 qal qy0 qy1 qy2 qy3 qy4 qy5 qyl
        refine (pmade_any p s7 _ (((F7.out.alloc _).alloc _)).st (by have h1 := HI7.out; omega) _ _ _ _ _ _ _).mono ?_
        rintro ee w8 ⟨rfl, hb⟩
        have F8 := Lib.hid ((((F7.out.alloc _).alloc _)).below hb)
        have HI8 := HI7
        have hrow := blk_below (alloc_top (World.alloc w7 _) _ _) hb
        simp only [World.size_alloc] at hrow
        have HROW := Lib.hid hrow
        clear hrow
        have hm_r := (Array.getElem?_eq_some_iff.1 T_r.out).1
        have hm_y := (Array.getElem?_eq_some_iff.1 T_y.out).1
        have hr0 := HRL.out
        have hl0r := hl_r.out
        have hl0y := hl_y.out
        have hl0t := hl_t.out
        have hl0a := hl_a.out
        have hl0 := F7.out.lt
        have hs0r := (Array.getElem?_eq_some_iff.1 T_r.out).1
        have hs0y := (Array.getElem?_eq_some_iff.1 T_y.out).1
        have hs0t := (Array.getElem?_eq_some_iff.1 T_t.out).1
        have hs0a := (Array.getElem?_eq_some_iff.1 T_a.out).1
        have hd0r := hd_r.out
        have hd0y := hd_y.out
        have hd0t := hd_t.out
        have hd0a := hd_a.out
        have K_r : Hid (noN.kids.length ≤ c_r ∧ SIn w8 (fun b => ((w.heap.size < b) ∧ b ≠ w1.heap.size) ∧ b ≠ w1.heap.size + 1) noN.kids A_r) := Lib.hid (And.intro K_r.out.1 (SIn.fr (SIn.below (SIn.below K_r.out.2 (alloc_below _ _)) (alloc_below _ _)) (PFr.of_below (R := p.R) hb) (fun hh => by have h2 : w.heap.size < p.R := hh.1.1; omega)))
        have T_r := Lib.hid ((PFr.of_below (R := p.R) hb).kept (N := w1.heap.size) (by omega) (blk_alloc (blk_alloc T_r.out)))
        have K_y : Hid (n_y.kids.length ≤ c_y ∧ SIn w8 (fun b => ((w.heap.size < b) ∧ b ≠ w1.heap.size) ∧ b ≠ w1.heap.size + 1) n_y.kids A_y) := Lib.hid (And.intro K_y.out.1 (SIn.fr (SIn.below (SIn.below K_y.out.2 (alloc_below _ _)) (alloc_below _ _)) (PFr.of_below (R := p.R) hb) (fun hh => by have h2 : w.heap.size < p.R := hh.1.1; omega)))
        have T_y := Lib.hid ((PFr.of_below (R := p.R) hb).kept (N := w1.heap.size + 1) (by omega) (blk_alloc (blk_alloc T_y.out)))
        have T_t := Lib.hid ((PFr.of_below (R := p.R) hb).kept (N := w3.heap.size) (by omega) (blk_alloc (blk_alloc T_t.out)))
        have K_a : Hid (n_a.kids.length ≤ c_a ∧ SIn w8 (fun b => ((w.heap.size < b) ∧ b ≠ w1.heap.size) ∧ b ≠ w1.heap.size + 1) n_a.kids A_a) := Lib.hid (And.intro K_a.out.1 (SIn.fr (SIn.below (SIn.below K_a.out.2 (alloc_below _ _)) (alloc_below _ _)) (PFr.of_below (R := p.R) hb) (fun hh => by have h2 : w.heap.size < p.R := hh.1.1; omega)))
        have T_a := Lib.hid ((PFr.of_below (R := p.R) hb).kept (N := w4.heap.size) (by omega) (blk_alloc (blk_alloc T_a.out)))
        have K_b : Hid (n_b.kids.length ≤ c_b ∧ SIn w8 (fun b => ((w.heap.size < b) ∧ b ≠ w1.heap.size) ∧ b ≠ w1.heap.size + 1) n_b.kids A_b) := Lib.hid (And.intro K_b.out.1 (SIn.fr (SIn.below (SIn.below K_b.out.2 (alloc_below _ _)) (alloc_below _ _)) (PFr.of_below (R := p.R) hb) (fun hh => by have h2 : w.heap.size < p.R := hh.1.1; omega)))
        have T_b := Lib.hid ((PFr.of_below (R := p.R) hb).kept (N := w7.heap.size) (by omega) (blk_alloc (alloc_top w7 _ _)))
        have hl_b : Hid (w.heap.size < w7.heap.size) := Lib.hid (by omega)
        have hd_b : Hid (w1.heap.size < w7.heap.size ∧ w1.heap.size + 1 < w7.heap.size ∧ w3.heap.size < w7.heap.size ∧ w4.heap.size < w7.heap.size) := Lib.hid (by omega)
        clear hr0 hl0 hd0r hd0y hd0t hd0a hs0r hs0y hs0t hs0a hl0r hl0y hl0t hl0a
        clear hb
        have hz := F8.out.lt
        have hzp := F7.out.lt
        have h1 := HI8.out
        have HSS := Lib.hid (sin4 (P := (fun b => ((w.heap.size < b) ∧ b ≠ w1.heap.size) ∧ b ≠ w1.heap.size + 1)) HROW.out (⟨⟨by omega, by omega⟩, by omega⟩) K_r.out.1 K_r.out.2 K_a.out.1 K_a.out.2 K_y.out.1 K_y.out.2 K_b.out.1 K_b.out.2)
        clear hz hzp h1 hm_r hm_y
        have hrr := (Option.some.inj HR.out).symm
        subst hrr
        obtain ⟨z0, z1, z2, z3, z4, z5, hres⟩ := F8.out.res
        obtain ⟨y0, y1, y2, y3, y4, y5⟩ := six_cells hres
        have x0 := frozen_of_row _ w.heap.size 0 _ _ hres
        have x1 := frozen_of_row _ w.heap.size 1 _ _ hres
        have x2 := frozen_of_row _ w.heap.size 2 _ _ hres
        have x3 := frozen_of_row _ w.heap.size 3 _ _ hres
        have x4 := frozen_of_row _ w.heap.size 4 _ _ hres
        have x5 := frozen_of_row _ w.heap.size 5 _ _ hres
        have HRES := Lib.hid hres
        clear hres
        go_wp2_with fail
        have h1 := HI8.out
        exact ret_cell1A (p := 2) rfl _ rfl _ (load_nd (six_heap HRES.out)) (F8.out.done (HSS.out.wide (fun _ _ hk => hk.1.1)) (Nat.le_refl _) (by omega) (by omega) _ _ _ _ _ _ rfl)
end Go.Proofs.YthaaolajbmafgaaGreatDoor
