/- The parser's binary. (Written by a program.) The parser's simple. (Written by a program.) -/
import Derived.Test.YtmlclgkhnekmnaaGreatDoorPW1
import Derived.Test.YtmlclgkhnekmnaaGreatDoorPLevel
import Derived.Test.YtmlclgkhnekmnaaGreatDoorPFl
namespace Go.Proofs.YtmlclgkhnekmnaaGreatDoor
open Go.RowKit
set_option maxRecDepth 100000 in
set_option maxHeartbeats 4000000 in
theorem pbinary_any (p : PC) (un : Rd) (bi : Nat → Rd) (f least : Nat) (h1l : 1 ≤ least ∧ least ≤ 6) (hU : RdC p 223 #[.pointer (some ⟨p.R, 0, none⟩)] un) (hB : ∀ l : Nat, 1 ≤ l → l ≤ 6 → RdC p 205 #[.pointer (some ⟨p.R, 0, none⟩), .int .i64 (l : Int)] (bi l)) : RdC p 205 #[.pointer (some ⟨p.R, 0, none⟩), .int .i64 (least : Int)] (binaryP p.ts un bi f least) := by
 intro s w hs hi r hr
 unfold binaryP at hr
 have HR := Lib.hid hr
 have HI0 : Hid (1 ≤ s.i ∧ s.i ≤ s.i ∧ s.o = s.o) := Lib.hid ⟨hi, Nat.le_refl _, rfl⟩
 have HU := Lib.hid hU
 have HB := Lib.hid hB
 have H1L := Lib.hid h1l
 have tf0 := tk_f0
 have tf1 := tk_f1
 have tf2 := tk_f2
 have HRL := Lib.hid (And.intro hs.rlt hs.glt)
 have FS := Lib.hid (Fm.start hs (.int .i64 0) (.int .i64 0) (.int .i64 0) (.int .i64 0) (.string ⟨#[]⟩) (.slice none 0 0))
 obtain ⟨w0, hw0⟩ : ∃ W, W = w.alloc (.cells #[.int .i64 0, .int .i64 0, .int .i64 0, .int .i64 0, .string ⟨#[]⟩, .slice none 0 0] 24) := ⟨_, rfl⟩
 have F0 : Hid (Fm p w w0 s) := Lib.hid (by rw [hw0]; exact FS.out)
 have HW0 := Lib.hid hw0
 clear hs hi hr hw0 FS hU hB h1l
 go_enter Tryz.func205, Tryz.ntmps205
 go_wp2_with fail
 rw [← HW0.out]
 obtain ⟨r1, hx, hr⟩ := bind_pf HR.out
 have HR := Lib.hid hr
 clear hr
 refine (HU.out s _ (F0.out).st (by have h1 := HI0.out; omega) r1 hx).mono ?_
 clear hx
 intro ee w1 he
 cases r1 with
 | bad kk xx =>
  obtain ⟨rfl, hf⟩ := he
  have hrr : r = .bad kk xx := HR.out
  subst hrr
  have HE := Lib.hid ((F0.out).fr.trans hf)
  clear hf
  go_wp2_with fail
  exact ⟨rfl, rfl, HE.out⟩
 | ok n_e s1 =>
  obtain ⟨⟨v, rfl, hn⟩, hs, hf, hi, ho⟩ := he
  obtain ⟨A_e, c_e, rfl, hc, hk⟩ := hn.open
  have F1 := Lib.hid ((F0.out).step hf hs)
  have HI1 : Hid (1 ≤ s1.i ∧ s.i < s1.i ∧ s1.o = s.o + 0) := Lib.hid (by have h1 := HI0.out; omega)
  have K_e : Hid (n_e.kids.length ≤ c_e ∧ SIn w1 (fun b => w.heap.size < b) n_e.kids A_e) := Lib.hid ⟨hc, hk.wide (fun k _ h1 => Nat.lt_of_lt_of_le (F0.out).lt h1)⟩
  have hr0 := HRL.out
  have hl0 := F0.out.lt
  clear hr0 hl0
  clear hn hc hk hs hf hi ho
  go_wp2_with fail
  have hl_e : Hid (w.heap.size < w1.heap.size) := Lib.hid F1.out.lt
  go_loopg [] f (fun gf wr => ∃ (n : Nd) (A : Option Addr) (c : Nat) (st : Ps), Hid (binL p.ts bi least gf n st = some r) ∧ Hid (Fm p w wr st) ∧ Hid (wr.heap[w1.heap.size]? = some (.cells (cNd n A c) 24 (0, 0))) ∧ Hid (n.kids.length ≤ c ∧ SIn wr (fun b => (w.heap.size < b) ∧ b ≠ w1.heap.size) n.kids A) ∧ Hid (1 ≤ st.i ∧ s.i < st.i ∧ st.o = s.o + 0))
  case atStart => exact ⟨n_e, A_e, c_e, s1, HR, Lib.hid (F1.out.alloc _), Lib.hid (alloc_top w1 _ _), Lib.hid ⟨K_e.out.1, (SIn.below (SIn.wide (Q := (fun b => (w.heap.size < b) ∧ b ≠ w1.heap.size)) K_e.out.2 (fun k hk h1 => And.intro h1 (by have hk2 := hk; first | omega | (simp only [World.size_alloc] at hk2; omega)))) (alloc_below _ _))⟩, HI1⟩
  case round =>
   obtain ⟨n_e, A_e, c_e, st, HL, F2, T_e, K_e, HI2⟩ := hrel
   obtain ⟨w2, hw2⟩ : ∃ W, W = wr := ⟨_, rfl⟩
   subst hw2
   obtain ⟨gf, rfl⟩ : ∃ n, gk = n + 1 := by
    cases gk with
    | zero => have h1 := HL.out; cases h1
    | succ n => exact ⟨n, rfl⟩
   have hr := HL.out
   unfold binL at hr
   have HR := Lib.hid hr
   clear hr HL
   go_wp2_with fail
   refine (ptoken_any p st _ (F2.out).st).mono ?_
   rintro ee w3 ⟨rfl, hb⟩
   have F3 := Lib.hid ((F2.out).below hb)
   have HI3 := HI2
   have hr0 := HRL.out
   have hl0e := hl_e.out
   have hl0 := F2.out.lt
   have hs0e := (Array.getElem?_eq_some_iff.1 T_e.out).1
   have K_e : Hid (n_e.kids.length ≤ c_e ∧ SIn w3 (fun b => (w.heap.size < b) ∧ b ≠ w1.heap.size) n_e.kids A_e) := Lib.hid (And.intro K_e.out.1 (SIn.fr K_e.out.2 (PFr.of_below (R := p.R) hb) (fun hh => by have h2 : w.heap.size < p.R := hh.1; omega)))
   have T_e := Lib.hid ((PFr.of_below (R := p.R) hb).kept (N := w1.heap.size) (by omega) T_e.out)
   clear hr0 hl0 hs0e hl0e
   clear hb
   go_wp2_with fail
   refine (plevel_any (tk p.ts st).2.1 _).mono ?_
   rintro ee wq ⟨rfl, rfl⟩
   obtain ⟨lv, hlv⟩ : ∃ lv, levelB (tk p.ts st).2.1 = lv := ⟨_, rfl⟩
   have hl5 := level_le (tk p.ts st).2.1
   have hr := HR.out
   rw [hlv] at hr hl5 ⊢
   have HLV := Lib.hid hlv
   have HL5 := Lib.hid hl5
   clear hlv hl5
   by_cases hlt : lv < least
   · have hz : (lv : Int) < (least : Int) := by omega
     simp only [hlt, if_true] at hr
     have HR := Lib.hid hr
     clear hr
     obtain ⟨qe0, qe1, qe2, qe3, qe4, qe5⟩ := six_cells T_e.out
     have qel := (Array.getElem?_eq_some_iff.1 T_e.out).1
     have hrr := (Option.some.inj HR.out).symm
     subst hrr
     obtain ⟨z0, z1, z2, z3, z4, z5, hres⟩ := F3.out.res
     obtain ⟨y0, y1, y2, y3, y4, y5⟩ := six_cells hres
     have yl := (Array.getElem?_eq_some_iff.1 hres).1
     have x0 := frozen_of_row _ w.heap.size 0 _ _ hres
     have x1 := frozen_of_row _ w.heap.size 1 _ _ hres
     have x2 := frozen_of_row _ w.heap.size 2 _ _ hres
     have x3 := frozen_of_row _ w.heap.size 3 _ _ hres
     have x4 := frozen_of_row _ w.heap.size 4 _ _ hres
     have x5 := frozen_of_row _ w.heap.size 5 _ _ hres
     have HRES := Lib.hid hres
     clear hres
     go_wp2_with fail
     have h1 := HI3.out
     exact ret_cell1A (p := 4) rfl _ rfl _ (load_nd (blk_alloc (six_heap HRES.out))) ((NdEnd.alloc (F3.out.doneN (s := s) (n := n_e) (K_e.out.2.wide (fun _ _ hk => hk.1)) K_e.out.1 (by omega) (by omega)) _))
   · have hz : ¬ (lv : Int) < (least : Int) := by omega
     simp only [hlt, if_false] at hr
     have HR := Lib.hid hr
     have HLT := Lib.hid hlt
     clear hr hlt
     obtain ⟨q, hq⟩ : ∃ q : Int, q = ((lv + 1 : Nat) : Int) := ⟨_, rfl⟩
     have hw : wrap64 ((lv : Int) + 1) = q := by have := HL5.out; rw [hq]; unfold wrap64; omega
     have HBQ : Hid (RdC p 205 #[.pointer (some ⟨p.R, 0, none⟩), .int .i64 q] (bi (lv + 1))) := Lib.hid (by rw [hq]; exact HB.out (lv + 1) (by omega) (by have := HL5.out; omega))
     clear hq
     have HR : Hid ((nextP p.ts st).bind (fun _ s2 => (bi (lv + 1) s2).bind fun x s3 => binL p.ts bi least gf (mkE p.ts 31 n_e (tk p.ts st).2.2.1 (tk p.ts st).2.1 [n_e, x] s3) s3) = some r) := Lib.hid HR.out
     go_wp2_with fail
     have HR := Lib.hid (bind_next HR.out)
     refine (pnext_any p st _ ((F3.out.alloc _)).st (F3.out.st.more (.inr (fun h => by have h1 := HLV.out; rw [h] at h1; have h2 : levelB [] = 0 := rfl; have h3 := H1L.out; have h4 := HLT.out; omega)))).mono ?_
     rintro ee w4 ⟨rfl, hs, hf, -, -⟩
     have F4 := Lib.hid (((F3.out.alloc _)).step hf hs)
     have HI4 : Hid (1 ≤ (adv st).i ∧ s.i < (adv st).i ∧ (adv st).o = s.o + 0) := Lib.hid (by have h1 := HI3.out; unfold adv; simp only; omega)
     have hr0 := HRL.out
     have hl0e := hl_e.out
     have hl0 := F3.out.lt
     have hs0e := (Array.getElem?_eq_some_iff.1 T_e.out).1
     have K_e : Hid (n_e.kids.length ≤ c_e ∧ SIn w4 (fun b => (w.heap.size < b) ∧ b ≠ w1.heap.size) n_e.kids A_e) := Lib.hid (And.intro K_e.out.1 (SIn.fr (SIn.below K_e.out.2 (alloc_below _ _)) hf (fun hh => by have h2 : w.heap.size < p.R := hh.1; omega)))
     have T_e := Lib.hid (hf.kept (N := w1.heap.size) (by omega) (blk_alloc T_e.out))
     have T_op := Lib.hid (hf.kept (N := w3.heap.size) (by omega) (alloc_top w3 _ _))
     have hl_op : Hid (w.heap.size < w3.heap.size) := Lib.hid (by omega)
     have hd_op : Hid (w1.heap.size < w3.heap.size) := Lib.hid (by omega)
     clear hr0 hl0 hs0e hl0e
     clear hs hf
     go_wp2_with fail
     obtain ⟨r2, hx, hr⟩ := bind_pf HR.out
     have HR := Lib.hid hr
     clear hr
     refine (HBQ.out (adv st) _ (F4.out).st (by have h1 := HI4.out; omega) r2 hx).mono ?_
     clear hx
     intro ee w5 he
     cases r2 with
     | bad kk xx =>
      obtain ⟨rfl, hf⟩ := he
      have hrr : r = .bad kk xx := HR.out
      subst hrr
      have HE := Lib.hid ((F4.out).fr.trans hf)
      clear hf
      go_wp2_with fail
      exact ⟨rfl, rfl, HE.out⟩
     | ok n_x s5 =>
      obtain ⟨⟨v, rfl, hn⟩, hs, hf, hi, ho⟩ := he
      obtain ⟨A_x, c_x, rfl, hc, hk⟩ := hn.open
      have F5 := Lib.hid ((F4.out).step hf hs)
      have HI5 : Hid (1 ≤ s5.i ∧ s.i < s5.i ∧ s5.o = s.o + 0) := Lib.hid (by have h1 := HI4.out; omega)
      have K_x : Hid (n_x.kids.length ≤ c_x ∧ SIn w5 (fun b => (w.heap.size < b) ∧ b ≠ w1.heap.size) n_x.kids A_x) := Lib.hid ⟨hc, hk.wide (fun k _ h1 => ⟨Nat.lt_of_lt_of_le (F4.out).lt h1, Nat.ne_of_gt (Nat.lt_of_lt_of_le (Array.getElem?_eq_some_iff.1 T_e.out).1 h1)⟩)⟩
      have hr0 := HRL.out
      have hl0e := hl_e.out
      have hl0op := hl_op.out
      have hl0 := F4.out.lt
      have hs0e := (Array.getElem?_eq_some_iff.1 T_e.out).1
      have hs0op := (Array.getElem?_eq_some_iff.1 T_op.out).1
      have hd0op := hd_op.out
      have K_e : Hid (n_e.kids.length ≤ c_e ∧ SIn w5 (fun b => (w.heap.size < b) ∧ b ≠ w1.heap.size) n_e.kids A_e) := Lib.hid (And.intro K_e.out.1 (SIn.fr K_e.out.2 hf (fun hh => by have h2 : w.heap.size < p.R := hh.1; omega)))
      have T_e := Lib.hid (hf.kept (N := w1.heap.size) (by omega) T_e.out)
      have T_op := Lib.hid (hf.kept (N := w3.heap.size) (by omega) T_op.out)
      clear hr0 hl0 hd0op hs0e hs0op hl0e hl0op
      clear hn hc hk hs hf hi ho
      obtain ⟨qe0, qe1, qe2, qe3, qe4, qe5⟩ := six_cells T_e.out
      have qel := (Array.getElem?_eq_some_iff.1 T_e.out).1
      obtain ⟨qop0, qop1, qop2, qop3⟩ := tk4 T_op.out
      have qopl := (Array.getElem?_eq_some_iff.1 T_op.out).1
      go_wp2_with fail
      clear qe0 qe1 qe2 qe3 qe4 qe5 qel qop0 qop1 qop2 qop3 qopl
      refine (pmade_any p s5 _ (((F5.out.alloc _).alloc _)).st (by have h1 := HI5.out; omega) _ _ _ _ _ _ _).mono ?_
      rintro ee w6 ⟨rfl, hb⟩
      have F6 := Lib.hid ((((F5.out.alloc _).alloc _)).below hb)
      have HI6 := HI5
      have hrow := blk_below (alloc_top (World.alloc w5 _) _ _) hb
      simp only [World.size_alloc] at hrow
      have HROW := Lib.hid hrow
      clear hrow
      have hm_e := (Array.getElem?_eq_some_iff.1 T_e.out).1
      have hr0 := HRL.out
      have hl0e := hl_e.out
      have hl0op := hl_op.out
      have hl0 := F5.out.lt
      have hs0e := (Array.getElem?_eq_some_iff.1 T_e.out).1
      have hs0op := (Array.getElem?_eq_some_iff.1 T_op.out).1
      have hd0op := hd_op.out
      have K_e : Hid (n_e.kids.length ≤ c_e ∧ SIn w6 (fun b => (w.heap.size < b) ∧ b ≠ w1.heap.size) n_e.kids A_e) := Lib.hid (And.intro K_e.out.1 (SIn.fr (SIn.below (SIn.below K_e.out.2 (alloc_below _ _)) (alloc_below _ _)) (PFr.of_below (R := p.R) hb) (fun hh => by have h2 : w.heap.size < p.R := hh.1; omega)))
      have T_e := Lib.hid ((PFr.of_below (R := p.R) hb).kept (N := w1.heap.size) (by omega) (blk_alloc (blk_alloc T_e.out)))
      have T_op := Lib.hid ((PFr.of_below (R := p.R) hb).kept (N := w3.heap.size) (by omega) (blk_alloc (blk_alloc T_op.out)))
      have K_x : Hid (n_x.kids.length ≤ c_x ∧ SIn w6 (fun b => (w.heap.size < b) ∧ b ≠ w1.heap.size) n_x.kids A_x) := Lib.hid (And.intro K_x.out.1 (SIn.fr (SIn.below (SIn.below K_x.out.2 (alloc_below _ _)) (alloc_below _ _)) (PFr.of_below (R := p.R) hb) (fun hh => by have h2 : w.heap.size < p.R := hh.1; omega)))
      have T_x := Lib.hid ((PFr.of_below (R := p.R) hb).kept (N := w5.heap.size) (by omega) (blk_alloc (alloc_top w5 _ _)))
      have hl_x : Hid (w.heap.size < w5.heap.size) := Lib.hid (by omega)
      have hd_x : Hid (w1.heap.size < w5.heap.size ∧ w3.heap.size < w5.heap.size) := Lib.hid (by omega)
      clear hr0 hl0 hd0op hs0e hs0op hl0e hl0op
      clear hb
      have hz := F6.out.lt
      have hzp := F5.out.lt
      have h1 := HI6.out
      have HSS := Lib.hid (sin2 (P := (fun b => (w.heap.size < b) ∧ b ≠ w1.heap.size)) HROW.out (⟨by omega, by omega⟩) K_e.out.1 K_e.out.2 K_x.out.1 K_x.out.2)
      clear hz hzp h1 hm_e
      have K_e : Hid ([n_e, n_x].length ≤ 2 ∧ SIn w6 (fun b => (w.heap.size < b) ∧ b ≠ w1.heap.size) [n_e, n_x] (some ⟨w5.heap.size + 1, 0, none⟩)) := Lib.hid ⟨(Nat.le_refl _), HSS.out⟩
      have HRR := HR
      obtain ⟨qe0, qe1, qe2, qe3, qe4, qe5⟩ := six_cells T_e.out
      have qel := (Array.getElem?_eq_some_iff.1 T_e.out).1
      have fe0 := frozen_of_row _ (w1.heap.size) 0 _ _ T_e.out
      have fe1 := frozen_of_row _ (w1.heap.size) 1 _ _ T_e.out
      have fe2 := frozen_of_row _ (w1.heap.size) 2 _ _ T_e.out
      have fe3 := frozen_of_row _ (w1.heap.size) 3 _ _ T_e.out
      have fe4 := frozen_of_row _ (w1.heap.size) 4 _ _ T_e.out
      have fe5 := frozen_of_row _ (w1.heap.size) 5 _ _ T_e.out
      go_wp2_with fail
      clear qe0 qe1 qe2 qe3 qe4 qe5 qel fe0 fe1 fe2 fe3 fe4 fe5
      go_roundg gf
      case measure => omega
      case rel => exact ⟨mkE p.ts 31 n_e (tk p.ts st).2.2.1 (tk p.ts st).2.1 [n_e, n_x] s5, (some ⟨w5.heap.size + 1, 0, none⟩), 2, s5, HRR, Lib.hid (F6.out.set6 (N := w1.heap.size) hl_e.out _ _ _ _ _ _), Lib.hid (six_heap T_e.out), Lib.hid ⟨Nat.le_refl _, (SIn.keep (Q := (fun b => (w.heap.size < b) ∧ b ≠ w1.heap.size)) (fun k hk _ => six_otherP (R := w1.heap.size) hk.2 ..) (fun _ hk _ => hk) K_e.out.2)⟩, HI6⟩
end Go.Proofs.YtmlclgkhnekmnaaGreatDoor
namespace Go.Proofs.YtmlclgkhnekmnaaGreatDoor
open Go.RowKit
set_option maxRecDepth 100000 in
set_option maxHeartbeats 4000000 in
theorem psimple_any (p : PC) (ex : Rd) (hE : RdC p 186 #[.pointer (some ⟨p.R, 0, none⟩)] ex) : SimC p ex := by
 intro Q n A c s w hs hi hg hc hk hQ hQR r hr
 unfold simpleP at hr
 have HR := Lib.hid hr
 have HQ := Lib.hid hQ
 have HI0 : Hid (1 ≤ s.i ∧ s.i ≤ s.i ∧ s.o = s.o) := Lib.hid ⟨hi, Nat.le_refl _, rfl⟩
 have tf0 := tk_f0
 have tf1 := tk_f1
 have tf2 := tk_f2
 have HRL := Lib.hid (And.intro hs.rlt hs.glt)
 have HNB : Hid (¬ (QB Q w p.R)) := Lib.hid (by have := hs.rlt; rintro (h | h); exact hQR h.1; omega)
 obtain ⟨w0, hw0⟩ : ∃ W, W = (w.alloc (.cells (cNd (n) A c) 24)).alloc (.cells #[.int .i64 0, .int .i64 0, .int .i64 0, .int .i64 0, .string ⟨#[]⟩, .slice none 0 0] 24) := ⟨_, rfl⟩
 have F0 : Hid (Fb p w w0 s) := Lib.hid (by rw [hw0]; exact Fb.start hs _ _ _ _ _ _ _)
 have T_e : Hid (w0.heap[w.heap.size]? = some (.cells (cNd (n) A c) 24 (0, 0))) := Lib.hid (by rw [hw0]; exact blk_alloc (alloc_top w _ _))
 have hl_e : Hid (w.heap.size ≤ w.heap.size ∧ w.heap.size ≠ w.heap.size + 1) := Lib.hid (by omega)
 have K_e : Hid (n.kids.length ≤ c ∧ SIn w0 (fun b => QB Q w b) n.kids A) := Lib.hid (by rw [hw0]; exact ⟨hc, SIn.below (SIn.below (hk.wide (fun k hl h1 => Or.inl ⟨h1, hl⟩)) (alloc_below _ _)) (alloc_below _ _)⟩)
 have HW0 := Lib.hid hw0
 have HE := Lib.hid hE
 have HG := Lib.hid hg
 clear hs hi hr hw0 hc hk hQ hQR hE hg
 go_enter Tryz.func170, Tryz.ntmps170
 go_wp2_with fail
 rw [← HW0.out]
 refine (pisPath_any n HG.out A c _ _ K_e.out.1 K_e.out.2).mono ?_
 rintro ee w1 ⟨rfl, hb⟩
 have F1 := Lib.hid ((F0.out).below hb)
 have HI1 := HI0
 have hr0 := HRL.out
 have hl0e := hl_e.out
 have hl0 := F0.out.lt
 have hs0e := (Array.getElem?_eq_some_iff.1 T_e.out).1
 have K_e : Hid (n.kids.length ≤ c ∧ SIn w1 (fun b => QB Q w b) n.kids A) := Lib.hid (And.intro K_e.out.1 (SIn.fr K_e.out.2 (PFr.of_below (R := p.R) hb) (fun hh => HNB.out hh)))
 have T_e := Lib.hid ((PFr.of_below (R := p.R) hb).kept (N := w.heap.size) (by omega) T_e.out)
 clear hr0 hl0 hs0e hl0e
 clear hb
 obtain ⟨b, hc⟩ : ∃ b, pathN n = b := ⟨_, rfl⟩
 have hr := HR.out
 try rw [hc]
 cases b with
 | true =>
  simp only [hc, Bool.true_and] at hr
  have HR := Lib.hid hr
  have HC1 := Lib.hid hc
  clear hr hc
  go_wp2_with fail
  refine (pstands_any p mEq s _ (F1.out).st).mono ?_
  rintro ee w2 ⟨rfl, hb⟩
  have F2 := Lib.hid ((F1.out).below hb)
  have HI2 := HI1
  have hr0 := HRL.out
  have hl0e := hl_e.out
  have hl0 := F1.out.lt
  have hs0e := (Array.getElem?_eq_some_iff.1 T_e.out).1
  have K_e : Hid (n.kids.length ≤ c ∧ SIn w2 (fun b => QB Q w b) n.kids A) := Lib.hid (And.intro K_e.out.1 (SIn.fr K_e.out.2 (PFr.of_below (R := p.R) hb) (fun hh => HNB.out hh)))
  have T_e := Lib.hid ((PFr.of_below (R := p.R) hb).kept (N := w.heap.size) (by omega) T_e.out)
  clear hr0 hl0 hs0e hl0e
  clear hb
  obtain ⟨b, hc⟩ : ∃ b, atB p.ts s mEq = b := ⟨_, rfl⟩
  have hr := HR.out
  try rw [hc]
  cases b with
  | true =>
   simp only [hc, if_true] at hr
   have HR := Lib.hid hr
   have HC2 := Lib.hid hc
   clear hr hc
   go_wp2_with fail
   refine (pnext_any p s _ (F2.out).st (F2.out.st.more_at (m := mEq) (by decide) HC2.out)).mono ?_
   rintro ee w3 ⟨rfl, hs, hf, -, -⟩
   have F3 := Lib.hid ((F2.out).step hf hs)
   have HI3 : Hid (1 ≤ (adv s).i ∧ s.i < (adv s).i ∧ (adv s).o = s.o + 0) := Lib.hid (by have h1 := HI2.out; unfold adv; simp only; omega)
   have hr0 := HRL.out
   have hl0e := hl_e.out
   have hl0 := F2.out.lt
   have hs0e := (Array.getElem?_eq_some_iff.1 T_e.out).1
   have K_e : Hid (n.kids.length ≤ c ∧ SIn w3 (fun b => QB Q w b) n.kids A) := Lib.hid (And.intro K_e.out.1 (SIn.fr K_e.out.2 hf (fun hh => HNB.out hh)))
   have T_e := Lib.hid (hf.kept (N := w.heap.size) (by omega) T_e.out)
   clear hr0 hl0 hs0e hl0e
   clear hs hf
   go_wp2_with fail
   obtain ⟨r1, hx, hr⟩ := bind_pf HR.out
   have HR := Lib.hid hr
   clear hr
   refine (HE.out (adv s) _ (F3.out).st (by have h1 := HI3.out; omega) r1 hx).mono ?_
   clear hx
   intro ee w4 he
   cases r1 with
   | bad kk xx =>
    obtain ⟨rfl, hf⟩ := he
    have hrr : r = .bad kk xx := HR.out
    subst hrr
    have HE := Lib.hid ((F3.out).fr.trans hf)
    clear hf
    go_wp2_with fail
    exact ⟨rfl, rfl, HE.out⟩
   | ok n_v s4 =>
    obtain ⟨⟨v, rfl, hn⟩, hs, hf, hi, ho⟩ := he
    obtain ⟨A_v, c_v, rfl, hc, hk⟩ := hn.open
    have F4 := Lib.hid ((F3.out).step hf hs)
    have HI4 : Hid (1 ≤ s4.i ∧ s.i < s4.i ∧ s4.o = s.o + 0) := Lib.hid (by have h1 := HI3.out; omega)
    have K_v : Hid (n_v.kids.length ≤ c_v ∧ SIn w4 (fun b => QB Q w b) n_v.kids A_v) := Lib.hid ⟨hc, hk.wide (fun k _ h1 => Or.inr (Nat.lt_of_lt_of_le (F3.out).lt h1))⟩
    have hr0 := HRL.out
    have hl0e := hl_e.out
    have hl0 := F3.out.lt
    have hs0e := (Array.getElem?_eq_some_iff.1 T_e.out).1
    have K_e : Hid (n.kids.length ≤ c ∧ SIn w4 (fun b => QB Q w b) n.kids A) := Lib.hid (And.intro K_e.out.1 (SIn.fr K_e.out.2 hf (fun hh => HNB.out hh)))
    have T_e := Lib.hid (hf.kept (N := w.heap.size) (by omega) T_e.out)
    clear hr0 hl0 hs0e hl0e
    clear hn hc hk hs hf hi ho
    obtain ⟨qe0, qe1, qe2, qe3, qe4, qe5⟩ := six_cells T_e.out
    have qel := (Array.getElem?_eq_some_iff.1 T_e.out).1
    go_wp2_with fail
    clear qe0 qe1 qe2 qe3 qe4 qe5 qel
    refine (pmade_any p s4 _ (((F4.out.alloc _).alloc _)).st (by have h1 := HI4.out; omega) _ _ _ _ _ _ _).mono ?_
    rintro ee w5 ⟨rfl, hb⟩
    have F5 := Lib.hid ((((F4.out.alloc _).alloc _)).below hb)
    have HI5 := HI4
    have hrow := blk_below (alloc_top (World.alloc w4 _) _ _) hb
    simp only [World.size_alloc] at hrow
    have HROW := Lib.hid hrow
    clear hrow
    have hr0 := HRL.out
    have hl0e := hl_e.out
    have hl0 := F4.out.lt
    have hs0e := (Array.getElem?_eq_some_iff.1 T_e.out).1
    have K_e : Hid (n.kids.length ≤ c ∧ SIn w5 (fun b => QB Q w b) n.kids A) := Lib.hid (And.intro K_e.out.1 (SIn.fr (SIn.below (SIn.below K_e.out.2 (alloc_below _ _)) (alloc_below _ _)) (PFr.of_below (R := p.R) hb) (fun hh => HNB.out hh)))
    have T_e := Lib.hid ((PFr.of_below (R := p.R) hb).kept (N := w.heap.size) (by omega) (blk_alloc (blk_alloc T_e.out)))
    have K_v : Hid (n_v.kids.length ≤ c_v ∧ SIn w5 (fun b => QB Q w b) n_v.kids A_v) := Lib.hid (And.intro K_v.out.1 (SIn.fr (SIn.below (SIn.below K_v.out.2 (alloc_below _ _)) (alloc_below _ _)) (PFr.of_below (R := p.R) hb) (fun hh => HNB.out hh)))
    have T_v := Lib.hid ((PFr.of_below (R := p.R) hb).kept (N := w4.heap.size) (by omega) (blk_alloc (alloc_top w4 _ _)))
    have hl_v : Hid (w.heap.size ≤ w4.heap.size ∧ w4.heap.size ≠ w.heap.size + 1) := Lib.hid (by omega)
    have hd_v : Hid (w.heap.size < w4.heap.size) := Lib.hid (by omega)
    clear hr0 hl0 hs0e hl0e
    clear hb
    have hz := F5.out.lt
    have hzp := F4.out.lt
    have h1 := HI5.out
    have HSS := Lib.hid (sin2 (P := (fun b => QB Q w b)) (n := n) HROW.out (Or.inr (by omega)) K_e.out.1 K_e.out.2 K_v.out.1 K_v.out.2)
    clear hz hzp h1
    have hrr := (Option.some.inj HR.out).symm
    subst hrr
    obtain ⟨z0, z1, z2, z3, z4, z5, hres⟩ := F5.out.res
    obtain ⟨y0, y1, y2, y3, y4, y5⟩ := six_cells hres
    have yl := (Array.getElem?_eq_some_iff.1 hres).1
    have x0 := frozen_of_row _ (w.heap.size + 1) 0 _ _ hres
    have x1 := frozen_of_row _ (w.heap.size + 1) 1 _ _ hres
    have x2 := frozen_of_row _ (w.heap.size + 1) 2 _ _ hres
    have x3 := frozen_of_row _ (w.heap.size + 1) 3 _ _ hres
    have x4 := frozen_of_row _ (w.heap.size + 1) 4 _ _ hres
    have x5 := frozen_of_row _ (w.heap.size + 1) 5 _ _ hres
    have HRES := Lib.hid hres
    clear hres
    go_wp2_with fail
    have h1 := HI5.out
    exact ret_cell1A (p := 4) rfl _ rfl _ (load_nd (six_heap HRES.out)) (F5.out.done HQ.out (HSS.out.wide (fun _ _ hk => hk)) (Nat.le_refl _) (by omega) (by omega) _ _ _ _ _ _ rfl)
  | false =>
   simp only [hc, if_false, Bool.false_eq_true] at hr
   have HR := Lib.hid hr
   have HC2 := Lib.hid hc
   clear hr hc
   obtain ⟨qe0, qe1, qe2, qe3, qe4, qe5⟩ := six_cells T_e.out
   have qel := (Array.getElem?_eq_some_iff.1 T_e.out).1
   go_wp2_with fail
   clear qe0 qe1 qe2 qe3 qe4 qe5 qel
   refine (pisCall_any n A c _).mono ?_
   rintro ee w3 ⟨rfl, hb⟩
   have F3 := Lib.hid ((F2.out).below hb)
   have HI3 := HI2
   have hr0 := HRL.out
   have hl0e := hl_e.out
   have hl0 := F2.out.lt
   have hs0e := (Array.getElem?_eq_some_iff.1 T_e.out).1
   have K_e : Hid (n.kids.length ≤ c ∧ SIn w3 (fun b => QB Q w b) n.kids A) := Lib.hid (And.intro K_e.out.1 (SIn.fr K_e.out.2 (PFr.of_below (R := p.R) hb) (fun hh => HNB.out hh)))
   have T_e := Lib.hid ((PFr.of_below (R := p.R) hb).kept (N := w.heap.size) (by omega) T_e.out)
   clear hr0 hl0 hs0e hl0e
   clear hb
   obtain ⟨b, hc⟩ : ∃ b, callN n = b := ⟨_, rfl⟩
   have hr := HR.out
   try rw [hc]
   cases b with
   | true =>
    simp only [hc, if_true] at hr
    have HR := Lib.hid hr
    have HC3 := Lib.hid hc
    clear hr hc
    obtain ⟨qe0, qe1, qe2, qe3, qe4, qe5⟩ := six_cells T_e.out
    have qel := (Array.getElem?_eq_some_iff.1 T_e.out).1
    go_wp2_with fail
    clear qe0 qe1 qe2 qe3 qe4 qe5 qel
    refine (pmade_any p s _ ((F3.out.alloc _)).st (by have h1 := HI3.out; omega) _ _ _ _ _ _ _).mono ?_
    rintro ee w4 ⟨rfl, hb⟩
    have F4 := Lib.hid (((F3.out.alloc _)).below hb)
    have HI4 := HI3
    have hrow := blk_below (alloc_top w3 _ _) hb
    have HROW := Lib.hid hrow
    clear hrow
    have hr0 := HRL.out
    have hl0e := hl_e.out
    have hl0 := F3.out.lt
    have hs0e := (Array.getElem?_eq_some_iff.1 T_e.out).1
    have K_e : Hid (n.kids.length ≤ c ∧ SIn w4 (fun b => QB Q w b) n.kids A) := Lib.hid (And.intro K_e.out.1 (SIn.fr (SIn.below K_e.out.2 (alloc_below _ _)) (PFr.of_below (R := p.R) hb) (fun hh => HNB.out hh)))
    have T_e := Lib.hid ((PFr.of_below (R := p.R) hb).kept (N := w.heap.size) (by omega) (blk_alloc T_e.out))
    clear hr0 hl0 hs0e hl0e
    clear hb
    have hz := F4.out.lt
    have hzp := F3.out.lt
    have h1 := HI4.out
    have HSS := Lib.hid (sin1 (P := (fun b => QB Q w b)) (n := n) HROW.out (Or.inr (by omega)) K_e.out.1 K_e.out.2)
    clear hz hzp h1
    have hrr := (Option.some.inj HR.out).symm
    subst hrr
    obtain ⟨z0, z1, z2, z3, z4, z5, hres⟩ := F4.out.res
    obtain ⟨y0, y1, y2, y3, y4, y5⟩ := six_cells hres
    have yl := (Array.getElem?_eq_some_iff.1 hres).1
    have x0 := frozen_of_row _ (w.heap.size + 1) 0 _ _ hres
    have x1 := frozen_of_row _ (w.heap.size + 1) 1 _ _ hres
    have x2 := frozen_of_row _ (w.heap.size + 1) 2 _ _ hres
    have x3 := frozen_of_row _ (w.heap.size + 1) 3 _ _ hres
    have x4 := frozen_of_row _ (w.heap.size + 1) 4 _ _ hres
    have x5 := frozen_of_row _ (w.heap.size + 1) 5 _ _ hres
    have HRES := Lib.hid hres
    clear hres
    go_wp2_with fail
    have h1 := HI4.out
    exact ret_cell1A (p := 4) rfl _ rfl _ (load_nd (six_heap HRES.out)) (F4.out.done HQ.out (HSS.out.wide (fun _ _ hk => hk)) (Nat.le_refl _) (by omega) (by omega) _ _ _ _ _ _ rfl)
   | false =>
    simp only [hc, if_false, Bool.false_eq_true] at hr
    have HR := Lib.hid hr
    have HC3 := Lib.hid hc
    clear hr hc
    go_wp2_with fail
    have hrr := (Option.some.inj (show some (Pz.bad _ _) = some r from HR.out)).symm
    subst hrr
    refine (pfail_any p 4 s _ (F3.out).st).mono ?_
    rintro ee w4 ⟨rfl, hb⟩
    have HE := Lib.hid ((F3.out).fr.trans (PFr.of_below hb))
    clear hb
    go_wp2_with fail
    exact ⟨rfl, rfl, HE.out⟩
 | false =>
  simp only [hc, if_false, Bool.false_eq_true, Bool.false_and] at hr
  have HR := Lib.hid hr
  have HC1 := Lib.hid hc
  clear hr hc
  obtain ⟨qe0, qe1, qe2, qe3, qe4, qe5⟩ := six_cells T_e.out
  have qel := (Array.getElem?_eq_some_iff.1 T_e.out).1
  go_wp2_with fail
  clear qe0 qe1 qe2 qe3 qe4 qe5 qel
  refine (pisCall_any n A c _).mono ?_
  rintro ee w2 ⟨rfl, hb⟩
  have F2 := Lib.hid ((F1.out).below hb)
  have HI2 := HI1
  have hr0 := HRL.out
  have hl0e := hl_e.out
  have hl0 := F1.out.lt
  have hs0e := (Array.getElem?_eq_some_iff.1 T_e.out).1
  have K_e : Hid (n.kids.length ≤ c ∧ SIn w2 (fun b => QB Q w b) n.kids A) := Lib.hid (And.intro K_e.out.1 (SIn.fr K_e.out.2 (PFr.of_below (R := p.R) hb) (fun hh => HNB.out hh)))
  have T_e := Lib.hid ((PFr.of_below (R := p.R) hb).kept (N := w.heap.size) (by omega) T_e.out)
  clear hr0 hl0 hs0e hl0e
  clear hb
  obtain ⟨b, hc⟩ : ∃ b, callN n = b := ⟨_, rfl⟩
  have hr := HR.out
  try rw [hc]
  cases b with
  | true =>
   simp only [hc, if_true] at hr
   have HR := Lib.hid hr
   have HC2 := Lib.hid hc
   clear hr hc
   obtain ⟨qe0, qe1, qe2, qe3, qe4, qe5⟩ := six_cells T_e.out
   have qel := (Array.getElem?_eq_some_iff.1 T_e.out).1
   go_wp2_with fail
   clear qe0 qe1 qe2 qe3 qe4 qe5 qel
   refine (pmade_any p s _ ((F2.out.alloc _)).st (by have h1 := HI2.out; omega) _ _ _ _ _ _ _).mono ?_
   rintro ee w3 ⟨rfl, hb⟩
   have F3 := Lib.hid (((F2.out.alloc _)).below hb)
   have HI3 := HI2
   have hrow := blk_below (alloc_top w2 _ _) hb
   have HROW := Lib.hid hrow
   clear hrow
   have hr0 := HRL.out
   have hl0e := hl_e.out
   have hl0 := F2.out.lt
   have hs0e := (Array.getElem?_eq_some_iff.1 T_e.out).1
   have K_e : Hid (n.kids.length ≤ c ∧ SIn w3 (fun b => QB Q w b) n.kids A) := Lib.hid (And.intro K_e.out.1 (SIn.fr (SIn.below K_e.out.2 (alloc_below _ _)) (PFr.of_below (R := p.R) hb) (fun hh => HNB.out hh)))
   have T_e := Lib.hid ((PFr.of_below (R := p.R) hb).kept (N := w.heap.size) (by omega) (blk_alloc T_e.out))
   clear hr0 hl0 hs0e hl0e
   clear hb
   have hz := F3.out.lt
   have hzp := F2.out.lt
   have h1 := HI3.out
   have HSS := Lib.hid (sin1 (P := (fun b => QB Q w b)) (n := n) HROW.out (Or.inr (by omega)) K_e.out.1 K_e.out.2)
   clear hz hzp h1
   have hrr := (Option.some.inj HR.out).symm
   subst hrr
   obtain ⟨z0, z1, z2, z3, z4, z5, hres⟩ := F3.out.res
   obtain ⟨y0, y1, y2, y3, y4, y5⟩ := six_cells hres
   have yl := (Array.getElem?_eq_some_iff.1 hres).1
   have x0 := frozen_of_row _ (w.heap.size + 1) 0 _ _ hres
   have x1 := frozen_of_row _ (w.heap.size + 1) 1 _ _ hres
   have x2 := frozen_of_row _ (w.heap.size + 1) 2 _ _ hres
   have x3 := frozen_of_row _ (w.heap.size + 1) 3 _ _ hres
   have x4 := frozen_of_row _ (w.heap.size + 1) 4 _ _ hres
   have x5 := frozen_of_row _ (w.heap.size + 1) 5 _ _ hres
   have HRES := Lib.hid hres
   clear hres
   go_wp2_with fail
   have h1 := HI3.out
   exact ret_cell1A (p := 4) rfl _ rfl _ (load_nd (six_heap HRES.out)) (F3.out.done HQ.out (HSS.out.wide (fun _ _ hk => hk)) (Nat.le_refl _) (by omega) (by omega) _ _ _ _ _ _ rfl)
  | false =>
   simp only [hc, if_false, Bool.false_eq_true] at hr
   have HR := Lib.hid hr
   have HC2 := Lib.hid hc
   clear hr hc
   go_wp2_with fail
   have hrr := (Option.some.inj (show some (Pz.bad _ _) = some r from HR.out)).symm
   subst hrr
   refine (pfail_any p 4 s _ (F2.out).st).mono ?_
   rintro ee w3 ⟨rfl, hb⟩
   have HE := Lib.hid ((F2.out).fr.trans (PFr.of_below hb))
   clear hb
   go_wp2_with fail
   exact ⟨rfl, rfl, HE.out⟩
end Go.Proofs.YtmlclgkhnekmnaaGreatDoor
