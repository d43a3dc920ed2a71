/- The parser's small readers. (Written by a program.) -/
import Derived.Test.YtmlclgkhnekmnaaGreatDoorPLx
namespace Go.Proofs.YtmlclgkhnekmnaaGreatDoor
open Go.RowKit
set_option maxRecDepth 100000 in
set_option maxHeartbeats 4000000 in
theorem pownType_any (p : PC) : RdC p 143 #[.pointer (some ⟨p.R, 0, none⟩)] (ownTypeP p.ts) := by
 intro s w hs hi r hr
 unfold ownTypeP at hr
 have HR := Lib.hid hr
 have HI0 : Hid (1 ≤ s.i ∧ s.i ≤ s.i ∧ s.o = s.o) := Lib.hid ⟨hi, Nat.le_refl _, rfl⟩
 have tf0 := tk_f0
 have tf1 := tk_f1
 have tf2 := tk_f2
 have HRL := Lib.hid (And.intro hs.rlt hs.glt)
 have FS := Lib.hid (Fm.start hs (.int .i64 0) (.int .i64 0) (.int .i64 0) (.int .i64 0) (.string ⟨#[]⟩) (.slice none 0 0))
 obtain ⟨w0, hw0⟩ : ∃ W, W = w.alloc (.cells #[.int .i64 0, .int .i64 0, .int .i64 0, .int .i64 0, .string ⟨#[]⟩, .slice none 0 0] 24) := ⟨_, rfl⟩
 have F0 : Hid (Fm p w w0 s) := Lib.hid (by rw [hw0]; exact FS.out)
 have HW0 := Lib.hid hw0
 clear hs hi hr hw0 FS
 go_enter Tryz.func143, Tryz.ntmps143
 go_wp2_with fail
 rw [← HW0.out]
 obtain ⟨r1, hx, hr⟩ := bind_pf HR.out
 have HR := Lib.hid hr
 clear hr
 refine (ptakeK_any p 1 (by decide) s _ (F0.out).st r1 hx).mono ?_
 clear hx
 intro ee w1 he
 cases r1 with
 | bad kk xx =>
  obtain ⟨rfl, hf⟩ := he
  have hrr : r = .bad kk xx := HR.out
  subst hrr
  have HE := Lib.hid ((F0.out).fr.trans hf)
  clear hf
  go_wp2_with fail
  exact ⟨rfl, rfl, HE.out⟩
 | ok t s1 =>
  obtain ⟨rfl, hs, hf, hi, ho⟩ := he
  have F1 := Lib.hid ((F0.out).step hf hs)
  have HI1 : Hid (1 ≤ s1.i ∧ s.i < s1.i ∧ s1.o = s.o + 0) := Lib.hid (by have h1 := HI0.out; omega)
  have hr0 := HRL.out
  have hl0 := F0.out.lt
  clear hr0 hl0
  clear hs hf hi ho
  go_wp2_with fail
  refine (pmade_any p s1 _ ((F1.out.alloc _)).st (by have h1 := HI1.out; omega) _ _ _ _ _ _ _).mono ?_
  rintro ee w2 ⟨rfl, hb⟩
  have F2 := Lib.hid (((F1.out.alloc _)).below hb)
  have HI2 := HI1
  have hr0 := HRL.out
  have hl0 := F1.out.lt
  have T_t := Lib.hid ((PFr.of_below (R := p.R) hb).kept (N := w1.heap.size) (by omega) (alloc_top w1 _ _))
  have hl_t : Hid (w.heap.size < w1.heap.size) := Lib.hid (by omega)
  clear hr0 hl0
  clear hb
  have hz := F2.out.lt
  have hzp := F1.out.lt
  have h1 := HI2.out
  have HSS := Lib.hid (sin0 (W := w2) (P := (fun b => w.heap.size < b)))
  clear hz hzp h1
  have hrr := (Option.some.inj HR.out).symm
  subst hrr
  obtain ⟨z0, z1, z2, z3, z4, z5, hres⟩ := F2.out.res
  obtain ⟨y0, y1, y2, y3, y4, y5⟩ := six_cells hres
  have x0 := frozen_of_row _ w.heap.size 0 _ _ hres
  have x1 := frozen_of_row _ w.heap.size 1 _ _ hres
  have x2 := frozen_of_row _ w.heap.size 2 _ _ hres
  have x3 := frozen_of_row _ w.heap.size 3 _ _ hres
  have x4 := frozen_of_row _ w.heap.size 4 _ _ hres
  have x5 := frozen_of_row _ w.heap.size 5 _ _ hres
  have HRES := Lib.hid hres
  clear hres
  go_wp2_with fail
  have h1 := HI2.out
  exact ret_cell1A (p := 2) rfl _ rfl _ (load_nd (six_heap HRES.out)) (F2.out.done (HSS.out.wide (fun _ _ hk => hk)) (Nat.le_refl _) (by omega) (by omega) _ _ _ _ _ _ rfl)
set_option maxRecDepth 100000 in
set_option maxHeartbeats 4000000 in
theorem pdefine_any (p : PC) (ex : Rd) (hE : RdC p 186 #[.pointer (some ⟨p.R, 0, none⟩)] ex) : RdC p 169 #[.pointer (some ⟨p.R, 0, none⟩)] (defineP p.ts ex) := by
 intro s w hs hi r hr
 obtain ⟨r1, hx1, hr⟩ := bind_pf hr
 have HR := Lib.hid hr
 have HX1 := Lib.hid hx1
 have L0 := Lib.hid (Lx.start hs)
 have HE := Lib.hid hE
 have HI := Lib.hid hi
 have tf0 := tk_f0
 have tf1 := tk_f1
 have tf2 := tk_f2
 clear hs hi hr hx1 hE
 go_enter Tryz.func169, Tryz.ntmps169
 go_wp2_with fail
 refine tk_go L0.out (ptakeK_any p 1 (by decide) s _ L0.out.fm.st r1 HX1.out) (fun k x w' e hf => ⟨rfl, by rw [bad_eq HR.out e]; exact ⟨rfl, hf⟩⟩) fun t s1 w1 e L hi1 ho1 => ?_
 obtain ⟨r2, hx2, hr⟩ := bind_pf (ok_eq HR.out e)
 have HR := Lib.hid hr
 have HX2 := Lib.hid hx2
 have L1 := Lib.hid (L.tk t)
 have HI1 := Lib.hid (And.intro hi1 ho1)
 clear hr hx2 L e hi1 ho1
 go_wp2_with fail
 refine tk_go L1.out (ptake_any p mDef (by decide) s1 _ L1.out.fm.st r2 HX2.out) (fun k x w' e hf => ⟨rfl, by rw [bad_eq HR.out e]; exact ⟨rfl, hf⟩⟩) fun t2 s2 w2 e L hi1 ho1 => ?_
 obtain ⟨r3, hx3, hr⟩ := bind_pf (ok_eq HR.out e)
 have HR := Lib.hid hr
 have HX3 := Lib.hid hx3
 have L2 := Lib.hid L
 have HI2 := Lib.hid (And.intro hi1 ho1)
 clear hr hx3 L e hi1 ho1
 go_wp2_with fail
 refine nd_go L2.out (HE.out s2 _ L2.out.fm.st (by have := HI2.out; omega) r3 HX3.out) (fun k x w' e hf => ⟨rfl, by rw [bad_eq HR.out e]; exact ⟨rfl, hf⟩⟩) fun n s3 A c w3 e L hc hk hi1 ho1 => ?_
 have hr := ok_eq HR.out e
 have L3 := Lib.hid (L.tree hc hk)
 have HI3 : Hid (s.i < s3.i ∧ s3.o = s.o ∧ 1 ≤ s3.i) := Lib.hid (by have := HI1.out; have := HI2.out; omega)
 have HR := Lib.hid hr
 obtain ⟨qt0, qt1, qt2, qt3⟩ := tk4 (L3.out.tok _ (List.mem_cons_self ..)).2
 have qtl := L3.out.lt w1.heap.size (List.mem_cons_self ..)
 clear L e hr hi1 ho1
 go_wp2_with fail
 clear qt0 qt1 qt2 qt3 qtl
 refine md_go L3.out HI3.out.2.2 [(w3.heap.size, n, A, c)] (by simp) rfl (by simp only [World.size_alloc]) fun w4 L hk2 => ?_
 have L4 := Lib.hid L
 have HK := Lib.hid hk2
 obtain ⟨z0, z1, z2, z3, z4, z5, hres, ⟨y0, y1, y2, y3, y4, y5⟩, x0, x1, x2, x3, x4, x5⟩ := L.six
 have HRES := Lib.hid hres
 obtain rfl := (Option.some.inj HR.out).symm
 clear L hk2 hres
 go_wp2_with fail
 exact ret_cell1A (p := 2) rfl _ rfl _ (load_nd (six_heap HRES.out)) (L4.out.fm.done HK.out (Nat.le_refl _) HI3.out.1 HI3.out.2.1 _ _ _ _ _ _ rfl)
set_option maxRecDepth 100000 in
set_option maxHeartbeats 4000000 in
theorem pkeyed_any (p : PC) (ex : Rd) (hE : RdC p 186 #[.pointer (some ⟨p.R, 0, none⟩)] ex) : RdC p 207 #[.pointer (some ⟨p.R, 0, none⟩)] (keyedP p.ts ex) := by
 intro s w hs hi r hr
 obtain ⟨r1, hx1, hr⟩ := bind_pf hr
 have HR := Lib.hid hr
 have HX1 := Lib.hid hx1
 have L0 := Lib.hid (Lx.start hs)
 have HE := Lib.hid hE
 have HI := Lib.hid hi
 have tf0 := tk_f0
 have tf1 := tk_f1
 have tf2 := tk_f2
 clear hs hi hr hx1 hE
 go_enter Tryz.func207, Tryz.ntmps207
 go_wp2_with fail
 refine tk_go L0.out (ptakeK_any p 1 (by decide) s _ L0.out.fm.st r1 HX1.out) (fun k x w' e hf => ⟨rfl, by rw [bad_eq HR.out e]; exact ⟨rfl, hf⟩⟩) fun t s1 w1 e L hi1 ho1 => ?_
 obtain ⟨r2, hx2, hr⟩ := bind_pf (ok_eq HR.out e)
 have HR := Lib.hid hr
 have HX2 := Lib.hid hx2
 have L1 := Lib.hid (L.tk t)
 have HI1 := Lib.hid (And.intro hi1 ho1)
 clear hr hx2 L e hi1 ho1
 go_wp2_with fail
 refine tk_go L1.out (ptake_any p mColon (by decide) s1 _ L1.out.fm.st r2 HX2.out) (fun k x w' e hf => ⟨rfl, by rw [bad_eq HR.out e]; exact ⟨rfl, hf⟩⟩) fun t2 s2 w2 e L hi1 ho1 => ?_
 obtain ⟨r3, hx3, hr⟩ := bind_pf (ok_eq HR.out e)
 have HR := Lib.hid hr
 have HX3 := Lib.hid hx3
 have L2 := Lib.hid L
 have HI2 := Lib.hid (And.intro hi1 ho1)
 clear hr hx3 L e hi1 ho1
 go_wp2_with fail
 refine nd_go L2.out (HE.out s2 _ L2.out.fm.st (by have := HI2.out; omega) r3 HX3.out) (fun k x w' e hf => ⟨rfl, by rw [bad_eq HR.out e]; exact ⟨rfl, hf⟩⟩) fun n s3 A c w3 e L hc hk hi1 ho1 => ?_
 have hr := ok_eq HR.out e
 have L3 := Lib.hid (L.tree hc hk)
 have HI3 : Hid (s.i < s3.i ∧ s3.o = s.o ∧ 1 ≤ s3.i) := Lib.hid (by have := HI1.out; have := HI2.out; omega)
 have HR := Lib.hid hr
 obtain ⟨qt0, qt1, qt2, qt3⟩ := tk4 (L3.out.tok _ (List.mem_cons_self ..)).2
 have qtl := L3.out.lt w1.heap.size (List.mem_cons_self ..)
 clear L e hr hi1 ho1
 go_wp2_with fail
 clear qt0 qt1 qt2 qt3 qtl
 refine md_go L3.out HI3.out.2.2 [(w3.heap.size, n, A, c)] (by simp) rfl (by simp only [World.size_alloc]) fun w4 L hk2 => ?_
 have L4 := Lib.hid L
 have HK := Lib.hid hk2
 obtain ⟨z0, z1, z2, z3, z4, z5, hres, ⟨y0, y1, y2, y3, y4, y5⟩, x0, x1, x2, x3, x4, x5⟩ := L.six
 have HRES := Lib.hid hres
 obtain rfl := (Option.some.inj HR.out).symm
 clear L hk2 hres
 go_wp2_with fail
 exact ret_cell1A (p := 2) rfl _ rfl _ (load_nd (six_heap HRES.out)) (L4.out.fm.done HK.out (Nat.le_refl _) HI3.out.1 HI3.out.2.1 _ _ _ _ _ _ rfl)
set_option maxRecDepth 100000 in
set_option maxHeartbeats 4000000 in
theorem plabelled_any (p : PC) (ex st : Rd) (f : Nat) (hL : RdC p 163 #[.pointer (some ⟨p.R, 0, none⟩)] (loopP p.ts ex st f)) : RdC p 168 #[.pointer (some ⟨p.R, 0, none⟩)] (labelledP p.ts ex st f) := by
 intro s w hs hi r hr
 unfold labelledP at hr
 have HR := Lib.hid hr
 have HI0 : Hid (1 ≤ s.i ∧ s.i ≤ s.i ∧ s.o = s.o) := Lib.hid ⟨hi, Nat.le_refl _, rfl⟩
 have HL := Lib.hid hL
 have tf0 := tk_f0
 have tf1 := tk_f1
 have tf2 := tk_f2
 have HRL := Lib.hid (And.intro hs.rlt hs.glt)
 have FS := Lib.hid (Fm.start hs (.int .i64 0) (.int .i64 0) (.int .i64 0) (.int .i64 0) (.string ⟨#[]⟩) (.slice none 0 0))
 obtain ⟨w0, hw0⟩ : ∃ W, W = w.alloc (.cells #[.int .i64 0, .int .i64 0, .int .i64 0, .int .i64 0, .string ⟨#[]⟩, .slice none 0 0] 24) := ⟨_, rfl⟩
 have F0 : Hid (Fm p w w0 s) := Lib.hid (by rw [hw0]; exact FS.out)
 have HW0 := Lib.hid hw0
 clear hs hi hr hw0 FS hL
 go_enter Tryz.func168, Tryz.ntmps168
 go_wp2_with fail
 rw [← HW0.out]
 obtain ⟨r1, hx, hr⟩ := bind_pf HR.out
 have HR := Lib.hid hr
 clear hr
 refine (ptakeK_any p 1 (by decide) s _ (F0.out).st r1 hx).mono ?_
 clear hx
 intro ee w1 he
 cases r1 with
 | bad kk xx =>
  obtain ⟨rfl, hf⟩ := he
  have hrr : r = .bad kk xx := HR.out
  subst hrr
  have HE := Lib.hid ((F0.out).fr.trans hf)
  clear hf
  go_wp2_with fail
  exact ⟨rfl, rfl, HE.out⟩
 | ok t s1 =>
  obtain ⟨rfl, hs, hf, hi, ho⟩ := he
  have F1 := Lib.hid ((F0.out).step hf hs)
  have HI1 : Hid (1 ≤ s1.i ∧ s.i < s1.i ∧ s1.o = s.o + 0) := Lib.hid (by have h1 := HI0.out; omega)
  have hr0 := HRL.out
  have hl0 := F0.out.lt
  clear hr0 hl0
  clear hs hf hi ho
  go_wp2_with fail
  obtain ⟨r2, hx, hr⟩ := bind_pf HR.out
  have HR := Lib.hid hr
  clear hr
  refine (ptake_any p mColon (by decide) s1 _ ((F1.out.alloc _)).st r2 hx).mono ?_
  clear hx
  intro ee w2 he
  cases r2 with
  | bad kk xx =>
   obtain ⟨rfl, hf⟩ := he
   have hrr : r = .bad kk xx := HR.out
   subst hrr
   have HE := Lib.hid (((F1.out.alloc _)).fr.trans hf)
   clear hf
   go_wp2_with fail
   exact ⟨rfl, rfl, HE.out⟩
  | ok t2 s2 =>
   obtain ⟨rfl, hs, hf, hi, ho⟩ := he
   have F2 := Lib.hid (((F1.out.alloc _)).step hf hs)
   have HI2 : Hid (1 ≤ s2.i ∧ s.i < s2.i ∧ s2.o = s.o + 0) := Lib.hid (by have h1 := HI1.out; omega)
   have hr0 := HRL.out
   have hl0 := F1.out.lt
   have T_t := Lib.hid (hf.kept (N := w1.heap.size) (by omega) (alloc_top w1 _ _))
   have hl_t : Hid (w.heap.size < w1.heap.size) := Lib.hid (by omega)
   clear hr0 hl0
   clear hs hf hi ho
   go_wp2_with fail
   obtain ⟨r3, hx, hr⟩ := bind_pf HR.out
   have HR := Lib.hid hr
   clear hr
   refine (HL.out s2 _ (F2.out).st (by have h1 := HI2.out; omega) r3 hx).mono ?_
   clear hx
   intro ee w3 he
   cases r3 with
   | bad kk xx =>
    obtain ⟨rfl, hf⟩ := he
    have hrr : r = .bad kk xx := HR.out
    subst hrr
    have HE := Lib.hid ((F2.out).fr.trans hf)
    clear hf
    go_wp2_with fail
    exact ⟨rfl, rfl, HE.out⟩
   | ok n_e s3 =>
    obtain ⟨⟨v, rfl, hn⟩, hs, hf, hi, ho⟩ := he
    obtain ⟨A_e, c_e, rfl, hc, hk⟩ := hn.open
    have F3 := Lib.hid ((F2.out).step hf hs)
    have HI3 : Hid (1 ≤ s3.i ∧ s.i < s3.i ∧ s3.o = s.o + 0) := Lib.hid (by have h1 := HI2.out; omega)
    have hr0 := HRL.out
    have hl0t := hl_t.out
    have hl0 := F2.out.lt
    have T_t := Lib.hid (hf.kept (N := w1.heap.size) (by omega) T_t.out)
    clear hr0 hl0 hl0t
    have K_e : Hid (n_e.kids.length ≤ c_e ∧ SIn w3 (fun b => w.heap.size < b) n_e.kids A_e) := Lib.hid ⟨hc, hk.wide (fun k _ h1 => Nat.lt_of_lt_of_le (F2.out).lt h1)⟩
    clear hn hc hk hs hf hi ho
    obtain ⟨qt0, qt1, qt2, qt3⟩ := tk4 T_t.out
    have qtl := (Array.getElem?_eq_some_iff.1 T_t.out).1
    go_wp2_with fail
    clear qt0 qt1 qt2 qt3 qtl
    refine (pmade_any p s3 _ (((F3.out.alloc _).alloc _)).st (by have h1 := HI3.out; omega) _ _ _ _ _ _ _).mono ?_
    rintro ee w4 ⟨rfl, hb⟩
    have F4 := Lib.hid ((((F3.out.alloc _).alloc _)).below hb)
    have HI4 := HI3
    have hrow := blk_below (alloc_top (World.alloc w3 _) _ _) hb
    simp only [World.size_alloc] at hrow
    have HROW := Lib.hid hrow
    clear hrow
    have hr0 := HRL.out
    have hl0t := hl_t.out
    have hl0 := F3.out.lt
    have T_t := Lib.hid ((PFr.of_below (R := p.R) hb).kept (N := w1.heap.size) (by omega) (blk_alloc (blk_alloc T_t.out)))
    have K_e : Hid (n_e.kids.length ≤ c_e ∧ SIn w4 (fun b => w.heap.size < b) n_e.kids A_e) := Lib.hid (And.intro K_e.out.1 (SIn.fr (SIn.below (SIn.below K_e.out.2 (alloc_below _ _)) (alloc_below _ _)) (PFr.of_below (R := p.R) hb) (fun hh => by have h2 : w.heap.size < p.R := hh; omega)))
    have T_e := Lib.hid ((PFr.of_below (R := p.R) hb).kept (N := w3.heap.size) (by omega) (blk_alloc (alloc_top w3 _ _)))
    have hl_e : Hid (w.heap.size < w3.heap.size) := Lib.hid (by omega)
    clear hr0 hl0 hl0t
    clear hb
    have hz := F4.out.lt
    have hzp := F3.out.lt
    have h1 := HI4.out
    have HSS := Lib.hid (sin1 (P := (fun b => w.heap.size < b)) HROW.out (by omega) K_e.out.1 K_e.out.2)
    clear hz hzp h1
    have hrr := (Option.some.inj HR.out).symm
    subst hrr
    obtain ⟨z0, z1, z2, z3, z4, z5, hres⟩ := F4.out.res
    obtain ⟨y0, y1, y2, y3, y4, y5⟩ := six_cells hres
    have x0 := frozen_of_row _ w.heap.size 0 _ _ hres
    have x1 := frozen_of_row _ w.heap.size 1 _ _ hres
    have x2 := frozen_of_row _ w.heap.size 2 _ _ hres
    have x3 := frozen_of_row _ w.heap.size 3 _ _ hres
    have x4 := frozen_of_row _ w.heap.size 4 _ _ hres
    have x5 := frozen_of_row _ w.heap.size 5 _ _ hres
    have HRES := Lib.hid hres
    clear hres
    go_wp2_with fail
    have h1 := HI4.out
    exact ret_cell1A (p := 2) rfl _ rfl _ (load_nd (six_heap HRES.out)) (F4.out.done (HSS.out.wide (fun _ _ hk => hk)) (Nat.le_refl _) (by omega) (by omega) _ _ _ _ _ _ rfl)
set_option maxRecDepth 100000 in
set_option maxHeartbeats 4000000 in
theorem pleaf_any (p : PC) (k : Nat) (s : Ps) (w : World) (hs : PSt p w s) (hi : 1 ≤ s.i) (hm : s.i + 1 < p.ts.length) (r : Pz Nd) (hr : (leafP p.ts k) s = some r) : Calls Tryz.prog 206 #[.pointer (some ⟨p.R, 0, none⟩), .int .i64 (k : Int)] w (NdEnd p w s r) := by
 unfold leafP at hr
 have HR := Lib.hid hr
 have HI0 : Hid (1 ≤ s.i ∧ s.i ≤ s.i ∧ s.o = s.o) := Lib.hid ⟨hi, Nat.le_refl _, rfl⟩
 have HM := Lib.hid hm
 have tf0 := tk_f0
 have tf1 := tk_f1
 have tf2 := tk_f2
 have HRL := Lib.hid (And.intro hs.rlt hs.glt)
 have FS := Lib.hid (Fm.start hs (.int .i64 0) (.int .i64 0) (.int .i64 0) (.int .i64 0) (.string ⟨#[]⟩) (.slice none 0 0))
 obtain ⟨w0, hw0⟩ : ∃ W, W = w.alloc (.cells #[.int .i64 0, .int .i64 0, .int .i64 0, .int .i64 0, .string ⟨#[]⟩, .slice none 0 0] 24) := ⟨_, rfl⟩
 have F0 : Hid (Fm p w w0 s) := Lib.hid (by rw [hw0]; exact FS.out)
 have HW0 := Lib.hid hw0
 clear hs hi hr hw0 FS hm
 go_enter Tryz.func206, Tryz.ntmps206
 go_wp2_with fail
 rw [← HW0.out]
 have HR := Lib.hid (bind_next HR.out)
 refine (pnext_any p s _ (F0.out).st (HM.out)).mono ?_
 rintro ee w1 ⟨rfl, hs, hf, -, -⟩
 have F1 := Lib.hid ((F0.out).step hf hs)
 have HI1 : Hid (1 ≤ (adv s).i ∧ s.i < (adv s).i ∧ (adv s).o = s.o + 0) := Lib.hid (by have h1 := HI0.out; unfold adv; simp only; omega)
 have hr0 := HRL.out
 have hl0 := F0.out.lt
 clear hr0 hl0
 clear hs hf
 go_wp2_with fail
 refine (pmade_any p (adv s) _ ((F1.out.alloc _)).st (by have h1 := HI1.out; omega) _ _ _ _ _ _ _).mono ?_
 rintro ee w2 ⟨rfl, hb⟩
 have F2 := Lib.hid (((F1.out.alloc _)).below hb)
 have HI2 := HI1
 have hr0 := HRL.out
 have hl0 := F1.out.lt
 have T_t := Lib.hid ((PFr.of_below (R := p.R) hb).kept (N := w1.heap.size) (by omega) (alloc_top w1 _ _))
 have hl_t : Hid (w.heap.size < w1.heap.size) := Lib.hid (by omega)
 clear hr0 hl0
 clear hb
 have hz := F2.out.lt
 have hzp := F1.out.lt
 have h1 := HI2.out
 have HSS := Lib.hid (sin0 (W := w2) (P := (fun b => w.heap.size < b)))
 clear hz hzp h1
 have hrr := (Option.some.inj HR.out).symm
 subst hrr
 obtain ⟨z0, z1, z2, z3, z4, z5, hres⟩ := F2.out.res
 obtain ⟨y0, y1, y2, y3, y4, y5⟩ := six_cells hres
 have x0 := frozen_of_row _ w.heap.size 0 _ _ hres
 have x1 := frozen_of_row _ w.heap.size 1 _ _ hres
 have x2 := frozen_of_row _ w.heap.size 2 _ _ hres
 have x3 := frozen_of_row _ w.heap.size 3 _ _ hres
 have x4 := frozen_of_row _ w.heap.size 4 _ _ hres
 have x5 := frozen_of_row _ w.heap.size 5 _ _ hres
 have HRES := Lib.hid hres
 clear hres
 go_wp2_with fail
 have h1 := HI2.out
 exact ret_cell1A (p := 4) rfl _ rfl _ (load_nd (six_heap HRES.out)) (F2.out.done (HSS.out.wide (fun _ _ hk => hk)) (Nat.le_refl _) (by omega) (by omega) _ _ _ _ _ _ rfl)
set_option maxRecDepth 100000 in
set_option maxHeartbeats 4000000 in
theorem pjump_any (p : PC) (k : Nat) (s : Ps) (w : World) (hs : PSt p w s) (hi : 1 ≤ s.i) (hm : s.i + 1 < p.ts.length) (r : Pz Nd) (hr : (jumpP p.ts k) s = some r) : Calls Tryz.prog 166 #[.pointer (some ⟨p.R, 0, none⟩), .int .i64 (k : Int)] w (NdEnd p w s r) := by
 unfold jumpP at hr
 have HR := Lib.hid hr
 have HI0 : Hid (1 ≤ s.i ∧ s.i ≤ s.i ∧ s.o = s.o) := Lib.hid ⟨hi, Nat.le_refl _, rfl⟩
 have HM := Lib.hid hm
 have tf0 := tk_f0
 have tf1 := tk_f1
 have tf2 := tk_f2
 have HRL := Lib.hid (And.intro hs.rlt hs.glt)
 have FS := Lib.hid (Fm.start hs (.int .i64 0) (.int .i64 0) (.int .i64 0) (.int .i64 0) (.string ⟨#[]⟩) (.slice none 0 0))
 obtain ⟨w0, hw0⟩ : ∃ W, W = w.alloc (.cells #[.int .i64 0, .int .i64 0, .int .i64 0, .int .i64 0, .string ⟨#[]⟩, .slice none 0 0] 24) := ⟨_, rfl⟩
 have F0 : Hid (Fm p w w0 s) := Lib.hid (by rw [hw0]; exact FS.out)
 have HW0 := Lib.hid hw0
 clear hs hi hr hw0 FS hm
 go_enter Tryz.func166, Tryz.ntmps166
 go_wp2_with fail
 rw [← HW0.out]
 have HR := Lib.hid (bind_next HR.out)
 refine (pnext_any p s _ (F0.out).st (HM.out)).mono ?_
 rintro ee w1 ⟨rfl, hs, hf, -, -⟩
 have F1 := Lib.hid ((F0.out).step hf hs)
 have HI1 : Hid (1 ≤ (adv s).i ∧ s.i < (adv s).i ∧ (adv s).o = s.o + 0) := Lib.hid (by have h1 := HI0.out; unfold adv; simp only; omega)
 have hr0 := HRL.out
 have hl0 := F0.out.lt
 clear hr0 hl0
 clear hs hf
 go_wp2_with fail
 refine (pkind_any p 1 (adv s) _ (F1.out).st).mono ?_
 rintro ee w2 ⟨rfl, hb⟩
 have F2 := Lib.hid ((F1.out).below hb)
 have HI2 := HI1
 have hr0 := HRL.out
 have hl0 := F1.out.lt
 clear hr0 hl0
 clear hb
 obtain ⟨b, hc⟩ : ∃ b, kdB p.ts (adv s) 1 = b := ⟨_, rfl⟩
 have hr := HR.out
 try rw [hc]
 cases b with
 | true =>
  simp only [hc, if_true] at hr
  have HR := Lib.hid hr
  have HC2 := Lib.hid hc
  clear hr hc
  go_wp2_with fail
  have HR := Lib.hid (bind_next HR.out)
  refine (pnext_any p (adv s) _ (F2.out).st (F2.out.st.more_kd (k := 1) (by decide) HC2.out)).mono ?_
  rintro ee w3 ⟨rfl, hs, hf, -, -⟩
  have F3 := Lib.hid ((F2.out).step hf hs)
  have HI3 : Hid (1 ≤ (adv (adv s)).i ∧ s.i < (adv (adv s)).i ∧ (adv (adv s)).o = s.o + 0) := Lib.hid (by have h1 := HI2.out; unfold adv; simp only; omega)
  have hr0 := HRL.out
  have hl0 := F2.out.lt
  clear hr0 hl0
  clear hs hf
  go_wp2_with fail
  refine (pmade_any p (adv (adv s)) _ ((F3.out.alloc _)).st (by have h1 := HI3.out; omega) _ _ _ _ _ _ _).mono ?_
  rintro ee w4 ⟨rfl, hb⟩
  have F4 := Lib.hid (((F3.out.alloc _)).below hb)
  have HI4 := HI3
  have hr0 := HRL.out
  have hl0 := F3.out.lt
  have T_t := Lib.hid ((PFr.of_below (R := p.R) hb).kept (N := w3.heap.size) (by omega) (alloc_top w3 _ _))
  have hl_t : Hid (w.heap.size < w3.heap.size) := Lib.hid (by omega)
  clear hr0 hl0
  clear hb
  have hz := F4.out.lt
  have hzp := F3.out.lt
  have h1 := HI4.out
  have HSS := Lib.hid (sin0 (W := w4) (P := (fun b => w.heap.size < b)))
  clear hz hzp h1
  have hrr := (Option.some.inj HR.out).symm
  subst hrr
  obtain ⟨z0, z1, z2, z3, z4, z5, hres⟩ := F4.out.res
  obtain ⟨y0, y1, y2, y3, y4, y5⟩ := six_cells hres
  have x0 := frozen_of_row _ w.heap.size 0 _ _ hres
  have x1 := frozen_of_row _ w.heap.size 1 _ _ hres
  have x2 := frozen_of_row _ w.heap.size 2 _ _ hres
  have x3 := frozen_of_row _ w.heap.size 3 _ _ hres
  have x4 := frozen_of_row _ w.heap.size 4 _ _ hres
  have x5 := frozen_of_row _ w.heap.size 5 _ _ hres
  have HRES := Lib.hid hres
  clear hres
  go_wp2_with fail
  have h1 := HI4.out
  exact ret_cell1A (p := 4) rfl _ rfl _ (load_nd (six_heap HRES.out)) (F4.out.done (HSS.out.wide (fun _ _ hk => hk)) (Nat.le_refl _) (by omega) (by omega) _ _ _ _ _ _ rfl)
 | false =>
  simp only [hc, if_false, Bool.false_eq_true] at hr
  have HR := Lib.hid hr
  have HC2 := Lib.hid hc
  clear hr hc
  go_wp2_with fail
  refine (pmade_any p (adv s) _ (F2.out).st (by have h1 := HI2.out; omega) _ _ _ _ _ _ _).mono ?_
  rintro ee w3 ⟨rfl, hb⟩
  have F3 := Lib.hid ((F2.out).below hb)
  have HI3 := HI2
  have hr0 := HRL.out
  have hl0 := F2.out.lt
  clear hr0 hl0
  clear hb
  have hz := F3.out.lt
  have hzp := F2.out.lt
  have h1 := HI3.out
  have HSS := Lib.hid (sin0 (W := w3) (P := (fun b => w.heap.size < b)))
  clear hz hzp h1
  have hrr := (Option.some.inj HR.out).symm
  subst hrr
  obtain ⟨z0, z1, z2, z3, z4, z5, hres⟩ := F3.out.res
  obtain ⟨y0, y1, y2, y3, y4, y5⟩ := six_cells hres
  have x0 := frozen_of_row _ w.heap.size 0 _ _ hres
  have x1 := frozen_of_row _ w.heap.size 1 _ _ hres
  have x2 := frozen_of_row _ w.heap.size 2 _ _ hres
  have x3 := frozen_of_row _ w.heap.size 3 _ _ hres
  have x4 := frozen_of_row _ w.heap.size 4 _ _ hres
  have x5 := frozen_of_row _ w.heap.size 5 _ _ hres
  have HRES := Lib.hid hres
  clear hres
  go_wp2_with fail
  have h1 := HI3.out
  exact ret_cell1A (p := 4) rfl _ rfl _ (load_nd (six_heap HRES.out)) (F3.out.done (HSS.out.wide (fun _ _ hk => hk)) (Nat.le_refl _) (by omega) (by omega) _ _ _ _ _ _ rfl)
set_option maxRecDepth 100000 in
set_option maxHeartbeats 4000000 in
theorem preturned_any (p : PC) (ex : Rd) (hE : RdC p 186 #[.pointer (some ⟨p.R, 0, none⟩)] ex) : RdC p 165 #[.pointer (some ⟨p.R, 0, none⟩)] (returnedP p.ts ex) := by
 intro s w hs hi r hr
 unfold returnedP at hr
 have HR := Lib.hid hr
 have HI0 : Hid (1 ≤ s.i ∧ s.i ≤ s.i ∧ s.o = s.o) := Lib.hid ⟨hi, Nat.le_refl _, rfl⟩
 have HE := Lib.hid hE
 have tf0 := tk_f0
 have tf1 := tk_f1
 have tf2 := tk_f2
 have HRL := Lib.hid (And.intro hs.rlt hs.glt)
 have FS := Lib.hid (Fm.start hs (.int .i64 0) (.int .i64 0) (.int .i64 0) (.int .i64 0) (.string ⟨#[]⟩) (.slice none 0 0))
 obtain ⟨w0, hw0⟩ : ∃ W, W = w.alloc (.cells #[.int .i64 0, .int .i64 0, .int .i64 0, .int .i64 0, .string ⟨#[]⟩, .slice none 0 0] 24) := ⟨_, rfl⟩
 have F0 : Hid (Fm p w w0 s) := Lib.hid (by rw [hw0]; exact FS.out)
 have HW0 := Lib.hid hw0
 clear hs hi hr hw0 FS hE
 go_enter Tryz.func165, Tryz.ntmps165
 go_wp2_with fail
 rw [← HW0.out]
 obtain ⟨r1, hx, hr⟩ := bind_pf HR.out
 have HR := Lib.hid hr
 clear hr
 refine (ptake_any p wReturn (by decide) s _ (F0.out).st r1 hx).mono ?_
 clear hx
 intro ee w1 he
 cases r1 with
 | bad kk xx =>
  obtain ⟨rfl, hf⟩ := he
  have hrr : r = .bad kk xx := HR.out
  subst hrr
  have HE := Lib.hid ((F0.out).fr.trans hf)
  clear hf
  go_wp2_with fail
  exact ⟨rfl, rfl, HE.out⟩
 | ok t1 s1 =>
  obtain ⟨rfl, hs, hf, hi, ho⟩ := he
  have F1 := Lib.hid ((F0.out).step hf hs)
  have HI1 : Hid (1 ≤ s1.i ∧ s.i < s1.i ∧ s1.o = s.o + 0) := Lib.hid (by have h1 := HI0.out; omega)
  have hr0 := HRL.out
  have hl0 := F0.out.lt
  clear hr0 hl0
  clear hs hf hi ho
  go_wp2_with fail
  refine (pkind_any p 7 s1 _ (F1.out).st).mono ?_
  rintro ee w2 ⟨rfl, hb⟩
  have F2 := Lib.hid ((F1.out).below hb)
  have HI2 := HI1
  have hr0 := HRL.out
  have hl0 := F1.out.lt
  clear hr0 hl0
  clear hb
  obtain ⟨b, hc⟩ : ∃ b, kdB p.ts s1 7 = b := ⟨_, rfl⟩
  have hr := HR.out
  try rw [hc]
  cases b with
  | true =>
   simp only [hc, if_true, Bool.true_or] at hr
   have HR := Lib.hid hr
   have HC2 := Lib.hid hc
   clear hr hc
   go_wp2_with fail
   refine (pmade_any p s1 _ (F2.out).st (by have h1 := HI2.out; omega) _ _ _ _ _ _ _).mono ?_
   rintro ee w3 ⟨rfl, hb⟩
   have F3 := Lib.hid ((F2.out).below hb)
   have HI3 := HI2
   have hr0 := HRL.out
   have hl0 := F2.out.lt
   clear hr0 hl0
   clear hb
   have hz := F3.out.lt
   have hzp := F2.out.lt
   have h1 := HI3.out
   have HSS := Lib.hid (sin0 (W := w3) (P := (fun b => w.heap.size < b)))
   clear hz hzp h1
   have hrr := (Option.some.inj HR.out).symm
   subst hrr
   obtain ⟨z0, z1, z2, z3, z4, z5, hres⟩ := F3.out.res
   obtain ⟨y0, y1, y2, y3, y4, y5⟩ := six_cells hres
   have x0 := frozen_of_row _ w.heap.size 0 _ _ hres
   have x1 := frozen_of_row _ w.heap.size 1 _ _ hres
   have x2 := frozen_of_row _ w.heap.size 2 _ _ hres
   have x3 := frozen_of_row _ w.heap.size 3 _ _ hres
   have x4 := frozen_of_row _ w.heap.size 4 _ _ hres
   have x5 := frozen_of_row _ w.heap.size 5 _ _ hres
   have HRES := Lib.hid hres
   clear hres
   go_wp2_with fail
   have h1 := HI3.out
   exact ret_cell1A (p := 2) rfl _ rfl _ (load_nd (six_heap HRES.out)) (F3.out.done (HSS.out.wide (fun _ _ hk => hk)) (Nat.le_refl _) (by omega) (by omega) _ _ _ _ _ _ rfl)
  | false =>
   simp only [hc, Bool.false_or] at hr
   have HR := Lib.hid hr
   have HC2 := Lib.hid hc
   clear hr hc
   go_wp2_with fail
   refine (pstands_any p mRBrace s1 _ (F2.out).st).mono ?_
   rintro ee w3 ⟨rfl, hb⟩
   have F3 := Lib.hid ((F2.out).below hb)
   have HI3 := HI2
   have hr0 := HRL.out
   have hl0 := F2.out.lt
   clear hr0 hl0
   clear hb
   obtain ⟨b, hc⟩ : ∃ b, atB p.ts s1 mRBrace = b := ⟨_, rfl⟩
   have hr := HR.out
   try rw [hc]
   cases b with
   | true =>
    simp only [hc, if_true] at hr
    have HR := Lib.hid hr
    have HC3 := Lib.hid hc
    clear hr hc
    go_wp2_with fail
    refine (pmade_any p s1 _ (F3.out).st (by have h1 := HI3.out; omega) _ _ _ _ _ _ _).mono ?_
    rintro ee w4 ⟨rfl, hb⟩
    have F4 := Lib.hid ((F3.out).below hb)
    have HI4 := HI3
    have hr0 := HRL.out
    have hl0 := F3.out.lt
    clear hr0 hl0
    clear hb
    have hz := F4.out.lt
    have hzp := F3.out.lt
    have h1 := HI4.out
    have HSS := Lib.hid (sin0 (W := w4) (P := (fun b => w.heap.size < b)))
    clear hz hzp h1
    have hrr := (Option.some.inj HR.out).symm
    subst hrr
    obtain ⟨z0, z1, z2, z3, z4, z5, hres⟩ := F4.out.res
    obtain ⟨y0, y1, y2, y3, y4, y5⟩ := six_cells hres
    have x0 := frozen_of_row _ w.heap.size 0 _ _ hres
    have x1 := frozen_of_row _ w.heap.size 1 _ _ hres
    have x2 := frozen_of_row _ w.heap.size 2 _ _ hres
    have x3 := frozen_of_row _ w.heap.size 3 _ _ hres
    have x4 := frozen_of_row _ w.heap.size 4 _ _ hres
    have x5 := frozen_of_row _ w.heap.size 5 _ _ hres
    have HRES := Lib.hid hres
    clear hres
    go_wp2_with fail
    have h1 := HI4.out
    exact ret_cell1A (p := 2) rfl _ rfl _ (load_nd (six_heap HRES.out)) (F4.out.done (HSS.out.wide (fun _ _ hk => hk)) (Nat.le_refl _) (by omega) (by omega) _ _ _ _ _ _ rfl)
   | false =>
    simp only [hc, if_false, Bool.false_eq_true] at hr
    have HR := Lib.hid hr
    have HC3 := Lib.hid hc
    clear hr hc
    go_wp2_with fail
    obtain ⟨r2, hx, hr⟩ := bind_pf HR.out
    have HR := Lib.hid hr
    clear hr
    refine (HE.out s1 _ (F3.out).st (by have h1 := HI3.out; omega) r2 hx).mono ?_
    clear hx
    intro ee w4 he
    cases r2 with
    | bad kk xx =>
     obtain ⟨rfl, hf⟩ := he
     have hrr : r = .bad kk xx := HR.out
     subst hrr
     have HE := Lib.hid ((F3.out).fr.trans hf)
     clear hf
     go_wp2_with fail
     exact ⟨rfl, rfl, HE.out⟩
    | ok n_e s4 =>
     obtain ⟨⟨v, rfl, hn⟩, hs, hf, hi, ho⟩ := he
     obtain ⟨A_e, c_e, rfl, hc, hk⟩ := hn.open
     have F4 := Lib.hid ((F3.out).step hf hs)
     have HI4 : Hid (1 ≤ s4.i ∧ s.i < s4.i ∧ s4.o = s.o + 0) := Lib.hid (by have h1 := HI3.out; omega)
     have hr0 := HRL.out
     have hl0 := F3.out.lt
     clear hr0 hl0
     have K_e : Hid (n_e.kids.length ≤ c_e ∧ SIn w4 (fun b => w.heap.size < b) n_e.kids A_e) := Lib.hid ⟨hc, hk.wide (fun k _ h1 => Nat.lt_of_lt_of_le (F3.out).lt h1)⟩
     clear hn hc hk hs hf hi ho
     go_wp2_with fail
     refine (pmade_any p s4 _ (((F4.out.alloc _).alloc _)).st (by have h1 := HI4.out; omega) _ _ _ _ _ _ _).mono ?_
     rintro ee w5 ⟨rfl, hb⟩
     have F5 := Lib.hid ((((F4.out.alloc _).alloc _)).below hb)
     have HI5 := HI4
     have hrow := blk_below (alloc_top (World.alloc w4 _) _ _) hb
     simp only [World.size_alloc] at hrow
     have HROW := Lib.hid hrow
     clear hrow
     have hr0 := HRL.out
     have hl0 := F4.out.lt
     have K_e : Hid (n_e.kids.length ≤ c_e ∧ SIn w5 (fun b => w.heap.size < b) n_e.kids A_e) := Lib.hid (And.intro K_e.out.1 (SIn.fr (SIn.below (SIn.below K_e.out.2 (alloc_below _ _)) (alloc_below _ _)) (PFr.of_below (R := p.R) hb) (fun hh => by have h2 : w.heap.size < p.R := hh; omega)))
     have T_e := Lib.hid ((PFr.of_below (R := p.R) hb).kept (N := w4.heap.size) (by omega) (blk_alloc (alloc_top w4 _ _)))
     have hl_e : Hid (w.heap.size < w4.heap.size) := Lib.hid (by omega)
     clear hr0 hl0
     clear hb
     have hz := F5.out.lt
     have hzp := F4.out.lt
     have h1 := HI5.out
     have HSS := Lib.hid (sin1 (P := (fun b => w.heap.size < b)) HROW.out (by omega) K_e.out.1 K_e.out.2)
     clear hz hzp h1
     have hrr := (Option.some.inj HR.out).symm
     subst hrr
     obtain ⟨z0, z1, z2, z3, z4, z5, hres⟩ := F5.out.res
     obtain ⟨y0, y1, y2, y3, y4, y5⟩ := six_cells hres
     have x0 := frozen_of_row _ w.heap.size 0 _ _ hres
     have x1 := frozen_of_row _ w.heap.size 1 _ _ hres
     have x2 := frozen_of_row _ w.heap.size 2 _ _ hres
     have x3 := frozen_of_row _ w.heap.size 3 _ _ hres
     have x4 := frozen_of_row _ w.heap.size 4 _ _ hres
     have x5 := frozen_of_row _ w.heap.size 5 _ _ hres
     have HRES := Lib.hid hres
     clear hres
     go_wp2_with fail
     have h1 := HI5.out
     exact ret_cell1A (p := 2) rfl _ rfl _ (load_nd (six_heap HRES.out)) (F5.out.done (HSS.out.wide (fun _ _ hk => hk)) (Nat.le_refl _) (by omega) (by omega) _ _ _ _ _ _ rfl)
set_option maxRecDepth 100000 in
set_option maxHeartbeats 4000000 in
theorem pfield_any (p : PC) (hN : RdC p 142 #[.pointer (some ⟨p.R, 0, none⟩), .int .i64 4] (ntP p.ts 4)) : RdC p 115 #[.pointer (some ⟨p.R, 0, none⟩)] (ntP p.ts 4) := by
 intro s w hs hi r hr
 have HR := Lib.hid hr
 have HI0 : Hid (1 ≤ s.i ∧ s.i ≤ s.i ∧ s.o = s.o) := Lib.hid ⟨hi, Nat.le_refl _, rfl⟩
 have HN := Lib.hid hN
 have tf0 := tk_f0
 have tf1 := tk_f1
 have tf2 := tk_f2
 have HRL := Lib.hid (And.intro hs.rlt hs.glt)
 have FS := Lib.hid (Fm.start hs (.int .i64 0) (.int .i64 0) (.int .i64 0) (.int .i64 0) (.string ⟨#[]⟩) (.slice none 0 0))
 obtain ⟨w0, hw0⟩ : ∃ W, W = w.alloc (.cells #[.int .i64 0, .int .i64 0, .int .i64 0, .int .i64 0, .string ⟨#[]⟩, .slice none 0 0] 24) := ⟨_, rfl⟩
 have F0 : Hid (Fm p w w0 s) := Lib.hid (by rw [hw0]; exact FS.out)
 have HW0 := Lib.hid hw0
 clear hs hi hr hw0 FS hN
 go_enter Tryz.func115, Tryz.ntmps115
 go_wp2_with fail
 rw [← HW0.out]
 refine (HN.out s _ (F0.out).st (by have h1 := HI0.out; omega) r HR.out).mono ?_
 intro ee w1 he
 cases r with
 | bad kk xx =>
  obtain ⟨rfl, hf⟩ := he
  have HE := Lib.hid ((F0.out).fr.trans hf)
  clear hf
  go_wp2_with fail
  exact ⟨rfl, rfl, HE.out⟩
 | ok n_z s1 =>
  obtain ⟨⟨v, rfl, hn⟩, hs, hf, hi, ho⟩ := he
  obtain ⟨A_z, c_z, rfl, hc, hk⟩ := hn.open
  have F1 := Lib.hid ((F0.out).step hf hs)
  have HI1 : Hid (1 ≤ s1.i ∧ s.i < s1.i ∧ s1.o = s.o + 0) := Lib.hid (by have h1 := HI0.out; omega)
  have K_z : Hid (n_z.kids.length ≤ c_z ∧ SIn w1 (fun b => w.heap.size < b) n_z.kids A_z) := Lib.hid ⟨hc, hk.wide (fun k _ h1 => Nat.lt_of_lt_of_le (F0.out).lt h1)⟩
  clear hn hc hk hs hf hi ho
  obtain ⟨z0, z1, z2, z3, z4, z5, hres⟩ := F1.out.res
  obtain ⟨y0, y1, y2, y3, y4, y5⟩ := six_cells hres
  have x0 := frozen_of_row _ w.heap.size 0 _ _ hres
  have x1 := frozen_of_row _ w.heap.size 1 _ _ hres
  have x2 := frozen_of_row _ w.heap.size 2 _ _ hres
  have x3 := frozen_of_row _ w.heap.size 3 _ _ hres
  have x4 := frozen_of_row _ w.heap.size 4 _ _ hres
  have x5 := frozen_of_row _ w.heap.size 5 _ _ hres
  have HRES := Lib.hid hres
  clear hres
  go_wp2_with fail
  have h1 := HI1.out
  exact ret_cell1A (p := 2) rfl _ rfl _ (load_nd (six_heap HRES.out)) (F1.out.doneN (K_z.out.2.wide (fun _ _ hk => hk)) K_z.out.1 (by omega) (by omega))
set_option maxRecDepth 100000 in
set_option maxHeartbeats 4000000 in
theorem pparam_any (p : PC) (hN : RdC p 142 #[.pointer (some ⟨p.R, 0, none⟩), .int .i64 7] (ntP p.ts 7)) : RdC p 145 #[.pointer (some ⟨p.R, 0, none⟩)] (ntP p.ts 7) := by
 intro s w hs hi r hr
 have HR := Lib.hid hr
 have HI0 : Hid (1 ≤ s.i ∧ s.i ≤ s.i ∧ s.o = s.o) := Lib.hid ⟨hi, Nat.le_refl _, rfl⟩
 have HN := Lib.hid hN
 have tf0 := tk_f0
 have tf1 := tk_f1
 have tf2 := tk_f2
 have HRL := Lib.hid (And.intro hs.rlt hs.glt)
 have FS := Lib.hid (Fm.start hs (.int .i64 0) (.int .i64 0) (.int .i64 0) (.int .i64 0) (.string ⟨#[]⟩) (.slice none 0 0))
 obtain ⟨w0, hw0⟩ : ∃ W, W = w.alloc (.cells #[.int .i64 0, .int .i64 0, .int .i64 0, .int .i64 0, .string ⟨#[]⟩, .slice none 0 0] 24) := ⟨_, rfl⟩
 have F0 : Hid (Fm p w w0 s) := Lib.hid (by rw [hw0]; exact FS.out)
 have HW0 := Lib.hid hw0
 clear hs hi hr hw0 FS hN
 go_enter Tryz.func145, Tryz.ntmps145
 go_wp2_with fail
 rw [← HW0.out]
 refine (HN.out s _ (F0.out).st (by have h1 := HI0.out; omega) r HR.out).mono ?_
 intro ee w1 he
 cases r with
 | bad kk xx =>
  obtain ⟨rfl, hf⟩ := he
  have HE := Lib.hid ((F0.out).fr.trans hf)
  clear hf
  go_wp2_with fail
  exact ⟨rfl, rfl, HE.out⟩
 | ok n_z s1 =>
  obtain ⟨⟨v, rfl, hn⟩, hs, hf, hi, ho⟩ := he
  obtain ⟨A_z, c_z, rfl, hc, hk⟩ := hn.open
  have F1 := Lib.hid ((F0.out).step hf hs)
  have HI1 : Hid (1 ≤ s1.i ∧ s.i < s1.i ∧ s1.o = s.o + 0) := Lib.hid (by have h1 := HI0.out; omega)
  have K_z : Hid (n_z.kids.length ≤ c_z ∧ SIn w1 (fun b => w.heap.size < b) n_z.kids A_z) := Lib.hid ⟨hc, hk.wide (fun k _ h1 => Nat.lt_of_lt_of_le (F0.out).lt h1)⟩
  clear hn hc hk hs hf hi ho
  obtain ⟨z0, z1, z2, z3, z4, z5, hres⟩ := F1.out.res
  obtain ⟨y0, y1, y2, y3, y4, y5⟩ := six_cells hres
  have x0 := frozen_of_row _ w.heap.size 0 _ _ hres
  have x1 := frozen_of_row _ w.heap.size 1 _ _ hres
  have x2 := frozen_of_row _ w.heap.size 2 _ _ hres
  have x3 := frozen_of_row _ w.heap.size 3 _ _ hres
  have x4 := frozen_of_row _ w.heap.size 4 _ _ hres
  have x5 := frozen_of_row _ w.heap.size 5 _ _ hres
  have HRES := Lib.hid hres
  clear hres
  go_wp2_with fail
  have h1 := HI1.out
  exact ret_cell1A (p := 2) rfl _ rfl _ (load_nd (six_heap HRES.out)) (F1.out.doneN (K_z.out.2.wide (fun _ _ hk => hk)) K_z.out.1 (by omega) (by omega))
set_option maxRecDepth 100000 in
set_option maxHeartbeats 4000000 in
theorem pexpr_any (p : PC) (bi : Nat → Rd) (hB : RdC p 205 #[.pointer (some ⟨p.R, 0, none⟩), .int .i64 1] (bi 1)) : RdC p 186 #[.pointer (some ⟨p.R, 0, none⟩)] (bi 1) := by
 intro s w hs hi r hr
 have HR := Lib.hid hr
 have HI0 : Hid (1 ≤ s.i ∧ s.i ≤ s.i ∧ s.o = s.o) := Lib.hid ⟨hi, Nat.le_refl _, rfl⟩
 have HB := Lib.hid hB
 have tf0 := tk_f0
 have tf1 := tk_f1
 have tf2 := tk_f2
 have HRL := Lib.hid (And.intro hs.rlt hs.glt)
 have FS := Lib.hid (Fm.start hs (.int .i64 0) (.int .i64 0) (.int .i64 0) (.int .i64 0) (.string ⟨#[]⟩) (.slice none 0 0))
 obtain ⟨w0, hw0⟩ : ∃ W, W = w.alloc (.cells #[.int .i64 0, .int .i64 0, .int .i64 0, .int .i64 0, .string ⟨#[]⟩, .slice none 0 0] 24) := ⟨_, rfl⟩
 have F0 : Hid (Fm p w w0 s) := Lib.hid (by rw [hw0]; exact FS.out)
 have HW0 := Lib.hid hw0
 clear hs hi hr hw0 FS hB
 go_enter Tryz.func186, Tryz.ntmps186
 go_wp2_with fail
 rw [← HW0.out]
 refine (HB.out s _ (F0.out).st (by have h1 := HI0.out; omega) r HR.out).mono ?_
 intro ee w1 he
 cases r with
 | bad kk xx =>
  obtain ⟨rfl, hf⟩ := he
  have HE := Lib.hid ((F0.out).fr.trans hf)
  clear hf
  go_wp2_with fail
  exact ⟨rfl, rfl, HE.out⟩
 | ok n_z s1 =>
  obtain ⟨⟨v, rfl, hn⟩, hs, hf, hi, ho⟩ := he
  obtain ⟨A_z, c_z, rfl, hc, hk⟩ := hn.open
  have F1 := Lib.hid ((F0.out).step hf hs)
  have HI1 : Hid (1 ≤ s1.i ∧ s.i < s1.i ∧ s1.o = s.o + 0) := Lib.hid (by have h1 := HI0.out; omega)
  have K_z : Hid (n_z.kids.length ≤ c_z ∧ SIn w1 (fun b => w.heap.size < b) n_z.kids A_z) := Lib.hid ⟨hc, hk.wide (fun k _ h1 => Nat.lt_of_lt_of_le (F0.out).lt h1)⟩
  clear hn hc hk hs hf hi ho
  obtain ⟨z0, z1, z2, z3, z4, z5, hres⟩ := F1.out.res
  obtain ⟨y0, y1, y2, y3, y4, y5⟩ := six_cells hres
  have x0 := frozen_of_row _ w.heap.size 0 _ _ hres
  have x1 := frozen_of_row _ w.heap.size 1 _ _ hres
  have x2 := frozen_of_row _ w.heap.size 2 _ _ hres
  have x3 := frozen_of_row _ w.heap.size 3 _ _ hres
  have x4 := frozen_of_row _ w.heap.size 4 _ _ hres
  have x5 := frozen_of_row _ w.heap.size 5 _ _ hres
  have HRES := Lib.hid hres
  clear hres
  go_wp2_with fail
  have h1 := HI1.out
  exact ret_cell1A (p := 2) rfl _ rfl _ (load_nd (six_heap HRES.out)) (F1.out.doneN (K_z.out.2.wide (fun _ _ hk => hk)) K_z.out.1 (by omega) (by omega))
set_option maxRecDepth 100000 in
set_option maxHeartbeats 4000000 in
theorem preceiver_any (p : PC) (hO : RdC p 143 #[.pointer (some ⟨p.R, 0, none⟩)] (ownTypeP p.ts)) : RdC p 116 #[.pointer (some ⟨p.R, 0, none⟩)] (receiverP p.ts) := by
 intro s w hs hi r hr
 unfold receiverP at hr
 have HR := Lib.hid hr
 have HI0 : Hid (1 ≤ s.i ∧ s.i ≤ s.i ∧ s.o = s.o) := Lib.hid ⟨hi, Nat.le_refl _, rfl⟩
 have HO := Lib.hid hO
 have tf0 := tk_f0
 have tf1 := tk_f1
 have tf2 := tk_f2
 have HRL := Lib.hid (And.intro hs.rlt hs.glt)
 have FS := Lib.hid (Fm.start hs (.int .i64 0) (.int .i64 0) (.int .i64 0) (.int .i64 0) (.string ⟨#[]⟩) (.slice none 0 0))
 obtain ⟨w0, hw0⟩ : ∃ W, W = w.alloc (.cells #[.int .i64 0, .int .i64 0, .int .i64 0, .int .i64 0, .string ⟨#[]⟩, .slice none 0 0] 24) := ⟨_, rfl⟩
 have F0 : Hid (Fm p w w0 s) := Lib.hid (by rw [hw0]; exact FS.out)
 have HW0 := Lib.hid hw0
 clear hs hi hr hw0 FS hO
 go_enter Tryz.func116, Tryz.ntmps116
 go_wp2_with fail
 rw [← HW0.out]
 obtain ⟨r1, hx, hr⟩ := bind_pf HR.out
 have HR := Lib.hid hr
 clear hr
 refine (pbegin_any p mOpen (by decide) s _ (F0.out).st r1 hx).mono ?_
 clear hx
 intro ee w1 he
 cases r1 with
 | bad kk xx =>
  obtain ⟨rfl, hf⟩ := he
  have hrr : r = .bad kk xx := HR.out
  subst hrr
  have HE := Lib.hid ((F0.out).fr.trans hf)
  clear hf
  go_wp2_with fail
  exact ⟨rfl, rfl, HE.out⟩
 | ok t1 s1 =>
  obtain ⟨rfl, hs, hf, hi, ho⟩ := he
  have F1 := Lib.hid ((F0.out).step hf hs)
  have HI1 : Hid (1 ≤ s1.i ∧ s.i < s1.i ∧ s1.o = s.o + 1) := Lib.hid (by have h1 := HI0.out; omega)
  have hr0 := HRL.out
  have hl0 := F0.out.lt
  clear hr0 hl0
  clear hs hf hi ho
  go_wp2_with fail
  obtain ⟨r2, hx, hr⟩ := bind_pf HR.out
  have HR := Lib.hid hr
  clear hr
  refine (ptakeK_any p 1 (by decide) s1 _ (F1.out).st r2 hx).mono ?_
  clear hx
  intro ee w2 he
  cases r2 with
  | bad kk xx =>
   obtain ⟨rfl, hf⟩ := he
   have hrr : r = .bad kk xx := HR.out
   subst hrr
   have HE := Lib.hid ((F1.out).fr.trans hf)
   clear hf
   go_wp2_with fail
   exact ⟨rfl, rfl, HE.out⟩
  | ok t s2 =>
   obtain ⟨rfl, hs, hf, hi, ho⟩ := he
   have F2 := Lib.hid ((F1.out).step hf hs)
   have HI2 : Hid (1 ≤ s2.i ∧ s.i < s2.i ∧ s2.o = s.o + 1) := Lib.hid (by have h1 := HI1.out; omega)
   have hr0 := HRL.out
   have hl0 := F1.out.lt
   clear hr0 hl0
   clear hs hf hi ho
   go_wp2_with fail
   obtain ⟨r3, hx, hr⟩ := bind_pf HR.out
   have HR := Lib.hid hr
   clear hr
   refine (HO.out s2 _ ((F2.out.alloc _)).st (by have h1 := HI2.out; omega) r3 hx).mono ?_
   clear hx
   intro ee w3 he
   cases r3 with
   | bad kk xx =>
    obtain ⟨rfl, hf⟩ := he
    have hrr : r = .bad kk xx := HR.out
    subst hrr
    have HE := Lib.hid (((F2.out.alloc _)).fr.trans hf)
    clear hf
    go_wp2_with fail
    exact ⟨rfl, rfl, HE.out⟩
   | ok n_y s3 =>
    obtain ⟨⟨v, rfl, hn⟩, hs, hf, hi, ho⟩ := he
    obtain ⟨A_y, c_y, rfl, hc, hk⟩ := hn.open
    have F3 := Lib.hid (((F2.out.alloc _)).step hf hs)
    have HI3 : Hid (1 ≤ s3.i ∧ s.i < s3.i ∧ s3.o = s.o + 1) := Lib.hid (by have h1 := HI2.out; omega)
    have hr0 := HRL.out
    have hl0 := F2.out.lt
    have T_t := Lib.hid (hf.kept (N := w2.heap.size) (by omega) (alloc_top w2 _ _))
    have hl_t : Hid (w.heap.size < w2.heap.size) := Lib.hid (by omega)
    clear hr0 hl0
    have K_y : Hid (n_y.kids.length ≤ c_y ∧ SIn w3 (fun b => w.heap.size < b) n_y.kids A_y) := Lib.hid ⟨hc, hk.wide (fun k _ h1 => Nat.lt_of_lt_of_le ((F2.out.alloc _)).lt h1)⟩
    clear hn hc hk hs hf hi ho
    obtain ⟨qt0, qt1, qt2, qt3⟩ := tk4 T_t.out
    have qtl := (Array.getElem?_eq_some_iff.1 T_t.out).1
    go_wp2_with fail
    clear qt0 qt1 qt2 qt3 qtl
    refine (pmade_any p s3 _ (((F3.out.alloc _).alloc _)).st (by have h1 := HI3.out; omega) _ _ _ _ _ _ _).mono ?_
    rintro ee w4 ⟨rfl, hb⟩
    have F4 := Lib.hid ((((F3.out.alloc _).alloc _)).below hb)
    have HI4 := HI3
    have hrow := blk_below (alloc_top (World.alloc w3 _) _ _) hb
    simp only [World.size_alloc] at hrow
    have HROW := Lib.hid hrow
    clear hrow
    have hr0 := HRL.out
    have hl0t := hl_t.out
    have hl0 := F3.out.lt
    have T_t := Lib.hid ((PFr.of_below (R := p.R) hb).kept (N := w2.heap.size) (by omega) (blk_alloc (blk_alloc T_t.out)))
    have K_y : Hid (n_y.kids.length ≤ c_y ∧ SIn w4 (fun b => w.heap.size < b) n_y.kids A_y) := Lib.hid (And.intro K_y.out.1 (SIn.fr (SIn.below (SIn.below K_y.out.2 (alloc_below _ _)) (alloc_below _ _)) (PFr.of_below (R := p.R) hb) (fun hh => by have h2 : w.heap.size < p.R := hh; omega)))
    have T_y := Lib.hid ((PFr.of_below (R := p.R) hb).kept (N := w3.heap.size) (by omega) (blk_alloc (alloc_top w3 _ _)))
    have hl_y : Hid (w.heap.size < w3.heap.size) := Lib.hid (by omega)
    clear hr0 hl0 hl0t
    clear hb
    have hz := F4.out.lt
    have hzp := F3.out.lt
    have h1 := HI4.out
    have HSS := Lib.hid (sin1 (P := (fun b => w.heap.size < b)) HROW.out (by omega) K_y.out.1 K_y.out.2)
    clear hz hzp h1
    have K_n : Hid ([n_y].length ≤ 1 ∧ SIn w4 (fun b => w.heap.size < b) [n_y] (some ⟨w3.heap.size + 1, 0, none⟩)) := Lib.hid ⟨Nat.le_refl _, HSS.out⟩
    go_wp2_with fail
    obtain ⟨r4, hx, hr⟩ := bind_pf HR.out
    have HR := Lib.hid hr
    clear hr
    refine (pfinish_any p mClose (by decide) s3 _ ((F4.out.alloc _)).st (by have h1 := HI4.out; omega) r4 hx).mono ?_
    clear hx
    intro ee w5 he
    cases r4 with
    | bad kk xx =>
     obtain ⟨rfl, hf⟩ := he
     have hrr : r = .bad kk xx := HR.out
     subst hrr
     have HE := Lib.hid (((F4.out.alloc _)).fr.trans hf)
     clear hf
     go_wp2_with fail
     exact ⟨rfl, rfl, HE.out⟩
    | ok uu s5 =>
     obtain ⟨rfl, hs, hf, hi, ho⟩ := he
     have F5 := Lib.hid (((F4.out.alloc _)).step hf hs)
     have HI5 : Hid (1 ≤ s5.i ∧ s.i < s5.i ∧ s5.o = s.o + 0) := Lib.hid (by have h1 := HI4.out; omega)
     have hr0 := HRL.out
     have hl0t := hl_t.out
     have hl0y := hl_y.out
     have hl0 := F4.out.lt
     have T_t := Lib.hid (hf.kept (N := w2.heap.size) (by omega) (blk_alloc T_t.out))
     have K_y : Hid (n_y.kids.length ≤ c_y ∧ SIn w5 (fun b => w.heap.size < b) n_y.kids A_y) := Lib.hid (And.intro K_y.out.1 (SIn.fr (SIn.below K_y.out.2 (alloc_below _ _)) hf (fun hh => by have h2 : w.heap.size < p.R := hh; omega)))
     have T_y := Lib.hid (hf.kept (N := w3.heap.size) (by omega) (blk_alloc T_y.out))
     have K_n : Hid ([n_y].length ≤ 1 ∧ SIn w5 (fun b => w.heap.size < b) [n_y] (some ⟨w3.heap.size + 1, 0, none⟩)) := Lib.hid (And.intro K_n.out.1 (SIn.fr (SIn.below K_n.out.2 (alloc_below _ _)) hf (fun hh => by have h2 : w.heap.size < p.R := hh; omega)))
     have T_n := Lib.hid (hf.kept (N := w4.heap.size) (by omega) (alloc_top w4 _ _))
     have hl_n : Hid (w.heap.size < w4.heap.size) := Lib.hid (by omega)
     clear hr0 hl0 hl0t hl0y
     clear hs hf hi ho
     obtain ⟨qn0, qn1, qn2, qn3, qn4, qn5⟩ := six_cells T_n.out
     have qnl := (Array.getElem?_eq_some_iff.1 T_n.out).1
     have hrr := (Option.some.inj HR.out).symm
     subst hrr
     obtain ⟨z0, z1, z2, z3, z4, z5, hres⟩ := F5.out.res
     obtain ⟨y0, y1, y2, y3, y4, y5⟩ := six_cells hres
     have x0 := frozen_of_row _ w.heap.size 0 _ _ hres
     have x1 := frozen_of_row _ w.heap.size 1 _ _ hres
     have x2 := frozen_of_row _ w.heap.size 2 _ _ hres
     have x3 := frozen_of_row _ w.heap.size 3 _ _ hres
     have x4 := frozen_of_row _ w.heap.size 4 _ _ hres
     have x5 := frozen_of_row _ w.heap.size 5 _ _ hres
     have HRES := Lib.hid hres
     clear hres
     go_wp2_with fail
     have h1 := HI5.out
     exact ret_cell1A (p := 2) rfl _ rfl _ (load_nd (six_heap HRES.out)) (F5.out.doneN (s := s) (n := mkN p.ts 7 t.2.2.1 t.2.2.1 t.2.1 [n_y] s3) (K_n.out.2.wide (fun _ _ hk => hk)) K_n.out.1 (by omega) (by omega))
end Go.Proofs.YtmlclgkhnekmnaaGreatDoor
