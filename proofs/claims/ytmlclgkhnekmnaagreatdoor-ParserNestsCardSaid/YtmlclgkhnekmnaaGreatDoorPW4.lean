/- The parser's function. (Written by a program.) -/
import Derived.Test.YtmlclgkhnekmnaaGreatDoorPW1
namespace Go.Proofs.YtmlclgkhnekmnaaGreatDoor
open Go.RowKit
set_option maxRecDepth 100000 in
set_option maxHeartbeats 4000000 in
theorem pfunction_any (p : PC) (f : Nat) (hRR : RdC p 116 #[.pointer (some ⟨p.R, 0, none⟩)] (receiverP p.ts)) (hP : RdC p 117 #[.pointer (some ⟨p.R, 0, none⟩)] (paramsP p.ts f)) (hT : RdC p 118 #[.pointer (some ⟨p.R, 0, none⟩)] (typP p.ts)) (hB : RdC p 119 #[.pointer (some ⟨p.R, 0, none⟩)] (blockP p.ts (stF p.ts f).1 f)) : RdC p 96 #[.pointer (some ⟨p.R, 0, none⟩)] (functionP p.ts f) := by
 intro s w hs hi r hr
 obtain ⟨r1, hx1, hr⟩ := bind_pf hr
 have HR := Lib.hid hr
 have HX1 := Lib.hid hx1
 have L0 := Lib.hid (Lx.start hs)
 have HRR := Lib.hid hRR
 have HP := Lib.hid hP
 have HT := Lib.hid hT
 have HB := Lib.hid hB
 have HI := Lib.hid hi
 have tf0 := tk_f0
 have tf1 := tk_f1
 have tf2 := tk_f2
 clear hs hi hr hx1 hRR hP hT hB
 go_enter Tryz.func96, Tryz.ntmps96
 go_wp2_with fail
 refine tk_go L0.out (ptake_any p wFunc (by decide) s _ L0.out.fm.st r1 HX1.out) (fun k x w' e hf => ⟨rfl, by rw [bad_eq HR.out e]; exact ⟨rfl, hf⟩⟩) fun v s1 w1 e L hi1 ho1 => ?_
 obtain ⟨r2, hx2, hr⟩ := bind_pf (ok_eq HR.out e)
 have HR := Lib.hid hr
 have L1 : Hid (Lx p w _ s1 [] [(w1.heap.size + 1, noN, none, 0), (w1.heap.size, noN, none, 0)]) := Lib.hid (by have h := L.zero.zero; simp only [World.size_alloc] at h; exact h)
 have HI1 := Lib.hid (And.intro hi1 ho1)
 have HX2 := Lib.hid hx2
 clear hr hx2 L e hi1 ho1
 go_wp2_with fail
 refine st_go (m := mOpen) L1.out fun w2 L => ?_
 have L2 := Lib.hid L
 have hx := HX2.out
 generalize atB p.ts s1 mOpen = b at *
 have HX2 := Lib.hid hx
 clear L hx
 go_upto_if 13 with fail
 go_cut [] (fun wx => ∃ (y : Nd) (A : Option Addr) (c : Nat) (s' : Ps), r2 = .ok y s' ∧ Hid (Lx p w wx s' [] [(w1.heap.size + 1, noN, none, 0), (w1.heap.size, y, A, c)]) ∧ Hid (s1.i ≤ s'.i ∧ s'.o = s1.o))
 case first =>
  cases b with
  | false =>
   go_wp2_with fail
   go_meet
   exact ⟨noN, none, 0, s1, (Option.some.inj HX2.out).symm, L2, Lib.hid ⟨Nat.le_refl _, rfl⟩⟩
  | true =>
   go_wp2_with fail
   refine nd_go L2.out (HRR.out s1 _ L2.out.fm.st (by have := HI1.out; omega) r2 HX2.out) (fun k x w' e hf => ⟨rfl, by rw [bad_eq HR.out e]; exact ⟨rfl, hf⟩⟩) fun n s3 A c w4 e L hc hk hi1 ho1 => ?_
   have h1 := (L.nd (w1.heap.size, noN, none, 0) (by simp)).2.1
   obtain ⟨⟨y0, y1, y2, y3, y4, y5⟩, x0, x1, x2, x3, x4, x5⟩ := six_all h1
   have L4 := Lib.hid (L.put [_] hc hk)
   have HI4 : Hid (s1.i ≤ s3.i ∧ s3.o = s1.o) := Lib.hid ⟨by omega, ho1⟩
   clear L hc hk hi1 ho1 h1
   go_wp2_with fail
   go_meet
   exact ⟨n, A, c, s3, e, L4, HI4⟩
 case rest =>
  obtain ⟨y, A, c, s2, e, L3, HI3⟩ := hcut
  obtain ⟨r3, hx3, hr⟩ := bind_pf (ok_eq HR.out e)
  have HR := Lib.hid hr
  have HX3 := Lib.hid hx3
  clear hr hx3 e
  go_wp2_with fail
  refine tk_go L3.out (ptakeK_any p 1 (by decide) s2 _ L3.out.fm.st r3 HX3.out) (fun k x w' e hf => ⟨rfl, by rw [bad_eq HR.out e]; exact ⟨rfl, hf⟩⟩) fun t s3 w3 e L hi1 ho1 => ?_
  obtain ⟨r4, hx4, hr⟩ := bind_pf (ok_eq HR.out e)
  have HR := Lib.hid hr
  have HX4 := Lib.hid hx4
  have L4 := Lib.hid (L.tk t)
  have HI4 : Hid (s1.i < s3.i ∧ s3.o = s1.o) := Lib.hid (by have := HI3.out; omega)
  clear hr hx4 L e hi1 ho1
  go_wp2_with fail
  refine nd_go L4.out (HP.out s3 _ L4.out.fm.st (by have := HI4.out; omega) r4 HX4.out) (fun k x w' e hf => ⟨rfl, by rw [bad_eq HR.out e]; exact ⟨rfl, hf⟩⟩) fun q s4 B d w4 e L hc hk hi1 ho1 => ?_
  obtain ⟨r5, hx5, hr⟩ := bind_pf (ok_eq HR.out e)
  have HR := Lib.hid hr
  have HX5 := Lib.hid hx5
  have L5 := Lib.hid (L.tree hc hk)
  have HI5 : Hid (s1.i < s4.i ∧ s4.o = s1.o) := Lib.hid (by have := HI4.out; omega)
  clear hr hx5 L e hi1 ho1 hc hk
  go_wp2_with fail
  refine st_go (m := mLBrace) L5.out fun w5 L => ?_
  have L6 := Lib.hid L
  have hx := HX5.out
  generalize atB p.ts s4 mLBrace = b at *
  have HX5 := Lib.hid hx
  clear L hx
  go_upto_if 22 with fail
  go_cut [] (fun wx => ∃ (n : Nd) (C : Option Addr) (k : Nat) (s' : Ps), r5 = .ok n s' ∧ Hid (Lx p w wx s' [(w3.heap.size, t)] [(w4.heap.size, q, B, d), (w1.heap.size + 1, n, C, k), (w1.heap.size, y, A, c)]) ∧ Hid (s4.i ≤ s'.i ∧ s'.o = s4.o))
  case first =>
   cases b with
   | true =>
    go_wp2_with fail
    go_meet
    exact ⟨noN, none, 0, s4, (Option.some.inj HX5.out).symm, L6, Lib.hid ⟨Nat.le_refl _, rfl⟩⟩
   | false =>
    go_wp2_with fail
    refine nd_go L6.out (HT.out s4 _ L6.out.fm.st (by have := HI5.out; omega) r5 HX5.out) (fun k x w' e hf => ⟨rfl, by rw [bad_eq HR.out e]; exact ⟨rfl, hf⟩⟩) fun n s5 C k w6 e L hc hk hi1 ho1 => ?_
    have h1 := (L.nd (w1.heap.size + 1, noN, none, 0) (by simp)).2.1
    obtain ⟨⟨y0, y1, y2, y3, y4, y5⟩, x0, x1, x2, x3, x4, x5⟩ := six_all h1
    have L7 := Lib.hid (L.put [_] hc hk)
    have HI7 : Hid (s4.i ≤ s5.i ∧ s5.o = s4.o) := Lib.hid ⟨by omega, ho1⟩
    clear L hc hk hi1 ho1 h1
    go_wp2_with fail
    go_meet
    exact ⟨n, C, k, s5, e, L7, HI7⟩
  case rest =>
   obtain ⟨n, C, k, s5, e, L7, HI7⟩ := hcut
   obtain ⟨r6, hx6, hr⟩ := bind_pf (ok_eq HR.out e)
   have HR := Lib.hid hr
   have HX6 := Lib.hid hx6
   clear hr hx6 e
   go_wp2_with fail
   refine nd_go L7.out (HB.out s5 _ L7.out.fm.st (by have := HI5.out; have := HI7.out; omega) r6 HX6.out) (fun k x w' e hf => ⟨rfl, by rw [bad_eq HR.out e]; exact ⟨rfl, hf⟩⟩) fun m s6 D e6 w6 e L hc hk hi1 ho1 => ?_
   have HR := Lib.hid (ok_eq HR.out e)
   have L8 := Lib.hid (L.tree hc hk)
   have HI8 : Hid (s.i < s6.i ∧ s6.o = s.o ∧ 1 ≤ s6.i) := Lib.hid (by have := HI1.out; have := HI5.out; have := HI7.out; omega)
   obtain ⟨qt0, qt1, qt2, qt3⟩ := tk4 (L8.out.tok _ (List.mem_cons_self ..)).2
   have qtl := L8.out.lt w3.heap.size (List.mem_cons_self ..)
   obtain ⟨a0, a1, a2, a3, a4, a5⟩ := six_cells (L8.out.nd (w4.heap.size, q, B, d) (by simp)).2.1
   obtain ⟨y0, y1, y2, y3, y4, y5⟩ := six_cells (L8.out.nd (w1.heap.size + 1, n, C, k) (by simp)).2.1
   obtain ⟨v0, v1, v2, v3, v4, v5⟩ := six_cells (L8.out.nd (w1.heap.size, y, A, c) (by simp)).2.1
   clear e L hc hk hi1 ho1
   go_wp2_with fail
   clear qt0 qt1 qt2 qt3 qtl y0 y1 y2 y3 y4 y5 v0 v1 v2 v3 v4 v5 a0 a1 a2 a3 a4 a5
   refine md_go L8.out HI8.out.2.2 [(w1.heap.size, y, A, c), (w4.heap.size, q, B, d), (w1.heap.size + 1, n, C, k), (w6.heap.size, m, D, e6)] (by simp) rfl (by simp only [World.size_alloc]) fun w7 L hk2 => ?_
   have L9 := Lib.hid L
   have HK := Lib.hid hk2
   obtain ⟨z0, z1, z2, z3, z4, z5, hres⟩ := L.fm.res
   obtain ⟨⟨y0, y1, y2, y3, y4, y5⟩, x0, x1, x2, x3, x4, x5⟩ := six_all hres
   have HRES := Lib.hid hres
   obtain rfl := (Option.some.inj HR.out).symm
   clear L hk2 hres
   go_wp2_with fail
   exact ret_cell1A (p := 2) rfl _ rfl _ (load_nd (six_heap HRES.out)) (L9.out.fm.done HK.out (Nat.le_refl _) HI8.out.1 HI8.out.2.1 _ _ _ _ _ _ rfl)
end Go.Proofs.YtmlclgkhnekmnaaGreatDoor
