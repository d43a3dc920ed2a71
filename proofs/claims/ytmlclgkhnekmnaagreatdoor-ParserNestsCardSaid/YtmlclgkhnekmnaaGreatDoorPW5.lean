/- The parser's variable. (Written by a program.) The parser's condition. (Written by a program.) -/
import Derived.Test.YtmlclgkhnekmnaaGreatDoorPW1
namespace Go.Proofs.YtmlclgkhnekmnaaGreatDoor
open Go.RowKit
set_option maxRecDepth 100000 in
set_option maxHeartbeats 4000000 in
theorem pvariable_any (p : PC) (ex : Rd) (hE : RdC p 186 #[.pointer (some ⟨p.R, 0, none⟩)] ex) (hT : RdC p 118 #[.pointer (some ⟨p.R, 0, none⟩)] (typP p.ts)) : RdC p 164 #[.pointer (some ⟨p.R, 0, none⟩)] (variableP p.ts ex) := by
 intro s w hs hi r hr
 obtain ⟨r1, hx1, hr⟩ := bind_pf hr
 have HR := Lib.hid hr
 have HX1 := Lib.hid hx1
 have L0 := Lib.hid (Lx.start hs)
 have HE := Lib.hid hE
 have HT := Lib.hid hT
 have HI := Lib.hid hi
 have tf0 := tk_f0
 have tf1 := tk_f1
 have tf2 := tk_f2
 clear hs hi hr hx1 hE hT
 go_enter Tryz.func164, Tryz.ntmps164
 go_wp2_with fail
 refine tk_go L0.out (ptake_any p wVar (by decide) s _ L0.out.fm.st r1 HX1.out) (fun k x w' e hf => ⟨rfl, by rw [bad_eq HR.out e]; exact ⟨rfl, hf⟩⟩) fun v s1 w1 e L hi1 ho1 => ?_
 obtain ⟨r2, hx2, hr⟩ := bind_pf (ok_eq HR.out e)
 have HR := Lib.hid hr
 have HX2 := Lib.hid hx2
 have L1 := Lib.hid L
 have HI1 := Lib.hid (And.intro hi1 ho1)
 clear hr hx2 L e hi1 ho1
 go_wp2_with fail
 refine tk_go L1.out (ptakeK_any p 1 (by decide) s1 _ L1.out.fm.st r2 HX2.out) (fun k x w' e hf => ⟨rfl, by rw [bad_eq HR.out e]; exact ⟨rfl, hf⟩⟩) fun t s2 w2 e L hi1 ho1 => ?_
 obtain ⟨r3, hx3, hr⟩ := bind_pf (ok_eq HR.out e)
 have HR := Lib.hid hr
 have HX3 := Lib.hid hx3
 have L2 : Hid (Lx p w _ s2 [(w2.heap.size, t)] [(w2.heap.size + 1 + 1, noN, none, 0), (w2.heap.size + 1, noN, none, 0)]) := Lib.hid (by have h := (L.tk t).zero.zero; simp only [World.size_alloc] at h; exact h)
 have HI2 := Lib.hid (And.intro hi1 ho1)
 clear hr hx3 L e hi1 ho1
 go_wp2_with fail
 refine st_go L2.out fun w3 L => ?_
 have L3 := Lib.hid L
 have hx : optP (!atB p.ts s2 [61]) (typP p.ts) s2 = some r3 := HX3.out
 generalize atB p.ts s2 [61] = b at *
 have HX3 := Lib.hid hx
 clear L hx
 go_upto_if 14 with fail
 go_cut [] (fun wx => ∃ (y : Nd) (A : Option Addr) (c : Nat) (s' : Ps), r3 = .ok y s' ∧ Hid (Lx p w wx s' [(w2.heap.size, t)] [(w2.heap.size + 1 + 1, noN, none, 0), (w2.heap.size + 1, y, A, c)]) ∧ Hid (s2.i ≤ s'.i ∧ s'.o = s2.o))
 case first =>
  cases b with
  | true =>
   go_wp2_with fail
   go_meet
   exact ⟨noN, none, 0, s2, (Option.some.inj HX3.out).symm, L3, Lib.hid ⟨Nat.le_refl _, rfl⟩⟩
  | false =>
   go_wp2_with fail
   refine nd_go L3.out (HT.out s2 _ L3.out.fm.st (by have := HI2.out; omega) r3 HX3.out) (fun k x w' e hf => ⟨rfl, by rw [bad_eq HR.out e]; exact ⟨rfl, hf⟩⟩) fun n s3 A c w4 e L hc hk hi1 ho1 => ?_
   have h1 := (L.nd (w2.heap.size + 1, noN, none, 0) (by simp)).2.1
   obtain ⟨⟨y0, y1, y2, y3, y4, y5⟩, x0, x1, x2, x3, x4, x5⟩ := six_all h1
   have L4 := Lib.hid (L.put [_] hc hk)
   have HI4 : Hid (s2.i ≤ s3.i ∧ s3.o = s2.o) := Lib.hid ⟨by omega, ho1⟩
   clear L hc hk hi1 ho1 h1
   go_wp2_with fail
   go_meet
   exact ⟨n, A, c, s3, e, L4, HI4⟩
 case rest =>
  obtain ⟨y, A, c, s3, e3, L4, HI4⟩ := hcut
  obtain ⟨r4, hx4, hr⟩ := bind_pf (ok_eq HR.out e3)
  have HR := Lib.hid hr
  have HX4 := Lib.hid hx4
  clear hr hx4 e3
  go_wp2_with fail
  refine ps_go (m := mEq) L4.out (by decide) fun w4 L => ?_
  have L5 := Lib.hid L
  have HB : Hid (∀ b, b = atB p.ts s3 mEq → psd p.ts s3 mEq = if b then adv s3 else s3) := Lib.hid (by rintro b rfl; rfl)
  clear L
  generalize hb : atB p.ts s3 mEq = b at *
  have HB2 := Lib.hid hb
  clear hb
  go_upto_if 18 with fail
  go_cut [] (fun wx => ∃ (n : Nd) (B : Option Addr) (d : Nat) (s' : Ps), r4 = .ok n s' ∧ Hid (Lx p w wx s' [(w2.heap.size, t)] [(w2.heap.size + 1 + 1, n, B, d), (w2.heap.size + 1, y, A, c)]) ∧ Hid (s2.i ≤ s'.i ∧ s'.o = s2.o))
  case first =>
   cases b with
   | false =>
    go_wp2_with fail
    go_meet
    exact ⟨noN, none, 0, s3, (Option.some.inj HX4.out).symm, by have h := HB.out false rfl; rw [if_neg (by decide)] at h; rw [← h]; exact L5, HI4⟩
   | true =>
    have L5 : Hid (Lx p w w4 (adv s3) _ _) := Lib.hid (by have h := HB.out true rfl; rw [if_pos rfl] at h; rw [← h]; exact L5.out)
    go_wp2_with fail
    refine nd_go L5.out (HE.out (adv s3) _ L5.out.fm.st (by have := HI2.out; have := HI4.out; simp only [adv]; omega) r4 HX4.out) (fun k x w' e hf => ⟨rfl, by rw [bad_eq HR.out e]; exact ⟨rfl, hf⟩⟩) fun n s4 B d w5 e L hc hk hi1 ho1 => ?_
    have h1 := (L.nd (w2.heap.size + 1 + 1, noN, none, 0) (by simp)).2.1
    obtain ⟨⟨y0, y1, y2, y3, y4, y5⟩, x0, x1, x2, x3, x4, x5⟩ := six_all h1
    have L6 := Lib.hid (L.put [] hc hk)
    have HI6 : Hid (s2.i ≤ s4.i ∧ s4.o = s2.o) := Lib.hid (by have := HI4.out; simp only [adv] at hi1 ho1; omega)
    clear L hc hk hi1 ho1 h1
    go_wp2_with fail
    go_meet
    exact ⟨n, B, d, s4, e, L6, HI6⟩
  case rest =>
   obtain ⟨n, B, d, s4, e4, L6, HI6⟩ := hcut
   have HR := Lib.hid (ok_eq HR.out e4)
   have HI7 : Hid (s.i < s4.i ∧ s4.o = s.o ∧ 1 ≤ s4.i) := Lib.hid (by have := HI1.out; have := HI2.out; have := HI6.out; omega)
   obtain ⟨qt0, qt1, qt2, qt3⟩ := tk4 (L6.out.tok _ (List.mem_cons_self ..)).2
   have qtl := L6.out.lt w2.heap.size (List.mem_cons_self ..)
   obtain ⟨y0, y1, y2, y3, y4, y5⟩ := six_cells (L6.out.nd (w2.heap.size + 1, y, A, c) (by simp)).2.1
   obtain ⟨v0, v1, v2, v3, v4, v5⟩ := six_cells (L6.out.nd (w2.heap.size + 1 + 1, n, B, d) (by simp)).2.1
   clear e4
   go_wp2_with fail
   clear qt0 qt1 qt2 qt3 qtl y0 y1 y2 y3 y4 y5 v0 v1 v2 v3 v4 v5
   refine md_go L6.out HI7.out.2.2 [(w2.heap.size + 1, y, A, c), (w2.heap.size + 1 + 1, n, B, d)] (by simp) rfl rfl fun w5 L hk2 => ?_
   have L7 := Lib.hid L
   have HK := Lib.hid hk2
   obtain ⟨z0, z1, z2, z3, z4, z5, hres⟩ := L.fm.res
   obtain ⟨⟨y0, y1, y2, y3, y4, y5⟩, x0, x1, x2, x3, x4, x5⟩ := six_all hres
   have HRES := Lib.hid hres
   obtain rfl := (Option.some.inj HR.out).symm
   clear L hk2 hres
   go_wp2_with fail
   exact ret_cell1A (p := 2) rfl _ rfl _ (load_nd (six_heap HRES.out)) (L7.out.fm.done HK.out (Nat.le_refl _) HI7.out.1 HI7.out.2.1 _ _ _ _ _ _ rfl)
end Go.Proofs.YtmlclgkhnekmnaaGreatDoor
namespace Go.Proofs.YtmlclgkhnekmnaaGreatDoor
open Go.RowKit
set_option maxRecDepth 100000 in
set_option maxHeartbeats 4000000 in
theorem pcondition_any (p : PC) (ex st co : Rd) (f : Nat) (hE : RdC p 186 #[.pointer (some ⟨p.R, 0, none⟩)] ex) (hB : RdC p 119 #[.pointer (some ⟨p.R, 0, none⟩)] (blockP p.ts st f)) (hO : RdC p 187 #[.pointer (some ⟨p.R, 0, none⟩)] (otherP p.ts st co f)) : RdC p 162 #[.pointer (some ⟨p.R, 0, none⟩)] (condP p.ts ex st co f) := by
 intro s w hs hi r hr
 obtain ⟨r1, hx1, hr⟩ := bind_pf hr
 have HR := Lib.hid hr
 have HX1 := Lib.hid hx1
 have L0 := Lib.hid (Lx.start hs)
 have HE := Lib.hid hE
 have HB := Lib.hid hB
 have HO := Lib.hid hO
 have HI := Lib.hid hi
 have tf0 := tk_f0
 have tf1 := tk_f1
 have tf2 := tk_f2
 clear hs hi hr hx1 hE hB hO
 go_enter Tryz.func162, Tryz.ntmps162
 go_wp2_with fail
 refine tk_go L0.out (ptake_any p wIf (by decide) s _ L0.out.fm.st r1 HX1.out) (fun k x w' e hf => ⟨rfl, by rw [bad_eq HR.out e]; exact ⟨rfl, hf⟩⟩) fun v s1 w1 e L hi1 ho1 => ?_
 obtain ⟨r2, hx2, hr⟩ := bind_pf (ok_eq HR.out e)
 have HR := Lib.hid hr
 have HX2 := Lib.hid hx2
 have L1 : Hid (Lx p w _ (headP s1) [] []) := Lib.hid (L.hd s1.o L.fm.st.op)
 have HI1 : Hid (s.i < (headP s1).i ∧ (headP s1).o = s.o) := Lib.hid (by simp only [headP]; omega)
 have qp2 := L.fm.st.cells.2.2.1
 have qp3 := L.fm.st.cells.2.2.2
 have fp3 := L.fm.st.unf 3
 have qpl := L.fm.st.rlt
 clear hr hx2 L e hi1 ho1
 go_wp2_with fail
 clear qp2 qp3 fp3 qpl
 refine nd_go L1.out (HE.out (headP s1) _ L1.out.fm.st (by have := HI1.out; omega) r2 HX2.out) (fun k x w' e hf => ⟨rfl, by rw [bad_eq HR.out e]; exact ⟨rfl, hf⟩⟩) fun y s2 A c w2 e L hc hk hi1 ho1 => ?_
 obtain ⟨r3, hx3, hr⟩ := bind_pf (ok_eq HR.out e)
 have HR := Lib.hid hr
 have HX3 := Lib.hid hx3
 have L2 : Hid (Lx p w _ (bodyP s2) [] [(w2.heap.size, y, A, c)]) := Lib.hid (by have h := (L.hd 0 (Nat.zero_le _)).tree hc (L.hdS hk _); rw [World.size_setCell] at h; exact h)
 have HI2 : Hid (s.i < (bodyP s2).i ∧ (bodyP s2).o = s.o) := Lib.hid (by have := HI1.out; simp only [bodyP]; omega)
 have qp3 := L.fm.st.cells.2.2.2
 have fp3 := L.fm.st.unf 3
 have qpl := L.fm.st.rlt
 clear hr hx3 L e hi1 ho1 hc hk
 go_wp2_with fail
 clear qp3 fp3 qpl
 refine nd_go L2.out (HB.out (bodyP s2) _ L2.out.fm.st (by have := HI2.out; omega) r3 HX3.out) (fun k x w' e hf => ⟨rfl, by rw [bad_eq HR.out e]; exact ⟨rfl, hf⟩⟩) fun n s3 B d w3 e L hc hk hi1 ho1 => ?_
 obtain ⟨r4, hx4, hr⟩ := bind_pf (ok_eq HR.out e)
 have HR := Lib.hid hr
 have HX4 := Lib.hid hx4
 have L3 : Hid (Lx p w _ s3 [] [(w3.heap.size + 1, noN, none, 0), (w3.heap.size, n, B, d), (w2.heap.size, y, A, c)]) := Lib.hid (by have h := (L.tree hc hk).zero; simp only [World.size_alloc] at h; exact h)
 have HI3 : Hid (s.i < s3.i ∧ s3.o = s.o) := Lib.hid (by have := HI2.out; omega)
 clear hr hx4 L e hi1 ho1 hc hk
 go_wp2_with fail
 refine ps_go (m := wElse) L3.out (by decide) fun w4 L => ?_
 have L4 := Lib.hid L
 have HP : Hid (∀ b, b = atB p.ts s3 wElse → psd p.ts s3 wElse = if b then adv s3 else s3) := Lib.hid (by rintro b rfl; rfl)
 clear L
 generalize hb : atB p.ts s3 wElse = b at *
 clear hb
 go_upto_if 25 with fail
 go_cut [] (fun wx => ∃ (o : Nd) (C : Option Addr) (k : Nat) (s' : Ps), r4 = .ok o s' ∧ Hid (Lx p w wx s' [] [(w3.heap.size + 1, o, C, k), (w3.heap.size, n, B, d), (w2.heap.size, y, A, c)]) ∧ Hid (s3.i ≤ s'.i ∧ s'.o = s3.o))
 case first =>
  cases b with
  | false =>
   go_wp2_with fail
   go_meet
   exact ⟨noN, none, 0, s3, (Option.some.inj HX4.out).symm, by have h := HP.out false rfl; rw [if_neg (by decide)] at h; rw [← h]; exact L4, Lib.hid ⟨Nat.le_refl _, rfl⟩⟩
  | true =>
   have L4 : Hid (Lx p w w4 (adv s3) _ _) := Lib.hid (by have h := HP.out true rfl; rw [if_pos rfl] at h; rw [← h]; exact L4.out)
   go_wp2_with fail
   refine nd_go L4.out (HO.out (adv s3) _ L4.out.fm.st (by have := HI3.out; simp only [adv]; omega) r4 HX4.out) (fun k x w' e hf => ⟨rfl, by rw [bad_eq HR.out e]; exact ⟨rfl, hf⟩⟩) fun o s4 C k w5 e L hc hk hi1 ho1 => ?_
   have h1 := (L.nd (w3.heap.size + 1, noN, none, 0) (by simp)).2.1
   obtain ⟨⟨y0, y1, y2, y3, y4, y5⟩, x0, x1, x2, x3, x4, x5⟩ := six_all h1
   have L6 := Lib.hid (L.put [] hc hk)
   have HI6 : Hid (s3.i ≤ s4.i ∧ s4.o = s3.o) := Lib.hid (by simp only [adv] at hi1 ho1; omega)
   clear L hc hk hi1 ho1 h1
   go_wp2_with fail
   go_meet
   exact ⟨o, C, k, s4, e, L6, HI6⟩
 case rest =>
  obtain ⟨o, C, k, s4, e4, L6, HI6⟩ := hcut
  have HR := Lib.hid (ok_eq HR.out e4)
  have HI7 : Hid (s.i < s4.i ∧ s4.o = s.o ∧ 1 ≤ s4.i) := Lib.hid (by have := HI3.out; have := HI6.out; omega)
  obtain ⟨a0, a1, a2, a3, a4, a5⟩ := six_cells (L6.out.nd (w2.heap.size, y, A, c) (by simp)).2.1
  obtain ⟨y0, y1, y2, y3, y4, y5⟩ := six_cells (L6.out.nd (w3.heap.size, n, B, d) (by simp)).2.1
  obtain ⟨v0, v1, v2, v3, v4, v5⟩ := six_cells (L6.out.nd (w3.heap.size + 1, o, C, k) (by simp)).2.1
  clear e4
  go_wp2_with fail
  clear a0 a1 a2 a3 a4 a5 y0 y1 y2 y3 y4 y5 v0 v1 v2 v3 v4 v5
  refine md_go L6.out HI7.out.2.2 [(w2.heap.size, y, A, c), (w3.heap.size, n, B, d), (w3.heap.size + 1, o, C, k)] (by simp) rfl rfl fun w5 L hk2 => ?_
  have L7 := Lib.hid L
  have HK := Lib.hid hk2
  obtain ⟨z0, z1, z2, z3, z4, z5, hres⟩ := L.fm.res
  obtain ⟨⟨y0, y1, y2, y3, y4, y5⟩, x0, x1, x2, x3, x4, x5⟩ := six_all hres
  have HRES := Lib.hid hres
  obtain rfl := (Option.some.inj HR.out).symm
  clear L hk2 hres
  go_wp2_with fail
  exact ret_cell1A (p := 2) rfl _ rfl _ (load_nd (six_heap HRES.out)) (L7.out.fm.done HK.out (Nat.le_refl _) HI7.out.1 HI7.out.2.1 _ _ _ _ _ _ rfl)
end Go.Proofs.YtmlclgkhnekmnaaGreatDoor
