/- The parser's literal. (Written by a program.) -/
import Derived.Test.YtmlclgkhnekmnaaGreatDoorPFl
import Derived.Test.YtmlclgkhnekmnaaGreatDoorPW1
import Derived.Test.YtmlclgkhnekmnaaGreatDoorPKids
namespace Go.Proofs.YtmlclgkhnekmnaaGreatDoor
open Go.RowKit
set_option maxRecDepth 100000 in
set_option maxHeartbeats 4000000 in
theorem pliteral_8 (p : PC) (ex : Rd) (f : Nat) (hL : RsC p 144 #[.pointer (some ⟨p.R, 0, none⟩), .string (txt mLBrace), .string (txt mRBrace), .func (.func 207) #[.pointer (some ⟨p.R, 0, none⟩)] #[]] (rowP p.ts mLBrace mRBrace (keyedP p.ts ex) f)) (Q : Nat → Prop) (n : Nd) (A : Option Addr) (c : Nat) (s : Ps) (w : World) (hs : PSt p w s) (hi : 1 ≤ s.i) (hc : n.kids.length ≤ c) (hk : SIn w Q n.kids A) (hQ : ∀ b, w.heap.size ≤ b → Q b) (hQR : ¬ Q p.R) (r : Pz Nd) (hr : literalP p.ts ex f n s = some r) (hq : (n.kind == 25) = true) :
 Calls Tryz.prog 195 #[.pointer (some ⟨p.R, 0, none⟩), .agg #[.int .i64 n.kind, .int .i64 n.fro, .int .i64 n.till, .int .i64 n.at', .string n.name, .slice A n.kids.length c]] w (NdQ p Q w s r) := by
 unfold literalP kN at hr
 simp only [hq, if_true] at hr
 have HR := Lib.hid hr
 have HQ := Lib.hid hQ
 have HI0 : Hid (1 ≤ s.i ∧ s.i ≤ s.i ∧ s.o = s.o) := Lib.hid ⟨hi, Nat.le_refl _, rfl⟩
 have tf0 := tk_f0
 have tf1 := tk_f1
 have tf2 := tk_f2
 have HRL := Lib.hid (And.intro hs.rlt hs.glt)
 have HNB : Hid (¬ (QB Q w p.R)) := Lib.hid (by have := hs.rlt; rintro (h | h); exact hQR h.1; omega)
 obtain ⟨w0, hw0⟩ : ∃ W, W = (w.alloc (.cells (#[.int .i64 8, .int .i64 n.fro, .int .i64 n.till, .int .i64 n.at', .string n.name, .slice A n.kids.length c]) 24)).alloc (.cells #[.int .i64 0, .int .i64 0, .int .i64 0, .int .i64 0, .string ⟨#[]⟩, .slice none 0 0] 24) := ⟨_, rfl⟩
 have F0 : Hid (Fb p w w0 s) := Lib.hid (by rw [hw0]; exact Fb.start hs _ _ _ _ _ _ _)
 have T_t : Hid (w0.heap[w.heap.size]? = some (.cells (#[.int .i64 8, .int .i64 n.fro, .int .i64 n.till, .int .i64 n.at', .string n.name, .slice A n.kids.length c]) 24 (0, 0))) := Lib.hid (by rw [hw0]; exact blk_alloc (alloc_top w _ _))
 have hl_t : Hid (w.heap.size ≤ w.heap.size ∧ w.heap.size ≠ w.heap.size + 1) := Lib.hid (by omega)
 have K_t : Hid (n.kids.length ≤ c ∧ SIn w0 (fun b => QB Q w b) n.kids A) := Lib.hid (by rw [hw0]; exact ⟨hc, SIn.below (SIn.below (hk.wide (fun k hl h1 => Or.inl ⟨h1, hl⟩)) (alloc_below _ _)) (alloc_below _ _)⟩)
 have HW0 := Lib.hid hw0
 have HL := Lib.hid hL
 clear hs hi hr hw0 hc hk hQ hQR hL
 go_enter Tryz.func195, Tryz.ntmps195
 go_wp2_with fail
 rw [← HW0.out]
 refine (ptoken_any p s _ (F0.out).st).mono ?_
 rintro ee w1 ⟨rfl, hb⟩
 have F1 := Lib.hid ((F0.out).below hb)
 have HI1 := HI0
 have hr0 := HRL.out
 have hl0t := hl_t.out
 have hl0 := F0.out.lt
 have hs0t := (Array.getElem?_eq_some_iff.1 T_t.out).1
 have K_t : Hid (n.kids.length ≤ c ∧ SIn w1 (fun b => QB Q w b) n.kids A) := Lib.hid (And.intro K_t.out.1 (SIn.fr K_t.out.2 (PFr.of_below (R := p.R) hb) (fun hh => HNB.out hh)))
 have T_t := Lib.hid ((PFr.of_below (R := p.R) hb).kept (N := w.heap.size) (by omega) T_t.out)
 clear hr0 hl0 hs0t hl0t
 clear hb
 clear hq
 go_wp2_with fail
 obtain ⟨r1, hx, hr⟩ := bind_pf HR.out
 have HR := Lib.hid hr
 clear hr
 refine (HL.out s _ (F1.out).st (by have h1 := HI1.out; omega) r1 hx).mono ?_
 clear hx
 intro ee w2 he
 cases r1 with
 | bad kk xx =>
  obtain ⟨rfl, hf⟩ := he
  have hrr : r = .bad kk xx := HR.out
  subst hrr
  have HE := Lib.hid ((F1.out).fr.trans hf)
  clear hf
  go_wp2_with fail
  exact ⟨rfl, rfl, HE.out⟩
 | ok n_l s2 =>
  obtain ⟨⟨A_l, c_l, rfl, hc, hk, hle, hno⟩, hs, hf, hi, ho⟩ := he
  have F2 := Lib.hid ((F1.out).step hf hs)
  have HI2 : Hid (1 ≤ s2.i ∧ s.i < s2.i ∧ s2.o = s.o + 0) := Lib.hid (by have h1 := HI1.out; omega)
  have K_l : Hid (n_l.length ≤ c_l ∧ SIn w2 (fun b => QB Q w b) n_l A_l) := Lib.hid ⟨hc, hk.wide (fun k _ h1 => Or.inr (Nat.lt_of_lt_of_le (F1.out).lt h1))⟩
  have hr0 := HRL.out
  have hl0t := hl_t.out
  have hl0 := F1.out.lt
  have hs0t := (Array.getElem?_eq_some_iff.1 T_t.out).1
  have K_t : Hid (n.kids.length ≤ c ∧ SIn w2 (fun b => QB Q w b) n.kids A) := Lib.hid (And.intro K_t.out.1 (SIn.fr K_t.out.2 hf (fun hh => HNB.out hh)))
  have T_t := Lib.hid (hf.kept (N := w.heap.size) (by omega) T_t.out)
  clear hr0 hl0 hs0t hl0t
  have L_l := Lib.hid hle
  have HNO_l := Lib.hid hno
  clear hc hk hle hno hs hf hi ho
  have HLN : Hid (n_l.length ≤ 1000000) := Lib.hid (by have h1 := L_l.out; have h2 := F2.out.st.lt; have h3 := F2.out.st.ok.len; omega)
  have HPB : Hid (∀ b, w2.heap.size ≤ b → (fun b => QB Q w b) b) := Lib.hid (fun b hb => Or.inr (Nat.lt_of_lt_of_le (F2.out).lt hb))
  obtain ⟨qt0, qt1, qt2, qt3, qt4, qt5⟩ := six_cells T_t.out
  have qtl := (Array.getElem?_eq_some_iff.1 T_t.out).1
  go_wp2_with (at_builtin; refine wpList_kids (P := (fun b => QB Q w b)) (n := ofKind 8 n) F2.out.st K_t.out.1 K_t.out.2 K_l.out.1 K_l.out.2 HNO_l.out HLN.out HPB.out rfl _ _ rfl rfl rfl ?_)
  intro A_kk c_kk w3 hke
  clear qt0 qt1 qt2 qt3 qt4 qt5 qtl
  have F3 := Lib.hid (F2.out.step hke.2.2.1 hke.2.2.2)
  have HI3 := HI2
  have hr0 := HRL.out
  have hl0t := hl_t.out
  have hl0 := F2.out.lt
  have hs0t := (Array.getElem?_eq_some_iff.1 T_t.out).1
  have K_t : Hid (n.kids.length ≤ c ∧ SIn w3 (fun b => QB Q w b) n.kids A) := Lib.hid (And.intro K_t.out.1 (SIn.fr K_t.out.2 hke.2.2.1 (fun hh => HNB.out hh)))
  have T_t := Lib.hid (hke.2.2.1.kept (N := w.heap.size) (by omega) T_t.out)
  have K_l : Hid (n_l.length ≤ c_l ∧ SIn w3 (fun b => QB Q w b) n_l A_l) := Lib.hid (And.intro K_l.out.1 (SIn.fr K_l.out.2 hke.2.2.1 (fun hh => HNB.out hh)))
  clear hr0 hl0 hs0t hl0t
  obtain ⟨n_kk, hnk⟩ : ∃ L, L = (ofKind 8 n) :: n_l := ⟨_, rfl⟩
  have K_kk : Hid (n_kk.length ≤ c_kk ∧ SIn w3 (fun b => QB Q w b) n_kk A_kk) := Lib.hid (by rw [hnk]; exact ⟨hke.2.1, hke.1⟩)
  rw [show n_l.length + 1 = n_kk.length by rw [hnk]; rfl]
  have HNK_kk := Lib.hid hnk
  clear hke hnk
  have h1 := HR.out
  rw [← HNK_kk.out] at h1
  have HR := Lib.hid h1
  clear h1
  obtain ⟨qt0, qt1, qt2, qt3, qt4, qt5⟩ := six_cells T_t.out
  have qtl := (Array.getElem?_eq_some_iff.1 T_t.out).1
  go_wp2_with fail
  clear qt0 qt1 qt2 qt3 qt4 qt5 qtl
  refine (pmade_any p s2 _ (F3.out).st (by have h1 := HI3.out; omega) _ _ _ _ _ _ _).mono ?_
  rintro ee w4 ⟨rfl, hb⟩
  have F4 := Lib.hid ((F3.out).below hb)
  have HI4 := HI3
  have hr0 := HRL.out
  have hl0t := hl_t.out
  have hl0 := F3.out.lt
  have hs0t := (Array.getElem?_eq_some_iff.1 T_t.out).1
  have K_t : Hid (n.kids.length ≤ c ∧ SIn w4 (fun b => QB Q w b) n.kids A) := Lib.hid (And.intro K_t.out.1 (SIn.fr K_t.out.2 (PFr.of_below (R := p.R) hb) (fun hh => HNB.out hh)))
  have T_t := Lib.hid ((PFr.of_below (R := p.R) hb).kept (N := w.heap.size) (by omega) T_t.out)
  have K_l : Hid (n_l.length ≤ c_l ∧ SIn w4 (fun b => QB Q w b) n_l A_l) := Lib.hid (And.intro K_l.out.1 (SIn.fr K_l.out.2 (PFr.of_below (R := p.R) hb) (fun hh => HNB.out hh)))
  have K_kk : Hid (n_kk.length ≤ c_kk ∧ SIn w4 (fun b => QB Q w b) n_kk A_kk) := Lib.hid (And.intro K_kk.out.1 (SIn.fr K_kk.out.2 (PFr.of_below (R := p.R) hb) (fun hh => HNB.out hh)))
  clear hr0 hl0 hs0t hl0t
  clear hb
  have hz := F4.out.lt
  have hzp := F3.out.lt
  have h1 := HI4.out
  have HSS := Lib.hid (K_kk.out.2)
  clear hz hzp h1
  have hrr := (Option.some.inj HR.out).symm
  subst hrr
  obtain ⟨z0, z1, z2, z3, z4, z5, hres⟩ := F4.out.res
  obtain ⟨y0, y1, y2, y3, y4, y5⟩ := six_cells hres
  have yl := (Array.getElem?_eq_some_iff.1 hres).1
  have x0 := frozen_of_row _ (w.heap.size + 1) 0 _ _ hres
  have x1 := frozen_of_row _ (w.heap.size + 1) 1 _ _ hres
  have x2 := frozen_of_row _ (w.heap.size + 1) 2 _ _ hres
  have x3 := frozen_of_row _ (w.heap.size + 1) 3 _ _ hres
  have x4 := frozen_of_row _ (w.heap.size + 1) 4 _ _ hres
  have x5 := frozen_of_row _ (w.heap.size + 1) 5 _ _ hres
  have HRES := Lib.hid hres
  clear hres
  go_wp2_with fail
  have h1 := HI4.out
  exact ret_cell1A (p := 4) rfl _ rfl _ (load_nd (six_heap HRES.out)) (F4.out.done HQ.out (HSS.out.wide (fun _ _ hk => hk)) K_kk.out.1 (by omega) (by omega) _ _ _ _ _ _ rfl)
set_option maxRecDepth 100000 in
set_option maxHeartbeats 4000000 in
theorem pliteral_9 (p : PC) (ex : Rd) (f : Nat) (hL : RsC p 144 #[.pointer (some ⟨p.R, 0, none⟩), .string (txt mLBrace), .string (txt mRBrace), .func (.func 207) #[.pointer (some ⟨p.R, 0, none⟩)] #[]] (rowP p.ts mLBrace mRBrace (keyedP p.ts ex) f)) (Q : Nat → Prop) (n : Nd) (A : Option Addr) (c : Nat) (s : Ps) (w : World) (hs : PSt p w s) (hi : 1 ≤ s.i) (hc : n.kids.length ≤ c) (hk : SIn w Q n.kids A) (hQ : ∀ b, w.heap.size ≤ b → Q b) (hQR : ¬ Q p.R) (r : Pz Nd) (hr : literalP p.ts ex f n s = some r) (hq : (n.kind == 25) = false) :
 Calls Tryz.prog 195 #[.pointer (some ⟨p.R, 0, none⟩), .agg #[.int .i64 n.kind, .int .i64 n.fro, .int .i64 n.till, .int .i64 n.at', .string n.name, .slice A n.kids.length c]] w (NdQ p Q w s r) := by
 unfold literalP kN at hr
 simp only [hq, Bool.false_eq_true, if_false] at hr
 have HR := Lib.hid hr
 have HQ := Lib.hid hQ
 have HI0 : Hid (1 ≤ s.i ∧ s.i ≤ s.i ∧ s.o = s.o) := Lib.hid ⟨hi, Nat.le_refl _, rfl⟩
 have tf0 := tk_f0
 have tf1 := tk_f1
 have tf2 := tk_f2
 have HRL := Lib.hid (And.intro hs.rlt hs.glt)
 have HNB : Hid (¬ (QB Q w p.R)) := Lib.hid (by have := hs.rlt; rintro (h | h); exact hQR h.1; omega)
 obtain ⟨w0, hw0⟩ : ∃ W, W = (w.alloc (.cells (#[.int .i64 9, .int .i64 n.fro, .int .i64 n.till, .int .i64 n.at', .string n.name, .slice A n.kids.length c]) 24)).alloc (.cells #[.int .i64 0, .int .i64 0, .int .i64 0, .int .i64 0, .string ⟨#[]⟩, .slice none 0 0] 24) := ⟨_, rfl⟩
 have F0 : Hid (Fb p w w0 s) := Lib.hid (by rw [hw0]; exact Fb.start hs _ _ _ _ _ _ _)
 have T_t : Hid (w0.heap[w.heap.size]? = some (.cells (#[.int .i64 9, .int .i64 n.fro, .int .i64 n.till, .int .i64 n.at', .string n.name, .slice A n.kids.length c]) 24 (0, 0))) := Lib.hid (by rw [hw0]; exact blk_alloc (alloc_top w _ _))
 have hl_t : Hid (w.heap.size ≤ w.heap.size ∧ w.heap.size ≠ w.heap.size + 1) := Lib.hid (by omega)
 have K_t : Hid (n.kids.length ≤ c ∧ SIn w0 (fun b => QB Q w b) n.kids A) := Lib.hid (by rw [hw0]; exact ⟨hc, SIn.below (SIn.below (hk.wide (fun k hl h1 => Or.inl ⟨h1, hl⟩)) (alloc_below _ _)) (alloc_below _ _)⟩)
 have HW0 := Lib.hid hw0
 have HL := Lib.hid hL
 clear hs hi hr hw0 hc hk hQ hQR hL
 go_enter Tryz.func195, Tryz.ntmps195
 go_wp2_with fail
 rw [← HW0.out]
 refine (ptoken_any p s _ (F0.out).st).mono ?_
 rintro ee w1 ⟨rfl, hb⟩
 have F1 := Lib.hid ((F0.out).below hb)
 have HI1 := HI0
 have hr0 := HRL.out
 have hl0t := hl_t.out
 have hl0 := F0.out.lt
 have hs0t := (Array.getElem?_eq_some_iff.1 T_t.out).1
 have K_t : Hid (n.kids.length ≤ c ∧ SIn w1 (fun b => QB Q w b) n.kids A) := Lib.hid (And.intro K_t.out.1 (SIn.fr K_t.out.2 (PFr.of_below (R := p.R) hb) (fun hh => HNB.out hh)))
 have T_t := Lib.hid ((PFr.of_below (R := p.R) hb).kept (N := w.heap.size) (by omega) T_t.out)
 clear hr0 hl0 hs0t hl0t
 clear hb
 clear hq
 go_wp2_with fail
 obtain ⟨r1, hx, hr⟩ := bind_pf HR.out
 have HR := Lib.hid hr
 clear hr
 refine (HL.out s _ (F1.out).st (by have h1 := HI1.out; omega) r1 hx).mono ?_
 clear hx
 intro ee w2 he
 cases r1 with
 | bad kk xx =>
  obtain ⟨rfl, hf⟩ := he
  have hrr : r = .bad kk xx := HR.out
  subst hrr
  have HE := Lib.hid ((F1.out).fr.trans hf)
  clear hf
  go_wp2_with fail
  exact ⟨rfl, rfl, HE.out⟩
 | ok n_l s2 =>
  obtain ⟨⟨A_l, c_l, rfl, hc, hk, hle, hno⟩, hs, hf, hi, ho⟩ := he
  have F2 := Lib.hid ((F1.out).step hf hs)
  have HI2 : Hid (1 ≤ s2.i ∧ s.i < s2.i ∧ s2.o = s.o + 0) := Lib.hid (by have h1 := HI1.out; omega)
  have K_l : Hid (n_l.length ≤ c_l ∧ SIn w2 (fun b => QB Q w b) n_l A_l) := Lib.hid ⟨hc, hk.wide (fun k _ h1 => Or.inr (Nat.lt_of_lt_of_le (F1.out).lt h1))⟩
  have hr0 := HRL.out
  have hl0t := hl_t.out
  have hl0 := F1.out.lt
  have hs0t := (Array.getElem?_eq_some_iff.1 T_t.out).1
  have K_t : Hid (n.kids.length ≤ c ∧ SIn w2 (fun b => QB Q w b) n.kids A) := Lib.hid (And.intro K_t.out.1 (SIn.fr K_t.out.2 hf (fun hh => HNB.out hh)))
  have T_t := Lib.hid (hf.kept (N := w.heap.size) (by omega) T_t.out)
  clear hr0 hl0 hs0t hl0t
  have L_l := Lib.hid hle
  have HNO_l := Lib.hid hno
  clear hc hk hle hno hs hf hi ho
  have HLN : Hid (n_l.length ≤ 1000000) := Lib.hid (by have h1 := L_l.out; have h2 := F2.out.st.lt; have h3 := F2.out.st.ok.len; omega)
  have HPB : Hid (∀ b, w2.heap.size ≤ b → (fun b => QB Q w b) b) := Lib.hid (fun b hb => Or.inr (Nat.lt_of_lt_of_le (F2.out).lt hb))
  obtain ⟨qt0, qt1, qt2, qt3, qt4, qt5⟩ := six_cells T_t.out
  have qtl := (Array.getElem?_eq_some_iff.1 T_t.out).1
  go_wp2_with (at_builtin; refine wpList_kids (P := (fun b => QB Q w b)) (n := ofKind 9 n) F2.out.st K_t.out.1 K_t.out.2 K_l.out.1 K_l.out.2 HNO_l.out HLN.out HPB.out rfl _ _ rfl rfl rfl ?_)
  intro A_kk c_kk w3 hke
  clear qt0 qt1 qt2 qt3 qt4 qt5 qtl
  have F3 := Lib.hid (F2.out.step hke.2.2.1 hke.2.2.2)
  have HI3 := HI2
  have hr0 := HRL.out
  have hl0t := hl_t.out
  have hl0 := F2.out.lt
  have hs0t := (Array.getElem?_eq_some_iff.1 T_t.out).1
  have K_t : Hid (n.kids.length ≤ c ∧ SIn w3 (fun b => QB Q w b) n.kids A) := Lib.hid (And.intro K_t.out.1 (SIn.fr K_t.out.2 hke.2.2.1 (fun hh => HNB.out hh)))
  have T_t := Lib.hid (hke.2.2.1.kept (N := w.heap.size) (by omega) T_t.out)
  have K_l : Hid (n_l.length ≤ c_l ∧ SIn w3 (fun b => QB Q w b) n_l A_l) := Lib.hid (And.intro K_l.out.1 (SIn.fr K_l.out.2 hke.2.2.1 (fun hh => HNB.out hh)))
  clear hr0 hl0 hs0t hl0t
  obtain ⟨n_kk, hnk⟩ : ∃ L, L = (ofKind 9 n) :: n_l := ⟨_, rfl⟩
  have K_kk : Hid (n_kk.length ≤ c_kk ∧ SIn w3 (fun b => QB Q w b) n_kk A_kk) := Lib.hid (by rw [hnk]; exact ⟨hke.2.1, hke.1⟩)
  rw [show n_l.length + 1 = n_kk.length by rw [hnk]; rfl]
  have HNK_kk := Lib.hid hnk
  clear hke hnk
  have h1 := HR.out
  rw [← HNK_kk.out] at h1
  have HR := Lib.hid h1
  clear h1
  obtain ⟨qt0, qt1, qt2, qt3, qt4, qt5⟩ := six_cells T_t.out
  have qtl := (Array.getElem?_eq_some_iff.1 T_t.out).1
  go_wp2_with fail
  clear qt0 qt1 qt2 qt3 qt4 qt5 qtl
  refine (pmade_any p s2 _ (F3.out).st (by have h1 := HI3.out; omega) _ _ _ _ _ _ _).mono ?_
  rintro ee w4 ⟨rfl, hb⟩
  have F4 := Lib.hid ((F3.out).below hb)
  have HI4 := HI3
  have hr0 := HRL.out
  have hl0t := hl_t.out
  have hl0 := F3.out.lt
  have hs0t := (Array.getElem?_eq_some_iff.1 T_t.out).1
  have K_t : Hid (n.kids.length ≤ c ∧ SIn w4 (fun b => QB Q w b) n.kids A) := Lib.hid (And.intro K_t.out.1 (SIn.fr K_t.out.2 (PFr.of_below (R := p.R) hb) (fun hh => HNB.out hh)))
  have T_t := Lib.hid ((PFr.of_below (R := p.R) hb).kept (N := w.heap.size) (by omega) T_t.out)
  have K_l : Hid (n_l.length ≤ c_l ∧ SIn w4 (fun b => QB Q w b) n_l A_l) := Lib.hid (And.intro K_l.out.1 (SIn.fr K_l.out.2 (PFr.of_below (R := p.R) hb) (fun hh => HNB.out hh)))
  have K_kk : Hid (n_kk.length ≤ c_kk ∧ SIn w4 (fun b => QB Q w b) n_kk A_kk) := Lib.hid (And.intro K_kk.out.1 (SIn.fr K_kk.out.2 (PFr.of_below (R := p.R) hb) (fun hh => HNB.out hh)))
  clear hr0 hl0 hs0t hl0t
  clear hb
  have hz := F4.out.lt
  have hzp := F3.out.lt
  have h1 := HI4.out
  have HSS := Lib.hid (K_kk.out.2)
  clear hz hzp h1
  have hrr := (Option.some.inj HR.out).symm
  subst hrr
  obtain ⟨z0, z1, z2, z3, z4, z5, hres⟩ := F4.out.res
  obtain ⟨y0, y1, y2, y3, y4, y5⟩ := six_cells hres
  have yl := (Array.getElem?_eq_some_iff.1 hres).1
  have x0 := frozen_of_row _ (w.heap.size + 1) 0 _ _ hres
  have x1 := frozen_of_row _ (w.heap.size + 1) 1 _ _ hres
  have x2 := frozen_of_row _ (w.heap.size + 1) 2 _ _ hres
  have x3 := frozen_of_row _ (w.heap.size + 1) 3 _ _ hres
  have x4 := frozen_of_row _ (w.heap.size + 1) 4 _ _ hres
  have x5 := frozen_of_row _ (w.heap.size + 1) 5 _ _ hres
  have HRES := Lib.hid hres
  clear hres
  go_wp2_with fail
  have h1 := HI4.out
  exact ret_cell1A (p := 4) rfl _ rfl _ (load_nd (six_heap HRES.out)) (F4.out.done HQ.out (HSS.out.wide (fun _ _ hk => hk)) K_kk.out.1 (by omega) (by omega) _ _ _ _ _ _ rfl)
theorem pliteral_any (p : PC) (ex : Rd) (f : Nat) (hL : RsC p 144 #[.pointer (some ⟨p.R, 0, none⟩), .string (txt mLBrace), .string (txt mRBrace), .func (.func 207) #[.pointer (some ⟨p.R, 0, none⟩)] #[]] (rowP p.ts mLBrace mRBrace (keyedP p.ts ex) f)) : LitC p ex f := by
 intro Q n A c s w hs hi hc hk hQ hQR r hr
 cases hq : (n.kind == 25) with
 | true => exact pliteral_8 p ex f hL Q n A c s w hs hi hc hk hQ hQR r hr hq
 | false => exact pliteral_9 p ex f hL Q n A c s w hs hi hc hk hQ hQR r hr hq
end Go.Proofs.YtmlclgkhnekmnaaGreatDoor
