/- The parser's chain. (Written by a program.) -/
import Derived.Test.YtmlclgkhnekmnaaGreatDoorPW1
import Derived.Test.YtmlclgkhnekmnaaGreatDoorPFl
import Derived.Test.YtmlclgkhnekmnaaGreatDoorPKids
import Derived.Test.YtmlclgkhnekmnaaGreatDoorPNames
namespace Go.Proofs.YtmlclgkhnekmnaaGreatDoor
open Go.RowKit
set_option maxRecDepth 100000 in
set_option maxHeartbeats 4000000 in
theorem pchain_any (p : PC) (ex : Rd) (f : Nat) (hO : RdC p 191 #[.pointer (some ⟨p.R, 0, none⟩)] (operandP p.ts ex f)) (hA : RsC p 193 #[.pointer (some ⟨p.R, 0, none⟩)] (argsP p.ts ex f)) (hLi : LitC p ex f) (hG : ∀ s n s2, operandP p.ts ex f s = some (.ok n s2) → SelG n) : RdC p 171 #[.pointer (some ⟨p.R, 0, none⟩)] (chainP p.ts ex f) := by
 intro s w hs hi r hr
 unfold chainP at hr
 have HR := Lib.hid hr
 have HI0 : Hid (1 ≤ s.i ∧ s.i ≤ s.i ∧ s.o = s.o) := Lib.hid ⟨hi, Nat.le_refl _, rfl⟩
 have HO := Lib.hid hO
 have HA := Lib.hid hA
 have HLI := Lib.hid hLi
 have HG := Lib.hid hG
 have tf0 := tk_f0
 have tf1 := tk_f1
 have tf2 := tk_f2
 have HRL := Lib.hid (And.intro hs.rlt hs.glt)
 have HNB : Hid (¬ (w.heap.size < p.R)) := Lib.hid (by have := hs.rlt; omega)
 have FS := Lib.hid (Fm.start hs (.int .i64 0) (.int .i64 0) (.int .i64 0) (.int .i64 0) (.string ⟨#[]⟩) (.slice none 0 0))
 obtain ⟨w0, hw0⟩ : ∃ W, W = w.alloc (.cells #[.int .i64 0, .int .i64 0, .int .i64 0, .int .i64 0, .string ⟨#[]⟩, .slice none 0 0] 24) := ⟨_, rfl⟩
 have F0 : Hid (Fm p w w0 s) := Lib.hid (by rw [hw0]; exact FS.out)
 have HW0 := Lib.hid hw0
 clear hs hi hr hw0 FS hO hA hLi hG
 go_enter Tryz.func171, Tryz.ntmps171
 go_wp2_with fail
 rw [← HW0.out]
 obtain ⟨r1, hx, hr⟩ := bind_pf HR.out
 have HR := Lib.hid hr
 clear hr
 refine (HO.out s _ (F0.out).st (by have h1 := HI0.out; omega) r1 hx).mono ?_
 have HX_e := Lib.hid hx
 clear hx
 intro ee w1 he
 cases r1 with
 | bad kk xx =>
  obtain ⟨rfl, hf⟩ := he
  have hrr : r = .bad kk xx := HR.out
  subst hrr
  have HE := Lib.hid ((F0.out).fr.trans hf)
  clear hf
  go_wp2_with fail
  exact ⟨rfl, rfl, HE.out⟩
 | ok n_e s1 =>
  obtain ⟨⟨v, rfl, hn⟩, hs, hf, hi, ho⟩ := he
  obtain ⟨A_e, c_e, rfl, hc, hk⟩ := hn.open
  have F1 := Lib.hid ((F0.out).step hf hs)
  have HI1 : Hid (1 ≤ s1.i ∧ s.i < s1.i ∧ s1.o = s.o + 0) := Lib.hid (by have h1 := HI0.out; omega)
  have K_e : Hid (n_e.kids.length ≤ c_e ∧ SIn w1 (fun b => w.heap.size < b) n_e.kids A_e) := Lib.hid ⟨hc, hk.wide (fun k _ h1 => (Nat.lt_of_lt_of_le (F0.out).lt h1))⟩
  have hr0 := HRL.out
  have hl0 := F0.out.lt
  clear hr0 hl0
  clear hn hc hk hs hf hi ho
  have HSG := Lib.hid (HG.out _ _ _ HX_e.out)
  go_wp2_with fail
  have hl_e : Hid (w.heap.size < w1.heap.size) := Lib.hid F1.out.lt
  go_loopg [] f (fun gf wr => ∃ (n : Nd) (A : Option Addr) (c : Nat) (st : Ps), Hid (chainL p.ts ex f gf n st = some r) ∧ Hid (Fm p w wr st) ∧ Hid (wr.heap[w1.heap.size]? = some (.cells (cNd n A c) 24 (0, 0))) ∧ Hid (n.kids.length ≤ c ∧ SIn wr (fun b => (w.heap.size < b) ∧ b ≠ w1.heap.size) n.kids A) ∧ Hid (1 ≤ st.i ∧ s.i < st.i ∧ st.o = s.o + 0) ∧ Hid (SelG n))
  case atStart => exact ⟨n_e, A_e, c_e, s1, HR, Lib.hid (F1.out.alloc _), Lib.hid (alloc_top w1 _ _), Lib.hid ⟨K_e.out.1, (SIn.below (SIn.wide (Q := (fun b => (w.heap.size < b) ∧ b ≠ w1.heap.size)) K_e.out.2 (fun k hk h1 => And.intro h1 (by have hk2 := hk; first | omega | (simp only [World.size_alloc] at hk2; omega)))) (alloc_below _ _))⟩, HI1, HSG⟩
  case round =>
   clear HSG HX_e
   obtain ⟨n_e, A_e, c_e, st, HL, F2, T_e, K_e, HI2, HSG⟩ := hrel
   obtain ⟨w2, hw2⟩ : ∃ W, W = wr := ⟨_, rfl⟩
   subst hw2
   obtain ⟨gf, rfl⟩ : ∃ n, gk = n + 1 := by
    cases gk with
    | zero => have h1 := HL.out; cases h1
    | succ n => exact ⟨n, rfl⟩
   have hr := HL.out
   unfold chainL at hr
   have HR := Lib.hid hr
   clear hr HL
   go_wp2_with fail
   refine (ppassed_any p mDot (by decide) st _ (F2.out).st).mono ?_
   rintro ee w3 ⟨rfl, hs, hf⟩
   have F3 := Lib.hid ((F2.out).step hf hs)
   have hr0 := HRL.out
   have hl0e := hl_e.out
   have hl0 := F2.out.lt
   have hs0e := (Array.getElem?_eq_some_iff.1 T_e.out).1
   have K_e : Hid (n_e.kids.length ≤ c_e ∧ SIn w3 (fun b => (w.heap.size < b) ∧ b ≠ w1.heap.size) n_e.kids A_e) := Lib.hid (And.intro K_e.out.1 (SIn.fr K_e.out.2 hf (fun hh => HNB.out hh.1)))
   have T_e := Lib.hid (hf.kept (N := w1.heap.size) (by omega) T_e.out)
   clear hr0 hl0 hs0e hl0e
   clear hs hf
   obtain ⟨b, hc⟩ : ∃ b, atB p.ts st mDot = b := ⟨_, rfl⟩
   have hr := HR.out
   try rw [hc]
   cases b with
   | true =>
    have F3 : Hid (Fm p w w3 (adv st)) := Lib.hid (by have h3 := F3.out; unfold psd at h3; rw [if_pos hc] at h3; exact h3)
    have HI3 : Hid (1 ≤ (adv st).i ∧ s.i < (adv st).i ∧ (adv st).o = s.o + 0) := Lib.hid (by have h1 := HI2.out; unfold adv; simp only; omega)
    simp only [hc, if_true] at hr
    have HR := Lib.hid hr
    clear hr hc
    go_wp2_with fail
    obtain ⟨r2, hx, hr⟩ := bind_pf HR.out
    have HR := Lib.hid hr
    clear hr
    refine (ptakeK_any p 1 (by decide) (adv st) _ (F3.out).st r2 hx).mono ?_
    clear hx
    intro ee w4 he
    cases r2 with
    | bad kk xx =>
     obtain ⟨rfl, hf⟩ := he
     have hrr : r = .bad kk xx := HR.out
     subst hrr
     have HE := Lib.hid ((F3.out).fr.trans hf)
     clear hf
     go_wp2_with fail
     exact ⟨rfl, rfl, HE.out⟩
    | ok nm s4 =>
     obtain ⟨rfl, hs, hf, hi, ho⟩ := he
     have F4 := Lib.hid ((F3.out).step hf hs)
     have HI4 : Hid (1 ≤ s4.i ∧ s.i < s4.i ∧ s4.o = s.o + 0) := Lib.hid (by have h1 := HI3.out; omega)
     have hr0 := HRL.out
     have hl0e := hl_e.out
     have hl0 := F3.out.lt
     have hs0e := (Array.getElem?_eq_some_iff.1 T_e.out).1
     have K_e : Hid (n_e.kids.length ≤ c_e ∧ SIn w4 (fun b => (w.heap.size < b) ∧ b ≠ w1.heap.size) n_e.kids A_e) := Lib.hid (And.intro K_e.out.1 (SIn.fr K_e.out.2 hf (fun hh => HNB.out hh.1)))
     have T_e := Lib.hid (hf.kept (N := w1.heap.size) (by omega) T_e.out)
     clear hr0 hl0 hs0e hl0e
     clear hs hf hi ho
     obtain ⟨qe0, qe1, qe2, qe3, qe4, qe5⟩ := six_cells T_e.out
     have qel := (Array.getElem?_eq_some_iff.1 T_e.out).1
     go_wp2_with fail
     clear qe0 qe1 qe2 qe3 qe4 qe5 qel
     refine (pmade_any p s4 _ (((F4.out.alloc _).alloc _)).st (by have h1 := HI4.out; omega) _ _ _ _ _ _ _).mono ?_
     rintro ee w5 ⟨rfl, hb⟩
     have F5 := Lib.hid ((((F4.out.alloc _).alloc _)).below hb)
     have HI5 := HI4
     have hrow := blk_below (alloc_top (World.alloc w4 _) _ _) hb
     simp only [World.size_alloc] at hrow
     have HROW := Lib.hid hrow
     clear hrow
     have hm_e := (Array.getElem?_eq_some_iff.1 T_e.out).1
     have hr0 := HRL.out
     have hl0e := hl_e.out
     have hl0 := F4.out.lt
     have hs0e := (Array.getElem?_eq_some_iff.1 T_e.out).1
     have K_e : Hid (n_e.kids.length ≤ c_e ∧ SIn w5 (fun b => (w.heap.size < b) ∧ b ≠ w1.heap.size) n_e.kids A_e) := Lib.hid (And.intro K_e.out.1 (SIn.fr (SIn.below (SIn.below K_e.out.2 (alloc_below _ _)) (alloc_below _ _)) (PFr.of_below (R := p.R) hb) (fun hh => HNB.out hh.1)))
     have T_e := Lib.hid ((PFr.of_below (R := p.R) hb).kept (N := w1.heap.size) (by omega) (blk_alloc (blk_alloc T_e.out)))
     have T_nm := Lib.hid ((PFr.of_below (R := p.R) hb).kept (N := w4.heap.size) (by omega) (blk_alloc (alloc_top w4 _ _)))
     have hl_nm : Hid (w.heap.size < w4.heap.size) := Lib.hid (by omega)
     have hd_nm : Hid (w1.heap.size < w4.heap.size) := Lib.hid (by omega)
     clear hr0 hl0 hs0e hl0e
     clear hb
     have hz := F5.out.lt
     have hzp := F4.out.lt
     have h1 := HI5.out
     have HSS := Lib.hid (sin1 (P := (fun b => (w.heap.size < b) ∧ b ≠ w1.heap.size)) HROW.out (⟨by omega, by omega⟩) K_e.out.1 K_e.out.2)
     clear hz hzp h1 hm_e
     have K_e : Hid ([n_e].length ≤ 1 ∧ SIn w5 (fun b => (w.heap.size < b) ∧ b ≠ w1.heap.size) [n_e] (some ⟨w4.heap.size + 1, 0, none⟩)) := Lib.hid ⟨(Nat.le_refl _), HSS.out⟩
     have HSEL : Hid (SelG (mkE p.ts 26 n_e nm.2.2.1 nm.2.1 [n_e] s4)) := Lib.hid (.sel _ n_e [] rfl HSG.out)
     obtain ⟨qe0, qe1, qe2, qe3, qe4, qe5⟩ := six_cells T_e.out
     have qel := (Array.getElem?_eq_some_iff.1 T_e.out).1
     have fe0 := frozen_of_row _ (w1.heap.size) 0 _ _ T_e.out
     have fe1 := frozen_of_row _ (w1.heap.size) 1 _ _ T_e.out
     have fe2 := frozen_of_row _ (w1.heap.size) 2 _ _ T_e.out
     have fe3 := frozen_of_row _ (w1.heap.size) 3 _ _ T_e.out
     have fe4 := frozen_of_row _ (w1.heap.size) 4 _ _ T_e.out
     have fe5 := frozen_of_row _ (w1.heap.size) 5 _ _ T_e.out
     go_wp2_with fail
     clear qe0 qe1 qe2 qe3 qe4 qe5 qel fe0 fe1 fe2 fe3 fe4 fe5
     go_roundg gf
     case measure => omega
     case rel => exact ⟨mkE p.ts 26 n_e nm.2.2.1 nm.2.1 [n_e] s4, (some ⟨w4.heap.size + 1, 0, none⟩), 1, s4, HR, Lib.hid (F5.out.set6 (N := w1.heap.size) hl_e.out _ _ _ _ _ _), Lib.hid (six_heap T_e.out), Lib.hid ⟨K_e.out.1, (SIn.keep (Q := (fun b => (w.heap.size < b) ∧ b ≠ w1.heap.size)) (fun k hk _ => six_otherP (R := w1.heap.size) hk.2 ..) (fun _ hk _ => hk) K_e.out.2)⟩, HI5, HSEL⟩
   | false =>
    have F3 : Hid (Fm p w w3 st) := Lib.hid (by have h3 := F3.out; unfold psd at h3; rw [if_neg (by rw [hc]; decide)] at h3; exact h3)
    have HI3 := HI2
    simp only [hc, if_false, Bool.false_eq_true] at hr
    have HR := Lib.hid hr
    clear hr hc
    go_wp2_with fail
    refine (pstands_any p mOpen st _ (F3.out).st).mono ?_
    rintro ee w4 ⟨rfl, hb⟩
    have F4 := Lib.hid ((F3.out).below hb)
    have HI4 := HI3
    have hr0 := HRL.out
    have hl0e := hl_e.out
    have hl0 := F3.out.lt
    have hs0e := (Array.getElem?_eq_some_iff.1 T_e.out).1
    have K_e : Hid (n_e.kids.length ≤ c_e ∧ SIn w4 (fun b => (w.heap.size < b) ∧ b ≠ w1.heap.size) n_e.kids A_e) := Lib.hid (And.intro K_e.out.1 (SIn.fr K_e.out.2 (PFr.of_below (R := p.R) hb) (fun hh => HNB.out hh.1)))
    have T_e := Lib.hid ((PFr.of_below (R := p.R) hb).kept (N := w1.heap.size) (by omega) T_e.out)
    clear hr0 hl0 hs0e hl0e
    clear hb
    obtain ⟨b, hc⟩ : ∃ b, atB p.ts st mOpen = b := ⟨_, rfl⟩
    have hr := HR.out
    try rw [hc]
    cases b with
    | true =>
     simp only [hc, Bool.true_and] at hr
     have HR := Lib.hid hr
     have HC4 := Lib.hid hc
     clear hr hc
     have HCO := HC4
     obtain ⟨qe0, qe1, qe2, qe3, qe4, qe5⟩ := six_cells T_e.out
     have qel := (Array.getElem?_eq_some_iff.1 T_e.out).1
     go_wp2_with fail
     clear qe0 qe1 qe2 qe3 qe4 qe5 qel
     refine (pisNamed_any n_e A_e c_e _).mono ?_
     rintro ee w5 ⟨rfl, hb⟩
     have F5 := Lib.hid ((F4.out).below hb)
     have HI5 := HI4
     have hr0 := HRL.out
     have hl0e := hl_e.out
     have hl0 := F4.out.lt
     have hs0e := (Array.getElem?_eq_some_iff.1 T_e.out).1
     have K_e : Hid (n_e.kids.length ≤ c_e ∧ SIn w5 (fun b => (w.heap.size < b) ∧ b ≠ w1.heap.size) n_e.kids A_e) := Lib.hid (And.intro K_e.out.1 (SIn.fr K_e.out.2 (PFr.of_below (R := p.R) hb) (fun hh => HNB.out hh.1)))
     have T_e := Lib.hid ((PFr.of_below (R := p.R) hb).kept (N := w1.heap.size) (by omega) T_e.out)
     clear hr0 hl0 hs0e hl0e
     clear hb
     obtain ⟨b, hc⟩ : ∃ b, namedN n_e = b := ⟨_, rfl⟩
     have hr := HR.out
     try rw [hc]
     cases b with
     | true =>
      simp only [hc, if_true] at hr
      have HR := Lib.hid hr
      have HC5 := Lib.hid hc
      clear hr hc
      go_wp2_with fail
      refine (ptoken_any p st _ (F5.out).st).mono ?_
      rintro ee w6 ⟨rfl, hb⟩
      have F6 := Lib.hid ((F5.out).below hb)
      have HI6 := HI5
      have hr0 := HRL.out
      have hl0e := hl_e.out
      have hl0 := F5.out.lt
      have hs0e := (Array.getElem?_eq_some_iff.1 T_e.out).1
      have K_e : Hid (n_e.kids.length ≤ c_e ∧ SIn w6 (fun b => (w.heap.size < b) ∧ b ≠ w1.heap.size) n_e.kids A_e) := Lib.hid (And.intro K_e.out.1 (SIn.fr K_e.out.2 (PFr.of_below (R := p.R) hb) (fun hh => HNB.out hh.1)))
      have T_e := Lib.hid ((PFr.of_below (R := p.R) hb).kept (N := w1.heap.size) (by omega) T_e.out)
      clear hr0 hl0 hs0e hl0e
      clear hb
      obtain ⟨rz5, hx5, hr5⟩ := bind_pf HR.out
      have HX5 := Lib.hid hx5
      have HR5 := Lib.hid hr5
      clear hx5 hr5
      have HKS : Hid (∀ W, PFr p.R w6 W → (fun w' => w'.cell? ⟨w1.heap.size, 0, none⟩ = some (.int .i64 n_e.kind) ∧ w'.cell? ⟨w1.heap.size, 1, none⟩ = some (.int .i64 n_e.fro) ∧ w'.cell? ⟨w1.heap.size, 2, none⟩ = some (.int .i64 n_e.till) ∧ w'.cell? ⟨w1.heap.size, 3, none⟩ = some (.int .i64 n_e.at') ∧ w'.cell? ⟨w1.heap.size, 4, none⟩ = some (.string n_e.name) ∧ w'.cell? ⟨w1.heap.size, 5, none⟩ = some (.slice A_e n_e.kids.length c_e)) W) := Lib.hid (fun W hf => by
       obtain ⟨qe0, qe1, qe2, qe3, qe4, qe5⟩ := six_cells (hf.kept (N := w1.heap.size) (by have h1 := hl_e.out; have h2 := HRL.out; omega) T_e.out)
       exact ⟨qe0, qe1, qe2, qe3, qe4, qe5⟩)
      have HS0 := Lib.hid (HKS.out w6 (PFr.refl _ _))
      have HPB : Hid (∀ b, w6.heap.size ≤ b → (fun b => (w.heap.size < b) ∧ b ≠ w1.heap.size) b) := Lib.hid (fun b hb => ⟨(Nat.lt_of_lt_of_le (F6.out).lt hb), Nat.ne_of_gt (Nat.lt_of_lt_of_le (Array.getElem?_eq_some_iff.1 T_e.out).1 hb)⟩)
      have HLW : Hid (w.heap.size < w6.heap.size ∧ p.R < w.heap.size ∧ p.G < w.heap.size) := Lib.hid ⟨F6.out.lt, HRL.out⟩
      go_wp2_with fail
      refine wp_region_held (S := (fun w' => w'.cell? ⟨w1.heap.size, 0, none⟩ = some (.int .i64 n_e.kind) ∧ w'.cell? ⟨w1.heap.size, 1, none⟩ = some (.int .i64 n_e.fro) ∧ w'.cell? ⟨w1.heap.size, 2, none⟩ = some (.int .i64 n_e.till) ∧ w'.cell? ⟨w1.heap.size, 3, none⟩ = some (.int .i64 n_e.at') ∧ w'.cell? ⟨w1.heap.size, 4, none⟩ = some (.string n_e.name) ∧ w'.cell? ⟨w1.heap.size, 5, none⟩ = some (.slice A_e n_e.kids.length c_e))) (by kernel_rfl) ?_
      refine wpAnyH_take (i := 0) (oi := ⟨some 35, _, _, _, _, _⟩) (v := ?_) rfl (by kernel_rfl) (by kernel_rfl) (by kernel_rfl) (fun _ _ _ h => h) (Or.inl ⟨by rfl, ?_⟩) HS0.out ?_
      rotate_left
      · (intro W hSW; (try dsimp only at hSW); go_simp; first | done | with_reducible rfl)
      try simp only [Act.put, List.setIfInBounds_toArray, List.set_cons_zero, List.set_cons_succ]
      refine wpAnyH_take (i := 2) (oi := ⟨some 37, _, _, _, _, _⟩) (v := ?_) rfl (by kernel_rfl) (by kernel_rfl) (by kernel_rfl) (fun _ _ _ h => h) (Or.inl ⟨by rfl, ?_⟩) HS0.out ?_
      rotate_left
      · (intro W hSW; (try dsimp only at hSW); go_simp; first | done | with_reducible rfl)
      try simp only [Act.put, List.setIfInBounds_toArray, List.set_cons_zero, List.set_cons_succ]
      refine wpAnyH_all (rs := [1, 3]) (by kernel_rfl) (by simp) (fun i hi => ?_)
      have hi2 : i = 1 ∨ i = 3 := by simpa using hi
      clear hi
      rcases hi2 with rfl | rfl
      · skip
        refine wpOp_wp rfl rfl (wp_val (w' := (World.alloc (World.drew w6) (.cells #[.int .i64 n_e.kind, .int .i64 n_e.fro, .int .i64 n_e.till, .int .i64 n_e.at', .string n_e.name, .slice A_e n_e.kids.length c_e] 24))) (v := .slice (some ⟨w6.heap.size, 0, none⟩) 1 1) (by go_simp; try rfl) ?_)
        have hbA : PFr p.R w6 (World.alloc (World.drew w6) (.cells #[.int .i64 n_e.kind, .int .i64 n_e.fro, .int .i64 n_e.till, .int .i64 n_e.at', .string n_e.name, .slice A_e n_e.kids.length c_e] 24)) := ((PFr.refl _ _).drew).alloc _
        have htA : (World.alloc (World.drew w6) (.cells #[.int .i64 n_e.kind, .int .i64 n_e.fro, .int .i64 n_e.till, .int .i64 n_e.at', .string n_e.name, .slice A_e n_e.kids.length c_e] 24)).heap[w6.heap.size]? = some (.cells #[.int .i64 n_e.kind, .int .i64 n_e.fro, .int .i64 n_e.till, .int .i64 n_e.at', .string n_e.name, .slice A_e n_e.kids.length c_e] 24 (0, 0)) := alloc_top (World.drew w6) _ _
        have hszA : (World.alloc (World.drew w6) (.cells #[.int .i64 n_e.kind, .int .i64 n_e.fro, .int .i64 n_e.till, .int .i64 n_e.at', .string n_e.name, .slice A_e n_e.kids.length c_e] 24)).heap.size = w6.heap.size + 1 := World.size_alloc (World.drew w6) _
        have hsA : PSt p (World.alloc (World.drew w6) (.cells #[.int .i64 n_e.kind, .int .i64 n_e.fro, .int .i64 n_e.till, .int .i64 n_e.at', .string n_e.name, .slice A_e n_e.kids.length c_e] 24)) st := (F6.out.st.drew).alloc _
        generalize (World.alloc (World.drew w6) (.cells #[.int .i64 n_e.kind, .int .i64 n_e.fro, .int .i64 n_e.till, .int .i64 n_e.at', .string n_e.name, .slice A_e n_e.kids.length c_e] 24)) = WA at *
        have HA5 := Lib.hid (And.intro hbA (And.intro htA (And.intro hszA hsA)))
        clear hbA htA hszA hsA
        refine ⟨HKS.out _ HA5.out.1, ?_⟩
        try simp only [Act.put, List.setIfInBounds_toArray]
        refine wpAnyH_all (rs := [3]) (by kernel_rfl) (by simp) (fun i hi => ?_)
        obtain rfl : i = 3 := by simpa using hi
        refine wpOp_wp rfl rfl (wp_enter (f := 193) (args := #[.pointer (some ⟨p.R, 0, none⟩)]) (by go_simp; try rfl) (HA.out st _ HA5.out.2.2.2 (by have h1 := HI6.out; omega) rz5 HX5.out) ?_)
        intro ee wzc he
        cases rz5 with
        | bad kk xx =>
         obtain ⟨rfl, hf⟩ := he
         have hrr : r = .bad kk xx := HR5.out
         subst hrr
         have HE := Lib.hid (F6.out.fr.trans (HA5.out.1.trans hf))
         clear hf
         exact ⟨rfl, rfl, HE.out⟩
        | ok n_l sz5 =>
         obtain ⟨⟨A_l, c_l, rfl, hc, hk, hle, hno⟩, hs, hf, hi5, ho5⟩ := he
         have HI5 := Lib.hid (And.intro hi5 ho5)
         have hf5 := HA5.out.1.trans hf
         have h9 := HLW.out
         have hzA := HA5.out.2.2.1
         refine ⟨HKS.out _ hf5, ?_⟩
         try simp only [Act.put]
         refine wpAnyH_all (rs := [4]) (by kernel_rfl) (by simp) (fun i hi => ?_)
         obtain rfl : i = 4 := by simpa using hi
         refine wpOp_wp rfl rfl (wp_kidsG (P := (fun b => (w.heap.size < b) ∧ b ≠ w1.heap.size)) (g0 := w6.heap.size) (n := n_e) hs (by omega) (by omega) (hf.kept (by omega) HA5.out.2.1) K_e.out.1 (SIn.fr (K_e.out.2.wide (Q := fun b => (fun b => (w.heap.size < b) ∧ b ≠ w1.heap.size) b ∧ b ≠ w6.heap.size) (fun k h1 h2 => ⟨h2, Nat.ne_of_lt h1⟩)) hf5 (fun hh => HNB.out hh.1.1)) hc (hk.wide (fun k _ h1 => ⟨HPB.out k (by omega), by omega⟩)) hno (by have h2 := hs.lt; have h3 := hs.ok.len; omega) HPB.out (.tmp 36) (.tmp 38) rfl rfl rfl ?_)
         intro A6 c6 wzf hke
         have hf6 : PFr p.R w6 wzf := ⟨hke.2.2.2.1.trans hf5.os, hke.2.2.2.2.1.trans hf5.tape, hke.2.2.2.2.2.1.trans hf5.output, Nat.le_trans hf5.size hke.2.2.2.2.2.2.1, fun k hk2 hx => (hke.2.2.2.2.2.2.2 k (Nat.lt_of_lt_of_le hk2 hf5.size) (by omega)).trans (hf5.block k hk2 hx)⟩
         refine ⟨HKS.out _ hf6, ?_⟩
         try simp only [Act.put]
         refine wpAnyH_take (i := 5) (oi := ⟨some 6, _, _, _, _, _⟩) (v := ?_) rfl (by kernel_rfl) (by kernel_rfl) (by kernel_rfl) (fun _ _ _ h => h) (Or.inl ⟨by rfl, ?_⟩) (HKS.out _ hf6) ?_
         rotate_left
         · (intro W hSW; (try dsimp only at hSW); go_simp; first | done | with_reducible rfl)
         try simp only [Act.put]
         refine wpAnyH_done (by kernel_rfl) ?_ _
         obtain ⟨w7, hwn⟩ : ∃ W, W = wzf := ⟨_, rfl⟩
         subst hwn
         have F7 := Lib.hid (F6.out.step hf6 hke.2.2.1)
         have HI7 : Hid (1 ≤ sz5.i ∧ s.i < sz5.i ∧ sz5.o = s.o + 0) := Lib.hid (by have h1 := HI6.out; have h2 := HI5.out; omega)
         have hr0 := HRL.out
         have hl0e := hl_e.out
         have hl0 := F6.out.lt
         have hs0e := (Array.getElem?_eq_some_iff.1 T_e.out).1
         have K_e : Hid (n_e.kids.length ≤ c_e ∧ SIn w7 (fun b => (w.heap.size < b) ∧ b ≠ w1.heap.size) n_e.kids A_e) := Lib.hid (And.intro K_e.out.1 (SIn.fr K_e.out.2 hf6 (fun hh => HNB.out hh.1)))
         have T_e := Lib.hid (hf6.kept (N := w1.heap.size) (by omega) T_e.out)
         clear hr0 hl0 hs0e hl0e
         obtain ⟨n_kk, hnk⟩ : ∃ L, L = n_e :: n_l := ⟨_, rfl⟩
         obtain ⟨A_kk, hak⟩ : ∃ L, L = A6 := ⟨_, rfl⟩
         obtain ⟨c_kk, hck⟩ : ∃ L, L = c6 := ⟨_, rfl⟩
         have K_kk : Hid (n_kk.length ≤ c_kk ∧ SIn w7 (fun b => (w.heap.size < b) ∧ b ≠ w1.heap.size) n_kk A_kk) := Lib.hid (by rw [hnk, hak, hck]; exact ⟨hke.2.1, hke.1⟩)
         rw [show n_l.length + 1 = n_kk.length by rw [hnk]; rfl, ← hak, ← hck]
         have HNK_kk := Lib.hid hnk
         clear hke hnk hak hck hf6
         have h1 : chainL p.ts ex f gf (mkE p.ts 27 n_e (tk p.ts st).2.2.1 [] (n_e :: n_l) sz5) sz5 = some r := HR5.out
         rw [← HNK_kk.out] at h1
         have HR := Lib.hid h1
         clear h1
         obtain ⟨qe0, qe1, qe2, qe3, qe4, qe5⟩ := six_cells T_e.out
         have qel := (Array.getElem?_eq_some_iff.1 T_e.out).1
         go_wp2_with fail
         clear qe0 qe1 qe2 qe3 qe4 qe5 qel
         refine (pmade_any p sz5 _ (F7.out).st (by have h1 := HI7.out; omega) _ _ _ _ _ _ _).mono ?_
         rintro ee w8 ⟨rfl, hb⟩
         have F8 := Lib.hid ((F7.out).below hb)
         have HI8 := HI7
         have hr0 := HRL.out
         have hl0e := hl_e.out
         have hl0 := F7.out.lt
         have hs0e := (Array.getElem?_eq_some_iff.1 T_e.out).1
         have K_e : Hid (n_e.kids.length ≤ c_e ∧ SIn w8 (fun b => (w.heap.size < b) ∧ b ≠ w1.heap.size) n_e.kids A_e) := Lib.hid (And.intro K_e.out.1 (SIn.fr K_e.out.2 (PFr.of_below (R := p.R) hb) (fun hh => HNB.out hh.1)))
         have T_e := Lib.hid ((PFr.of_below (R := p.R) hb).kept (N := w1.heap.size) (by omega) T_e.out)
         have K_kk : Hid (n_kk.length ≤ c_kk ∧ SIn w8 (fun b => (w.heap.size < b) ∧ b ≠ w1.heap.size) n_kk A_kk) := Lib.hid (And.intro K_kk.out.1 (SIn.fr K_kk.out.2 (PFr.of_below (R := p.R) hb) (fun hh => HNB.out hh.1)))
         clear hr0 hl0 hs0e hl0e
         clear hb
         have hz := F8.out.lt
         have hzp := F7.out.lt
         have h1 := HI8.out
         have HSS := Lib.hid (K_kk.out.2)
         clear hz hzp h1
         have K_e : Hid (n_kk.length ≤ c_kk ∧ SIn w8 (fun b => (w.heap.size < b) ∧ b ≠ w1.heap.size) n_kk A_kk) := Lib.hid ⟨K_kk.out.1, HSS.out⟩
         have HSEL : Hid (SelG (mkE p.ts 27 n_e (tk p.ts st).2.2.1 [] n_kk sz5)) := Lib.hid (.other _ (by show ((27 : Nat) : Int) ≠ 26; decide))
         obtain ⟨qe0, qe1, qe2, qe3, qe4, qe5⟩ := six_cells T_e.out
         have qel := (Array.getElem?_eq_some_iff.1 T_e.out).1
         have fe0 := frozen_of_row _ (w1.heap.size) 0 _ _ T_e.out
         have fe1 := frozen_of_row _ (w1.heap.size) 1 _ _ T_e.out
         have fe2 := frozen_of_row _ (w1.heap.size) 2 _ _ T_e.out
         have fe3 := frozen_of_row _ (w1.heap.size) 3 _ _ T_e.out
         have fe4 := frozen_of_row _ (w1.heap.size) 4 _ _ T_e.out
         have fe5 := frozen_of_row _ (w1.heap.size) 5 _ _ T_e.out
         go_wp2_with fail
         clear qe0 qe1 qe2 qe3 qe4 qe5 qel fe0 fe1 fe2 fe3 fe4 fe5
         go_roundg gf
         case measure => omega
         case rel => exact ⟨mkE p.ts 27 n_e (tk p.ts st).2.2.1 [] n_kk sz5, A_kk, c_kk, sz5, HR, Lib.hid (F8.out.set6 (N := w1.heap.size) hl_e.out _ _ _ _ _ _), Lib.hid (six_heap T_e.out), Lib.hid ⟨K_e.out.1, (SIn.keep (Q := (fun b => (w.heap.size < b) ∧ b ≠ w1.heap.size)) (fun k hk _ => six_otherP (R := w1.heap.size) hk.2 ..) (fun _ hk _ => hk) K_e.out.2)⟩, HI8, HSEL⟩
      · skip
        refine wpOp_wp rfl rfl (wp_enter (f := 193) (args := #[.pointer (some ⟨p.R, 0, none⟩)]) (by go_simp; try rfl) (HA.out st _ F6.out.st.drew (by have h1 := HI6.out; omega) rz5 HX5.out) ?_)
        intro ee wzc he
        cases rz5 with
        | bad kk xx =>
         obtain ⟨rfl, hf⟩ := he
         have hrr : r = .bad kk xx := HR5.out
         subst hrr
         have HE := Lib.hid (F6.out.fr.trans (((PFr.refl _ _).drew).trans hf))
         clear hf
         exact ⟨rfl, rfl, HE.out⟩
        | ok n_l sz5 =>
         obtain ⟨⟨A_l, c_l, rfl, hc, hk, hle, hno⟩, hs, hf, hi5, ho5⟩ := he
         have HI5 := Lib.hid (And.intro hi5 ho5)
         have hf5 : PFr p.R w6 wzc := ((PFr.refl _ _).drew).trans hf
         have h9 := HLW.out
         have h10 := hf5.size
         have hk2 : SIn wzc (fun b => w6.heap.size ≤ b) n_l A_l := hk
         refine ⟨HKS.out _ hf5, ?_⟩
         try simp only [Act.put, List.setIfInBounds_toArray]
         refine wpAnyH_all (rs := [1]) (by kernel_rfl) (by simp) (fun i hi => ?_)
         obtain rfl : i = 1 := by simpa using hi
         refine wpOp_wp rfl rfl (wp_val (w' := wzc.alloc (.cells #[.int .i64 n_e.kind, .int .i64 n_e.fro, .int .i64 n_e.till, .int .i64 n_e.at', .string n_e.name, .slice A_e n_e.kids.length c_e] 24)) (v := .slice (some ⟨wzc.heap.size, 0, none⟩) 1 1) (by go_simp; try rfl) ?_)
         have hb7 := alloc_below wzc (.cells #[.int .i64 n_e.kind, .int .i64 n_e.fro, .int .i64 n_e.till, .int .i64 n_e.at', .string n_e.name, .slice A_e n_e.kids.length c_e] 24)
         have ht7 := alloc_top wzc #[.int .i64 n_e.kind, .int .i64 n_e.fro, .int .i64 n_e.till, .int .i64 n_e.at', .string n_e.name, .slice A_e n_e.kids.length c_e] 24
         have hz7 := World.size_alloc wzc (.cells #[.int .i64 n_e.kind, .int .i64 n_e.fro, .int .i64 n_e.till, .int .i64 n_e.at', .string n_e.name, .slice A_e n_e.kids.length c_e] 24)
         generalize wzc.alloc (.cells #[.int .i64 n_e.kind, .int .i64 n_e.fro, .int .i64 n_e.till, .int .i64 n_e.at', .string n_e.name, .slice A_e n_e.kids.length c_e] 24) = wzr at *
         have hf7 : PFr p.R w6 wzr := hf5.trans (PFr.of_below hb7)
         refine ⟨HKS.out _ hf7, ?_⟩
         try simp only [Act.put]
         refine wpAnyH_all (rs := [4]) (by kernel_rfl) (by simp) (fun i hi => ?_)
         obtain rfl : i = 4 := by simpa using hi
         refine wpOp_wp rfl rfl (wp_kidsG (P := (fun b => (w.heap.size < b) ∧ b ≠ w1.heap.size)) (g0 := wzc.heap.size) (n := n_e) (hs.below hb7) (by omega) (by omega) ht7 K_e.out.1 (SIn.fr (K_e.out.2.wide (Q := fun b => (fun b => (w.heap.size < b) ∧ b ≠ w1.heap.size) b ∧ b ≠ wzc.heap.size) (fun k h1 h2 => ⟨h2, by omega⟩)) hf7 (fun hh => HNB.out hh.1.1)) hc ((hk2.wide (fun k h0 h1 => ⟨HPB.out k h1, Nat.ne_of_lt h0⟩)).below hb7) hno (by have h2 := hs.lt; have h3 := hs.ok.len; omega) (fun b hb => HPB.out b (by omega)) (.tmp 36) (.tmp 38) rfl rfl rfl ?_)
         intro A6 c6 wzf hke
         have hf6 : PFr p.R w6 wzf := ⟨hke.2.2.2.1.trans hf7.os, hke.2.2.2.2.1.trans hf7.tape, hke.2.2.2.2.2.1.trans hf7.output, Nat.le_trans hf7.size hke.2.2.2.2.2.2.1, fun k hk2 hx => (hke.2.2.2.2.2.2.2 k (Nat.lt_of_lt_of_le hk2 hf7.size) (by omega)).trans (hf7.block k hk2 hx)⟩
         refine ⟨HKS.out _ hf6, ?_⟩
         try simp only [Act.put]
         refine wpAnyH_take (i := 5) (oi := ⟨some 6, _, _, _, _, _⟩) (v := ?_) rfl (by kernel_rfl) (by kernel_rfl) (by kernel_rfl) (fun _ _ _ h => h) (Or.inl ⟨by rfl, ?_⟩) (HKS.out _ hf6) ?_
         rotate_left
         · (intro W hSW; (try dsimp only at hSW); go_simp; first | done | with_reducible rfl)
         try simp only [Act.put]
         refine wpAnyH_done (by kernel_rfl) ?_ _
         obtain ⟨w7, hwn⟩ : ∃ W, W = wzf := ⟨_, rfl⟩
         subst hwn
         have F7 := Lib.hid (F6.out.step hf6 hke.2.2.1)
         have HI7 : Hid (1 ≤ sz5.i ∧ s.i < sz5.i ∧ sz5.o = s.o + 0) := Lib.hid (by have h1 := HI6.out; have h2 := HI5.out; omega)
         have hr0 := HRL.out
         have hl0e := hl_e.out
         have hl0 := F6.out.lt
         have hs0e := (Array.getElem?_eq_some_iff.1 T_e.out).1
         have K_e : Hid (n_e.kids.length ≤ c_e ∧ SIn w7 (fun b => (w.heap.size < b) ∧ b ≠ w1.heap.size) n_e.kids A_e) := Lib.hid (And.intro K_e.out.1 (SIn.fr K_e.out.2 hf6 (fun hh => HNB.out hh.1)))
         have T_e := Lib.hid (hf6.kept (N := w1.heap.size) (by omega) T_e.out)
         clear hr0 hl0 hs0e hl0e
         obtain ⟨n_kk, hnk⟩ : ∃ L, L = n_e :: n_l := ⟨_, rfl⟩
         obtain ⟨A_kk, hak⟩ : ∃ L, L = A6 := ⟨_, rfl⟩
         obtain ⟨c_kk, hck⟩ : ∃ L, L = c6 := ⟨_, rfl⟩
         have K_kk : Hid (n_kk.length ≤ c_kk ∧ SIn w7 (fun b => (w.heap.size < b) ∧ b ≠ w1.heap.size) n_kk A_kk) := Lib.hid (by rw [hnk, hak, hck]; exact ⟨hke.2.1, hke.1⟩)
         rw [show n_l.length + 1 = n_kk.length by rw [hnk]; rfl, ← hak, ← hck]
         have HNK_kk := Lib.hid hnk
         clear hke hnk hak hck hf6
         have h1 : chainL p.ts ex f gf (mkE p.ts 27 n_e (tk p.ts st).2.2.1 [] (n_e :: n_l) sz5) sz5 = some r := HR5.out
         rw [← HNK_kk.out] at h1
         have HR := Lib.hid h1
         clear h1
         obtain ⟨qe0, qe1, qe2, qe3, qe4, qe5⟩ := six_cells T_e.out
         have qel := (Array.getElem?_eq_some_iff.1 T_e.out).1
         go_wp2_with fail
         clear qe0 qe1 qe2 qe3 qe4 qe5 qel
         refine (pmade_any p sz5 _ (F7.out).st (by have h1 := HI7.out; omega) _ _ _ _ _ _ _).mono ?_
         rintro ee w8 ⟨rfl, hb⟩
         have F8 := Lib.hid ((F7.out).below hb)
         have HI8 := HI7
         have hr0 := HRL.out
         have hl0e := hl_e.out
         have hl0 := F7.out.lt
         have hs0e := (Array.getElem?_eq_some_iff.1 T_e.out).1
         have K_e : Hid (n_e.kids.length ≤ c_e ∧ SIn w8 (fun b => (w.heap.size < b) ∧ b ≠ w1.heap.size) n_e.kids A_e) := Lib.hid (And.intro K_e.out.1 (SIn.fr K_e.out.2 (PFr.of_below (R := p.R) hb) (fun hh => HNB.out hh.1)))
         have T_e := Lib.hid ((PFr.of_below (R := p.R) hb).kept (N := w1.heap.size) (by omega) T_e.out)
         have K_kk : Hid (n_kk.length ≤ c_kk ∧ SIn w8 (fun b => (w.heap.size < b) ∧ b ≠ w1.heap.size) n_kk A_kk) := Lib.hid (And.intro K_kk.out.1 (SIn.fr K_kk.out.2 (PFr.of_below (R := p.R) hb) (fun hh => HNB.out hh.1)))
         clear hr0 hl0 hs0e hl0e
         clear hb
         have hz := F8.out.lt
         have hzp := F7.out.lt
         have h1 := HI8.out
         have HSS := Lib.hid (K_kk.out.2)
         clear hz hzp h1
         have K_e : Hid (n_kk.length ≤ c_kk ∧ SIn w8 (fun b => (w.heap.size < b) ∧ b ≠ w1.heap.size) n_kk A_kk) := Lib.hid ⟨K_kk.out.1, HSS.out⟩
         have HSEL : Hid (SelG (mkE p.ts 27 n_e (tk p.ts st).2.2.1 [] n_kk sz5)) := Lib.hid (.other _ (by show ((27 : Nat) : Int) ≠ 26; decide))
         obtain ⟨qe0, qe1, qe2, qe3, qe4, qe5⟩ := six_cells T_e.out
         have qel := (Array.getElem?_eq_some_iff.1 T_e.out).1
         have fe0 := frozen_of_row _ (w1.heap.size) 0 _ _ T_e.out
         have fe1 := frozen_of_row _ (w1.heap.size) 1 _ _ T_e.out
         have fe2 := frozen_of_row _ (w1.heap.size) 2 _ _ T_e.out
         have fe3 := frozen_of_row _ (w1.heap.size) 3 _ _ T_e.out
         have fe4 := frozen_of_row _ (w1.heap.size) 4 _ _ T_e.out
         have fe5 := frozen_of_row _ (w1.heap.size) 5 _ _ T_e.out
         go_wp2_with fail
         clear qe0 qe1 qe2 qe3 qe4 qe5 qel fe0 fe1 fe2 fe3 fe4 fe5
         go_roundg gf
         case measure => omega
         case rel => exact ⟨mkE p.ts 27 n_e (tk p.ts st).2.2.1 [] n_kk sz5, A_kk, c_kk, sz5, HR, Lib.hid (F8.out.set6 (N := w1.heap.size) hl_e.out _ _ _ _ _ _), Lib.hid (six_heap T_e.out), Lib.hid ⟨K_e.out.1, (SIn.keep (Q := (fun b => (w.heap.size < b) ∧ b ≠ w1.heap.size)) (fun k hk _ => six_otherP (R := w1.heap.size) hk.2 ..) (fun _ hk _ => hk) K_e.out.2)⟩, HI8, HSEL⟩
     | false =>
      simp only [hc, if_false, Bool.false_eq_true] at hr
      have HR := Lib.hid hr
      have HC5 := Lib.hid hc
      clear hr hc
      have hlb : atB p.ts st mLBrace = false := by have h1 := HCO.out; unfold atB at h1 ⊢; rw [beq_iff_eq] at h1; rw [h1]; rfl
      have HC1 := Lib.hid hlb
      have hr := HR.out
      simp only [hlb, Bool.false_and, Bool.false_eq_true, if_false] at hr
      have HR := Lib.hid hr
      clear hr hlb
      have HKS : Hid (∀ W, PFr p.R w5 W → PSt p W st → (fun w' => w'.cell? ⟨w1.heap.size, 0, none⟩ = some (.int .i64 n_e.kind) ∧ w'.cell? ⟨w1.heap.size, 1, none⟩ = some (.int .i64 n_e.fro) ∧ w'.cell? ⟨w1.heap.size, 2, none⟩ = some (.int .i64 n_e.till) ∧ w'.cell? ⟨w1.heap.size, 3, none⟩ = some (.int .i64 n_e.at') ∧ w'.cell? ⟨w1.heap.size, 4, none⟩ = some (.string n_e.name) ∧ w'.cell? ⟨w1.heap.size, 5, none⟩ = some (.slice A_e n_e.kids.length c_e) ∧ w'.cell? ⟨p.R, 2, none⟩ = some (.int .i64 (st.o : Int)) ∧ w'.cell? ⟨p.R, 3, none⟩ = some (.int .i64 (st.h : Int))) W) := Lib.hid (fun W hf hs => by
       obtain ⟨qe0, qe1, qe2, qe3, qe4, qe5⟩ := six_cells (hf.kept (N := w1.heap.size) (by have h1 := hl_e.out; have h2 := HRL.out; omega) T_e.out)
       exact ⟨qe0, qe1, qe2, qe3, qe4, qe5, hs.cells.2.2.1, hs.cells.2.2.2⟩)
      have HS0 := Lib.hid (HKS.out w5 (PFr.refl _ _) F5.out.st)
      have HST : Hid (∀ W, PSt p W st → Calls Tryz.prog 65 #[.pointer (some ⟨p.R, 0, none⟩), .string (txt mLBrace)] W fun e w' => e = .returned (.bool false) ∧ Below W.heap.size W w') := Lib.hid (fun W hW => (pstands_any p mLBrace st W hW).mono (fun e w' h => by rw [HC1.out] at h; exact h))
      go_wp2_with fail
      refine wp_region_held_drew (S := (fun w' => w'.cell? ⟨w1.heap.size, 0, none⟩ = some (.int .i64 n_e.kind) ∧ w'.cell? ⟨w1.heap.size, 1, none⟩ = some (.int .i64 n_e.fro) ∧ w'.cell? ⟨w1.heap.size, 2, none⟩ = some (.int .i64 n_e.till) ∧ w'.cell? ⟨w1.heap.size, 3, none⟩ = some (.int .i64 n_e.at') ∧ w'.cell? ⟨w1.heap.size, 4, none⟩ = some (.string n_e.name) ∧ w'.cell? ⟨w1.heap.size, 5, none⟩ = some (.slice A_e n_e.kids.length c_e) ∧ w'.cell? ⟨p.R, 2, none⟩ = some (.int .i64 (st.o : Int)) ∧ w'.cell? ⟨p.R, 3, none⟩ = some (.int .i64 (st.h : Int)))) (by kernel_rfl) HS0.out (fun hHeld => ?_)
      refine wpAnyH_take (i := 0) (oi := ⟨some 47, _, _, _, _, _⟩) (v := ?_) rfl (by kernel_rfl) (by kernel_rfl) (by kernel_rfl) (fun _ _ _ h => h) (Or.inl ⟨by rfl, ?_⟩) hHeld ?_
      rotate_left
      · (intro W hSW; (try dsimp only at hSW); go_simp; first | done | with_reducible rfl)
      try simp only [Act.put, List.setIfInBounds_toArray, List.set_cons_zero, List.set_cons_succ]
      refine wpAnyH_ready (rs := [1]) (by kernel_rfl) (by simp) ?_
      refine AllReadyH.cons (o := ⟨some 48, _, _, _, _, _⟩) rfl (fun K hK => ?_) AllReadyH.nil
      go_simp
      refine (HST.out _ F5.out.st.drew).mono ?_
      rintro ee wa ⟨rfl, kq⟩
      have HBA := Lib.hid (drew_below kq)
      have HSA := Lib.hid (HKS.out wa (PFr.of_below HBA.out) (F5.out.st.below HBA.out))
      refine hK.out _ _ HSA.out (fun hHeld2 => ?_)
      clear hK K hHeld kq
      have hHeld := hHeld2
      clear hHeld2
      try simp only [Act.put, List.setIfInBounds_toArray, List.set_cons_zero, List.set_cons_succ]
      refine wpAnyH_take (i := 2) (oi := ⟨some 49, _, _, _, _, _⟩) (v := ?_) rfl (by kernel_rfl) (by kernel_rfl) (by kernel_rfl) (fun _ _ _ h => h) (Or.inl ⟨by rfl, ?_⟩) hHeld ?_
      rotate_left
      · (intro W hSW; (try dsimp only at hSW); go_simp; first | done | with_reducible rfl)
      try simp only [Act.put, List.setIfInBounds_toArray, List.set_cons_zero, List.set_cons_succ]
      refine wpAnyH_take (i := 3) (oi := ⟨some 50, _, _, _, _, _⟩) (v := undef) rfl (by kernel_rfl) (by kernel_rfl) (by kernel_rfl) (fun _ _ _ h => h) (Or.inr ⟨by rfl, rfl⟩) hHeld ?_
      try simp only [Act.put, List.setIfInBounds_toArray, List.set_cons_zero, List.set_cons_succ]
      refine wpAnyH_take (i := 4) (oi := ⟨some 51, _, _, _, _, _⟩) (v := undef) rfl (by kernel_rfl) (by kernel_rfl) (by kernel_rfl) (fun _ _ _ h => h) (Or.inr ⟨by rfl, rfl⟩) hHeld ?_
      try simp only [Act.put, List.setIfInBounds_toArray, List.set_cons_zero, List.set_cons_succ]
      refine wpAnyH_take (i := 5) (oi := ⟨some 52, _, _, _, _, _⟩) (v := ?_) rfl (by kernel_rfl) (by kernel_rfl) (by kernel_rfl) (fun _ _ _ h => h) (Or.inl ⟨by rfl, ?_⟩) hHeld ?_
      rotate_left
      · (intro W hSW; (try dsimp only at hSW); go_simp; first | done | with_reducible rfl)
      try simp only [Act.put, List.setIfInBounds_toArray, List.set_cons_zero, List.set_cons_succ]
      refine wpAnyH_take (i := 6) (oi := ⟨some 53, _, _, _, _, _⟩) (v := ?_) rfl (by kernel_rfl) (by kernel_rfl) (by kernel_rfl) (fun _ _ _ h => h) (Or.inl ⟨by rfl, ?_⟩) hHeld ?_
      rotate_left
      · (intro W hSW; (try dsimp only at hSW); go_simp; first | done | with_reducible rfl)
      try simp only [Act.put, List.setIfInBounds_toArray, List.set_cons_zero, List.set_cons_succ]
      refine wpAnyH_take (i := 7) (oi := ⟨some 54, _, _, _, _, _⟩) (v := undef) rfl (by kernel_rfl) (by kernel_rfl) (by kernel_rfl) (fun _ _ _ h => h) (Or.inr ⟨by rfl, rfl⟩) hHeld ?_
      try simp only [Act.put, List.setIfInBounds_toArray, List.set_cons_zero, List.set_cons_succ]
      refine wpAnyH_take (i := 8) (oi := ⟨some 55, _, _, _, _, _⟩) (v := undef) rfl (by kernel_rfl) (by kernel_rfl) (by kernel_rfl) (fun _ _ _ h => h) (Or.inr ⟨by rfl, rfl⟩) hHeld ?_
      try simp only [Act.put, List.setIfInBounds_toArray, List.set_cons_zero, List.set_cons_succ]
      refine wpAnyH_take (i := 9) (oi := ⟨some 56, _, _, _, _, _⟩) (v := undef) rfl (by kernel_rfl) (by kernel_rfl) (by kernel_rfl) (fun _ _ _ h => h) (Or.inr ⟨by rfl, rfl⟩) hHeld ?_
      try simp only [Act.put, List.setIfInBounds_toArray, List.set_cons_zero, List.set_cons_succ]
      refine wpAnyH_take (i := 10) (oi := ⟨some 57, _, _, _, _, _⟩) (v := undef) rfl (by kernel_rfl) (by kernel_rfl) (by kernel_rfl) (fun _ _ _ h => h) (Or.inr ⟨by rfl, rfl⟩) hHeld ?_
      try simp only [Act.put, List.setIfInBounds_toArray, List.set_cons_zero, List.set_cons_succ]
      refine wpAnyH_take (i := 11) (oi := ⟨some 58, _, _, _, _, _⟩) (v := undef) rfl (by kernel_rfl) (by kernel_rfl) (by kernel_rfl) (fun _ _ _ h => h) (Or.inr ⟨by rfl, rfl⟩) hHeld ?_
      try simp only [Act.put, List.setIfInBounds_toArray, List.set_cons_zero, List.set_cons_succ]
      refine wpAnyH_take (i := 12) (oi := ⟨some 59, _, _, _, _, _⟩) (v := undef) rfl (by kernel_rfl) (by kernel_rfl) (by kernel_rfl) (fun _ _ _ h => h) (Or.inr ⟨by rfl, rfl⟩) hHeld ?_
      try simp only [Act.put, List.setIfInBounds_toArray, List.set_cons_zero, List.set_cons_succ]
      refine wpAnyH_take (i := 13) (oi := ⟨some 60, _, _, _, _, _⟩) (v := undef) rfl (by kernel_rfl) (by kernel_rfl) (by kernel_rfl) (fun _ _ _ h => h) (Or.inr ⟨by rfl, rfl⟩) hHeld ?_
      try simp only [Act.put, List.setIfInBounds_toArray, List.set_cons_zero, List.set_cons_succ]
      refine wpAnyH_take (i := 14) (oi := ⟨some 61, _, _, _, _, _⟩) (v := undef) rfl (by kernel_rfl) (by kernel_rfl) (by kernel_rfl) (fun _ _ _ h => h) (Or.inr ⟨by rfl, rfl⟩) hHeld ?_
      try simp only [Act.put, List.setIfInBounds_toArray, List.set_cons_zero, List.set_cons_succ]
      refine wpAnyH_take (i := 15) (oi := ⟨some 62, _, _, _, _, _⟩) (v := undef) rfl (by kernel_rfl) (by kernel_rfl) (by kernel_rfl) (fun _ _ _ h => h) (Or.inr ⟨by rfl, rfl⟩) hHeld ?_
      try simp only [Act.put, List.setIfInBounds_toArray, List.set_cons_zero, List.set_cons_succ]
      refine wpAnyH_take (i := 16) (oi := ⟨some 63, _, _, _, _, _⟩) (v := ?_) rfl (by kernel_rfl) (by kernel_rfl) (by kernel_rfl) (fun _ _ _ h => h) (Or.inl ⟨by rfl, ?_⟩) hHeld ?_
      rotate_left
      · (intro W hSW; (try dsimp only at hSW); go_simp; first | done | with_reducible rfl)
      try simp only [Act.put, List.setIfInBounds_toArray, List.set_cons_zero, List.set_cons_succ]
      refine wpAnyH_take (i := 17) (oi := ⟨some 46, _, _, _, _, _⟩) (v := ?_) rfl (by kernel_rfl) (by kernel_rfl) (by kernel_rfl) (fun _ _ _ h => h) (Or.inl ⟨by rfl, ?_⟩) hHeld ?_
      rotate_left
      · (intro W hSW; (try dsimp only at hSW); go_simp; first | done | with_reducible rfl)
      try simp only [Act.put, List.setIfInBounds_toArray, List.set_cons_zero, List.set_cons_succ]
      refine wpAnyH_done (by kernel_rfl) ?_ _
      clear hHeld
      obtain ⟨w6, hwn⟩ : ∃ W, W = wa := ⟨_, rfl⟩
      rw [← hwn]
      have hb : Below w5.heap.size w5 w6 := by rw [hwn]; exact HBA.out
      have F6 := Lib.hid (F5.out.below hb)
      have HI6 := HI5
      have hr0 := HRL.out
      have hl0e := hl_e.out
      have hl0 := F5.out.lt
      have hs0e := (Array.getElem?_eq_some_iff.1 T_e.out).1
      have K_e : Hid (n_e.kids.length ≤ c_e ∧ SIn w6 (fun b => (w.heap.size < b) ∧ b ≠ w1.heap.size) n_e.kids A_e) := Lib.hid (And.intro K_e.out.1 (SIn.fr K_e.out.2 (PFr.of_below (R := p.R) hb) (fun hh => HNB.out hh.1)))
      have T_e := Lib.hid ((PFr.of_below (R := p.R) hb).kept (N := w1.heap.size) (by omega) T_e.out)
      clear hr0 hl0 hs0e hl0e
      clear hb hwn
      obtain ⟨qe0, qe1, qe2, qe3, qe4, qe5⟩ := six_cells T_e.out
      have qel := (Array.getElem?_eq_some_iff.1 T_e.out).1
      have hrr := (Option.some.inj HR.out).symm
      subst hrr
      obtain ⟨z0, z1, z2, z3, z4, z5, hres⟩ := F6.out.res
      obtain ⟨y0, y1, y2, y3, y4, y5⟩ := six_cells hres
      have yl := (Array.getElem?_eq_some_iff.1 hres).1
      have x0 := frozen_of_row _ (w.heap.size) 0 _ _ hres
      have x1 := frozen_of_row _ (w.heap.size) 1 _ _ hres
      have x2 := frozen_of_row _ (w.heap.size) 2 _ _ hres
      have x3 := frozen_of_row _ (w.heap.size) 3 _ _ hres
      have x4 := frozen_of_row _ (w.heap.size) 4 _ _ hres
      have x5 := frozen_of_row _ (w.heap.size) 5 _ _ hres
      have HRES := Lib.hid hres
      clear hres
      go_wp2_with fail
      have h1 := HI6.out
      exact ret_cell1A (p := 2) rfl _ rfl _ (load_nd (six_heap HRES.out)) (F6.out.doneN (s := s) (n := n_e) (K_e.out.2.wide (fun _ _ hk => hk.1)) K_e.out.1 (by omega) (by omega))
    | false =>
     simp only [hc, if_false, Bool.false_eq_true, Bool.false_and] at hr
     have HR := Lib.hid hr
     have HC4 := Lib.hid hc
     clear hr hc
     obtain ⟨b1, hc1⟩ : ∃ b, atB p.ts st mLBrace = b := ⟨_, rfl⟩
     have HC1 := Lib.hid hc1
     have hr := HR.out
     cases b1 with
     | false =>
      simp only [hc1, Bool.false_and, Bool.false_eq_true, if_false] at hr
      have HR := Lib.hid hr
      clear hr hc1
      have HKS : Hid (∀ W, PFr p.R w4 W → PSt p W st → (fun w' => w'.cell? ⟨w1.heap.size, 0, none⟩ = some (.int .i64 n_e.kind) ∧ w'.cell? ⟨w1.heap.size, 1, none⟩ = some (.int .i64 n_e.fro) ∧ w'.cell? ⟨w1.heap.size, 2, none⟩ = some (.int .i64 n_e.till) ∧ w'.cell? ⟨w1.heap.size, 3, none⟩ = some (.int .i64 n_e.at') ∧ w'.cell? ⟨w1.heap.size, 4, none⟩ = some (.string n_e.name) ∧ w'.cell? ⟨w1.heap.size, 5, none⟩ = some (.slice A_e n_e.kids.length c_e) ∧ w'.cell? ⟨p.R, 2, none⟩ = some (.int .i64 (st.o : Int)) ∧ w'.cell? ⟨p.R, 3, none⟩ = some (.int .i64 (st.h : Int))) W) := Lib.hid (fun W hf hs => by
       obtain ⟨qe0, qe1, qe2, qe3, qe4, qe5⟩ := six_cells (hf.kept (N := w1.heap.size) (by have h1 := hl_e.out; have h2 := HRL.out; omega) T_e.out)
       exact ⟨qe0, qe1, qe2, qe3, qe4, qe5, hs.cells.2.2.1, hs.cells.2.2.2⟩)
      have HS0 := Lib.hid (HKS.out w4 (PFr.refl _ _) F4.out.st)
      have HST : Hid (∀ W, PSt p W st → Calls Tryz.prog 65 #[.pointer (some ⟨p.R, 0, none⟩), .string (txt mLBrace)] W fun e w' => e = .returned (.bool false) ∧ Below W.heap.size W w') := Lib.hid (fun W hW => (pstands_any p mLBrace st W hW).mono (fun e w' h => by rw [HC1.out] at h; exact h))
      go_wp2_with fail
      refine wp_region_held_drew (S := (fun w' => w'.cell? ⟨w1.heap.size, 0, none⟩ = some (.int .i64 n_e.kind) ∧ w'.cell? ⟨w1.heap.size, 1, none⟩ = some (.int .i64 n_e.fro) ∧ w'.cell? ⟨w1.heap.size, 2, none⟩ = some (.int .i64 n_e.till) ∧ w'.cell? ⟨w1.heap.size, 3, none⟩ = some (.int .i64 n_e.at') ∧ w'.cell? ⟨w1.heap.size, 4, none⟩ = some (.string n_e.name) ∧ w'.cell? ⟨w1.heap.size, 5, none⟩ = some (.slice A_e n_e.kids.length c_e) ∧ w'.cell? ⟨p.R, 2, none⟩ = some (.int .i64 (st.o : Int)) ∧ w'.cell? ⟨p.R, 3, none⟩ = some (.int .i64 (st.h : Int)))) (by kernel_rfl) HS0.out (fun hHeld => ?_)
      refine wpAnyH_take (i := 0) (oi := ⟨some 47, _, _, _, _, _⟩) (v := ?_) rfl (by kernel_rfl) (by kernel_rfl) (by kernel_rfl) (fun _ _ _ h => h) (Or.inl ⟨by rfl, ?_⟩) hHeld ?_
      rotate_left
      · (intro W hSW; (try dsimp only at hSW); go_simp; first | done | with_reducible rfl)
      try simp only [Act.put, List.setIfInBounds_toArray, List.set_cons_zero, List.set_cons_succ]
      refine wpAnyH_ready (rs := [1]) (by kernel_rfl) (by simp) ?_
      refine AllReadyH.cons (o := ⟨some 48, _, _, _, _, _⟩) rfl (fun K hK => ?_) AllReadyH.nil
      go_simp
      refine (HST.out _ F4.out.st.drew).mono ?_
      rintro ee wa ⟨rfl, kq⟩
      have HBA := Lib.hid (drew_below kq)
      have HSA := Lib.hid (HKS.out wa (PFr.of_below HBA.out) (F4.out.st.below HBA.out))
      refine hK.out _ _ HSA.out (fun hHeld2 => ?_)
      clear hK K hHeld kq
      have hHeld := hHeld2
      clear hHeld2
      try simp only [Act.put, List.setIfInBounds_toArray, List.set_cons_zero, List.set_cons_succ]
      refine wpAnyH_take (i := 2) (oi := ⟨some 49, _, _, _, _, _⟩) (v := ?_) rfl (by kernel_rfl) (by kernel_rfl) (by kernel_rfl) (fun _ _ _ h => h) (Or.inl ⟨by rfl, ?_⟩) hHeld ?_
      rotate_left
      · (intro W hSW; (try dsimp only at hSW); go_simp; first | done | with_reducible rfl)
      try simp only [Act.put, List.setIfInBounds_toArray, List.set_cons_zero, List.set_cons_succ]
      refine wpAnyH_take (i := 3) (oi := ⟨some 50, _, _, _, _, _⟩) (v := undef) rfl (by kernel_rfl) (by kernel_rfl) (by kernel_rfl) (fun _ _ _ h => h) (Or.inr ⟨by rfl, rfl⟩) hHeld ?_
      try simp only [Act.put, List.setIfInBounds_toArray, List.set_cons_zero, List.set_cons_succ]
      refine wpAnyH_take (i := 4) (oi := ⟨some 51, _, _, _, _, _⟩) (v := undef) rfl (by kernel_rfl) (by kernel_rfl) (by kernel_rfl) (fun _ _ _ h => h) (Or.inr ⟨by rfl, rfl⟩) hHeld ?_
      try simp only [Act.put, List.setIfInBounds_toArray, List.set_cons_zero, List.set_cons_succ]
      refine wpAnyH_take (i := 5) (oi := ⟨some 52, _, _, _, _, _⟩) (v := ?_) rfl (by kernel_rfl) (by kernel_rfl) (by kernel_rfl) (fun _ _ _ h => h) (Or.inl ⟨by rfl, ?_⟩) hHeld ?_
      rotate_left
      · (intro W hSW; (try dsimp only at hSW); go_simp; first | done | with_reducible rfl)
      try simp only [Act.put, List.setIfInBounds_toArray, List.set_cons_zero, List.set_cons_succ]
      refine wpAnyH_take (i := 6) (oi := ⟨some 53, _, _, _, _, _⟩) (v := ?_) rfl (by kernel_rfl) (by kernel_rfl) (by kernel_rfl) (fun _ _ _ h => h) (Or.inl ⟨by rfl, ?_⟩) hHeld ?_
      rotate_left
      · (intro W hSW; (try dsimp only at hSW); go_simp; first | done | with_reducible rfl)
      try simp only [Act.put, List.setIfInBounds_toArray, List.set_cons_zero, List.set_cons_succ]
      refine wpAnyH_take (i := 7) (oi := ⟨some 54, _, _, _, _, _⟩) (v := undef) rfl (by kernel_rfl) (by kernel_rfl) (by kernel_rfl) (fun _ _ _ h => h) (Or.inr ⟨by rfl, rfl⟩) hHeld ?_
      try simp only [Act.put, List.setIfInBounds_toArray, List.set_cons_zero, List.set_cons_succ]
      refine wpAnyH_take (i := 8) (oi := ⟨some 55, _, _, _, _, _⟩) (v := undef) rfl (by kernel_rfl) (by kernel_rfl) (by kernel_rfl) (fun _ _ _ h => h) (Or.inr ⟨by rfl, rfl⟩) hHeld ?_
      try simp only [Act.put, List.setIfInBounds_toArray, List.set_cons_zero, List.set_cons_succ]
      refine wpAnyH_take (i := 9) (oi := ⟨some 56, _, _, _, _, _⟩) (v := undef) rfl (by kernel_rfl) (by kernel_rfl) (by kernel_rfl) (fun _ _ _ h => h) (Or.inr ⟨by rfl, rfl⟩) hHeld ?_
      try simp only [Act.put, List.setIfInBounds_toArray, List.set_cons_zero, List.set_cons_succ]
      refine wpAnyH_take (i := 10) (oi := ⟨some 57, _, _, _, _, _⟩) (v := undef) rfl (by kernel_rfl) (by kernel_rfl) (by kernel_rfl) (fun _ _ _ h => h) (Or.inr ⟨by rfl, rfl⟩) hHeld ?_
      try simp only [Act.put, List.setIfInBounds_toArray, List.set_cons_zero, List.set_cons_succ]
      refine wpAnyH_take (i := 11) (oi := ⟨some 58, _, _, _, _, _⟩) (v := undef) rfl (by kernel_rfl) (by kernel_rfl) (by kernel_rfl) (fun _ _ _ h => h) (Or.inr ⟨by rfl, rfl⟩) hHeld ?_
      try simp only [Act.put, List.setIfInBounds_toArray, List.set_cons_zero, List.set_cons_succ]
      refine wpAnyH_take (i := 12) (oi := ⟨some 59, _, _, _, _, _⟩) (v := undef) rfl (by kernel_rfl) (by kernel_rfl) (by kernel_rfl) (fun _ _ _ h => h) (Or.inr ⟨by rfl, rfl⟩) hHeld ?_
      try simp only [Act.put, List.setIfInBounds_toArray, List.set_cons_zero, List.set_cons_succ]
      refine wpAnyH_take (i := 13) (oi := ⟨some 60, _, _, _, _, _⟩) (v := undef) rfl (by kernel_rfl) (by kernel_rfl) (by kernel_rfl) (fun _ _ _ h => h) (Or.inr ⟨by rfl, rfl⟩) hHeld ?_
      try simp only [Act.put, List.setIfInBounds_toArray, List.set_cons_zero, List.set_cons_succ]
      refine wpAnyH_take (i := 14) (oi := ⟨some 61, _, _, _, _, _⟩) (v := undef) rfl (by kernel_rfl) (by kernel_rfl) (by kernel_rfl) (fun _ _ _ h => h) (Or.inr ⟨by rfl, rfl⟩) hHeld ?_
      try simp only [Act.put, List.setIfInBounds_toArray, List.set_cons_zero, List.set_cons_succ]
      refine wpAnyH_take (i := 15) (oi := ⟨some 62, _, _, _, _, _⟩) (v := undef) rfl (by kernel_rfl) (by kernel_rfl) (by kernel_rfl) (fun _ _ _ h => h) (Or.inr ⟨by rfl, rfl⟩) hHeld ?_
      try simp only [Act.put, List.setIfInBounds_toArray, List.set_cons_zero, List.set_cons_succ]
      refine wpAnyH_take (i := 16) (oi := ⟨some 63, _, _, _, _, _⟩) (v := ?_) rfl (by kernel_rfl) (by kernel_rfl) (by kernel_rfl) (fun _ _ _ h => h) (Or.inl ⟨by rfl, ?_⟩) hHeld ?_
      rotate_left
      · (intro W hSW; (try dsimp only at hSW); go_simp; first | done | with_reducible rfl)
      try simp only [Act.put, List.setIfInBounds_toArray, List.set_cons_zero, List.set_cons_succ]
      refine wpAnyH_take (i := 17) (oi := ⟨some 46, _, _, _, _, _⟩) (v := ?_) rfl (by kernel_rfl) (by kernel_rfl) (by kernel_rfl) (fun _ _ _ h => h) (Or.inl ⟨by rfl, ?_⟩) hHeld ?_
      rotate_left
      · (intro W hSW; (try dsimp only at hSW); go_simp; first | done | with_reducible rfl)
      try simp only [Act.put, List.setIfInBounds_toArray, List.set_cons_zero, List.set_cons_succ]
      refine wpAnyH_done (by kernel_rfl) ?_ _
      clear hHeld
      obtain ⟨w5, hwn⟩ : ∃ W, W = wa := ⟨_, rfl⟩
      rw [← hwn]
      have hb : Below w4.heap.size w4 w5 := by rw [hwn]; exact HBA.out
      have F5 := Lib.hid (F4.out.below hb)
      have HI5 := HI4
      have hr0 := HRL.out
      have hl0e := hl_e.out
      have hl0 := F4.out.lt
      have hs0e := (Array.getElem?_eq_some_iff.1 T_e.out).1
      have K_e : Hid (n_e.kids.length ≤ c_e ∧ SIn w5 (fun b => (w.heap.size < b) ∧ b ≠ w1.heap.size) n_e.kids A_e) := Lib.hid (And.intro K_e.out.1 (SIn.fr K_e.out.2 (PFr.of_below (R := p.R) hb) (fun hh => HNB.out hh.1)))
      have T_e := Lib.hid ((PFr.of_below (R := p.R) hb).kept (N := w1.heap.size) (by omega) T_e.out)
      clear hr0 hl0 hs0e hl0e
      clear hb hwn
      obtain ⟨qe0, qe1, qe2, qe3, qe4, qe5⟩ := six_cells T_e.out
      have qel := (Array.getElem?_eq_some_iff.1 T_e.out).1
      have hrr := (Option.some.inj HR.out).symm
      subst hrr
      obtain ⟨z0, z1, z2, z3, z4, z5, hres⟩ := F5.out.res
      obtain ⟨y0, y1, y2, y3, y4, y5⟩ := six_cells hres
      have yl := (Array.getElem?_eq_some_iff.1 hres).1
      have x0 := frozen_of_row _ (w.heap.size) 0 _ _ hres
      have x1 := frozen_of_row _ (w.heap.size) 1 _ _ hres
      have x2 := frozen_of_row _ (w.heap.size) 2 _ _ hres
      have x3 := frozen_of_row _ (w.heap.size) 3 _ _ hres
      have x4 := frozen_of_row _ (w.heap.size) 4 _ _ hres
      have x5 := frozen_of_row _ (w.heap.size) 5 _ _ hres
      have HRES := Lib.hid hres
      clear hres
      go_wp2_with fail
      have h1 := HI5.out
      exact ret_cell1A (p := 2) rfl _ rfl _ (load_nd (six_heap HRES.out)) (F5.out.doneN (s := s) (n := n_e) (K_e.out.2.wide (fun _ _ hk => hk.1)) K_e.out.1 (by omega) (by omega))
     | true =>
      obtain ⟨b2, hc2⟩ : ∃ b, typesN n_e = b := ⟨_, rfl⟩
      have HC2 := Lib.hid hc2
      cases b2 with
      | false =>
       simp only [hc1, hc2, Bool.true_and, Bool.false_and, Bool.false_eq_true, if_false] at hr
       have HR := Lib.hid hr
       clear hr hc1 hc2
       have HKS : Hid (∀ W, PFr p.R w4 W → PSt p W st → (fun w' => w'.cell? ⟨w1.heap.size, 0, none⟩ = some (.int .i64 n_e.kind) ∧ w'.cell? ⟨w1.heap.size, 1, none⟩ = some (.int .i64 n_e.fro) ∧ w'.cell? ⟨w1.heap.size, 2, none⟩ = some (.int .i64 n_e.till) ∧ w'.cell? ⟨w1.heap.size, 3, none⟩ = some (.int .i64 n_e.at') ∧ w'.cell? ⟨w1.heap.size, 4, none⟩ = some (.string n_e.name) ∧ w'.cell? ⟨w1.heap.size, 5, none⟩ = some (.slice A_e n_e.kids.length c_e) ∧ w'.cell? ⟨p.R, 2, none⟩ = some (.int .i64 (st.o : Int)) ∧ w'.cell? ⟨p.R, 3, none⟩ = some (.int .i64 (st.h : Int))) W) := Lib.hid (fun W hf hs => by
        obtain ⟨qe0, qe1, qe2, qe3, qe4, qe5⟩ := six_cells (hf.kept (N := w1.heap.size) (by have h1 := hl_e.out; have h2 := HRL.out; omega) T_e.out)
        exact ⟨qe0, qe1, qe2, qe3, qe4, qe5, hs.cells.2.2.1, hs.cells.2.2.2⟩)
       have HS0 := Lib.hid (HKS.out w4 (PFr.refl _ _) F4.out.st)
       have HST : Hid (∀ W, PSt p W st → Calls Tryz.prog 65 #[.pointer (some ⟨p.R, 0, none⟩), .string (txt mLBrace)] W fun e w' => e = .returned (.bool true) ∧ Below W.heap.size W w') := Lib.hid (fun W hW => (pstands_any p mLBrace st W hW).mono (fun e w' h => by rw [HC1.out] at h; exact h))
       go_wp2_with fail
       refine wp_region_held_drew (S := (fun w' => w'.cell? ⟨w1.heap.size, 0, none⟩ = some (.int .i64 n_e.kind) ∧ w'.cell? ⟨w1.heap.size, 1, none⟩ = some (.int .i64 n_e.fro) ∧ w'.cell? ⟨w1.heap.size, 2, none⟩ = some (.int .i64 n_e.till) ∧ w'.cell? ⟨w1.heap.size, 3, none⟩ = some (.int .i64 n_e.at') ∧ w'.cell? ⟨w1.heap.size, 4, none⟩ = some (.string n_e.name) ∧ w'.cell? ⟨w1.heap.size, 5, none⟩ = some (.slice A_e n_e.kids.length c_e) ∧ w'.cell? ⟨p.R, 2, none⟩ = some (.int .i64 (st.o : Int)) ∧ w'.cell? ⟨p.R, 3, none⟩ = some (.int .i64 (st.h : Int)))) (by kernel_rfl) HS0.out (fun hHeld => ?_)
       refine wpAnyH_take (i := 0) (oi := ⟨some 47, _, _, _, _, _⟩) (v := ?_) rfl (by kernel_rfl) (by kernel_rfl) (by kernel_rfl) (fun _ _ _ h => h) (Or.inl ⟨by rfl, ?_⟩) hHeld ?_
       rotate_left
       · (intro W hSW; (try dsimp only at hSW); go_simp; first | done | with_reducible rfl)
       try simp only [Act.put, List.setIfInBounds_toArray, List.set_cons_zero, List.set_cons_succ]
       refine wpAnyH_ready (rs := [1]) (by kernel_rfl) (by simp) ?_
       refine AllReadyH.cons (o := ⟨some 48, _, _, _, _, _⟩) rfl (fun K hK => ?_) AllReadyH.nil
       go_simp
       refine (HST.out _ F4.out.st.drew).mono ?_
       rintro ee wa ⟨rfl, kq⟩
       have HBA := Lib.hid (drew_below kq)
       have HSA := Lib.hid (HKS.out wa (PFr.of_below HBA.out) (F4.out.st.below HBA.out))
       refine hK.out _ _ HSA.out (fun hHeld2 => ?_)
       clear hK K hHeld kq
       have hHeld := hHeld2
       clear hHeld2
       try simp only [Act.put, List.setIfInBounds_toArray, List.set_cons_zero, List.set_cons_succ]
       refine wpAnyH_take (i := 2) (oi := ⟨some 49, _, _, _, _, _⟩) (v := ?_) rfl (by kernel_rfl) (by kernel_rfl) (by kernel_rfl) (fun _ _ _ h => h) (Or.inl ⟨by rfl, ?_⟩) hHeld ?_
       rotate_left
       · (intro W hSW; (try dsimp only at hSW); go_simp; first | done | with_reducible rfl)
       try simp only [Act.put, List.setIfInBounds_toArray, List.set_cons_zero, List.set_cons_succ]
       refine wpAnyH_take (i := 3) (oi := ⟨some 50, _, _, _, _, _⟩) (v := ?_) rfl (by kernel_rfl) (by kernel_rfl) (by kernel_rfl) (fun _ _ _ h => h) (Or.inl ⟨by rfl, ?_⟩) hHeld ?_
       rotate_left
       · (intro W hSW; (try dsimp only at hSW); go_simp; first | done | with_reducible rfl)
       try simp only [Act.put, List.setIfInBounds_toArray, List.set_cons_zero, List.set_cons_succ]
       refine wpAnyH_ready (rs := [4]) (by kernel_rfl) (by simp) ?_
       refine AllReadyH.cons (o := ⟨some 51, _, _, _, _, _⟩) rfl (fun K hK => ?_) AllReadyH.nil
       go_simp
       refine (pisTypes_any n_e HSG.out A_e c_e _ wa (K_e.out.2.below HBA.out)).mono ?_
       rintro ee wb ⟨rfl, kq⟩
       have HBB := Lib.hid (HBA.out.trans (kq.mono HBA.out.size))
       have HSB := Lib.hid (HKS.out wb (PFr.of_below HBB.out) (F4.out.st.below HBB.out))
       refine hK.out _ _ HSB.out (fun hHeld2 => ?_)
       rw [HC2.out]
       clear hK K hHeld kq
       have hHeld := hHeld2
       clear hHeld2
       try simp only [Act.put, List.setIfInBounds_toArray, List.set_cons_zero, List.set_cons_succ]
       refine wpAnyH_take (i := 5) (oi := ⟨some 52, _, _, _, _, _⟩) (v := ?_) rfl (by kernel_rfl) (by kernel_rfl) (by kernel_rfl) (fun _ _ _ h => h) (Or.inl ⟨by rfl, ?_⟩) hHeld ?_
       rotate_left
       · (intro W hSW; (try dsimp only at hSW); go_simp; first | done | with_reducible rfl)
       try simp only [Act.put, List.setIfInBounds_toArray, List.set_cons_zero, List.set_cons_succ]
       refine wpAnyH_take (i := 6) (oi := ⟨some 53, _, _, _, _, _⟩) (v := ?_) rfl (by kernel_rfl) (by kernel_rfl) (by kernel_rfl) (fun _ _ _ h => h) (Or.inl ⟨by rfl, ?_⟩) hHeld ?_
       rotate_left
       · (intro W hSW; (try dsimp only at hSW); go_simp; first | done | with_reducible rfl)
       try simp only [Act.put, List.setIfInBounds_toArray, List.set_cons_zero, List.set_cons_succ]
       refine wpAnyH_take (i := 7) (oi := ⟨some 54, _, _, _, _, _⟩) (v := undef) rfl (by kernel_rfl) (by kernel_rfl) (by kernel_rfl) (fun _ _ _ h => h) (Or.inr ⟨by rfl, rfl⟩) hHeld ?_
       try simp only [Act.put, List.setIfInBounds_toArray, List.set_cons_zero, List.set_cons_succ]
       refine wpAnyH_take (i := 8) (oi := ⟨some 55, _, _, _, _, _⟩) (v := undef) rfl (by kernel_rfl) (by kernel_rfl) (by kernel_rfl) (fun _ _ _ h => h) (Or.inr ⟨by rfl, rfl⟩) hHeld ?_
       try simp only [Act.put, List.setIfInBounds_toArray, List.set_cons_zero, List.set_cons_succ]
       refine wpAnyH_take (i := 9) (oi := ⟨some 56, _, _, _, _, _⟩) (v := undef) rfl (by kernel_rfl) (by kernel_rfl) (by kernel_rfl) (fun _ _ _ h => h) (Or.inr ⟨by rfl, rfl⟩) hHeld ?_
       try simp only [Act.put, List.setIfInBounds_toArray, List.set_cons_zero, List.set_cons_succ]
       refine wpAnyH_take (i := 10) (oi := ⟨some 57, _, _, _, _, _⟩) (v := undef) rfl (by kernel_rfl) (by kernel_rfl) (by kernel_rfl) (fun _ _ _ h => h) (Or.inr ⟨by rfl, rfl⟩) hHeld ?_
       try simp only [Act.put, List.setIfInBounds_toArray, List.set_cons_zero, List.set_cons_succ]
       refine wpAnyH_take (i := 11) (oi := ⟨some 58, _, _, _, _, _⟩) (v := undef) rfl (by kernel_rfl) (by kernel_rfl) (by kernel_rfl) (fun _ _ _ h => h) (Or.inr ⟨by rfl, rfl⟩) hHeld ?_
       try simp only [Act.put, List.setIfInBounds_toArray, List.set_cons_zero, List.set_cons_succ]
       refine wpAnyH_take (i := 12) (oi := ⟨some 59, _, _, _, _, _⟩) (v := undef) rfl (by kernel_rfl) (by kernel_rfl) (by kernel_rfl) (fun _ _ _ h => h) (Or.inr ⟨by rfl, rfl⟩) hHeld ?_
       try simp only [Act.put, List.setIfInBounds_toArray, List.set_cons_zero, List.set_cons_succ]
       refine wpAnyH_take (i := 13) (oi := ⟨some 60, _, _, _, _, _⟩) (v := undef) rfl (by kernel_rfl) (by kernel_rfl) (by kernel_rfl) (fun _ _ _ h => h) (Or.inr ⟨by rfl, rfl⟩) hHeld ?_
       try simp only [Act.put, List.setIfInBounds_toArray, List.set_cons_zero, List.set_cons_succ]
       refine wpAnyH_take (i := 14) (oi := ⟨some 61, _, _, _, _, _⟩) (v := undef) rfl (by kernel_rfl) (by kernel_rfl) (by kernel_rfl) (fun _ _ _ h => h) (Or.inr ⟨by rfl, rfl⟩) hHeld ?_
       try simp only [Act.put, List.setIfInBounds_toArray, List.set_cons_zero, List.set_cons_succ]
       refine wpAnyH_take (i := 15) (oi := ⟨some 62, _, _, _, _, _⟩) (v := undef) rfl (by kernel_rfl) (by kernel_rfl) (by kernel_rfl) (fun _ _ _ h => h) (Or.inr ⟨by rfl, rfl⟩) hHeld ?_
       try simp only [Act.put, List.setIfInBounds_toArray, List.set_cons_zero, List.set_cons_succ]
       refine wpAnyH_take (i := 16) (oi := ⟨some 63, _, _, _, _, _⟩) (v := ?_) rfl (by kernel_rfl) (by kernel_rfl) (by kernel_rfl) (fun _ _ _ h => h) (Or.inl ⟨by rfl, ?_⟩) hHeld ?_
       rotate_left
       · (intro W hSW; (try dsimp only at hSW); go_simp; first | done | with_reducible rfl)
       try simp only [Act.put, List.setIfInBounds_toArray, List.set_cons_zero, List.set_cons_succ]
       refine wpAnyH_take (i := 17) (oi := ⟨some 46, _, _, _, _, _⟩) (v := ?_) rfl (by kernel_rfl) (by kernel_rfl) (by kernel_rfl) (fun _ _ _ h => h) (Or.inl ⟨by rfl, ?_⟩) hHeld ?_
       rotate_left
       · (intro W hSW; (try dsimp only at hSW); go_simp; first | done | with_reducible rfl)
       try simp only [Act.put, List.setIfInBounds_toArray, List.set_cons_zero, List.set_cons_succ]
       refine wpAnyH_done (by kernel_rfl) ?_ _
       clear hHeld
       obtain ⟨w5, hwn⟩ : ∃ W, W = wb := ⟨_, rfl⟩
       rw [← hwn]
       have hb : Below w4.heap.size w4 w5 := by rw [hwn]; exact HBB.out
       have F5 := Lib.hid (F4.out.below hb)
       have HI5 := HI4
       have hr0 := HRL.out
       have hl0e := hl_e.out
       have hl0 := F4.out.lt
       have hs0e := (Array.getElem?_eq_some_iff.1 T_e.out).1
       have K_e : Hid (n_e.kids.length ≤ c_e ∧ SIn w5 (fun b => (w.heap.size < b) ∧ b ≠ w1.heap.size) n_e.kids A_e) := Lib.hid (And.intro K_e.out.1 (SIn.fr K_e.out.2 (PFr.of_below (R := p.R) hb) (fun hh => HNB.out hh.1)))
       have T_e := Lib.hid ((PFr.of_below (R := p.R) hb).kept (N := w1.heap.size) (by omega) T_e.out)
       clear hr0 hl0 hs0e hl0e
       clear hb hwn
       obtain ⟨qe0, qe1, qe2, qe3, qe4, qe5⟩ := six_cells T_e.out
       have qel := (Array.getElem?_eq_some_iff.1 T_e.out).1
       have hrr := (Option.some.inj HR.out).symm
       subst hrr
       obtain ⟨z0, z1, z2, z3, z4, z5, hres⟩ := F5.out.res
       obtain ⟨y0, y1, y2, y3, y4, y5⟩ := six_cells hres
       have yl := (Array.getElem?_eq_some_iff.1 hres).1
       have x0 := frozen_of_row _ (w.heap.size) 0 _ _ hres
       have x1 := frozen_of_row _ (w.heap.size) 1 _ _ hres
       have x2 := frozen_of_row _ (w.heap.size) 2 _ _ hres
       have x3 := frozen_of_row _ (w.heap.size) 3 _ _ hres
       have x4 := frozen_of_row _ (w.heap.size) 4 _ _ hres
       have x5 := frozen_of_row _ (w.heap.size) 5 _ _ hres
       have HRES := Lib.hid hres
       clear hres
       go_wp2_with fail
       have h1 := HI5.out
       exact ret_cell1A (p := 2) rfl _ rfl _ (load_nd (six_heap HRES.out)) (F5.out.doneN (s := s) (n := n_e) (K_e.out.2.wide (fun _ _ hk => hk.1)) K_e.out.1 (by omega) (by omega))
      | true =>
       obtain ⟨b3, hc3⟩ : ∃ b, (st.o == st.h) = b := ⟨_, rfl⟩
       have hz3 : (((st.o : Nat) : Int) == (st.h : Int)) = b3 := by rw [← hc3, Bool.eq_iff_iff, beq_iff_eq, beq_iff_eq]; omega
       have hz4 : (((st.o : Nat) : Int) != (st.h : Int)) = !b3 := by rw [← hz3]; rfl
       cases b3 with
       | true =>
        simp only [hc1, hc2, hc3, Bool.true_and, Bool.not_true, Bool.false_eq_true, if_false] at hr
        have HR := Lib.hid hr
        clear hr hc1 hc2 hc3
        have HKS : Hid (∀ W, PFr p.R w4 W → PSt p W st → (fun w' => w'.cell? ⟨w1.heap.size, 0, none⟩ = some (.int .i64 n_e.kind) ∧ w'.cell? ⟨w1.heap.size, 1, none⟩ = some (.int .i64 n_e.fro) ∧ w'.cell? ⟨w1.heap.size, 2, none⟩ = some (.int .i64 n_e.till) ∧ w'.cell? ⟨w1.heap.size, 3, none⟩ = some (.int .i64 n_e.at') ∧ w'.cell? ⟨w1.heap.size, 4, none⟩ = some (.string n_e.name) ∧ w'.cell? ⟨w1.heap.size, 5, none⟩ = some (.slice A_e n_e.kids.length c_e) ∧ w'.cell? ⟨p.R, 2, none⟩ = some (.int .i64 (st.o : Int)) ∧ w'.cell? ⟨p.R, 3, none⟩ = some (.int .i64 (st.h : Int))) W) := Lib.hid (fun W hf hs => by
         obtain ⟨qe0, qe1, qe2, qe3, qe4, qe5⟩ := six_cells (hf.kept (N := w1.heap.size) (by have h1 := hl_e.out; have h2 := HRL.out; omega) T_e.out)
         exact ⟨qe0, qe1, qe2, qe3, qe4, qe5, hs.cells.2.2.1, hs.cells.2.2.2⟩)
        have HS0 := Lib.hid (HKS.out w4 (PFr.refl _ _) F4.out.st)
        have HST : Hid (∀ W, PSt p W st → Calls Tryz.prog 65 #[.pointer (some ⟨p.R, 0, none⟩), .string (txt mLBrace)] W fun e w' => e = .returned (.bool true) ∧ Below W.heap.size W w') := Lib.hid (fun W hW => (pstands_any p mLBrace st W hW).mono (fun e w' h => by rw [HC1.out] at h; exact h))
        go_wp2_with fail
        refine wp_region_held_drew (S := (fun w' => w'.cell? ⟨w1.heap.size, 0, none⟩ = some (.int .i64 n_e.kind) ∧ w'.cell? ⟨w1.heap.size, 1, none⟩ = some (.int .i64 n_e.fro) ∧ w'.cell? ⟨w1.heap.size, 2, none⟩ = some (.int .i64 n_e.till) ∧ w'.cell? ⟨w1.heap.size, 3, none⟩ = some (.int .i64 n_e.at') ∧ w'.cell? ⟨w1.heap.size, 4, none⟩ = some (.string n_e.name) ∧ w'.cell? ⟨w1.heap.size, 5, none⟩ = some (.slice A_e n_e.kids.length c_e) ∧ w'.cell? ⟨p.R, 2, none⟩ = some (.int .i64 (st.o : Int)) ∧ w'.cell? ⟨p.R, 3, none⟩ = some (.int .i64 (st.h : Int)))) (by kernel_rfl) HS0.out (fun hHeld => ?_)
        refine wpAnyH_take (i := 0) (oi := ⟨some 47, _, _, _, _, _⟩) (v := ?_) rfl (by kernel_rfl) (by kernel_rfl) (by kernel_rfl) (fun _ _ _ h => h) (Or.inl ⟨by rfl, ?_⟩) hHeld ?_
        rotate_left
        · (intro W hSW; (try dsimp only at hSW); go_simp; first | done | with_reducible rfl)
        try simp only [Act.put, List.setIfInBounds_toArray, List.set_cons_zero, List.set_cons_succ]
        refine wpAnyH_ready (rs := [1]) (by kernel_rfl) (by simp) ?_
        refine AllReadyH.cons (o := ⟨some 48, _, _, _, _, _⟩) rfl (fun K hK => ?_) AllReadyH.nil
        go_simp
        refine (HST.out _ F4.out.st.drew).mono ?_
        rintro ee wa ⟨rfl, kq⟩
        have HBA := Lib.hid (drew_below kq)
        have HSA := Lib.hid (HKS.out wa (PFr.of_below HBA.out) (F4.out.st.below HBA.out))
        refine hK.out _ _ HSA.out (fun hHeld2 => ?_)
        clear hK K hHeld kq
        have hHeld := hHeld2
        clear hHeld2
        try simp only [Act.put, List.setIfInBounds_toArray, List.set_cons_zero, List.set_cons_succ]
        refine wpAnyH_take (i := 2) (oi := ⟨some 49, _, _, _, _, _⟩) (v := ?_) rfl (by kernel_rfl) (by kernel_rfl) (by kernel_rfl) (fun _ _ _ h => h) (Or.inl ⟨by rfl, ?_⟩) hHeld ?_
        rotate_left
        · (intro W hSW; (try dsimp only at hSW); go_simp; first | done | with_reducible rfl)
        try simp only [Act.put, List.setIfInBounds_toArray, List.set_cons_zero, List.set_cons_succ]
        refine wpAnyH_take (i := 3) (oi := ⟨some 50, _, _, _, _, _⟩) (v := ?_) rfl (by kernel_rfl) (by kernel_rfl) (by kernel_rfl) (fun _ _ _ h => h) (Or.inl ⟨by rfl, ?_⟩) hHeld ?_
        rotate_left
        · (intro W hSW; (try dsimp only at hSW); go_simp; first | done | with_reducible rfl)
        try simp only [Act.put, List.setIfInBounds_toArray, List.set_cons_zero, List.set_cons_succ]
        refine wpAnyH_ready (rs := [4]) (by kernel_rfl) (by simp) ?_
        refine AllReadyH.cons (o := ⟨some 51, _, _, _, _, _⟩) rfl (fun K hK => ?_) AllReadyH.nil
        go_simp
        refine (pisTypes_any n_e HSG.out A_e c_e _ wa (K_e.out.2.below HBA.out)).mono ?_
        rintro ee wb ⟨rfl, kq⟩
        have HBB := Lib.hid (HBA.out.trans (kq.mono HBA.out.size))
        have HSB := Lib.hid (HKS.out wb (PFr.of_below HBB.out) (F4.out.st.below HBB.out))
        refine hK.out _ _ HSB.out (fun hHeld2 => ?_)
        rw [HC2.out]
        clear hK K hHeld kq
        have hHeld := hHeld2
        clear hHeld2
        try simp only [Act.put, List.setIfInBounds_toArray, List.set_cons_zero, List.set_cons_succ]
        refine wpAnyH_take (i := 5) (oi := ⟨some 52, _, _, _, _, _⟩) (v := ?_) rfl (by kernel_rfl) (by kernel_rfl) (by kernel_rfl) (fun _ _ _ h => h) (Or.inl ⟨by rfl, ?_⟩) hHeld ?_
        rotate_left
        · (intro W hSW; (try dsimp only at hSW); go_simp; first | done | with_reducible rfl)
        try simp only [Act.put, List.setIfInBounds_toArray, List.set_cons_zero, List.set_cons_succ]
        refine wpAnyH_take (i := 6) (oi := ⟨some 53, _, _, _, _, _⟩) (v := ?_) rfl (by kernel_rfl) (by kernel_rfl) (by kernel_rfl) (fun _ _ _ h => h) (Or.inl ⟨by rfl, ?_⟩) hHeld ?_
        rotate_left
        · (intro W hSW; (try dsimp only at hSW); go_simp; first | done | with_reducible rfl)
        try simp only [Act.put, List.setIfInBounds_toArray, List.set_cons_zero, List.set_cons_succ]
        refine wpAnyH_take (i := 7) (oi := ⟨some 54, _, _, _, _, _⟩) (v := ?_) rfl (by kernel_rfl) (by kernel_rfl) (by kernel_rfl) (fun _ _ _ h => h) (Or.inl ⟨by rfl, ?_⟩) hHeld ?_
        rotate_left
        · (intro W hSW; (try dsimp only at hSW); go_simp; first | done | with_reducible rfl)
        try simp only [Act.put, List.setIfInBounds_toArray, List.set_cons_zero, List.set_cons_succ]
        refine wpAnyH_take (i := 8) (oi := ⟨some 55, _, _, _, _, _⟩) (v := ?_) rfl (by kernel_rfl) (by kernel_rfl) (by kernel_rfl) (fun _ _ _ h => h) (Or.inl ⟨by rfl, ?_⟩) hHeld ?_
        rotate_left
        · (intro W hSW; (try dsimp only at hSW); go_simp; first | done | with_reducible rfl)
        try simp only [Act.put, List.setIfInBounds_toArray, List.set_cons_zero, List.set_cons_succ]
        refine wpAnyH_take (i := 9) (oi := ⟨some 56, _, _, _, _, _⟩) (v := ?_) rfl (by kernel_rfl) (by kernel_rfl) (by kernel_rfl) (fun _ _ _ h => h) (Or.inl ⟨by rfl, ?_⟩) hHeld ?_
        rotate_left
        · (intro W hSW; (try dsimp only at hSW); go_simp; first | done | with_reducible rfl)
        try simp only [Act.put, List.setIfInBounds_toArray, List.set_cons_zero, List.set_cons_succ]
        refine wpAnyH_take (i := 10) (oi := ⟨some 57, _, _, _, _, _⟩) (v := ?_) rfl (by kernel_rfl) (by kernel_rfl) (by kernel_rfl) (fun _ _ _ h => h) (Or.inl ⟨by rfl, ?_⟩) hHeld ?_
        rotate_left
        · (intro W hSW; (try dsimp only at hSW); go_simp; first | done | with_reducible rfl)
        try simp only [Act.put, List.setIfInBounds_toArray, List.set_cons_zero, List.set_cons_succ]
        refine wpAnyH_take (i := 11) (oi := ⟨some 58, _, _, _, _, _⟩) (v := ?_) rfl (by kernel_rfl) (by kernel_rfl) (by kernel_rfl) (fun _ _ _ h => h) (Or.inl ⟨by rfl, ?_⟩) hHeld ?_
        rotate_left
        · (intro W hSW; (try dsimp only at hSW); go_simp; first | done | with_reducible rfl)
        try simp only [Act.put, List.setIfInBounds_toArray, List.set_cons_zero, List.set_cons_succ]
        refine wpAnyH_take (i := 12) (oi := ⟨some 59, _, _, _, _, _⟩) (v := ?_) rfl (by kernel_rfl) (by kernel_rfl) (by kernel_rfl) (fun _ _ _ h => h) (Or.inl ⟨by rfl, ?_⟩) hHeld ?_
        rotate_left
        · (intro W hSW; (try dsimp only at hSW); go_simp; first | done | with_reducible rfl)
        try simp only [Act.put, List.setIfInBounds_toArray, List.set_cons_zero, List.set_cons_succ]
        refine wpAnyH_take (i := 13) (oi := ⟨some 60, _, _, _, _, _⟩) (v := ?_) rfl (by kernel_rfl) (by kernel_rfl) (by kernel_rfl) (fun _ _ _ h => h) (Or.inl ⟨by rfl, ?_⟩) hHeld ?_
        rotate_left
        · (intro W hSW; (try dsimp only at hSW); go_simp; first | done | with_reducible rfl)
        try simp only [Act.put, List.setIfInBounds_toArray, List.set_cons_zero, List.set_cons_succ]
        refine wpAnyH_take (i := 14) (oi := ⟨some 61, _, _, _, _, _⟩) (v := ?_) rfl (by kernel_rfl) (by kernel_rfl) (by kernel_rfl) (fun _ _ _ h => h) (Or.inl ⟨by rfl, ?_⟩) hHeld ?_
        rotate_left
        · (intro W hSW; (try dsimp only at hSW); go_simp; first | done | with_reducible rfl)
        try simp only [Act.put, List.setIfInBounds_toArray, List.set_cons_zero, List.set_cons_succ]
        refine wpAnyH_take (i := 15) (oi := ⟨some 62, _, _, _, _, _⟩) (v := ?_) rfl (by kernel_rfl) (by kernel_rfl) (by kernel_rfl) (fun _ _ _ h => h) (Or.inl ⟨by rfl, ?_⟩) hHeld ?_
        rotate_left
        · (intro W hSW; (try dsimp only at hSW); go_simp; first | done | with_reducible rfl)
        try simp only [Act.put, List.setIfInBounds_toArray, List.set_cons_zero, List.set_cons_succ]
        refine wpAnyH_take (i := 16) (oi := ⟨some 63, _, _, _, _, _⟩) (v := ?_) rfl (by kernel_rfl) (by kernel_rfl) (by kernel_rfl) (fun _ _ _ h => h) (Or.inl ⟨by rfl, ?_⟩) hHeld ?_
        rotate_left
        · (intro W hSW; (try dsimp only at hSW); go_simp; first | done | with_reducible rfl)
        try simp only [Act.put, List.setIfInBounds_toArray, List.set_cons_zero, List.set_cons_succ]
        refine wpAnyH_take (i := 17) (oi := ⟨some 46, _, _, _, _, _⟩) (v := ?_) rfl (by kernel_rfl) (by kernel_rfl) (by kernel_rfl) (fun _ _ _ h => h) (Or.inl ⟨by rfl, ?_⟩) hHeld ?_
        rotate_left
        · (intro W hSW; (try dsimp only at hSW); go_simp; first | done | with_reducible rfl)
        try simp only [Act.put, List.setIfInBounds_toArray, List.set_cons_zero, List.set_cons_succ]
        refine wpAnyH_done (by kernel_rfl) ?_ _
        clear hHeld
        obtain ⟨w5, hwn⟩ : ∃ W, W = wb := ⟨_, rfl⟩
        rw [← hwn]
        have hb : Below w4.heap.size w4 w5 := by rw [hwn]; exact HBB.out
        have F5 := Lib.hid (F4.out.below hb)
        have HI5 := HI4
        have hr0 := HRL.out
        have hl0e := hl_e.out
        have hl0 := F4.out.lt
        have hs0e := (Array.getElem?_eq_some_iff.1 T_e.out).1
        have K_e : Hid (n_e.kids.length ≤ c_e ∧ SIn w5 (fun b => (w.heap.size < b) ∧ b ≠ w1.heap.size) n_e.kids A_e) := Lib.hid (And.intro K_e.out.1 (SIn.fr K_e.out.2 (PFr.of_below (R := p.R) hb) (fun hh => HNB.out hh.1)))
        have T_e := Lib.hid ((PFr.of_below (R := p.R) hb).kept (N := w1.heap.size) (by omega) T_e.out)
        clear hr0 hl0 hs0e hl0e
        clear hb hwn
        obtain ⟨qe0, qe1, qe2, qe3, qe4, qe5⟩ := six_cells T_e.out
        have qel := (Array.getElem?_eq_some_iff.1 T_e.out).1
        have hrr := (Option.some.inj HR.out).symm
        subst hrr
        obtain ⟨z0, z1, z2, z3, z4, z5, hres⟩ := F5.out.res
        obtain ⟨y0, y1, y2, y3, y4, y5⟩ := six_cells hres
        have yl := (Array.getElem?_eq_some_iff.1 hres).1
        have x0 := frozen_of_row _ (w.heap.size) 0 _ _ hres
        have x1 := frozen_of_row _ (w.heap.size) 1 _ _ hres
        have x2 := frozen_of_row _ (w.heap.size) 2 _ _ hres
        have x3 := frozen_of_row _ (w.heap.size) 3 _ _ hres
        have x4 := frozen_of_row _ (w.heap.size) 4 _ _ hres
        have x5 := frozen_of_row _ (w.heap.size) 5 _ _ hres
        have HRES := Lib.hid hres
        clear hres
        go_wp2_with fail
        have h1 := HI5.out
        exact ret_cell1A (p := 2) rfl _ rfl _ (load_nd (six_heap HRES.out)) (F5.out.doneN (s := s) (n := n_e) (K_e.out.2.wide (fun _ _ hk => hk.1)) K_e.out.1 (by omega) (by omega))
       | false =>
        simp only [hc1, hc2, hc3, Bool.true_and, Bool.not_false, if_true] at hr
        have HR := Lib.hid hr
        clear hr hc1 hc2 hc3
        have HKS : Hid (∀ W, PFr p.R w4 W → PSt p W st → (fun w' => w'.cell? ⟨w1.heap.size, 0, none⟩ = some (.int .i64 n_e.kind) ∧ w'.cell? ⟨w1.heap.size, 1, none⟩ = some (.int .i64 n_e.fro) ∧ w'.cell? ⟨w1.heap.size, 2, none⟩ = some (.int .i64 n_e.till) ∧ w'.cell? ⟨w1.heap.size, 3, none⟩ = some (.int .i64 n_e.at') ∧ w'.cell? ⟨w1.heap.size, 4, none⟩ = some (.string n_e.name) ∧ w'.cell? ⟨w1.heap.size, 5, none⟩ = some (.slice A_e n_e.kids.length c_e) ∧ w'.cell? ⟨p.R, 2, none⟩ = some (.int .i64 (st.o : Int)) ∧ w'.cell? ⟨p.R, 3, none⟩ = some (.int .i64 (st.h : Int))) W) := Lib.hid (fun W hf hs => by
         obtain ⟨qe0, qe1, qe2, qe3, qe4, qe5⟩ := six_cells (hf.kept (N := w1.heap.size) (by have h1 := hl_e.out; have h2 := HRL.out; omega) T_e.out)
         exact ⟨qe0, qe1, qe2, qe3, qe4, qe5, hs.cells.2.2.1, hs.cells.2.2.2⟩)
        have HS0 := Lib.hid (HKS.out w4 (PFr.refl _ _) F4.out.st)
        have HST : Hid (∀ W, PSt p W st → Calls Tryz.prog 65 #[.pointer (some ⟨p.R, 0, none⟩), .string (txt mLBrace)] W fun e w' => e = .returned (.bool true) ∧ Below W.heap.size W w') := Lib.hid (fun W hW => (pstands_any p mLBrace st W hW).mono (fun e w' h => by rw [HC1.out] at h; exact h))
        go_wp2_with fail
        refine wp_region_held_drew (S := (fun w' => w'.cell? ⟨w1.heap.size, 0, none⟩ = some (.int .i64 n_e.kind) ∧ w'.cell? ⟨w1.heap.size, 1, none⟩ = some (.int .i64 n_e.fro) ∧ w'.cell? ⟨w1.heap.size, 2, none⟩ = some (.int .i64 n_e.till) ∧ w'.cell? ⟨w1.heap.size, 3, none⟩ = some (.int .i64 n_e.at') ∧ w'.cell? ⟨w1.heap.size, 4, none⟩ = some (.string n_e.name) ∧ w'.cell? ⟨w1.heap.size, 5, none⟩ = some (.slice A_e n_e.kids.length c_e) ∧ w'.cell? ⟨p.R, 2, none⟩ = some (.int .i64 (st.o : Int)) ∧ w'.cell? ⟨p.R, 3, none⟩ = some (.int .i64 (st.h : Int)))) (by kernel_rfl) HS0.out (fun hHeld => ?_)
        refine wpAnyH_take (i := 0) (oi := ⟨some 47, _, _, _, _, _⟩) (v := ?_) rfl (by kernel_rfl) (by kernel_rfl) (by kernel_rfl) (fun _ _ _ h => h) (Or.inl ⟨by rfl, ?_⟩) hHeld ?_
        rotate_left
        · (intro W hSW; (try dsimp only at hSW); go_simp; first | done | with_reducible rfl)
        try simp only [Act.put, List.setIfInBounds_toArray, List.set_cons_zero, List.set_cons_succ]
        refine wpAnyH_ready (rs := [1]) (by kernel_rfl) (by simp) ?_
        refine AllReadyH.cons (o := ⟨some 48, _, _, _, _, _⟩) rfl (fun K hK => ?_) AllReadyH.nil
        go_simp
        refine (HST.out _ F4.out.st.drew).mono ?_
        rintro ee wa ⟨rfl, kq⟩
        have HBA := Lib.hid (drew_below kq)
        have HSA := Lib.hid (HKS.out wa (PFr.of_below HBA.out) (F4.out.st.below HBA.out))
        refine hK.out _ _ HSA.out (fun hHeld2 => ?_)
        clear hK K hHeld kq
        have hHeld := hHeld2
        clear hHeld2
        try simp only [Act.put, List.setIfInBounds_toArray, List.set_cons_zero, List.set_cons_succ]
        refine wpAnyH_take (i := 2) (oi := ⟨some 49, _, _, _, _, _⟩) (v := ?_) rfl (by kernel_rfl) (by kernel_rfl) (by kernel_rfl) (fun _ _ _ h => h) (Or.inl ⟨by rfl, ?_⟩) hHeld ?_
        rotate_left
        · (intro W hSW; (try dsimp only at hSW); go_simp; first | done | with_reducible rfl)
        try simp only [Act.put, List.setIfInBounds_toArray, List.set_cons_zero, List.set_cons_succ]
        refine wpAnyH_take (i := 3) (oi := ⟨some 50, _, _, _, _, _⟩) (v := ?_) rfl (by kernel_rfl) (by kernel_rfl) (by kernel_rfl) (fun _ _ _ h => h) (Or.inl ⟨by rfl, ?_⟩) hHeld ?_
        rotate_left
        · (intro W hSW; (try dsimp only at hSW); go_simp; first | done | with_reducible rfl)
        try simp only [Act.put, List.setIfInBounds_toArray, List.set_cons_zero, List.set_cons_succ]
        refine wpAnyH_ready (rs := [4]) (by kernel_rfl) (by simp) ?_
        refine AllReadyH.cons (o := ⟨some 51, _, _, _, _, _⟩) rfl (fun K hK => ?_) AllReadyH.nil
        go_simp
        refine (pisTypes_any n_e HSG.out A_e c_e _ wa (K_e.out.2.below HBA.out)).mono ?_
        rintro ee wb ⟨rfl, kq⟩
        have HBB := Lib.hid (HBA.out.trans (kq.mono HBA.out.size))
        have HSB := Lib.hid (HKS.out wb (PFr.of_below HBB.out) (F4.out.st.below HBB.out))
        refine hK.out _ _ HSB.out (fun hHeld2 => ?_)
        rw [HC2.out]
        clear hK K hHeld kq
        have hHeld := hHeld2
        clear hHeld2
        try simp only [Act.put, List.setIfInBounds_toArray, List.set_cons_zero, List.set_cons_succ]
        refine wpAnyH_take (i := 5) (oi := ⟨some 52, _, _, _, _, _⟩) (v := ?_) rfl (by kernel_rfl) (by kernel_rfl) (by kernel_rfl) (fun _ _ _ h => h) (Or.inl ⟨by rfl, ?_⟩) hHeld ?_
        rotate_left
        · (intro W hSW; (try dsimp only at hSW); go_simp; first | done | with_reducible rfl)
        try simp only [Act.put, List.setIfInBounds_toArray, List.set_cons_zero, List.set_cons_succ]
        refine wpAnyH_take (i := 6) (oi := ⟨some 53, _, _, _, _, _⟩) (v := ?_) rfl (by kernel_rfl) (by kernel_rfl) (by kernel_rfl) (fun _ _ _ h => h) (Or.inl ⟨by rfl, ?_⟩) hHeld ?_
        rotate_left
        · (intro W hSW; (try dsimp only at hSW); go_simp; first | done | with_reducible rfl)
        try simp only [Act.put, List.setIfInBounds_toArray, List.set_cons_zero, List.set_cons_succ]
        refine wpAnyH_take (i := 7) (oi := ⟨some 54, _, _, _, _, _⟩) (v := ?_) rfl (by kernel_rfl) (by kernel_rfl) (by kernel_rfl) (fun _ _ _ h => h) (Or.inl ⟨by rfl, ?_⟩) hHeld ?_
        rotate_left
        · (intro W hSW; (try dsimp only at hSW); go_simp; first | done | with_reducible rfl)
        try simp only [Act.put, List.setIfInBounds_toArray, List.set_cons_zero, List.set_cons_succ]
        refine wpAnyH_take (i := 8) (oi := ⟨some 55, _, _, _, _, _⟩) (v := ?_) rfl (by kernel_rfl) (by kernel_rfl) (by kernel_rfl) (fun _ _ _ h => h) (Or.inl ⟨by rfl, ?_⟩) hHeld ?_
        rotate_left
        · (intro W hSW; (try dsimp only at hSW); go_simp; first | done | with_reducible rfl)
        try simp only [Act.put, List.setIfInBounds_toArray, List.set_cons_zero, List.set_cons_succ]
        refine wpAnyH_take (i := 9) (oi := ⟨some 56, _, _, _, _, _⟩) (v := ?_) rfl (by kernel_rfl) (by kernel_rfl) (by kernel_rfl) (fun _ _ _ h => h) (Or.inl ⟨by rfl, ?_⟩) hHeld ?_
        rotate_left
        · (intro W hSW; (try dsimp only at hSW); go_simp; first | done | with_reducible rfl)
        try simp only [Act.put, List.setIfInBounds_toArray, List.set_cons_zero, List.set_cons_succ]
        refine wpAnyH_take (i := 10) (oi := ⟨some 57, _, _, _, _, _⟩) (v := ?_) rfl (by kernel_rfl) (by kernel_rfl) (by kernel_rfl) (fun _ _ _ h => h) (Or.inl ⟨by rfl, ?_⟩) hHeld ?_
        rotate_left
        · (intro W hSW; (try dsimp only at hSW); go_simp; first | done | with_reducible rfl)
        try simp only [Act.put, List.setIfInBounds_toArray, List.set_cons_zero, List.set_cons_succ]
        refine wpAnyH_take (i := 11) (oi := ⟨some 58, _, _, _, _, _⟩) (v := ?_) rfl (by kernel_rfl) (by kernel_rfl) (by kernel_rfl) (fun _ _ _ h => h) (Or.inl ⟨by rfl, ?_⟩) hHeld ?_
        rotate_left
        · (intro W hSW; (try dsimp only at hSW); go_simp; first | done | with_reducible rfl)
        try simp only [Act.put, List.setIfInBounds_toArray, List.set_cons_zero, List.set_cons_succ]
        refine wpAnyH_take (i := 12) (oi := ⟨some 59, _, _, _, _, _⟩) (v := ?_) rfl (by kernel_rfl) (by kernel_rfl) (by kernel_rfl) (fun _ _ _ h => h) (Or.inl ⟨by rfl, ?_⟩) hHeld ?_
        rotate_left
        · (intro W hSW; (try dsimp only at hSW); go_simp; first | done | with_reducible rfl)
        try simp only [Act.put, List.setIfInBounds_toArray, List.set_cons_zero, List.set_cons_succ]
        refine wpAnyH_take (i := 13) (oi := ⟨some 60, _, _, _, _, _⟩) (v := ?_) rfl (by kernel_rfl) (by kernel_rfl) (by kernel_rfl) (fun _ _ _ h => h) (Or.inl ⟨by rfl, ?_⟩) hHeld ?_
        rotate_left
        · (intro W hSW; (try dsimp only at hSW); go_simp; first | done | with_reducible rfl)
        try simp only [Act.put, List.setIfInBounds_toArray, List.set_cons_zero, List.set_cons_succ]
        refine wpAnyH_take (i := 14) (oi := ⟨some 61, _, _, _, _, _⟩) (v := ?_) rfl (by kernel_rfl) (by kernel_rfl) (by kernel_rfl) (fun _ _ _ h => h) (Or.inl ⟨by rfl, ?_⟩) hHeld ?_
        rotate_left
        · (intro W hSW; (try dsimp only at hSW); go_simp; first | done | with_reducible rfl)
        try simp only [Act.put, List.setIfInBounds_toArray, List.set_cons_zero, List.set_cons_succ]
        refine wpAnyH_take (i := 15) (oi := ⟨some 62, _, _, _, _, _⟩) (v := ?_) rfl (by kernel_rfl) (by kernel_rfl) (by kernel_rfl) (fun _ _ _ h => h) (Or.inl ⟨by rfl, ?_⟩) hHeld ?_
        rotate_left
        · (intro W hSW; (try dsimp only at hSW); go_simp; first | done | with_reducible rfl)
        try simp only [Act.put, List.setIfInBounds_toArray, List.set_cons_zero, List.set_cons_succ]
        refine wpAnyH_take (i := 16) (oi := ⟨some 63, _, _, _, _, _⟩) (v := ?_) rfl (by kernel_rfl) (by kernel_rfl) (by kernel_rfl) (fun _ _ _ h => h) (Or.inl ⟨by rfl, ?_⟩) hHeld ?_
        rotate_left
        · (intro W hSW; (try dsimp only at hSW); go_simp; first | done | with_reducible rfl)
        try simp only [Act.put, List.setIfInBounds_toArray, List.set_cons_zero, List.set_cons_succ]
        refine wpAnyH_take (i := 17) (oi := ⟨some 46, _, _, _, _, _⟩) (v := ?_) rfl (by kernel_rfl) (by kernel_rfl) (by kernel_rfl) (fun _ _ _ h => h) (Or.inl ⟨by rfl, ?_⟩) hHeld ?_
        rotate_left
        · (intro W hSW; (try dsimp only at hSW); go_simp; first | done | with_reducible rfl)
        try simp only [Act.put, List.setIfInBounds_toArray, List.set_cons_zero, List.set_cons_succ]
        refine wpAnyH_done (by kernel_rfl) ?_ _
        clear hHeld
        obtain ⟨w5, hwn⟩ : ∃ W, W = wb := ⟨_, rfl⟩
        rw [← hwn]
        have hb : Below w4.heap.size w4 w5 := by rw [hwn]; exact HBB.out
        have F5 := Lib.hid (F4.out.below hb)
        have HI5 := HI4
        have hr0 := HRL.out
        have hl0e := hl_e.out
        have hl0 := F4.out.lt
        have hs0e := (Array.getElem?_eq_some_iff.1 T_e.out).1
        have K_e : Hid (n_e.kids.length ≤ c_e ∧ SIn w5 (fun b => (w.heap.size < b) ∧ b ≠ w1.heap.size) n_e.kids A_e) := Lib.hid (And.intro K_e.out.1 (SIn.fr K_e.out.2 (PFr.of_below (R := p.R) hb) (fun hh => HNB.out hh.1)))
        have T_e := Lib.hid ((PFr.of_below (R := p.R) hb).kept (N := w1.heap.size) (by omega) T_e.out)
        clear hr0 hl0 hs0e hl0e
        clear hb hwn
        obtain ⟨qe0, qe1, qe2, qe3, qe4, qe5⟩ := six_cells T_e.out
        have qel := (Array.getElem?_eq_some_iff.1 T_e.out).1
        go_wp2_with fail
        clear qe0 qe1 qe2 qe3 qe4 qe5 qel
        obtain ⟨r2, hx, hr⟩ := bind_pf HR.out
        have HR := Lib.hid hr
        clear hr
        have HX9 := Lib.hid hx
        refine (HLI.out (fun b => (w.heap.size < b) ∧ b ≠ w1.heap.size) n_e A_e c_e st _ F5.out.st (by have h1 := HI5.out; omega) K_e.out.1 K_e.out.2 (fun b hb => ⟨(Nat.lt_of_lt_of_le (F5.out).lt hb), Nat.ne_of_gt (Nat.lt_of_lt_of_le (Array.getElem?_eq_some_iff.1 T_e.out).1 hb)⟩) (fun hh => HNB.out hh.1) r2 hx).mono ?_
        clear hx
        intro ee w6 he
        cases r2 with
        | bad kk xx =>
         obtain ⟨rfl, hf⟩ := he
         have hrr : r = .bad kk xx := HR.out
         subst hrr
         have HE := Lib.hid ((F5.out).fr.trans hf)
         clear hf
         go_wp2_with fail
         exact ⟨rfl, rfl, HE.out⟩
        | ok n_y s6 =>
         obtain ⟨⟨v, rfl, hn⟩, hs, hf, hi, ho⟩ := he
         obtain ⟨A_y, c_y, rfl, hc, hk⟩ := hn.open
         have F6 := Lib.hid (F5.out.step hf hs)
         have HI6 : Hid (1 ≤ s6.i ∧ s.i < s6.i ∧ s6.o = s.o + 0) := Lib.hid (by have h1 := HI5.out; omega)
         have KY : Hid (n_y.kids.length ≤ c_y ∧ SIn w6 (fun b => (w.heap.size < b) ∧ b ≠ w1.heap.size) n_y.kids A_y) := Lib.hid ⟨hc, hk⟩
         have hr0 := HRL.out
         have hl0e := hl_e.out
         have hl0 := F5.out.lt
         have hs0e := (Array.getElem?_eq_some_iff.1 T_e.out).1
         have K_e : Hid (n_e.kids.length ≤ c_e ∧ SIn w6 (fun b => (w.heap.size < b) ∧ b ≠ w1.heap.size) n_e.kids A_e) := Lib.hid (And.intro K_e.out.1 (SIn.fr K_e.out.2 hf (fun hh => HNB.out hh.1)))
         have T_e := Lib.hid (hf.kept (N := w1.heap.size) (by omega) T_e.out)
         clear hr0 hl0 hs0e hl0e
         clear hn hc hk hs hf hi ho
         have K_e := KY
         have HSEL : Hid (SelG (n_y)) := Lib.hid (.other _ (lit_kind HX9.out))
         obtain ⟨qe0, qe1, qe2, qe3, qe4, qe5⟩ := six_cells T_e.out
         have qel := (Array.getElem?_eq_some_iff.1 T_e.out).1
         have fe0 := frozen_of_row _ (w1.heap.size) 0 _ _ T_e.out
         have fe1 := frozen_of_row _ (w1.heap.size) 1 _ _ T_e.out
         have fe2 := frozen_of_row _ (w1.heap.size) 2 _ _ T_e.out
         have fe3 := frozen_of_row _ (w1.heap.size) 3 _ _ T_e.out
         have fe4 := frozen_of_row _ (w1.heap.size) 4 _ _ T_e.out
         have fe5 := frozen_of_row _ (w1.heap.size) 5 _ _ T_e.out
         go_wp2_with fail
         clear qe0 qe1 qe2 qe3 qe4 qe5 qel fe0 fe1 fe2 fe3 fe4 fe5
         go_roundg gf
         case measure => omega
         case rel => exact ⟨n_y, A_y, c_y, s6, HR, Lib.hid (F6.out.set6 (N := w1.heap.size) hl_e.out _ _ _ _ _ _), Lib.hid (six_heap T_e.out), Lib.hid ⟨K_e.out.1, (SIn.keep (Q := (fun b => (w.heap.size < b) ∧ b ≠ w1.heap.size)) (fun k hk _ => six_otherP (R := w1.heap.size) hk.2 ..) (fun _ hk _ => hk) K_e.out.2)⟩, HI6, HSEL⟩
end Go.Proofs.YtmlclgkhnekmnaaGreatDoor
