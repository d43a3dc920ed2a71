/- The parser's stmt. (Written by a program.) The parser's loop. (Written by a program.) -/
import Derived.Test.YtmlclgkhnekmnaaGreatDoorPW1
import Derived.Test.YtmlclgkhnekmnaaGreatDoorPFl
import Derived.Test.YtmlclgkhnekmnaaGreatDoorPNames
namespace Go.Proofs.YtmlclgkhnekmnaaGreatDoor
open Go.RowKit
set_option maxRecDepth 100000 in
set_option maxHeartbeats 4000000 in
theorem pstmt_any (p : PC) (ex st co : Rd) (f : Nat) (hB : RdC p 119 #[.pointer (some ⟨p.R, 0, none⟩)] (blockP p.ts st f)) (hCo : RdC p 162 #[.pointer (some ⟨p.R, 0, none⟩)] co) (hL : RdC p 163 #[.pointer (some ⟨p.R, 0, none⟩)] (loopP p.ts ex st f)) (hV : RdC p 164 #[.pointer (some ⟨p.R, 0, none⟩)] (variableP p.ts ex)) (hRt : RdC p 165 #[.pointer (some ⟨p.R, 0, none⟩)] (returnedP p.ts ex)) (hLb : RdC p 168 #[.pointer (some ⟨p.R, 0, none⟩)] (labelledP p.ts ex st f)) (hD : RdC p 169 #[.pointer (some ⟨p.R, 0, none⟩)] (defineP p.ts ex)) (hCh : RdC p 171 #[.pointer (some ⟨p.R, 0, none⟩)] (chainP p.ts ex f)) (hSM : SimC p ex) (hG : ∀ s n s2, chainP p.ts ex f s = some (.ok n s2) → SelG n) : RdC p 147 #[.pointer (some ⟨p.R, 0, none⟩)] (stmtP p.ts ex st co f) := by
 intro s w hs hi r hr
 unfold stmtP at hr
 have HR := Lib.hid hr
 have HI0 : Hid (1 ≤ s.i ∧ s.i ≤ s.i ∧ s.o = s.o) := Lib.hid ⟨hi, Nat.le_refl _, rfl⟩
 have HB := Lib.hid hB
 have HCO := Lib.hid hCo
 have HL := Lib.hid hL
 have HV := Lib.hid hV
 have HRT := Lib.hid hRt
 have HLB := Lib.hid hLb
 have HD := Lib.hid hD
 have HCH := Lib.hid hCh
 have HSM := Lib.hid hSM
 have HG := Lib.hid hG
 have tf0 := tk_f0
 have tf1 := tk_f1
 have tf2 := tk_f2
 have HRL := Lib.hid (And.intro hs.rlt hs.glt)
 have FS := Lib.hid (Fm.start hs (.int .i64 0) (.int .i64 0) (.int .i64 0) (.int .i64 0) (.string ⟨#[]⟩) (.slice none 0 0))
 obtain ⟨w0, hw0⟩ : ∃ W, W = w.alloc (.cells #[.int .i64 0, .int .i64 0, .int .i64 0, .int .i64 0, .string ⟨#[]⟩, .slice none 0 0] 24) := ⟨_, rfl⟩
 have F0 : Hid (Fm p w w0 s) := Lib.hid (by rw [hw0]; exact FS.out)
 have HW0 := Lib.hid hw0
 clear hs hi hr hw0 FS hB hCo hL hV hRt hLb hD hCh hSM hG
 go_enter Tryz.func147, Tryz.ntmps147
 go_wp2_with fail
 rw [← HW0.out]
 refine (ptoken_any p s _ (F0.out).st).mono ?_
 rintro ee w1 ⟨rfl, hb⟩
 have F1 := Lib.hid ((F0.out).below hb)
 have HI1 := HI0
 have hr0 := HRL.out
 have hl0 := F0.out.lt
 clear hr0 hl0
 clear hb
 obtain ⟨b, hc⟩ : ∃ b, atB p.ts s mLBrace = b := ⟨_, rfl⟩
 have hq1 : ((txt (tk p.ts s).2.1).toList == [123]) = b := by rw [← hc]; exact tx_at p.ts s mLBrace
 have hr := HR.out
 cases b with
 | true =>
  simp only [hc, if_true] at hr
  have HR := Lib.hid hr
  have HC1 := Lib.hid hc
  clear hr hc
  go_wp2_with fail
  refine (HB.out s _ (F1.out).st (by have h1 := HI1.out; omega) r HR.out).mono ?_
  intro ee w2 he
  cases r with
  | bad kk xx =>
   obtain ⟨rfl, hf⟩ := he
   have HE := Lib.hid ((F1.out).fr.trans hf)
   clear hf
   go_wp2_with fail
   exact ⟨rfl, rfl, HE.out⟩
  | ok n_z s2 =>
   obtain ⟨⟨v, rfl, hn⟩, hs, hf, hi, ho⟩ := he
   obtain ⟨A_z, c_z, rfl, hc, hk⟩ := hn.open
   have F2 := Lib.hid ((F1.out).step hf hs)
   have HI2 : Hid (1 ≤ s2.i ∧ s.i < s2.i ∧ s2.o = s.o + 0) := Lib.hid (by have h1 := HI1.out; omega)
   have K_z : Hid (n_z.kids.length ≤ c_z ∧ SIn w2 (fun b => w.heap.size < b) n_z.kids A_z) := Lib.hid ⟨hc, hk.wide (fun k _ h1 => Nat.lt_of_lt_of_le (F1.out).lt h1)⟩
   clear hn hc hk hs hf hi ho
   obtain ⟨z0, z1, z2, z3, z4, z5, hres⟩ := F2.out.res
   obtain ⟨y0, y1, y2, y3, y4, y5⟩ := six_cells hres
   have x0 := frozen_of_row _ w.heap.size 0 _ _ hres
   have x1 := frozen_of_row _ w.heap.size 1 _ _ hres
   have x2 := frozen_of_row _ w.heap.size 2 _ _ hres
   have x3 := frozen_of_row _ w.heap.size 3 _ _ hres
   have x4 := frozen_of_row _ w.heap.size 4 _ _ hres
   have x5 := frozen_of_row _ w.heap.size 5 _ _ hres
   have HRES := Lib.hid hres
   clear hres
   go_wp2_with fail
   have h1 := HI2.out
   exact ret_cell1A (p := 2) rfl _ rfl _ (load_nd (six_heap HRES.out)) (F2.out.doneN (K_z.out.2.wide (fun _ _ hk => hk)) K_z.out.1 (by omega) (by omega))
 | false =>
  simp only [hc, if_false, Bool.false_eq_true] at hr
  have HR := Lib.hid hr
  have HC1 := Lib.hid hc
  clear hr hc
  obtain ⟨b, hc⟩ : ∃ b, atB p.ts s wIf = b := ⟨_, rfl⟩
  have hq2 : ((txt (tk p.ts s).2.1).toList == [105, 102]) = b := by rw [← hc]; exact tx_at p.ts s wIf
  have hr := HR.out
  cases b with
  | true =>
   simp only [hc, if_true] at hr
   have HR := Lib.hid hr
   have HC1 := Lib.hid hc
   clear hr hc
   go_wp2_with fail
   refine (HCO.out s _ (F1.out).st (by have h1 := HI1.out; omega) r HR.out).mono ?_
   intro ee w2 he
   cases r with
   | bad kk xx =>
    obtain ⟨rfl, hf⟩ := he
    have HE := Lib.hid ((F1.out).fr.trans hf)
    clear hf
    go_wp2_with fail
    exact ⟨rfl, rfl, HE.out⟩
   | ok n_z s2 =>
    obtain ⟨⟨v, rfl, hn⟩, hs, hf, hi, ho⟩ := he
    obtain ⟨A_z, c_z, rfl, hc, hk⟩ := hn.open
    have F2 := Lib.hid ((F1.out).step hf hs)
    have HI2 : Hid (1 ≤ s2.i ∧ s.i < s2.i ∧ s2.o = s.o + 0) := Lib.hid (by have h1 := HI1.out; omega)
    have K_z : Hid (n_z.kids.length ≤ c_z ∧ SIn w2 (fun b => w.heap.size < b) n_z.kids A_z) := Lib.hid ⟨hc, hk.wide (fun k _ h1 => Nat.lt_of_lt_of_le (F1.out).lt h1)⟩
    clear hn hc hk hs hf hi ho
    obtain ⟨z0, z1, z2, z3, z4, z5, hres⟩ := F2.out.res
    obtain ⟨y0, y1, y2, y3, y4, y5⟩ := six_cells hres
    have x0 := frozen_of_row _ w.heap.size 0 _ _ hres
    have x1 := frozen_of_row _ w.heap.size 1 _ _ hres
    have x2 := frozen_of_row _ w.heap.size 2 _ _ hres
    have x3 := frozen_of_row _ w.heap.size 3 _ _ hres
    have x4 := frozen_of_row _ w.heap.size 4 _ _ hres
    have x5 := frozen_of_row _ w.heap.size 5 _ _ hres
    have HRES := Lib.hid hres
    clear hres
    go_wp2_with fail
    have h1 := HI2.out
    exact ret_cell1A (p := 2) rfl _ rfl _ (load_nd (six_heap HRES.out)) (F2.out.doneN (K_z.out.2.wide (fun _ _ hk => hk)) K_z.out.1 (by omega) (by omega))
  | false =>
   simp only [hc, if_false, Bool.false_eq_true] at hr
   have HR := Lib.hid hr
   have HC1 := Lib.hid hc
   clear hr hc
   obtain ⟨b, hc⟩ : ∃ b, atB p.ts s wFor = b := ⟨_, rfl⟩
   have hq3 : ((txt (tk p.ts s).2.1).toList == [102, 111, 114]) = b := by rw [← hc]; exact tx_at p.ts s wFor
   have hr := HR.out
   cases b with
   | true =>
    simp only [hc, if_true] at hr
    have HR := Lib.hid hr
    have HC1 := Lib.hid hc
    clear hr hc
    go_wp2_with fail
    refine (HL.out s _ (F1.out).st (by have h1 := HI1.out; omega) r HR.out).mono ?_
    intro ee w2 he
    cases r with
    | bad kk xx =>
     obtain ⟨rfl, hf⟩ := he
     have HE := Lib.hid ((F1.out).fr.trans hf)
     clear hf
     go_wp2_with fail
     exact ⟨rfl, rfl, HE.out⟩
    | ok n_z s2 =>
     obtain ⟨⟨v, rfl, hn⟩, hs, hf, hi, ho⟩ := he
     obtain ⟨A_z, c_z, rfl, hc, hk⟩ := hn.open
     have F2 := Lib.hid ((F1.out).step hf hs)
     have HI2 : Hid (1 ≤ s2.i ∧ s.i < s2.i ∧ s2.o = s.o + 0) := Lib.hid (by have h1 := HI1.out; omega)
     have K_z : Hid (n_z.kids.length ≤ c_z ∧ SIn w2 (fun b => w.heap.size < b) n_z.kids A_z) := Lib.hid ⟨hc, hk.wide (fun k _ h1 => Nat.lt_of_lt_of_le (F1.out).lt h1)⟩
     clear hn hc hk hs hf hi ho
     obtain ⟨z0, z1, z2, z3, z4, z5, hres⟩ := F2.out.res
     obtain ⟨y0, y1, y2, y3, y4, y5⟩ := six_cells hres
     have x0 := frozen_of_row _ w.heap.size 0 _ _ hres
     have x1 := frozen_of_row _ w.heap.size 1 _ _ hres
     have x2 := frozen_of_row _ w.heap.size 2 _ _ hres
     have x3 := frozen_of_row _ w.heap.size 3 _ _ hres
     have x4 := frozen_of_row _ w.heap.size 4 _ _ hres
     have x5 := frozen_of_row _ w.heap.size 5 _ _ hres
     have HRES := Lib.hid hres
     clear hres
     go_wp2_with fail
     have h1 := HI2.out
     exact ret_cell1A (p := 2) rfl _ rfl _ (load_nd (six_heap HRES.out)) (F2.out.doneN (K_z.out.2.wide (fun _ _ hk => hk)) K_z.out.1 (by omega) (by omega))
   | false =>
    simp only [hc, if_false, Bool.false_eq_true] at hr
    have HR := Lib.hid hr
    have HC1 := Lib.hid hc
    clear hr hc
    obtain ⟨b, hc⟩ : ∃ b, atB p.ts s wVar = b := ⟨_, rfl⟩
    have hq4 : ((txt (tk p.ts s).2.1).toList == [118, 97, 114]) = b := by rw [← hc]; exact tx_at p.ts s wVar
    have hr := HR.out
    cases b with
    | true =>
     simp only [hc, if_true] at hr
     have HR := Lib.hid hr
     have HC1 := Lib.hid hc
     clear hr hc
     go_wp2_with fail
     refine (HV.out s _ (F1.out).st (by have h1 := HI1.out; omega) r HR.out).mono ?_
     intro ee w2 he
     cases r with
     | bad kk xx =>
      obtain ⟨rfl, hf⟩ := he
      have HE := Lib.hid ((F1.out).fr.trans hf)
      clear hf
      go_wp2_with fail
      exact ⟨rfl, rfl, HE.out⟩
     | ok n_z s2 =>
      obtain ⟨⟨v, rfl, hn⟩, hs, hf, hi, ho⟩ := he
      obtain ⟨A_z, c_z, rfl, hc, hk⟩ := hn.open
      have F2 := Lib.hid ((F1.out).step hf hs)
      have HI2 : Hid (1 ≤ s2.i ∧ s.i < s2.i ∧ s2.o = s.o + 0) := Lib.hid (by have h1 := HI1.out; omega)
      have K_z : Hid (n_z.kids.length ≤ c_z ∧ SIn w2 (fun b => w.heap.size < b) n_z.kids A_z) := Lib.hid ⟨hc, hk.wide (fun k _ h1 => Nat.lt_of_lt_of_le (F1.out).lt h1)⟩
      clear hn hc hk hs hf hi ho
      obtain ⟨z0, z1, z2, z3, z4, z5, hres⟩ := F2.out.res
      obtain ⟨y0, y1, y2, y3, y4, y5⟩ := six_cells hres
      have x0 := frozen_of_row _ w.heap.size 0 _ _ hres
      have x1 := frozen_of_row _ w.heap.size 1 _ _ hres
      have x2 := frozen_of_row _ w.heap.size 2 _ _ hres
      have x3 := frozen_of_row _ w.heap.size 3 _ _ hres
      have x4 := frozen_of_row _ w.heap.size 4 _ _ hres
      have x5 := frozen_of_row _ w.heap.size 5 _ _ hres
      have HRES := Lib.hid hres
      clear hres
      go_wp2_with fail
      have h1 := HI2.out
      exact ret_cell1A (p := 2) rfl _ rfl _ (load_nd (six_heap HRES.out)) (F2.out.doneN (K_z.out.2.wide (fun _ _ hk => hk)) K_z.out.1 (by omega) (by omega))
    | false =>
     simp only [hc, if_false, Bool.false_eq_true] at hr
     have HR := Lib.hid hr
     have HC1 := Lib.hid hc
     clear hr hc
     obtain ⟨b, hc⟩ : ∃ b, atB p.ts s wReturn = b := ⟨_, rfl⟩
     have hq5 : ((txt (tk p.ts s).2.1).toList == [114, 101, 116, 117, 114, 110]) = b := by rw [← hc]; exact tx_at p.ts s wReturn
     have hr := HR.out
     cases b with
     | true =>
      simp only [hc, if_true] at hr
      have HR := Lib.hid hr
      have HC1 := Lib.hid hc
      clear hr hc
      go_wp2_with fail
      refine (HRT.out s _ (F1.out).st (by have h1 := HI1.out; omega) r HR.out).mono ?_
      intro ee w2 he
      cases r with
      | bad kk xx =>
       obtain ⟨rfl, hf⟩ := he
       have HE := Lib.hid ((F1.out).fr.trans hf)
       clear hf
       go_wp2_with fail
       exact ⟨rfl, rfl, HE.out⟩
      | ok n_z s2 =>
       obtain ⟨⟨v, rfl, hn⟩, hs, hf, hi, ho⟩ := he
       obtain ⟨A_z, c_z, rfl, hc, hk⟩ := hn.open
       have F2 := Lib.hid ((F1.out).step hf hs)
       have HI2 : Hid (1 ≤ s2.i ∧ s.i < s2.i ∧ s2.o = s.o + 0) := Lib.hid (by have h1 := HI1.out; omega)
       have K_z : Hid (n_z.kids.length ≤ c_z ∧ SIn w2 (fun b => w.heap.size < b) n_z.kids A_z) := Lib.hid ⟨hc, hk.wide (fun k _ h1 => Nat.lt_of_lt_of_le (F1.out).lt h1)⟩
       clear hn hc hk hs hf hi ho
       obtain ⟨z0, z1, z2, z3, z4, z5, hres⟩ := F2.out.res
       obtain ⟨y0, y1, y2, y3, y4, y5⟩ := six_cells hres
       have x0 := frozen_of_row _ w.heap.size 0 _ _ hres
       have x1 := frozen_of_row _ w.heap.size 1 _ _ hres
       have x2 := frozen_of_row _ w.heap.size 2 _ _ hres
       have x3 := frozen_of_row _ w.heap.size 3 _ _ hres
       have x4 := frozen_of_row _ w.heap.size 4 _ _ hres
       have x5 := frozen_of_row _ w.heap.size 5 _ _ hres
       have HRES := Lib.hid hres
       clear hres
       go_wp2_with fail
       have h1 := HI2.out
       exact ret_cell1A (p := 2) rfl _ rfl _ (load_nd (six_heap HRES.out)) (F2.out.doneN (K_z.out.2.wide (fun _ _ hk => hk)) K_z.out.1 (by omega) (by omega))
     | false =>
      simp only [hc, if_false, Bool.false_eq_true] at hr
      have HR := Lib.hid hr
      have HC1 := Lib.hid hc
      clear hr hc
      obtain ⟨b, hc⟩ : ∃ b, atB p.ts s wBreak = b := ⟨_, rfl⟩
      have hq6 : ((txt (tk p.ts s).2.1).toList == [98, 114, 101, 97, 107]) = b := by rw [← hc]; exact tx_at p.ts s wBreak
      have hr := HR.out
      cases b with
      | true =>
       simp only [hc, if_true] at hr
       have HR := Lib.hid hr
       have HC1 := Lib.hid hc
       clear hr hc
       go_wp2_with fail
       refine (pjump_any p 17 s _ (F1.out).st (by have h1 := HI1.out; omega) (F1.out.st.more_at (m := wBreak) (by decide) HC1.out) r HR.out).mono ?_
       intro ee w2 he
       cases r with
       | bad kk xx =>
        obtain ⟨rfl, hf⟩ := he
        have HE := Lib.hid ((F1.out).fr.trans hf)
        clear hf
        go_wp2_with fail
        exact ⟨rfl, rfl, HE.out⟩
       | ok n_z s2 =>
        obtain ⟨⟨v, rfl, hn⟩, hs, hf, hi, ho⟩ := he
        obtain ⟨A_z, c_z, rfl, hc, hk⟩ := hn.open
        have F2 := Lib.hid ((F1.out).step hf hs)
        have HI2 : Hid (1 ≤ s2.i ∧ s.i < s2.i ∧ s2.o = s.o + 0) := Lib.hid (by have h1 := HI1.out; omega)
        have K_z : Hid (n_z.kids.length ≤ c_z ∧ SIn w2 (fun b => w.heap.size < b) n_z.kids A_z) := Lib.hid ⟨hc, hk.wide (fun k _ h1 => Nat.lt_of_lt_of_le (F1.out).lt h1)⟩
        clear hn hc hk hs hf hi ho
        obtain ⟨z0, z1, z2, z3, z4, z5, hres⟩ := F2.out.res
        obtain ⟨y0, y1, y2, y3, y4, y5⟩ := six_cells hres
        have x0 := frozen_of_row _ w.heap.size 0 _ _ hres
        have x1 := frozen_of_row _ w.heap.size 1 _ _ hres
        have x2 := frozen_of_row _ w.heap.size 2 _ _ hres
        have x3 := frozen_of_row _ w.heap.size 3 _ _ hres
        have x4 := frozen_of_row _ w.heap.size 4 _ _ hres
        have x5 := frozen_of_row _ w.heap.size 5 _ _ hres
        have HRES := Lib.hid hres
        clear hres
        go_wp2_with fail
        have h1 := HI2.out
        exact ret_cell1A (p := 2) rfl _ rfl _ (load_nd (six_heap HRES.out)) (F2.out.doneN (K_z.out.2.wide (fun _ _ hk => hk)) K_z.out.1 (by omega) (by omega))
      | false =>
       simp only [hc, if_false, Bool.false_eq_true] at hr
       have HR := Lib.hid hr
       have HC1 := Lib.hid hc
       clear hr hc
       obtain ⟨b, hc⟩ : ∃ b, atB p.ts s wContinue = b := ⟨_, rfl⟩
       have hq7 : ((txt (tk p.ts s).2.1).toList == [99, 111, 110, 116, 105, 110, 117, 101]) = b := by rw [← hc]; exact tx_at p.ts s wContinue
       have hr := HR.out
       cases b with
       | true =>
        simp only [hc, if_true] at hr
        have HR := Lib.hid hr
        have HC1 := Lib.hid hc
        clear hr hc
        go_wp2_with fail
        refine (pjump_any p 18 s _ (F1.out).st (by have h1 := HI1.out; omega) (F1.out.st.more_at (m := wContinue) (by decide) HC1.out) r HR.out).mono ?_
        intro ee w2 he
        cases r with
        | bad kk xx =>
         obtain ⟨rfl, hf⟩ := he
         have HE := Lib.hid ((F1.out).fr.trans hf)
         clear hf
         go_wp2_with fail
         exact ⟨rfl, rfl, HE.out⟩
        | ok n_z s2 =>
         obtain ⟨⟨v, rfl, hn⟩, hs, hf, hi, ho⟩ := he
         obtain ⟨A_z, c_z, rfl, hc, hk⟩ := hn.open
         have F2 := Lib.hid ((F1.out).step hf hs)
         have HI2 : Hid (1 ≤ s2.i ∧ s.i < s2.i ∧ s2.o = s.o + 0) := Lib.hid (by have h1 := HI1.out; omega)
         have K_z : Hid (n_z.kids.length ≤ c_z ∧ SIn w2 (fun b => w.heap.size < b) n_z.kids A_z) := Lib.hid ⟨hc, hk.wide (fun k _ h1 => Nat.lt_of_lt_of_le (F1.out).lt h1)⟩
         clear hn hc hk hs hf hi ho
         obtain ⟨z0, z1, z2, z3, z4, z5, hres⟩ := F2.out.res
         obtain ⟨y0, y1, y2, y3, y4, y5⟩ := six_cells hres
         have x0 := frozen_of_row _ w.heap.size 0 _ _ hres
         have x1 := frozen_of_row _ w.heap.size 1 _ _ hres
         have x2 := frozen_of_row _ w.heap.size 2 _ _ hres
         have x3 := frozen_of_row _ w.heap.size 3 _ _ hres
         have x4 := frozen_of_row _ w.heap.size 4 _ _ hres
         have x5 := frozen_of_row _ w.heap.size 5 _ _ hres
         have HRES := Lib.hid hres
         clear hres
         go_wp2_with fail
         have h1 := HI2.out
         exact ret_cell1A (p := 2) rfl _ rfl _ (load_nd (six_heap HRES.out)) (F2.out.doneN (K_z.out.2.wide (fun _ _ hk => hk)) K_z.out.1 (by omega) (by omega))
       | false =>
        simp only [hc, if_false, Bool.false_eq_true] at hr
        have HR := Lib.hid hr
        have HC1 := Lib.hid hc
        clear hr hc
        go_wp2_with fail
        refine (pnames_any p mColon s _ (F1.out).st).mono ?_
        rintro ee w2 ⟨rfl, hb⟩
        have F2 := Lib.hid ((F1.out).below hb)
        have HI2 := HI1
        have hr0 := HRL.out
        have hl0 := F1.out.lt
        clear hr0 hl0
        clear hb
        obtain ⟨b, hc⟩ : ∃ b, nxB p.ts s mColon = b := ⟨_, rfl⟩
        have hr := HR.out
        try rw [hc]
        cases b with
        | true =>
         simp only [hc, if_true] at hr
         have HR := Lib.hid hr
         have HC2 := Lib.hid hc
         clear hr hc
         go_wp2_with fail
         refine (HLB.out s _ (F2.out).st (by have h1 := HI2.out; omega) r HR.out).mono ?_
         intro ee w3 he
         cases r with
         | bad kk xx =>
          obtain ⟨rfl, hf⟩ := he
          have HE := Lib.hid ((F2.out).fr.trans hf)
          clear hf
          go_wp2_with fail
          exact ⟨rfl, rfl, HE.out⟩
         | ok n_z s3 =>
          obtain ⟨⟨v, rfl, hn⟩, hs, hf, hi, ho⟩ := he
          obtain ⟨A_z, c_z, rfl, hc, hk⟩ := hn.open
          have F3 := Lib.hid ((F2.out).step hf hs)
          have HI3 : Hid (1 ≤ s3.i ∧ s.i < s3.i ∧ s3.o = s.o + 0) := Lib.hid (by have h1 := HI2.out; omega)
          have K_z : Hid (n_z.kids.length ≤ c_z ∧ SIn w3 (fun b => w.heap.size < b) n_z.kids A_z) := Lib.hid ⟨hc, hk.wide (fun k _ h1 => Nat.lt_of_lt_of_le (F2.out).lt h1)⟩
          clear hn hc hk hs hf hi ho
          obtain ⟨z0, z1, z2, z3, z4, z5, hres⟩ := F3.out.res
          obtain ⟨y0, y1, y2, y3, y4, y5⟩ := six_cells hres
          have x0 := frozen_of_row _ w.heap.size 0 _ _ hres
          have x1 := frozen_of_row _ w.heap.size 1 _ _ hres
          have x2 := frozen_of_row _ w.heap.size 2 _ _ hres
          have x3 := frozen_of_row _ w.heap.size 3 _ _ hres
          have x4 := frozen_of_row _ w.heap.size 4 _ _ hres
          have x5 := frozen_of_row _ w.heap.size 5 _ _ hres
          have HRES := Lib.hid hres
          clear hres
          go_wp2_with fail
          have h1 := HI3.out
          exact ret_cell1A (p := 2) rfl _ rfl _ (load_nd (six_heap HRES.out)) (F3.out.doneN (K_z.out.2.wide (fun _ _ hk => hk)) K_z.out.1 (by omega) (by omega))
        | false =>
         simp only [hc, if_false, Bool.false_eq_true] at hr
         have HR := Lib.hid hr
         have HC2 := Lib.hid hc
         clear hr hc
         go_wp2_with fail
         refine (pnames_any p mDef s _ (F2.out).st).mono ?_
         rintro ee w3 ⟨rfl, hb⟩
         have F3 := Lib.hid ((F2.out).below hb)
         have HI3 := HI2
         have hr0 := HRL.out
         have hl0 := F2.out.lt
         clear hr0 hl0
         clear hb
         obtain ⟨b, hc⟩ : ∃ b, nxB p.ts s mDef = b := ⟨_, rfl⟩
         have hr := HR.out
         try rw [hc]
         cases b with
         | true =>
          simp only [hc, if_true] at hr
          have HR := Lib.hid hr
          have HC3 := Lib.hid hc
          clear hr hc
          go_wp2_with fail
          refine (HD.out s _ (F3.out).st (by have h1 := HI3.out; omega) r HR.out).mono ?_
          intro ee w4 he
          cases r with
          | bad kk xx =>
           obtain ⟨rfl, hf⟩ := he
           have HE := Lib.hid ((F3.out).fr.trans hf)
           clear hf
           go_wp2_with fail
           exact ⟨rfl, rfl, HE.out⟩
          | ok n_z s4 =>
           obtain ⟨⟨v, rfl, hn⟩, hs, hf, hi, ho⟩ := he
           obtain ⟨A_z, c_z, rfl, hc, hk⟩ := hn.open
           have F4 := Lib.hid ((F3.out).step hf hs)
           have HI4 : Hid (1 ≤ s4.i ∧ s.i < s4.i ∧ s4.o = s.o + 0) := Lib.hid (by have h1 := HI3.out; omega)
           have K_z : Hid (n_z.kids.length ≤ c_z ∧ SIn w4 (fun b => w.heap.size < b) n_z.kids A_z) := Lib.hid ⟨hc, hk.wide (fun k _ h1 => Nat.lt_of_lt_of_le (F3.out).lt h1)⟩
           clear hn hc hk hs hf hi ho
           obtain ⟨z0, z1, z2, z3, z4, z5, hres⟩ := F4.out.res
           obtain ⟨y0, y1, y2, y3, y4, y5⟩ := six_cells hres
           have x0 := frozen_of_row _ w.heap.size 0 _ _ hres
           have x1 := frozen_of_row _ w.heap.size 1 _ _ hres
           have x2 := frozen_of_row _ w.heap.size 2 _ _ hres
           have x3 := frozen_of_row _ w.heap.size 3 _ _ hres
           have x4 := frozen_of_row _ w.heap.size 4 _ _ hres
           have x5 := frozen_of_row _ w.heap.size 5 _ _ hres
           have HRES := Lib.hid hres
           clear hres
           go_wp2_with fail
           have h1 := HI4.out
           exact ret_cell1A (p := 2) rfl _ rfl _ (load_nd (six_heap HRES.out)) (F4.out.doneN (K_z.out.2.wide (fun _ _ hk => hk)) K_z.out.1 (by omega) (by omega))
         | false =>
          simp only [hc, if_false, Bool.false_eq_true] at hr
          have HR := Lib.hid hr
          have HC3 := Lib.hid hc
          clear hr hc
          go_wp2_with fail
          obtain ⟨r1, hx, hr⟩ := bind_pf HR.out
          have HR := Lib.hid hr
          clear hr
          refine (HCH.out s _ (F3.out).st (by have h1 := HI3.out; omega) r1 hx).mono ?_
          have HX_e := Lib.hid hx
          clear hx
          intro ee w4 he
          cases r1 with
          | bad kk xx =>
           obtain ⟨rfl, hf⟩ := he
           have hrr : r = .bad kk xx := HR.out
           subst hrr
           have HE := Lib.hid ((F3.out).fr.trans hf)
           clear hf
           go_wp2_with fail
           exact ⟨rfl, rfl, HE.out⟩
          | ok n_e s4 =>
           obtain ⟨⟨v, rfl, hn⟩, hs, hf, hi, ho⟩ := he
           obtain ⟨A_e, c_e, rfl, hc, hk⟩ := hn.open
           have F4 := Lib.hid ((F3.out).step hf hs)
           have HI4 : Hid (1 ≤ s4.i ∧ s.i < s4.i ∧ s4.o = s.o + 0) := Lib.hid (by have h1 := HI3.out; omega)
           have K_e : Hid (n_e.kids.length ≤ c_e ∧ SIn w4 (fun b => w.heap.size < b) n_e.kids A_e) := Lib.hid ⟨hc, hk.wide (fun k _ h1 => Nat.lt_of_lt_of_le (F3.out).lt h1)⟩
           have hr0 := HRL.out
           have hl0 := F3.out.lt
           clear hr0 hl0
           clear hn hc hk hs hf hi ho
           go_wp2_with fail
           refine (HSM.out (fun b => w.heap.size < b) n_e _ _ s4 _ (F4.out).st (by have h1 := HI4.out; omega) (HG.out _ _ _ HX_e.out) K_e.out.1 K_e.out.2 (fun b hb => Nat.lt_of_lt_of_le (F4.out).lt hb) (fun hh => by have h2 : w.heap.size < p.R := hh; have h3 := HRL.out; omega) r HR.out).mono ?_
           intro ee w5 he
           cases r with
           | bad kk xx =>
            obtain ⟨rfl, hf⟩ := he
            have HE := Lib.hid ((F4.out).fr.trans hf)
            clear hf
            go_wp2_with fail
            exact ⟨rfl, rfl, HE.out⟩
           | ok n_z s5 =>
            obtain ⟨⟨v, rfl, hn⟩, hs, hf, hi, ho⟩ := he
            obtain ⟨A_z, c_z, rfl, hc, hk⟩ := hn.open
            have F5 := Lib.hid ((F4.out).step hf hs)
            have HI5 : Hid (1 ≤ s5.i ∧ s.i < s5.i ∧ s5.o = s.o + 0) := Lib.hid (by have h1 := HI4.out; omega)
            have K_z : Hid (n_z.kids.length ≤ c_z ∧ SIn w5 (fun b => w.heap.size < b) n_z.kids A_z) := Lib.hid ⟨hc, hk⟩
            clear hn hc hk hs hf hi ho
            obtain ⟨z0, z1, z2, z3, z4, z5, hres⟩ := F5.out.res
            obtain ⟨y0, y1, y2, y3, y4, y5⟩ := six_cells hres
            have x0 := frozen_of_row _ w.heap.size 0 _ _ hres
            have x1 := frozen_of_row _ w.heap.size 1 _ _ hres
            have x2 := frozen_of_row _ w.heap.size 2 _ _ hres
            have x3 := frozen_of_row _ w.heap.size 3 _ _ hres
            have x4 := frozen_of_row _ w.heap.size 4 _ _ hres
            have x5 := frozen_of_row _ w.heap.size 5 _ _ hres
            have HRES := Lib.hid hres
            clear hres
            go_wp2_with fail
            have h1 := HI5.out
            exact ret_cell1A (p := 2) rfl _ rfl _ (load_nd (six_heap HRES.out)) (F5.out.doneN (K_z.out.2.wide (fun _ _ hk => hk)) K_z.out.1 (by omega) (by omega))
end Go.Proofs.YtmlclgkhnekmnaaGreatDoor
namespace Go.Proofs.YtmlclgkhnekmnaaGreatDoor
open Go.RowKit
set_option maxRecDepth 100000 in
set_option maxHeartbeats 4000000 in
theorem ploop_any (p : PC) (ex st : Rd) (f : Nat) (hB : RdC p 119 #[.pointer (some ⟨p.R, 0, none⟩)] (blockP p.ts st f)) (hLH : LhC p (loopHeadP p.ts ex f)) : RdC p 163 #[.pointer (some ⟨p.R, 0, none⟩)] (loopP p.ts ex st f) := by
 intro s w hs hi r hr
 unfold loopP at hr
 have HR := Lib.hid hr
 have HI0 : Hid (1 ≤ s.i ∧ s.i ≤ s.i ∧ s.o = s.o) := Lib.hid ⟨hi, Nat.le_refl _, rfl⟩
 have HB := Lib.hid hB
 have HLH := Lib.hid hLH
 have tf0 := tk_f0
 have tf1 := tk_f1
 have tf2 := tk_f2
 have HRL := Lib.hid (And.intro hs.rlt hs.glt)
 have FS := Lib.hid (Fm.start hs (.int .i64 0) (.int .i64 0) (.int .i64 0) (.int .i64 0) (.string ⟨#[]⟩) (.slice none 0 0))
 obtain ⟨w0, hw0⟩ : ∃ W, W = w.alloc (.cells #[.int .i64 0, .int .i64 0, .int .i64 0, .int .i64 0, .string ⟨#[]⟩, .slice none 0 0] 24) := ⟨_, rfl⟩
 have F0 : Hid (Fm p w w0 s) := Lib.hid (by rw [hw0]; exact FS.out)
 have HW0 := Lib.hid hw0
 clear hs hi hr hw0 FS hB hLH
 go_enter Tryz.func163, Tryz.ntmps163
 go_wp2_with fail
 rw [← HW0.out]
 obtain ⟨r1, hx, hr⟩ := bind_pf HR.out
 have HR := Lib.hid hr
 clear hr
 refine (ptake_any p wFor (by decide) s _ (F0.out).st r1 hx).mono ?_
 clear hx
 intro ee w1 he
 cases r1 with
 | bad kk xx =>
  obtain ⟨rfl, hf⟩ := he
  have hrr : r = .bad kk xx := HR.out
  subst hrr
  have HE := Lib.hid ((F0.out).fr.trans hf)
  clear hf
  go_wp2_with fail
  exact ⟨rfl, rfl, HE.out⟩
 | ok t1 s1 =>
  obtain ⟨rfl, hs, hf, hi, ho⟩ := he
  have F1 := Lib.hid ((F0.out).step hf hs)
  have HI1 : Hid (1 ≤ s1.i ∧ s.i < s1.i ∧ s1.o = s.o + 0) := Lib.hid (by have h1 := HI0.out; omega)
  have hr0 := HRL.out
  have hl0 := F0.out.lt
  clear hr0 hl0
  clear hs hf hi ho
  have HI1 : Hid (1 ≤ (headP s1).i ∧ s.i < (headP s1).i ∧ (headP s1).o = s.o + 0) := HI1
  have qp2 := F1.out.st.cells.2.2.1
  have fp2 := F1.out.st.unf 2
  have qp3 := F1.out.st.cells.2.2.2
  have fp3 := F1.out.st.unf 3
  have qpl := F1.out.st.rlt
  go_wp2_with fail
  clear qp2 fp2 qp3 fp3 qpl
  refine (pstands_any p mLBrace (headP s1) _ (((((F1.out.store 3 _ (PSt.store (s' := (headP s1)) F1.out.st 3 _ rfl (F1.out.st.lt) (F1.out.st.op) F1.out.st.op)).alloc _).alloc _).alloc _)).st).mono ?_
  rintro ee w2 ⟨rfl, hb⟩
  have F2 := Lib.hid ((((((F1.out.store 3 _ (PSt.store (s' := (headP s1)) F1.out.st 3 _ rfl (F1.out.st.lt) (F1.out.st.op) F1.out.st.op)).alloc _).alloc _).alloc _)).below hb)
  have HI2 := HI1
  have hr0 := HRL.out
  have hl0 := F1.out.lt
  have T_a := Lib.hid ((PFr.of_below (R := p.R) hb).kept (N := w1.heap.size) (by omega) (blk_alloc (blk_alloc (alloc_topS w1 _ _ _ _))))
  have hl_a : Hid (w.heap.size < w1.heap.size) := Lib.hid (by omega)
  have hd_a : Hid (0 = 0) := Lib.hid (by omega)
  have T_e := Lib.hid ((PFr.of_below (R := p.R) hb).kept (N := w1.heap.size + 1) (by omega) (blk_alloc (alloc_topS2 w1 _ _ _ _ _)))
  have hl_e : Hid (w.heap.size < w1.heap.size + 1) := Lib.hid (by omega)
  have hd_e : Hid (0 = 0) := Lib.hid (by omega)
  have T_z := Lib.hid ((PFr.of_below (R := p.R) hb).kept (N := w1.heap.size + 1 + 1) (by omega) (alloc_topS3 w1 _ _ _ _ _ _))
  have hl_z : Hid (w.heap.size < w1.heap.size + 1 + 1) := Lib.hid (by omega)
  have hd_z : Hid (0 = 0) := Lib.hid (by omega)
  clear hr0 hl0
  clear hb
  obtain ⟨b, hc⟩ : ∃ b, atB p.ts (headP s1) mLBrace = b := ⟨_, rfl⟩
  have hr := HR.out
  try rw [hc]
  cases b with
  | true =>
   simp only [hc, if_true, loopMid] at hr
   have HR := Lib.hid hr
   have HC2 := Lib.hid hc
   clear hr hc
   have HR := Lib.hid (bind_ok HR.out)
   obtain ⟨A_a, hA⟩ : ∃ A : Option Addr, A = none := ⟨_, rfl⟩
   obtain ⟨c_a, hcc⟩ : ∃ c : Nat, c = 0 := ⟨_, rfl⟩
   have T_a : Hid (w2.heap[w1.heap.size]? = some (.cells (cNd noN A_a c_a) 24 (0, 0))) := Lib.hid (by rw [hA, hcc]; exact T_a.out)
   have K_a : Hid (noN.kids.length ≤ c_a ∧ SIn w2 (fun b => (((w.heap.size < b) ∧ b ≠ w1.heap.size) ∧ b ≠ w1.heap.size + 1) ∧ b ≠ w1.heap.size + 1 + 1) noN.kids A_a) := Lib.hid ⟨Nat.zero_le _, by rw [hA]; exact sin0⟩
   clear hA hcc
   obtain ⟨A_e, hA⟩ : ∃ A : Option Addr, A = none := ⟨_, rfl⟩
   obtain ⟨c_e, hcc⟩ : ∃ c : Nat, c = 0 := ⟨_, rfl⟩
   have T_e : Hid (w2.heap[w1.heap.size + 1]? = some (.cells (cNd noN A_e c_e) 24 (0, 0))) := Lib.hid (by rw [hA, hcc]; exact T_e.out)
   have K_e : Hid (noN.kids.length ≤ c_e ∧ SIn w2 (fun b => (((w.heap.size < b) ∧ b ≠ w1.heap.size) ∧ b ≠ w1.heap.size + 1) ∧ b ≠ w1.heap.size + 1 + 1) noN.kids A_e) := Lib.hid ⟨Nat.zero_le _, by rw [hA]; exact sin0⟩
   clear hA hcc
   obtain ⟨A_z, hA⟩ : ∃ A : Option Addr, A = none := ⟨_, rfl⟩
   obtain ⟨c_z, hcc⟩ : ∃ c : Nat, c = 0 := ⟨_, rfl⟩
   have T_z : Hid (w2.heap[w1.heap.size + 1 + 1]? = some (.cells (cNd noN A_z c_z) 24 (0, 0))) := Lib.hid (by rw [hA, hcc]; exact T_z.out)
   have K_z : Hid (noN.kids.length ≤ c_z ∧ SIn w2 (fun b => (((w.heap.size < b) ∧ b ≠ w1.heap.size) ∧ b ≠ w1.heap.size + 1) ∧ b ≠ w1.heap.size + 1 + 1) noN.kids A_z) := Lib.hid ⟨Nat.zero_le _, by rw [hA]; exact sin0⟩
   clear hA hcc
   have HI2 : Hid (1 ≤ (bodyP (headP s1)).i ∧ s.i < (bodyP (headP s1)).i ∧ (bodyP (headP s1)).o = s.o + 0) := HI2
   have qp2 := F2.out.st.cells.2.2.1
   have fp2 := F2.out.st.unf 2
   have qp3 := F2.out.st.cells.2.2.2
   have fp3 := F2.out.st.unf 3
   have qpl := F2.out.st.rlt
   go_wp2_with fail
   clear qp2 fp2 qp3 fp3 qpl
   obtain ⟨r2, hx, hr⟩ := bind_pf HR.out
   have HR := Lib.hid hr
   clear hr
   refine (HB.out (bodyP (headP s1)) _ ((F2.out.store 3 _ (PSt.store (s' := (bodyP (headP s1))) F2.out.st 3 _ rfl (F2.out.st.lt) (F2.out.st.op) (Nat.zero_le _)))).st (by have h1 := HI2.out; omega) r2 hx).mono ?_
   clear hx
   intro ee w3 he
   cases r2 with
   | bad kk xx =>
    obtain ⟨rfl, hf⟩ := he
    have hrr : r = .bad kk xx := HR.out
    subst hrr
    have HE := Lib.hid (((F2.out.store 3 _ (PSt.store (s' := (bodyP (headP s1))) F2.out.st 3 _ rfl (F2.out.st.lt) (F2.out.st.op) (Nat.zero_le _)))).fr.trans hf)
    clear hf
    go_wp2_with fail
    exact ⟨rfl, rfl, HE.out⟩
   | ok n_b s3 =>
    obtain ⟨⟨v, rfl, hn⟩, hs, hf, hi, ho⟩ := he
    obtain ⟨A_b, c_b, rfl, hc, hk⟩ := hn.open
    have F3 := Lib.hid (((F2.out.store 3 _ (PSt.store (s' := (bodyP (headP s1))) F2.out.st 3 _ rfl (F2.out.st.lt) (F2.out.st.op) (Nat.zero_le _)))).step hf hs)
    have HI3 : Hid (1 ≤ s3.i ∧ s.i < s3.i ∧ s3.o = s.o + 0) := Lib.hid (by have h1 := HI2.out; omega)
    have K_b : Hid (n_b.kids.length ≤ c_b ∧ SIn w3 (fun b => (((w.heap.size < b) ∧ b ≠ w1.heap.size) ∧ b ≠ w1.heap.size + 1) ∧ b ≠ w1.heap.size + 1 + 1) n_b.kids A_b) := Lib.hid ⟨hc, hk.wide (fun k _ h1 => ⟨⟨⟨Nat.lt_of_lt_of_le ((F2.out.store 3 _ (PSt.store (s' := (bodyP (headP s1))) F2.out.st 3 _ rfl (F2.out.st.lt) (F2.out.st.op) (Nat.zero_le _)))).lt h1, Nat.ne_of_gt (Nat.lt_of_lt_of_le (Array.getElem?_eq_some_iff.1 (blk_set (a := ⟨p.R, 3, none⟩) T_a.out (by show _ ≠ p.R; have h8 := hl_a.out; have h9 := HRL.out; omega))).1 h1)⟩, Nat.ne_of_gt (Nat.lt_of_lt_of_le (Array.getElem?_eq_some_iff.1 (blk_set (a := ⟨p.R, 3, none⟩) T_e.out (by show _ ≠ p.R; have h8 := hl_e.out; have h9 := HRL.out; omega))).1 h1)⟩, Nat.ne_of_gt (Nat.lt_of_lt_of_le (Array.getElem?_eq_some_iff.1 (blk_set (a := ⟨p.R, 3, none⟩) T_z.out (by show _ ≠ p.R; have h8 := hl_z.out; have h9 := HRL.out; omega))).1 h1)⟩)⟩
    have hr0 := HRL.out
    have hl0a := hl_a.out
    have hl0e := hl_e.out
    have hl0z := hl_z.out
    have hl0 := F2.out.lt
    have hs0a := (Array.getElem?_eq_some_iff.1 T_a.out).1
    have hs0e := (Array.getElem?_eq_some_iff.1 T_e.out).1
    have hs0z := (Array.getElem?_eq_some_iff.1 T_z.out).1
    have hd0a := hd_a.out
    have hd0e := hd_e.out
    have hd0z := hd_z.out
    have K_a : Hid (noN.kids.length ≤ c_a ∧ SIn w3 (fun b => (((w.heap.size < b) ∧ b ≠ w1.heap.size) ∧ b ≠ w1.heap.size + 1) ∧ b ≠ w1.heap.size + 1 + 1) noN.kids A_a) := Lib.hid (And.intro K_a.out.1 (SIn.fr (SIn.fr K_a.out.2 ((PFr.refl p.R _).set (p := ⟨p.R, 3, none⟩) (.inl rfl) _) (fun hh => by have h2 : w.heap.size < p.R := hh.1.1.1; omega)) hf (fun hh => by have h2 : w.heap.size < p.R := hh.1.1.1; omega)))
    have T_a := Lib.hid (hf.kept (N := w1.heap.size) (by omega) (blk_set (a := ⟨p.R, 3, none⟩) T_a.out (by show _ ≠ p.R; have h8 := hl_a.out; have h9 := HRL.out; omega)))
    have K_e : Hid (noN.kids.length ≤ c_e ∧ SIn w3 (fun b => (((w.heap.size < b) ∧ b ≠ w1.heap.size) ∧ b ≠ w1.heap.size + 1) ∧ b ≠ w1.heap.size + 1 + 1) noN.kids A_e) := Lib.hid (And.intro K_e.out.1 (SIn.fr (SIn.fr K_e.out.2 ((PFr.refl p.R _).set (p := ⟨p.R, 3, none⟩) (.inl rfl) _) (fun hh => by have h2 : w.heap.size < p.R := hh.1.1.1; omega)) hf (fun hh => by have h2 : w.heap.size < p.R := hh.1.1.1; omega)))
    have T_e := Lib.hid (hf.kept (N := w1.heap.size + 1) (by omega) (blk_set (a := ⟨p.R, 3, none⟩) T_e.out (by show _ ≠ p.R; have h8 := hl_e.out; have h9 := HRL.out; omega)))
    have K_z : Hid (noN.kids.length ≤ c_z ∧ SIn w3 (fun b => (((w.heap.size < b) ∧ b ≠ w1.heap.size) ∧ b ≠ w1.heap.size + 1) ∧ b ≠ w1.heap.size + 1 + 1) noN.kids A_z) := Lib.hid (And.intro K_z.out.1 (SIn.fr (SIn.fr K_z.out.2 ((PFr.refl p.R _).set (p := ⟨p.R, 3, none⟩) (.inl rfl) _) (fun hh => by have h2 : w.heap.size < p.R := hh.1.1.1; omega)) hf (fun hh => by have h2 : w.heap.size < p.R := hh.1.1.1; omega)))
    have T_z := Lib.hid (hf.kept (N := w1.heap.size + 1 + 1) (by omega) (blk_set (a := ⟨p.R, 3, none⟩) T_z.out (by show _ ≠ p.R; have h8 := hl_z.out; have h9 := HRL.out; omega)))
    clear hr0 hl0 hd0a hd0e hd0z hs0a hs0e hs0z hl0a hl0e hl0z
    clear hn hc hk hs hf hi ho
    obtain ⟨qa0, qa1, qa2, qa3, qa4, qa5⟩ := six_cells T_a.out
    have qal := (Array.getElem?_eq_some_iff.1 T_a.out).1
    obtain ⟨qe0, qe1, qe2, qe3, qe4, qe5⟩ := six_cells T_e.out
    have qel := (Array.getElem?_eq_some_iff.1 T_e.out).1
    obtain ⟨qz0, qz1, qz2, qz3, qz4, qz5⟩ := six_cells T_z.out
    have qzl := (Array.getElem?_eq_some_iff.1 T_z.out).1
    go_wp2_with fail
    clear qa0 qa1 qa2 qa3 qa4 qa5 qal qe0 qe1 qe2 qe3 qe4 qe5 qel qz0 qz1 qz2 qz3 qz4 qz5 qzl
    refine (pmade_any p s3 _ (((F3.out.alloc _).alloc _)).st (by have h1 := HI3.out; omega) _ _ _ _ _ _ _).mono ?_
    rintro ee w4 ⟨rfl, hb⟩
    have F4 := Lib.hid ((((F3.out.alloc _).alloc _)).below hb)
    have HI4 := HI3
    have hrow := blk_below (alloc_top (World.alloc w3 _) _ _) hb
    simp only [World.size_alloc] at hrow
    have HROW := Lib.hid hrow
    clear hrow
    have hm_a := (Array.getElem?_eq_some_iff.1 T_a.out).1
    have hm_e := (Array.getElem?_eq_some_iff.1 T_e.out).1
    have hm_z := (Array.getElem?_eq_some_iff.1 T_z.out).1
    have hr0 := HRL.out
    have hl0a := hl_a.out
    have hl0e := hl_e.out
    have hl0z := hl_z.out
    have hl0 := F3.out.lt
    have hs0a := (Array.getElem?_eq_some_iff.1 T_a.out).1
    have hs0e := (Array.getElem?_eq_some_iff.1 T_e.out).1
    have hs0z := (Array.getElem?_eq_some_iff.1 T_z.out).1
    have hd0a := hd_a.out
    have hd0e := hd_e.out
    have hd0z := hd_z.out
    have K_a : Hid (noN.kids.length ≤ c_a ∧ SIn w4 (fun b => (((w.heap.size < b) ∧ b ≠ w1.heap.size) ∧ b ≠ w1.heap.size + 1) ∧ b ≠ w1.heap.size + 1 + 1) noN.kids A_a) := Lib.hid (And.intro K_a.out.1 (SIn.fr (SIn.below (SIn.below K_a.out.2 (alloc_below _ _)) (alloc_below _ _)) (PFr.of_below (R := p.R) hb) (fun hh => by have h2 : w.heap.size < p.R := hh.1.1.1; omega)))
    have T_a := Lib.hid ((PFr.of_below (R := p.R) hb).kept (N := w1.heap.size) (by omega) (blk_alloc (blk_alloc T_a.out)))
    have K_e : Hid (noN.kids.length ≤ c_e ∧ SIn w4 (fun b => (((w.heap.size < b) ∧ b ≠ w1.heap.size) ∧ b ≠ w1.heap.size + 1) ∧ b ≠ w1.heap.size + 1 + 1) noN.kids A_e) := Lib.hid (And.intro K_e.out.1 (SIn.fr (SIn.below (SIn.below K_e.out.2 (alloc_below _ _)) (alloc_below _ _)) (PFr.of_below (R := p.R) hb) (fun hh => by have h2 : w.heap.size < p.R := hh.1.1.1; omega)))
    have T_e := Lib.hid ((PFr.of_below (R := p.R) hb).kept (N := w1.heap.size + 1) (by omega) (blk_alloc (blk_alloc T_e.out)))
    have K_z : Hid (noN.kids.length ≤ c_z ∧ SIn w4 (fun b => (((w.heap.size < b) ∧ b ≠ w1.heap.size) ∧ b ≠ w1.heap.size + 1) ∧ b ≠ w1.heap.size + 1 + 1) noN.kids A_z) := Lib.hid (And.intro K_z.out.1 (SIn.fr (SIn.below (SIn.below K_z.out.2 (alloc_below _ _)) (alloc_below _ _)) (PFr.of_below (R := p.R) hb) (fun hh => by have h2 : w.heap.size < p.R := hh.1.1.1; omega)))
    have T_z := Lib.hid ((PFr.of_below (R := p.R) hb).kept (N := w1.heap.size + 1 + 1) (by omega) (blk_alloc (blk_alloc T_z.out)))
    have K_b : Hid (n_b.kids.length ≤ c_b ∧ SIn w4 (fun b => (((w.heap.size < b) ∧ b ≠ w1.heap.size) ∧ b ≠ w1.heap.size + 1) ∧ b ≠ w1.heap.size + 1 + 1) n_b.kids A_b) := Lib.hid (And.intro K_b.out.1 (SIn.fr (SIn.below (SIn.below K_b.out.2 (alloc_below _ _)) (alloc_below _ _)) (PFr.of_below (R := p.R) hb) (fun hh => by have h2 : w.heap.size < p.R := hh.1.1.1; omega)))
    have T_b := Lib.hid ((PFr.of_below (R := p.R) hb).kept (N := w3.heap.size) (by omega) (blk_alloc (alloc_top w3 _ _)))
    have hl_b : Hid (w.heap.size < w3.heap.size) := Lib.hid (by omega)
    have hd_b : Hid (w1.heap.size < w3.heap.size ∧ w1.heap.size + 1 < w3.heap.size ∧ w1.heap.size + 1 + 1 < w3.heap.size) := Lib.hid (by omega)
    clear hr0 hl0 hd0a hd0e hd0z hs0a hs0e hs0z hl0a hl0e hl0z
    clear hb
    have hz := F4.out.lt
    have hzp := F3.out.lt
    have h1 := HI4.out
    have HSS := Lib.hid (sin4 (P := (fun b => (((w.heap.size < b) ∧ b ≠ w1.heap.size) ∧ b ≠ w1.heap.size + 1) ∧ b ≠ w1.heap.size + 1 + 1)) HROW.out (⟨⟨⟨by omega, by omega⟩, by omega⟩, by omega⟩) K_a.out.1 K_a.out.2 K_e.out.1 K_e.out.2 K_z.out.1 K_z.out.2 K_b.out.1 K_b.out.2)
    clear hz hzp h1 hm_a hm_e hm_z
    have hrr := (Option.some.inj HR.out).symm
    subst hrr
    obtain ⟨z0, z1, z2, z3, z4, z5, hres⟩ := F4.out.res
    obtain ⟨y0, y1, y2, y3, y4, y5⟩ := six_cells hres
    have x0 := frozen_of_row _ w.heap.size 0 _ _ hres
    have x1 := frozen_of_row _ w.heap.size 1 _ _ hres
    have x2 := frozen_of_row _ w.heap.size 2 _ _ hres
    have x3 := frozen_of_row _ w.heap.size 3 _ _ hres
    have x4 := frozen_of_row _ w.heap.size 4 _ _ hres
    have x5 := frozen_of_row _ w.heap.size 5 _ _ hres
    have HRES := Lib.hid hres
    clear hres
    go_wp2_with fail
    have h1 := HI4.out
    exact ret_cell1A (p := 2) rfl _ rfl _ (load_nd (six_heap HRES.out)) (F4.out.done (HSS.out.wide (fun _ _ hk => hk.1.1.1)) (Nat.le_refl _) (by omega) (by omega) _ _ _ _ _ _ rfl)
  | false =>
   simp only [hc, if_false, Bool.false_eq_true, loopMid] at hr
   have HR := Lib.hid hr
   have HC2 := Lib.hid hc
   clear hr hc
   go_wp2_with fail
   obtain ⟨r2, hx, hr⟩ := bind_pf HR.out
   have HR := Lib.hid hr
   clear hr
   refine (HLH.out (headP s1) _ (F2.out).st (by have h1 := HI2.out; omega) r2 hx).mono ?_
   clear hx
   intro ee w3 he
   cases r2 with
   | bad kk xx =>
    obtain ⟨rfl, hf⟩ := he
    have hrr : r = .bad kk xx := HR.out
    subst hrr
    have HE := Lib.hid ((F2.out).fr.trans hf)
    clear hf
    go_wp2_with fail
    exact ⟨rfl, rfl, HE.out⟩
   | ok tt s3 =>
    obtain ⟨⟨va, vb, vc, rfl, hna, hnb, hnc⟩, hs, hf, hi, ho⟩ := he
    obtain ⟨n_a, n_e, n_z⟩ := tt
    obtain ⟨A_a, c_a, rfl, hc, hk⟩ := (show NIn _ _ n_a _ from hna).open
    have K_a : Hid (n_a.kids.length ≤ c_a ∧ SIn w3 (fun b => (((w.heap.size < b) ∧ b ≠ w1.heap.size) ∧ b ≠ w1.heap.size + 1) ∧ b ≠ w1.heap.size + 1 + 1) n_a.kids A_a) := Lib.hid ⟨hc, hk.wide (fun k _ h1 => ⟨⟨⟨Nat.lt_of_lt_of_le (F2.out).lt h1, Nat.ne_of_gt (Nat.lt_of_lt_of_le (Array.getElem?_eq_some_iff.1 T_a.out).1 h1)⟩, Nat.ne_of_gt (Nat.lt_of_lt_of_le (Array.getElem?_eq_some_iff.1 T_e.out).1 h1)⟩, Nat.ne_of_gt (Nat.lt_of_lt_of_le (Array.getElem?_eq_some_iff.1 T_z.out).1 h1)⟩)⟩
    clear hc hk
    obtain ⟨A_e, c_e, rfl, hc, hk⟩ := (show NIn _ _ n_e _ from hnb).open
    have K_e : Hid (n_e.kids.length ≤ c_e ∧ SIn w3 (fun b => (((w.heap.size < b) ∧ b ≠ w1.heap.size) ∧ b ≠ w1.heap.size + 1) ∧ b ≠ w1.heap.size + 1 + 1) n_e.kids A_e) := Lib.hid ⟨hc, hk.wide (fun k _ h1 => ⟨⟨⟨Nat.lt_of_lt_of_le (F2.out).lt h1, Nat.ne_of_gt (Nat.lt_of_lt_of_le (Array.getElem?_eq_some_iff.1 T_a.out).1 h1)⟩, Nat.ne_of_gt (Nat.lt_of_lt_of_le (Array.getElem?_eq_some_iff.1 T_e.out).1 h1)⟩, Nat.ne_of_gt (Nat.lt_of_lt_of_le (Array.getElem?_eq_some_iff.1 T_z.out).1 h1)⟩)⟩
    clear hc hk
    obtain ⟨A_z, c_z, rfl, hc, hk⟩ := (show NIn _ _ n_z _ from hnc).open
    have K_z : Hid (n_z.kids.length ≤ c_z ∧ SIn w3 (fun b => (((w.heap.size < b) ∧ b ≠ w1.heap.size) ∧ b ≠ w1.heap.size + 1) ∧ b ≠ w1.heap.size + 1 + 1) n_z.kids A_z) := Lib.hid ⟨hc, hk.wide (fun k _ h1 => ⟨⟨⟨Nat.lt_of_lt_of_le (F2.out).lt h1, Nat.ne_of_gt (Nat.lt_of_lt_of_le (Array.getElem?_eq_some_iff.1 T_a.out).1 h1)⟩, Nat.ne_of_gt (Nat.lt_of_lt_of_le (Array.getElem?_eq_some_iff.1 T_e.out).1 h1)⟩, Nat.ne_of_gt (Nat.lt_of_lt_of_le (Array.getElem?_eq_some_iff.1 T_z.out).1 h1)⟩)⟩
    clear hc hk
    have F3 := Lib.hid ((F2.out).step hf hs)
    have HI3 : Hid (1 ≤ s3.i ∧ s.i < s3.i ∧ s3.o = s.o + 0) := Lib.hid (by have h1 := HI2.out; omega)
    have hr0 := HRL.out
    have hl0a := hl_a.out
    have hl0e := hl_e.out
    have hl0z := hl_z.out
    have hl0 := F2.out.lt
    have hs0a := (Array.getElem?_eq_some_iff.1 T_a.out).1
    have hs0e := (Array.getElem?_eq_some_iff.1 T_e.out).1
    have hs0z := (Array.getElem?_eq_some_iff.1 T_z.out).1
    have hd0a := hd_a.out
    have hd0e := hd_e.out
    have hd0z := hd_z.out
    have T_a := Lib.hid (hf.kept (N := w1.heap.size) (by omega) T_a.out)
    have T_e := Lib.hid (hf.kept (N := w1.heap.size + 1) (by omega) T_e.out)
    have T_z := Lib.hid (hf.kept (N := w1.heap.size + 1 + 1) (by omega) T_z.out)
    clear hr0 hl0 hd0a hd0e hd0z hs0a hs0e hs0z hl0a hl0e hl0z
    clear hna hnb hnc hs hf hi ho
    have HI3 : Hid (1 ≤ (bodyP s3).i ∧ s.i < (bodyP s3).i ∧ (bodyP s3).o = s.o + 0) := HI3
    obtain ⟨qa0, qa1, qa2, qa3, qa4, qa5⟩ := six_cells T_a.out
    have qal := (Array.getElem?_eq_some_iff.1 T_a.out).1
    have fa0 := frozen_of_row _ (w1.heap.size) 0 _ _ T_a.out
    have fa1 := frozen_of_row _ (w1.heap.size) 1 _ _ T_a.out
    have fa2 := frozen_of_row _ (w1.heap.size) 2 _ _ T_a.out
    have fa3 := frozen_of_row _ (w1.heap.size) 3 _ _ T_a.out
    have fa4 := frozen_of_row _ (w1.heap.size) 4 _ _ T_a.out
    have fa5 := frozen_of_row _ (w1.heap.size) 5 _ _ T_a.out
    obtain ⟨qe0, qe1, qe2, qe3, qe4, qe5⟩ := six_cells T_e.out
    have qel := (Array.getElem?_eq_some_iff.1 T_e.out).1
    have fe0 := frozen_of_row _ (w1.heap.size + 1) 0 _ _ T_e.out
    have fe1 := frozen_of_row _ (w1.heap.size + 1) 1 _ _ T_e.out
    have fe2 := frozen_of_row _ (w1.heap.size + 1) 2 _ _ T_e.out
    have fe3 := frozen_of_row _ (w1.heap.size + 1) 3 _ _ T_e.out
    have fe4 := frozen_of_row _ (w1.heap.size + 1) 4 _ _ T_e.out
    have fe5 := frozen_of_row _ (w1.heap.size + 1) 5 _ _ T_e.out
    obtain ⟨qz0, qz1, qz2, qz3, qz4, qz5⟩ := six_cells T_z.out
    have qzl := (Array.getElem?_eq_some_iff.1 T_z.out).1
    have fz0 := frozen_of_row _ (w1.heap.size + 1 + 1) 0 _ _ T_z.out
    have fz1 := frozen_of_row _ (w1.heap.size + 1 + 1) 1 _ _ T_z.out
    have fz2 := frozen_of_row _ (w1.heap.size + 1 + 1) 2 _ _ T_z.out
    have fz3 := frozen_of_row _ (w1.heap.size + 1 + 1) 3 _ _ T_z.out
    have fz4 := frozen_of_row _ (w1.heap.size + 1 + 1) 4 _ _ T_z.out
    have fz5 := frozen_of_row _ (w1.heap.size + 1 + 1) 5 _ _ T_z.out
    have qp3 := F3.out.st.cells.2.2.2
    have fp3 := F3.out.st.unf 3
    have nra : ¬ (w1.heap.size = p.R) := by have h1 := hl_a.out; have h2 := HRL.out; omega
    have nsa : ¬ (p.R = w1.heap.size) := by have h1 := hl_a.out; have h2 := HRL.out; omega
    have nre : ¬ (w1.heap.size + 1 = p.R) := by have h1 := hl_e.out; have h2 := HRL.out; omega
    have nse : ¬ (p.R = w1.heap.size + 1) := by have h1 := hl_e.out; have h2 := HRL.out; omega
    have nrz : ¬ (w1.heap.size + 1 + 1 = p.R) := by have h1 := hl_z.out; have h2 := HRL.out; omega
    have nsz : ¬ (p.R = w1.heap.size + 1 + 1) := by have h1 := hl_z.out; have h2 := HRL.out; omega
    have qpl := F3.out.st.rlt
    go_wp2_with fail
    clear qa0 qa1 qa2 qa3 qa4 qa5 qal fa0 fa1 fa2 fa3 fa4 fa5 qe0 qe1 qe2 qe3 qe4 qe5 qel fe0 fe1 fe2 fe3 fe4 fe5 qz0 qz1 qz2 qz3 qz4 qz5 qzl fz0 fz1 fz2 fz3 fz4 fz5 qp3 fp3 nra nsa nre nse nrz nsz qpl
    obtain ⟨r3, hx, hr⟩ := bind_pf HR.out
    have HR := Lib.hid hr
    clear hr
    refine (HB.out (bodyP s3) _ (((((F3.out.set6 (N := w1.heap.size) hl_a.out _ _ _ _ _ _).set6 (N := w1.heap.size + 1) hl_e.out _ _ _ _ _ _).set6 (N := w1.heap.size + 1 + 1) hl_z.out _ _ _ _ _ _).store 3 _ (PSt.store (s' := (bodyP s3)) (((F3.out.set6 (N := w1.heap.size) hl_a.out _ _ _ _ _ _).set6 (N := w1.heap.size + 1) hl_e.out _ _ _ _ _ _).set6 (N := w1.heap.size + 1 + 1) hl_z.out _ _ _ _ _ _).st 3 _ rfl (F3.out.st.lt) (F3.out.st.op) (Nat.zero_le _)))).st (by have h1 := HI3.out; omega) r3 hx).mono ?_
    clear hx
    intro ee w4 he
    cases r3 with
    | bad kk xx =>
     obtain ⟨rfl, hf⟩ := he
     have hrr : r = .bad kk xx := HR.out
     subst hrr
     have HE := Lib.hid ((((((F3.out.set6 (N := w1.heap.size) hl_a.out _ _ _ _ _ _).set6 (N := w1.heap.size + 1) hl_e.out _ _ _ _ _ _).set6 (N := w1.heap.size + 1 + 1) hl_z.out _ _ _ _ _ _).store 3 _ (PSt.store (s' := (bodyP s3)) (((F3.out.set6 (N := w1.heap.size) hl_a.out _ _ _ _ _ _).set6 (N := w1.heap.size + 1) hl_e.out _ _ _ _ _ _).set6 (N := w1.heap.size + 1 + 1) hl_z.out _ _ _ _ _ _).st 3 _ rfl (F3.out.st.lt) (F3.out.st.op) (Nat.zero_le _)))).fr.trans hf)
     clear hf
     go_wp2_with fail
     exact ⟨rfl, rfl, HE.out⟩
    | ok n_b s4 =>
     obtain ⟨⟨v, rfl, hn⟩, hs, hf, hi, ho⟩ := he
     obtain ⟨A_b, c_b, rfl, hc, hk⟩ := hn.open
     have F4 := Lib.hid ((((((F3.out.set6 (N := w1.heap.size) hl_a.out _ _ _ _ _ _).set6 (N := w1.heap.size + 1) hl_e.out _ _ _ _ _ _).set6 (N := w1.heap.size + 1 + 1) hl_z.out _ _ _ _ _ _).store 3 _ (PSt.store (s' := (bodyP s3)) (((F3.out.set6 (N := w1.heap.size) hl_a.out _ _ _ _ _ _).set6 (N := w1.heap.size + 1) hl_e.out _ _ _ _ _ _).set6 (N := w1.heap.size + 1 + 1) hl_z.out _ _ _ _ _ _).st 3 _ rfl (F3.out.st.lt) (F3.out.st.op) (Nat.zero_le _)))).step hf hs)
     have HI4 : Hid (1 ≤ s4.i ∧ s.i < s4.i ∧ s4.o = s.o + 0) := Lib.hid (by have h1 := HI3.out; omega)
     have K_b : Hid (n_b.kids.length ≤ c_b ∧ SIn w4 (fun b => (((w.heap.size < b) ∧ b ≠ w1.heap.size) ∧ b ≠ w1.heap.size + 1) ∧ b ≠ w1.heap.size + 1 + 1) n_b.kids A_b) := Lib.hid ⟨hc, hk.wide (fun k _ h1 => ⟨⟨⟨Nat.lt_of_lt_of_le (((((F3.out.set6 (N := w1.heap.size) hl_a.out _ _ _ _ _ _).set6 (N := w1.heap.size + 1) hl_e.out _ _ _ _ _ _).set6 (N := w1.heap.size + 1 + 1) hl_z.out _ _ _ _ _ _).store 3 _ (PSt.store (s' := (bodyP s3)) (((F3.out.set6 (N := w1.heap.size) hl_a.out _ _ _ _ _ _).set6 (N := w1.heap.size + 1) hl_e.out _ _ _ _ _ _).set6 (N := w1.heap.size + 1 + 1) hl_z.out _ _ _ _ _ _).st 3 _ rfl (F3.out.st.lt) (F3.out.st.op) (Nat.zero_le _)))).lt h1, Nat.ne_of_gt (Nat.lt_of_lt_of_le (Array.getElem?_eq_some_iff.1 (blk_set (a := ⟨p.R, 3, none⟩) (blk_set6 (R := w1.heap.size + 1 + 1) (blk_set6 (R := w1.heap.size + 1) (six_heap T_a.out) (by omega) _ _ _ _ _ _) (by omega) _ _ _ _ _ _) (by show _ ≠ p.R; have h8 := hl_a.out; have h9 := HRL.out; omega))).1 h1)⟩, Nat.ne_of_gt (Nat.lt_of_lt_of_le (Array.getElem?_eq_some_iff.1 (blk_set (a := ⟨p.R, 3, none⟩) (blk_set6 (R := w1.heap.size + 1 + 1) (six_heap (blk_set6 (R := w1.heap.size) T_e.out (by omega) _ _ _ _ _ _)) (by omega) _ _ _ _ _ _) (by show _ ≠ p.R; have h8 := hl_e.out; have h9 := HRL.out; omega))).1 h1)⟩, Nat.ne_of_gt (Nat.lt_of_lt_of_le (Array.getElem?_eq_some_iff.1 (blk_set (a := ⟨p.R, 3, none⟩) (six_heap (blk_set6 (R := w1.heap.size + 1) (blk_set6 (R := w1.heap.size) T_z.out (by omega) _ _ _ _ _ _) (by omega) _ _ _ _ _ _)) (by show _ ≠ p.R; have h8 := hl_z.out; have h9 := HRL.out; omega))).1 h1)⟩)⟩
     have hr0 := HRL.out
     have hl0a := hl_a.out
     have hl0e := hl_e.out
     have hl0z := hl_z.out
     have hl0 := F3.out.lt
     have hs0a := (Array.getElem?_eq_some_iff.1 T_a.out).1
     have hs0e := (Array.getElem?_eq_some_iff.1 T_e.out).1
     have hs0z := (Array.getElem?_eq_some_iff.1 T_z.out).1
     have hd0a := hd_a.out
     have hd0e := hd_e.out
     have hd0z := hd_z.out
     have K_a : Hid (n_a.kids.length ≤ c_a ∧ SIn w4 (fun b => (((w.heap.size < b) ∧ b ≠ w1.heap.size) ∧ b ≠ w1.heap.size + 1) ∧ b ≠ w1.heap.size + 1 + 1) n_a.kids A_a) := Lib.hid (And.intro K_a.out.1 (SIn.fr (SIn.fr (SIn.keep (Q := (fun b => (((w.heap.size < b) ∧ b ≠ w1.heap.size) ∧ b ≠ w1.heap.size + 1) ∧ b ≠ w1.heap.size + 1 + 1)) (fun k hk _ => six_otherP (R := w1.heap.size + 1 + 1) hk.2 ..) (fun _ hk _ => hk) (SIn.keep (Q := (fun b => (((w.heap.size < b) ∧ b ≠ w1.heap.size) ∧ b ≠ w1.heap.size + 1) ∧ b ≠ w1.heap.size + 1 + 1)) (fun k hk _ => six_otherP (R := w1.heap.size + 1) hk.1.2 ..) (fun _ hk _ => hk) (SIn.keep (Q := (fun b => (((w.heap.size < b) ∧ b ≠ w1.heap.size) ∧ b ≠ w1.heap.size + 1) ∧ b ≠ w1.heap.size + 1 + 1)) (fun k hk _ => six_otherP (R := w1.heap.size) hk.1.1.2 ..) (fun _ hk _ => hk) K_a.out.2))) ((PFr.refl p.R _).set (p := ⟨p.R, 3, none⟩) (.inl rfl) _) (fun hh => by have h2 : w.heap.size < p.R := hh.1.1.1; omega)) hf (fun hh => by have h2 : w.heap.size < p.R := hh.1.1.1; omega)))
     have T_a := Lib.hid (hf.kept (N := w1.heap.size) (by omega) (blk_set (a := ⟨p.R, 3, none⟩) (blk_set6 (R := w1.heap.size + 1 + 1) (blk_set6 (R := w1.heap.size + 1) (six_heap T_a.out) (by omega) _ _ _ _ _ _) (by omega) _ _ _ _ _ _) (by show _ ≠ p.R; have h8 := hl_a.out; have h9 := HRL.out; omega)))
     have K_e : Hid (n_e.kids.length ≤ c_e ∧ SIn w4 (fun b => (((w.heap.size < b) ∧ b ≠ w1.heap.size) ∧ b ≠ w1.heap.size + 1) ∧ b ≠ w1.heap.size + 1 + 1) n_e.kids A_e) := Lib.hid (And.intro K_e.out.1 (SIn.fr (SIn.fr (SIn.keep (Q := (fun b => (((w.heap.size < b) ∧ b ≠ w1.heap.size) ∧ b ≠ w1.heap.size + 1) ∧ b ≠ w1.heap.size + 1 + 1)) (fun k hk _ => six_otherP (R := w1.heap.size + 1 + 1) hk.2 ..) (fun _ hk _ => hk) (SIn.keep (Q := (fun b => (((w.heap.size < b) ∧ b ≠ w1.heap.size) ∧ b ≠ w1.heap.size + 1) ∧ b ≠ w1.heap.size + 1 + 1)) (fun k hk _ => six_otherP (R := w1.heap.size + 1) hk.1.2 ..) (fun _ hk _ => hk) (SIn.keep (Q := (fun b => (((w.heap.size < b) ∧ b ≠ w1.heap.size) ∧ b ≠ w1.heap.size + 1) ∧ b ≠ w1.heap.size + 1 + 1)) (fun k hk _ => six_otherP (R := w1.heap.size) hk.1.1.2 ..) (fun _ hk _ => hk) K_e.out.2))) ((PFr.refl p.R _).set (p := ⟨p.R, 3, none⟩) (.inl rfl) _) (fun hh => by have h2 : w.heap.size < p.R := hh.1.1.1; omega)) hf (fun hh => by have h2 : w.heap.size < p.R := hh.1.1.1; omega)))
     have T_e := Lib.hid (hf.kept (N := w1.heap.size + 1) (by omega) (blk_set (a := ⟨p.R, 3, none⟩) (blk_set6 (R := w1.heap.size + 1 + 1) (six_heap (blk_set6 (R := w1.heap.size) T_e.out (by omega) _ _ _ _ _ _)) (by omega) _ _ _ _ _ _) (by show _ ≠ p.R; have h8 := hl_e.out; have h9 := HRL.out; omega)))
     have K_z : Hid (n_z.kids.length ≤ c_z ∧ SIn w4 (fun b => (((w.heap.size < b) ∧ b ≠ w1.heap.size) ∧ b ≠ w1.heap.size + 1) ∧ b ≠ w1.heap.size + 1 + 1) n_z.kids A_z) := Lib.hid (And.intro K_z.out.1 (SIn.fr (SIn.fr (SIn.keep (Q := (fun b => (((w.heap.size < b) ∧ b ≠ w1.heap.size) ∧ b ≠ w1.heap.size + 1) ∧ b ≠ w1.heap.size + 1 + 1)) (fun k hk _ => six_otherP (R := w1.heap.size + 1 + 1) hk.2 ..) (fun _ hk _ => hk) (SIn.keep (Q := (fun b => (((w.heap.size < b) ∧ b ≠ w1.heap.size) ∧ b ≠ w1.heap.size + 1) ∧ b ≠ w1.heap.size + 1 + 1)) (fun k hk _ => six_otherP (R := w1.heap.size + 1) hk.1.2 ..) (fun _ hk _ => hk) (SIn.keep (Q := (fun b => (((w.heap.size < b) ∧ b ≠ w1.heap.size) ∧ b ≠ w1.heap.size + 1) ∧ b ≠ w1.heap.size + 1 + 1)) (fun k hk _ => six_otherP (R := w1.heap.size) hk.1.1.2 ..) (fun _ hk _ => hk) K_z.out.2))) ((PFr.refl p.R _).set (p := ⟨p.R, 3, none⟩) (.inl rfl) _) (fun hh => by have h2 : w.heap.size < p.R := hh.1.1.1; omega)) hf (fun hh => by have h2 : w.heap.size < p.R := hh.1.1.1; omega)))
     have T_z := Lib.hid (hf.kept (N := w1.heap.size + 1 + 1) (by omega) (blk_set (a := ⟨p.R, 3, none⟩) (six_heap (blk_set6 (R := w1.heap.size + 1) (blk_set6 (R := w1.heap.size) T_z.out (by omega) _ _ _ _ _ _) (by omega) _ _ _ _ _ _)) (by show _ ≠ p.R; have h8 := hl_z.out; have h9 := HRL.out; omega)))
     clear hr0 hl0 hd0a hd0e hd0z hs0a hs0e hs0z hl0a hl0e hl0z
     clear hn hc hk hs hf hi ho
     obtain ⟨qa0, qa1, qa2, qa3, qa4, qa5⟩ := six_cells T_a.out
     have qal := (Array.getElem?_eq_some_iff.1 T_a.out).1
     obtain ⟨qe0, qe1, qe2, qe3, qe4, qe5⟩ := six_cells T_e.out
     have qel := (Array.getElem?_eq_some_iff.1 T_e.out).1
     obtain ⟨qz0, qz1, qz2, qz3, qz4, qz5⟩ := six_cells T_z.out
     have qzl := (Array.getElem?_eq_some_iff.1 T_z.out).1
     go_wp2_with fail
     clear qa0 qa1 qa2 qa3 qa4 qa5 qal qe0 qe1 qe2 qe3 qe4 qe5 qel qz0 qz1 qz2 qz3 qz4 qz5 qzl
     refine (pmade_any p s4 _ (((F4.out.alloc _).alloc _)).st (by have h1 := HI4.out; omega) _ _ _ _ _ _ _).mono ?_
     rintro ee w5 ⟨rfl, hb⟩
     have F5 := Lib.hid ((((F4.out.alloc _).alloc _)).below hb)
     have HI5 := HI4
     have hrow := blk_below (alloc_top (World.alloc w4 _) _ _) hb
     simp only [World.size_alloc] at hrow
     have HROW := Lib.hid hrow
     clear hrow
     have hm_a := (Array.getElem?_eq_some_iff.1 T_a.out).1
     have hm_e := (Array.getElem?_eq_some_iff.1 T_e.out).1
     have hm_z := (Array.getElem?_eq_some_iff.1 T_z.out).1
     have hr0 := HRL.out
     have hl0a := hl_a.out
     have hl0e := hl_e.out
     have hl0z := hl_z.out
     have hl0 := F4.out.lt
     have hs0a := (Array.getElem?_eq_some_iff.1 T_a.out).1
     have hs0e := (Array.getElem?_eq_some_iff.1 T_e.out).1
     have hs0z := (Array.getElem?_eq_some_iff.1 T_z.out).1
     have hd0a := hd_a.out
     have hd0e := hd_e.out
     have hd0z := hd_z.out
     have K_a : Hid (n_a.kids.length ≤ c_a ∧ SIn w5 (fun b => (((w.heap.size < b) ∧ b ≠ w1.heap.size) ∧ b ≠ w1.heap.size + 1) ∧ b ≠ w1.heap.size + 1 + 1) n_a.kids A_a) := Lib.hid (And.intro K_a.out.1 (SIn.fr (SIn.below (SIn.below K_a.out.2 (alloc_below _ _)) (alloc_below _ _)) (PFr.of_below (R := p.R) hb) (fun hh => by have h2 : w.heap.size < p.R := hh.1.1.1; omega)))
     have T_a := Lib.hid ((PFr.of_below (R := p.R) hb).kept (N := w1.heap.size) (by omega) (blk_alloc (blk_alloc T_a.out)))
     have K_e : Hid (n_e.kids.length ≤ c_e ∧ SIn w5 (fun b => (((w.heap.size < b) ∧ b ≠ w1.heap.size) ∧ b ≠ w1.heap.size + 1) ∧ b ≠ w1.heap.size + 1 + 1) n_e.kids A_e) := Lib.hid (And.intro K_e.out.1 (SIn.fr (SIn.below (SIn.below K_e.out.2 (alloc_below _ _)) (alloc_below _ _)) (PFr.of_below (R := p.R) hb) (fun hh => by have h2 : w.heap.size < p.R := hh.1.1.1; omega)))
     have T_e := Lib.hid ((PFr.of_below (R := p.R) hb).kept (N := w1.heap.size + 1) (by omega) (blk_alloc (blk_alloc T_e.out)))
     have K_z : Hid (n_z.kids.length ≤ c_z ∧ SIn w5 (fun b => (((w.heap.size < b) ∧ b ≠ w1.heap.size) ∧ b ≠ w1.heap.size + 1) ∧ b ≠ w1.heap.size + 1 + 1) n_z.kids A_z) := Lib.hid (And.intro K_z.out.1 (SIn.fr (SIn.below (SIn.below K_z.out.2 (alloc_below _ _)) (alloc_below _ _)) (PFr.of_below (R := p.R) hb) (fun hh => by have h2 : w.heap.size < p.R := hh.1.1.1; omega)))
     have T_z := Lib.hid ((PFr.of_below (R := p.R) hb).kept (N := w1.heap.size + 1 + 1) (by omega) (blk_alloc (blk_alloc T_z.out)))
     have K_b : Hid (n_b.kids.length ≤ c_b ∧ SIn w5 (fun b => (((w.heap.size < b) ∧ b ≠ w1.heap.size) ∧ b ≠ w1.heap.size + 1) ∧ b ≠ w1.heap.size + 1 + 1) n_b.kids A_b) := Lib.hid (And.intro K_b.out.1 (SIn.fr (SIn.below (SIn.below K_b.out.2 (alloc_below _ _)) (alloc_below _ _)) (PFr.of_below (R := p.R) hb) (fun hh => by have h2 : w.heap.size < p.R := hh.1.1.1; omega)))
     have T_b := Lib.hid ((PFr.of_below (R := p.R) hb).kept (N := w4.heap.size) (by omega) (blk_alloc (alloc_top w4 _ _)))
     have hl_b : Hid (w.heap.size < w4.heap.size) := Lib.hid (by omega)
     have hd_b : Hid (w1.heap.size < w4.heap.size ∧ w1.heap.size + 1 < w4.heap.size ∧ w1.heap.size + 1 + 1 < w4.heap.size) := Lib.hid (by omega)
     clear hr0 hl0 hd0a hd0e hd0z hs0a hs0e hs0z hl0a hl0e hl0z
     clear hb
     have hz := F5.out.lt
     have hzp := F4.out.lt
     have h1 := HI5.out
     have HSS := Lib.hid (sin4 (P := (fun b => (((w.heap.size < b) ∧ b ≠ w1.heap.size) ∧ b ≠ w1.heap.size + 1) ∧ b ≠ w1.heap.size + 1 + 1)) HROW.out (⟨⟨⟨by omega, by omega⟩, by omega⟩, by omega⟩) K_a.out.1 K_a.out.2 K_e.out.1 K_e.out.2 K_z.out.1 K_z.out.2 K_b.out.1 K_b.out.2)
     clear hz hzp h1 hm_a hm_e hm_z
     have hrr := (Option.some.inj HR.out).symm
     subst hrr
     obtain ⟨z0, z1, z2, z3, z4, z5, hres⟩ := F5.out.res
     obtain ⟨y0, y1, y2, y3, y4, y5⟩ := six_cells hres
     have x0 := frozen_of_row _ w.heap.size 0 _ _ hres
     have x1 := frozen_of_row _ w.heap.size 1 _ _ hres
     have x2 := frozen_of_row _ w.heap.size 2 _ _ hres
     have x3 := frozen_of_row _ w.heap.size 3 _ _ hres
     have x4 := frozen_of_row _ w.heap.size 4 _ _ hres
     have x5 := frozen_of_row _ w.heap.size 5 _ _ hres
     have HRES := Lib.hid hres
     clear hres
     go_wp2_with fail
     have h1 := HI5.out
     exact ret_cell1A (p := 2) rfl _ rfl _ (load_nd (six_heap HRES.out)) (F5.out.done (HSS.out.wide (fun _ _ hk => hk.1.1.1)) (Nat.le_refl _) (by omega) (by omega) _ _ _ _ _ _ rfl)
end Go.Proofs.YtmlclgkhnekmnaaGreatDoor
