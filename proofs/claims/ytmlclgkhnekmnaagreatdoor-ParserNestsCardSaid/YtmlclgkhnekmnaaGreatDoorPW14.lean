/- What an import's text is (valT), and what is kept below the block that a call began with. The parser's imported. (Written by a program.) -/
import Derived.Test.YtmlclgkhnekmnaaGreatDoorPFl
import Derived.Test.YtmlclgkhnekmnaaGreatDoorPW1
namespace Go.Proofs.YtmlclgkhnekmnaaGreatDoor
open Go.RowKit
theorem txt_size0 (l : List UInt8) : (txt l).size = l.length := rfl
theorem valV_t (x : List UInt8) : valV (valR x) = .tuple #[.string (txt (valT x)), .int .i64 (valE (valR x) : Int)] := by
 unfold valT
 cases h : valR x with
 | ok y => rfl
 | error e => rfl
theorem valT_len (x : List UInt8) : (valT x).length ≤ x.length := by
 unfold valT
 cases h : valR x with
 | error e => simp
 | ok z =>
  unfold valR at h
  cases h2 : uqS x with
  | none => rw [h2] at h; cases h
  | some r =>
   obtain ⟨y, n⟩ := r
   have h3 := uqS_len h2
   rw [h2] at h
   simp only at h
   repeat' split at h
   all_goals first | (injection h with h; subst h; show List.length _ ≤ _; simp only; omega) | cases h
theorem PFr.low {R B : Nat} {a b : World} (h : PFr R a b) (hR : B ≤ R) (hB : B ≤ a.heap.size) : Below B a b := ⟨h.os, h.tape, h.output, h.size, fun k hk => h.block k (by omega) (by omega)⟩
end Go.Proofs.YtmlclgkhnekmnaaGreatDoor
namespace Go.Proofs.YtmlclgkhnekmnaaGreatDoor
open Go.RowKit
set_option maxRecDepth 100000 in
set_option maxHeartbeats 4000000 in
theorem pimported_any (p : PC) (w00 : World) (hF : ∀ W, Below w00.heap.size w00 W → Facts W) (hR0 : w00.heap.size ≤ p.R) (s : Ps) (w : World) (hs : PSt p w s) (hi : 1 ≤ s.i) (hB : Below w00.heap.size w00 w) (r : Pz Nd) (hr : (importedP p.ts) s = some r) : Calls Tryz.prog 66 #[.pointer (some ⟨p.R, 0, none⟩)] w (NdEnd p w s r) := by
 unfold importedP at hr
 have HR := Lib.hid hr
 have HI0 : Hid (1 ≤ s.i ∧ s.i ≤ s.i ∧ s.o = s.o) := Lib.hid ⟨hi, Nat.le_refl _, rfl⟩
 have HF := Lib.hid hF
 have HR0 := Lib.hid hR0
 have HB := Lib.hid hB
 have tf0 := tk_f0
 have tf1 := tk_f1
 have tf2 := tk_f2
 have HRL := Lib.hid (And.intro hs.rlt hs.glt)
 have HNB : Hid (¬ (w.heap.size < p.R)) := Lib.hid (by have := hs.rlt; omega)
 have FS := Lib.hid (Fm.start hs (.int .i64 0) (.int .i64 0) (.int .i64 0) (.int .i64 0) (.string ⟨#[]⟩) (.slice none 0 0))
 obtain ⟨w0, hw0⟩ : ∃ W, W = w.alloc (.cells #[.int .i64 0, .int .i64 0, .int .i64 0, .int .i64 0, .string ⟨#[]⟩, .slice none 0 0] 24) := ⟨_, rfl⟩
 have F0 : Hid (Fm p w w0 s) := Lib.hid (by rw [hw0]; exact FS.out)
 have HW0 := Lib.hid hw0
 clear hs hi hr hw0 FS hF hR0 hB
 go_enter Tryz.func66, Tryz.ntmps66
 go_wp2_with fail
 rw [← HW0.out]
 obtain ⟨r1, hx, hr⟩ := bind_pf HR.out
 have HR := Lib.hid hr
 clear hr
 refine (ptake_any p wImport (by decide) s _ (F0.out).st r1 hx).mono ?_
 clear hx
 intro ee w1 he
 cases r1 with
 | bad kk xx =>
  obtain ⟨rfl, hf⟩ := he
  have hrr : r = .bad kk xx := HR.out
  subst hrr
  have HE := Lib.hid ((F0.out).fr.trans hf)
  clear hf
  go_wp2_with fail
  exact ⟨rfl, rfl, HE.out⟩
 | ok t1 s1 =>
  obtain ⟨rfl, hs, hf, hi, ho⟩ := he
  have F1 := Lib.hid ((F0.out).step hf hs)
  have HI1 : Hid (1 ≤ s1.i ∧ s.i < s1.i ∧ s1.o = s.o + 0) := Lib.hid (by have h1 := HI0.out; omega)
  have hr0 := HRL.out
  have hl0 := F0.out.lt
  clear hr0 hl0
  clear hs hf hi ho
  go_wp2_with fail
  refine (pkind_any p 5 s1 _ (F1.out).st).mono ?_
  rintro ee w2 ⟨rfl, hb⟩
  have F2 := Lib.hid ((F1.out).below hb)
  have HI2 := HI1
  have hr0 := HRL.out
  have hl0 := F1.out.lt
  clear hr0 hl0
  clear hb
  obtain ⟨b, hc⟩ : ∃ b, kdB p.ts s1 5 = b := ⟨_, rfl⟩
  have hr := HR.out
  try rw [hc]
  cases b with
  | true =>
   simp only [hc, if_true] at hr
   have HR := Lib.hid hr
   have HC2 := Lib.hid hc
   clear hr hc
   go_wp2_with fail
   refine (ptoken_any p s1 _ (F2.out).st).mono ?_
   rintro ee w3 ⟨rfl, hb⟩
   have F3 := Lib.hid ((F2.out).below hb)
   have HI3 := HI2
   have hr0 := HRL.out
   have hl0 := F2.out.lt
   clear hr0 hl0
   clear hb
   go_wp2_with fail
   have htl := tk_size F3.out.st
   refine (value_any (txt (tk p.ts s1).2.1) (by rw [txt_size0]; omega) _ (HF.out _ (HB.out.trans (F3.out.fr.low HR0.out HB.out.size)))).mono ?_
   rintro ee w4 ⟨rfl, hb⟩
   rw [valV_t]
   have F4 := Lib.hid (F3.out.below hb)
   have HI4 := HI3
   clear hb
   go_wp2_with fail
   refine (name_any (txt (valT (tk p.ts s1).2.1)) (by rw [txt_size0]; have h1 := valT_len (tk p.ts s1).2.1; omega) _).mono ?_
   rintro ee wq ⟨rfl, rfl⟩
   obtain ⟨b, hc⟩ : ∃ b, nameB (valT (tk p.ts s1).2.1) = b := ⟨_, rfl⟩
   have hr := HR.out
   try rw [hc]
   cases b with
   | true =>
    simp only [hc, if_true] at hr
    have HR := Lib.hid hr
    rw [show nameB (txt (valT (tk p.ts s1).2.1)).data.toList = true from hc]
    clear hr hc htl
    go_wp2_with fail
    refine (pnext_any p s1 _ (F4.out).st (F4.out.st.more_kd (k := 5) (by decide) HC2.out)).mono ?_
    rintro ee w5 ⟨rfl, hs, hf, -, -⟩
    have F5 := Lib.hid ((F4.out).step hf hs)
    have HI5 : Hid (1 ≤ (adv s1).i ∧ s.i < (adv s1).i ∧ (adv s1).o = s.o + 0) := Lib.hid (by have h1 := HI4.out; unfold adv; simp only; omega)
    have hr0 := HRL.out
    have hl0 := F4.out.lt
    clear hr0 hl0
    clear hs hf
    go_wp2_with fail
    refine (pmade_any p (adv s1) _ (F5.out).st (by have h1 := HI5.out; omega) _ _ _ _ _ _ _).mono ?_
    rintro ee w6 ⟨rfl, hb⟩
    have F6 := Lib.hid ((F5.out).below hb)
    have HI6 := HI5
    have hr0 := HRL.out
    have hl0 := F5.out.lt
    clear hr0 hl0
    clear hb
    have hz := F6.out.lt
    have hzp := F5.out.lt
    have h1 := HI6.out
    have HSS := Lib.hid (sin0 (W := w6) (P := (fun b => w.heap.size < b)))
    clear hz hzp h1
    have hrr := (Option.some.inj HR.out).symm
    subst hrr
    obtain ⟨z0, z1, z2, z3, z4, z5, hres⟩ := F6.out.res
    obtain ⟨y0, y1, y2, y3, y4, y5⟩ := six_cells hres
    have yl := (Array.getElem?_eq_some_iff.1 hres).1
    have x0 := frozen_of_row _ (w.heap.size) 0 _ _ hres
    have x1 := frozen_of_row _ (w.heap.size) 1 _ _ hres
    have x2 := frozen_of_row _ (w.heap.size) 2 _ _ hres
    have x3 := frozen_of_row _ (w.heap.size) 3 _ _ hres
    have x4 := frozen_of_row _ (w.heap.size) 4 _ _ hres
    have x5 := frozen_of_row _ (w.heap.size) 5 _ _ hres
    have HRES := Lib.hid hres
    clear hres
    go_wp2_with fail
    have h1 := HI6.out
    exact ret_cell1A (p := 2) rfl _ rfl _ (load_nd (six_heap HRES.out)) (F6.out.done (HSS.out.wide (fun _ _ hk => hk)) (Nat.le_refl _) (by omega) (by omega) _ _ _ _ _ _ rfl)
   | false =>
    simp only [hc, Bool.false_eq_true, if_false] at hr
    have HR := Lib.hid hr
    rw [show nameB (txt (valT (tk p.ts s1).2.1)).data.toList = false from hc]
    clear hr hc htl
    go_wp2_with fail
    have hrr := (Option.some.inj (show some (Pz.bad _ _) = some r from HR.out)).symm
    subst hrr
    refine (pfail_any p 9 s1 _ (F4.out).st).mono ?_
    rintro ee w5 ⟨rfl, hb⟩
    have HE := Lib.hid ((F4.out).fr.trans (PFr.of_below hb))
    clear hb
    go_wp2_with fail
    exact ⟨rfl, rfl, HE.out⟩
  | false =>
   simp only [hc, if_false, Bool.false_eq_true] at hr
   have HR := Lib.hid hr
   have HC2 := Lib.hid hc
   clear hr hc
   go_wp2_with fail
   have hrr := (Option.some.inj (show some (Pz.bad _ _) = some r from HR.out)).symm
   subst hrr
   refine (pfail_any p 4 s1 _ (F2.out).st).mono ?_
   rintro ee w3 ⟨rfl, hb⟩
   have HE := Lib.hid ((F2.out).fr.trans (PFr.of_below hb))
   clear hb
   go_wp2_with fail
   exact ⟨rfl, rfl, HE.out⟩
end Go.Proofs.YtmlclgkhnekmnaaGreatDoor
