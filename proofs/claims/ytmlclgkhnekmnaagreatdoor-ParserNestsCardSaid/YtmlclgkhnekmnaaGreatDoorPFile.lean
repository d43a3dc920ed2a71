/- Two tokens, compared. The parser's file: its two loops. Conditions: what the variables hold (Facts), wherever nothing below the parser has turned. -/
import Derived.Test.YtmlclgkhnekmnaaGreatDoorPLeaf3
import Derived.Test.YtmlclgkhnekmnaaGreatDoorPKnot2
import Derived.Test.YtmlclgkhnekmnaaGreatDoorPW14
import Derived.Test.YtmlclgkhnekmnaaGreatDoorPKids
namespace Go.Proofs.YtmlclgkhnekmnaaGreatDoor
open Go.RowKit
theorem txt_beq (x y : List UInt8) : ((txt x).toList == (txt y).toList) = (x == y) := by rw [txt_list, txt_list]
theorem int_beq (x y : Nat) : (((x : Nat) : Int) == ((y : Nat) : Int)) = (x == y) := by
 rw [Bool.eq_iff_iff, beq_iff_eq, beq_iff_eq]; omega
theorem tok_beq (a b : Tok) : (a == b) = (a.1 == b.1 && (a.2.1 == b.2.1 && (a.2.2.1 == b.2.2.1 && a.2.2.2 == b.2.2.2))) := by
 obtain ⟨a1, a2, a3, a4⟩ := a
 obtain ⟨b1, b2, b3, b4⟩ := b
 rfl
end Go.Proofs.YtmlclgkhnekmnaaGreatDoor
namespace Go.Proofs.YtmlclgkhnekmnaaGreatDoor
open Go.RowKit
structure Fi (p : PC) (w W : World) (s : Ps) (N : Nat) (t : Tok) (v : Value) (D : List NdP) : Prop where
 fm : Fm p w W s
 tok : W.heap[N]? = some (.cells (cTk t) 65 (0, 0))
 big : w.heap.size < N
 row : RowI W (N + 1) v D
theorem Fi.plt {p : PC} {w W : World} {s : Ps} {N : Nat} {t : Tok} {v : Value} {D : List NdP} (h : Fi p w W s N t v D) : p.R < N + 1 := by have := h.fm.rlt; have := h.big; omega
theorem Fi.step {p : PC} {w W W' : World} {s s' : Ps} {N : Nat} {t : Tok} {v : Value} {D : List NdP} (h : Fi p w W s N t v D) (hf : PFr p.R W W') (hs : PSt p W' s') : Fi p w W' s' N t v D :=
 ⟨h.fm.step hf hs, hf.kept (by have := h.fm.rlt; have := h.big; omega) h.tok, h.big, h.row.fr hf h.plt⟩
theorem Fi.below {p : PC} {w W W' : World} {s : Ps} {N : Nat} {t : Tok} {v : Value} {D : List NdP} (h : Fi p w W s N t v D) (hb : Below W.heap.size W W') : Fi p w W' s N t v D := h.step (PFr.of_below hb) (h.fm.st.below hb)
theorem Fi.alloc {p : PC} {w W : World} {s : Ps} {N : Nat} {t : Tok} {v : Value} {D : List NdP} (h : Fi p w W s N t v D) (o : Obj) : Fi p w (W.alloc o) s N t v D := h.below (alloc_below W o)
theorem Fi.drew {p : PC} {w W : World} {s : Ps} {N : Nat} {t : Tok} {v : Value} {D : List NdP} (h : Fi p w W s N t v D) : Fi p w W.drew s N t v D := h.step (PFr.refl p.R W).drew (h.fm.st.keep rfl rfl)
theorem Fi.app {p : PC} {w W W' : World} {s : Ps} {N : Nat} {t : Tok} {v v' : Value} {D : List NdP} {d : NdP} (h : Fi p w W s N t v D) (hc : d.1.kids.length ≤ d.2.2) (hk : SIn W (fun b => N + 1 ≤ b ∧ v.ownBlock ≠ some b) d.1.kids d.2.1)
 (hown : W'.ownsRow (N + 1) 24 6 v' (D.length + 1) (nc6s D ++ nc6 d)) (hg : W.grownBy W' v.ownBlock) (hn : ∀ k, v'.ownBlock = some k → v.ownBlock = some k ∨ W.heap.size ≤ k) : Fi p w W' s N t v' (D ++ [d]) := by
 have hlt : ∀ k, v.ownBlock = some k → N + 1 ≤ k := fun k hk => (World.ownsRow.lt h.row.own k hk).1
 have kp : ∀ k, k < W.heap.size → k ≤ N → W'.heap[k]? = W.heap[k]? := fun k h1 h2 => hg.block k h1 (fun e => by have := hlt k e.symm; omega)
 have hbig := h.big
 have hr := h.fm.rlt
 have hgl := h.fm.glt
 have hN := (Array.getElem?_eq_some_iff.1 h.tok).1
 obtain ⟨c0, c1, c2, c3, c4, c5, hres⟩ := h.fm.res
 have h1 := h.fm.lt
 refine ⟨⟨h.fm.st.keep (kp _ h.fm.st.rlt (by omega)) (kp _ h.fm.st.glt (by omega)), ⟨hg.os.trans h.fm.fr.os, hg.tape.trans h.fm.fr.tape, hg.output.trans h.fm.fr.output, Nat.le_trans h.fm.fr.size hg.size, fun k hk hx => (kp k (by have := h.fm.fr.size; omega) (by omega)).trans (h.fm.fr.block k hk hx)⟩, hr, hgl, c0, c1, c2, c3, c4, c5, (kp _ h1 (by omega)).trans hres⟩, (kp N hN (Nat.le_refl _)).trans h.tok, hbig, h.row.app hc hk hown hg hn⟩
set_option maxRecDepth 100000 in
set_option maxHeartbeats 8000000 in
theorem pfile_any (p : PC) (w00 : World) (hF : ∀ W, Below w00.heap.size w00 W → Facts W) (hR0 : w00.heap.size ≤ p.R) (f : Nat) (s : Ps) (w : World) (hs : PSt p w s) (hB : Below w00.heap.size w00 w) (r : Pz Nd) (hr : fileP p.ts f s = some r) : Calls Tryz.prog 42 #[.pointer (some ⟨p.R, 0, none⟩)] w (NdEnd p w s r) := by
 obtain ⟨i0, hi0, hz0, hz1, hz2⟩ := info_parts Tryz.infoNdP
 unfold fileP at hr
 have HR := Lib.hid hr
 have HF := Lib.hid hF
 have HR0 := Lib.hid hR0
 have HB := Lib.hid hB
 have HI := Lib.hid hi0
 have HZ0 := Lib.hid hz0
 have HZ1 := Lib.hid hz1
 have HZ2 := Lib.hid hz2
 have HRL := Lib.hid (And.intro hs.rlt hs.glt)
 have HBD : Hid (p.ts.length ≤ 300000) := Lib.hid hs.ok.len
 have FS := Lib.hid (Fm.start hs (.int .i64 0) (.int .i64 0) (.int .i64 0) (.int .i64 0) (.string ⟨#[]⟩) (.slice none 0 0))
 obtain ⟨w0, hw0⟩ : ∃ W, W = w.alloc (.cells #[.int .i64 0, .int .i64 0, .int .i64 0, .int .i64 0, .string ⟨#[]⟩, .slice none 0 0] 24) := ⟨_, rfl⟩
 have F0 : Hid (Fm p w w0 s) := Lib.hid (by rw [hw0]; exact FS.out)
 have HW0 := Lib.hid hw0
 clear hs hr hw0 FS hF hR0 hB hi0 hz0 hz1 hz2
 go_enter Tryz.func42, Tryz.ntmps42
 go_wp2_with fail
 rw [← HW0.out]
 obtain ⟨r1, hx, hr⟩ := bind_pf HR.out
 have HR1 := Lib.hid hr
 clear hr HR
 refine (ptake_any p wPackage (by decide) s _ F0.out.st r1 hx).mono ?_
 clear hx
 intro ee w1 he
 cases r1 with
 | bad kk xx =>
  obtain ⟨rfl, hf⟩ := he
  have hrr : r = .bad kk xx := HR1.out
  subst hrr
  have HE := Lib.hid (F0.out.fr.trans hf)
  clear hf
  go_wp2_with fail
  exact ⟨rfl, rfl, HE.out⟩
 | ok t1 s1 =>
  obtain ⟨rfl, hs, hf, hi, ho⟩ := he
  have F1 := Lib.hid (F0.out.step hf hs)
  have HI1 : Hid (1 ≤ s1.i ∧ s.i < s1.i ∧ s1.o = s.o) := Lib.hid (by omega)
  clear hs hf hi ho
  go_wp2_with fail
  obtain ⟨r2, hx, hr⟩ := bind_pf HR1.out
  have HR2 := Lib.hid hr
  clear hr HR1
  refine (ptakeK_any p 1 (by decide) s1 _ F1.out.st r2 hx).mono ?_
  clear hx
  intro ee w2 he
  cases r2 with
  | bad kk xx =>
   obtain ⟨rfl, hf⟩ := he
   have hrr : r = .bad kk xx := HR2.out
   subst hrr
   have HE := Lib.hid (F1.out.fr.trans hf)
   clear hf
   go_wp2_with fail
   exact ⟨rfl, rfl, HE.out⟩
  | ok t s2 =>
   obtain ⟨rfl, hs, hf, hi, ho⟩ := he
   have F2 := Lib.hid (F1.out.step hf hs)
   have HI2 : Hid (1 ≤ s2.i ∧ s.i < s2.i ∧ s2.o = s.o) := Lib.hid (by have h1 := HI1.out; omega)
   clear hs hf hi ho
   have G2 : Hid (Fi p w (w2.alloc (.cells (cTk t) 65)) s2 w2.heap.size t (.slice none 0 0) []) := Lib.hid ⟨F2.out.alloc _, alloc_top w2 _ _, F2.out.lt, RowI.nil _ _⟩
   go_wp2_with fail
   obtain ⟨r3, hx, hr⟩ := bind_pf HR2.out
   have HR3 := Lib.hid hr
   clear hr HR2
   refine (ptakeK_any p 7 (by decide) s2 _ G2.out.fm.st r3 hx).mono ?_
   clear hx
   intro ee w3 he
   cases r3 with
   | bad kk xx =>
    obtain ⟨rfl, hf⟩ := he
    have hrr : r = .bad kk xx := HR3.out
    subst hrr
    have HE := Lib.hid (G2.out.fm.fr.trans hf)
    clear hf
    go_wp2_with fail
    exact ⟨rfl, rfl, HE.out⟩
   | ok t3 s3 =>
    obtain ⟨rfl, hs, hf, hi, ho⟩ := he
    have G3 := Lib.hid (G2.out.step hf hs)
    have HI3 : Hid (1 ≤ s3.i ∧ s.i < s3.i ∧ s3.o = s.o) := Lib.hid (by have h1 := HI2.out; omega)
    clear hs hf hi ho
    obtain ⟨r4, hx, hr⟩ := bind_pf HR3.out
    have HR4 := Lib.hid hr
    have HX4 : Hid (importsL p.ts f [] s3 = some r4) := Lib.hid hx
    clear hr hx HR3
    obtain ⟨N, hN⟩ : ∃ N, w2.heap.size = N := ⟨_, rfl⟩
    rw [hN] at G3
    go_wp2_with fail
    go_loopg [4] f (fun gf v wr => ∃ (D : List NdP) (st : Ps), Hid (importsL p.ts gf (D.map (·.1)) st = some r4) ∧ Hid (Fi p w wr st N t v D) ∧ Hid (1 ≤ st.i ∧ s.i < st.i ∧ st.o = s.o ∧ D.length < st.i))
    case atStart => exact ⟨[], s3, HX4, G3, Lib.hid (by have h1 := HI3.out; exact ⟨h1.1, h1.2.1, h1.2.2, h1.1⟩)⟩
    case round =>
     clear HX4 HI3 HI2 HI1 F0 F1 F2 HW0
     obtain ⟨D, st, HL, HG, HP⟩ := hrel
     obtain ⟨gf, rfl⟩ : ∃ n, gk = n + 1 := by
      cases gk with
      | zero => have h1 := HL.out; cases h1
      | succ n => exact ⟨n, rfl⟩
     obtain ⟨A0, c0, rfl⟩ := slice_form HG.out.row.own
     go_wp2_with fail
     refine (pstands_any p wImport st _ HG.out.fm.st).mono ?_
     rintro ee W0 ⟨rfl, hb⟩
     have HG0 := Lib.hid (HG.out.below hb)
     obtain ⟨b, hc⟩ : ∃ b, atB p.ts st wImport = b := ⟨_, rfl⟩
     have hl := HL.out
     unfold importsL at hl
     rw [hc]
     clear hb HL HG
     cases b with
     | true =>
      simp only [hc, if_true] at hl
      obtain ⟨r5, hx, hl⟩ := bind_pf hl
      have HL5 := Lib.hid hl
      have HX5 := Lib.hid hx
      clear hc hl hx
      go_wp2_with fail
      refine (pimported_any p w00 HF.out HR0.out st _ HG0.out.fm.st HP.out.1 (HB.out.trans (HG0.out.fm.fr.low HR0.out HB.out.size)) r5 HX5.out).mono ?_
      intro ee w4 he
      cases r5 with
      | bad kk xx =>
       obtain ⟨rfl, hf⟩ := he
       have hr4 : r4 = .bad kk xx := HL5.out
       subst hr4
       have hrr : r = .bad kk xx := HR4.out
       subst hrr
       have HE := Lib.hid (HG0.out.fm.fr.trans hf)
       clear hf
       go_wp2_with fail
       exact ⟨rfl, rfl, HE.out⟩
      | ok n s4 =>
       obtain ⟨⟨v, rfl, hn⟩, hs, hf, hi, ho⟩ := he
       obtain ⟨ja, jc, rfl, hjc, hj⟩ := hn.open
       have HG1 := Lib.hid (HG0.out.step hf hs)
       have hnl : N < W0.heap.size := (Array.getElem?_eq_some_iff.1 HG0.out.tok).1
       have hj2 := (hj.wide (Q := fun b => N + 1 ≤ b ∧ (Value.slice A0 D.length c0).ownBlock ≠ some b) (fun k hk h1 => ⟨by omega, fun e => by have := (World.ownsRow.lt HG0.out.row.own k e).2; omega⟩)).below (alloc_below w4 (.cells #[.int .i64 n.kind, .int .i64 n.fro, .int .i64 n.till, .int .i64 n.at', .string n.name, .slice ja n.kids.length jc] 24))
       have HG2 := Lib.hid (HG1.out.alloc (.cells #[.int .i64 n.kind, .int .i64 n.fro, .int .i64 n.till, .int .i64 n.at', .string n.name, .slice ja n.kids.length jc] 24))
       have HJ2 := Lib.hid (And.intro hjc hj2)
       have HP2 : Hid (1 ≤ s4.i ∧ s.i < s4.i ∧ s4.o = s.o ∧ D.length + 1 < s4.i + 1 ∧ D.length + 1 ≤ s4.i) := Lib.hid (by have h1 := HP.out; omega)
       have hDl : D.length ≤ 1000000 := by have h1 := HP.out; have h2 := HG0.out.fm.st.lt; have h3 := HBD.out; omega
       have hN1 : N + 1 ≤ w4.heap.size := (Array.getElem?_eq_some_iff.1 HG1.out.tok).1
       clear hn hjc hj hs hf hi ho hnl hj2
       go_wp2_with (at_builtin; refine wpList_append_own2 _ rfl _ _ 22 rfl (N + 1) 24 i0 (.agg #[.int .i64 0, .int .i64 0, .int .i64 0, .int .i64 0, .string ⟨#[]⟩, .slice none 0 0]) 6 72 Tryz.underlying22 HI.out HZ0.out HZ1.out HZ2.out rfl (by decide) _ _ _ rfl HG2.out.row.own ⟨w4.heap.size, 0, none⟩ 1 1 [.int .i64 n.kind, .int .i64 n.fro, .int .i64 n.till, .int .i64 n.at', .string n.name, .slice ja n.kids.length jc] rfl rfl (new_cell w4 _ _) ?c2 ?c3 ?c4 ?c5 ?_)
       case c2 => simp [Value.oneCell']
       case c3 => unfold maxLen; omega
       case c4 => omega
       case c5 => simp only [World.size_alloc]; omega
       intro v2 w5 hown2 hgr2 hne2
       have HG3 : Hid (Fi p w w5 s4 N t v2 (D ++ [(n, ja, jc)])) := Lib.hid (HG2.out.app (d := (n, ja, jc)) HJ2.out.1 HJ2.out.2 hown2 hgr2 (fun k hk => by rw [World.size_alloc]; exact hne2 k hk))
       obtain ⟨q2, qc2, rfl⟩ := slice_form hown2
       clear hown2 hgr2 hne2 HG2 HJ2 hN1 hDl
       go_wp2_with fail
       obtain ⟨r6, hx, hl⟩ := bind_pf HL5.out
       have HL6 := Lib.hid hl
       have HX6 := Lib.hid hx
       clear hx hl HL5
       refine (ptakeK_any p 7 (by decide) s4 _ HG3.out.fm.st r6 HX6.out).mono ?_
       intro ee w6 he
       cases r6 with
       | bad kk xx =>
        obtain ⟨rfl, hf⟩ := he
        have hr4 : r4 = .bad kk xx := HL6.out
        subst hr4
        have hrr : r = .bad kk xx := HR4.out
        subst hrr
        have HE := Lib.hid (HG3.out.fm.fr.trans hf)
        clear hf
        go_wp2_with fail
        exact ⟨rfl, rfl, HE.out⟩
       | ok t6 s6 =>
        obtain ⟨rfl, hs, hf, hi, ho⟩ := he
        have HG4 := Lib.hid (HG3.out.step hf hs)
        have HP3 : Hid (1 ≤ s6.i ∧ s.i < s6.i ∧ s6.o = s.o ∧ (D ++ [(n, ja, jc)]).length < s6.i) := Lib.hid (by have h1 := HP2.out; rw [List.length_append, List.length_singleton]; omega)
        have HL7 : Hid (importsL p.ts gf ((D ++ [(n, ja, jc)]).map (·.1)) s6 = some r4) := Lib.hid (by rw [List.map_append]; exact HL6.out)
        clear hs hf hi ho HL6
        go_wp2_with fail
        go_roundg gf
        case measure => omega
        case rel => exact ⟨D ++ [(n, ja, jc)], s6, HL7, HG4, HP3⟩
     | false =>
      simp only [hc, Bool.false_eq_true, if_false] at hl
      have hr4 := (Option.some.inj hl).symm
      subst hr4
      obtain ⟨r5, hx, hr⟩ := bind_pf (show (declsL p.ts f f (D.map (·.1)) st).bind (fun l s => some (.ok (.mk 1 0 (endT p.ts).2.2.2 t.2.2.1 (txt t.2.1) l) s)) = some r from HR4.out)
      have HR5 := Lib.hid hr
      have HX5 : Hid (declsL p.ts f f (D.map (·.1)) st = some r5) := Lib.hid hx
      obtain ⟨m, hm⟩ : ∃ m, p.ts.length = m + 1 := ⟨p.ts.length - 1, by have h1 := HG0.out.fm.st.ok.pos; omega⟩
      have hE : p.ts[m]? = some (endT p.ts) := by
       unfold endT
       rw [show p.ts.length - 1 = m from by omega, List.getElem?_eq_getElem (by omega)]; rfl
      obtain ⟨E, hEE⟩ : ∃ E, endT p.ts = E := ⟨_, rfl⟩
      rw [hEE] at hE
      obtain ⟨e0, e1, e2, e3⟩ := HG0.out.fm.st.row m E hE
      obtain ⟨k0, -, -, -⟩ := HG0.out.fm.st.cells
      have hgl := HG0.out.fm.st.glt
      have hrl := HG0.out.fm.st.rlt
      have hbd := HBD.out
      have hlt : m < p.ts.length := by omega
      have hltz : (m : Int) < (p.ts.length : Int) := by omega
      have hw1 : IntKind.i64.wrap ((p.ts.length : Int) + -1) = (m : Int) := by rw [hm, Go.IntWalk.i64_left]; unfold wrap64; omega
      have hw2 : IntKind.i64.wrap ((p.ts.length : Int) - 1) = (m : Int) := by rw [hm, Go.IntWalk.i64_left]; unfold wrap64; omega
      have HEE := Lib.hid hEE
      have HM := Lib.hid hm
      clear hc hl HR4 hr hx hEE hE hm
      go_wp2_with fail
      go_region
      have HG5 : Hid (Fi p w ((W0.alloc (.cells (cTk E) 65)).drew) st N t (.slice A0 D.length c0) D) := Lib.hid (HG0.out.alloc _).drew
      have HT5 : Hid (((W0.alloc (.cells (cTk E) 65)).drew).heap[W0.heap.size]? = some (.cells (cTk E) 65 (0, 0)) ∧ (Value.slice A0 D.length c0).ownBlock ≠ some W0.heap.size) := Lib.hid ⟨alloc_top W0 _ _, fun e => by have := (World.ownsRow.lt HG0.out.row.own _ e).2; omega⟩
      have HWR : Hid (W0.heap.size ≠ p.R) := Lib.hid (by omega)
      clear e0 e1 e2 e3 k0 hgl hrl hbd hlt hltz hw1 hw2
      go_wp2_with fail
      go_loopg [4] f (fun gf v wr => ∃ (D : List NdP) (st : Ps), Hid (declsL p.ts f gf (D.map (·.1)) st = some r5) ∧ Hid (Fi p w wr st N t v D) ∧ Hid (1 ≤ st.i ∧ s.i < st.i ∧ st.o = s.o ∧ D.length < st.i) ∧ Hid (wr.heap[W0.heap.size]? = some (.cells (cTk E) 65 (0, 0)) ∧ v.ownBlock ≠ some W0.heap.size))
      case atStart => exact ⟨D, st, HX5, HG5, HP, HT5⟩
      case round =>
       clear HX5 HG5 HP HT5 HG0
       obtain ⟨D, st, HL, HG, HP, HT⟩ := hrel
       obtain ⟨gf, rfl⟩ : ∃ n, gk = n + 1 := by
        cases gk with
        | zero => have h1 := HL.out; cases h1
        | succ n => exact ⟨n, rfl⟩
       obtain ⟨A0, c0, rfl⟩ := slice_form HG.out.row.own
       obtain ⟨q0, q1, q2, q3⟩ := tk4 HT.out.1
       go_wp2_with fail
       have HGd : Hid (PSt p wr.drew st) := Lib.hid (HG.out.fm.st.keep rfl rfl)
       refine wp_region_held_drew (S := fun w' => (w'.cell? ⟨W0.heap.size, 0, none⟩ = some (.int .i64 (E.1 : Int)) ∧ w'.cell? ⟨W0.heap.size, 1, none⟩ = some (.string (txt E.2.1)) ∧ w'.cell? ⟨W0.heap.size, 2, none⟩ = some (.int .i64 (E.2.2.1 : Int)) ∧ w'.cell? ⟨W0.heap.size, 3, none⟩ = some (.int .i64 (E.2.2.2 : Int)))) (by kernel_rfl) ⟨q0, q1, q2, q3⟩ (fun hHeld => ?_)
       clear q0 q1 q2 q3
       refine wpAnyH_take (i := 0) (oi := ⟨some 33, _, _, _, _, _⟩) (v := ?_) rfl (by kernel_rfl) (by kernel_rfl) (by kernel_rfl) (fun _ _ _ h => h) (Or.inl ⟨by rfl, ?_⟩) hHeld ?_
       rotate_left
       · (intro W hSW; (try dsimp only at hSW); go_simp; first | done | with_reducible rfl)
       try simp only [Act.put, List.setIfInBounds_toArray, List.set_cons_zero, List.set_cons_succ]
       refine wpAnyH_take (i := 2) (oi := ⟨some 35, _, _, _, _, _⟩) (v := ?_) rfl (by kernel_rfl) (by kernel_rfl) (by kernel_rfl) (fun _ _ _ h => h) (Or.inl ⟨by rfl, ?_⟩) hHeld ?_
       rotate_left
       · (intro W hSW; (try dsimp only at hSW); go_simp; first | done | with_reducible rfl)
       try simp only [Act.put, List.setIfInBounds_toArray, List.set_cons_zero, List.set_cons_succ]
       refine wpAnyH_all (rs := [1]) (by kernel_rfl) (by simp) (fun i hi => ?_)
       obtain rfl : i = 1 := by simpa using hi
       refine wpOp_wp rfl rfl (wp_enter (f := 67) (args := #[.pointer (some ⟨p.R, 0, none⟩)]) (by go_simp; try rfl) (ptoken_any p st wr.drew HGd.out) ?_)
       rintro ee wt ⟨rfl, hbt⟩
       have HG1 := Lib.hid (HG.out.drew.below hbt)
       have HT1 := Lib.hid (blk_below (W := wr.drew) (W' := wt) HT.out.1 hbt)
       clear hHeld
       have hHeld : (fun w' : World => (w'.cell? ⟨W0.heap.size, 0, none⟩ = some (.int .i64 (E.1 : Int)) ∧ w'.cell? ⟨W0.heap.size, 1, none⟩ = some (.string (txt E.2.1)) ∧ w'.cell? ⟨W0.heap.size, 2, none⟩ = some (.int .i64 (E.2.2.1 : Int)) ∧ w'.cell? ⟨W0.heap.size, 3, none⟩ = some (.int .i64 (E.2.2.2 : Int)))) wt := tk4 HT1.out
       refine ⟨hHeld, ?_⟩
       try simp only [Act.put, List.setIfInBounds_toArray]
       refine wpAnyH_all (rs := [3]) (by kernel_rfl) (by simp) (fun i hi => ?_)
       obtain rfl : i = 3 := by simpa using hi
       refine wpOp_wp rfl rfl (wp_val (w' := wt) (v := .bool (!(tk p.ts st == E))) (by rw [tok_beq, ← int_beq (tk p.ts st).1, ← txt_beq (tk p.ts st).2.1, ← int_beq (tk p.ts st).2.2.1, ← int_beq (tk p.ts st).2.2.2]; go_simp; by_cases h1 : ((tk p.ts st).1 : Int) = E.1 <;> by_cases h2 : (txt (tk p.ts st).2.1).toList = (txt E.2.1).toList <;> by_cases h3 : ((tk p.ts st).2.2.1 : Int) = E.2.2.1 <;> by_cases h4 : ((tk p.ts st).2.2.2 : Int) = E.2.2.2 <;> simp [h1, h2, h3, h4]) ?_)
       refine ⟨hHeld, ?_⟩
       try simp only [Act.put]
       refine wpAnyH_done (by kernel_rfl) ?_ _
       clear hHeld
       obtain ⟨b, hc⟩ : ∃ b, (tk p.ts st == E) = b := ⟨_, rfl⟩
       have hl := HL.out
       unfold declsL at hl
       rw [HEE.out] at hl
       simp only [hc] at hl
       rw [hc]
       have HON := Lib.hid HT.out.2
       have HWM : Hid (W0.heap.size < wt.heap.size) := Lib.hid (Array.getElem?_eq_some_iff.1 HT1.out).1
       clear HG HT HGd HL hbt
       cases b with
       | false =>
        simp only [Bool.false_eq_true, if_false] at hl
        obtain ⟨r6, hx, hl⟩ := bind_pf hl
        have HL5 := Lib.hid hl
        have HX6 := Lib.hid hx
        clear hc hl hx
        simp only [Bool.not_false]
        go_wp2_with fail
        refine (decl_any p f st _ HG1.out.fm.st HP.out.1 r6 HX6.out).mono ?_
        intro ee w4 he
        cases r6 with
        | bad kk xx =>
         obtain ⟨rfl, hf⟩ := he
         have hr5 : r5 = .bad kk xx := HL5.out
         subst hr5
         have hrr : r = .bad kk xx := HR5.out
         subst hrr
         have HE := Lib.hid (HG1.out.fm.fr.trans hf)
         clear hf
         go_wp2_with fail
         exact ⟨rfl, rfl, HE.out⟩
        | ok n s4 =>
         obtain ⟨⟨v, rfl, hn⟩, hs, hf, hi, ho⟩ := he
         obtain ⟨ja, jc, rfl, hjc, hj⟩ := hn.open
         have HG6 := Lib.hid (HG1.out.step hf hs)
         have hnl : N < wt.heap.size := (Array.getElem?_eq_some_iff.1 HG1.out.tok).1
         have hj2 := (hj.wide (Q := fun b => N + 1 ≤ b ∧ (Value.slice A0 D.length c0).ownBlock ≠ some b) (fun k hk h1 => ⟨by omega, fun e => by have := (World.ownsRow.lt HG1.out.row.own k e).2; omega⟩)).below (alloc_below w4 (.cells #[.int .i64 n.kind, .int .i64 n.fro, .int .i64 n.till, .int .i64 n.at', .string n.name, .slice ja n.kids.length jc] 24))
         have HG2 := Lib.hid (HG6.out.alloc (.cells #[.int .i64 n.kind, .int .i64 n.fro, .int .i64 n.till, .int .i64 n.at', .string n.name, .slice ja n.kids.length jc] 24))
         have HJ2 := Lib.hid (And.intro hjc hj2)
         have HP2 : Hid (1 ≤ s4.i ∧ s.i < s4.i ∧ s4.o = s.o ∧ D.length + 1 < s4.i + 1 ∧ D.length + 1 ≤ s4.i) := Lib.hid (by have h1 := HP.out; omega)
         have hDl : D.length ≤ 1000000 := by have h1 := HP.out; have h2 := HG1.out.fm.st.lt; have h3 := HBD.out; omega
         have hN1 : N + 1 ≤ w4.heap.size := (Array.getElem?_eq_some_iff.1 HG6.out.tok).1
         have HT2 : Hid ((w4.alloc (.cells #[.int .i64 n.kind, .int .i64 n.fro, .int .i64 n.till, .int .i64 n.at', .string n.name, .slice ja n.kids.length jc] 24)).heap[W0.heap.size]? = some (.cells (cTk E) 65 (0, 0))) := Lib.hid (blk_alloc (hf.kept HWR.out HT1.out))
         clear hn hjc hj hs hf hi ho hnl hj2 HG1 HT1 HG6
         go_wp2_with (at_builtin; refine wpList_append_own2 _ rfl _ _ 22 rfl (N + 1) 24 i0 (.agg #[.int .i64 0, .int .i64 0, .int .i64 0, .int .i64 0, .string ⟨#[]⟩, .slice none 0 0]) 6 72 Tryz.underlying22 HI.out HZ0.out HZ1.out HZ2.out rfl (by decide) _ _ _ rfl HG2.out.row.own ⟨w4.heap.size, 0, none⟩ 1 1 [.int .i64 n.kind, .int .i64 n.fro, .int .i64 n.till, .int .i64 n.at', .string n.name, .slice ja n.kids.length jc] rfl rfl (new_cell w4 _ _) ?c2 ?c3 ?c4 ?c5 ?_)
         case c2 => simp [Value.oneCell']
         case c3 => unfold maxLen; omega
         case c4 => omega
         case c5 => simp only [World.size_alloc]; omega
         intro v2 w5 hown2 hgr2 hne2
         have HG3 : Hid (Fi p w w5 s4 N t v2 (D ++ [(n, ja, jc)])) := Lib.hid (HG2.out.app (d := (n, ja, jc)) HJ2.out.1 HJ2.out.2 hown2 hgr2 (fun k hk => by rw [World.size_alloc]; exact hne2 k hk))
         have HT3 : Hid (w5.heap[W0.heap.size]? = some (.cells (cTk E) 65 (0, 0)) ∧ v2.ownBlock ≠ some W0.heap.size) := Lib.hid ⟨(hgr2.block _ (Array.getElem?_eq_some_iff.1 HT2.out).1 (fun e => HON.out e.symm)).trans HT2.out, fun e => by
          rcases hne2 _ e with h | h
          · exact HON.out h
          · have h1 := (Array.getElem?_eq_some_iff.1 HT2.out).1
            rw [World.size_alloc] at h1
            omega⟩
         obtain ⟨q2, qc2, rfl⟩ := slice_form hown2
         clear hown2 hgr2 hne2 HG2 HJ2 hN1 hDl HT2 HON HWM
         go_wp2_with fail
         obtain ⟨r7, hx, hl⟩ := bind_pf HL5.out
         have HL6 := Lib.hid hl
         have HX7 := Lib.hid hx
         clear hx hl HL5
         refine (ptakeK_any p 7 (by decide) s4 _ HG3.out.fm.st r7 HX7.out).mono ?_
         intro ee w6 he
         cases r7 with
         | bad kk xx =>
          obtain ⟨rfl, hf⟩ := he
          have hr5 : r5 = .bad kk xx := HL6.out
          subst hr5
          have hrr : r = .bad kk xx := HR5.out
          subst hrr
          have HE := Lib.hid (HG3.out.fm.fr.trans hf)
          clear hf
          go_wp2_with fail
          exact ⟨rfl, rfl, HE.out⟩
         | ok t6 s6 =>
          obtain ⟨rfl, hs, hf, hi, ho⟩ := he
          have HG4 := Lib.hid (HG3.out.step hf hs)
          have HT4 := Lib.hid (And.intro (hf.kept HWR.out HT3.out.1) HT3.out.2)
          have HP3 : Hid (1 ≤ s6.i ∧ s.i < s6.i ∧ s6.o = s.o ∧ (D ++ [(n, ja, jc)]).length < s6.i) := Lib.hid (by have h1 := HP2.out; rw [List.length_append, List.length_singleton]; omega)
          have HL7 : Hid (declsL p.ts f gf ((D ++ [(n, ja, jc)]).map (·.1)) s6 = some r5) := Lib.hid (by rw [List.map_append]; exact HL6.out)
          clear hs hf hi ho HL6
          go_wp2_with fail
          go_roundg gf
          case measure => omega
          case rel => exact ⟨D ++ [(n, ja, jc)], s6, HL7, HG4, HP3, HT4⟩
       | true =>
        simp only [if_true] at hl
        have hr5 := (Option.some.inj hl).symm
        subst hr5
        have hrr := Option.some.inj (show some (Pz.ok (Nd.mk 1 0 (endT p.ts).2.2.2 t.2.2.1 (txt t.2.1) (D.map (·.1))) st) = some r from HR5.out)
        rw [HEE.out] at hrr
        subst hrr
        clear hc hl
        simp only [Bool.not_true]
        obtain ⟨z0, z1, z2, z3, z4, z5, hres⟩ := HG1.out.fm.res
        obtain ⟨y0, y1, y2, y3, y4, y5⟩ := six_cells hres
        obtain ⟨u0, u1, u2, u3⟩ := tk4 HT1.out
        obtain ⟨v0, v1, v2, v3⟩ := tk4 HG1.out.tok
        have x0 := frozen_of_row _ w.heap.size 0 _ _ hres
        have x1 := frozen_of_row _ w.heap.size 1 _ _ hres
        have x2 := frozen_of_row _ w.heap.size 2 _ _ hres
        have x3 := frozen_of_row _ w.heap.size 3 _ _ hres
        have x4 := frozen_of_row _ w.heap.size 4 _ _ hres
        have x5 := frozen_of_row _ w.heap.size 5 _ _ hres
        have HRES := Lib.hid hres
        clear hres
        go_wp2_with fail
        obtain ⟨A, cap, hv, hcap, hsn, hno⟩ := HG1.out.row.sin
        have h1 := HP.out
        have hbg := HG1.out.big
        injection hv with e1 e2 e3
        subst e1 e3
        refine ret_cell1A (p := 2) rfl _ rfl _ (load_nd (six_heap HRES.out)) (HG1.out.fm.done (hsn.wide (fun k _ hk => by omega)) (by rw [List.length_map]; exact hcap) (by omega) (by omega) _ _ _ _ _ _ (by rw [List.length_map]))
end Go.Proofs.YtmlclgkhnekmnaaGreatDoor
