/- Part of a proof. -/
import Derived.Test.YtmlclgkhnekmnaaGreatDoorPLeaf3
import Derived.Laws.AppendOwnNone
namespace Go.Proofs.YtmlclgkhnekmnaaGreatDoor
open Go.RowKit
theorem Tryz.infoNdP : (Tryz.prog.info? 24).map (fun i => (i.zero, i.size, i.bytes)) = some (some (.agg #[.int .i64 0, .int .i64 0, .int .i64 0, .int .i64 0, .string ⟨#[]⟩, .slice none 0 0]), 6, 72) := by kernel_rfl
abbrev NdP := Nd × Option Addr × Nat
def nc6 (d : NdP) : List Value := [.int .i64 d.1.kind, .int .i64 d.1.fro, .int .i64 d.1.till, .int .i64 d.1.at', .string d.1.name, .slice d.2.1 d.1.kids.length d.2.2]
def nc6s (D : List NdP) : List Value := D.flatMap nc6
theorem nc6s_snoc (L : List NdP) (x : NdP) : nc6s (L ++ [x]) = nc6s L ++ nc6 x := by simp [nc6s]
structure RowI (W : World) (B : Nat) (v : Value) (D : List NdP) : Prop where
 own : W.ownsRow B 24 6 v D.length (nc6s D)
 each : ∀ d ∈ D, d.1.kids.length ≤ d.2.2 ∧ SIn W (fun b => B ≤ b ∧ v.ownBlock ≠ some b) d.1.kids d.2.1
theorem RowI.nil (W : World) (B : Nat) : RowI W B (.slice none 0 0) [] := ⟨⟨rfl, .inl ⟨rfl, rfl⟩⟩, fun d hd => by cases hd⟩
theorem own_keepP {W W' : World} {B size n : Nat} {e : TypeId} {v : Value} {xs : List Value} (h : W.ownsRow B e size v n xs) (hk : ∀ k, v.ownBlock = some k → W'.heap[k]? = W.heap[k]?) : W'.ownsRow B e size v n xs := by
 refine ⟨h.1, ?_⟩
 rcases h.2 with h0 | ⟨g, cap, cur, rfl, hB, hg, r⟩
 · exact .inl h0
 · exact .inr ⟨g, cap, cur, rfl, hB, (hk g rfl).trans hg, r⟩
theorem RowI.fr {R : Nat} {W W' : World} {B : Nat} {v : Value} {D : List NdP} (h : RowI W B v D) (hf : PFr R W W') (hR : R < B) : RowI W' B v D := by
 refine ⟨own_keepP h.own (fun k hk => ?_), fun d hd => ?_⟩
 · obtain ⟨h1, h2⟩ := World.ownsRow.lt h.own k hk
   exact hf.block k h2 (by omega)
 · obtain ⟨h1, h2⟩ := h.each d hd
   exact ⟨h1, h2.fr hf (fun hh => by have := hh.1; omega)⟩
theorem RowI.app {W W' : World} {B : Nat} {v v' : Value} {D : List NdP} {d : NdP} (h : RowI W B v D) (hc : d.1.kids.length ≤ d.2.2) (hk : SIn W (fun b => B ≤ b ∧ v.ownBlock ≠ some b) d.1.kids d.2.1)
 (hown : W'.ownsRow B 24 6 v' (D.length + 1) (nc6s D ++ nc6 d)) (hg : W.grownBy W' v.ownBlock) (hn : ∀ k, v'.ownBlock = some k → v.ownBlock = some k ∨ W.heap.size ≤ k) : RowI W' B v' (D ++ [d]) := by
 refine ⟨by rw [List.length_append, nc6s_snoc]; exact hown, fun e he => ?_⟩
 have kp : ∀ l A, SIn W (fun b => B ≤ b ∧ v.ownBlock ≠ some b) l A → SIn W' (fun b => B ≤ b ∧ v'.ownBlock ≠ some b) l A := fun l A hs =>
  hs.keep (fun k hk hl => hg.block k hl (fun e => hk.2 e.symm)) (fun k hk hl => ⟨hk.1, fun e => (hn k e).elim hk.2 (fun h3 => by omega)⟩)
 rcases List.mem_append.1 he with he | he
 · obtain ⟨h1, h2⟩ := h.each e he
   exact ⟨h1, kp _ _ h2⟩
 · obtain rfl := List.mem_singleton.1 he
   exact ⟨hc, kp _ _ hk⟩
theorem nln_rowP {W : World} {P : Nat → Prop} {g : Nat} : ∀ (D : List NdP) (o : Nat), (∀ i v, (nc6s D)[i]? = some v → W.cell? ⟨g, o + i, none⟩ = some v) → (∀ d ∈ D, d.1.kids.length ≤ d.2.2 ∧ SIn W P d.1.kids d.2.1) → NLn W P g o (D.map (·.1))
 | [], _, _, _ => by rw [List.map_nil, NLn]; trivial
 | d :: D, o, h, hd => by
  rw [List.map_cons, NLn]
  have hc : ∀ i v, (nc6 d)[i]? = some v → W.cell? ⟨g, o + i, none⟩ = some v := by
   intro i v hv
   refine h i v ?_
   show (nc6 d ++ nc6s D)[i]? = _
   rw [List.getElem?_append_left (List.getElem?_eq_some_iff.1 hv).1]
   exact hv
  refine ⟨⟨_, _, _, _, _, _, hc 0 _ rfl, hc 1 _ rfl, hc 2 _ rfl, hc 3 _ rfl, hc 4 _ rfl, hc 5 _ rfl, ?_⟩, ?_⟩
  · obtain ⟨h1, h2⟩ := hd d (List.mem_cons_self ..)
    exact NIn.shut h1 h2
  · refine nln_rowP D (o + 6) (fun i v hv => ?_) (fun e he => hd e (List.mem_cons_of_mem _ he))
    have := h (6 + i) v (by
     show (nc6 d ++ nc6s D)[6 + i]? = _
     rw [List.getElem?_append_right (by simp [nc6])]
     rw [show 6 + i - (nc6 d).length = i by simp [nc6]]
     exact hv)
    rw [Nat.add_assoc]
    exact this
theorem RowI.sin {W : World} {B : Nat} {v : Value} {D : List NdP} (h : RowI W B v D) : ∃ A cap, v = .slice A D.length cap ∧ D.length ≤ cap ∧ SIn W (fun b => B ≤ b) (D.map (·.1)) A ∧ (A = none → cap = 0) := by
 rcases h.own.2 with ⟨rfl, h0⟩ | ⟨g, cap, cur, rfl, hB, hg, hcap, -, hsz, ht⟩
 · exact ⟨none, 0, by rw [h0], by omega, fun hp => by rw [List.length_map] at hp; omega, fun _ => rfl⟩
 · refine ⟨_, cap, rfl, hcap, fun _ => ⟨g, 0, rfl, hB, nln_rowP D 0 (fun i v hv => ?_) (fun d hd => ⟨(h.each d hd).1, (h.each d hd).2.keep (fun _ _ _ => rfl) (fun k hk _ => hk.1)⟩)⟩, fun h => by cases h⟩
   have hi : i < D.length * 6 := by
    have h1 := (List.getElem?_eq_some_iff.1 hv).1
    have h2 := h.own.1
    omega
   rw [cell_at hg, ← Array.getElem?_toList, Nat.zero_add]
   rw [← ht, List.getElem?_take, if_pos hi] at hv
   exact hv
def FvC (p : PC) (g : FuncId) (π : Rd) : Prop := (∀ (args : Array Value) (w : World), (callFunc g args).run Tryz.prog w = .ok (.enter g args) w) ∧ RdC p g #[.pointer (some ⟨p.R, 0, none⟩)] π
set_option maxRecDepth 100000 in
set_option maxHeartbeats 4000000 in
theorem plines_any (p : PC) (g : FuncId) (π : Rd) (hg : FvC p g π) (f : Nat) : RsC p 114 #[.pointer (some ⟨p.R, 0, none⟩), .func (.func g) #[.pointer (some ⟨p.R, 0, none⟩)] #[]] (linesP p.ts π f) := by
 intro s w hs hi r hr
 obtain ⟨i0, hi0, hz0, hz1, hz2⟩ := info_parts Tryz.infoNdP
 have hgr : ∀ (args : Array Value) (w : World), (callFunc g args).run Tryz.prog w = .ok (.enter g args) w := hg.1
 have HG := Lib.hid hg.2
 have hle := hs.lt
 have hlen := hs.ok.len
 have HBD : Hid (s.i < p.ts.length ∧ p.ts.length ≤ 300000) := Lib.hid ⟨hle, hlen⟩
 unfold linesP at hr
 obtain ⟨r1, hx, hr⟩ := bind_pf hr
 have HR := Lib.hid hr
 have HX := Lib.hid hx
 have HS := Lib.hid hs
 have HRL := Lib.hid (And.intro hs.rlt hi)
 have HGL := Lib.hid hs.glt
 have HI := Lib.hid hi0
 have HZ0 := Lib.hid hz0
 have HZ1 := Lib.hid hz1
 have HZ2 := Lib.hid hz2
 clear hx hs hi hg hr hi0 hz0 hz1 hz2 hle hlen
 go_enter Tryz.func114, Tryz.ntmps114
 go_wp2_with fail
 refine (pbegin_any p mLBrace (by decide) s _ HS.out r1 HX.out).mono ?_
 intro ee w1 he
 cases r1 with
 | bad kk xx =>
  obtain ⟨rfl, hf⟩ := he
  have hrr : r = .bad kk xx := HR.out
  subst hrr
  have HE := Lib.hid hf
  clear hf
  go_wp2_with fail
  exact ⟨rfl, rfl, HE.out⟩
 | ok t1 s1 =>
  obtain ⟨rfl, hs1, hf1, hi1, ho1⟩ := he
  obtain ⟨r2, hx2, hr2⟩ := bind_pf HR.out
  have HR2 := Lib.hid hr2
  have HX2 : Hid (linesL p.ts π f [] s1 = some r2) := Lib.hid hx2
  have HS1 := Lib.hid (And.intro hs1 (And.intro hf1 (And.intro hi1 ho1)))
  clear hs1 hf1 hi1 ho1 hx2 hr2 HX
  go_wp2_with fail
  go_loopg [4] f (fun gf v wr => ∃ (D : List NdP) (st : Ps), Hid (linesL p.ts π gf (D.map (·.1)) st = some r2) ∧ Hid (RowI wr w.heap.size v D) ∧ Hid (PSt p wr st) ∧ Hid (PFr p.R w wr) ∧ Hid (s.i < st.i ∧ st.o = s.o + 1 ∧ D.length < st.i))
  case atStart => exact ⟨[], s1, HX2, Lib.hid (RowI.nil _ _), Lib.hid HS1.out.1, Lib.hid HS1.out.2.1, Lib.hid (by have h1 := HS1.out.2.2; have h2 := HRL.out.2; simp only [List.length_nil]; omega)⟩
  case round =>
   clear HX2 HS1
   obtain ⟨D, st, HL, HW, HT, HF, HP⟩ := hrel
   obtain ⟨gf, rfl⟩ : ∃ n, gk = n + 1 := by
    cases gk with
    | zero => have h1 := HL.out; cases h1
    | succ n => exact ⟨n, rfl⟩
   obtain ⟨A0, c0, rfl⟩ := slice_form HW.out.own
   go_wp2_with fail
   refine (pstands_any p mRBrace st _ HT.out).mono ?_
   rintro ee W0 ⟨rfl, hb⟩
   have HT0 := Lib.hid (HT.out.below hb)
   have HWW := Lib.hid (HW.out.fr (R := p.R) (PFr.of_below hb) HRL.out.1)
   have HFW := Lib.hid (HF.out.trans (PFr.of_below hb))
   have HPP := HP
   obtain ⟨b, hc⟩ : ∃ b, atB p.ts st mRBrace = b := ⟨_, rfl⟩
   have hl := HL.out
   unfold linesL at hl
   rw [hc]
   clear hb HL HW HT HF
   cases b with
   | true =>
    simp only [hc, if_true] at hl
    have hr2 := (Option.some.inj hl).symm
    have HRR := Lib.hid hr2
    clear hc hl hr2
    go_wp2_with fail
    have hr2 := HRR.out
    subst hr2
    obtain ⟨r3, hx3, hr3⟩ := bind_pf (show (finishP p.ts mRBrace st).bind _ = some r from HR2.out)
    have HR3 := Lib.hid hr3
    refine (pfinish_any p mRBrace (by decide) st _ HT0.out (by have h1 := HPP.out; omega) r3 hx3).mono ?_
    intro ee w3 he
    clear hr3 hx3
    cases r3 with
    | bad kk xx =>
     obtain ⟨rfl, hf⟩ := he
     have hrr : r = .bad kk xx := HR3.out
     subst hrr
     have HE := Lib.hid (HFW.out.trans hf)
     clear hf
     go_wp2_with fail
     exact ⟨rfl, rfl, HE.out⟩
    | ok uu s3 =>
     obtain ⟨rfl, hs3, hf3, hi3, ho3⟩ := he
     have hrr : Pz.ok (D.map (·.1)) s3 = r := Option.some.inj HR3.out
     subst hrr
     have HW3 := Lib.hid (HWW.out.fr hf3 HRL.out.1)
     have HE := Lib.hid (And.intro hs3 (And.intro (HFW.out.trans hf3) (And.intro hi3 ho3)))
     clear hs3 hf3 hi3 ho3
     go_wp2_with fail
     go_ret
     obtain ⟨A, cap, hv, hcap, hsn, hno⟩ := HW3.out.sin
     have h1 := HPP.out
     have h2 := HE.out
     injection hv with e1 e2 e3
     subst e1 e3
     refine ⟨⟨A0, c0, by rw [List.length_map]; rfl, by rw [List.length_map]; exact hcap, hsn, by rw [List.length_map]; omega, hno⟩, h2.1, h2.2.1, by omega, by omega⟩
   | false =>
    simp only [hc, Bool.false_eq_true, if_false] at hl
    obtain ⟨r3, hx3, hl3⟩ := bind_pf hl
    have HL3 := Lib.hid hl3
    have HX3 := Lib.hid hx3
    clear hc hl hl3 hx3
    go_wp2_with fail
    go_at_fn g
    refine (HG.out st _ HT0.out (by have h1 := HPP.out; have h2 := HRL.out; omega) r3 HX3.out).mono ?_
    intro ee w3 he
    cases r3 with
    | bad kk xx =>
     obtain ⟨rfl, hf⟩ := he
     have hr2 : r2 = .bad kk xx := HL3.out
     subst hr2
     have hrr : r = .bad kk xx := HR2.out
     subst hrr
     have HE := Lib.hid (HFW.out.trans hf)
     clear hf
     go_wp2_with fail
     exact ⟨rfl, rfl, HE.out⟩
    | ok n s2 =>
     -- the child is appended
     obtain ⟨⟨v, rfl, hn⟩, hs3, hf3, hi3, ho3⟩ := he
     obtain ⟨ja, jc, rfl, hjc, hj⟩ := hn.open
     have hsz : w.heap.size ≤ W0.heap.size := HFW.out.size
     have hRw := HRL.out.1
     have hW3 := HWW.out.fr hf3 hRw
     have hj3 := hj.wide (Q := fun b => w.heap.size ≤ b ∧ (Value.slice A0 D.length c0).ownBlock ≠ some b) (fun k hk h1 => ⟨by omega, fun e => by have := (World.ownsRow.lt HWW.out.own k e).2; omega⟩)
     have hb3 := alloc_below w3 (.cells #[.int .i64 n.kind, .int .i64 n.fro, .int .i64 n.till, .int .i64 n.at', .string n.name, .slice ja n.kids.length jc] 24)
     have hW4 := hW3.fr (R := p.R) (PFr.of_below hb3) hRw
     have HW4 := Lib.hid hW4
     have HJ4 := Lib.hid (And.intro hjc (hj3.below hb3))
     have HS3 := Lib.hid hs3
     have HF3 := Lib.hid (HFW.out.trans hf3)
     have HI3 := Lib.hid (And.intro hi3 ho3)
     have hDl : D.length ≤ 1000000 := by have h1 := HPP.out; have h2 := HT0.out.lt; have h3 := HT0.out.ok.len; omega
     have hsz3 : w.heap.size ≤ w3.heap.size := HF3.out.size
     clear hn hjc hj hs3 hf3 hi3 ho3 hW3 hj3 hb3 hW4 hsz hRw
     go_wp2_with (at_builtin; refine wpList_append_own2 _ rfl _ _ 22 rfl w.heap.size 24 i0 (.agg #[.int .i64 0, .int .i64 0, .int .i64 0, .int .i64 0, .string ⟨#[]⟩, .slice none 0 0]) 6 72 Tryz.underlying22 HI.out HZ0.out HZ1.out HZ2.out rfl (by decide) _ _ _ rfl HW4.out.own ⟨w3.heap.size, 0, none⟩ 1 1 [.int .i64 n.kind, .int .i64 n.fro, .int .i64 n.till, .int .i64 n.at', .string n.name, .slice ja n.kids.length jc] rfl rfl (new_cell w3 _ _) ?c2 ?c3 ?c4 ?c5 ?_)
     case c2 => simp [Value.oneCell']
     case c3 => unfold maxLen; omega
     case c4 => omega
     case c5 => simp only [World.size_alloc]; omega
     intro v2 w4 hown2 hgr2 hne2
     have HW5 : Hid (RowI w4 w.heap.size v2 (D ++ [(n, ja, jc)])) := Lib.hid (HW4.out.app (d := (n, ja, jc)) HJ4.out.1 HJ4.out.2 hown2 hgr2 (fun k hk => by rw [World.size_alloc]; exact hne2 k hk))
     have hlw := World.ownsRow.lt HW4.out.own
     have hrr3 := HS3.out.rlt
     have hgg3 := HS3.out.glt
     have hin := HRL.out.1
     have HGB : Hid (∀ k, k < w3.heap.size → k < w.heap.size → w4.heap[k]? = w3.heap[k]?) := Lib.hid (fun k h1 h2 => (hgr2.block k (by rw [World.size_alloc]; omega) (fun e => by have := (hlw k e.symm).1; omega)).trans (Below.heap_alloc w3 _ k h1))
     have HS4 : Hid (PSt p w4 s2) := Lib.hid (HS3.out.keep (HGB.out _ hrr3 hin) (HGB.out _ hgg3 HGL.out))
     have HF4 : Hid (PFr p.R w w4) := Lib.hid ⟨hgr2.os.trans HF3.out.os, hgr2.tape.trans HF3.out.tape, hgr2.output.trans HF3.out.output, Nat.le_trans hsz3 (Nat.le_trans (by rw [World.size_alloc]; omega) hgr2.size), fun k hk hx => (HGB.out k (by omega) hk).trans (HF3.out.block k hk hx)⟩
     obtain ⟨q2, qc2, rfl⟩ := slice_form hown2
     clear hown2 hgr2 hne2 hlw hrr3 hgg3 hin HW4 HJ4 HGB hsz3 hDl
     go_wp2_with fail
     refine (pstands_any p mRBrace s2 _ HS4.out).mono ?_
     rintro ee w5 ⟨rfl, hb⟩
     have HS5 := Lib.hid (HS4.out.below hb)
     have HW6 := Lib.hid (HW5.out.fr (R := p.R) (PFr.of_below hb) HRL.out.1)
     have HF5 := Lib.hid (HF4.out.trans (PFr.of_below hb))
     obtain ⟨b, hc⟩ : ∃ b, atB p.ts s2 mRBrace = b := ⟨_, rfl⟩
     have hl3 := HL3.out
     rw [hc]
     clear hb HW5 HS4 HF4 HL3
     cases b with
     | true =>
      simp only [hc, if_true] at hl3
      have HL4 : Hid (linesL p.ts π gf ((D ++ [(n, ja, jc)]).map (·.1)) s2 = some r2) := Lib.hid (by rw [List.map_append]; exact hl3)
      clear hc hl3
      go_wp2_with fail
      go_roundg gf
      case measure => omega
      case rel => exact ⟨D ++ [(n, ja, jc)], s2, HL4, HW6, HS5, HF5, Lib.hid (by have h1 := HPP.out; have h2 := HI3.out; rw [List.length_append, List.length_singleton]; omega)⟩
     | false =>
      simp only [hc, Bool.false_eq_true, if_false] at hl3
      obtain ⟨r4, hx4, hl4⟩ := bind_pf hl3
      have HL4 := Lib.hid hl4
      have HX4 := Lib.hid hx4
      clear hc hl3 hl4 hx4
      go_wp2_with fail
      refine (ptakeK_any p 7 (by decide) s2 _ HS5.out r4 HX4.out).mono ?_
      intro ee w6 he
      cases r4 with
      | bad kk xx =>
       obtain ⟨rfl, hf⟩ := he
       have hr2 : r2 = .bad kk xx := HL4.out
       subst hr2
       have hrr : r = .bad kk xx := HR2.out
       subst hrr
       have HE := Lib.hid (HF5.out.trans hf)
       clear hf
       go_wp2_with fail
       exact ⟨rfl, rfl, HE.out⟩
      | ok t6 s6 =>
       obtain ⟨rfl, hs6, hf6, hi6, ho6⟩ := he
       have HS6 := Lib.hid hs6
       have HW7 := Lib.hid (HW6.out.fr hf6 HRL.out.1)
       have HF6 := Lib.hid (HF5.out.trans hf6)
       have HI6 := Lib.hid (And.intro hi6 ho6)
       have HL5 : Hid (linesL p.ts π gf ((D ++ [(n, ja, jc)]).map (·.1)) s6 = some r2) := Lib.hid (by rw [List.map_append]; exact HL4.out)
       clear hs6 hf6 hi6 ho6 HL4
       go_wp2_with fail
       go_roundg gf
       case measure => omega
       case rel => exact ⟨D ++ [(n, ja, jc)], s6, HL5, HW7, HS6, HF6, Lib.hid (by have h1 := HPP.out; have h2 := HI3.out; have h3 := HI6.out; rw [List.length_append, List.length_singleton]; omega)⟩
end Go.Proofs.YtmlclgkhnekmnaaGreatDoor
namespace Go.Proofs.YtmlclgkhnekmnaaGreatDoor
open Go.RowKit
set_option maxRecDepth 100000 in
set_option maxHeartbeats 4000000 in
theorem prow_any (p : PC) (a b : List UInt8) (ha : a ≠ []) (hb0 : b ≠ []) (g : FuncId) (π : Rd) (hg : FvC p g π) (f : Nat) : RsC p 144 #[.pointer (some ⟨p.R, 0, none⟩), .string (txt a), .string (txt b), .func (.func g) #[.pointer (some ⟨p.R, 0, none⟩)] #[]] (rowP p.ts a b π f) := by
 intro s w hs hi r hr
 obtain ⟨i0, hi0, hz0, hz1, hz2⟩ := info_parts Tryz.infoNdP
 have hgr : ∀ (args : Array Value) (w : World), (callFunc g args).run Tryz.prog w = .ok (.enter g args) w := hg.1
 have HG := Lib.hid hg.2
 have hle := hs.lt
 have hlen := hs.ok.len
 have HBD : Hid (s.i < p.ts.length ∧ p.ts.length ≤ 300000) := Lib.hid ⟨hle, hlen⟩
 unfold rowP at hr
 obtain ⟨r1, hx, hr⟩ := bind_pf hr
 have HR := Lib.hid hr
 have HX := Lib.hid hx
 have HS := Lib.hid hs
 have HRL := Lib.hid (And.intro hs.rlt hi)
 have HGL := Lib.hid hs.glt
 have HI := Lib.hid hi0
 have HZ0 := Lib.hid hz0
 have HZ1 := Lib.hid hz1
 have HZ2 := Lib.hid hz2
 clear hx hs hi hg hr hi0 hz0 hz1 hz2 hle hlen
 go_enter Tryz.func144, Tryz.ntmps144
 go_wp2_with fail
 refine (pbegin_any p a ha s _ HS.out r1 HX.out).mono ?_
 intro ee w1 he
 cases r1 with
 | bad kk xx =>
  obtain ⟨rfl, hf⟩ := he
  have hrr : r = .bad kk xx := HR.out
  subst hrr
  have HE := Lib.hid hf
  clear hf
  go_wp2_with fail
  exact ⟨rfl, rfl, HE.out⟩
 | ok t1 s1 =>
  obtain ⟨rfl, hs1, hf1, hi1, ho1⟩ := he
  obtain ⟨r2, hx2, hr2⟩ := bind_pf HR.out
  have HR2 := Lib.hid hr2
  have HX2 : Hid (rowL p.ts π f (!atB p.ts s1 b) [] s1 = some r2) := Lib.hid hx2
  have HS1 := Lib.hid (And.intro hs1 (And.intro hf1 (And.intro hi1 ho1)))
  clear hs1 hf1 hi1 ho1 hx2 hr2 HX
  go_wp2_with fail
  refine (pstands_any p b s1 _ HS1.out.1).mono ?_
  rintro ee w2 ⟨rfl, hbb⟩
  have HS2 := Lib.hid (HS1.out.1.below hbb)
  have HF2 := Lib.hid (HS1.out.2.1.trans (PFr.of_below hbb))
  have HI2 := Lib.hid HS1.out.2.2
  clear hbb HS1
  go_wp2_with fail
  go_loopg [8, 9] f (fun gf v mo wr => ∃ (m : Bool) (D : List NdP) (st : Ps), mo = .bool m ∧ Hid (rowL p.ts π gf m (D.map (·.1)) st = some r2) ∧ Hid (RowI wr w.heap.size v D) ∧ Hid (PSt p wr st) ∧ Hid (PFr p.R w wr) ∧ Hid (s.i < st.i ∧ st.o = s.o + 1 ∧ D.length < st.i))
  case atStart => exact ⟨!atB p.ts s1 b, [], s1, rfl, HX2, Lib.hid (RowI.nil _ _), HS2, HF2, Lib.hid (by have h1 := HI2.out; have h2 := HRL.out.2; simp only [List.length_nil]; omega)⟩
  case round =>
   clear HX2 HS2 HF2 HI2
   obtain ⟨m, D, st, rfl, HL, HW, HT, HF, HP⟩ := hrel
   obtain ⟨gf, rfl⟩ : ∃ n, gk = n + 1 := by
    cases gk with
    | zero => have h1 := HL.out; cases h1
    | succ n => exact ⟨n, rfl⟩
   obtain ⟨A0, c0, rfl⟩ := slice_form HW.out.own
   have hl := HL.out
   unfold rowL at hl
   have HPP := HP
   have HWW := HW
   have HFW := HF
   have HT0 := HT
   obtain ⟨W0, hW0⟩ : ∃ W0, W0 = wr := ⟨_, rfl⟩
   subst hW0
   clear HL HW HT HF
   cases m with
   | false =>
    simp only [Bool.false_eq_true, if_false] at hl
    have hr2 := (Option.some.inj hl).symm
    subst hr2
    obtain ⟨r3, hx3, hr3⟩ := bind_pf (show (finishP p.ts b st).bind _ = some r from HR2.out)
    have HR3 := Lib.hid hr3
    have HX3 := Lib.hid hx3
    clear hr3 hx3 hl
    go_wp2_with fail
    refine (pfinish_any p b hb0 st _ HT0.out (by have h1 := HPP.out; omega) r3 HX3.out).mono ?_
    intro ee w3 he
    cases r3 with
    | bad kk xx =>
     obtain ⟨rfl, hf⟩ := he
     have hrr : r = .bad kk xx := HR3.out
     subst hrr
     have HE := Lib.hid (HFW.out.trans hf)
     clear hf
     go_wp2_with fail
     exact ⟨rfl, rfl, HE.out⟩
    | ok uu s3 =>
     obtain ⟨rfl, hs3, hf3, hi3, ho3⟩ := he
     have hrr : Pz.ok (D.map (·.1)) s3 = r := Option.some.inj HR3.out
     subst hrr
     have HW3 := Lib.hid (HWW.out.fr hf3 HRL.out.1)
     have HE := Lib.hid (And.intro hs3 (And.intro (HFW.out.trans hf3) (And.intro hi3 ho3)))
     clear hs3 hf3 hi3 ho3
     go_wp2_with fail
     go_ret
     obtain ⟨A, cap, hv, hcap, hsn, hno⟩ := HW3.out.sin
     have h1 := HPP.out
     have h2 := HE.out
     injection hv with e1 e2 e3
     subst e1 e3
     refine ⟨⟨A0, c0, by rw [List.length_map]; rfl, by rw [List.length_map]; exact hcap, hsn, by rw [List.length_map]; omega, hno⟩, h2.1, h2.2.1, by omega, by omega⟩
   | true =>
    simp only [if_true] at hl
    obtain ⟨r3, hx3, hl3⟩ := bind_pf hl
    have HL3 := Lib.hid hl3
    have HX3 := Lib.hid hx3
    clear hl hl3 hx3
    go_wp2_with fail
    go_at_fn g
    refine (HG.out st _ HT0.out (by have h1 := HPP.out; have h2 := HRL.out; omega) r3 HX3.out).mono ?_
    intro ee w3 he
    cases r3 with
    | bad kk xx =>
     obtain ⟨rfl, hf⟩ := he
     have hr2 : r2 = .bad kk xx := HL3.out
     subst hr2
     have hrr : r = .bad kk xx := HR2.out
     subst hrr
     have HE := Lib.hid (HFW.out.trans hf)
     clear hf
     go_wp2_with fail
     exact ⟨rfl, rfl, HE.out⟩
    | ok n s2 =>
     -- the child is appended
     obtain ⟨⟨v, rfl, hn⟩, hs3, hf3, hi3, ho3⟩ := he
     obtain ⟨ja, jc, rfl, hjc, hj⟩ := hn.open
     have hsz : w.heap.size ≤ W0.heap.size := HFW.out.size
     have hRw := HRL.out.1
     have hW3 := HWW.out.fr hf3 hRw
     have hj3 := hj.wide (Q := fun b => w.heap.size ≤ b ∧ (Value.slice A0 D.length c0).ownBlock ≠ some b) (fun k hk h1 => ⟨by omega, fun e => by have := (World.ownsRow.lt HWW.out.own k e).2; omega⟩)
     have hb3 := alloc_below w3 (.cells #[.int .i64 n.kind, .int .i64 n.fro, .int .i64 n.till, .int .i64 n.at', .string n.name, .slice ja n.kids.length jc] 24)
     have hW4 := hW3.fr (R := p.R) (PFr.of_below hb3) hRw
     have HW4 := Lib.hid hW4
     have HJ4 := Lib.hid (And.intro hjc (hj3.below hb3))
     have HS3 := Lib.hid hs3
     have HF3 := Lib.hid (HFW.out.trans hf3)
     have HI3 := Lib.hid (And.intro hi3 ho3)
     have hDl : D.length ≤ 1000000 := by have h1 := HPP.out; have h2 := HT0.out.lt; have h3 := HT0.out.ok.len; omega
     have hsz3 : w.heap.size ≤ w3.heap.size := HF3.out.size
     clear hn hjc hj hs3 hf3 hi3 ho3 hW3 hj3 hb3 hW4 hsz hRw
     go_wp2_with (at_builtin; refine wpList_append_own2 _ rfl _ _ 22 rfl w.heap.size 24 i0 (.agg #[.int .i64 0, .int .i64 0, .int .i64 0, .int .i64 0, .string ⟨#[]⟩, .slice none 0 0]) 6 72 Tryz.underlying22 HI.out HZ0.out HZ1.out HZ2.out rfl (by decide) _ _ _ rfl HW4.out.own ⟨w3.heap.size, 0, none⟩ 1 1 [.int .i64 n.kind, .int .i64 n.fro, .int .i64 n.till, .int .i64 n.at', .string n.name, .slice ja n.kids.length jc] rfl rfl (new_cell w3 _ _) ?c2 ?c3 ?c4 ?c5 ?_)
     case c2 => simp [Value.oneCell']
     case c3 => unfold maxLen; omega
     case c4 => omega
     case c5 => simp only [World.size_alloc]; omega
     intro v2 w4 hown2 hgr2 hne2
     have HW5 : Hid (RowI w4 w.heap.size v2 (D ++ [(n, ja, jc)])) := Lib.hid (HW4.out.app (d := (n, ja, jc)) HJ4.out.1 HJ4.out.2 hown2 hgr2 (fun k hk => by rw [World.size_alloc]; exact hne2 k hk))
     have hlw := World.ownsRow.lt HW4.out.own
     have hrr3 := HS3.out.rlt
     have hgg3 := HS3.out.glt
     have hin := HRL.out.1
     have HGB : Hid (∀ k, k < w3.heap.size → k < w.heap.size → w4.heap[k]? = w3.heap[k]?) := Lib.hid (fun k h1 h2 => (hgr2.block k (by rw [World.size_alloc]; omega) (fun e => by have := (hlw k e.symm).1; omega)).trans (Below.heap_alloc w3 _ k h1))
     have HS4 : Hid (PSt p w4 s2) := Lib.hid (HS3.out.keep (HGB.out _ hrr3 hin) (HGB.out _ hgg3 HGL.out))
     have HF4 : Hid (PFr p.R w w4) := Lib.hid ⟨hgr2.os.trans HF3.out.os, hgr2.tape.trans HF3.out.tape, hgr2.output.trans HF3.out.output, Nat.le_trans hsz3 (Nat.le_trans (by rw [World.size_alloc]; omega) hgr2.size), fun k hk hx => (HGB.out k (by omega) hk).trans (HF3.out.block k hk hx)⟩
     obtain ⟨q2, qc2, rfl⟩ := slice_form hown2
     clear hown2 hgr2 hne2 hlw hrr3 hgg3 hin HW4 HJ4 HGB hsz3 hDl
     go_wp2_with fail
     refine (ppassed_any p mComma (by decide) s2 _ HS4.out).mono ?_
     rintro ee w5 ⟨rfl, hs5, hf5⟩
     have HS5 := Lib.hid hs5
     have HW6 := Lib.hid (HW5.out.fr hf5 HRL.out.1)
     have HF5 := Lib.hid (HF4.out.trans hf5)
     obtain ⟨bb, hc⟩ : ∃ b, atB p.ts s2 mComma = b := ⟨_, rfl⟩
     have hl3 := HL3.out
     rw [hc]
     clear hs5 hf5 HW5 HS4 HF4 HL3
     cases bb with
     | true =>
      have HS6 : Hid (PSt p w5 (adv s2)) := Lib.hid (by have h3 := HS5.out; unfold psd at h3; rw [if_pos hc] at h3; exact h3)
      simp only [hc, if_true] at hl3
      have HL4 : Hid (rowL p.ts π gf true ((D ++ [(n, ja, jc)]).map (·.1)) (adv s2) = some r2) := Lib.hid (by rw [List.map_append]; exact hl3)
      clear hc hl3 HS5
      go_wp2_with fail
      go_roundg gf
      case measure => omega
      case rel => exact ⟨true, D ++ [(n, ja, jc)], adv s2, rfl, HL4, HW6, HS6, HF5, Lib.hid (by have h1 := HPP.out; have h2 := HI3.out; rw [List.length_append, List.length_singleton]; unfold adv; simp only; omega)⟩
     | false =>
      have HS6 : Hid (PSt p w5 s2) := Lib.hid (by have h3 := HS5.out; unfold psd at h3; rw [if_neg (by rw [hc]; decide)] at h3; exact h3)
      simp only [hc, Bool.false_eq_true, if_false] at hl3
      have HL4 : Hid (rowL p.ts π gf false ((D ++ [(n, ja, jc)]).map (·.1)) s2 = some r2) := Lib.hid (by rw [List.map_append]; exact hl3)
      clear hc hl3 HS5
      go_wp2_with fail
      go_roundg gf
      case measure => omega
      case rel => exact ⟨false, D ++ [(n, ja, jc)], s2, rfl, HL4, HW6, HS6, HF5, Lib.hid (by have h1 := HPP.out; have h2 := HI3.out; rw [List.length_append, List.length_singleton]; omega)⟩
end Go.Proofs.YtmlclgkhnekmnaaGreatDoor
namespace Go.Proofs.YtmlclgkhnekmnaaGreatDoor
open Go.RowKit
set_option maxRecDepth 100000 in
set_option maxHeartbeats 1000000 in
theorem pargs_any (p : PC) (ex : Rd) (f : Nat) (hL : RsC p 144 #[.pointer (some ⟨p.R, 0, none⟩), .string (txt mOpen), .string (txt mClose), .func (.func 186) #[.pointer (some ⟨p.R, 0, none⟩)] #[]] (rowP p.ts mOpen mClose ex f)) :
 RsC p 193 #[.pointer (some ⟨p.R, 0, none⟩)] (argsP p.ts ex f) := by
 intro s w hs hi r hr
 have HL := Lib.hid (hL s w hs hi r hr)
 clear hL hs hi hr
 go_enter Tryz.func193, Tryz.ntmps193
 go_wp2_with fail
 refine HL.out.mono ?_
 intro ee w1 he
 cases r with
 | bad kk xx =>
  obtain ⟨rfl, hf⟩ := he
  have HE := Lib.hid hf
  clear hf
  go_wp2_with fail
  exact ⟨rfl, rfl, HE.out⟩
 | ok l s1 =>
  obtain ⟨⟨A, c, rfl, hc, hk, hle⟩, hrest⟩ := he
  have HE := Lib.hid (And.intro hc (And.intro hk (And.intro hle hrest)))
  clear hc hk hle hrest
  go_wp2_with fail
  go_ret
  exact ⟨⟨A, c, rfl, HE.out.1, HE.out.2.1, HE.out.2.2.1⟩, HE.out.2.2.2⟩
end Go.Proofs.YtmlclgkhnekmnaaGreatDoor
namespace Go.Proofs.YtmlclgkhnekmnaaGreatDoor
open Go.RowKit
theorem nln_cells {W : World} {P : Nat → Prop} {b : Nat} : ∀ {l : List Nd} {o : Nat}, NLn W P b o l → ∃ D : List NdP, D.map (·.1) = l ∧ (∀ j u, (nc6s D)[j]? = some u → W.cell? ⟨b, o + j, none⟩ = some u) ∧ ∀ d ∈ D, d.1.kids.length ≤ d.2.2 ∧ SIn W P d.1.kids d.2.1
 | [], _, _ => ⟨[], rfl, fun j u h => by simp [nc6s] at h, fun d hd => by cases hd⟩
 | n :: l, o, h => by
  obtain ⟨ia, ic, d0, d1, d2, d3, d4, d5, hic, hk⟩ := h.row (i := 0) (n := n) rfl
  simp only [Nat.zero_mul, Nat.add_zero] at d0 d1 d2 d3 d4 d5
  have h2 := h.drop 1 (by simp)
  simp only [List.drop_succ_cons, List.drop_zero, Nat.one_mul] at h2
  obtain ⟨D, hD, hc, he⟩ := nln_cells h2
  refine ⟨(n, ia, ic) :: D, by rw [List.map_cons, hD], fun j u hu => ?_, fun d hd => ?_⟩
  · have hu2 : (nc6 (n, ia, ic) ++ nc6s D)[j]? = some u := hu
    by_cases hj : j < 6
    · rw [List.getElem?_append_left (by simpa [nc6] using hj)] at hu2
      match j, hu2 with
      | 0, h => have h3 := Option.some.inj h; rw [← h3]; exact d0
      | 1, h => have h3 := Option.some.inj h; rw [← h3]; exact d1
      | 2, h => have h3 := Option.some.inj h; rw [← h3]; exact d2
      | 3, h => have h3 := Option.some.inj h; rw [← h3]; exact d3
      | 4, h => have h3 := Option.some.inj h; rw [← h3]; exact d4
      | 5, h => have h3 := Option.some.inj h; rw [← h3]; exact d5
      | j + 6, _ => omega
    · rw [List.getElem?_append_right (by simpa [nc6] using (by omega : 6 ≤ j))] at hu2
      have h3 := hc (j - 6) u hu2
      rw [show o + 6 + (j - 6) = o + j by omega] at h3
      exact h3
  · rcases List.mem_cons.1 hd with rfl | hd
    · exact ⟨hic, hk⟩
    · exact he d hd
def KidsEnd (p : PC) (P : Nat → Prop) (w : World) (s : Ps) (n : Nd) (l : List Nd) (A : Option Addr) (c : Nat) (w' : World) : Prop :=
 SIn w' P (n :: l) A ∧ l.length + 1 ≤ c ∧ PFr p.R w w' ∧ PSt p w' s
theorem nc6_one (D : List NdP) : ∀ u ∈ nc6s D, u.oneCell' = true := by
 intro u hu
 simp only [nc6s, List.mem_flatMap] at hu
 obtain ⟨e, -, hu⟩ := hu
 simp only [nc6, List.mem_cons, List.not_mem_nil, or_false] at hu
 rcases hu with rfl | rfl | rfl | rfl | rfl | rfl <;> rfl
theorem wp_kids {p : PC} {P : Nat → Prop} {w : World} {s : Ps} {n : Nd} {l : List Nd} {A Al : Option Addr} {c cl : Nat} (hst : PSt p w s) (hc : n.kids.length ≤ c) (hk : SIn w P n.kids A) (hcl : l.length ≤ cl) (hl : SIn w P l Al) (hno : Al = none → cl = 0) (hll : l.length ≤ 1000000) (hP : ∀ b, w.heap.size ≤ b → P b)
 {o : Oper} {a : Act} {K : Act → World → Prop} {Q : Exit → Act → World → Prop} (x y : Operand) (ho : o.op = .call { callee := .builtin .append, args := #[x, y], argTypes := #[22, 22] })
 (hx : a.eval x = .slice (some ⟨w.heap.size, 0, none⟩) 1 1) (hy : a.eval y = .slice Al l.length cl) (h : ∀ A' c' w', KidsEnd p P w s n l A' c' w' → K (a.put o.dst (.slice A' (l.length + 1) c')) w') :
 o.wp Tryz.prog a (w.alloc (.cells #[.int .i64 n.kind, .int .i64 n.fro, .int .i64 n.till, .int .i64 n.at', .string n.name, .slice A n.kids.length c] 24)) K Q := by
 obtain ⟨i0, hi, hz0, hz1, hz2⟩ := info_parts Tryz.infoNdP
 have hown : (w.alloc (.cells #[.int .i64 n.kind, .int .i64 n.fro, .int .i64 n.till, .int .i64 n.at', .string n.name, .slice A n.kids.length c] 24)).ownsRow w.heap.size 24 6 (.slice (some ⟨w.heap.size, 0, none⟩) 1 1) 1 (nc6 (n, A, c)) :=
  ⟨rfl, .inr ⟨w.heap.size, 1, _, rfl, Nat.le_refl _, alloc_top _ _ _, Nat.le_refl _, by unfold maxLen; omega, rfl, rfl⟩⟩
 have hb := alloc_below w (.cells #[.int .i64 n.kind, .int .i64 n.fro, .int .i64 n.till, .int .i64 n.at', .string n.name, .slice A n.kids.length c] 24)
 have ht := alloc_top w #[.int .i64 n.kind, .int .i64 n.fro, .int .i64 n.till, .int .i64 n.at', .string n.name, .slice A n.kids.length c] 24
 have hsz := World.size_alloc w (.cells #[.int .i64 n.kind, .int .i64 n.fro, .int .i64 n.till, .int .i64 n.at', .string n.name, .slice A n.kids.length c] 24)
 generalize hW : w.alloc (.cells #[.int .i64 n.kind, .int .i64 n.fro, .int .i64 n.till, .int .i64 n.at', .string n.name, .slice A n.kids.length c] 24) = W at *
 cases Al with
 | none =>
  have hl0 : l = [] := by
   rcases Nat.eq_zero_or_pos l.length with h0 | h0
   · exact List.length_eq_zero_iff.1 h0
   · obtain ⟨b, o, hA, _⟩ := hl h0; cases hA
  subst hl0
  have hc0 := hno rfl
  subst hc0
  have hrun := run_append_owned_none (P := Tryz.prog) (w := W) w.heap.size 22 o.type 24 i0 6 Tryz.underlying22 hi _ 1 _ hown
  unfold Oper.wp
  simp [execOp, ho, resolve, invoke, builtin, hx, hy, hrun, Result.andThen]
  refine h _ _ _ ⟨?_, by simp, PFr.of_below hb, hst.below hb⟩
  exact sin1 ht (hP _ (Nat.le_refl _)) hc (hk.below hb)
 | some ad =>
  obtain ⟨D, hD, hcells, hes⟩ : ∃ D : List NdP, D.map (·.1) = l ∧ (∀ j u, (nc6s D)[j]? = some u → W.cell? (ad.add j) = some u) ∧ ∀ d ∈ D, d.1.kids.length ≤ d.2.2 ∧ SIn w P d.1.kids d.2.1 := by
   rcases Nat.eq_zero_or_pos l.length with h0 | h0
   · exact ⟨[], by rw [List.length_eq_zero_iff.1 h0]; rfl, fun j u hu => by simp [nc6s] at hu, fun d hd => by cases hd⟩
   · obtain ⟨b, o, hA, -, hrow⟩ := hl h0
     obtain rfl := Option.some.inj hA
     obtain ⟨D, hD, hcs, hes⟩ := nln_cells hrow
     exact ⟨D, hD, fun j u hu => by rw [show (⟨b, o, none⟩ : Addr).add j = ⟨b, o + j, none⟩ by simp [Addr.add]]; exact ncell_blk (fun hx => hb.block b hx) (hcs j u hu), hes⟩
  have hlen : D.length = l.length := by rw [← hD, List.length_map]
  have hnl : (nc6s D).length = l.length * 6 := by
   rw [← hlen]
   have : ∀ E : List NdP, (nc6s E).length = E.length * 6 := fun E => by
    induction E with
    | nil => rfl
    | cons d E ih => rw [show nc6s (d :: E) = nc6 d ++ nc6s E from rfl, List.length_append, ih, List.length_cons]; simp [nc6]; omega
   exact this D
  refine wp_append_own2 W x y 22 ho w.heap.size 24 i0 (.agg #[.int .i64 0, .int .i64 0, .int .i64 0, .int .i64 0, .string ⟨#[]⟩, .slice none 0 0]) 6 72 Tryz.underlying22 hi hz0 hz1 hz2 rfl (by decide) _ 1 _ hx hown ad l.length cl (nc6s D) hy hnl hcells (nc6_one D) (by unfold maxLen; omega) (by omega) (by omega) ?_
  intro v' w' hown' hg hn
  rw [Nat.add_comm 1 l.length] at hown'
  obtain ⟨A', c', rfl⟩ := slice_form hown'
  have hlt : ∀ k, (Value.slice A' (l.length + 1) c').ownBlock = some k → w.heap.size ≤ k := fun k hk2 => (World.ownsRow.lt hown' k hk2).1
  have keep : ∀ (m : List Nd) (B : Option Addr), SIn W (fun b => P b ∧ b ≠ w.heap.size) m B → SIn w' P m B := fun m B hs => hs.keep (fun k hk2 hl2 => hg.block k hl2 (fun e => hk2.2 (by simpa [Value.ownBlock] using e))) (fun k hk2 _ => hk2.1)
  have hall : ∀ d ∈ ((n, A, c) :: D), d.1.kids.length ≤ d.2.2 ∧ SIn w' P d.1.kids d.2.1 := by
   intro d hd
   have hw : d.1.kids.length ≤ d.2.2 ∧ SIn w P d.1.kids d.2.1 := by
    rcases List.mem_cons.1 hd with rfl | hd
    · exact ⟨hc, hk⟩
    · exact hes d hd
   exact ⟨hw.1, keep _ _ ((hw.2.wide (Q := fun b => P b ∧ b ≠ w.heap.size) (fun k h1 h2 => ⟨h2, Nat.ne_of_lt h1⟩)).below hb)⟩
  have hblk : ∀ k, k < w.heap.size → w'.heap[k]? = w.heap[k]? := fun k hk2 => (hg.block k (by omega) (fun e => absurd (show k = w.heap.size by simpa [Value.ownBlock] using e) (by omega))).trans (hb.block k hk2)
  have hfin : SIn w' P (n :: l) A' ∧ l.length + 1 ≤ c' := by
   rcases hown'.2 with ⟨h0, h1⟩ | ⟨g, cap, cur, h0, hB, hg2, hcap, -, hsz2, ht2⟩
   · omega
   · simp only [Value.slice.injEq, true_and] at h0
     obtain ⟨rfl, rfl⟩ := h0
     refine ⟨fun _ => ⟨g, 0, rfl, hP g hB, ?_⟩, hcap⟩
     have h5 := nln_rowP ((n, A, c) :: D) 0 (W := w') (P := P) (g := g) (fun i v hv => ?_) hall
     · rw [List.map_cons, hD] at h5
       exact h5
     · have hi2 : i < (l.length + 1) * 6 := by
        have h1 := (List.getElem?_eq_some_iff.1 hv).1
        have h2 : (nc6s ((n, A, c) :: D)).length = 6 + (nc6s D).length := by rw [show nc6s ((n, A, c) :: D) = nc6 (n, A, c) ++ nc6s D from rfl, List.length_append]; simp [nc6]
        omega
       rw [cell_at hg2, ← Array.getElem?_toList, Nat.zero_add]
       rw [show nc6s ((n, A, c) :: D) = nc6 (n, A, c) ++ nc6s D from rfl, ← ht2, List.getElem?_take, if_pos hi2] at hv
       exact hv
  exact h _ _ _ ⟨hfin.1, hfin.2, ⟨hg.os.trans hb.os, hg.tape.trans hb.tape, hg.output.trans hb.output, Nat.le_trans hb.size hg.size, fun k hk2 _ => hblk k hk2⟩, hst.keep (hblk _ hst.rlt) (hblk _ hst.glt)⟩
def KidsG (p : PC) (P : Nat → Prop) (g0 : Nat) (W : World) (s : Ps) (n : Nd) (l : List Nd) (A : Option Addr) (c : Nat) (w' : World) : Prop :=
 SIn w' P (n :: l) A ∧ l.length + 1 ≤ c ∧ PSt p w' s ∧ w'.os = W.os ∧ w'.tape = W.tape ∧ w'.output = W.output ∧ W.heap.size ≤ w'.heap.size ∧ ∀ k, k < W.heap.size → k ≠ g0 → w'.heap[k]? = W.heap[k]?
theorem wp_kidsG {p : PC} {P : Nat → Prop} {W : World} {g0 : Nat} {s : Ps} {n : Nd} {l : List Nd} {A Al : Option Addr} {c cl : Nat} (hst : PSt p W s) (h1 : g0 ≠ p.R) (h2 : g0 ≠ p.G) (ht : W.heap[g0]? = some (.cells #[.int .i64 n.kind, .int .i64 n.fro, .int .i64 n.till, .int .i64 n.at', .string n.name, .slice A n.kids.length c] 24 (0, 0))) (hc : n.kids.length ≤ c) (hk : SIn W (fun b => P b ∧ b ≠ g0) n.kids A) (hcl : l.length ≤ cl) (hl : SIn W (fun b => P b ∧ b ≠ g0) l Al) (hno : Al = none → cl = 0) (hll : l.length ≤ 1000000) (hP : ∀ b, g0 ≤ b → P b)
 {o : Oper} {a : Act} {K : Act → World → Prop} {Q : Exit → Act → World → Prop} (x y : Operand) (ho : o.op = .call { callee := .builtin .append, args := #[x, y], argTypes := #[22, 22] })
 (hx : a.eval x = .slice (some ⟨g0, 0, none⟩) 1 1) (hy : a.eval y = .slice Al l.length cl) (h : ∀ A' c' w', KidsG p P g0 W s n l A' c' w' → K (a.put o.dst (.slice A' (l.length + 1) c')) w') :
 o.wp Tryz.prog a W K Q := by
 obtain ⟨i0, hi, hz0, hz1, hz2⟩ := info_parts Tryz.infoNdP
 have hg0 : g0 < W.heap.size := (Array.getElem?_eq_some_iff.1 ht).1
 have hown : W.ownsRow g0 24 6 (.slice (some ⟨g0, 0, none⟩) 1 1) 1 (nc6 (n, A, c)) :=
  ⟨rfl, .inr ⟨g0, 1, _, rfl, Nat.le_refl _, ht, Nat.le_refl _, by unfold maxLen; omega, rfl, rfl⟩⟩
 cases Al with
 | none =>
  have hl0 : l = [] := by
   rcases Nat.eq_zero_or_pos l.length with h0 | h0
   · exact List.length_eq_zero_iff.1 h0
   · obtain ⟨b, o, hA, _⟩ := hl h0; cases hA
  subst hl0
  have hc0 := hno rfl
  subst hc0
  have hrun := run_append_owned_none (P := Tryz.prog) (w := W) g0 22 o.type 24 i0 6 Tryz.underlying22 hi _ 1 _ hown
  unfold Oper.wp
  simp [execOp, ho, resolve, invoke, builtin, hx, hy, hrun, Result.andThen]
  refine h _ _ _ ⟨?_, by simp, hst, rfl, rfl, rfl, Nat.le_refl _, fun _ _ _ => rfl⟩
  exact sin1 ht (hP _ (Nat.le_refl _)) hc (hk.wide (fun k _ h => h.1))
 | some ad =>
  obtain ⟨D, hD, hcells, hes⟩ : ∃ D : List NdP, D.map (·.1) = l ∧ (∀ j u, (nc6s D)[j]? = some u → W.cell? (ad.add j) = some u) ∧ ∀ d ∈ D, d.1.kids.length ≤ d.2.2 ∧ SIn W (fun b => P b ∧ b ≠ g0) d.1.kids d.2.1 := by
   rcases Nat.eq_zero_or_pos l.length with h0 | h0
   · exact ⟨[], by rw [List.length_eq_zero_iff.1 h0]; rfl, fun j u hu => by simp [nc6s] at hu, fun d hd => by cases hd⟩
   · obtain ⟨b, o, hA, -, hrow⟩ := hl h0
     obtain rfl := Option.some.inj hA
     obtain ⟨D, hD, hcs, hes⟩ := nln_cells hrow
     exact ⟨D, hD, fun j u hu => by rw [show (⟨b, o, none⟩ : Addr).add j = ⟨b, o + j, none⟩ by simp [Addr.add]]; exact hcs j u hu, hes⟩
  have hlen : D.length = l.length := by rw [← hD, List.length_map]
  have hnl : (nc6s D).length = l.length * 6 := by
   rw [← hlen]
   have : ∀ E : List NdP, (nc6s E).length = E.length * 6 := fun E => by
    induction E with
    | nil => rfl
    | cons d E ih => rw [show nc6s (d :: E) = nc6 d ++ nc6s E from rfl, List.length_append, ih, List.length_cons]; simp [nc6]; omega
   exact this D
  refine wp_append_own2 W x y 22 ho g0 24 i0 (.agg #[.int .i64 0, .int .i64 0, .int .i64 0, .int .i64 0, .string ⟨#[]⟩, .slice none 0 0]) 6 72 Tryz.underlying22 hi hz0 hz1 hz2 rfl (by decide) _ 1 _ hx hown ad l.length cl (nc6s D) hy hnl hcells (nc6_one D) (by unfold maxLen; omega) (by omega) (Nat.le_of_lt hg0) ?_
  intro v' w' hown' hg hn
  rw [Nat.add_comm 1 l.length] at hown'
  obtain ⟨A', c', rfl⟩ := slice_form hown'
  have hblk : ∀ k, k < W.heap.size → k ≠ g0 → w'.heap[k]? = W.heap[k]? := fun k hk2 hne => hg.block k hk2 (fun e => absurd (show k = g0 by simpa [Value.ownBlock] using e) hne)
  have keep : ∀ (m : List Nd) (B : Option Addr), SIn W (fun b => P b ∧ b ≠ g0) m B → SIn w' P m B := fun m B hs => hs.keep (fun k hk2 hl2 => hblk k hl2 hk2.2) (fun k hk2 _ => hk2.1)
  have hall : ∀ d ∈ ((n, A, c) :: D), d.1.kids.length ≤ d.2.2 ∧ SIn w' P d.1.kids d.2.1 := by
   intro d hd
   rcases List.mem_cons.1 hd with rfl | hd
   · exact ⟨hc, keep _ _ hk⟩
   · exact ⟨(hes d hd).1, keep _ _ (hes d hd).2⟩
  have hfin : SIn w' P (n :: l) A' ∧ l.length + 1 ≤ c' := by
   rcases hown'.2 with ⟨h0, h1⟩ | ⟨g, cap, cur, h0, hB, hg2, hcap, -, hsz2, ht2⟩
   · omega
   · simp only [Value.slice.injEq, true_and] at h0
     obtain ⟨rfl, rfl⟩ := h0
     refine ⟨fun _ => ⟨g, 0, rfl, hP g hB, ?_⟩, hcap⟩
     have h5 := nln_rowP ((n, A, c) :: D) 0 (W := w') (P := P) (g := g) (fun i v hv => ?_) hall
     · rw [List.map_cons, hD] at h5
       exact h5
     · have hi2 : i < (l.length + 1) * 6 := by
        have h1 := (List.getElem?_eq_some_iff.1 hv).1
        have h2 : (nc6s ((n, A, c) :: D)).length = 6 + (nc6s D).length := by rw [show nc6s ((n, A, c) :: D) = nc6 (n, A, c) ++ nc6s D from rfl, List.length_append]; simp [nc6]
        omega
       rw [cell_at hg2, ← Array.getElem?_toList, Nat.zero_add]
       rw [show nc6s ((n, A, c) :: D) = nc6 (n, A, c) ++ nc6s D from rfl, ← ht2, List.getElem?_take, if_pos hi2] at hv
       exact hv
  exact h _ _ _ ⟨hfin.1, hfin.2, hst.keep (hblk _ hst.rlt (Ne.symm h1)) (hblk _ hst.glt (Ne.symm h2)), hg.os, hg.tape, hg.output, hg.size, hblk⟩
theorem wpOp_wp {P : Program} {ops : Array Oper} {Q : Exit → Act → World → Prop} {K : Act → World → Prop} {i : Nat} {o : Oper} {a : Act} {w : World} (ho : ops[i]? = some o) (hw : Region.wanted o (yielded ops a.tmps) = true) (h : o.wp P a w K Q) : wpOp P ops Q i K a w := by
 unfold wpOp
 rw [ho]
 simp only [hw, if_true]
 exact Or.inl h
theorem wp_val {P : Program} {Q : Exit → Act → World → Prop} {K : Act → World → Prop} {o : Oper} {a : Act} {w w' : World} {v : Value} (hr : (execOp a.eval o).run P w = .ok (.value v) w') (h : K (a.put o.dst v) w') : o.wp P a w K Q := by
 unfold Oper.wp
 rw [hr, Oper.upon_value]
 exact h
theorem wp_enter {P : Program} {Q : Exit → Act → World → Prop} {K : Act → World → Prop} {o : Oper} {a : Act} {w : World} {f : FuncId} {args : Array Value} {R : Ending → World → Prop} (hr : (execOp a.eval o).run P w = .ok (.enter f args) w) (hc : Calls P f args w R)
 (h : ∀ e w', R e w' → (match e with | .returned v => K (a.put o.dst v) w' | .panicked chain => Q (.panic chain) a w' | .outgrown => LetsOut Q)) : o.wp P a w K Q := by
 unfold Oper.wp
 rw [hr, Oper.upon_enter]
 refine hc.mono fun e w' he => ?_
 have h2 := h e w' he
 cases e <;> exact h2
theorem wpList_kids {p : PC} {P : Nat → Prop} {w : World} {s : Ps} {n : Nd} {l : List Nd} {A Al : Option Addr} {c cl : Nat} (hst : PSt p w s) (hc : n.kids.length ≤ c) (hk : SIn w P n.kids A) (hcl : l.length ≤ cl) (hl : SIn w P l Al) (hno : Al = none → cl = 0) (hll : l.length ≤ 1000000) (hP : ∀ b, w.heap.size ≤ b → P b)
 {ops : Array Oper} {rest : List Oper} {o : Oper} {a : Act} {Q : Exit → Act → World → Prop} (hgd : o.guard = none) (x y : Operand) (ho : o.op = .call { callee := .builtin .append, args := #[x, y], argTypes := #[22, 22] })
 (hx : a.eval x = .slice (some ⟨w.heap.size, 0, none⟩) 1 1) (hy : a.eval y = .slice Al l.length cl) (h : ∀ A' c' w', KidsEnd p P w s n l A' c' w' → wpList Tryz.prog ops Q rest (a.put o.dst (.slice A' (l.length + 1) c')) w') :
 wpList Tryz.prog ops Q (o :: rest) a (w.alloc (.cells #[.int .i64 n.kind, .int .i64 n.fro, .int .i64 n.till, .int .i64 n.at', .string n.name, .slice A n.kids.length c] 24)) :=
 wpList_plain hgd fun _ hK => wp_kids hst hc hk hcl hl hno hll hP x y ho hx hy fun A' c' w' he => hK _ _ (h A' c' w' he)
end Go.Proofs.YtmlclgkhnekmnaaGreatDoor
