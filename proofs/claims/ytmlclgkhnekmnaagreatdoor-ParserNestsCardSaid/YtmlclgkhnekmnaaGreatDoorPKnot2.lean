/- Part of a proof. -/
import Derived.Test.YtmlclgkhnekmnaaGreatDoorPFl
import Derived.Test.YtmlclgkhnekmnaaGreatDoorPW5
import Derived.Test.YtmlclgkhnekmnaaGreatDoorPW3
import Derived.Test.YtmlclgkhnekmnaaGreatDoorPW4
import Derived.Test.YtmlclgkhnekmnaaGreatDoorPW6
import Derived.Test.YtmlclgkhnekmnaaGreatDoorPW8
import Derived.Test.YtmlclgkhnekmnaaGreatDoorPW10
import Derived.Test.YtmlclgkhnekmnaaGreatDoorPW11
import Derived.Test.YtmlclgkhnekmnaaGreatDoorPW12
import Derived.Test.YtmlclgkhnekmnaaGreatDoorPKids
import Derived.Test.YtmlclgkhnekmnaaGreatDoorPLx
import Derived.Test.YtmlclgkhnekmnaaGreatDoorPNames
import Derived.Deep.DeepCutAuto
import Derived.Deep.CutBlock
namespace Go.Proofs.YtmlclgkhnekmnaaGreatDoor
open Go.RowKit
abbrev PPtr (p : PC) : Value := .pointer (some ⟨p.R, 0, none⟩)
theorem args_of (p : PC) (ex : Rd) (f : Nat) (hE : RdC p 186 #[PPtr p] ex) : RsC p 193 #[PPtr p] (argsP p.ts ex f) :=
 pargs_any p ex f (prow_any p mOpen mClose (by decide) (by decide) _ ex ⟨enters_of Tryz.func186 (by kernel_rfl) rfl, hE⟩ f)
theorem chain_of (p : PC) (ex : Rd) (f : Nat) (hE : RdC p 186 #[PPtr p] ex) : RdC p 171 #[PPtr p] (chainP p.ts ex f) :=
 pchain_any p ex f (poperand_any p ex hE f (args_of p ex f hE)) (args_of p ex f hE)
  (pliteral_any p ex f (prow_any p mLBrace mRBrace (by decide) (by decide) _ _ ⟨enters_of Tryz.func207 (by kernel_rfl) rfl, pkeyed_any p ex hE⟩ f))
  (fun _ _ _ h => .other _ (operand_kind h))
theorem ex_any (p : PC) : ∀ f : Nat, RdC p 223 #[PPtr p] (exF p.ts f).1 ∧ ∀ l : Nat, 1 ≤ l → l ≤ 6 → RdC p 205 #[PPtr p, .int .i64 (l : Int)] ((exF p.ts f).2 l)
 | 0 => ⟨(fun s w _ _ r h => by cases h), (fun l _ _ s w _ _ r h => by cases h)⟩
 | f + 1 => by
  have ih := ex_any p f
  have hE : RdC p 186 #[PPtr p] ((exF p.ts f).2 1) := pexpr_any p _ (ih.2 1 (by decide) (by decide))
  exact ⟨punary_any p _ _ f ih.1 (chain_of p _ f hE), fun l h1 h2 => pbinary_any p _ _ f l ⟨h1, h2⟩ ih.1 ih.2⟩
theorem expr_of (p : PC) (f : Nat) : RdC p 186 #[PPtr p] (exprP p.ts f) := pexpr_any p _ ((ex_any p f).2 1 (by decide) (by decide))
theorem typ_of (p : PC) : RdC p 118 #[PPtr p] (typP p.ts) := ptyp_any p (pownType_any p)
theorem block_of (p : PC) (st : Rd) (f : Nat) (hS : RdC p 147 #[PPtr p] st) : RdC p 119 #[PPtr p] (blockP p.ts st f) :=
 pblock_any p st f (plines_any p _ st ⟨enters_of Tryz.func147 (by kernel_rfl) rfl, hS⟩ f)
theorem st_any (p : PC) (hLH : ∀ f, LhC p (loopHeadP p.ts (exprP p.ts f) f)) : ∀ f : Nat, RdC p 147 #[PPtr p] (stF p.ts f).1 ∧ RdC p 162 #[PPtr p] (stF p.ts f).2
 | 0 => ⟨(fun s w _ _ r h => by cases h), (fun s w _ _ r h => by cases h)⟩
 | f + 1 => by
  have ih := st_any p hLH f
  have hE := expr_of p f
  have hB := block_of p _ f ih.1
  have hL := ploop_any p (exprP p.ts f) (stF p.ts f).1 f hB (hLH f)
  exact ⟨pstmt_any p (exprP p.ts f) (stF p.ts f).1 (stF p.ts f).2 f hB ih.2 hL (pvariable_any p _ hE (typ_of p)) (preturned_any p _ hE) (plabelled_any p _ _ f hL) (pdefine_any p _ hE) (chain_of p _ f hE) (psimple_any p _ hE) (fun _ _ _ h => chain_sel h),
   pcondition_any p (exprP p.ts f) (stF p.ts f).1 (stF p.ts f).2 f hE hB (pother_any p _ _ f ih.2 hB)⟩
theorem decl_of (p : PC) (hLH : ∀ f, LhC p (loopHeadP p.ts (exprP p.ts f) f)) (f : Nat) : RdC p 68 #[PPtr p] (declP p.ts f) := by
 have hT := typ_of p
 refine pdecl_any p f (pstructType_any p f (plines_any p _ _ ⟨enters_of Tryz.func115 (by kernel_rfl) rfl, pfield_any p (pnameAndType_any p 4 hT)⟩ f)) ?_
 refine pfunction_any p f (preceiver_any p (pownType_any p)) (pparams_any p f (prow_any p mOpen mClose (by decide) (by decide) _ _ ⟨enters_of Tryz.func145 (by kernel_rfl) rfl, pparam_any p (pnameAndType_any p 7 hT)⟩ f)) hT ?_
 exact block_of p _ f (st_any p hLH f).1
end Go.Proofs.YtmlclgkhnekmnaaGreatDoor
namespace Go.Proofs.YtmlclgkhnekmnaaGreatDoor
open Go.RowKit
abbrev Pl3 (w : World) (D : List NdL) (b : Nat) : Prop := w.heap.size + 2 < b ∧ ∀ d ∈ D, b ≠ d.1
structure Ly (p : PC) (w W : World) (s : Ps) (D : List NdL) : Prop where
 fl : Fl p w W s
 nd : ∀ a ∈ D, w.heap.size ≤ a.1 ∧ W.heap[a.1]? = some (.cells (cNd a.2.1 a.2.2.1 a.2.2.2) 24 (0, 0)) ∧ a.2.1.kids.length ≤ a.2.2.2 ∧ SIn W (Pl3 w D) a.2.1.kids a.2.2.1
 apart : (D.map (·.1)).Nodup
section
variable {p : PC} {w W W' : World} {s s' : Ps} {D : List NdL}
theorem Ly.start (h : PSt p w s) : Ly p w (((w.alloc (.cells zNd 24)).alloc (.cells zNd 24)).alloc (.cells zNd 24)) s [(w.heap.size + 1 + 1, noN, none, 0), (w.heap.size + 1, noN, none, 0), (w.heap.size, noN, none, 0)] := by
 refine ⟨⟨((h.alloc _).alloc _).alloc _, (((PFr.refl _ _).alloc _).alloc _).alloc _, h.rlt, h.glt, by rw [World.size_alloc, World.size_alloc, World.size_alloc]; omega⟩, fun a ha => ?_, by simp; omega⟩
 rcases List.mem_cons.1 ha with rfl | ha
 · exact ⟨by show w.heap.size ≤ w.heap.size + 1 + 1; omega, alloc_top3 w _ _ _ _, Nat.le_refl _, sin0⟩
 · rcases List.mem_cons.1 ha with rfl | ha
   · exact ⟨by show w.heap.size ≤ w.heap.size + 1; omega, blk_alloc (alloc_top2 w _ _ _), Nat.le_refl _, sin0⟩
   · rcases List.mem_cons.1 ha with rfl | ha
     · exact ⟨Nat.le_refl _, blk_alloc (blk_alloc (alloc_top w _ _)), Nat.le_refl _, sin0⟩
     · cases ha
theorem Ly.step (h : Ly p w W s D) (hf : PFr p.R W W') (hs : PSt p W' s') : Ly p w W' s' D := by
 have hr := h.fl.rlt
 refine ⟨h.fl.step hf hs, fun a ha => ?_, h.apart⟩
 obtain ⟨h1, h2, h3, h4⟩ := h.nd a ha
 exact ⟨h1, hf.kept (by omega) h2, h3, h4.fr hf (fun hh => by have := hh.1; omega)⟩
theorem Ly.below (h : Ly p w W s D) (hb : Below W.heap.size W W') : Ly p w W' s D := h.step (PFr.of_below hb) (h.fl.st.below hb)
theorem Ly.lt (h : Ly p w W s D) {a : NdL} (ha : a ∈ D) : a.1 < W.heap.size := (Array.getElem?_eq_some_iff.1 (h.nd a ha).2.1).1
theorem Ly.put (D1 : List NdL) {D2 : List NdL} {N : Nat} {m : Nd} {B : Option Addr} {b : Nat} (h : Ly p w W s (D1 ++ (N, m, B, b) :: D2)) {n : Nd} {A : Option Addr} {c : Nat} (hc : n.kids.length ≤ c) (hk : SIn W (Pl3 w (D1 ++ (N, m, B, b) :: D2)) n.kids A) :
 Ly p w ((((((W.setCell ⟨N, 0, none⟩ (.int .i64 n.kind)).setCell ⟨N, 1, none⟩ (.int .i64 n.fro)).setCell ⟨N, 2, none⟩ (.int .i64 n.till)).setCell ⟨N, 3, none⟩ (.int .i64 n.at')).setCell ⟨N, 4, none⟩ (.string n.name)).setCell ⟨N, 5, none⟩ (.slice A n.kids.length c)) s (D1 ++ (N, n, A, c) :: D2) := by
 have hN : (N, m, B, b) ∈ D1 ++ (N, m, B, b) :: D2 := List.mem_append_right _ (List.mem_cons_self ..)
 obtain ⟨n1, n2, _, _⟩ := h.nd _ hN
 have hap := h.apart
 rw [List.map_append, List.map_cons, List.perm_middle.nodup_iff, List.nodup_cons] at hap
 have hother : ∀ k, k ≠ N → _ := fun k hk => six_otherP (W := W) hk (.int .i64 n.kind) (.int .i64 n.fro) (.int .i64 n.till) (.int .i64 n.at') (.string n.name) (.slice A n.kids.length c)
 have hpl : ∀ k, Pl3 w (D1 ++ (N, m, B, b) :: D2) k → Pl3 w (D1 ++ (N, n, A, c) :: D2) k := fun k hk => ⟨hk.1, fun d hd => by
  rcases List.mem_append.1 hd with hd | hd
  · exact hk.2 d (List.mem_append_left _ hd)
  · rcases List.mem_cons.1 hd with rfl | hd
    · exact hk.2 (N, m, B, b) hN
    · exact hk.2 d (List.mem_append_right _ (List.mem_cons_of_mem _ hd))⟩
 have wd : ∀ {l : List Nd} {C : Option Addr}, SIn W (Pl3 w (D1 ++ (N, m, B, b) :: D2)) l C → SIn _ (Pl3 w (D1 ++ (N, n, A, c) :: D2)) l C := fun hs => hs.keep (fun k hk _ => hother k (hk.2 _ hN)) (fun k hk _ => hpl k hk)
 have rest : ∀ a ∈ D1 ++ D2, _ := fun a ha => by
  have h2 : a.1 ∈ D1.map (·.1) ++ D2.map (·.1) := by rw [← List.map_append]; exact List.mem_map.2 ⟨a, ha, rfl⟩
  have o1 : a ∈ D1 ++ (N, m, B, b) :: D2 := by
   rcases List.mem_append.1 ha with ha | ha
   · exact List.mem_append_left _ ha
   · exact List.mem_append_right _ (List.mem_cons_of_mem _ ha)
  obtain ⟨a1, a2, a3, a4⟩ := h.nd a o1
  exact And.intro a1 (And.intro ((hother a.1 (fun e => hap.1 (e ▸ h2))).trans a2) (And.intro a3 (wd a4)))
 refine ⟨h.fl.set6 n1 _ _ _ _ _ _, fun a ha => ?_, ?_⟩
 · rcases List.mem_append.1 ha with ha | ha
   · exact rest a (List.mem_append_left _ ha)
   · rcases List.mem_cons.1 ha with rfl | ha
     · exact ⟨n1, six_heap n2, hc, wd hk⟩
     · exact rest a (List.mem_append_right _ ha)
 · rw [List.map_append, List.map_cons, List.perm_middle.nodup_iff, List.nodup_cons]
   exact hap
theorem ly_tk {g : FuncId} {args : Array Value} {r : Pz Tok} {d : Nat} {Q : Ending → World → Prop} (h : Ly p w W s D) (hc : Calls Tryz.prog g args W (TkEnd p W s d r))
 (bad : ∀ k x w', r = .bad k x → PFr p.R w w' → Q (.panicked [stopV k x]) w') (ok : ∀ t s' w', r = .ok t s' → Ly p w w' s' D → s'.i = s.i + 1 → s'.o = s.o + d → Q (.returned (.agg (cTk t))) w') : Calls Tryz.prog g args W Q := by
 refine hc.mono ?_
 intro e w' he
 cases r with
 | bad k x =>
  obtain ⟨rfl, hf⟩ := he
  exact bad k x w' rfl (h.fl.fr.trans hf)
 | ok t s' =>
  obtain ⟨rfl, hs, hf, hi, ho⟩ := he
  exact ok t s' w' rfl (h.step hf hs) hi ho
theorem ly_nd {g : FuncId} {args : Array Value} {r : Pz Nd} {Q : Ending → World → Prop} (h : Ly p w W s D) (hc : Calls Tryz.prog g args W (NdEnd p W s r))
 (bad : ∀ k x w', r = .bad k x → PFr p.R w w' → Q (.panicked [stopV k x]) w') (ok : ∀ n s' A c w', r = .ok n s' → Ly p w w' s' D → n.kids.length ≤ c → SIn w' (Pl3 w D) n.kids A → s.i < s'.i → s'.o = s.o → Q (.returned (.agg (cNd n A c))) w') : Calls Tryz.prog g args W Q := by
 refine hc.mono ?_
 intro e w' he
 cases r with
 | bad k x =>
  obtain ⟨rfl, hf⟩ := he
  exact bad k x w' rfl (h.fl.fr.trans hf)
 | ok n s' =>
  obtain ⟨⟨v, rfl, hn⟩, hs, hf, hi, ho⟩ := he
  obtain ⟨A, c, rfl, hc, hk⟩ := hn.open
  refine ok n s' A c w' rfl (h.step hf hs) hc (hk.wide (fun k _ h1 => ⟨Nat.lt_of_lt_of_le h.fl.lt h1, fun d hd => ?_⟩)) hi ho
  have := h.lt hd
  omega
theorem ly_q {ex : Rd} {n : Nd} {A : Option Addr} {c : Nat} {r : Pz Nd} {Q : Ending → World → Prop} (h : Ly p w W s D) (hS : SimC p ex) (hi : 1 ≤ s.i) (hG : SelG n) (hc : n.kids.length ≤ c) (hk : SIn W (Pl3 w D) n.kids A) (hr : simpleP p.ts ex n s = some r)
 (bad : ∀ k x w', r = .bad k x → PFr p.R w w' → Q (.panicked [stopV k x]) w') (ok : ∀ n s' A c w', r = .ok n s' → Ly p w w' s' D → n.kids.length ≤ c → SIn w' (Pl3 w D) n.kids A → s.i ≤ s'.i → s'.o = s.o → Q (.returned (.agg (cNd n A c))) w') : Calls Tryz.prog 170 #[.pointer (some ⟨p.R, 0, none⟩), .agg #[.int .i64 n.kind, .int .i64 n.fro, .int .i64 n.till, .int .i64 n.at', .string n.name, .slice A n.kids.length c]] W Q := by
 refine (hS (Pl3 w D) n A c s W h.fl.st hi hG hc hk (fun b hb => ⟨Nat.lt_of_lt_of_le h.fl.lt hb, fun d hd => by have := h.lt hd; omega⟩) (fun hh => by have := hh.1; have := h.fl.rlt; omega) r hr).mono ?_
 intro e w' he
 cases r with
 | bad k x =>
  obtain ⟨rfl, hf⟩ := he
  exact bad k x w' rfl (h.fl.fr.trans hf)
 | ok n s' =>
  obtain ⟨⟨v, rfl, hn⟩, hs, hf, hi, ho⟩ := he
  obtain ⟨A, c, rfl, hc, hk⟩ := hn.open
  exact ok n s' A c w' rfl (h.step hf hs) hc hk hi ho
theorem ly_b {g : FuncId} {args : Array Value} {v : Value} {Q : Ending → World → Prop} (h : Ly p w W s D) (hc : Calls Tryz.prog g args W fun e w' => e = .returned v ∧ Below W.heap.size W w') (ok : ∀ w', Ly p w w' s D → Q (.returned v) w') : Calls Tryz.prog g args W Q := by
 refine hc.mono ?_
 rintro e w' ⟨rfl, hb⟩
 exact ok w' (h.below hb)
theorem ly_end {a b c : Nd} {A B C : Option Addr} {x y z : Nat} (h : Ly p w W s' [(w.heap.size + 1 + 1, c, C, z), (w.heap.size + 1, b, B, y), (w.heap.size, a, A, x)]) (hi : s.i < s'.i) (ho : s'.o = s.o) {fn : Func} {tmps : Array Value} (hr : fn.results = #[.cell 2 24, .cell 3 24, .cell 4 24] := by rfl) (h2 : tmps.getD 2 undef = .pointer (some ⟨w.heap.size, 0, none⟩) := by rfl) (h3 : tmps.getD 3 undef = .pointer (some ⟨w.heap.size + 1, 0, none⟩) := by rfl) (h4 : tmps.getD 4 undef = .pointer (some ⟨w.heap.size + 1 + 1, 0, none⟩) := by rfl) :
 bodyPost Tryz.prog fn (ThEnd p w s (.ok (a, b, c) s')) Exit.ret ⟨tmps, []⟩ W.drew := by
 have ha := h.nd (w.heap.size, a, A, x) (by simp)
 have hb := h.nd (w.heap.size + 1, b, B, y) (by simp)
 have hc := h.nd (w.heap.size + 1 + 1, c, C, z) (by simp)
 have hn : ¬ (w.heap.size + 2 < p.R) := by have := h.fl.rlt; omega
 refine ret_cell3A (p := 2) (q := 3) (t := 4) hr _ h2 h3 h4 _ _ _ (load_ndD ha.2.1) (load_ndD hb.2.1) (load_ndD hc.2.1) ?_
 exact Fl.done h.fl.drew ⟨ha.2.2.1, SIn.drewP (p := p) (ha.2.2.2.wide fun _ _ hk => hk.1) hn⟩ ⟨hb.2.2.1, SIn.drewP (p := p) (hb.2.2.2.wide fun _ _ hk => hk.1) hn⟩ ⟨hc.2.2.1, SIn.drewP (p := p) (hc.2.2.2.wide fun _ _ hk => hk.1) hn⟩ hi ho
end
end Go.Proofs.YtmlclgkhnekmnaaGreatDoor
namespace Go.Proofs.YtmlclgkhnekmnaaGreatDoor
open Go.RowKit
set_option maxRecDepth 100000 in
set_option maxHeartbeats 8000000 in
theorem ploopHead_any (p : PC) (ex : Rd) (f : Nat) (hE : RdC p 186 #[.pointer (some ⟨p.R, 0, none⟩)] ex) (hD : RdC p 169 #[.pointer (some ⟨p.R, 0, none⟩)] (defineP p.ts ex)) (hCh : RdC p 171 #[.pointer (some ⟨p.R, 0, none⟩)] (chainP p.ts ex f)) (hSM : SimC p ex) (hG : ∀ s n s2, chainP p.ts ex f s = some (.ok n s2) → SelG n) (hGe : ∀ s n s2, ex s = some (.ok n s2) → SelG n) : LhC p (loopHeadP p.ts ex f) := by
 intro s w hs hi r hr
 have HR := Lib.hid hr
 have L0 := Lib.hid (Ly.start hs)
 have HE := Lib.hid hE
 have HD := Lib.hid hD
 have HCH := Lib.hid hCh
 have HSM := Lib.hid hSM
 have HG := Lib.hid hG
 have HGE := Lib.hid hGe
 have HI := Lib.hid hi
 clear hs hi hr hE hD hCh hSM hG hGe
 go_enter Tryz.func188, Tryz.ntmps188
 go_upto_block 0 with fail
 go_cut [] (fun wx => ∃ (a : Nd) (A : Option Addr) (c : Nat) (n : Nd) (B : Option Addr) (d : Nat) (s' : Ps), loopTail p.ts ex f a s' = some r ∧ Hid (Ly p w wx s' [(w.heap.size + 1 + 1, noN, none, 0), (w.heap.size + 1, n, B, d), (w.heap.size, a, A, c)]) ∧ Hid (s.i ≤ s'.i ∧ s'.o = s.o))
 case first =>
  go_wp2_with fail
  refine ly_b L0.out (pkind_any p 7 s _ L0.out.fl.st) fun w1 L => ?_
  have L1 := Lib.hid L
  clear L
  have hx := HR.out
  unfold loopHeadP at hx
  generalize kdB p.ts s 7 = b at *
  have HX := Lib.hid hx
  clear hx HR
  cases b with
  | true =>
   go_wp2_with fail
   go_meet
   exact ⟨noN, none, 0, noN, none, 0, s, HX.out, L1, Lib.hid ⟨Nat.le_refl _, rfl⟩⟩
  | false =>
   go_wp2_with fail
   refine ly_b L1.out (pnames_any p mDef s _ L1.out.fl.st) fun w2 L => ?_
   have L2 := Lib.hid L
   have hx := HX.out
   simp only [Bool.false_eq_true, if_false] at hx
   generalize nxB p.ts s mDef = b at *
   have HX := Lib.hid hx
   clear L hx
   cases b with
   | true =>
    obtain ⟨r1, hx1, hr⟩ := bind_pf HX.out
    have HR := Lib.hid hr
    have HX1 := Lib.hid hx1
    clear hx1 hr
    go_wp2_with fail
    refine ly_nd L2.out (HD.out s _ L2.out.fl.st HI.out r1 HX1.out) (fun k x w' e hf => ⟨rfl, by rw [bad_eq HR.out e]; exact ⟨rfl, hf⟩⟩) fun n s3 A c w3 e L hc hk hi1 ho1 => ?_
    have h1 := (L.nd (w.heap.size, noN, none, 0) (by simp)).2.1
    obtain ⟨⟨y0, y1, y2, y3, y4, y5⟩, x0, x1, x2, x3, x4, x5⟩ := six_all h1
    have L3 := Lib.hid (L.put [_, _] hc hk)
    have HI3 : Hid (s.i ≤ s3.i ∧ s3.o = s.o) := Lib.hid ⟨by omega, ho1⟩
    clear L hc hk hi1 ho1 h1
    go_wp2_with fail
    go_meet
    exact ⟨n, A, c, noN, none, 0, s3, ok_eq HR.out e, L3, HI3⟩
   | false =>
    obtain ⟨r1, hx1, hr⟩ := bind_pf HX.out
    have HR := Lib.hid hr
    have HX1 := Lib.hid hx1
    clear hx1 hr
    go_wp2_with fail
    refine ly_nd L2.out (HE.out s _ L2.out.fl.st HI.out r1 HX1.out) (fun k x w' e hf => ⟨rfl, by rw [bad_eq HR.out e]; exact ⟨rfl, hf⟩⟩) fun n s3 A c w3 e L hc hk hi1 ho1 => ?_
    have h1 := (L.nd (w.heap.size + 1, noN, none, 0) (by simp)).2.1
    obtain ⟨⟨y0, y1, y2, y3, y4, y5⟩, x0, x1, x2, x3, x4, x5⟩ := six_all h1
    have L3 := Lib.hid (L.put [_] hc hk)
    have HI3 : Hid (s.i < s3.i ∧ s3.o = s.o) := Lib.hid ⟨hi1, ho1⟩
    have HGn := Lib.hid (HGE.out _ _ _ (e ▸ HX1.out))
    have hx := ok_eq HR.out e
    clear L hc hk hi1 ho1 h1
    go_wp2_with fail
    refine ly_b L3.out (pstands_any p mLBrace s3 _ L3.out.fl.st) fun w4 L => ?_
    have L4 := Lib.hid L
    generalize atB p.ts s3 mLBrace = b at *
    have HX := Lib.hid hx
    clear L hx e
    cases b with
    | true =>
     obtain rfl := (Option.some.inj HX.out).symm
     obtain ⟨⟨y0, y1, y2, y3, y4, y5⟩, x0, x1, x2, x3, x4, x5⟩ := six_all (L4.out.nd (w.heap.size, noN, none, 0) (by simp)).2.1
     obtain ⟨⟨u0, u1, u2, u3, u4, u5⟩, v0, v1, v2, v3, v4, v5⟩ := six_all (L4.out.nd (w.heap.size + 1, n, A, c) (by simp)).2.1
     obtain ⟨⟨p0, p1, p2, p3, p4, p5⟩, q0, q1, q2, q3, q4, q5⟩ := six_all (L4.out.nd (w.heap.size + 1 + 1, noN, none, 0) (by simp)).2.1
     have hla := L4.out.lt (a := (w.heap.size, noN, none, 0)) (by simp)
     have hlb := L4.out.lt (a := (w.heap.size + 1, n, A, c)) (by simp)
     have hlc := L4.out.lt (a := (w.heap.size + 1 + 1, noN, none, 0)) (by simp)
     go_wp2_with fail
     go_region
     clear y0 y1 y2 y3 y4 y5 x0 x1 x2 x3 x4 x5 u0 u1 u2 u3 u4 u5 v0 v1 v2 v3 v4 v5 p0 p1 p2 p3 p4 p5 q0 q1 q2 q3 q4 q5
     go_wp2_with fail
     have L5 := L4.out.put [_, _] (n := noN) (A := none) (c := 0) (Nat.le_refl _) sin0
     obtain ⟨_, _, ka, kb⟩ := L5.nd (w.heap.size + 1, n, A, c) (by simp)
     have L6 := L5.put [_] ka kb
     have L7 := L6.put [] (n := noN) (A := none) (c := 0) (Nat.le_refl _) sin0
     exact ly_end L7 HI3.out.1 HI3.out.2
    | false =>
     have hx := HX.out
     simp only [Bool.false_eq_true, if_false] at hx
     obtain ⟨r2, hx2, hr⟩ := bind_pf hx
     have HR := Lib.hid hr
     have HX2 := Lib.hid hx2
     obtain ⟨_, h1, hc, hk⟩ := L4.out.nd (w.heap.size + 1, n, A, c) (by simp)
     obtain ⟨y0, y1, y2, y3, y4, y5⟩ := six_cells h1
     have HK := Lib.hid (And.intro hc hk)
     clear hx hx2 hr h1 hc hk
     go_wp2_with fail
     refine ly_q L4.out HSM.out (by have := HI3.out; omega) HGn.out HK.out.1 HK.out.2 HX2.out (fun k x w' e hf => ⟨rfl, by rw [bad_eq HR.out e]; exact ⟨rfl, hf⟩⟩) fun m s5 B d w5 e L hc hk hi1 ho1 => ?_
     have h1 := (L.nd (w.heap.size, noN, none, 0) (by simp)).2.1
     obtain ⟨⟨y0, y1, y2, y3, y4, y5⟩, x0, x1, x2, x3, x4, x5⟩ := six_all h1
     have L6 := Lib.hid (L.put [_, _] hc hk)
     have HI6 : Hid (s.i ≤ s5.i ∧ s5.o = s.o) := Lib.hid (by have := HI3.out; omega)
     clear L hc hk hi1 ho1 h1
     go_wp2_with fail
     go_meet
     exact ⟨m, B, d, n, A, c, s5, ok_eq HR.out e, L6, HI6⟩
 case rest =>
  obtain ⟨a, A, c, n, B, d, s1, hx, L1, HI1⟩ := hcut
  unfold loopTail at hx
  obtain ⟨r1, hx1, hr⟩ := bind_pf hx
  have HR := Lib.hid hr
  have HX1 := Lib.hid hx1
  obtain ⟨⟨y0, y1, y2, y3, y4, y5⟩, x0, x1, x2, x3, x4, x5⟩ := six_all (L1.out.nd (w.heap.size + 1, n, B, d) (by simp)).2.1
  have L2 := Lib.hid (L1.out.put [_] (n := noN) (A := none) (c := 0) (Nat.le_refl _) sin0)
  clear hx hx1 hr
  go_wp2_with fail
  refine ly_tk L2.out (ptakeK_any p 7 (by decide) s1 _ L2.out.fl.st r1 HX1.out) (fun k x w' e hf => ⟨rfl, by rw [bad_eq HR.out e]; exact ⟨rfl, hf⟩⟩) fun t s2 w2 e L hi1 ho1 => ?_
  obtain ⟨r2, hx2, hr⟩ := bind_pf (ok_eq HR.out e)
  have HR := Lib.hid hr
  have L3 := Lib.hid L
  have HI3 : Hid (s.i < s2.i ∧ s2.o = s.o) := Lib.hid (by have := HI1.out; omega)
  have HX := Lib.hid hx2
  clear L hr hx2 e hi1 ho1
  go_wp2_with fail
  refine ly_b L3.out (pkind_any p 7 s2 _ L3.out.fl.st) fun w3 L => ?_
  have L4 := Lib.hid L
  have hx := HX.out
  generalize kdB p.ts s2 7 = b at *
  have HX := Lib.hid hx
  clear L hx
  go_upto_if 28 with fail
  go_cut [] (fun wx => ∃ (m : Nd) (B : Option Addr) (d : Nat) (s' : Ps), r2 = .ok m s' ∧ Hid (Ly p w wx s' [(w.heap.size + 1 + 1, noN, none, 0), (w.heap.size + 1, m, B, d), (w.heap.size, a, A, c)]) ∧ Hid (s.i < s'.i ∧ s'.o = s.o))
  case first =>
   cases b with
   | true =>
    go_wp2_with fail
    go_meet
    exact ⟨noN, none, 0, s2, (Option.some.inj HX.out).symm, L4, HI3⟩
   | false =>
    go_wp2_with fail
    refine ly_nd L4.out (HE.out s2 _ L4.out.fl.st (by have := HI3.out; omega) r2 HX.out) (fun k x w' e hf => ⟨rfl, by rw [bad_eq HR.out e]; exact ⟨rfl, hf⟩⟩) fun m s3 B d w4 e L hc hk hi1 ho1 => ?_
    obtain ⟨⟨y0, y1, y2, y3, y4, y5⟩, x0, x1, x2, x3, x4, x5⟩ := six_all (L.nd (w.heap.size + 1, noN, none, 0) (by simp)).2.1
    have L5 := Lib.hid (L.put [_] hc hk)
    have HI5 : Hid (s.i < s3.i ∧ s3.o = s.o) := Lib.hid (by have := HI3.out; omega)
    clear L hc hk hi1 ho1
    go_wp2_with fail
    go_meet
    exact ⟨m, B, d, s3, e, L5, HI5⟩
  case rest =>
   obtain ⟨m, B, d, s3, e, L5, HI5⟩ := hcut
   obtain ⟨r3, hx3, hr⟩ := bind_pf (ok_eq HR.out e)
   have HR := Lib.hid hr
   have HX3 := Lib.hid hx3
   clear hr hx3 e
   go_wp2_with fail
   refine ly_tk L5.out (ptakeK_any p 7 (by decide) s3 _ L5.out.fl.st r3 HX3.out) (fun k x w' e hf => ⟨rfl, by rw [bad_eq HR.out e]; exact ⟨rfl, hf⟩⟩) fun t s4 w4 e L hi1 ho1 => ?_
   obtain ⟨r4, hx4, hr⟩ := bind_pf (ok_eq HR.out e)
   have HR := Lib.hid hr
   have L6 := Lib.hid L
   have HI6 : Hid (s.i < s4.i ∧ s4.o = s.o) := Lib.hid (by have := HI5.out; omega)
   have HX := Lib.hid hx4
   clear L hr hx4 e hi1 ho1
   go_wp2_with fail
   refine ly_b L6.out (pstands_any p mLBrace s4 _ L6.out.fl.st) fun w5 L => ?_
   have L7 := Lib.hid L
   have hx := HX.out
   generalize atB p.ts s4 mLBrace = b at *
   have HX := Lib.hid hx
   clear L hx
   go_upto_if 35 with fail
   go_cut [] (fun wx => ∃ (z : Nd) (C : Option Addr) (k : Nat) (s' : Ps), r4 = .ok z s' ∧ Hid (Ly p w wx s' [(w.heap.size + 1 + 1, z, C, k), (w.heap.size + 1, m, B, d), (w.heap.size, a, A, c)]) ∧ Hid (s.i < s'.i ∧ s'.o = s.o))
   case first =>
    cases b with
    | true =>
     go_wp2_with fail
     go_meet
     exact ⟨noN, none, 0, s4, (Option.some.inj HX.out).symm, L7, HI6⟩
    | false =>
     have hx : (chainP p.ts ex f s4).bind (fun e s => simpleP p.ts ex e s) = some r4 := HX.out
     obtain ⟨r5, hx5, hr⟩ := bind_pf hx
     have HR2 := Lib.hid hr
     have HX5 := Lib.hid hx5
     clear hx hx5 hr
     go_wp2_with fail
     refine ly_nd L7.out (HCH.out s4 _ L7.out.fl.st (by have := HI6.out; omega) r5 HX5.out) (fun k x w' e hf => ⟨rfl, by rw [bad_eq HR.out (bad_eq HR2.out e)]; exact ⟨rfl, hf⟩⟩) fun q s5 D e5 w6 e L hc hk hi1 ho1 => ?_
     have hx := ok_eq HR2.out e
     have HGq := Lib.hid (HG.out _ _ _ (e ▸ HX5.out))
     have L8 := Lib.hid L
     have HK := Lib.hid (And.intro hc hk)
     have HI8 : Hid (s.i < s5.i ∧ s5.o = s.o) := Lib.hid (by have := HI6.out; omega)
     have HX6 := Lib.hid hx
     clear L hc hk hi1 ho1 e hx
     go_wp2_with fail
     refine ly_q L8.out HSM.out (by have := HI8.out; omega) HGq.out HK.out.1 HK.out.2 HX6.out (fun k x w' e hf => ⟨rfl, by rw [bad_eq HR.out e]; exact ⟨rfl, hf⟩⟩) fun z s6 C k w7 e L hc hk hi1 ho1 => ?_
     obtain ⟨⟨y0, y1, y2, y3, y4, y5⟩, x0, x1, x2, x3, x4, x5⟩ := six_all (L.nd (w.heap.size + 1 + 1, noN, none, 0) (by simp)).2.1
     have L9 := Lib.hid (L.put [] hc hk)
     have HI9 : Hid (s.i < s6.i ∧ s6.o = s.o) := Lib.hid (by have := HI8.out; omega)
     clear L hc hk hi1 ho1
     go_wp2_with fail
     go_meet
     exact ⟨z, C, k, s6, e, L9, HI9⟩
   case rest =>
    obtain ⟨z, C, k, s6, e, L8, HI8⟩ := hcut
    obtain rfl := (Option.some.inj (ok_eq HR.out e)).symm
    obtain ⟨⟨y0, y1, y2, y3, y4, y5⟩, x0, x1, x2, x3, x4, x5⟩ := six_all (L8.out.nd (w.heap.size, a, A, c) (by simp)).2.1
    obtain ⟨⟨u0, u1, u2, u3, u4, u5⟩, v0, v1, v2, v3, v4, v5⟩ := six_all (L8.out.nd (w.heap.size + 1, m, B, d) (by simp)).2.1
    obtain ⟨⟨p0, p1, p2, p3, p4, p5⟩, q0, q1, q2, q3, q4, q5⟩ := six_all (L8.out.nd (w.heap.size + 1 + 1, z, C, k) (by simp)).2.1
    have hla := L8.out.lt (a := (w.heap.size, a, A, c)) (by simp)
    have hlb := L8.out.lt (a := (w.heap.size + 1, m, B, d)) (by simp)
    have hlc := L8.out.lt (a := (w.heap.size + 1 + 1, z, C, k)) (by simp)
    clear e
    go_wp2_with fail
    go_region
    clear y0 y1 y2 y3 y4 y5 x0 x1 x2 x3 x4 x5 u0 u1 u2 u3 u4 u5 v0 v1 v2 v3 v4 v5 p0 p1 p2 p3 p4 p5 q0 q1 q2 q3 q4 q5
    go_wp2_with fail
    obtain ⟨_, _, ka, kb⟩ := L8.out.nd (w.heap.size, a, A, c) (by simp)
    have L9 := L8.out.put [_, _] ka kb
    obtain ⟨_, _, ka, kb⟩ := L9.nd (w.heap.size + 1, m, B, d) (by simp)
    have L10 := L9.put [_] ka kb
    obtain ⟨_, _, ka, kb⟩ := L10.nd (w.heap.size + 1 + 1, z, C, k) (by simp)
    have L11 := L10.put [] ka kb
    exact ly_end L11 HI8.out.1 HI8.out.2
end Go.Proofs.YtmlclgkhnekmnaaGreatDoor
namespace Go.Proofs.YtmlclgkhnekmnaaGreatDoor
open Go.RowKit
theorem lh_of (p : PC) (f : Nat) : LhC p (loopHeadP p.ts (exprP p.ts f) f) :=
 ploopHead_any p (exprP p.ts f) f (expr_of p f) (pdefine_any p _ (expr_of p f)) (chain_of p _ f (expr_of p f)) (psimple_any p _ (expr_of p f)) (fun _ _ _ h => chain_sel h) (fun s n t h => (exF_sel p.ts f).2 1 s n t h)
theorem decl_any (p : PC) (f : Nat) : RdC p 68 #[PPtr p] (declP p.ts f) := decl_of p (lh_of p) f
end Go.Proofs.YtmlclgkhnekmnaaGreatDoor
