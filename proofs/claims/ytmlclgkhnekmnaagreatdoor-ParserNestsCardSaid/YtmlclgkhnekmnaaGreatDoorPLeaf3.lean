/- Part of a proof. -/
import Derived.Test.YtmlclgkhnekmnaaGreatDoorPFm
namespace Go.Proofs.YtmlclgkhnekmnaaGreatDoor
open Go.RowKit
theorem tk_cells {p : PC} {W : World} {s : Ps} (h : PSt p W s) : W.cell? ⟨p.G, s.i * 4, none⟩ = some (.int .i64 ((tk p.ts s).1 : Int)) ∧ W.cell? ⟨p.G, s.i * 4 + 1, none⟩ = some (.string (txt (tk p.ts s).2.1)) ∧ W.cell? ⟨p.G, s.i * 4 + 2, none⟩ = some (.int .i64 ((tk p.ts s).2.2.1 : Int)) ∧ W.cell? ⟨p.G, s.i * 4 + 3, none⟩ = some (.int .i64 ((tk p.ts s).2.2.2 : Int)) := h.row _ _ h.at
theorem tkP_cells {p : PC} {W : World} {s : Ps} (h : PSt p W s) : W.cell? ⟨p.G, (s.i - 1) * 4, none⟩ = some (.int .i64 ((tkP p.ts s).1 : Int)) ∧ W.cell? ⟨p.G, (s.i - 1) * 4 + 1, none⟩ = some (.string (txt (tkP p.ts s).2.1)) ∧ W.cell? ⟨p.G, (s.i - 1) * 4 + 2, none⟩ = some (.int .i64 ((tkP p.ts s).2.2.1 : Int)) ∧ W.cell? ⟨p.G, (s.i - 1) * 4 + 3, none⟩ = some (.int .i64 ((tkP p.ts s).2.2.2 : Int)) := by
 have hl : s.i - 1 < p.ts.length := by have := h.lt; omega
 refine h.row _ _ ?_
 unfold tkP
 rw [List.getElem?_eq_getElem hl]; rfl
theorem tk_f0 (a b c d : Value) (w : World) : (Instr.field 65 (.agg #[a, b, c, d]) 0).run Tryz.prog w = .ok a w := by
 simp [Instr.field, go_sem, asAgg, part]
theorem tk_f1 (a b c d : Value) (w : World) : (Instr.field 65 (.agg #[a, b, c, d]) 1).run Tryz.prog w = .ok b w := by
 simp [Instr.field, go_sem, asAgg, part]
theorem tk_f2 (a b c d : Value) (w : World) : (Instr.field 65 (.agg #[a, b, c, d]) 2).run Tryz.prog w = .ok c w := by
 simp [Instr.field, go_sem, asAgg, part]
set_option maxRecDepth 100000 in
set_option maxHeartbeats 1000000 in
theorem ptoken_any (p : PC) (s : Ps) (w : World) (h : PSt p w s) : Calls Tryz.prog 67 #[.pointer (some ⟨p.R, 0, none⟩)] w fun e w' => e = .returned (.agg #[.int .i64 ((tk p.ts s).1 : Int), .string (txt (tk p.ts s).2.1), .int .i64 ((tk p.ts s).2.2.1 : Int), .int .i64 ((tk p.ts s).2.2.2 : Int)]) ∧ Below w.heap.size w w' := by
 obtain ⟨r0, r1, -, -⟩ := h.cells
 obtain ⟨t0, t1, t2, t3⟩ := tk_cells h
 have hrl := h.rlt
 have hgl := h.glt
 have hlt := h.lt
 have hln := h.ok.len
 have hltz : (s.i : Int) < (p.ts.length : Int) := by omega
 generalize (tk p.ts s).1 = q at *
 generalize txt (tk p.ts s).2.1 = x at *
 generalize (tk p.ts s).2.2.1 = a at *
 generalize (tk p.ts s).2.2.2 = b at *
 generalize s.i = i at *
 clear h
 go_enter Tryz.func67, Tryz.ntmps67
 go_wp2_with fail
 go_region
 all_goals
  go_wp2_with fail
  refine ret_cell1A (p := 2) rfl _ rfl _ (load_tk (alloc_top w _ _)) ⟨rfl, (alloc_below w _).drew⟩
theorem tk_size {p : PC} {w : World} {s : Ps} (h : PSt p w s) : (tk p.ts s).1 ≤ 7 ∧ (tk p.ts s).2.1.length ≤ 100000 ∧ (tk p.ts s).2.2.1 ≤ 100000 ∧ (tk p.ts s).2.2.2 ≤ 100000 := by
 obtain ⟨a, b, c, d⟩ := h.ok.txt _ (List.mem_of_getElem? h.at)
 exact ⟨d, a, b, c⟩
set_option maxRecDepth 100000 in
set_option maxHeartbeats 1000000 in
theorem pstands_any (p : PC) (m : List UInt8) (s : Ps) (w : World) (h : PSt p w s) : Calls Tryz.prog 65 #[.pointer (some ⟨p.R, 0, none⟩), .string (txt m)] w fun e w' => e = .returned (.bool (atB p.ts s m)) ∧ Below w.heap.size w w' := by
 have HT := Lib.hid (fun w h => ptoken_any p s w h)
 have HH := Lib.hid h
 have he : ((txt (tk p.ts s).2.1).toList == (txt m).toList) = atB p.ts s m := by
  rw [txt_list, txt_list]; rfl
 have HE := Lib.hid he
 clear h he
 have g1 := tk_f1
 go_enter Tryz.func65, Tryz.ntmps65
 go_wp2_with fail
 refine (HT.out _ HH.out).mono ?_
 rintro e w1 ⟨rfl, hb⟩
 have HB := Lib.hid hb
 clear hb
 go_wp2_with fail
 go_ret
 exact ⟨by rw [← HE.out]; rfl, HB.out⟩
set_option maxRecDepth 100000 in
set_option maxHeartbeats 1000000 in
theorem pkind_any (p : PC) (k : Nat) (s : Ps) (w : World) (h : PSt p w s) : Calls Tryz.prog 92 #[.pointer (some ⟨p.R, 0, none⟩), .int .i64 (k : Int)] w fun e w' => e = .returned (.bool (kdB p.ts s k)) ∧ Below w.heap.size w w' := by
 have HT := Lib.hid (fun w h => ptoken_any p s w h)
 have HH := Lib.hid h
 have he : ((((tk p.ts s).1 : Nat) : Int) == (k : Int)) = kdB p.ts s k := by
  unfold kdB
  rw [Bool.eq_iff_iff, beq_iff_eq, beq_iff_eq]
  omega
 have HE := Lib.hid he
 clear h he
 have g0 := tk_f0
 go_enter Tryz.func92, Tryz.ntmps92
 go_wp2_with fail
 refine (HT.out _ HH.out).mono ?_
 rintro e w1 ⟨rfl, hb⟩
 have HB := Lib.hid hb
 clear hb
 go_wp2_with fail
 go_ret
 exact ⟨by rw [← HE.out]; rfl, HB.out⟩
set_option maxRecDepth 100000 in
set_option maxHeartbeats 1000000 in
theorem pfail_any (p : PC) (x : Nat) (s : Ps) (w : World) (h : PSt p w s) : Calls Tryz.prog 90 #[.pointer (some ⟨p.R, 0, none⟩), .int .i64 (x : Int)] w fun e w' => e = .panicked [stopV (tk p.ts s).2.2.1 x] ∧ Below w.heap.size w w' := by
 have HT := Lib.hid (fun w h => ptoken_any p s w h)
 have HH := Lib.hid h
 clear h
 have g2 := tk_f2
 go_enter Tryz.func90, Tryz.ntmps90
 go_wp2_with fail
 refine (HT.out _ HH.out).mono ?_
 rintro e w1 ⟨rfl, hb⟩
 have HB := Lib.hid hb
 clear hb
 go_wp2_with fail
 exact ⟨rfl, rfl, HB.out⟩
set_option maxRecDepth 100000 in
set_option maxHeartbeats 1000000 in
theorem pnext_any (p : PC) (s : Ps) (w : World) (h : PSt p w s) (hm : s.i + 1 < p.ts.length) : Calls Tryz.prog 91 #[.pointer (some ⟨p.R, 0, none⟩)] w (TkEnd p w s 0 (.ok (tk p.ts s) (adv s))) := by
 obtain ⟨r0, r1, -, -⟩ := h.cells
 obtain ⟨t0, t1, t2, t3⟩ := tk_cells h
 have f1 := h.unf 1
 have hrl := h.rlt
 have hgl := h.glt
 have hln := h.ok.len
 have hltz : (s.i : Int) < (p.ts.length : Int) := by omega
 have hw : wrap64 ((s.i : Int) + 1) = (s.i : Int) + 1 := by unfold wrap64; omega
 have hne := h.ne
 have hm2 := Lib.hid hm
 have HB := Lib.hid h
 show Calls _ _ _ _ fun e w' => _ ∧ _ ∧ _ ∧ _ ∧ _
 generalize (tk p.ts s).1 = q at *
 generalize txt (tk p.ts s).2.1 = x at *
 generalize (tk p.ts s).2.2.1 = a at *
 generalize (tk p.ts s).2.2.2 = b at *
 clear h hm
 go_enter Tryz.func91, Tryz.ntmps91
 go_wp2_with fail
 go_region
 all_goals
  go_wp2_with fail
  have hsz : ∀ v, (w.setCell ⟨p.R, 1, none⟩ v).heap.size = w.heap.size := fun v => World.size_setCell ..
  have HS2 := (HB.out.adv hm2.out).alloc (.cells #[.int .i64 (q : Int), .string x, .int .i64 (a : Int), .int .i64 (b : Int)] 65)
  have HF2 := (((PFr.refl p.R w).set (p := ⟨p.R, 1, none⟩) (.inl rfl) (.int .i64 ((s.i : Int) + 1))).alloc (.cells #[.int .i64 (q : Int), .string x, .int .i64 (a : Int), .int .i64 (b : Int)] 65)).drew
  refine ret_cell1A (p := 2) rfl _ rfl _ (load_tk (T := 65) ?_) ⟨rfl, HS2.keep rfl rfl, HF2, rfl, rfl⟩
  rw [← hsz]
  exact alloc_top _ _ _
end Go.Proofs.YtmlclgkhnekmnaaGreatDoor
namespace Go.Proofs.YtmlclgkhnekmnaaGreatDoor
open Go.RowKit
theorem four_heapP {W : World} {R : Nat} {c0 c1 c2 c3 a b c d : Value} {t : TypeId} (h : W.heap[R]? = some (.cells #[c0, c1, c2, c3] t (0, 0))) :
 ((((W.setCell ⟨R, 0, none⟩ a).setCell ⟨R, 1, none⟩ b).setCell ⟨R, 2, none⟩ c).setCell ⟨R, 3, none⟩ d).heap[R]? = some (.cells #[a, b, c, d] t (0, 0)) :=
 heap_setCell_same _ R 3 _ _ d (heap_setCell_same _ R 2 _ _ c (heap_setCell_same _ R 1 _ _ b (heap_setCell_same W R 0 _ _ a h)))
theorem tk_done {p : PC} {w W : World} {s s' : Ps} {d : Nat} {t : Tok} (hg : p.G < w.heap.size) (hr : p.R < w.heap.size) (hs : PSt p W s') (hf : PFr p.R w W) (hi : s'.i = s.i + 1) (ho : s'.o = s.o + d) (N : Nat) (hN : w.heap.size ≤ N) (a b c e : Value) (hv : Value.agg #[a, b, c, e] = .agg #[.int .i64 (t.1 : Int), .string (txt t.2.1), .int .i64 (t.2.2.1 : Int), .int .i64 (t.2.2.2 : Int)]) :
 TkEnd p w s d (.ok t s') (.returned (.agg #[a, b, c, e])) ((((W.setCell ⟨N, 0, none⟩ a).setCell ⟨N, 1, none⟩ b).setCell ⟨N, 2, none⟩ c).setCell ⟨N, 3, none⟩ e) := by
 have h1 : N ≠ p.R := by omega
 have h2 : N ≠ p.G := by omega
 exact ⟨by rw [hv], (((hs.set (a := ⟨N, 0, none⟩) h1 h2 _).set (a := ⟨N, 1, none⟩) h1 h2 _).set (a := ⟨N, 2, none⟩) h1 h2 _).set (a := ⟨N, 3, none⟩) h1 h2 _,
  (((hf.set (p := ⟨N, 0, none⟩) (.inr hN) _).set (p := ⟨N, 1, none⟩) (.inr hN) _).set (p := ⟨N, 2, none⟩) (.inr hN) _).set (p := ⟨N, 3, none⟩) (.inr hN) _, hi, ho⟩
set_option maxRecDepth 100000 in
set_option maxHeartbeats 1000000 in
theorem ptake_any (p : PC) (m : List UInt8) (hm : m ≠ []) (s : Ps) (w : World) (h : PSt p w s) (r : Pz Tok) (hr : takeP p.ts m s = some r) : Calls Tryz.prog 63 #[.pointer (some ⟨p.R, 0, none⟩), .string (txt m)] w (TkEnd p w s 0 r) := by
 have HH := Lib.hid h
 have HA := Lib.hid (h.alloc (.cells #[.int .i64 0, .string ⟨#[]⟩, .int .i64 0, .int .i64 0] 65))
 have HT := Lib.hid (alloc_top w #[.int .i64 0, .string ⟨#[]⟩, .int .i64 0, .int .i64 0] 65)
 have HS := Lib.hid (fun w h => pstands_any p m s w h)
 have HN := Lib.hid (fun w h hm => pnext_any p s w h hm)
 have HF := Lib.hid (fun w h => pfail_any p 4 s w h)
 have hne : w.heap.size ≠ p.R := by have := h.rlt; omega
 have HR := Lib.hid hr
 have HM := Lib.hid (fun hc => h.more_at hm hc)
 clear h hr
 go_enter Tryz.func63, Tryz.ntmps63
 go_wp2_with fail
 refine (HS.out _ HA.out).mono ?_
 rintro e w1 ⟨rfl, hb⟩
 obtain ⟨b, hc⟩ : ∃ b, atB p.ts s m = b := ⟨_, rfl⟩
 have H1 := Lib.hid (HA.out.below hb)
 have HB := Lib.hid (((PFr.refl p.R w).alloc (.cells #[.int .i64 0, .string ⟨#[]⟩, .int .i64 0, .int .i64 0] 65)).trans (PFr.of_below hb))
 have HT1 := Lib.hid (blk_below HT.out hb)
 have hr := HR.out
 unfold takeP nextP failP at hr
 rw [hc] at hr ⊢
 cases b with
 | true =>
  have hrr := (Option.some.inj hr).symm
  subst hrr
  have hm := HM.out hc
  have HM2 := Lib.hid hm
  clear hb hc hr hm
  go_wp2_with fail
  refine (HN.out _ H1.out HM2.out).mono ?_
  rintro e w2 ⟨rfl, hs, hf, hi, ho⟩
  have HT2 := Lib.hid (hf.kept hne HT1.out)
  have HE := Lib.hid (And.intro hs (And.intro (HB.out.trans hf) (And.intro hi ho)))
  have q0 := cellA (i := 0) HT2.out rfl
  have q1 := cellA (i := 1) HT2.out rfl
  have q2 := cellA (i := 2) HT2.out rfl
  have q3 := cellA (i := 3) HT2.out rfl
  have f0 := frozen_of_row w2 w.heap.size 0 _ _ HT2.out
  have f1 := frozen_of_row w2 w.heap.size 1 _ _ HT2.out
  have f2 := frozen_of_row w2 w.heap.size 2 _ _ HT2.out
  have f3 := frozen_of_row w2 w.heap.size 3 _ _ HT2.out
  clear hs hf hi ho
  go_wp2_with fail
  refine ret_cell1A (p := 4) rfl _ rfl _ (load_tk (four_heapP HT2.out)) (tk_done (by have := HH.out.glt; omega) (by have := HH.out.rlt; omega) HE.out.1 HE.out.2.1 HE.out.2.2.1 HE.out.2.2.2 w.heap.size (Nat.le_refl _) _ _ _ _ rfl)
 | false =>
  have hrr := (Option.some.inj hr).symm
  subst hrr
  clear hb hc hr
  go_wp2_with fail
  refine (HF.out _ H1.out).mono ?_
  rintro e w2 ⟨rfl, hb⟩
  have HE := Lib.hid (HB.out.trans (PFr.of_below hb))
  clear hb
  go_wp2_with fail
  exact ⟨rfl, rfl, HE.out⟩
set_option maxRecDepth 100000 in
set_option maxHeartbeats 1000000 in
theorem ptakeK_any (p : PC) (k : Nat) (hm : k ≠ 0) (s : Ps) (w : World) (h : PSt p w s) (r : Pz Tok) (hr : takeKP p.ts k s = some r) : Calls Tryz.prog 64 #[.pointer (some ⟨p.R, 0, none⟩), .int .i64 (k : Int)] w (TkEnd p w s 0 r) := by
 have HH := Lib.hid h
 have HA := Lib.hid (h.alloc (.cells #[.int .i64 0, .string ⟨#[]⟩, .int .i64 0, .int .i64 0] 65))
 have HT := Lib.hid (alloc_top w #[.int .i64 0, .string ⟨#[]⟩, .int .i64 0, .int .i64 0] 65)
 have HS := Lib.hid (fun w h => pkind_any p k s w h)
 have HN := Lib.hid (fun w h hm => pnext_any p s w h hm)
 have HF := Lib.hid (fun w h => pfail_any p 4 s w h)
 have hne : w.heap.size ≠ p.R := by have := h.rlt; omega
 have HR := Lib.hid hr
 have HM := Lib.hid (fun hc => h.more_kd hm hc)
 clear h hr
 go_enter Tryz.func64, Tryz.ntmps64
 go_wp2_with fail
 refine (HS.out _ HA.out).mono ?_
 rintro e w1 ⟨rfl, hb⟩
 obtain ⟨b, hc⟩ : ∃ b, kdB p.ts s k = b := ⟨_, rfl⟩
 have H1 := Lib.hid (HA.out.below hb)
 have HB := Lib.hid (((PFr.refl p.R w).alloc (.cells #[.int .i64 0, .string ⟨#[]⟩, .int .i64 0, .int .i64 0] 65)).trans (PFr.of_below hb))
 have HT1 := Lib.hid (blk_below HT.out hb)
 have hr := HR.out
 unfold takeKP nextP failP at hr
 rw [hc] at hr ⊢
 cases b with
 | true =>
  have hrr := (Option.some.inj hr).symm
  subst hrr
  have hm := HM.out hc
  have HM2 := Lib.hid hm
  clear hb hc hr hm
  go_wp2_with fail
  refine (HN.out _ H1.out HM2.out).mono ?_
  rintro e w2 ⟨rfl, hs, hf, hi, ho⟩
  have HT2 := Lib.hid (hf.kept hne HT1.out)
  have HE := Lib.hid (And.intro hs (And.intro (HB.out.trans hf) (And.intro hi ho)))
  have q0 := cellA (i := 0) HT2.out rfl
  have q1 := cellA (i := 1) HT2.out rfl
  have q2 := cellA (i := 2) HT2.out rfl
  have q3 := cellA (i := 3) HT2.out rfl
  have f0 := frozen_of_row w2 w.heap.size 0 _ _ HT2.out
  have f1 := frozen_of_row w2 w.heap.size 1 _ _ HT2.out
  have f2 := frozen_of_row w2 w.heap.size 2 _ _ HT2.out
  have f3 := frozen_of_row w2 w.heap.size 3 _ _ HT2.out
  clear hs hf hi ho
  go_wp2_with fail
  refine ret_cell1A (p := 4) rfl _ rfl _ (load_tk (four_heapP HT2.out)) (tk_done (by have := HH.out.glt; omega) (by have := HH.out.rlt; omega) HE.out.1 HE.out.2.1 HE.out.2.2.1 HE.out.2.2.2 w.heap.size (Nat.le_refl _) _ _ _ _ rfl)
 | false =>
  have hrr := (Option.some.inj hr).symm
  subst hrr
  clear hb hc hr
  go_wp2_with fail
  refine (HF.out _ H1.out).mono ?_
  rintro e w2 ⟨rfl, hb⟩
  have HE := Lib.hid (HB.out.trans (PFr.of_below hb))
  clear hb
  go_wp2_with fail
  exact ⟨rfl, rfl, HE.out⟩
end Go.Proofs.YtmlclgkhnekmnaaGreatDoor
namespace Go.Proofs.YtmlclgkhnekmnaaGreatDoor
open Go.RowKit
def psd (ts : List Tok) (s : Ps) (m : List UInt8) : Ps := if atB ts s m then adv s else s
theorem TkEnd.alloc {p : PC} {w W : World} {s s' : Ps} {d : Nat} {t : Tok} {e : Ending} (h : TkEnd p w s d (.ok t s') e W) (o : Obj) : TkEnd p w s d (.ok t s') e (W.alloc o) := by
 obtain ⟨h1, h2, h3, h4, h5⟩ := h
 exact ⟨h1, h2.alloc o, h3.alloc o, h4, h5⟩
set_option maxRecDepth 100000 in
set_option maxHeartbeats 1000000 in
theorem ppassed_any (p : PC) (m : List UInt8) (hm : m ≠ []) (s : Ps) (w : World) (h : PSt p w s) : Calls Tryz.prog 146 #[.pointer (some ⟨p.R, 0, none⟩), .string (txt m)] w fun e w' => e = .returned (.bool (atB p.ts s m)) ∧ PSt p w' (psd p.ts s m) ∧ PFr p.R w w' := by
 have HH := Lib.hid h
 have HS := Lib.hid (fun w h => pstands_any p m s w h)
 have HM := Lib.hid (fun hc => h.more_at hm hc)
 have hw : wrap64 ((s.i : Int) + 1) = (s.i : Int) + 1 := by have := h.lt; have := h.ok.len; unfold wrap64; omega
 clear h
 go_enter Tryz.func146, Tryz.ntmps146
 go_wp2_with fail
 refine (HS.out _ HH.out).mono ?_
 rintro e w1 ⟨rfl, hb⟩
 obtain ⟨b, hc⟩ : ∃ b, atB p.ts s m = b := ⟨_, rfl⟩
 have H1 := Lib.hid (HH.out.below hb)
 have HB := Lib.hid (PFr.of_below (R := p.R) hb)
 rw [hc]
 cases b with
 | true =>
  have HE := Lib.hid (H1.out.adv (HM.out hc))
  have HCC := Lib.hid hc
  have HC := Lib.hid (show psd p.ts s m = adv s by unfold psd; rw [if_pos hc])
  have q1 := H1.out.cells.2.1
  have f1 := H1.out.unf 1
  clear hb hc
  go_wp2_with fail
  go_ret
  exact ⟨by rw [HCC.out]; rfl, by rw [HC.out]; exact HE.out, HB.out.set (p := ⟨p.R, 1, none⟩) (.inl rfl) _⟩
 | false =>
  have HCC := Lib.hid hc
  have HC := Lib.hid (show psd p.ts s m = s by unfold psd; rw [if_neg (by rw [hc]; decide)])
  clear hb hc
  go_wp2_with fail
  go_ret
  exact ⟨by rw [HCC.out]; rfl, by rw [HC.out]; exact H1.out, HB.out⟩
set_option maxRecDepth 100000 in
set_option maxHeartbeats 1000000 in
theorem pfinish_any (p : PC) (m : List UInt8) (hm : m ≠ []) (s : Ps) (w : World) (h : PSt p w s) (h1 : 1 ≤ s.o) (r : Pz Unit) (hr : finishP p.ts m s = some r) : Calls Tryz.prog 141 #[.pointer (some ⟨p.R, 0, none⟩), .string (txt m)] w (UnEnd p w s r) := by
 have HH := Lib.hid h
 unfold finishP at hr
 obtain ⟨r0, hx, hr⟩ := bind_pf hr
 have HT := Lib.hid (fun w h => ptake_any p m hm s w h r0 hx)
 have HR := Lib.hid hr
 have H1 := Lib.hid h1
 clear h hx hr h1
 go_enter Tryz.func141, Tryz.ntmps141
 go_wp2_with fail
 refine (HT.out _ HH.out).mono ?_
 intro e w1 he
 cases r0 with
 | bad k x =>
  obtain ⟨rfl, hf⟩ := he
  have hrr : r = .bad k x := HR.out
  subst hrr
  have HE := Lib.hid hf
  clear hf
  go_wp2_with fail
  exact ⟨rfl, rfl, HE.out⟩
 | ok t s1 =>
  obtain ⟨rfl, hs, hf, hi, ho⟩ := he
  have hrr : Pz.ok () { s1 with o := s1.o - 1 } = r := Option.some.inj HR.out
  subst hrr
  have h2 := H1.out
  have hoo : 1 ≤ s1.o := by omega
  have hw : wrap64 ((s1.o : Int) - 1) = (s1.o : Int) - 1 := by have := hs.op; unfold wrap64; omega
  have hcst : ((s1.o - 1 : Nat) : Int) = (s1.o : Int) - 1 := by omega
  have HE : Hid (PSt p (w1.setCell ⟨p.R, 2, none⟩ (.int .i64 ((s1.o : Int) - 1))) { s1 with o := s1.o - 1 }) := Lib.hid (hs.store 2 _ (by rw [← hcst]; rfl) hs.lt (by have := hs.op; show s1.o - 1 ≤ 128; omega) hs.hd)
  have HF := Lib.hid hf
  have HI : Hid (s1.i = s.i + 1 ∧ s1.o - 1 = s.o - 1) := Lib.hid ⟨hi, by omega⟩
  have q2 := hs.cells.2.2.1
  have f2 := hs.unf 2
  clear hs hf hi ho h2 hcst
  go_wp2_with fail
  go_end0
  exact ⟨rfl, HE.out, HF.out.set (p := ⟨p.R, 2, none⟩) (.inl rfl) _, HI.out.1, HI.out.2⟩
set_option maxRecDepth 100000 in
set_option maxHeartbeats 1000000 in
theorem pmade_any (p : PC) (s : Ps) (w : World) (h : PSt p w s) (h1 : 1 ≤ s.i) (k f a : Int) (x : ByteArray) (A : Option Addr) (n c : Nat) : Calls Tryz.prog 94 #[.pointer (some ⟨p.R, 0, none⟩), .int .i64 k, .int .i64 f, .int .i64 a, .string x, .slice A n c] w fun e w' => e = .returned (.agg #[.int .i64 k, .int .i64 f, .int .i64 ((tkP p.ts s).2.2.2 : Int), .int .i64 a, .string x, .slice A n c]) ∧ Below w.heap.size w w' := by
 obtain ⟨r0, r1, -, -⟩ := h.cells
 obtain ⟨t0, t1, t2, t3⟩ := tkP_cells h
 have hrl := h.rlt
 have hgl := h.glt
 have hlt := h.lt
 have hln := h.ok.len
 have hltz : (s.i : Int) - 1 < (p.ts.length : Int) := by omega
 have hge : (0 : Int) ≤ (s.i : Int) - 1 := by omega
 have hw : wrap64 ((s.i : Int) - 1) = (s.i : Int) - 1 := by unfold wrap64; omega
 have hn : ((s.i : Int) - 1).toNat = s.i - 1 := by omega
 generalize (tkP p.ts s).2.2.2 = b at *
 generalize s.i = i at *
 clear h
 go_enter Tryz.func94, Tryz.ntmps94
 go_wp2_with fail
 go_region
 all_goals
  go_wp2_with fail
  exact ret_cell1A (p := 12) rfl _ rfl _ (load_nd (alloc_top w _ _)) ⟨rfl, (alloc_below w _).drew⟩
set_option maxRecDepth 100000 in
set_option maxHeartbeats 1000000 in
theorem pbegin_any (p : PC) (m : List UInt8) (hm : m ≠ []) (s : Ps) (w : World) (h : PSt p w s) (r : Pz Tok) (hr : beginP p.ts m s = some r) : Calls Tryz.prog 140 #[.pointer (some ⟨p.R, 0, none⟩), .string (txt m)] w (TkEnd p w s 1 r) := by
 have HH := Lib.hid h
 have HA := Lib.hid (h.alloc (.cells #[.int .i64 0, .string ⟨#[]⟩, .int .i64 0, .int .i64 0] 65))
 have HT := Lib.hid (alloc_top w #[.int .i64 0, .string ⟨#[]⟩, .int .i64 0, .int .i64 0] 65)
 have HS := Lib.hid (fun w h => pstands_any p m s w h)
 have HTK := Lib.hid (fun r hr w h => ptake_any p m hm s w h r hr)
 have HF := Lib.hid (fun w h => pfail_any p 3 s w h)
 have hne : w.heap.size ≠ p.R := by have := h.rlt; omega
 have hsz := World.size_alloc w (.cells #[.int .i64 0, .string ⟨#[]⟩, .int .i64 0, .int .i64 0] 65)
 have HZ := Lib.hid hsz
 unfold beginP at hr
 have HR := Lib.hid hr
 clear h hr hsz
 go_enter Tryz.func140, Tryz.ntmps140
 go_wp2_with fail
 refine (HS.out _ HA.out).mono ?_
 rintro e w1 ⟨rfl, hb⟩
 have H1 := Lib.hid (HA.out.below hb)
 have HB := Lib.hid (((PFr.refl p.R w).alloc (.cells #[.int .i64 0, .string ⟨#[]⟩, .int .i64 0, .int .i64 0] 65)).trans (PFr.of_below hb))
 have HT1 := Lib.hid (blk_below HT.out hb)
 obtain ⟨b, hc⟩ : ∃ b, atB p.ts s m = b := ⟨_, rfl⟩
 have hr := HR.out
 rw [hc] at hr ⊢
 clear HR hb
 cases b with
 | false =>
  simp only [Bool.false_and, Bool.false_eq_true, if_false] at hr
  obtain ⟨r0, hx, hr⟩ := bind_pf hr
  have HR := Lib.hid hr
  have HX := Lib.hid hx
  have hn : ¬ (atB p.ts s m = true) := by rw [hc]; decide
  unfold takeP failP at hx
  rw [if_neg hn] at hx
  obtain rfl : r0 = .bad _ _ := (Option.some.inj hx).symm
  clear hc hr hx hn
  go_wp2_with fail
  refine (HTK.out _ HX.out _ H1.out).mono ?_
  rintro e w2 ⟨rfl, hf⟩
  have hrr : r = .bad _ _ := HR.out
  subst hrr
  have HE := Lib.hid (HB.out.trans hf)
  clear hf
  go_wp2_with fail
  exact ⟨rfl, rfl, HE.out⟩
 | true =>
  have q2 := H1.out.cells.2.2.1
  by_cases h3 : 128 ≤ s.o
  · have h3z : (128 : Int) ≤ (s.o : Int) := by omega
    simp only [Bool.true_and, decide_eq_true h3, if_true] at hr
    obtain rfl : r = .bad _ _ := (Option.some.inj hr).symm
    clear hc hr
    go_wp2_with fail
    refine (HF.out _ H1.out).mono ?_
    rintro e w2 ⟨rfl, hb⟩
    have HE := Lib.hid (HB.out.trans (PFr.of_below hb))
    clear hb
    go_wp2_with fail
    exact ⟨rfl, rfl, HE.out⟩
  have h3z : ¬ (128 : Int) ≤ (s.o : Int) := by omega
  simp only [Bool.true_and, decide_eq_false h3, Bool.false_eq_true, if_false] at hr
  obtain ⟨r0, hx, hr⟩ := bind_pf hr
  have HR := Lib.hid hr
  have HLT : Hid (s.o < 128) := Lib.hid (by omega)
  clear hc hr h3
  go_wp2_with fail
  clear q2 h3z
  refine (HTK.out r0 hx _ H1.out).mono ?_
  intro e w2 he
  cases r0 with
  | bad k x =>
   obtain ⟨rfl, hf⟩ := he
   have hrr : r = .bad k x := HR.out
   subst hrr
   have HE := Lib.hid (HB.out.trans hf)
   clear hf hx
   go_wp2_with fail
   exact ⟨rfl, rfl, HE.out⟩
  | ok t s1 =>
   obtain ⟨rfl, hs, hf, hi, ho⟩ := he
   have hrr : Pz.ok t { s1 with o := s1.o + 1 } = r := Option.some.inj HR.out
   subst hrr
   have hlt := HLT.out
   have HT2 := Lib.hid (hf.kept hne HT1.out)
   have hwl := (Array.getElem?_eq_some_iff.1 HT2.out).1
   have q0 := cellA (i := 0) HT2.out rfl
   have q1 := cellA (i := 1) HT2.out rfl
   have q2 := cellA (i := 2) HT2.out rfl
   have q3 := cellA (i := 3) HT2.out rfl
   have f0 := frozen_of_row w2 w.heap.size 0 _ _ HT2.out
   have f1 := frozen_of_row w2 w.heap.size 1 _ _ HT2.out
   have f2 := frozen_of_row w2 w.heap.size 2 _ _ HT2.out
   have f3 := frozen_of_row w2 w.heap.size 3 _ _ HT2.out
   have hw : wrap64 ((s1.o : Int) + 1) = (s1.o : Int) + 1 := by unfold wrap64; omega
   have g2 := hs.cells.2.2.1
   have gf := hs.unf 2
   have hr2 := hs.rlt
   have hnr : ¬ w2.heap.size = p.R := by omega
   have HS1 := Lib.hid hs
   have HE := Lib.hid (HB.out.trans hf)
   have HI := Lib.hid (And.intro hi ho)
   clear hs hf hi ho hx
   go_wp2_with fail
   have HSN : PSt p (w2.setCell ⟨p.R, 2, none⟩ (.int .i64 ((s1.o : Int) + 1))) { s1 with o := s1.o + 1 } := HS1.out.store 2 _ rfl HS1.out.lt (by have h1 := HI.out.2; have h2 := HLT.out; show s1.o + 1 ≤ 128; omega) HS1.out.hd
   have hD := tk_done (s := s) (d := 1) (t := t) HH.out.glt HH.out.rlt HSN (HE.out.set (p := ⟨p.R, 2, none⟩) (.inl rfl) _) HI.out.1 (by have h1 := HI.out.2; show s1.o + 1 = s.o + 1; omega) w.heap.size (Nat.le_refl _) _ _ _ _ rfl
   exact ret_cell1A (p := 4) rfl _ rfl _ (load_tk (blk_alloc (four_heapP (blk_set (a := ⟨p.R, 2, none⟩) HT2.out hne)))) (hD.alloc _)
end Go.Proofs.YtmlclgkhnekmnaaGreatDoor
