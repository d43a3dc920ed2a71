/-
  frame's Next OF A READER THAT LIES IN MEMORY: what it answers, what is held then; nothing that was there turns but the reader's block and its row's. Conditions: how many bytes are held; what the variables that are read hold (Facts).
-/
import Derived.Test.YtmaihiklcdidbaaDoorReader3
import Derived.Defers
namespace Go.Proofs.YtmaihiklcdidbaaDoor
open Go.RowKit

theorem next_body (l : List UInt8) : nextP l = if (bodyQ l).e ≠ 0 then .bad (bodyQ l).e else if (bodyQ l).t = 0 ∨ l.length < (bodyQ l).t then .wait else .body (bodyQ l).f ((bodyQ l).t - (bodyQ l).f) := by
  unfold nextP bodyQ
  simp only
  by_cases h : 0 ≤ Lib.index (l.take 1024) hend
  · rw [if_pos h, if_pos h]
    generalize headP (List.take (Lib.index (l.take 1024) hend).toNat (l.take 1024)) = o
    cases o with
    | none => rfl
    | some n =>
      simp only
      by_cases h2 : 262144 < n
      · rw [if_pos h2, if_pos h2]; rfl
      · rw [if_neg h2, if_neg h2]
        simp only [ne_eq, not_true_eq_false, if_false]
        by_cases h3 : (Lib.index (l.take 1024) hend).toNat + 4 + n ≤ l.length
        · rw [if_pos h3, if_neg (by omega), Nat.add_sub_cancel_left]
        · rw [if_neg h3, if_pos (by omega)]
  · rw [if_neg h, if_neg h]
    by_cases h2 : (l.take 1024).length < 1024
    · rw [if_pos h2, if_pos h2]; rfl
    · rw [if_neg h2, if_neg h2]; rfl
theorem bodyQ_le (l : List UInt8) : (bodyQ l).f ≤ (bodyQ l).t := by
  unfold bodyQ
  simp only
  split
  · generalize headP (List.take (Lib.index (l.take 1024) hend).toNat (l.take 1024)) = o
    cases o with
    | none => exact Nat.le_refl _
    | some n =>
      simp only
      split
      · exact Nat.le_refl _
      · exact Nat.le_add_right _ _
  · split <;> exact Nat.le_refl _
set_option maxRecDepth 100000 in
theorem closing_ok (E B : Nat) (w : World) (hE : w.cell? ⟨E, 0, none⟩ = some (.int .i64 0)) :
    CallsD Tryd.prog 22 #[.pointer (some ⟨E, 0, none⟩), .pointer (some ⟨B, 0, none⟩)] .returning w fun e u' w' => u' = .returning ∧ (∃ v, e = .returned v) ∧ w' = w := by
  go_enter_d Tryd.func22, Tryd.ntmps22
  go_wp2_with fail
  go_end0
  exact ⟨⟨_, rfl⟩, rfl⟩
set_option maxRecDepth 100000 in
theorem closing_bad (E B R k : Nat) (g : Option Nat) (l : List UInt8) (w : World) (hE : w.cell? ⟨E, 0, none⟩ = some (.int .i64 (k : Int))) (hk : k ≠ 0) (hB : w.cell? ⟨B, 0, none⟩ = some (.pointer (some ⟨R, 0, none⟩))) (h : RdIn w R g (.live l)) :
    CallsD Tryd.prog 22 #[.pointer (some ⟨E, 0, none⟩), .pointer (some ⟨B, 0, none⟩)] .returning w fun e u' w' => u' = .returning ∧ (∃ v, e = .returned v) ∧ RdEnd w R g (.dead l.length) w' := by
  have HC := Lib.hid (breakUp_any R g l w h)
  have hk2 : ((k : Int) = 0) = False := by simp; omega
  clear h
  go_enter_d Tryd.func22, Tryd.ntmps22
  go_wp2_with fail
  refine HC.out.mono ?_
  rintro e w1 ⟨⟨v, rfl⟩, h1⟩
  have h1 := Lib.hid h1
  go_wp2_with fail
  go_end0
  exact ⟨⟨_, rfl⟩, h1.out⟩
theorem results_ttc {fn : Func} {p q u : Tmp} {ty : TypeId} (h : fn.results = #[.tmp p, .tmp q, .cell u ty]) (tmps : Array Value) (P : Program) (w : World) :
    (results fn tmps).run P w = ((asAddr (tmps.getD u undef)).run P w).andThen fun a w₁ => ((loadVar ty a).run P w₁).andThen fun v w₂ => .ok (.tuple #[tmps.getD p undef, tmps.getD q undef, v]) w₂ := by
  simp only [results, h]
  simp [Sem.run_bind, Result.andThen]
theorem load_int {W : World} {N : Nat} {z : Int} (h : W.cell? ⟨N, 0, none⟩ = some (.int .i64 z)) : (loadVar 31 ⟨N, 0, none⟩).run Tryd.prog W = .ok (.int .i64 z) W := by
  simp [loadVar, Result.andThen, h]
/-- What Next answers. -/
def nextV (x : NextE) : Value := .tuple #[.string (txt x.body), .bool x.is, .int .i64 (x.e : Int)]
theorem next_leave {fn : Func} {W : World} {Q : Ending → World → Prop} (hr : fn.results = #[.tmp 2, .tmp 3, .cell 4 31]) (tmps : Array Value) {E : Nat} (h4 : tmps.getD 4 undef = .pointer (some ⟨E, 0, none⟩)) {t b : Value} (h2 : tmps.getD 2 undef = t) (h3 : tmps.getD 3 undef = b) {z : Int} (hE : W.cell? ⟨E, 0, none⟩ = some (.int .i64 z))
    (hQ : Q (.returned (.tuple #[t, b, .int .i64 z])) W) : bodyPostD Tryd.prog fn Q Exit.ret ⟨tmps, []⟩ W := by
  refine ⟨_, ?_, hQ⟩
  rw [results_ttc hr, h4, h2, h3]
  simp [asAddr, Result.andThen, load_int hE]
theorem next_close {fn : Func} {W : World} {Q : Ending → World → Prop} {S : World → Prop} (hr : fn.results = #[.tmp 2, .tmp 3, .cell 4 31]) (tmps : Array Value) {E B : Nat} (h4 : tmps.getD 4 undef = .pointer (some ⟨E, 0, none⟩)) {t b : Value} (h2 : tmps.getD 2 undef = t) (h3 : tmps.getD 3 undef = b) {z : Int}
    (hC : CallsD Tryd.prog 22 #[.pointer (some ⟨E, 0, none⟩), .pointer (some ⟨B, 0, none⟩)] .returning W fun e u' w' => u' = .returning ∧ (∃ v, e = .returned v) ∧ S w')
    (hS : ∀ w', S w' → w'.cell? ⟨E, 0, none⟩ = some (.int .i64 z) ∧ Q (.returned (.tuple #[t, b, .int .i64 z])) w') :
    bodyPostD Tryd.prog fn Q Exit.ret ⟨tmps, [{ target := Target.fn (Fn.func 22) #[.pointer (some ⟨E, 0, none⟩), .pointer (some ⟨B, 0, none⟩)], args := #[] }]⟩ W := by
  refine leaves_cons (f := 22) (args := #[.pointer (some ⟨E, 0, none⟩), .pointer (some ⟨B, 0, none⟩)]) (by simp) (by simp [go_sem]) ?_
  refine hC.mono ?_
  rintro e u' w'' ⟨rfl, ⟨v, rfl⟩, hs⟩
  obtain ⟨a, b⟩ := hS w'' hs
  exact next_leave hr tmps h4 h2 h3 a b
set_option maxRecDepth 100000 in
set_option maxHeartbeats 2000000 in
theorem next_dead (R n : Nat) (g : Option Nat) (w : World) (h : RdIn w R g (.dead n)) :
    Calls Tryd.prog 12 #[.pointer (some ⟨R, 0, none⟩)] w fun e w' => e = .returned (nextV (nextE (.dead n))) ∧ RdEnd w R g (.dead n) w' := by
  have hlt := h.lt
  obtain ⟨p, hR, hgn⟩ := h
  obtain ⟨w1, hw1⟩ : ∃ w1, w1 = (w.alloc (.cells #[.pointer (some ⟨R, 0, none⟩)] 23)).alloc (.cells #[.int .i64 0] 31) := ⟨_, rfl⟩
  have hb1 : Below w.heap.size w w1 := by rw [hw1]; exact (alloc_below w _).trans ((alloc_below _ _).mono (by simp))
  have hR1 := heap_keep hb1 hR
  have HM := Lib.hid (made_any R w1 hR1)
  have c3 := cell_at hR1 3
  have HR0 := Lib.hid hR
  rw [hw1] at c3 HM
  clear hR1 hb1 hw1 hR
  go_enter_defers Tryd.func12, Tryd.ntmps12
  go_wp2_with fail
  refine HM.out.mono ?_
  rintro e w2 ⟨rfl, rfl⟩
  go_wp2_with fail
  have hE2 : ((w.alloc (.cells #[.pointer (some ⟨R, 0, none⟩)] 23)).alloc (.cells #[.int .i64 4] 31)).cell? ⟨w.heap.size + 1, 0, none⟩ = some (.int .i64 (4 : Int)) := by
    have := alloc_top (w.alloc (.cells #[.pointer (some ⟨R, 0, none⟩)] 23)) #[.int .i64 4] 31
    rw [World.size_alloc] at this
    rw [cell_at this]
    rfl
  have hb2 : Below w.heap.size w ((w.alloc (.cells #[.pointer (some ⟨R, 0, none⟩)] 23)).alloc (.cells #[.int .i64 4] 31)) := (alloc_below w _).trans ((alloc_below _ _).mono (by simp))
  refine next_leave rfl _ rfl rfl rfl hE2 ?_
  exact ⟨rfl, g, fun k hk => .inl hk, RdIn.below (r := .dead n) ⟨p, HR0.out, hgn⟩ hb2, Fr.of_below hb2⟩
theorem RdEnd.store {w W w' : World} {R E : Nat} {g : Option Nat} {r : RS} (hb : Below w.heap.size w W) (h : RdEnd W R g r w') (hE1 : w.heap.size ≤ E) (hE2 : E < W.heap.size) (hg : ∀ k, g = some k → k < w.heap.size) (hR : R < w.heap.size) (v : Value) : RdEnd w R g r (w'.setCell ⟨E, 0, none⟩ v) := by
  obtain ⟨g', h1, h2, h3⟩ := h
  refine ⟨g', fun k hk => (h1 k hk).imp id (fun h => Nat.le_trans hb.size h), h2.keep (by rw [World.size_setCell]; exact Nat.le_refl _) (fun k _ hx => heap_setCell_other w' ⟨E, 0, none⟩ k v (show k ≠ E from ?_)), ((Fr.of_below hb).trans h3).setCell (.inr hE1) v⟩
  rcases hx with hx | hx
  · omega
  · rcases h1 k hx with h | h
    · have := hg k h; omega
    · omega
theorem cells_cell {W : World} {p : Addr} {v : Value} {cs : Array Value} {t : TypeId} (h : W.heap[p.block]? = some (.cells cs t (0, 0))) (hp : p.spot = none) (hv : cs[p.off]? = some v) : W.cell? p = some v := by
  obtain ⟨b, o, sp⟩ := p
  subst hp
  exact (cell_at h o).trans hv
set_option maxRecDepth 100000 in
set_option maxHeartbeats 4000000 in
theorem next_bad (R : Nat) (g : Option Nat) (l : List UInt8) (w : World) (h : RdIn w R g (.live l)) (hF : Facts w) (he0 : (bodyQ l).e ≠ 0) :
    Calls Tryd.prog 12 #[.pointer (some ⟨R, 0, none⟩)] w fun e w' => e = .returned (nextV (nextE (.live l))) ∧ RdEnd w R g (nextR (.live l)) w' := by
  have hlt := h.lt
  obtain ⟨w1, hw1⟩ : ∃ w1, w1 = (w.alloc (.cells #[.pointer (some ⟨R, 0, none⟩)] 23)).alloc (.cells #[.int .i64 0] 31) := ⟨_, rfl⟩
  have hb1 : Below w.heap.size w w1 := by rw [hw1]; exact (alloc_below w _).trans ((alloc_below _ _).mono (by simp))
  have H0 := Lib.hid h
  have hn := next_body l
  have hfr : ∀ f n, nextP l = .body f n → 20 ≤ f ∧ f + n ≤ l.length := fun f n hh => ⟨(nextP_body hh).1, (nextP_body hh).2.1⟩
  obtain ⟨v, p, hR0, hv, hp, hg, hne, hl⟩ := h
  obtain ⟨q, cap, rfl, hq, hcap, hcm, hB⟩ := hv.shape
  have hgw : Hid (∀ k, g = some k → k < w.heap.size) := Lib.hid (fun k hk => hv.lt (hg.trans hk))
  have hR := heap_keep hb1 hR0
  have HM := Lib.hid (made_any R w1 hR)
  have HY := Lib.hid (bodyIn_any q cap l w1 hq (hB.below hb1) hcap hl (hF.below hb1))
  have c1 := cell_at hR 1
  have c3 := cell_at hR 3
  have HR := Lib.hid hR
  have HBI := Lib.hid hB
  have HB := Lib.hid hb1
  have HW := Lib.hid hw1
  have hz1 : w1.heap.size = w.heap.size + 2 := by rw [hw1]; simp
  have hE : w1.heap[w.heap.size + 1]? = some (.cells #[.int .i64 0] 31 (0, 0)) := by
    have := alloc_top (w.alloc (.cells #[.pointer (some ⟨R, 0, none⟩)] 23)) #[.int .i64 0] 31
    rw [World.size_alloc] at this
    rw [hw1]; exact this
  have hBx : w1.heap[w.heap.size]? = some (.cells #[.pointer (some ⟨R, 0, none⟩)] 23 (0, 0)) := by
    rw [hw1]; exact heap_keep (alloc_below _ _) (alloc_top w _ _)
  have HE := Lib.hid hE
  have HBX := Lib.hid hBx
  rw [hw1] at c1 c3 HM HY
  have hmk : ∀ (fn : Fn) (first cap : Array Value) (w : World), (Instr.makeFunc fn first cap).run Tryd.prog w = .ok (.func fn first cap) w := fun _ _ _ _ => rfl
  have mixed : Tryd.prog.follows .mixedOrders = true := by kernel_rfl
  clear hR hb1 hw1 hE hBx hR0 hv hB hg hp
  generalize hbq : bodyQ l = bq at *
  obtain ⟨f, t, er⟩ := bq
  simp only at hn HY
  have he : er ≠ 0 := he0
  clear he0
  have hw : nextP l = .bad er := by rw [hn, if_pos he]
  have e1 : nextE (.live l) = ⟨[], false, er⟩ := by unfold nextE; simp [hw]
  have e2 : nextR (.live l) = .dead l.length := by unfold nextR; simp [hw]
  rw [e1, e2]
  have he2 : ((er : Int) = 0) = False := by simp; exact he
  go_enter_defers Tryd.func12, Tryd.ntmps12
  go_wp2_with fail
  refine HM.out.mono ?_
  rintro e w2 ⟨rfl, rfl⟩
  go_wp2_with fail
  refine HY.out.mono ?_
  rintro e w2 ⟨rfl, hb2⟩
  rw [← HW.out] at hb2
  have HE2 := Lib.hid (heap_keep hb2 HE.out)
  have HBX2 := Lib.hid (heap_keep hb2 HBX.out)
  have k4 := cell_at HE2.out 0
  have f4 := frozen_of_row w2 (w.heap.size + 1) 0 _ _ HE2.out
  have kb := cell_at HBX2.out 0
  have HB2 := Lib.hid (HB.out.trans (hb2.mono HB.out.size))
  clear hb2 hmk
  go_wp2_with fail
  go_region_o
  go_wp2
  have hb3 : Below w.heap.size w ((w2.setCell ⟨w.heap.size + 1, 0, none⟩ (.int .i64 (er : Int))).setCell ⟨w.heap.size + 1, 0, none⟩ (.int .i64 (er : Int))).drew :=
    ((HB2.out.setCell (p := ⟨w.heap.size + 1, 0, none⟩) (Nat.le_succ _) _).setCell (p := ⟨w.heap.size + 1, 0, none⟩) (Nat.le_succ _) _).drew
  have hE3 : ((w2.setCell ⟨w.heap.size + 1, 0, none⟩ (.int .i64 (er : Int))).setCell ⟨w.heap.size + 1, 0, none⟩ (.int .i64 (er : Int))).drew.heap[w.heap.size + 1]? = some (.cells #[.int .i64 (er : Int)] 31 (0, 0)) :=
    heap_setCell_same _ (w.heap.size + 1) 0 _ _ _ (heap_setCell_same w2 (w.heap.size + 1) 0 _ _ _ HE2.out)
  have hB3 : ((w2.setCell ⟨w.heap.size + 1, 0, none⟩ (.int .i64 (er : Int))).setCell ⟨w.heap.size + 1, 0, none⟩ (.int .i64 (er : Int))).drew.heap[w.heap.size]? = some (.cells #[.pointer (some ⟨R, 0, none⟩)] 23 (0, 0)) :=
    (heap_setCell_other _ ⟨w.heap.size + 1, 0, none⟩ w.heap.size _ (show w.heap.size ≠ w.heap.size + 1 by omega)).trans ((heap_setCell_other w2 ⟨w.heap.size + 1, 0, none⟩ w.heap.size _ (show w.heap.size ≠ w.heap.size + 1 by omega)).trans HBX2.out)
  refine next_close (S := RdEnd ((w2.setCell ⟨w.heap.size + 1, 0, none⟩ (.int .i64 (er : Int))).setCell ⟨w.heap.size + 1, 0, none⟩ (.int .i64 (er : Int))).drew R g (.dead l.length)) (z := (er : Int)) rfl _ rfl rfl rfl (closing_bad (w.heap.size + 1) w.heap.size R er g l _ (by rw [cell_at hE3]; rfl) he (by rw [cell_at hB3]; rfl) (H0.out.below hb3)) ?_
  intro w' hS
  refine ⟨?_, rfl, hS.after hb3⟩
  obtain ⟨g', _, _, hfr3⟩ := hS
  obtain ⟨v, p, _, hv0, _, hg0, _, _⟩ := H0.out
  rw [cell_at (hfr3.keep hE3 (fun hx => by
    rcases hx with hx | hx
    · omega
    · have := hv0.lt (hg0.trans hx)
      omega))]
  rfl
set_option maxRecDepth 100000 in
set_option maxHeartbeats 4000000 in
theorem next_wait0 (R : Nat) (g : Option Nat) (l : List UInt8) (w : World) (h : RdIn w R g (.live l)) (hF : Facts w) (he0 : (bodyQ l).e = 0) (ht00 : (bodyQ l).t = 0) :
    Calls Tryd.prog 12 #[.pointer (some ⟨R, 0, none⟩)] w fun e w' => e = .returned (nextV (nextE (.live l))) ∧ RdEnd w R g (nextR (.live l)) w' := by
  have hlt := h.lt
  obtain ⟨w1, hw1⟩ : ∃ w1, w1 = (w.alloc (.cells #[.pointer (some ⟨R, 0, none⟩)] 23)).alloc (.cells #[.int .i64 0] 31) := ⟨_, rfl⟩
  have hb1 : Below w.heap.size w w1 := by rw [hw1]; exact (alloc_below w _).trans ((alloc_below _ _).mono (by simp))
  have H0 := Lib.hid h
  have hn := next_body l
  have hfr : ∀ f n, nextP l = .body f n → 20 ≤ f ∧ f + n ≤ l.length := fun f n hh => ⟨(nextP_body hh).1, (nextP_body hh).2.1⟩
  obtain ⟨v, p, hR0, hv, hp, hg, hne, hl⟩ := h
  obtain ⟨q, cap, rfl, hq, hcap, hcm, hB⟩ := hv.shape
  have hgw : Hid (∀ k, g = some k → k < w.heap.size) := Lib.hid (fun k hk => hv.lt (hg.trans hk))
  have hR := heap_keep hb1 hR0
  have HM := Lib.hid (made_any R w1 hR)
  have HY := Lib.hid (bodyIn_any q cap l w1 hq (hB.below hb1) hcap hl (hF.below hb1))
  have c1 := cell_at hR 1
  have c3 := cell_at hR 3
  have HR := Lib.hid hR
  have HBI := Lib.hid hB
  have HB := Lib.hid hb1
  have HW := Lib.hid hw1
  have hz1 : w1.heap.size = w.heap.size + 2 := by rw [hw1]; simp
  have hE : w1.heap[w.heap.size + 1]? = some (.cells #[.int .i64 0] 31 (0, 0)) := by
    have := alloc_top (w.alloc (.cells #[.pointer (some ⟨R, 0, none⟩)] 23)) #[.int .i64 0] 31
    rw [World.size_alloc] at this
    rw [hw1]; exact this
  have hBx : w1.heap[w.heap.size]? = some (.cells #[.pointer (some ⟨R, 0, none⟩)] 23 (0, 0)) := by
    rw [hw1]; exact heap_keep (alloc_below _ _) (alloc_top w _ _)
  have HE := Lib.hid hE
  have HBX := Lib.hid hBx
  rw [hw1] at c1 c3 HM HY
  have hmk : ∀ (fn : Fn) (first cap : Array Value) (w : World), (Instr.makeFunc fn first cap).run Tryd.prog w = .ok (.func fn first cap) w := fun _ _ _ _ => rfl
  have mixed : Tryd.prog.follows .mixedOrders = true := by kernel_rfl
  clear hR hb1 hw1 hE hBx hR0 hv hB hg hp
  generalize hbq : bodyQ l = bq at *
  obtain ⟨f, t, er⟩ := bq
  simp only at hn HY
  have he : er = 0 := he0
  clear he0
  subst he
  rw [if_neg (by simp)] at hn
  have ht0 : t = 0 := ht00
  clear ht00
  subst ht0
  have hw : nextP l = .wait := by rw [hn, if_pos (.inl rfl)]
  have e1 : nextE (.live l) = ⟨[], false, 0⟩ := by unfold nextE; simp [hw]
  have e2 : nextR (.live l) = .live l := by unfold nextR; simp [hw]
  rw [e1, e2]
  go_enter_defers Tryd.func12, Tryd.ntmps12
  go_wp2_with fail
  refine HM.out.mono ?_
  rintro e w2 ⟨rfl, rfl⟩
  go_wp2_with fail
  refine HY.out.mono ?_
  rintro e w2 ⟨rfl, hb2⟩
  rw [← HW.out] at hb2
  have HE2 := Lib.hid (heap_keep hb2 HE.out)
  have HBX2 := Lib.hid (heap_keep hb2 HBX.out)
  have HR2 := Lib.hid (heap_keep hb2 HR.out)
  have k4 := cell_at HE2.out 0
  have f4 := frozen_of_row w2 (w.heap.size + 1) 0 _ _ HE2.out
  have kb := cell_at HBX2.out 0
  have kr := cell_at HR2.out 1
  have HB2 := Lib.hid (HB.out.trans (hb2.mono HB.out.size))
  have HZ2 : Hid (w.heap.size + 2 ≤ w2.heap.size) := Lib.hid (by have := hb2.size; omega)
  clear hb2 hmk
  go_wp2_with fail
  go_region_o
  go_wp2
  have hb3 : Below w.heap.size w ((w2.setCell ⟨w.heap.size + 1, 0, none⟩ (.int .i64 0)).setCell ⟨w.heap.size + 1, 0, none⟩ (.int .i64 0)).drew :=
    ((HB2.out.setCell (p := ⟨w.heap.size + 1, 0, none⟩) (Nat.le_succ _) _).setCell (p := ⟨w.heap.size + 1, 0, none⟩) (Nat.le_succ _) _).drew
  have hE3 : ((w2.setCell ⟨w.heap.size + 1, 0, none⟩ (.int .i64 0)).setCell ⟨w.heap.size + 1, 0, none⟩ (.int .i64 0)).drew.heap[w.heap.size + 1]? = some (.cells #[.int .i64 0] 31 (0, 0)) :=
    heap_setCell_same _ (w.heap.size + 1) 0 _ _ _ (heap_setCell_same w2 (w.heap.size + 1) 0 _ _ _ HE2.out)
  refine next_close (S := fun w' => w' = ((w2.setCell ⟨w.heap.size + 1, 0, none⟩ (.int .i64 0)).setCell ⟨w.heap.size + 1, 0, none⟩ (.int .i64 0)).drew) (z := 0) rfl _ rfl rfl rfl (closing_ok (w.heap.size + 1) w.heap.size _ (by rw [cell_at hE3]; rfl)) ?_
  rintro w' rfl
  exact ⟨by rw [cell_at hE3]; rfl, rfl, g, fun k hk => .inl hk, H0.out.below hb3, Fr.of_below hb3⟩
set_option maxRecDepth 100000 in
set_option maxHeartbeats 4000000 in
theorem next_wait1 (R : Nat) (g : Option Nat) (l : List UInt8) (w : World) (h : RdIn w R g (.live l)) (hF : Facts w) (he0 : (bodyQ l).e = 0) (ht00 : (bodyQ l).t ≠ 0) (htl0 : l.length < (bodyQ l).t) :
    Calls Tryd.prog 12 #[.pointer (some ⟨R, 0, none⟩)] w fun e w' => e = .returned (nextV (nextE (.live l))) ∧ RdEnd w R g (nextR (.live l)) w' := by
  have hlt := h.lt
  obtain ⟨w1, hw1⟩ : ∃ w1, w1 = (w.alloc (.cells #[.pointer (some ⟨R, 0, none⟩)] 23)).alloc (.cells #[.int .i64 0] 31) := ⟨_, rfl⟩
  have hb1 : Below w.heap.size w w1 := by rw [hw1]; exact (alloc_below w _).trans ((alloc_below _ _).mono (by simp))
  have H0 := Lib.hid h
  have hn := next_body l
  have hfr : ∀ f n, nextP l = .body f n → 20 ≤ f ∧ f + n ≤ l.length := fun f n hh => ⟨(nextP_body hh).1, (nextP_body hh).2.1⟩
  obtain ⟨v, p, hR0, hv, hp, hg, hne, hl⟩ := h
  obtain ⟨q, cap, rfl, hq, hcap, hcm, hB⟩ := hv.shape
  have hgw : Hid (∀ k, g = some k → k < w.heap.size) := Lib.hid (fun k hk => hv.lt (hg.trans hk))
  have hR := heap_keep hb1 hR0
  have HM := Lib.hid (made_any R w1 hR)
  have HY := Lib.hid (bodyIn_any q cap l w1 hq (hB.below hb1) hcap hl (hF.below hb1))
  have c1 := cell_at hR 1
  have c3 := cell_at hR 3
  have HR := Lib.hid hR
  have HBI := Lib.hid hB
  have HB := Lib.hid hb1
  have HW := Lib.hid hw1
  have hz1 : w1.heap.size = w.heap.size + 2 := by rw [hw1]; simp
  have hE : w1.heap[w.heap.size + 1]? = some (.cells #[.int .i64 0] 31 (0, 0)) := by
    have := alloc_top (w.alloc (.cells #[.pointer (some ⟨R, 0, none⟩)] 23)) #[.int .i64 0] 31
    rw [World.size_alloc] at this
    rw [hw1]; exact this
  have hBx : w1.heap[w.heap.size]? = some (.cells #[.pointer (some ⟨R, 0, none⟩)] 23 (0, 0)) := by
    rw [hw1]; exact heap_keep (alloc_below _ _) (alloc_top w _ _)
  have HE := Lib.hid hE
  have HBX := Lib.hid hBx
  rw [hw1] at c1 c3 HM HY
  have hmk : ∀ (fn : Fn) (first cap : Array Value) (w : World), (Instr.makeFunc fn first cap).run Tryd.prog w = .ok (.func fn first cap) w := fun _ _ _ _ => rfl
  have mixed : Tryd.prog.follows .mixedOrders = true := by kernel_rfl
  clear hR hb1 hw1 hE hBx hR0 hv hB hg hp
  generalize hbq : bodyQ l = bq at *
  obtain ⟨f, t, er⟩ := bq
  simp only at hn HY
  have he : er = 0 := he0
  clear he0
  subst he
  rw [if_neg (by simp)] at hn
  have ht0 : t ≠ 0 := ht00
  have htl : l.length < t := htl0
  clear ht00 htl0
  have ht2 : ((t : Int) = 0) = False := by simp; exact ht0
  have htl2 : (l.length : Int) < (t : Int) := by omega
  have hw : nextP l = .wait := by rw [hn, if_pos (.inr htl)]
  have e1 : nextE (.live l) = ⟨[], false, 0⟩ := by unfold nextE; simp [hw]
  have e2 : nextR (.live l) = .live l := by unfold nextR; simp [hw]
  rw [e1, e2]
  go_enter_defers Tryd.func12, Tryd.ntmps12
  go_wp2_with fail
  refine HM.out.mono ?_
  rintro e w2 ⟨rfl, rfl⟩
  go_wp2_with fail
  refine HY.out.mono ?_
  rintro e w2 ⟨rfl, hb2⟩
  rw [← HW.out] at hb2
  have HE2 := Lib.hid (heap_keep hb2 HE.out)
  have HBX2 := Lib.hid (heap_keep hb2 HBX.out)
  have HR2 := Lib.hid (heap_keep hb2 HR.out)
  have k4 := cell_at HE2.out 0
  have f4 := frozen_of_row w2 (w.heap.size + 1) 0 _ _ HE2.out
  have kb := cell_at HBX2.out 0
  have kr := cell_at HR2.out 1
  have HB2 := Lib.hid (HB.out.trans (hb2.mono HB.out.size))
  have HZ2 : Hid (w.heap.size + 2 ≤ w2.heap.size) := Lib.hid (by have := hb2.size; omega)
  clear hb2 hmk
  go_wp2_with fail
  go_region_o
  go_wp2
  have hb3 : Below w.heap.size w ((w2.setCell ⟨w.heap.size + 1, 0, none⟩ (.int .i64 0)).setCell ⟨w.heap.size + 1, 0, none⟩ (.int .i64 0)).drew :=
    ((HB2.out.setCell (p := ⟨w.heap.size + 1, 0, none⟩) (Nat.le_succ _) _).setCell (p := ⟨w.heap.size + 1, 0, none⟩) (Nat.le_succ _) _).drew
  have hE3 : ((w2.setCell ⟨w.heap.size + 1, 0, none⟩ (.int .i64 0)).setCell ⟨w.heap.size + 1, 0, none⟩ (.int .i64 0)).drew.heap[w.heap.size + 1]? = some (.cells #[.int .i64 0] 31 (0, 0)) :=
    heap_setCell_same _ (w.heap.size + 1) 0 _ _ _ (heap_setCell_same w2 (w.heap.size + 1) 0 _ _ _ HE2.out)
  refine next_close (S := fun w' => w' = ((w2.setCell ⟨w.heap.size + 1, 0, none⟩ (.int .i64 0)).setCell ⟨w.heap.size + 1, 0, none⟩ (.int .i64 0)).drew) (z := 0) rfl _ rfl rfl rfl (closing_ok (w.heap.size + 1) w.heap.size _ (by rw [cell_at hE3]; rfl)) ?_
  rintro w' rfl
  exact ⟨by rw [cell_at hE3]; rfl, rfl, g, fun k hk => .inl hk, H0.out.below hb3, Fr.of_below hb3⟩
set_option maxRecDepth 100000 in
set_option maxHeartbeats 4000000 in
theorem next_take (R : Nat) (g : Option Nat) (l : List UInt8) (w : World) (h : RdIn w R g (.live l)) (hF : Facts w) (he0 : (bodyQ l).e = 0) (ht00 : (bodyQ l).t ≠ 0) (htl0 : ¬ l.length < (bodyQ l).t) :
    Calls Tryd.prog 12 #[.pointer (some ⟨R, 0, none⟩)] w fun e w' => e = .returned (nextV (nextE (.live l))) ∧ RdEnd w R g (nextR (.live l)) w' := by
  have hlt := h.lt
  obtain ⟨w1, hw1⟩ : ∃ w1, w1 = (w.alloc (.cells #[.pointer (some ⟨R, 0, none⟩)] 23)).alloc (.cells #[.int .i64 0] 31) := ⟨_, rfl⟩
  have hb1 : Below w.heap.size w w1 := by rw [hw1]; exact (alloc_below w _).trans ((alloc_below _ _).mono (by simp))
  have H0 := Lib.hid h
  have hn := next_body l
  have hfr : ∀ f n, nextP l = .body f n → 20 ≤ f ∧ f + n ≤ l.length := fun f n hh => ⟨(nextP_body hh).1, (nextP_body hh).2.1⟩
  obtain ⟨v, p, hR0, hv, hp, hg, hne, hl⟩ := h
  obtain ⟨q, cap, rfl, hq, hcap, hcm, hB⟩ := hv.shape
  have hgw : Hid (∀ k, g = some k → k < w.heap.size) := Lib.hid (fun k hk => hv.lt (hg.trans hk))
  have hR := heap_keep hb1 hR0
  have HM := Lib.hid (made_any R w1 hR)
  have HY := Lib.hid (bodyIn_any q cap l w1 hq (hB.below hb1) hcap hl (hF.below hb1))
  have c1 := cell_at hR 1
  have c3 := cell_at hR 3
  have HR := Lib.hid hR
  have HBI := Lib.hid hB
  have HB := Lib.hid hb1
  have HW := Lib.hid hw1
  have hz1 : w1.heap.size = w.heap.size + 2 := by rw [hw1]; simp
  have hE : w1.heap[w.heap.size + 1]? = some (.cells #[.int .i64 0] 31 (0, 0)) := by
    have := alloc_top (w.alloc (.cells #[.pointer (some ⟨R, 0, none⟩)] 23)) #[.int .i64 0] 31
    rw [World.size_alloc] at this
    rw [hw1]; exact this
  have hBx : w1.heap[w.heap.size]? = some (.cells #[.pointer (some ⟨R, 0, none⟩)] 23 (0, 0)) := by
    rw [hw1]; exact heap_keep (alloc_below _ _) (alloc_top w _ _)
  have HE := Lib.hid hE
  have HBX := Lib.hid hBx
  rw [hw1] at c1 c3 HM HY
  have hmk : ∀ (fn : Fn) (first cap : Array Value) (w : World), (Instr.makeFunc fn first cap).run Tryd.prog w = .ok (.func fn first cap) w := fun _ _ _ _ => rfl
  have mixed : Tryd.prog.follows .mixedOrders = true := by kernel_rfl
  clear hR hb1 hw1 hE hBx hR0 hv hB hg hp
  generalize hbq : bodyQ l = bq at *
  obtain ⟨f, t, er⟩ := bq
  simp only at hn HY
  have he : er = 0 := he0
  clear he0
  subst he
  rw [if_neg (by simp)] at hn
  have ht0 : t ≠ 0 := ht00
  have htl : ¬ l.length < t := htl0
  clear ht00 htl0
  have ht2 : ((t : Int) = 0) = False := by simp; exact ht0
  have htl2 : (t : Int) ≤ (l.length : Int) := by omega
  have hw : nextP l = .body f (t - f) := by rw [hn, if_neg (by omega)]
  have e1 : nextE (.live l) = ⟨(l.drop f).take (t - f), true, 0⟩ := by unfold nextE; simp [hw]
  have hf := hfr _ _ hw
  obtain ⟨b, o, hq2, _⟩ := HBI.out (by omega)
  subst hq2
  have hbw : ∀ w', Below w.heap.size w w' → BIn w' (some ⟨b, o + f, none⟩) ((l.drop f).take (t - f)) := fun w' hb' => by
    intro hn'
    obtain ⟨b', o', e', hc'⟩ := HBI.out (by omega)
    cases e'
    refine ⟨b, o + f, rfl, fun i hi => ?_⟩
    rw [List.length_take, List.length_drop] at hi
    have := cell_keep hb' (hc' (f + i) (by omega))
    rw [Nat.add_assoc, this]
    unfold nums
    rw [List.getD_eq_getElem?_getD, List.getD_eq_getElem?_getD, List.getElem?_map, List.getElem?_map, List.getElem?_take_of_lt (by omega), List.getElem?_drop]
  have hbl : ((l.drop f).take (t - f)).length = t - f := by rw [List.length_take, List.length_drop]; omega
  have hft : f ≤ t := by
    rcases Nat.lt_or_ge t f with h | h
    · exfalso
      have := (bodyQ_le l)
      rw [hbq] at this
      simp only at this
      omega
    · exact h
  have e2 : nextR (.live l) = .live (l.drop t) := by unfold nextR; simp [hw]; congr 1; omega
  rw [e1, e2]
  by_cases hcf : cap = f
  · have htf : t = f := by omega
    have hlf : l.length = f := by omega
    have hbd : (l.drop f).take (t - f) = [] := by rw [htf, Nat.sub_self, List.take_zero]
    have hcv0 : ∀ w', (convert 42 9 (.slice (some ⟨b, o, none⟩) 0 0)).run Tryd.prog w' = .ok (.string (txt [])) w' := fun w' => by
      have := (Lib.BytesIn.nil w' (some ⟨b, o, none⟩) []).convert rfl 0 42 5 9 Tryd.underlying42 Tryd.underlying5 Tryd.underlying9
      rw [show ([] : List Int) = nums [] from rfl, str_nums] at this
      exact this
    rw [hbd]
    subst hcf
    subst htf
    clear hlf hbd
    go_enter_defers Tryd.func12, Tryd.ntmps12
    go_wp2_with fail
    refine HM.out.mono ?_
    rintro e w2 ⟨rfl, rfl⟩
    go_wp2_with fail
    refine HY.out.mono ?_
    rintro e w2 ⟨rfl, hb2⟩
    rw [← HW.out] at hb2
    have HE2 := Lib.hid (heap_keep hb2 HE.out)
    have HBX2 := Lib.hid (heap_keep hb2 HBX.out)
    have HR2 := Lib.hid (heap_keep hb2 HR.out)
    have k4 := cell_at HE2.out 0
    have f4 := frozen_of_row w2 (w.heap.size + 1) 0 _ _ HE2.out
    have kb := cell_at HBX2.out 0
    have kr := cell_at HR2.out 1
    have HB2 := Lib.hid (HB.out.trans (hb2.mono HB.out.size))
    have HZ2 : Hid (w.heap.size + 2 ≤ w2.heap.size) := Lib.hid (by have := hb2.size; omega)
    have HW3 : Hid (∀ W3, W3 = w2.setCell ⟨w.heap.size + 1, 0, none⟩ (.int .i64 0) → Below w.heap.size w W3) := Lib.hid (fun W3 h => by rw [h]; exact HB2.out.setCell (p := ⟨w.heap.size + 1, 0, none⟩) (Nat.le_succ _) _)
    have hb3 := HW3.out _ rfl
    have HD := Lib.hid (drop_any R t g l (by omega) (by omega) (w2.setCell ⟨w.heap.size + 1, 0, none⟩ (.int .i64 0)) (H0.out.below hb3))
    have hcv := hcv0 (w2.setCell ⟨w.heap.size + 1, 0, none⟩ (.int .i64 0))
    clear hb2 hmk hcv0 hb3 hbw
    go_wp2_with fail
    refine HD.out.mono ?_
    rintro e w4 ⟨⟨v4, rfl⟩, hd4⟩
    have hE3 : (w2.setCell ⟨w.heap.size + 1, 0, none⟩ (.int .i64 0)).heap[w.heap.size + 1]? = some (.cells #[.int .i64 0] 31 (0, 0)) := heap_setCell_same w2 (w.heap.size + 1) 0 _ _ _ HE2.out
    have hE4 : w4.heap[w.heap.size + 1]? = some (.cells #[.int .i64 0] 31 (0, 0)) := by
      obtain ⟨g', _, _, hfr3⟩ := hd4
      exact hfr3.keep hE3 (fun hx => by
        rcases hx with hx | hx
        · omega
        · have := hgw.out _ hx
          omega)
    have k44 := cell_at hE4 0
    have f44 := frozen_of_row w4 (w.heap.size + 1) 0 _ _ hE4
    have hE5 : (w4.setCell ⟨w.heap.size + 1, 0, none⟩ (.int .i64 0)).heap[w.heap.size + 1]? = some (.cells #[.int .i64 0] 31 (0, 0)) := heap_setCell_same w4 (w.heap.size + 1) 0 _ _ _ hE4
    have HE5 := Lib.hid hE5
    have HEND := Lib.hid (hd4.store (E := w.heap.size + 1) (HW3.out _ rfl) (Nat.le_succ _) (by rw [World.size_setCell]; have := HZ2.out; omega) hgw.out hlt (.int .i64 0))
    clear hE3 hE4 hE5 hd4
    go_wp2_with fail
    refine next_close (S := fun w' => w' = w4.setCell ⟨w.heap.size + 1, 0, none⟩ (.int .i64 0)) (z := 0) rfl _ rfl rfl rfl (closing_ok (w.heap.size + 1) w.heap.size _ (by rw [cell_at HE5.out]; rfl)) ?_
    rintro w' rfl
    exact ⟨by rw [cell_at HE5.out]; rfl, rfl, HEND.out⟩

  · have hcv0 : ∀ w', Below w.heap.size w w' → (convert 42 9 (.slice (some ⟨b, o + f, none⟩) (t - f) (cap - f))).run Tryd.prog w' = .ok (.string (txt ((l.drop f).take (t - f)))) w' := fun w' hb' => by
      have := (hbw w' hb').convert (nums_len _) (cap - f) 42 5 9 Tryd.underlying42 Tryd.underlying5 Tryd.underlying9
      rw [str_nums, hbl] at this
      exact this
    clear hbw
    generalize (l.drop f).take (t - f) = bd at *
    go_enter_defers Tryd.func12, Tryd.ntmps12
    go_wp2_with fail
    refine HM.out.mono ?_
    rintro e w2 ⟨rfl, rfl⟩
    go_wp2_with fail
    refine HY.out.mono ?_
    rintro e w2 ⟨rfl, hb2⟩
    rw [← HW.out] at hb2
    have HE2 := Lib.hid (heap_keep hb2 HE.out)
    have HBX2 := Lib.hid (heap_keep hb2 HBX.out)
    have HR2 := Lib.hid (heap_keep hb2 HR.out)
    have k4 := cell_at HE2.out 0
    have f4 := frozen_of_row w2 (w.heap.size + 1) 0 _ _ HE2.out
    have kb := cell_at HBX2.out 0
    have kr := cell_at HR2.out 1
    have HB2 := Lib.hid (HB.out.trans (hb2.mono HB.out.size))
    have HZ2 : Hid (w.heap.size + 2 ≤ w2.heap.size) := Lib.hid (by have := hb2.size; omega)
    have HW3 : Hid (∀ W3, W3 = w2.setCell ⟨w.heap.size + 1, 0, none⟩ (.int .i64 0) → Below w.heap.size w W3) := Lib.hid (fun W3 h => by rw [h]; exact HB2.out.setCell (p := ⟨w.heap.size + 1, 0, none⟩) (Nat.le_succ _) _)
    have hb3 := HW3.out _ rfl
    have HD := Lib.hid (drop_any R t g l (by omega) (by omega) (w2.setCell ⟨w.heap.size + 1, 0, none⟩ (.int .i64 0)) (H0.out.below hb3))
    have hcv := hcv0 (w2.setCell ⟨w.heap.size + 1, 0, none⟩ (.int .i64 0)) hb3
    clear hb2 hmk hcv0 hb3
    go_wp2_with fail
    refine HD.out.mono ?_
    rintro e w4 ⟨⟨v4, rfl⟩, hd4⟩
    have hE3 : (w2.setCell ⟨w.heap.size + 1, 0, none⟩ (.int .i64 0)).heap[w.heap.size + 1]? = some (.cells #[.int .i64 0] 31 (0, 0)) := heap_setCell_same w2 (w.heap.size + 1) 0 _ _ _ HE2.out
    have hE4 : w4.heap[w.heap.size + 1]? = some (.cells #[.int .i64 0] 31 (0, 0)) := by
      obtain ⟨g', _, _, hfr3⟩ := hd4
      exact hfr3.keep hE3 (fun hx => by
        rcases hx with hx | hx
        · omega
        · have := hgw.out _ hx
          omega)
    have k44 := cell_at hE4 0
    have f44 := frozen_of_row w4 (w.heap.size + 1) 0 _ _ hE4
    have hE5 : (w4.setCell ⟨w.heap.size + 1, 0, none⟩ (.int .i64 0)).heap[w.heap.size + 1]? = some (.cells #[.int .i64 0] 31 (0, 0)) := heap_setCell_same w4 (w.heap.size + 1) 0 _ _ _ hE4
    have HE5 := Lib.hid hE5
    have HEND := Lib.hid (hd4.store (E := w.heap.size + 1) (HW3.out _ rfl) (Nat.le_succ _) (by rw [World.size_setCell]; have := HZ2.out; omega) hgw.out hlt (.int .i64 0))
    clear hE3 hE4 hE5 hd4
    go_wp2_with fail
    refine next_close (S := fun w' => w' = w4.setCell ⟨w.heap.size + 1, 0, none⟩ (.int .i64 0)) (z := 0) rfl _ rfl rfl rfl (closing_ok (w.heap.size + 1) w.heap.size _ (by rw [cell_at HE5.out]; rfl)) ?_
    rintro w' rfl
    exact ⟨by rw [cell_at HE5.out]; rfl, rfl, HEND.out⟩
theorem next_live (R : Nat) (g : Option Nat) (l : List UInt8) (w : World) (h : RdIn w R g (.live l)) (hF : Facts w) :
    Calls Tryd.prog 12 #[.pointer (some ⟨R, 0, none⟩)] w fun e w' => e = .returned (nextV (nextE (.live l))) ∧ RdEnd w R g (nextR (.live l)) w' := by
  by_cases he : (bodyQ l).e = 0
  · by_cases ht : (bodyQ l).t = 0
    · exact next_wait0 R g l w h hF he ht
    · by_cases hl : l.length < (bodyQ l).t
      · exact next_wait1 R g l w h hF he ht hl
      · exact next_take R g l w h hF he ht hl
  · exact next_bad R g l w h hF he
theorem next_any (R : Nat) (g : Option Nat) (r : RS) (w : World) (h : RdIn w R g r) (hF : Facts w) :
    Calls Tryd.prog 12 #[.pointer (some ⟨R, 0, none⟩)] w fun e w' => e = .returned (nextV (nextE r)) ∧ RdEnd w R g (nextR r) w' := by
  cases r with
  | live l => exact next_live R g l w h hF
  | dead n => exact next_dead R n g w h
end Go.Proofs.YtmaihiklcdidbaaDoor
