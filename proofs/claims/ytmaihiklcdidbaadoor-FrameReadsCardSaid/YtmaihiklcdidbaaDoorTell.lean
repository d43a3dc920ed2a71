/-
  frame's tellAll AT EVERY TEXT: whether the lines of a head may be, and the length that they tell. Nothing of the world that the reader came from turns. Conditions: the text's length; what the variables that are read hold (Facts).
-/
import Derived.Test.YtmaihiklcdidbaaDoorRange
import Derived.Test.YtmaihiklcdidbaaDoorPlain4
namespace Go.Proofs.YtmaihiklcdidbaaDoor
open Go.RowKit Go.Shelf
attribute [local go_sem] Oper.semAt_some

/-- strings.SplitSeq: an iterator over new memory of its own. -/
def SeqEnd (s : ByteArray) (w : World) (e : Ending) (w' : World) : Prop :=
    e = .returned (.func (.func 84) #[] #[.pointer (some ⟨w.heap.size + 1, 0, none⟩), .pointer (some ⟨w.heap.size, 0, none⟩), .pointer (some ⟨w.heap.size + 2, 0, none⟩)]) ∧
      Below w.heap.size w w' ∧ w'.heap.size = w.heap.size + 3 ∧ SqSt w' w.heap.size s
theorem splitSeq_any (s : ByteArray) (w : World) : Calls Tryd.prog 68 #[.string s, .string ⟨#[13, 10]⟩, .int .i64 0] w (SeqEnd s w) := by
  go_enter Tryd.func68, Tryd.ntmps68
  go_wp2_with fail
  go_ret
  have h1 := alloc_top w #[.string s] 9
  have h2 := alloc_top (w.alloc (.cells #[.string s] 9)) #[.string ⟨#[13, 10]⟩] 9
  have h3 := alloc_top ((w.alloc (.cells #[.string s] 9)).alloc (.cells #[.string ⟨#[13, 10]⟩] 9)) #[.int .i64 0] 3
  have b2 := alloc_below (w.alloc (.cells #[.string s] 9)) (.cells #[.string ⟨#[13, 10]⟩] 9)
  have b3 := alloc_below ((w.alloc (.cells #[.string s] 9)).alloc (.cells #[.string ⟨#[13, 10]⟩] 9)) (.cells #[.int .i64 0] 3)
  rw [World.size_alloc] at h2
  rw [World.size_alloc, World.size_alloc] at h3
  refine ⟨rfl, ((alloc_below w _).trans (b2.mono (by simp))).trans (b3.mono (by simp; omega)), by simp, ⟨heap_keep b3 (heap_keep b2 h1), heap_keep b3 h2, h3⟩⟩
theorem seq_any (s : ByteArray) (w : World) : Calls Tryd.prog 50 #[.string s, .string ⟨#[13, 10]⟩] w (SeqEnd s w) := by
  have H := Lib.hid (splitSeq_any s w)
  unfold SeqEnd at H ⊢
  go_enter Tryd.func50, Tryd.ntmps50
  go_wp2_with fail
  refine H.out.mono ?_
  rintro e w1 ⟨rfl, h⟩
  have h := Lib.hid h
  go_wp2_with fail
  go_ret
  exact ⟨rfl, h.out⟩

/-- What lies in memory while the lines are told: the known ones; the length so far; what is to be returned. -/
structure TSt (w0 W : World) (BL A KB RB : Nat) (kl kt : Bool) (o : Option Nat) : Prop where
  below : Below w0.heap.size w0 W
  known : W.heap[KB]? = some (.cells #[.slice (some ⟨A, 0, none⟩) (kN kl kt) 2] 70 (0, 0))
  cells : W.heap[A]? = some (.cells (kCells BL kl kt) 69 (0, 0))
  long : W.heap[BL]? = some (.cells #[.int .i64 (intO o)] 2 (0, 0))
  res : W.heap[RB]? = some (.cells #[.bool false] 4 (0, 0))
theorem TSt.keep {w0 W W' : World} {BL A KB RB : Nat} {kl kt : Bool} {o : Option Nat} (h : TSt w0 W BL A KB RB kl kt o) (hb : Below w0.heap.size w0 W') (hk : ∀ (k : Nat) (x : Obj), W.heap[k]? = some x → x.isCells = true → (k = KB ∨ k = A ∨ k = BL ∨ k = RB) → W'.heap[k]? = some x) : TSt w0 W' BL A KB RB kl kt o :=
  ⟨hb, hk _ _ h.known rfl (.inl rfl), hk _ _ h.cells rfl (.inr (.inl rfl)), hk _ _ h.long rfl (.inr (.inr (.inl rfl))), hk _ _ h.res rfl (.inr (.inr (.inr rfl)))⟩
theorem TSt.more {w0 W W' : World} {BL A KB RB : Nat} {kl kt : Bool} {o : Option Nat} (h : TSt w0 W BL A KB RB kl kt o) (hb : Below W.heap.size W W') : TSt w0 W' BL A KB RB kl kt o :=
  h.keep (h.below.trans (hb.mono h.below.size)) (fun _ _ hx _ _ => heap_keep hb hx)
theorem TSt.set {w0 W : World} {BL A KB RB N i : Nat} {kl kt : Bool} {o : Option Nat} (h : TSt w0 W BL A KB RB kl kt o) (hN : w0.heap.size ≤ N) (h1 : KB < N) (h2 : A < N) (h3 : BL < N) (h4 : RB < N) (v : Value) : TSt w0 (W.setCell ⟨N, i, none⟩ v) BL A KB RB kl kt o :=
  h.keep (h.below.setCell (p := ⟨N, i, none⟩) hN v) (fun k _ hx _ hk => (heap_setCell_other W ⟨N, i, none⟩ k v (show k ≠ N by omega)).trans hx)
theorem grown_cells {W W' : World} {row : Option Nat} (hg : W.grownBy W' row) (hr : ∀ r, row = some r → ∃ o : Obj, W.heap[r]? = some o ∧ o.isCells = false) (k : Nat) (x : Obj) (hk : W.heap[k]? = some x) (hx : x.isCells = true) : W'.heap[k]? = some x := by
  refine (hg.block k (heap_lt hk) ?_).trans hk
  intro e
  obtain ⟨o', h1, h2⟩ := hr k e.symm
  rw [hk] at h1
  injection h1 with h1
  subst h1
  rw [hx] at h2
  cases h2
theorem TSt.own {w0 : World} {BL A KB RB B : Nat} (hB : w0.heap.size ≤ B) {kl kt : Bool} {o : Option Nat} {W W' : World} {row : Option Nat} (h : TSt w0 W BL A KB RB kl kt o) (hg : W.grownBy W' row) (hr : ∀ r, row = some r → B ≤ r ∧ ∃ o : Obj, W.heap[r]? = some o ∧ o.isCells = false) : TSt w0 W' BL A KB RB kl kt o :=
  h.keep (h.below.grown hg h.below.size (fun k e => Nat.le_trans hB (hr k e).1)) (fun k x hx hc _ => grown_cells hg (fun r e => (hr r e).2) k x hx hc)
theorem results_cell_one {fn : Func} {p : Tmp} {ty : TypeId} (h : fn.results = #[.cell p ty]) (tmps : Array Value) (P : Program) (w : World) :
    (results fn tmps).run P w = ((asAddr (tmps.getD p undef)).run P w).andThen fun a w₁ => (loadVar ty a).run P w₁ := by
  simp only [results, h]
  simp [Sem.run_bind, Result.andThen]
theorem load_bool {W : World} {N : Nat} {b : Bool} (h : W.cell? ⟨N, 0, none⟩ = some (.bool b)) : (loadVar 4 ⟨N, 0, none⟩).run Tryd.prog W = .ok (.bool b) W := by
  simp [loadVar, Result.andThen, h]
/-- A function whose result lies in a cell has come to its end behind a loop over an iterator. -/
theorem leave_bool {R : Ending → World → Prop} {W : World} {D N : Nat} {b : Bool} {fn : Func} {p : Tmp} (hr : fn.results = #[.cell p 4]) (tmps : Array Value) (hp : tmps.getD p undef = .pointer (some ⟨N, 0, none⟩))
    (hK : W.heap[D]? = some (.deferred (some []))) (hN : W.heap[N]? = some (.cells #[.bool b] 4 (0, 0))) (hR : R (.returned (.bool b)) (W.putObj D (.deferred none))) :
    bodyPostM Fence.wide 9 Tryd.prog fn R Exit.ret { tmps := tmps, defers := [{ target := .collected D, args := #[] }] } W := by
  refine ⟨by simp, .inl ⟨_, _, rfl, run_takeDeferred hK, ?_⟩⟩
  refine ⟨_, ?_, hR⟩
  have hne : N ≠ D := by
    rintro rfl
    rw [hN] at hK
    cases hK
  have hN2 : (W.putObj D (.deferred none)).cell? ⟨N, 0, none⟩ = some (.bool b) := by
    rw [cell_at ((World.putObj_heap_other hne).trans hN)]
    rfl
  rw [results_cell_one hr, hp]
  simp [asAddr, Result.andThen, load_bool hN2]
theorem SqSt.more {W W' : World} {n : Nat} {s : ByteArray} (h : SqSt W n s) (hb : Below W.heap.size W W') : SqSt W' n s := ⟨heap_keep hb h.txt, heap_keep hb h.sep, heap_keep hb h.save⟩
theorem SqSt.other {W : World} {n N i : Nat} {s : ByteArray} (h : SqSt W n s) (hN : N < n) (v : Value) : SqSt (W.setCell ⟨N, i, none⟩ v) n s :=
  ⟨(heap_setCell_other W ⟨N, i, none⟩ n v (show n ≠ N by omega)).trans h.txt, (heap_setCell_other W ⟨N, i, none⟩ (n + 1) v (show n + 1 ≠ N by omega)).trans h.sep, (heap_setCell_other W ⟨N, i, none⟩ (n + 2) v (show n + 2 ≠ N by omega)).trans h.save⟩
theorem keeps_below {W W' : World} (hb : Below W.heap.size W W') : KeepsOthers W W' := ⟨hb.size, fun _ _ hk _ => heap_keep hb hk⟩
theorem keeps_fr {W W' : World} {A : Nat} {cs : Array Value} {t : TypeId} (hf : Fr (· = A) W W') (hA : W.heap[A]? = some (.cells cs t (0, 0))) : KeepsOthers W W' := ⟨hf.size, fun k o hk ho => hf.keep hk (by
  rintro rfl
  rw [hA] at hk
  injection hk with hk
  subst hk
  cases ho)⟩
/-- A length has been told. -/
theorem TSt.tell {w0 W : World} {BL A KB RB : Nat} {kl kt : Bool} {o : Option Nat} (h : TSt w0 W BL A KB RB kl kt o) (hB : w0.heap.size ≤ BL) (h1 : BL ≠ A) (h2 : BL ≠ KB) (h3 : BL ≠ RB) (m : Nat) : TSt w0 (W.setCell ⟨BL, 0, none⟩ (.int .i64 (m : Int))) BL A KB RB kl kt (some m) :=
  ⟨h.below.setCell (p := ⟨BL, 0, none⟩) hB _, (heap_setCell_other W ⟨BL, 0, none⟩ KB _ (show KB ≠ BL by omega)).trans h.known, (heap_setCell_other W ⟨BL, 0, none⟩ A _ (show A ≠ BL by omega)).trans h.cells, heap_setCell_same W BL 0 _ _ _ h.long, (heap_setCell_other W ⟨BL, 0, none⟩ RB _ (show RB ≠ BL by omega)).trans h.res⟩
/-- A line is known no more. -/
theorem TSt.del {w0 W W' : World} {BL A KB RB : Nat} {kl kt kl' kt' : Bool} {o : Option Nat} (h : TSt w0 W BL A KB RB kl kt o) (hA : w0.heap.size ≤ A) (hK : w0.heap.size ≤ KB) (h1 : BL ≠ A) (h2 : A ≠ KB) (h3 : A ≠ RB) (h4 : KB ≠ BL) (h5 : KB ≠ RB) (hf : Fr (· = A) W W') (hc : W'.heap[A]? = some (.cells (kCells BL kl' kt') 69 (0, 0))) :
    TSt w0 (W'.setCell ⟨KB, 0, none⟩ (.slice (some ⟨A, 0, none⟩) (kN kl' kt') 2)) BL A KB RB kl' kt' o :=
  ⟨(h.below.trans (hf.to_below h.below.size (fun k hk => by subst hk; exact hA))).setCell (p := ⟨KB, 0, none⟩) hK _, heap_setCell_same W' KB 0 _ _ _ (hf.keep h.known (Ne.symm h2)), (heap_setCell_other W' ⟨KB, 0, none⟩ A _ (show A ≠ KB by omega)).trans hc,
    (heap_setCell_other W' ⟨KB, 0, none⟩ BL _ (show BL ≠ KB by omega)).trans (hf.keep h.long h1), (heap_setCell_other W' ⟨KB, 0, none⟩ RB _ (show RB ≠ KB by omega)).trans (hf.keep h.res (Ne.symm h3))⟩
/-- A line that may not be: the round leaves. -/
theorem leave_round {w0 W w4 : World} {BL A KB RB : Nat} {kl kt : Bool} {o : Option Nat} {T : Option (Option Nat)} (h : TSt w0 w4 BL A KB RB kl kt o) (hR : w0.heap.size ≤ RB) (hk : KeepsOthers W w4) (hT : T = none) :
    KeepsOthers W (w4.setCell ⟨RB, 0, none⟩ (.bool false)) ∧ T = none ∧ Below w0.heap.size w0 (w4.setCell ⟨RB, 0, none⟩ (.bool false)) ∧ (w4.setCell ⟨RB, 0, none⟩ (.bool false)).heap[RB]? = some (.cells #[.bool false] 4 (0, 0)) :=
  ⟨hk.trans (KeepsOthers.setCell _ _ _), hT, h.below.setCell (p := ⟨RB, 0, none⟩) hR _, heap_setCell_same _ RB 0 _ _ _ h.res⟩
/-- What is told when some lines have been read. -/
def Told (pre : List (List UInt8)) (kl kt : Bool) (o : Option Nat) : Prop := ∀ r, tellP (pre ++ r) true true none = tellP r kl kt o
set_option maxHeartbeats 4000000 in
set_option maxRecDepth 100000 in
theorem tellAll_any (s : ByteArray) (hs : s.size ≤ 100000000) (w0 w : World) (BL A : Nat) (hF : Facts w0) (hb : Below w0.heap.size w0 w) (hBL : w0.heap.size ≤ BL) (hA : BL < A)
    (hc : w.heap[A]? = some (.cells (kCells BL true true) 69 (0, 0))) (hl : w.heap[BL]? = some (.cells #[.int .i64 (-1)] 2 (0, 0))) :
    Calls Tryd.prog 41 #[.string s, .slice (some ⟨A, 0, none⟩) 2 2] w fun e w' => e = .returned (.bool (tellP (splitP s.data.toList) true true none).isSome) ∧ Below w0.heap.size w0 w' ∧
      ∀ o, tellP (splitP s.data.toList) true true none = some o → w'.heap[BL]? = some (.cells #[.int .i64 (intO o)] 2 (0, 0)) := by
  have hAw := heap_lt hc
  have hT : TSt w0 ((w.alloc (.cells #[.slice (some ⟨A, 0, none⟩) 2 2] 70)).alloc (.cells #[.bool false] 4)) BL A w.heap.size (w.heap.size + 1) true true none := by
    have b1 := alloc_below w (.cells #[.slice (some ⟨A, 0, none⟩) 2 2] 70)
    have b2 := alloc_below (w.alloc (.cells #[.slice (some ⟨A, 0, none⟩) 2 2] 70)) (.cells #[.bool false] 4)
    have h1 := alloc_top w #[.slice (some ⟨A, 0, none⟩) 2 2] 70
    have h2 := alloc_top (w.alloc (.cells #[.slice (some ⟨A, 0, none⟩) 2 2] 70)) #[.bool false] 4
    rw [World.size_alloc] at h2
    exact ⟨(hb.trans (b1.mono hb.size)).trans (b2.mono (by simp; have := hb.size; omega)), heap_keep b2 h1, heap_keep b2 (heap_keep b1 hc), heap_keep b2 (heap_keep b1 hl), h2⟩
  have HT := Lib.hid hT
  have HS := Lib.hid (fun w => seq_any s w)
  clear hT hc hl
  refine (callsIn_wide (n := 9)).1 ?_
  refine callsIn_of_wp_marks Tryd.func41 rfl trivial ?_ rfl
  simp only [Tryd.ntmps41, List.size_toArray, List.length_cons, List.length_nil, Nat.reduceAdd, Nat.reduceSub, Array.replicate_succ, Array.replicate_zero, List.push_toArray, List.append_toArray, List.nil_append, List.cons_append]
  gi_wp2_with fail
  refine ⟨trivial, (callsIn_wide.2 (HS.out _)).mono ?_⟩
  unfold SeqEnd
  rintro e w3 ⟨rfl, hb3, hz3, hS3⟩
  have HT3 := Lib.hid (HT.out.more hb3)
  have hz : w3.heap.size = w.heap.size + 5 := by rw [hz3]; simp
  simp only [World.size_alloc] at hS3 hz3
  have HS3 := Lib.hid hS3
  clear hb3 hz3 hS3 HT HS
  gi_wp2_with fail
  refine wpIn_rangeTexts (w.heap.size + 2) s rfl (by omega) HS3.out rfl
    (fun pre W => ∃ kl kt o, Told pre kl kt o ∧ TSt w0 W BL A w.heap.size (w.heap.size + 1) kl kt o)
    (fun W => tellP (splitP s.data.toList) true true none = none ∧ Below w0.heap.size w0 W ∧ W.heap[w.heap.size + 1]? = some (.cells #[.bool false] 4 (0, 0)))
    ?own ?ownx ?set ?max ?start ?act ?assign ?body ?done ?stop
  case assign =>
    intro l x W K hK
    gi_wp2
    exact hK
  case own =>
    rintro pre W W' row ⟨kl, kt, o, h1, h2⟩ hg hr
    exact ⟨kl, kt, o, h1, h2.own (by have := hb.size; omega) hg hr⟩
  case ownx =>
    rintro _ W W' row ⟨h1, h2, h3⟩ hg hr
    exact ⟨h1, h2.grown hg h2.size (fun k e => Nat.le_trans (by have := hb.size; omega) (hr k e).1), grown_cells hg (fun r e => (hr r e).2) _ _ h3 rfl⟩
  case set =>
    rintro pre W v ⟨kl, kt, o, h1, h2⟩
    exact ⟨kl, kt, o, h1, h2.set (by have := hb.size; omega) (by omega) (by omega) (by omega) (by omega) v⟩
  case max =>
    rintro pre W ⟨kl, kt, o, h1, h2⟩
    exact (hF.below h2.below).max
  case start => exact ⟨true, true, none, fun r => rfl, HT3.out⟩
  case done =>
    rintro D W hD ⟨kl, kt, o, h1, h2⟩ hK
    have h1 := h1 []
    rw [List.append_nil, tellP] at h1
    have c4 := cell_at h2.res 0
    have f4 := frozen_of_row W (w.heap.size + 1) 0 _ _ h2.res
    have hlt := heap_lt hK
    gi_wp2
    have hK2 := (KeepsOthers.setCell W ⟨w.heap.size + 1, 0, none⟩ (.bool true)).same D _ hK rfl
    refine leave_bool (b := true) rfl _ rfl hK2 (heap_setCell_same W (w.heap.size + 1) 0 _ _ _ h2.res) ?_
    have hne : BL ≠ D := by omega
    refine ⟨by rw [h1]; rfl, (h2.below.setCell (p := ⟨w.heap.size + 1, 0, none⟩) (by have := hb.size; show w0.heap.size ≤ w.heap.size + 1; omega) _).grown (grownBy_putObj' _ D _) (by rw [World.size_setCell]; exact h2.below.size) (fun k e => by cases e; have := hb.size; omega), fun o' ho' => ?_⟩
    rw [h1] at ho'
    injection ho' with ho'
    subst ho'
    exact ((World.putObj_heap_other hne).trans (heap_setCell_other W ⟨w.heap.size + 1, 0, none⟩ BL _ (show BL ≠ w.heap.size + 1 by omega))).trans h2.long
  case stop =>
    rintro D W hD ⟨h1, h2, h3⟩ hK
    have c4 := cell_at h3 0
    gi_wp2
    refine leave_bool (b := false) rfl _ rfl hK h3 ?_
    exact ⟨by rw [h1]; rfl, h2.grown (grownBy_putObj' _ D _) h2.size (fun k e => by cases e; have := hb.size; omega), fun o' ho' => by rw [h1] at ho'; cases ho'⟩
  case body =>
    rintro l pre x s' W hx ⟨kl, kt, o, h1, h2⟩ hq
    have hxl : x.length ≤ 100000000 := by
      obtain ⟨r, hr⟩ := hx
      have := splitF_len _ _ x (show x ∈ splitP s.data.toList by rw [hr]; simp)
      have hs2 : s.size = s.data.toList.length := rfl
      omega
    have HTW := Lib.hid h2
    have HQ := Lib.hid hq
    obtain ⟨m, hm⟩ := (hF.below h2.below).max
    have HC : Hid (Calls Tryd.prog 51 #[.string (Go.Proofs.YtmaihiklcdidbaaDoor.txt x), .string ⟨#[58]⟩] W fun e w' => e = .returned (.tuple #[.string (Go.Proofs.YtmaihiklcdidbaaDoor.txt (Lib.cut x [58]).1), .string (Go.Proofs.YtmaihiklcdidbaaDoor.txt (Lib.cut x [58]).2.1), .bool (Lib.cut x [58]).2.2]) ∧ ∃ n, w' = W.drewN n) := Lib.hid (Tryd.strings_Cut (Go.Proofs.YtmaihiklcdidbaaDoor.txt x) ⟨#[58]⟩ m W (by show x.toArray.size < _; simp; omega) hm)
    clear h2 hq hm
    generalize hcut : Lib.cut x [58] = c at HC
    obtain ⟨cn, cv, cf⟩ := c
    gi_wp2_with fail
    refine ⟨trivial, (CallsIn.inRound l (callsIn_wide.2 HC.out)).mono ?_⟩
    rintro e w1 ⟨rfl, q, hw1⟩
    have hb1 : Below W.heap.size W w1 := by rw [hw1]; exact drewN_below (Below.refl _ _) q
    have hz1 : w1.heap.size = W.heap.size := by rw [hw1]; rfl
    obtain ⟨W2, hW2⟩ : ∃ W2, W2 = w1.alloc (.cells #[.string (Go.Proofs.YtmaihiklcdidbaaDoor.txt cn)] 9) := ⟨_, rfl⟩
    have hb2 : Below W.heap.size W W2 := by rw [hW2]; exact hb1.alloc (by omega) _
    have HT2 := Lib.hid (HTW.out.more hb2)
    have HF2 := Lib.hid (hF.below HT2.out.below)
    have hn2 : W2.heap[W.heap.size]? = some (.cells #[.string (Go.Proofs.YtmaihiklcdidbaaDoor.txt cn)] 9 (0, 0)) := by
      have := alloc_top w1 #[.string (Go.Proofs.YtmaihiklcdidbaaDoor.txt cn)] 9
      rw [hz1, ← hW2] at this
      exact this
    have hcn : cn.length ≤ x.length := by
      have : (Lib.cut x [58]).1.length ≤ x.length := by
        unfold Lib.cut
        split
        · rw [List.length_take]; omega
        · exact Nat.le_refl _
      rw [hcut] at this
      exact this
    have hcv : cv.length ≤ x.length := by
      have : (Lib.cut x [58]).2.1.length ≤ x.length := by
        unfold Lib.cut
        split
        · rw [List.length_drop]; omega
        · exact Nat.zero_le _
      rw [hcut] at this
      exact this
    have HI := Lib.hid (find_any (Go.Proofs.YtmaihiklcdidbaaDoor.txt cn) (by show cn.toArray.size < _; simp; omega) A BL W.heap.size kl kt W2 HT2.out.cells (by rw [cell_at hn2]; rfl) HF2.out)
    have c3 := cell_at HT2.out.known 0
    rw [hW2] at c3 HI
    have HW2 := Lib.hid hW2
    have HB2 := Lib.hid hb2
    clear hw1 HC hW2 hn2 hb1 hb2 HF2
    gi_wp2_with fail
    all_goals refine ⟨trivial, (CallsIn.inRound l (callsIn_wide.2 HI.out)).mono ?_⟩
    all_goals rintro e w4 ⟨rfl, hb4⟩
    all_goals
      rw [← HW2.out] at hb4
      have HT4 := Lib.hid (HT2.out.more hb4)
      have HF4 := Lib.hid (hF.below HT4.out.below)
      have HB4 := Lib.hid (HB2.out.trans (hb4.mono HB2.out.size))
      have HQ4 := Lib.hid (HQ.out.more HB4.out)
      have HK4 := Lib.hid (keeps_below HB4.out)
      have hl2 := cell_at HT4.out.known 0
      have r4 := cell_at HT4.out.res 0
      have g4 := frozen_of_row w4 (w.heap.size + 1) 0 _ _ HT4.out.res
      clear hb4 HT2 HW2 HB2 HI c3 HTW HQ
      have hlp : lineP x = if cf = true then (if Lib.equalFold cn lenN = true then .len cv else if Lib.equalFold cn typN = true then .typ cv else .bad) else .bad := by
        unfold lineP
        simp only [hcut]
      have hbad : lineP x = .bad → tellP (splitP s.data.toList) true true none = none := by
        intro hbad
        obtain ⟨r, hr⟩ := hx
        rw [hr, h1 (x :: r), tellP, hbad]
      cases cf with
      | false =>
        gi_wp2_with fail
        refine ⟨fun _ h => (by cases h), ?_⟩
        gi_wp2_with fail
        exact leave_round HT4.out (by have := hb.size; omega) HK4.out (hbad (by rw [hlp, if_neg (by simp)]))
      | true =>
        rw [if_pos rfl] at hlp
        have hnone : ¬ 0 ≤ findV cn kl kt → tellP (splitP s.data.toList) true true none = none := by
          intro hn
          obtain ⟨r, hr⟩ := hx
          rw [hr, h1 (x :: r), tellP, hlp]
          by_cases e1 : Lib.equalFold cn lenN = true
          · rw [find_len cn kl kt e1] at hn
            rw [if_pos e1]
            cases kl with
            | true => exact absurd (by decide) hn
            | false => rfl
          · by_cases e2 : Lib.equalFold cn typN = true
            · rw [find_typ cn kl kt (by simpa using e1) e2] at hn
              rw [if_neg e1, if_pos e2]
              cases kt with
              | true => cases kl <;> exact absurd (by decide) hn
              | false => rfl
            · rw [if_neg e1, if_neg e2]
        have hfd : findV (Go.Proofs.YtmaihiklcdidbaaDoor.txt cn).data.toList kl kt = findV cn kl kt := rfl
        rw [hfd]
        by_cases hat : 0 ≤ findV cn kl kt
        · by_cases e1 : Lib.equalFold cn lenN = true
          · cases kl with
            | false => exact absurd hat (by rw [find_len cn _ _ e1]; decide)
            | true =>
              cases kt with
              | true =>
                have hv : findV cn true true = 0 := by rw [find_len cn _ _ e1]; rfl
                rw [hv]
                have hkn : kN true true = 2 := rfl
                rw [hkn] at hl2
                have fx : w4.cell? ⟨A, 1, none⟩ = some (lenF BL) := by rw [cell_at HT4.out.cells]; rfl
                have HN := Lib.hid (lenTell_any (Go.Proofs.YtmaihiklcdidbaaDoor.txt cv) BL (intO o) w4 HT4.out.long HF4.out)
                simp only [lenF] at fx
                gi_wp2_with fail
                refine ⟨trivial, (CallsIn.inRound l (callsIn_wide.2 HN.out)).mono ?_⟩
                rintro e w5 ⟨rfl, W5, hb5, hw5⟩
                have hnv : numP (Go.Proofs.YtmaihiklcdidbaaDoor.txt cv).data.toList = numP cv := rfl
                rw [hnv] at hw5 ⊢
                have HT5 : Hid (TSt w0 w5 BL A w.heap.size (w.heap.size + 1) true true (some ((numP cv).getD 0))) := Lib.hid (by rw [hw5]; exact (HT4.out.more hb5).tell hBL (by omega) (by omega) (by omega) _)
                have HK5 : Hid (KeepsOthers W w5) := Lib.hid (by rw [hw5]; exact (HK4.out.trans (keeps_below hb5)).trans (KeepsOthers.setCell _ _ _))
                have HQ5 : Hid (SqSt w5 (w.heap.size + 2) s') := Lib.hid (by rw [hw5]; exact (HQ4.out.more hb5).other (by omega) _)
                clear hw5 hb5 HT4 HQ4 HK4 hl2 r4 g4 fx HN HB4 HF4
                have k5 := cell_at HT5.out.known 0
                have r5 := cell_at HT5.out.res 0
                have gk5 := frozen_of_row w5 w.heap.size 0 _ _ HT5.out.known
                have gr5 := frozen_of_row w5 (w.heap.size + 1) 0 _ _ HT5.out.res
                rw [hkn] at k5
                have HD := Lib.hid (del20 A lenV (lenF BL) typV typF rfl rfl w5 HT5.out.cells)
                cases hnp : numP cv with
                | none =>
                  rw [hnp] at HT5
                  gi_wp2_with fail
                  exact leave_round HT5.out (by have := hb.size; omega) HK5.out (by obtain ⟨r, hr⟩ := hx; rw [hr, h1 (x :: r), tellP, hlp, if_pos e1]; simp only [hnp]; rfl)
                | some m =>
                  rw [hnp] at HT5
                  gi_wp2_with fail
                  refine ⟨trivial, (CallsIn.inRound l (callsIn_wide.2 HD.out)).mono ?_⟩
                  rintro e w6 ⟨rfl, hc6, hf6⟩
                  have k6 := cell_at (hf6.keep HT5.out.known (by omega)) 0
                  have gk6 := frozen_of_row w6 w.heap.size 0 _ _ (hf6.keep HT5.out.known (by omega))
                  have HT6 := Lib.hid (HT5.out.del (kl' := false) (kt' := true) (by omega) (by have := hb.size; omega) (by omega) (by omega) (by omega) (by omega) (by omega) hf6 hc6)
                  have HK6 := Lib.hid ((HK5.out.trans (keeps_fr hf6 HT5.out.cells)).trans (KeepsOthers.setCell w6 ⟨w.heap.size, 0, none⟩ (.slice (some ⟨A, 0, none⟩) (kN false true) 2)))
                  have HQ6 : Hid (SqSt (w6.setCell ⟨w.heap.size, 0, none⟩ (.slice (some ⟨A, 0, none⟩) (kN false true) 2)) (w.heap.size + 2) s') := Lib.hid (SqSt.other ⟨hf6.keep HQ5.out.txt (by omega), hf6.keep HQ5.out.sep (by omega), hf6.keep HQ5.out.save (by omega)⟩ (by omega) _)
                  clear hf6 hc6 HD k5 gk5 HT5
                  gi_wp2_with fail
                  exact ⟨HK6.out, HQ6.out, false, true, some m, fun r => by rw [List.append_assoc]; rw [show [x] ++ r = x :: r from rfl, h1 (x :: r), tellP, hlp, if_pos e1]; simp only [hnp]; rfl, HT6.out⟩
              | false =>
                have hv : findV cn true false = 0 := by rw [find_len cn _ _ e1]; rfl
                rw [hv]
                have hkn : kN true false = 1 := rfl
                rw [hkn] at hl2
                have fx : w4.cell? ⟨A, 1, none⟩ = some (lenF BL) := by rw [cell_at HT4.out.cells]; rfl
                have HN := Lib.hid (lenTell_any (Go.Proofs.YtmaihiklcdidbaaDoor.txt cv) BL (intO o) w4 HT4.out.long HF4.out)
                simp only [lenF] at fx
                gi_wp2_with fail
                refine ⟨trivial, (CallsIn.inRound l (callsIn_wide.2 HN.out)).mono ?_⟩
                rintro e w5 ⟨rfl, W5, hb5, hw5⟩
                have hnv : numP (Go.Proofs.YtmaihiklcdidbaaDoor.txt cv).data.toList = numP cv := rfl
                rw [hnv] at hw5 ⊢
                have HT5 : Hid (TSt w0 w5 BL A w.heap.size (w.heap.size + 1) true false (some ((numP cv).getD 0))) := Lib.hid (by rw [hw5]; exact (HT4.out.more hb5).tell hBL (by omega) (by omega) (by omega) _)
                have HK5 : Hid (KeepsOthers W w5) := Lib.hid (by rw [hw5]; exact (HK4.out.trans (keeps_below hb5)).trans (KeepsOthers.setCell _ _ _))
                have HQ5 : Hid (SqSt w5 (w.heap.size + 2) s') := Lib.hid (by rw [hw5]; exact (HQ4.out.more hb5).other (by omega) _)
                clear hw5 hb5 HT4 HQ4 HK4 hl2 r4 g4 fx HN HB4 HF4
                have k5 := cell_at HT5.out.known 0
                have r5 := cell_at HT5.out.res 0
                have gk5 := frozen_of_row w5 w.heap.size 0 _ _ HT5.out.known
                have gr5 := frozen_of_row w5 (w.heap.size + 1) 0 _ _ HT5.out.res
                rw [hkn] at k5
                have HD := Lib.hid (del10 A lenV (lenF BL) emp .nilFunc w5 HT5.out.cells)
                cases hnp : numP cv with
                | none =>
                  rw [hnp] at HT5
                  gi_wp2_with fail
                  exact leave_round HT5.out (by have := hb.size; omega) HK5.out (by obtain ⟨r, hr⟩ := hx; rw [hr, h1 (x :: r), tellP, hlp, if_pos e1]; simp only [hnp]; rfl)
                | some m =>
                  rw [hnp] at HT5
                  gi_wp2_with fail
                  refine ⟨trivial, (CallsIn.inRound l (callsIn_wide.2 HD.out)).mono ?_⟩
                  rintro e w6 ⟨rfl, hc6, hf6⟩
                  have k6 := cell_at (hf6.keep HT5.out.known (by omega)) 0
                  have gk6 := frozen_of_row w6 w.heap.size 0 _ _ (hf6.keep HT5.out.known (by omega))
                  have HT6 := Lib.hid (HT5.out.del (kl' := false) (kt' := false) (by omega) (by have := hb.size; omega) (by omega) (by omega) (by omega) (by omega) (by omega) hf6 hc6)
                  have HK6 := Lib.hid ((HK5.out.trans (keeps_fr hf6 HT5.out.cells)).trans (KeepsOthers.setCell w6 ⟨w.heap.size, 0, none⟩ (.slice (some ⟨A, 0, none⟩) (kN false false) 2)))
                  have HQ6 : Hid (SqSt (w6.setCell ⟨w.heap.size, 0, none⟩ (.slice (some ⟨A, 0, none⟩) (kN false false) 2)) (w.heap.size + 2) s') := Lib.hid (SqSt.other ⟨hf6.keep HQ5.out.txt (by omega), hf6.keep HQ5.out.sep (by omega), hf6.keep HQ5.out.save (by omega)⟩ (by omega) _)
                  clear hf6 hc6 HD k5 gk5 HT5
                  gi_wp2_with fail
                  exact ⟨HK6.out, HQ6.out, false, false, some m, fun r => by rw [List.append_assoc]; rw [show [x] ++ r = x :: r from rfl, h1 (x :: r), tellP, hlp, if_pos e1]; simp only [hnp]; rfl, HT6.out⟩
          · have e1f : Lib.equalFold cn lenN = false := by simpa using e1
            by_cases e2 : Lib.equalFold cn typN = true
            · cases kt with
              | false => exact absurd hat (by rw [find_typ cn _ _ e1f e2]; simp)
              | true =>
                cases kl with
                | true =>
                  have hv : findV cn true true = 1 := by rw [find_typ cn _ _ e1f e2]; rfl
                  rw [hv]
                  have hkn : kN true true = 2 := rfl
                  rw [hkn] at hl2
                  have fx : w4.cell? ⟨A, 3, none⟩ = some typF := by rw [cell_at HT4.out.cells]; rfl
                  have HN := Lib.hid (isPrintable_any (Go.Proofs.YtmaihiklcdidbaaDoor.txt cv) (by show cv.toArray.size ≤ _; simp; omega) w4)
                  simp only [typF] at fx
                  gi_wp2_with fail
                  refine ⟨trivial, (CallsIn.inRound l (callsIn_wide.2 HN.out)).mono ?_⟩
                  rintro e w5 ⟨rfl, hb5⟩
                  have hnv : (Go.Proofs.YtmaihiklcdidbaaDoor.txt cv).data.toList.all isPr = cv.all isPr := rfl
                  rw [hnv]
                  have HT5 := Lib.hid (HT4.out.more hb5)
                  have HK5 := Lib.hid (HK4.out.trans (keeps_below hb5))
                  have HQ5 := Lib.hid (HQ4.out.more hb5)
                  clear hb5 HT4 HQ4 HK4 hl2 r4 g4 fx HN HB4 HF4
                  have k5 := cell_at HT5.out.known 0
                  have r5 := cell_at HT5.out.res 0
                  have gk5 := frozen_of_row w5 w.heap.size 0 _ _ HT5.out.known
                  have gr5 := frozen_of_row w5 (w.heap.size + 1) 0 _ _ HT5.out.res
                  rw [hkn] at k5
                  have HD := Lib.hid (del21 A lenV (lenF BL) typV typF w5 HT5.out.cells)
                  cases hpr : cv.all isPr with
                  | false =>
                    gi_wp2_with fail
                    exact leave_round HT5.out (by have := hb.size; omega) HK5.out (by obtain ⟨r, hr⟩ := hx; rw [hr, h1 (x :: r), tellP, hlp, if_neg e1, if_pos e2]; simp only [hpr]; rfl)
                  | true =>
                    gi_wp2_with fail
                    refine ⟨trivial, (CallsIn.inRound l (callsIn_wide.2 HD.out)).mono ?_⟩
                    rintro e w6 ⟨rfl, hc6, hf6⟩
                    have k6 := cell_at (hf6.keep HT5.out.known (by omega)) 0
                    have gk6 := frozen_of_row w6 w.heap.size 0 _ _ (hf6.keep HT5.out.known (by omega))
                    have HT6 := Lib.hid (HT5.out.del (kl' := true) (kt' := false) (by omega) (by have := hb.size; omega) (by omega) (by omega) (by omega) (by omega) (by omega) hf6 hc6)
                    have HK6 := Lib.hid ((HK5.out.trans (keeps_fr hf6 HT5.out.cells)).trans (KeepsOthers.setCell w6 ⟨w.heap.size, 0, none⟩ (.slice (some ⟨A, 0, none⟩) (kN true false) 2)))
                    have HQ6 : Hid (SqSt (w6.setCell ⟨w.heap.size, 0, none⟩ (.slice (some ⟨A, 0, none⟩) (kN true false) 2)) (w.heap.size + 2) s') := Lib.hid (SqSt.other ⟨hf6.keep HQ5.out.txt (by omega), hf6.keep HQ5.out.sep (by omega), hf6.keep HQ5.out.save (by omega)⟩ (by omega) _)
                    clear hf6 hc6 HD k5 gk5 HT5
                    gi_wp2_with fail
                    exact ⟨HK6.out, HQ6.out, true, false, o, fun r => by rw [List.append_assoc]; rw [show [x] ++ r = x :: r from rfl, h1 (x :: r), tellP, hlp, if_neg e1, if_pos e2]; simp only [hpr]; rfl, HT6.out⟩
                | false =>
                  have hv : findV cn false true = 0 := by rw [find_typ cn _ _ e1f e2]; rfl
                  rw [hv]
                  have hkn : kN false true = 1 := rfl
                  rw [hkn] at hl2
                  have fx : w4.cell? ⟨A, 1, none⟩ = some typF := by rw [cell_at HT4.out.cells]; rfl
                  have HN := Lib.hid (isPrintable_any (Go.Proofs.YtmaihiklcdidbaaDoor.txt cv) (by show cv.toArray.size ≤ _; simp; omega) w4)
                  simp only [typF] at fx
                  gi_wp2_with fail
                  refine ⟨trivial, (CallsIn.inRound l (callsIn_wide.2 HN.out)).mono ?_⟩
                  rintro e w5 ⟨rfl, hb5⟩
                  have hnv : (Go.Proofs.YtmaihiklcdidbaaDoor.txt cv).data.toList.all isPr = cv.all isPr := rfl
                  rw [hnv]
                  have HT5 := Lib.hid (HT4.out.more hb5)
                  have HK5 := Lib.hid (HK4.out.trans (keeps_below hb5))
                  have HQ5 := Lib.hid (HQ4.out.more hb5)
                  clear hb5 HT4 HQ4 HK4 hl2 r4 g4 fx HN HB4 HF4
                  have k5 := cell_at HT5.out.known 0
                  have r5 := cell_at HT5.out.res 0
                  have gk5 := frozen_of_row w5 w.heap.size 0 _ _ HT5.out.known
                  have gr5 := frozen_of_row w5 (w.heap.size + 1) 0 _ _ HT5.out.res
                  rw [hkn] at k5
                  have HD := Lib.hid (del10 A typV typF emp .nilFunc w5 HT5.out.cells)
                  cases hpr : cv.all isPr with
                  | false =>
                    gi_wp2_with fail
                    exact leave_round HT5.out (by have := hb.size; omega) HK5.out (by obtain ⟨r, hr⟩ := hx; rw [hr, h1 (x :: r), tellP, hlp, if_neg e1, if_pos e2]; simp only [hpr]; rfl)
                  | true =>
                    gi_wp2_with fail
                    refine ⟨trivial, (CallsIn.inRound l (callsIn_wide.2 HD.out)).mono ?_⟩
                    rintro e w6 ⟨rfl, hc6, hf6⟩
                    have k6 := cell_at (hf6.keep HT5.out.known (by omega)) 0
                    have gk6 := frozen_of_row w6 w.heap.size 0 _ _ (hf6.keep HT5.out.known (by omega))
                    have HT6 := Lib.hid (HT5.out.del (kl' := false) (kt' := false) (by omega) (by have := hb.size; omega) (by omega) (by omega) (by omega) (by omega) (by omega) hf6 hc6)
                    have HK6 := Lib.hid ((HK5.out.trans (keeps_fr hf6 HT5.out.cells)).trans (KeepsOthers.setCell w6 ⟨w.heap.size, 0, none⟩ (.slice (some ⟨A, 0, none⟩) (kN false false) 2)))
                    have HQ6 : Hid (SqSt (w6.setCell ⟨w.heap.size, 0, none⟩ (.slice (some ⟨A, 0, none⟩) (kN false false) 2)) (w.heap.size + 2) s') := Lib.hid (SqSt.other ⟨hf6.keep HQ5.out.txt (by omega), hf6.keep HQ5.out.sep (by omega), hf6.keep HQ5.out.save (by omega)⟩ (by omega) _)
                    clear hf6 hc6 HD k5 gk5 HT5
                    gi_wp2_with fail
                    exact ⟨HK6.out, HQ6.out, false, false, o, fun r => by rw [List.append_assoc]; rw [show [x] ++ r = x :: r from rfl, h1 (x :: r), tellP, hlp, if_neg e1, if_pos e2]; simp only [hpr]; rfl, HT6.out⟩
            · exact absurd hat (by rw [find_no cn _ _ e1f (by simpa using e2)]; decide)
        · have hneg : findV cn kl kt < 0 := by omega
          generalize findV cn kl kt = at_ at *
          gi_wp2_with fail
          refine ⟨fun _ h => (by cases h), ?_⟩
          gi_wp2_with fail
          exact leave_round HT4.out (by have := hb.size; omega) HK4.out (hnone hat)
end Go.Proofs.YtmaihiklcdidbaaDoor
