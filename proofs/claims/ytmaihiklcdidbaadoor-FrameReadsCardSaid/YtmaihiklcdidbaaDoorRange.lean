/-
  strings.SplitSeq's iterator AT EVERY TEXT, between two CR LF, FOR EVERY LOOP BODY that leaves the iterator's own memory; and the loop over it. Conditions: the text's length; what the variables that are read hold (Facts).
-/
import Derived.RangeFuncNested
import Derived.RangeFuncBound
import Derived.RangeFuncCalls
import Derived.RangeFuncLeaves
import Derived.Shelf.Abstract
import Derived.Shelf.RegionOpen
import Derived.WalkKit
import Derived.OwnWalkIn
import Derived.TacticsInMore
import Derived.LoopNIn
import Derived.LoopIn
import Derived.Test.YtmaihiklcdidbaaDoorLine
namespace Go.Proofs.YtmaihiklcdidbaaDoor
open Go.RowKit Go.Shelf

/-- The iterator's own memory: the text that is left, CR LF, nought. -/
structure SqSt (W : World) (n : Nat) (s : ByteArray) : Prop where
  txt : W.heap[n]? = some (.cells #[.string s] 9 (0, 0))
  sep : W.heap[n + 1]? = some (.cells #[.string ⟨#[13, 10]⟩] 9 (0, 0))
  save : W.heap[n + 2]? = some (.cells #[.int .i64 0] 3 (0, 0))
def leftOf (n : Nat) (W : World) : Nat := match W.cell? ⟨n, 0, none⟩ with
  | some (.string s) => s.size
  | _ => 0
theorem leftOf_eq {W : World} {n : Nat} {s : ByteArray} (h : SqSt W n s) : leftOf n W = s.size := by
  unfold leftOf
  rw [cell_at h.txt]
  rfl
theorem SqSt.set {W : World} {n : Nat} {s : ByteArray} (h : SqSt W n s) (s' : ByteArray) : SqSt (W.setCell ⟨n, 0, none⟩ (.string s')) n s' :=
  ⟨heap_setCell_same W n 0 _ _ _ h.txt, (heap_setCell_other W ⟨n, 0, none⟩ (n + 1) _ (show n + 1 ≠ n by omega)).trans h.sep, (heap_setCell_other W ⟨n, 0, none⟩ (n + 2) _ (show n + 2 ≠ n by omega)).trans h.save⟩
theorem SqSt.grown {W W' : World} {row : Option Nat} {n : Nat} {s : ByteArray} (h : SqSt W n s) (hg : W.grownBy W' row) (hr : ∀ r, row = some r → ∃ o : Obj, W.heap[r]? = some o ∧ o.isCells = false) : SqSt W' n s := by
  have key : ∀ (k : Nat) (o : Obj), W.heap[k]? = some o → o.isCells = true → W'.heap[k]? = some o := by
    intro k o hk ho
    refine (hg.block k (heap_lt hk) ?_).trans hk
    intro e
    obtain ⟨o', h1, h2⟩ := hr k e.symm
    rw [hk] at h1
    injection h1 with h1
    subst h1
    rw [ho] at h2
    cases h2
  exact ⟨key _ _ h.txt rfl, key _ _ h.sep rfl, key _ _ h.save rfl⟩
theorem SqSt.putObj {W : World} {n : Nat} {s : ByteArray} (h : SqSt W n s) {l : Nat} {o : Obj} (o' : Obj) (hl : W.heap[l]? = some o) (ho : o.isCells = false) : SqSt (W.putObj l o') n s :=
  h.grown (grownBy_putObj' W l o') (fun r e => by cases e; exact ⟨o, hl, ho⟩)
theorem SqSt.alloc {W : World} {n : Nat} {s : ByteArray} (h : SqSt W n s) (o : Obj) : SqSt (W.alloc o) n s :=
  h.grown (World.grownBy_alloc W o none) (fun r e => by cases e)
set_option maxHeartbeats 4000000 in
set_option maxRecDepth 100000 in
theorem split_in (n : Nat) (l N : Nat) (ls : List (List UInt8)) (J : List (List UInt8) → World → Prop) (Jx : World → Prop)
    (hJs : ∀ pre W v, J pre W → J pre (W.setCell ⟨N, 0, none⟩ v))
    (hJm : ∀ pre W, J pre W → ∃ m : Int, W.cell? ⟨0, 0, none⟩ = some (.int .i64 m))
    (hY : ∀ pre x s W, (∃ r, ls = pre ++ x :: r) → J pre W → SqSt W N s → YieldAt Fence.wide (n - 1) Tryd.prog l #[.string (Go.Proofs.YtmaihiklcdidbaaDoor.txt x)] W fun e W' =>
      (e = .returned (.bool true) ∧ J (pre ++ [x]) W' ∧ SqSt W' N s) ∨ (e = .returned (.bool false) ∧ Jx W'))
    (s : ByteArray) (hs : s.size < 4294967281) (hl : splitP s.data.toList = ls) (W : World) (hS : SqSt W N s) (h0 : J [] W) :
    CallsIn Fence.wide n Tryd.prog 84 #[.func (.yield l) #[] #[], .pointer (some ⟨N + 1, 0, none⟩), .pointer (some ⟨N, 0, none⟩), .pointer (some ⟨N + 2, 0, none⟩)] W fun e W' => (∃ v, e = .returned v) ∧ (J ls W' ∨ Jx W') := by
  have a1 := cell_at hS.sep 0
  refine callsIn_of_wp Tryd.func84 rfl trivial ?_ rfl
  simp only [Tryd.ntmps84, List.size_toArray, List.length_cons, List.length_nil, Nat.reduceAdd, Nat.reduceSub, Array.replicate_succ, Array.replicate_zero, List.push_toArray, List.append_toArray, List.nil_append, List.cons_append]
  gi_wp2_with fail
  gi_loopw [] (fun wr => ∃ (pre : List (List UInt8)) (s' : ByteArray), s'.size ≤ s.size ∧ Hid (ls = pre ++ splitP s'.data.toList) ∧ Hid (SqSt wr N s') ∧ Hid (J pre wr)) (fun wr => leftOf N wr)
  case atStart => exact ⟨[], s, Nat.le_refl _, Lib.hid hl.symm, Lib.hid hS, Lib.hid h0⟩
  case round =>
    obtain ⟨pre, s', hs', hl', hS', hJ'⟩ := hrel
    obtain ⟨m, hm⟩ := hJm pre wr hJ'.out
    have HI : Hid (Calls Tryd.prog 85 #[.string s', .string ⟨#[13, 10]⟩] wr fun e w' => e = .returned (.int .i64 (Lib.index s'.data.toList crlf)) ∧ w' = wr) := Lib.hid (Tryd.strings_Index s' ⟨#[13, 10]⟩ m wr (by omega) hm)
    have hleft := leftOf_eq hS'.out
    have b0 := cell_at hS'.out.txt 0
    have b1 := cell_at hS'.out.sep 0
    have b2 := cell_at hS'.out.save 0
    have bf := frozen_of_row wr N 0 _ _ hS'.out.txt
    clear hm
    by_cases hi : 0 ≤ Lib.index s'.data.toList crlf
    · have hlen := index_len hi
      have hsp := splitP_hit hi
      obtain ⟨k, hk⟩ : ∃ k : Nat, Lib.index s'.data.toList crlf = k := ⟨(Lib.index s'.data.toList crlf).toNat, by omega⟩
      rw [hk] at HI hlen hsp
      have hlen : k + 2 ≤ s'.size := hlen
      have hfr : Go.Proofs.YtmaihiklcdidbaaDoor.txt (s'.data.toList.take k) = s'.extract 0 k := by
        apply ByteArray.ext
        apply Array.ext'
        rw [ext_list]
        show ((s'.data.toList.take k).toArray).toList = _
        simp
      obtain ⟨fn, tmps, assign, body, hy, hR⟩ := hY pre (s'.data.toList.take k) s' wr ⟨_, hl'.out.trans (by rw [hsp]; rfl)⟩ hJ'.out hS'.out
      rw [hfr] at hy
      have HL : Hid (ls = (pre ++ [s'.data.toList.take k]) ++ splitP (s'.data.toList.drop (k + 2))) := Lib.hid (by rw [hl'.out, hsp]; simp)
      have HR := Lib.hid hR
      clear hi hk hsp hl' hR hS' hJ'
      gi_wp2_with fail
      refine ⟨trivial, (fun h => by cases h), (callsIn_wide.2 HI.out).mono ?_⟩
      rintro e w' ⟨rfl, rfl⟩
      gi_wp2_with fail
      refine ⟨(fun h => by cases h), HR.out.mono ?_⟩
      rintro e W2 (⟨rfl, hJ2, hS2⟩ | ⟨rfl, hJx⟩)
      · have c0 := cell_at hS2.txt 0
        have c1 := cell_at hS2.sep 0
        have cf := frozen_of_row W2 N 0 _ _ hS2.txt
        have HJ2 := Lib.hid (hJs _ _ (.string (s'.extract (k + 2) s'.size)) hJ2)
        have HS2 := Lib.hid (hS2.set (s'.extract (k + 2) s'.size))
        have hd : (s'.extract (k + 2) s'.size).data.toList = s'.data.toList.drop (k + 2) := by
          rw [ext_list, List.take_of_length_le]
          rw [List.length_drop, ← Lib.size_eq]
          exact Nat.le_refl _
        have hz : (s'.extract (k + 2) s'.size).size + (k + 2) = s'.size := by
          rw [ByteArray.size_extract]
          omega
        clear hJ2 hS2 HI HR
        gi_wp2_with fail
        refine ⟨⟨pre ++ [s'.data.toList.take k], s'.extract (k + 2) s'.size, by omega, by rw [hd]; exact HL, HS2, HJ2⟩, ?_⟩
        rw [leftOf_eq HS2.out, hleft]
        omega
      · gi_wp2_with fail
        refine bodyPost_ret (results_none rfl _ _ _) rfl ?_
        exact ⟨⟨_, rfl⟩, .inr hJx⟩
    · have hi1 : Lib.index s'.data.toList crlf = -1 := by
        rcases Lib.index_spec s'.data.toList crlf with ⟨h1, _⟩ | ⟨i, h1, _⟩
        · exact h1
        · exact absurd (by rw [h1]; omega) hi
      have hsp := splitP_miss hi
      rw [hi1] at HI
      have hfr : Go.Proofs.YtmaihiklcdidbaaDoor.txt s'.data.toList = s' := rfl
      obtain ⟨fn, tmps, assign, body, hy, hR⟩ := hY pre s'.data.toList s' wr ⟨[], hl'.out.trans (by rw [hsp])⟩ hJ'.out hS'.out
      rw [hfr] at hy
      have HL : Hid (ls = pre ++ [s'.data.toList]) := Lib.hid (by rw [hl'.out, hsp])
      have HR := Lib.hid hR
      clear hi hi1 hsp hl' hR hS' hJ' hleft
      gi_wp2_with fail
      refine ⟨trivial, (fun h => by cases h), (callsIn_wide.2 HI.out).mono ?_⟩
      rintro e w' ⟨rfl, rfl⟩
      gi_wp2_with fail
      refine ⟨(fun h => by cases h), HR.out.mono ?_⟩
      rintro e W2 (⟨rfl, hJ2, hS2⟩ | ⟨rfl, hJx⟩)
      · gi_wp2_with fail
        go_end0
        exact ⟨⟨_, rfl⟩, .inl (by rw [HL.out]; exact hJ2)⟩
      · gi_wp2_with fail
        go_end0
        exact ⟨⟨_, rfl⟩, .inr hJx⟩
/-- How the body of a round over a text's lines may be left. -/
def textsPost (N : Nat) (s : ByteArray) (I : List (List UInt8) → World → Prop) (Ix : World → Prop) (xs : List (List UInt8)) (W : World) : Exit → Act → World → Prop
  | .normal, _, W' => KeepsOthers W W' ∧ SqSt W' N s ∧ I xs W'
  | .ret, _, W' => KeepsOthers W W' ∧ Ix W'
  | _, _, _ => False
/-- 'for x := range strings.SplitSeq(s, CR LF) { .. }': what the function owes is an invariant on its own cells, and one walk of its body. -/
theorem wpIn_rangeTexts {g : Operand} {ps : Array Tmp} {assign body : Code} {Q : Exit → Act → World → Prop} {a : Act} {w : World} {n : Nat} (N : Nat) (s : ByteArray)
    (hg : a.eval g = .func (.func 84) #[] #[.pointer (some ⟨N + 1, 0, none⟩), .pointer (some ⟨N, 0, none⟩), .pointer (some ⟨N + 2, 0, none⟩)]) (hs : s.size < 4294967281) (hS : SqSt w N s) (hps : ps.size = 1)
    (I : List (List UInt8) → World → Prop) (Ix : World → Prop) (hI : OwnFrom w.heap.size I) (hIx : OwnFrom w.heap.size (fun (_ : Unit) W => Ix W))
    (hIs : ∀ pre W v, I pre W → I pre (W.setCell ⟨N, 0, none⟩ v)) (hIm : ∀ pre W, I pre W → ∃ m : Int, W.cell? ⟨0, 0, none⟩ = some (.int .i64 m)) (h0 : I [] w) (a₁ : List UInt8 → Act)
    (hassign : ∀ (l : Nat) (x : List UInt8) (W : World) (K : Act → World → Prop), K (a₁ x) W →
      assign.wpIn (Fence.wide.inRound l) (n - 1 - 1) Tryd.prog (Exit.then K (fun _ _ _ => False)) { tmps := (ps.zip #[.string (Go.Proofs.YtmaihiklcdidbaaDoor.txt x)]).foldl (fun t (p, v) => t.setIfInBounds p v) a.tmps, defers := [] } W)
    (hbody : ∀ (l : Nat) (pre : List (List UInt8)) (x : List UInt8) (s' : ByteArray) (W : World), (∃ r, splitP s.data.toList = pre ++ x :: r) → I pre W → SqSt W N s' → body.wpIn (Fence.wide.inRound l) (n - 1 - 1) Tryd.prog (textsPost N s' I Ix (pre ++ [x]) W) (a₁ x) W)
    (hdone : ∀ (D : Nat) (W : World), w.heap.size ≤ D → I (splitP s.data.toList) W → W.heap[D]? = some (.deferred (some [])) → Q .normal { a with defers := { target := .collected D, args := #[] } :: a.defers } W)
    (hstop : ∀ (D : Nat) (W : World), w.heap.size ≤ D → Ix W → W.heap[D]? = some (.deferred (some [])) → Code.ret.wpIn Fence.wide n Tryd.prog Q { a with defers := { target := .collected D, args := #[] } :: a.defers } W) :
    (Code.rangeFunc g ps assign body).wpIn Fence.wide n Tryd.prog Q a w := by
  refine wpIn_rangeFunc ?_
  intro fn hfn
  obtain ⟨rec, hrec⟩ : ∃ rec : LoopState → Option Code → Loop, rec = fun st pe => { state := st, pending := pe, fn, tmps := a.tmps, params := ps, assign, body, defers := w.heap.size } := ⟨_, rfl⟩
  obtain ⟨W1, hW1⟩ : ∃ W1, (w.alloc (.deferred (some []))).alloc (.loop (rec .ready none)) = W1 := ⟨_, rfl⟩
  have hL1 : W1.heap[w.heap.size + 1]? = some (.loop (rec .ready none)) := by
    rw [← hW1]; have := World.alloc_heap_new (w.alloc (.deferred (some []))) (.loop (rec .ready none)); rwa [World.size_alloc] at this
  have hK1 : W1.heap[w.heap.size]? = some (.deferred (some [])) := by
    rw [← hW1]; exact (Below.heap_alloc _ _ _ (by simp)).trans (World.alloc_heap_new w _)
  have hI1 : I [] W1 := by rw [← hW1]; exact hI.alloc _ (hI.alloc _ h0)
  have hS1 : SqSt W1 N s := by rw [← hW1]; exact (hS.alloc _).alloc _
  have eg : ∀ args w, (callFunc 84 args).run Tryd.prog w = .ok (.enter 84 args) w := enters_of Tryd.func84 (by kernel_rfl) rfl
  refine ⟨w.heap.size + 1, [{ target := .collected w.heap.size, args := #[] }], W1, { target := .fn (.func 84) #[.pointer (some ⟨N + 1, 0, none⟩), .pointer (some ⟨N, 0, none⟩), .pointer (some ⟨N + 2, 0, none⟩)], args := #[.func (.yield (w.heap.size + 1)) #[] #[]] }, W1, 84,
    #[.func (.yield (w.heap.size + 1)) #[] #[]] ++ #[.pointer (some ⟨N + 1, 0, none⟩), .pointer (some ⟨N, 0, none⟩), .pointer (some ⟨N + 2, 0, none⟩)], W1, ?_, ?_, ?_, ?_, (fun h => by cases h), ?_⟩
  · rw [← hW1, hrec]; exact run_enterLoop_outer _ _ _ _ _
  · simp only [resolve, hg]
    simp [go_sem]
  · intro f' hf'; trivial
  · simp [invoke, go_sem, eg]
  · refine (split_in (n - 1) (w.heap.size + 1) N (splitP s.data.toList)
      (fun pre W => I pre W ∧ W.heap[w.heap.size + 1]? = some (.loop (rec .ready none)) ∧ W.heap[w.heap.size]? = some (.deferred (some [])))
      (fun W => Ix W ∧ W.heap[w.heap.size + 1]? = some (.loop (rec .done (some .ret))) ∧ W.heap[w.heap.size]? = some (.deferred (some [])))
      (fun pre W v h => ⟨hIs pre W v h.1, (KeepsOthers.setCell W _ v).same _ _ h.2.1 rfl, (KeepsOthers.setCell W _ v).same _ _ h.2.2 rfl⟩)
      (fun pre W h => hIm pre W h.1)
      ?_ s hs rfl W1 hS1 ⟨hI1, hL1, hK1⟩).mono ?_
    · -- ONE ROUND
      rintro pre x s' W hx ⟨hi, hl, hk⟩ hSq
      have hlt : w.heap.size + 1 < W.heap.size := (Array.getElem?_eq_some_iff.1 hl).1
      have hy := run_yield (P := Tryd.prog) (args := #[.string (Go.Proofs.YtmaihiklcdidbaaDoor.txt x)]) hl (by rw [hrec]; exact hps.symm)
      rw [hrec] at hy
      refine ⟨fn, _, assign, body, hy, roundIn_of_wpIn hfn (hassign _ x W _ ⟨_, run_beginRound hl (by rw [hrec]), ?_⟩)⟩
      have hl2 : (W.putObj (w.heap.size + 1) (.loop { rec .ready none with state := .busy })).heap[w.heap.size + 1]? = some (.loop { rec .ready none with state := .busy }) := World.putObj_heap_same hlt
      have hk2 : (W.putObj (w.heap.size + 1) (.loop { rec .ready none with state := .busy })).heap[w.heap.size]? = some (.deferred (some [])) := (World.putObj_heap_other (by omega)).trans hk
      refine wpIn_mono (hbody _ pre x s' _ hx (hI.putObj _ hi (Nat.le_succ _) hl rfl) (hSq.putObj _ hl rfl)) ?_
      have fin : ∀ (jump : Option Code) (W3 : World), KeepsOthers (W.putObj (w.heap.size + 1) (.loop { rec .ready none with state := .busy })) W3 →
          (Instr.endRound (w.heap.size + 1) jump).run Tryd.prog W3 = .ok (.bool jump.isNone) (W3.putObj (w.heap.size + 1) (.loop (rec (if jump.isNone then .ready else .done) jump))) ∧
          W3.heap[w.heap.size + 1]? = some (.loop { rec .ready none with state := .busy }) ∧
          (W3.putObj (w.heap.size + 1) (.loop (rec (if jump.isNone then .ready else .done) jump))).heap[w.heap.size + 1]? = some (.loop (rec (if jump.isNone then .ready else .done) jump)) ∧
          (W3.putObj (w.heap.size + 1) (.loop (rec (if jump.isNone then .ready else .done) jump))).heap[w.heap.size]? = some (.deferred (some [])) := fun jump W3 hk3 => by
        have hl3 := hk3.same _ _ hl2 rfl
        have := run_endRound (P := Tryd.prog) jump hl3
        rw [hrec] at this ⊢
        exact ⟨this, by rw [hrec] at hl3; exact hl3, World.putObj_heap_same (Array.getElem?_eq_some_iff.1 hl3).1, (World.putObj_heap_other (by omega)).trans (hk3.same _ _ hk2 rfl)⟩
      rintro e a3 W3 hp
      cases e with
      | normal =>
        obtain ⟨hk3, hs3, hi3⟩ := hp
        obtain ⟨hr, hl3, hl4, hk4⟩ := fin none W3 hk3
        exact ⟨_, _, hr, .inl ⟨rfl, ⟨hI.putObj _ hi3 (Nat.le_succ _) hl3 rfl, hl4, hk4⟩, hs3.putObj _ hl3 rfl⟩⟩
      | ret =>
        obtain ⟨hk3, hi3⟩ := hp
        obtain ⟨hr, hl3, hl4, hk4⟩ := fin (some .ret) W3 hk3
        exact ⟨_, _, hr, .inr ⟨rfl, OwnFrom.putObj (s := ()) hIx _ hi3 (Nat.le_succ _) hl3 rfl, hl4, hk4⟩⟩
      | exit id => exact hp.elim
      | goto t => exact hp.elim
      | panic ch => exact hp.elim
      | outgrown => exact hp.elim
    · rintro e W2 ⟨⟨v, rfl⟩, (⟨hi, hl, hk⟩ | ⟨hi, hl, hk⟩)⟩
      · exact ⟨none, _, by have := run_endLoop (P := Tryd.prog) hl (by rw [hrec]; simp); rw [hrec] at this; exact this, hdone _ _ (Nat.le_refl _) (hI.putObj _ hi (Nat.le_succ _) hl rfl) ((World.putObj_heap_other (by omega)).trans hk)⟩
      · exact ⟨some .ret, _, by have := run_endLoop (P := Tryd.prog) hl (by rw [hrec]; simp); rw [hrec] at this; exact this, hstop _ _ (Nat.le_refl _) (OwnFrom.putObj (s := ()) hIx _ hi (Nat.le_succ _) hl rfl) ((World.putObj_heap_other (by omega)).trans hk)⟩
end Go.Proofs.YtmaihiklcdidbaaDoor
