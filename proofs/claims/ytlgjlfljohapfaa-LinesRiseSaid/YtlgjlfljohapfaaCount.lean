/-
  lines' Count, numbered and lineOf AT EVERY TEXT of at most 1000000 bytes: how many lines there are, the line of a number, the line of a place; no memory that was there turns. Condition: the text's length.
-/
import Derived.Test.YtlgjlfljohapfaaLoop
namespace Go.Proofs.Ytlgjlfljohapfaa
open Go.RowKit Go.Shelf
attribute [local go_sem] Oper.semAt_some

theorem spans_any (s : ByteArray) (w : World) : Calls Try.prog 69 #[.string s] w fun e w' =>
    e = .returned (.func (.func 76) #[] #[.pointer (some ⟨w.heap.size, 0, none⟩)]) ∧ w' = w.alloc (.cells #[.string s] 9) := by
  go_enter Try.func69, Try.ntmps69
  go_wp2_with fail
  go_ret
  exact ⟨rfl, rfl⟩
set_option maxHeartbeats 4000000 in
set_option maxRecDepth 100000 in
theorem count_any (s : ByteArray) (hs : s.size ≤ 1000000) (w : World) : Calls Try.prog 54 #[.string s] w fun e w' => e = .returned (.int .i64 ((rows s.data.toList 0).length : Int)) ∧ Below w.heap.size w w' := by
  have HS := Lib.hid (fun w => spans_any s w)
  have hle := linesOf_le s
  have HL := Lib.hid (linesOf_len s)
  refine (callsIn_wide (n := 9)).1 ?_
  refine callsIn_of_wp_marks Try.func54 rfl trivial ?_ rfl
  simp only [Try.ntmps54, List.size_toArray, List.length_cons, List.length_nil, Nat.reduceAdd, Nat.reduceSub, Array.replicate_succ, Array.replicate_zero, List.push_toArray, List.append_toArray, List.nil_append, List.cons_append]
  gi_wp2_with fail
  refine ⟨trivial, (callsIn_wide.2 (HS.out _)).mono ?_⟩
  rintro e w3 ⟨rfl, rfl⟩
  gi_wp2_with fail
  obtain ⟨W0, hW0⟩ : ∃ W0, ((w.alloc (.cells #[.int .i64 0] 3)).alloc (.cells #[.string s] 9)) = W0 := ⟨_, rfl⟩
  have b1 := alloc_below w (.cells #[.int .i64 0] 3)
  have b2 := alloc_below (w.alloc (.cells #[.int .i64 0] 3)) (.cells #[.string s] 9)
  have h1 := alloc_top w #[.int .i64 0] 3
  have h2 := alloc_top (w.alloc (.cells #[.int .i64 0] 3)) #[.string s] 9
  rw [World.size_alloc] at h2
  have h1 := heap_keep b2 h1
  have hB := b1.trans (b2.mono b1.size)
  have hz : ((w.alloc (.cells #[.int .i64 0] 3)).alloc (.cells #[.string s] 9)).heap.size = w.heap.size + 2 := by simp
  rw [hW0] at h1 h2 hB hz ⊢
  clear b1 b2 hW0
  refine wpIn_rangeFunc_ownF (Kp := KpN (w.heap.size + 1) s) rfl (by omega) (gf := 76) (lb := #[.pointer (some ⟨w.heap.size + 1, 0, none⟩)]) rfl trivial (enters_of Try.func76 (by kernel_rfl) rfl)
    (spans_seq _ s hs (w.heap.size + 1) W0 h2) (fun h k x => k (h x)) kpN_b (Below.refl _ _) (fun _ => rfl)
    (fun pre W => W.heap[w.heap.size]? = some (.cells #[.int .i64 (pre.length : Int)] 3 (0, 0)) ∧ Below w.heap.size w W)
    (fun _ _ _ => False) ?own ?ownx ?start ?act ?assign ?body ?done ?stop
  case assign =>
    intro l x W K hK
    unfold encR
    gi_wp2
    exact hK
  case own =>
    rintro pre W W' row ⟨hc, hb⟩ hg hr
    exact ⟨grown_cells hg (fun r e => (hr r e).2) _ _ hc rfl, hb.grown hg hb.size (fun k e => Nat.le_trans (by omega) (hr k e).1)⟩
  case ownx => exact fun _ _ _ _ _ h _ _ => h
  case start => exact ⟨h1, hB⟩
  case body =>
    rintro l pre x W ⟨hc, hb⟩ hp
    have c1 := cell_at (i := 0) hc
    have f1 := frozen_of_row W w.heap.size 0 _ _ hc
    gi_wp2_with fail
    refine ⟨KeepsOthers.setCell _ _ _, kpN_set (by omega) _, ?_, hb.setCell (p := ⟨w.heap.size, 0, none⟩) (Nat.le_refl _) _⟩
    rw [List.length_append]
    exact heap_setCell_same W w.heap.size 0 _ _ _ hc
  case done =>
    rintro D xs W hD rfl ⟨hc, hb⟩ hK
    have c1 := cell_at (i := 0) hc
    rw [HL.out] at c1
    gi_wp2
    refine ⟨by simp, .inl ⟨_, _, rfl, run_takeDeferred hK, ?_⟩⟩
    exact ⟨_, results_tmp rfl _ _ _, rfl, hb.grown (grownBy_putObj' _ D _) hb.size (fun k e => by cases e; omega)⟩
  case stop =>
    rintro D c pre W _ _ h _
    exact h.elim
end Go.Proofs.Ytlgjlfljohapfaa
