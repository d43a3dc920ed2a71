/-
  lines' Full AT EVERY TEXT of at most 1000000 bytes: from 0 to At of the text's length; no memory that was there turns. Condition: the text's length.
-/
import Derived.Test.YtnmbclkpncjebaaAt
namespace Go.Proofs.Ytnmbclkpncjebaa
open Go.RowKit Go.Shelf

theorem setCell4_heap {W : World} {R : Nat} {a b c d x y z u : Value} {t : TypeId} (h : W.heap[R]? = some (.cells #[a, b, c, d] t (0, 0))) : ((((W.setCell ⟨R, 0, none⟩ x).setCell ⟨R, 1, none⟩ y).setCell ⟨R, 2, none⟩ z).setCell ⟨R, 3, none⟩ u).heap[R]? = some (.cells #[x, y, z, u] t (0, 0)) := by
  have h1 := heap_setCell_same W R 0 _ _ x h
  have h2 := heap_setCell_same _ R 1 _ _ y h1
  have h3 := heap_setCell_same _ R 2 _ _ z h2
  exact heap_setCell_same _ R 3 _ _ u h3
set_option maxRecDepth 100000 in
set_option maxHeartbeats 4000000 in
theorem full_any (s : ByteArray) (hs : s.size ≤ 1000000) (w : World) : Calls Try.prog 19 #[.string s] w fun e w' =>
    e = .returned (.agg #[.int .i64 0, .int .i64 0, .int .i64 (lineN s.data.toList (clip s.data.toList (s.size : Int)) : Int), .int .i64 (charP s.data.toList (clip s.data.toList (s.size : Int)) : Int)]) ∧ Below w.heap.size w w' := by
  have HC := Lib.hid (fun w => at_any s hs (s.size : Int) w)
  generalize lineN s.data.toList (clip s.data.toList (s.size : Int)) = n at *
  generalize charP s.data.toList (clip s.data.toList (s.size : Int)) = q at *
  go_enter Try.func19, Try.ntmps19
  go_wp2_with fail
  refine (HC.out _).mono ?_
  rintro e w1 ⟨rfl, hb⟩
  have k := heap_keep hb (alloc_top w #[.int .i64 0, .int .i64 0, .int .i64 0, .int .i64 0] 41)
  have hq0 := cell_at (i := 0) k
  have hq1 := cell_at (i := 1) k
  have hq2 := cell_at (i := 2) k
  have hq3 := cell_at (i := 3) k
  have hf0 := frozen_of_row w1 w.heap.size 0 _ _ k
  have hf1 := frozen_of_row w1 w.heap.size 1 _ _ k
  have hf2 := frozen_of_row w1 w.heap.size 2 _ _ k
  have hf3 := frozen_of_row w1 w.heap.size 3 _ _ k
  have HB := Lib.hid hb
  have HK := Lib.hid k
  clear hb k
  go_wp2_with fail
  have hz := setCell4_heap (x := .int .i64 0) (y := .int .i64 0) (z := .int .i64 n) (u := .int .i64 q) HK.out
  have g0 := cell_at (i := 0) hz
  have g1 := cell_at (i := 1) hz
  have g2 := cell_at (i := 2) hz
  have g3 := cell_at (i := 3) hz
  have HB2 := (((((alloc_below w (.cells #[.int .i64 0, .int .i64 0, .int .i64 0, .int .i64 0] 41)).trans (HB.out.mono (alloc_below w _).size)).setCell (p := ⟨w.heap.size, 0, none⟩) (Nat.le_refl _) (.int .i64 0)).setCell (p := ⟨w.heap.size, 1, none⟩) (Nat.le_refl _) (.int .i64 0)).setCell (p := ⟨w.heap.size, 2, none⟩) (Nat.le_refl _) (.int .i64 n)).setCell (p := ⟨w.heap.size, 3, none⟩) (Nat.le_refl _) (.int .i64 q)
  refine bodyPost_ret (v := .agg #[.int .i64 0, .int .i64 0, .int .i64 n, .int .i64 q]) ?_ rfl ⟨rfl, HB2⟩
  simp [results, Try.f19, go_sem, g0, g1, g2, g3]
end Go.Proofs.Ytnmbclkpncjebaa
