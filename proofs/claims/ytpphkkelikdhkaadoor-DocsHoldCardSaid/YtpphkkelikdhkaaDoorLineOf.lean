/-
  lines' lineOf AT EVERY TEXT of at most 1000000 bytes, every place from 0: the line of the place; no memory that was there turns. Condition: the text's length.
-/
import Derived.Test.YtpphkkelikdhkaaDoorNumbered
import Derived.BigRegionIn
import Derived.RegionIn
namespace Go.Proofs.YtpphkkelikdhkaaDoor
open Go.RowKit Go.Shelf
attribute [local go_sem] Oper.semAt_some

/-- What lies in memory while the line of a place is looked for: the place; the line's number; the line. -/
structure LSt (w W : World) (A : Nat) (p n a b : Int) : Prop where
  below : Below w.heap.size w W
  place : W.heap[A]? = some (.cells #[.int .i64 p] 3 (0, 0))
  num : W.heap[A + 1]? = some (.cells #[.int .i64 n] 3 (0, 0))
  row : W.heap[A + 1 + 1]? = some (.cells #[.int .i64 a, .int .i64 b] 125 (0, 0))
theorem LSt.own {w W W' : World} {A B : Nat} {p n a b : Int} {row : Option Nat} (h : LSt w W A p n a b) (hA : w.heap.size ≤ B) (hg : W.grownBy W' row) (hr : ∀ r, row = some r → B ≤ r ∧ ∃ o : Obj, W.heap[r]? = some o ∧ o.isCells = false) : LSt w W' A p n a b :=
  ⟨h.below.grown hg h.below.size (fun k e => Nat.le_trans hA (hr k e).1), grown_cells hg (fun r e => (hr r e).2) _ _ h.place rfl, grown_cells hg (fun r e => (hr r e).2) _ _ h.num rfl, grown_cells hg (fun r e => (hr r e).2) _ _ h.row rfl⟩
theorem LSt.set {w W : World} {A : Nat} {p n a b : Int} (h : LSt w W A p n a b) (hA : w.heap.size ≤ A) (m x y : Int) : LSt w (((W.setCell ⟨A + 1, 0, none⟩ (.int .i64 m)).setCell ⟨A + 1 + 1, 0, none⟩ (.int .i64 x)).setCell ⟨A + 1 + 1, 1, none⟩ (.int .i64 y)) A p m x y := by
  refine ⟨((h.below.setCell (p := ⟨A + 1, 0, none⟩) (Nat.le_succ_of_le hA) _).setCell (p := ⟨A + 1 + 1, 0, none⟩) (show w.heap.size ≤ A + 1 + 1 by omega) _).setCell (p := ⟨A + 1 + 1, 1, none⟩) (show w.heap.size ≤ A + 1 + 1 by omega) _, ?_, ?_, ?_⟩
  · rw [heap_setCell_other _ ⟨A + 1 + 1, 1, none⟩ A _ (show A ≠ A + 1 + 1 by omega), heap_setCell_other _ ⟨A + 1 + 1, 0, none⟩ A _ (show A ≠ A + 1 + 1 by omega), heap_setCell_other _ ⟨A + 1, 0, none⟩ A _ (show A ≠ A + 1 by omega)]
    exact h.place
  · rw [heap_setCell_other _ ⟨A + 1 + 1, 1, none⟩ (A + 1) _ (show A + 1 ≠ A + 1 + 1 by omega), heap_setCell_other _ ⟨A + 1 + 1, 0, none⟩ (A + 1) _ (show A + 1 ≠ A + 1 + 1 by omega)]
    exact heap_setCell_same _ (A + 1) 0 #[.int .i64 n] _ _ h.num
  · refine setCell2_heap (a := .int .i64 a) (b := .int .i64 b) ?_
    rw [heap_setCell_other _ ⟨A + 1, 0, none⟩ (A + 1 + 1) _ (show A + 1 + 1 ≠ A + 1 by omega)]
    exact h.row
theorem LSt.drew {w W : World} {A : Nat} {p n a b : Int} (h : LSt w W A p n a b) : LSt w W.drew A p n a b := ⟨h.below.drew, h.place, h.num, h.row⟩
theorem keeps_drew (W : World) : KeepsOthers W W.drew := ⟨Nat.le_refl _, fun _ _ h _ => h⟩
/-- The last of some lines. -/
def lastV (pre : List LRow) : LRow := pre.getLast?.getD (0, 0, 0)
theorem lastV_snoc (pre : List LRow) (x : LRow) : lastV (pre ++ [x]) = x := by simp [lastV]
theorem last_line {s : ByteArray} {p : Nat} {pre r : List LRow} (h : linesOf s = pre ++ r) (hp : pre ≠ []) (h1 : ∀ y ∈ pre, y.2.1 ≤ p) (h2 : ∀ x, r.head? = some x → p < x.2.1) : lastV pre = (lineN s.data.toList p, rowN s.data.toList (lineN s.data.toList p)) := by
  obtain ⟨ini, z, rfl⟩ : ∃ ini z, pre = ini ++ [z] := ⟨_, _, (List.dropLast_concat_getLast hp).symm⟩
  rw [lastV_snoc]
  obtain ⟨e1, e2⟩ := linesOf_at (at_snoc h)
  have e : lineN s.data.toList p = ini.length := by
    refine lineN_of _ _ _ _ e2 (h1 z (by simp)) (fun q hq => ?_)
    have hlt : ini.length + 1 < (linesOf s).length := by rw [linesOf_len]; exact (List.getElem?_eq_some_iff.1 hq).1
    have hx := List.getElem?_eq_getElem hlt
    have hq2 := (linesOf_at hx).2
    rw [hq] at hq2
    injection hq2 with hq2
    rw [hq2]
    refine h2 _ ?_
    rw [← hx]
    simp only [h, List.head?_eq_getElem?, List.append_assoc]
    rw [List.getElem?_append_right (by omega), Nat.add_sub_cancel_left]
    rfl
  rw [e, rowN_eq e2, ← e1]
theorem first_line {s : ByteArray} {x : LRow} {r : List LRow} (h : linesOf s = [x] ++ r) : x.2.1 = 0 := by
  obtain ⟨t, q, e⟩ := rows_first s.data.toList 0
  have := (linesOf_at (j := 0) (x := x) (by rw [h]; rfl)).2
  rw [e] at this
  injection this with this
  rw [← this]
end Go.Proofs.YtpphkkelikdhkaaDoor
