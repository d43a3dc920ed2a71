/-
  WHAT THE WALKS OF EDITS' FUNCTIONS LEAN ON: imports, and small facts about memory. No condition but those that each theorem says.
-/
import Derived.Test.YtlgjlfljohapfaaProg
import Derived.Test.YtlgjlfljohapfaaEPlain
import Derived.WalkKit
import Derived.WalkLawsBesides
import Derived.Lib.Hide
import Derived.Outline
import Derived.LoopTactic
import Derived.OwnWalk
import Derived.Laws.RangeAny
import Derived.KernelRfl
namespace Go.Proofs.Ytlgjlfljohapfaa
open Go.RowKit

theorem heap_lt {w : World} {b : Nat} {o : Obj} (h : w.heap[b]? = some o) : b < w.heap.size := by
  rcases Nat.lt_or_ge b w.heap.size with h' | h'
  · exact h'
  · simp [Array.getElem?_eq_none h'] at h
theorem heap_keep {w w' : World} {k : Nat} {o : Obj} (hb : Below w.heap.size w w') (h : w.heap[k]? = some o) : w'.heap[k]? = some o := by
  rw [hb.block k (heap_lt h)]; exact h
theorem cell_at {w : World} {b i : Nat} {cs : Array Value} {t : TypeId} {fz : Nat × Nat} (h : w.heap[b]? = some (.cells cs t fz)) : w.cell? ⟨b, i, none⟩ = cs[i]? := by simp [World.cell?, h]
theorem alloc_top (w : World) (o : Array Value) (t : TypeId) : (w.alloc (.cells o t)).heap[w.heap.size]? = some (.cells o t (0, 0)) := by
  unfold World.alloc
  exact Array.getElem?_push_size
theorem alloc_below (w : World) (o : Obj) : Below w.heap.size w (w.alloc o) := (Below.refl _ _).alloc (Nat.le_refl _) _
theorem iterPos_of {w : World} {k : Nat} {s : ByteArray} {pos : Nat} (h : w.heap[k]? = some (.stringIter s pos)) : w.iterPos k = pos := by
  unfold World.iterPos; rw [h]
theorem ret_i64 {a b : Int} (h : a = b) : Ending.returned (.int .i64 a) = .returned (.int .i64 b) := by rw [h]
theorem ret_bool {a b : Bool} (h : a = b) : Ending.returned (.bool a) = .returned (.bool b) := by rw [h]
theorem ret_pair {a b c d : Int} (h : a = c) (k : b = d) : Ending.returned (.tuple #[.int .i64 a, .int .i64 b]) = .returned (.tuple #[.int .i64 c, .int .i64 d]) := by rw [h, k]
theorem cell_lt {w : World} {b i : Nat} {v : Value} (h : w.cell? ⟨b, i, none⟩ = some v) : b < w.heap.size := by
  rcases Nat.lt_or_ge b w.heap.size with h' | h'
  · exact h'
  · simp [World.cell?, Array.getElem?_eq_none h'] at h
theorem cell_keep {W W' : World} {b i : Nat} {v : Value} (hb : Below W.heap.size W W') (h : W.cell? ⟨b, i, none⟩ = some v) : W'.cell? ⟨b, i, none⟩ = some v := by
  rw [hb.cell (p := ⟨b, i, none⟩) (cell_lt h)]; exact h
theorem cell_keep2 {W0 W W' : World} {b i : Nat} {v : Value} (hb : Below W0.heap.size W W') (h : W.cell? ⟨b, i, none⟩ = some v) (hl : b < W0.heap.size) : W'.cell? ⟨b, i, none⟩ = some v := by
  rw [hb.cell (p := ⟨b, i, none⟩) hl]; exact h
theorem drewN_below {w w' : World} {B : Nat} (h : Below B w w') (n : Nat) : Below B w (w'.drewN n) := h.trans ⟨rfl, rfl, rfl, Nat.le_refl _, fun _ _ => rfl⟩
/-- A slice that reads as splices. -/
def SR (W : World) (A : Option Addr) (L : List Spl) : Prop :=
  0 < L.length → ∃ b o, A = some ⟨b, o, none⟩ ∧ ∀ j x, L[j]? = some x → W.cell? ⟨b, o + j * 3, none⟩ = some (.int .i64 x.f) ∧ W.cell? ⟨b, o + j * 3 + 1, none⟩ = some (.int .i64 x.t) ∧ W.cell? ⟨b, o + j * 3 + 2, none⟩ = some (.string x.s)
theorem SR.keep {W W' : World} {A : Option Addr} {L : List Spl} (h : SR W A L) (hb : Below W.heap.size W W') : SR W' A L := fun h0 => by
  obtain ⟨b, o, e, hc⟩ := h h0
  exact ⟨b, o, e, fun j x hx => ⟨cell_keep hb (hc j x hx).1, cell_keep hb (hc j x hx).2.1, cell_keep hb (hc j x hx).2.2⟩⟩
/-- The cells of a splice. -/
theorem SR.at {W : World} {A : Option Addr} {L : List Spl} (h : SR W A L) {i : Nat} {x : Spl} (hx : L[i]? = some x) : ∃ b o, A = some ⟨b, o, none⟩ ∧ W.cell? ⟨b, o + i * 3, none⟩ = some (.int .i64 x.f) ∧ W.cell? ⟨b, o + i * 3 + 1, none⟩ = some (.int .i64 x.t) ∧ W.cell? ⟨b, o + i * 3 + 2, none⟩ = some (.string x.s) := by
  obtain ⟨b, o, e, hc⟩ := h (by have := (List.getElem?_eq_some_iff.1 hx).1; omega)
  exact ⟨b, o, e, hc i x hx⟩
end Go.Proofs.Ytlgjlfljohapfaa
