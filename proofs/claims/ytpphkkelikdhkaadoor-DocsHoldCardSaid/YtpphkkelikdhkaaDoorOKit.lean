/-
  WHAT THE WALKS OF DOCS' FUNCTIONS LEAN ON: small facts about memory; what the listed variables hold (Fx). No condition but those that each theorem says.
-/
import Derived.Test.YtpphkkelikdhkaaDoorOValid
import Derived.Test.YtpphkkelikdhkaaDoorCut
import Derived.Test.YtpphkkelikdhkaaDoorShelf
import Derived.Below
namespace Go.Proofs.YtpphkkelikdhkaaDoor
open Go.RowKit Go.Shelf

theorem cell_lt {w : World} {a : Addr} {v : Value} (h : w.cell? a = some v) : a.block < w.heap.size := by
  rcases Nat.lt_or_ge a.block w.heap.size with h' | h'
  · exact h'
  · simp [World.cell?, Array.getElem?_eq_none h'] at h
theorem drewN_below {w w' : World} {B : Nat} (h : Below B w w') (n : Nat) : Below B w (w'.drewN n) := h.trans ⟨rfl, rfl, rfl, Nat.le_refl _, fun _ _ => rfl⟩
/-- What the listed variables hold. -/
def Fx (W : World) : Prop := Lib.Utf8Tabs 1 2 W ∧ ∃ m : Int, W.cell? ⟨0, 0, none⟩ = some (.int .i64 m)
theorem Fx.keep {W W' : World} (h : Fx W) (hb : Below W.heap.size W W') : Fx W' := by
  obtain ⟨h1, m, h2⟩ := h
  refine ⟨tabs_iterAt h1 hb, m, ?_⟩
  rw [hb.cell (p := ⟨0, 0, none⟩) (cell_lt h2)]
  exact h2
end Go.Proofs.YtpphkkelikdhkaaDoor
