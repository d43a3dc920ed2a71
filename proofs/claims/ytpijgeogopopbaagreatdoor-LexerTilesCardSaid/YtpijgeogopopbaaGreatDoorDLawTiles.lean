/-
  The walk of emendlaw09.LexerTiles AT EVERY TEXT, for its card: it returns true; no memory that was there turns. Condition: the variables that are read hold what their text lays.
-/
import Derived.Test.YtpijgeogopopbaaGreatDoorDFacts
import Derived.Test.YtpijgeogopopbaaGreatDoorLTilesLaw
namespace Go.Proofs.YtpijgeogopopbaaGreatDoor
open Go.RowKit Go.ChangeShapes Go.WideShapes Go.ChangeAt

theorem Wit.facts3_of {W : World} (h : laidMet Tryz.prog Rows.lexerTokensRow.laid W) (hs : W.ShapedOpen Tryz.prog) : Facts W ∧ FW W :=
  ⟨Wit.facts_of h hs, ⟨Wit.flt_of h, Wit.pow_of h, (Wit.facts_of h hs).rng⟩, Wit.slow_of h⟩
theorem lexerTiles_law (s : ByteArray) (w : World) (h : Facts w ∧ FW w) : Calls Tryz.prog 5 #[.string s] w fun e w' => e = .returned (.bool true) ∧ Below w.heap.size w w' := tiles_walk float_spec s w h.1 h.2
end Go.Proofs.YtpijgeogopopbaaGreatDoor
