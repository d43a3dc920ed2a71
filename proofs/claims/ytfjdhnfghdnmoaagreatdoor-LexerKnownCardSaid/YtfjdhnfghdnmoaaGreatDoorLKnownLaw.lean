/-
  The walk of emendlaw09.LexerKnown, for its card. Condition: the variables that are read hold what their text lays.
-/
import Derived.Test.YtfjdhnfghdnmoaaGreatDoorLKnown
import Derived.Test.YtfjdhnfghdnmoaaGreatDoorLFactsK
namespace Go.Proofs.YtfjdhnfghdnmoaaGreatDoor
open Go.RowKit
theorem lexerKnown_law (w : World) (h : Facts w ∧ FltFacts w) : Calls Tryz.prog 5 #[] w fun e w' => e = .returned (.bool true) ∧ Below w.heap.size w w' := lexerKnown_walk w h.1 h.2
end Go.Proofs.YtfjdhnfghdnmoaaGreatDoor
