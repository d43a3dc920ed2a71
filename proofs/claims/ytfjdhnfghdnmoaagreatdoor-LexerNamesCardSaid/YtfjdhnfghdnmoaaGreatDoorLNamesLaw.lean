/-
  The walk of emendlaw09.LexerNames, for its card: at every text it returns true; no memory that was there turns. Condition: the variables that are read hold what their text lays (Facts).
-/
import Derived.Test.YtfjdhnfghdnmoaaGreatDoorLNames
namespace Go.Proofs.YtfjdhnfghdnmoaaGreatDoor
open Go.RowKit
theorem spec_none : FSpec (fun _ => True) (fun _ => 0) (fun _ => False) := ⟨fun _ _ _ _ => trivial, fun _ h => h.elim⟩
theorem lexerNames_law (s : ByteArray) (w : World) (hF : Facts w) : Calls Tryz.prog 4 #[.string s] w fun e w' => e = .returned (.bool true) ∧ Below w.heap.size w w' :=
  lexerNames_walk spec_none s w hF trivial
end Go.Proofs.YtfjdhnfghdnmoaaGreatDoor
