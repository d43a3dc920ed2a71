/-
  DERIVED. GIVEN WITH THE SEED: THE CARDS: each row of YtmkjoonbjmieoaaDoorRows.lean that lists a variable, with what it lists TIED to the program's text (the seventh form; the later family's looks); each row that meets fmt, with fmt's text TOLD by the authors' own Lean function (tested against real Go, not proved from fmt's source: count such statements apart). THE CARD IS WHAT COUNTS. Prove the row's statement (the work); the ties are given (YtmkjoonbjmieoaaDoorTie.lean); close each card by the builder's one call (the guide's Derived/Test/ToyasCard.lean, 'card_holds'). Laid BY PROGRAM, IN A SANDBOX (cutbox-door.mjs). By AI agents, Wed Nov 11 2026. No macro, syntax, notation, axiom, sorry.
-/
import Derived.Test.YtmkjoonbjmieoaaDoorRows
import GoSem.ClaimSeven
namespace Go.Proofs.YtmkjoonbjmieoaaDoor
namespace Rows

/-- THE TIED CARD OF 'emendlaw04.JsonSays'. -/
def jsonSaysCard : Claim7 := { stood := { row := jsonSaysRow, standIns := [], harness := (true, "dce5412afc3a292af2c655707e08ca7b6d32161abb2a4507e1f572494c7cf4b5"), looks := true }, kinds := [], alts := [], laidByText := true, laidKinds := [.data, .data, .data, .data, .sentinel, .sentinel, .pinned], laidTests := true, laidLooks := .later }
def JsonSaysCardSaid : Prop := Claim7.holds Tryd.pinned (.plain (OpenSpec.ofChange jsonSaysSpec)) jsonSaysCard

/-- THE TIED CARD OF 'emendlaw04.JsonBlanks'. -/
def jsonBlanksCard : Claim7 := { stood := { row := jsonBlanksRow, standIns := [], harness := (true, "dce5412afc3a292af2c655707e08ca7b6d32161abb2a4507e1f572494c7cf4b5"), looks := true }, kinds := [], alts := [], laidByText := true, laidKinds := [.data, .data, .data, .data, .sentinel, .sentinel, .pinned], laidTests := true, laidLooks := .later }
def JsonBlanksCardSaid : Prop := Claim7.holds Tryd.pinned (.plain (OpenSpec.ofChange jsonBlanksSpec)) jsonBlanksCard

/-- THE SECOND FORM's CARD OF 'emendlaw04.JsonSays'. -/
def jsonSaysUptoCard : Claim7 := { stood := { row := jsonSaysUptoRow, standIns := [], harness := (true, "dce5412afc3a292af2c655707e08ca7b6d32161abb2a4507e1f572494c7cf4b5"), looks := true }, kinds := [], alts := [], laidByText := true, laidKinds := [.data, .data, .data, .data, .sentinel, .sentinel, .pinned], laidTests := true, laidLooks := .later }
def JsonSaysUptoCardSaid : Prop := Claim7.holds Tryd.pinned (.plain (OpenSpec.upto jsonSaysSpec)) jsonSaysUptoCard

/-- THE SECOND FORM's CARD OF 'emendlaw04.JsonBlanks'. -/
def jsonBlanksUptoCard : Claim7 := { stood := { row := jsonBlanksUptoRow, standIns := [], harness := (true, "dce5412afc3a292af2c655707e08ca7b6d32161abb2a4507e1f572494c7cf4b5"), looks := true }, kinds := [], alts := [], laidByText := true, laidKinds := [.data, .data, .data, .data, .sentinel, .sentinel, .pinned], laidTests := true, laidLooks := .later }
def JsonBlanksUptoCardSaid : Prop := Claim7.holds Tryd.pinned (.plain (OpenSpec.upto jsonBlanksSpec)) jsonBlanksUptoCard
end Rows
end Go.Proofs.YtmkjoonbjmieoaaDoor
