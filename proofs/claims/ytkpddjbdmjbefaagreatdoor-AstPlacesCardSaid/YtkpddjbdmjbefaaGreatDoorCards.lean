/-
  DERIVED. GIVEN WITH THE SEED: THE CARDS: each row of YtkpddjbdmjbefaaGreatDoorRows.lean that lists a variable, with what it lists TIED to the program's text (the seventh form; the later family's looks); each row that meets fmt, with fmt's text TOLD by the authors' own Lean function (tested against real Go, not proved from fmt's source: count such statements apart). THE CARD IS WHAT COUNTS. Prove the row's statement (the work); the ties are given (YtkpddjbdmjbefaaGreatDoorTie.lean); close each card by the builder's one call (the guide's Derived/Test/ToyasCard.lean, 'card_holds'). Laid BY PROGRAM, IN A SANDBOX (cutbox-door.mjs). By AI agents, Wed Nov 11 2026. No macro, syntax, notation, axiom, sorry.
-/
import Derived.Test.YtkpddjbdmjbefaaGreatDoorRows
import GoSem.ClaimSeven
namespace Go.Proofs.YtkpddjbdmjbefaaGreatDoor
namespace Rows

/-- THE TIED CARD OF 'emendlaw10.AstPlaces'. -/
def astPlacesCard : Claim7 := { stood := { row := astPlacesRow, standIns := [], harness := (true, "c7eb49d402f105ae28b5c1f630d6922abe1e480c866de28e6a3693af2fbec81c"), looks := true }, kinds := [], alts := [], laidByText := true, laidKinds := [.data, .data, .widerDeep, .widerDeep, .data, .data, .data, .data, .data, .data, .sentinel, .sentinel, .data, .pinned, .pinned, .pinned], laidTests := true, laidLooks := .later }
def AstPlacesCardSaid : Prop := Claim7.holds Tryz.pinned (.plain (OpenSpec.ofChange astPlacesSpec)) astPlacesCard

/-- THE SECOND FORM's CARD OF 'emendlaw10.AstPlaces'. -/
def astPlacesUptoCard : Claim7 := { stood := { row := astPlacesUptoRow, standIns := [], harness := (true, "c7eb49d402f105ae28b5c1f630d6922abe1e480c866de28e6a3693af2fbec81c"), looks := true }, kinds := [], alts := [], laidByText := true, laidKinds := [.data, .data, .widerDeep, .widerDeep, .data, .data, .data, .data, .data, .data, .sentinel, .sentinel, .data, .pinned, .pinned, .pinned], laidTests := true, laidLooks := .later }
def AstPlacesUptoCardSaid : Prop := Claim7.holds Tryz.pinned (.plain (OpenSpec.upto astPlacesSpec)) astPlacesUptoCard
end Rows
end Go.Proofs.YtkpddjbdmjbefaaGreatDoor
