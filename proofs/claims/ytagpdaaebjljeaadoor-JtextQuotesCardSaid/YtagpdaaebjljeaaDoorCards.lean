/-
  DERIVED. GIVEN WITH THE SEED: THE CARDS: each row of YtagpdaaebjljeaaDoorRows.lean that lists a variable, with what it lists TIED to the program's text (the seventh form; the later family's looks); each row that meets fmt, with fmt's text TOLD by the authors' own Lean function (tested against real Go, not proved from fmt's source: count such statements apart). THE CARD IS WHAT COUNTS. Prove the row's statement (the work); the ties are given (YtagpdaaebjljeaaDoorTie.lean); close each card by the builder's one call (the guide's Derived/Test/ToyasCard.lean, 'card_holds'). Laid BY PROGRAM, IN A SANDBOX (cutbox-door.mjs). By AI agents, Wed Nov 11 2026. No macro, syntax, notation, axiom, sorry.
-/
import Derived.Test.YtagpdaaebjljeaaDoorRows
import GoSem.ClaimSeven
namespace Go.Proofs.YtagpdaaebjljeaaDoor
namespace Rows

/-- THE TIED CARD OF 'emendlaw03.JtextTokens'. -/
def jtextTokensCard : Claim7 := { stood := { row := jtextTokensRow, standIns := [], harness := (true, "cb6137628ab51be47d14263ce18386127b229098fa4799620e1213c11f73fa98"), looks := true }, kinds := [], alts := [], laidByText := true, laidKinds := [.data, .data, .data, .data, .sentinel, .sentinel, .pinned], laidTests := true, laidLooks := .later }
def JtextTokensCardSaid : Prop := Claim7.holds Tryd.pinned (.plain (OpenSpec.ofChange jtextTokensSpec)) jtextTokensCard

/-- THE TIED CARD OF 'emendlaw03.JtextQuotes'. -/
def jtextQuotesCard : Claim7 := { stood := { row := jtextQuotesRow, standIns := [], harness := (true, "cb6137628ab51be47d14263ce18386127b229098fa4799620e1213c11f73fa98"), looks := true }, kinds := [], alts := [], laidByText := true, laidKinds := [.data, .data, .data, .data, .sentinel, .sentinel, .pinned], laidTests := true, laidLooks := .later }
def JtextQuotesCardSaid : Prop := Claim7.holds Tryd.pinned (.plain (OpenSpec.ofChange jtextQuotesSpec)) jtextQuotesCard

/-- THE TIED CARD OF 'emendlaw03.JtextKnown'. -/
def jtextKnownCard : Claim7 := { stood := { row := jtextKnownRow, standIns := [], harness := (true, "cb6137628ab51be47d14263ce18386127b229098fa4799620e1213c11f73fa98"), looks := true }, kinds := [], alts := [], laidByText := true, laidKinds := [.data, .data, .data, .data, .sentinel, .sentinel, .pinned], laidTests := true, laidLooks := .later }
def JtextKnownCardSaid : Prop := Claim7.holds Tryd.pinned (.plain (OpenSpec.ofChange jtextKnownSpec)) jtextKnownCard

/-- THE TIED CARD OF 'emendlaw03.JtextBack'. -/
def jtextBackCard : Claim7 := { stood := { row := jtextBackRow, standIns := [], harness := (true, "cb6137628ab51be47d14263ce18386127b229098fa4799620e1213c11f73fa98"), looks := true }, kinds := [], alts := [], laidByText := true, laidKinds := [.data, .data, .data, .data, .sentinel, .sentinel, .pinned], laidTests := true, laidLooks := .later }
def JtextBackCardSaid : Prop := Claim7.holds Tryd.pinned (.plain (OpenSpec.ofChange jtextBackSpec)) jtextBackCard

/-- THE TIED CARD OF 'emendlaw03.JtextTiles'. -/
def jtextTilesCard : Claim7 := { stood := { row := jtextTilesRow, standIns := [], harness := (true, "cb6137628ab51be47d14263ce18386127b229098fa4799620e1213c11f73fa98"), looks := true }, kinds := [], alts := [], laidByText := true, laidKinds := [.data, .data, .data, .data, .sentinel, .sentinel, .pinned], laidTests := true, laidLooks := .later }
def JtextTilesCardSaid : Prop := Claim7.holds Tryd.pinned (.plain (OpenSpec.ofChange jtextTilesSpec)) jtextTilesCard

/-- THE TIED CARD OF 'emendlaw03.JtextLoose'. -/
def jtextLooseCard : Claim7 := { stood := { row := jtextLooseRow, standIns := [], harness := (true, "cb6137628ab51be47d14263ce18386127b229098fa4799620e1213c11f73fa98"), looks := true }, kinds := [], alts := [], laidByText := true, laidKinds := [.data, .data, .data, .data, .sentinel, .sentinel, .pinned], laidTests := true, laidLooks := .later }
def JtextLooseCardSaid : Prop := Claim7.holds Tryd.pinned (.plain (OpenSpec.ofChange jtextLooseSpec)) jtextLooseCard

/-- THE SECOND FORM's CARD OF 'emendlaw03.JtextTokens'. -/
def jtextTokensUptoCard : Claim7 := { stood := { row := jtextTokensUptoRow, standIns := [], harness := (true, "cb6137628ab51be47d14263ce18386127b229098fa4799620e1213c11f73fa98"), looks := true }, kinds := [], alts := [], laidByText := true, laidKinds := [.data, .data, .data, .data, .sentinel, .sentinel, .pinned], laidTests := true, laidLooks := .later }
def JtextTokensUptoCardSaid : Prop := Claim7.holds Tryd.pinned (.plain (OpenSpec.upto jtextTokensSpec)) jtextTokensUptoCard

/-- THE SECOND FORM's CARD OF 'emendlaw03.JtextQuotes'. -/
def jtextQuotesUptoCard : Claim7 := { stood := { row := jtextQuotesUptoRow, standIns := [], harness := (true, "cb6137628ab51be47d14263ce18386127b229098fa4799620e1213c11f73fa98"), looks := true }, kinds := [], alts := [], laidByText := true, laidKinds := [.data, .data, .data, .data, .sentinel, .sentinel, .pinned], laidTests := true, laidLooks := .later }
def JtextQuotesUptoCardSaid : Prop := Claim7.holds Tryd.pinned (.plain (OpenSpec.upto jtextQuotesSpec)) jtextQuotesUptoCard

/-- THE SECOND FORM's CARD OF 'emendlaw03.JtextKnown'. -/
def jtextKnownUptoCard : Claim7 := { stood := { row := jtextKnownUptoRow, standIns := [], harness := (true, "cb6137628ab51be47d14263ce18386127b229098fa4799620e1213c11f73fa98"), looks := true }, kinds := [], alts := [], laidByText := true, laidKinds := [.data, .data, .data, .data, .sentinel, .sentinel, .pinned], laidTests := true, laidLooks := .later }
def JtextKnownUptoCardSaid : Prop := Claim7.holds Tryd.pinned (.plain (OpenSpec.upto jtextKnownSpec)) jtextKnownUptoCard

/-- THE SECOND FORM's CARD OF 'emendlaw03.JtextBack'. -/
def jtextBackUptoCard : Claim7 := { stood := { row := jtextBackUptoRow, standIns := [], harness := (true, "cb6137628ab51be47d14263ce18386127b229098fa4799620e1213c11f73fa98"), looks := true }, kinds := [], alts := [], laidByText := true, laidKinds := [.data, .data, .data, .data, .sentinel, .sentinel, .pinned], laidTests := true, laidLooks := .later }
def JtextBackUptoCardSaid : Prop := Claim7.holds Tryd.pinned (.plain (OpenSpec.upto jtextBackSpec)) jtextBackUptoCard

/-- THE SECOND FORM's CARD OF 'emendlaw03.JtextTiles'. -/
def jtextTilesUptoCard : Claim7 := { stood := { row := jtextTilesUptoRow, standIns := [], harness := (true, "cb6137628ab51be47d14263ce18386127b229098fa4799620e1213c11f73fa98"), looks := true }, kinds := [], alts := [], laidByText := true, laidKinds := [.data, .data, .data, .data, .sentinel, .sentinel, .pinned], laidTests := true, laidLooks := .later }
def JtextTilesUptoCardSaid : Prop := Claim7.holds Tryd.pinned (.plain (OpenSpec.upto jtextTilesSpec)) jtextTilesUptoCard

/-- THE SECOND FORM's CARD OF 'emendlaw03.JtextLoose'. -/
def jtextLooseUptoCard : Claim7 := { stood := { row := jtextLooseUptoRow, standIns := [], harness := (true, "cb6137628ab51be47d14263ce18386127b229098fa4799620e1213c11f73fa98"), looks := true }, kinds := [], alts := [], laidByText := true, laidKinds := [.data, .data, .data, .data, .sentinel, .sentinel, .pinned], laidTests := true, laidLooks := .later }
def JtextLooseUptoCardSaid : Prop := Claim7.holds Tryd.pinned (.plain (OpenSpec.upto jtextLooseSpec)) jtextLooseUptoCard
end Rows
end Go.Proofs.YtagpdaaebjljeaaDoor
