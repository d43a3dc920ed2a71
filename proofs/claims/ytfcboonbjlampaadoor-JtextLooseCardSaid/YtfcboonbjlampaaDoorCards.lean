/-
  DERIVED. GIVEN WITH THE SEED: THE CARDS: each row of YtfcboonbjlampaaDoorRows.lean that lists a variable, with what it lists TIED to the program's text (the seventh form; the later family's looks); each row that meets fmt, with fmt's text TOLD by the authors' own Lean function (tested against real Go, not proved from fmt's source: count such statements apart). THE CARD IS WHAT COUNTS. Prove the row's statement (the work); the ties are given (YtfcboonbjlampaaDoorTie.lean); close each card by the builder's one call (the guide's Derived/Test/ToyasCard.lean, 'card_holds'). Laid BY PROGRAM, IN A SANDBOX (cutbox-door.mjs). By AI agents, Wed Nov 11 2026. No macro, syntax, notation, axiom, sorry.
-/
import Derived.Test.YtfcboonbjlampaaDoorRows
import GoSem.ClaimSeven
namespace Go.Proofs.YtfcboonbjlampaaDoor
namespace Rows

/-- THE TIED CARD OF 'emendlaw03.JtextTokens'. -/
def jtextTokensCard : Claim7 := { stood := { row := jtextTokensRow, standIns := [], harness := (true, "4a74a25c30f4308f3187cd91cea82d451d9a326772c3aac157dd92cca6598dd2"), looks := true }, kinds := [], alts := [], laidByText := true, laidKinds := [.data, .data, .data, .data, .sentinel, .sentinel, .pinned], laidTests := true, laidLooks := .later }
def JtextTokensCardSaid : Prop := Claim7.holds Tryd.pinned (.plain (OpenSpec.ofChange jtextTokensSpec)) jtextTokensCard

/-- THE TIED CARD OF 'emendlaw03.JtextLoose'. -/
def jtextLooseCard : Claim7 := { stood := { row := jtextLooseRow, standIns := [], harness := (true, "4a74a25c30f4308f3187cd91cea82d451d9a326772c3aac157dd92cca6598dd2"), looks := true }, kinds := [], alts := [], laidByText := true, laidKinds := [.data, .data, .data, .data, .sentinel, .sentinel, .pinned], laidTests := true, laidLooks := .later }
def JtextLooseCardSaid : Prop := Claim7.holds Tryd.pinned (.plain (OpenSpec.ofChange jtextLooseSpec)) jtextLooseCard

/-- THE TIED CARD OF 'emendlaw04.JsonSays'. -/
def jsonSaysCard : Claim7 := { stood := { row := jsonSaysRow, standIns := [], harness := (true, "4a74a25c30f4308f3187cd91cea82d451d9a326772c3aac157dd92cca6598dd2"), looks := true }, kinds := [], alts := [], laidByText := true, laidKinds := [.data, .data, .data, .data, .sentinel, .sentinel, .pinned], laidTests := true, laidLooks := .later }
def JsonSaysCardSaid : Prop := Claim7.holds Tryd.pinned (.plain (OpenSpec.ofChange jsonSaysSpec)) jsonSaysCard

/-- THE TIED CARD OF 'emendlaw04.JsonBlanks'. -/
def jsonBlanksCard : Claim7 := { stood := { row := jsonBlanksRow, standIns := [], harness := (true, "4a74a25c30f4308f3187cd91cea82d451d9a326772c3aac157dd92cca6598dd2"), looks := true }, kinds := [], alts := [], laidByText := true, laidKinds := [.data, .data, .data, .data, .sentinel, .sentinel, .pinned], laidTests := true, laidLooks := .later }
def JsonBlanksCardSaid : Prop := Claim7.holds Tryd.pinned (.plain (OpenSpec.ofChange jsonBlanksSpec)) jsonBlanksCard

/-- THE SECOND FORM's CARD OF 'emendlaw03.JtextTokens'. -/
def jtextTokensUptoCard : Claim7 := { stood := { row := jtextTokensUptoRow, standIns := [], harness := (true, "4a74a25c30f4308f3187cd91cea82d451d9a326772c3aac157dd92cca6598dd2"), looks := true }, kinds := [], alts := [], laidByText := true, laidKinds := [.data, .data, .data, .data, .sentinel, .sentinel, .pinned], laidTests := true, laidLooks := .later }
def JtextTokensUptoCardSaid : Prop := Claim7.holds Tryd.pinned (.plain (OpenSpec.upto jtextTokensSpec)) jtextTokensUptoCard

/-- THE SECOND FORM's CARD OF 'emendlaw03.JtextLoose'. -/
def jtextLooseUptoCard : Claim7 := { stood := { row := jtextLooseUptoRow, standIns := [], harness := (true, "4a74a25c30f4308f3187cd91cea82d451d9a326772c3aac157dd92cca6598dd2"), looks := true }, kinds := [], alts := [], laidByText := true, laidKinds := [.data, .data, .data, .data, .sentinel, .sentinel, .pinned], laidTests := true, laidLooks := .later }
def JtextLooseUptoCardSaid : Prop := Claim7.holds Tryd.pinned (.plain (OpenSpec.upto jtextLooseSpec)) jtextLooseUptoCard

/-- THE SECOND FORM's CARD OF 'emendlaw04.JsonSays'. -/
def jsonSaysUptoCard : Claim7 := { stood := { row := jsonSaysUptoRow, standIns := [], harness := (true, "4a74a25c30f4308f3187cd91cea82d451d9a326772c3aac157dd92cca6598dd2"), looks := true }, kinds := [], alts := [], laidByText := true, laidKinds := [.data, .data, .data, .data, .sentinel, .sentinel, .pinned], laidTests := true, laidLooks := .later }
def JsonSaysUptoCardSaid : Prop := Claim7.holds Tryd.pinned (.plain (OpenSpec.upto jsonSaysSpec)) jsonSaysUptoCard

/-- THE SECOND FORM's CARD OF 'emendlaw04.JsonBlanks'. -/
def jsonBlanksUptoCard : Claim7 := { stood := { row := jsonBlanksUptoRow, standIns := [], harness := (true, "4a74a25c30f4308f3187cd91cea82d451d9a326772c3aac157dd92cca6598dd2"), looks := true }, kinds := [], alts := [], laidByText := true, laidKinds := [.data, .data, .data, .data, .sentinel, .sentinel, .pinned], laidTests := true, laidLooks := .later }
def JsonBlanksUptoCardSaid : Prop := Claim7.holds Tryd.pinned (.plain (OpenSpec.upto jsonBlanksSpec)) jsonBlanksUptoCard
end Rows
end Go.Proofs.YtfcboonbjlampaaDoor
