/-
  DERIVED. GIVEN WITH THE SEED: THE CARDS: each row of YtochmifhhigfhabDoorRows.lean that lists a variable, with what it lists TIED to the program's text (the seventh form; the later family's looks); each row that meets fmt, with fmt's text TOLD by the authors' own Lean function (tested against real Go, not proved from fmt's source: count such statements apart). THE CARD IS WHAT COUNTS. Prove the row's statement (the work); the ties are given (YtochmifhhigfhabDoorTie.lean); close each card by the builder's one call (the guide's Derived/Test/ToyasCard.lean, 'card_holds'). Laid BY PROGRAM, IN A SANDBOX (cutbox-door.mjs). By AI agents, Wed Nov 11 2026. No macro, syntax, notation, axiom, sorry.
-/
import Derived.Test.YtochmifhhigfhabDoorRows
import GoSem.ClaimSeven
namespace Go.Proofs.YtochmifhhigfhabDoor
namespace Rows

/-- THE TIED CARD OF 'laws.FnExactTreeText'. -/
def fnExactTreeTextCard : Claim7 := { stood := { row := fnExactTreeTextRow, standIns := [], harness := (true, "67edee84a2c1376154535fad35c7f494c8ddfce38039016f07d2c106a7e79ddd"), looks := true }, kinds := [], alts := [], laidByText := true, laidKinds := [.data, .data, .data], laidTests := true, laidLooks := .later }
def FnExactTreeTextCardSaid : Prop := Claim7.holds Tryd.pinned (.plain (OpenSpec.ofChange fnExactTreeTextSpec)) fnExactTreeTextCard

/-- THE TIED CARD OF 'laws.FnExactParseTree'. -/
def fnExactParseTreeCard : Claim7 := { stood := { row := fnExactParseTreeRow, standIns := [], harness := (true, "67edee84a2c1376154535fad35c7f494c8ddfce38039016f07d2c106a7e79ddd"), looks := true }, kinds := [], alts := [], laidByText := true, laidKinds := [.data, .data, .data, .data, .sentinel, .sentinel, .pinned], laidTests := true, laidLooks := .later }
def FnExactParseTreeCardSaid : Prop := Claim7.holds Tryd.pinned (.plain (OpenSpec.ofChange fnExactParseTreeSpec)) fnExactParseTreeCard

/-- THE TIED CARD OF 'laws.FnExactParkText'. -/
def fnExactParkTextCard : Claim7 := { stood := { row := fnExactParkTextRow, standIns := [], harness := (true, "67edee84a2c1376154535fad35c7f494c8ddfce38039016f07d2c106a7e79ddd"), looks := true }, kinds := [], alts := [], laidByText := true, laidKinds := [.data, .data, .data], laidTests := true, laidLooks := .later }
def FnExactParkTextCardSaid : Prop := Claim7.holds Tryd.pinned (.plain (OpenSpec.ofChange fnExactParkTextSpec)) fnExactParkTextCard

/-- THE TIED CARD OF 'laws.FnExactParsePark'. -/
def fnExactParseParkCard : Claim7 := { stood := { row := fnExactParseParkRow, standIns := [], harness := (true, "67edee84a2c1376154535fad35c7f494c8ddfce38039016f07d2c106a7e79ddd"), looks := true }, kinds := [], alts := [], laidByText := true, laidKinds := [.data, .data, .data, .data, .sentinel, .sentinel, .pinned], laidTests := true, laidLooks := .later }
def FnExactParseParkCardSaid : Prop := Claim7.holds Tryd.pinned (.plain (OpenSpec.ofChange fnExactParseParkSpec)) fnExactParseParkCard

/-- THE TIED CARD OF 'laws.FnCutsAndJoins'. -/
def fnCutsAndJoinsCard : Claim7 := { stood := { row := fnCutsAndJoinsRow, standIns := [], harness := (true, "67edee84a2c1376154535fad35c7f494c8ddfce38039016f07d2c106a7e79ddd"), looks := true }, kinds := [], alts := [], laidByText := true, laidKinds := [.data, .data, .data, .data, .sentinel, .sentinel, .pinned], laidTests := true, laidLooks := .later }
def FnCutsAndJoinsCardSaid : Prop := Claim7.holds Tryd.pinned (.plain (OpenSpec.ofChange fnCutsAndJoinsSpec)) fnCutsAndJoinsCard

/-- THE SECOND FORM's CARD OF 'laws.FnExactTreeText'. -/
def fnExactTreeTextUptoCard : Claim7 := { stood := { row := fnExactTreeTextUptoRow, standIns := [], harness := (true, "67edee84a2c1376154535fad35c7f494c8ddfce38039016f07d2c106a7e79ddd"), looks := true }, kinds := [], alts := [], laidByText := true, laidKinds := [.data, .data, .data], laidTests := true, laidLooks := .later }
def FnExactTreeTextUptoCardSaid : Prop := Claim7.holds Tryd.pinned (.plain (OpenSpec.upto fnExactTreeTextSpec)) fnExactTreeTextUptoCard

/-- THE SECOND FORM's CARD OF 'laws.FnExactParseTree'. -/
def fnExactParseTreeUptoCard : Claim7 := { stood := { row := fnExactParseTreeUptoRow, standIns := [], harness := (true, "67edee84a2c1376154535fad35c7f494c8ddfce38039016f07d2c106a7e79ddd"), looks := true }, kinds := [], alts := [], laidByText := true, laidKinds := [.data, .data, .data, .data, .sentinel, .sentinel, .pinned], laidTests := true, laidLooks := .later }
def FnExactParseTreeUptoCardSaid : Prop := Claim7.holds Tryd.pinned (.plain (OpenSpec.upto fnExactParseTreeSpec)) fnExactParseTreeUptoCard

/-- THE SECOND FORM's CARD OF 'laws.FnExactParkText'. -/
def fnExactParkTextUptoCard : Claim7 := { stood := { row := fnExactParkTextUptoRow, standIns := [], harness := (true, "67edee84a2c1376154535fad35c7f494c8ddfce38039016f07d2c106a7e79ddd"), looks := true }, kinds := [], alts := [], laidByText := true, laidKinds := [.data, .data, .data], laidTests := true, laidLooks := .later }
def FnExactParkTextUptoCardSaid : Prop := Claim7.holds Tryd.pinned (.plain (OpenSpec.upto fnExactParkTextSpec)) fnExactParkTextUptoCard

/-- THE SECOND FORM's CARD OF 'laws.FnExactParsePark'. -/
def fnExactParseParkUptoCard : Claim7 := { stood := { row := fnExactParseParkUptoRow, standIns := [], harness := (true, "67edee84a2c1376154535fad35c7f494c8ddfce38039016f07d2c106a7e79ddd"), looks := true }, kinds := [], alts := [], laidByText := true, laidKinds := [.data, .data, .data, .data, .sentinel, .sentinel, .pinned], laidTests := true, laidLooks := .later }
def FnExactParseParkUptoCardSaid : Prop := Claim7.holds Tryd.pinned (.plain (OpenSpec.upto fnExactParseParkSpec)) fnExactParseParkUptoCard

/-- THE SECOND FORM's CARD OF 'laws.FnCutsAndJoins'. -/
def fnCutsAndJoinsUptoCard : Claim7 := { stood := { row := fnCutsAndJoinsUptoRow, standIns := [], harness := (true, "67edee84a2c1376154535fad35c7f494c8ddfce38039016f07d2c106a7e79ddd"), looks := true }, kinds := [], alts := [], laidByText := true, laidKinds := [.data, .data, .data, .data, .sentinel, .sentinel, .pinned], laidTests := true, laidLooks := .later }
def FnCutsAndJoinsUptoCardSaid : Prop := Claim7.holds Tryd.pinned (.plain (OpenSpec.upto fnCutsAndJoinsSpec)) fnCutsAndJoinsUptoCard
end Rows
end Go.Proofs.YtochmifhhigfhabDoor
