/-
  DERIVED. GIVEN WITH THE SEED: THE CARDS: each row of YtdbgncdnffbhkaaGreatDoorRows.lean that lists a variable, with what it lists TIED to the program's text (the seventh form; the later family's looks); each row that meets fmt, with fmt's text TOLD by the authors' own Lean function (tested against real Go, not proved from fmt's source: count such statements apart). THE CARD IS WHAT COUNTS. Prove the row's statement (the work); the ties are given (YtdbgncdnffbhkaaGreatDoorTie.lean); close each card by the builder's one call (the guide's Derived/Test/ToyasCard.lean, 'card_holds'). Laid BY PROGRAM, IN A SANDBOX (cutbox-door.mjs). By AI agents, Wed Nov 11 2026. No macro, syntax, notation, axiom, sorry.
-/
import Derived.Test.YtdbgncdnffbhkaaGreatDoorRows
import GoSem.ClaimSeven
namespace Go.Proofs.YtdbgncdnffbhkaaGreatDoor
namespace Rows

/-- THE TIED CARD OF 'waybilllaw06.SchemaTells'. -/
def schemaTellsCard : Claim7 := { stood := { row := schemaTellsRow, standIns := [], harness := (true, "207b565e227defcc08a564a899109f068bdca9eb53791c2cfe652e9ec651c968"), looks := true }, kinds := [], alts := [], laidByText := true, laidKinds := [.data, .data, .data], laidTests := true, laidLooks := .later }
def SchemaTellsCardSaid : Prop := Claim7.holds Tryz.pinned (.plain (OpenSpec.ofChange schemaTellsSpec)) schemaTellsCard

/-- THE TIED CARD OF 'waybilllaw06.SchemaItself'. -/
def schemaItselfCard : Claim7 := { stood := { row := schemaItselfRow, standIns := [], harness := (true, "207b565e227defcc08a564a899109f068bdca9eb53791c2cfe652e9ec651c968"), looks := true }, kinds := [], alts := [], laidByText := true, laidKinds := [.data, .data, .data], laidTests := true, laidLooks := .later }
def SchemaItselfCardSaid : Prop := Claim7.holds Tryz.pinned (.plain (OpenSpec.ofChange schemaItselfSpec)) schemaItselfCard

/-- THE TIED CARD OF 'waybilllaw06.SchemaChains'. -/
def schemaChainsCard : Claim7 := { stood := { row := schemaChainsRow, standIns := [], harness := (true, "207b565e227defcc08a564a899109f068bdca9eb53791c2cfe652e9ec651c968"), looks := true }, kinds := [], alts := [], laidByText := true, laidKinds := [.data, .data, .data], laidTests := true, laidLooks := .later }
def SchemaChainsCardSaid : Prop := Claim7.holds Tryz.pinned (.plain (OpenSpec.ofChange schemaChainsSpec)) schemaChainsCard

/-- THE TIED CARD OF 'waybilllaw06.SchemaMore'. -/
def schemaMoreCard : Claim7 := { stood := { row := schemaMoreRow, standIns := [], harness := (true, "207b565e227defcc08a564a899109f068bdca9eb53791c2cfe652e9ec651c968"), looks := true }, kinds := [], alts := [], laidByText := true, laidKinds := [.data, .data, .data], laidTests := true, laidLooks := .later }
def SchemaMoreCardSaid : Prop := Claim7.holds Tryz.pinned (.plain (OpenSpec.ofChange schemaMoreSpec)) schemaMoreCard

/-- THE TIED CARD OF 'waybilllaw06.SchemaFinds'. -/
def schemaFindsCard : Claim7 := { stood := { row := schemaFindsRow, standIns := [], harness := (true, "207b565e227defcc08a564a899109f068bdca9eb53791c2cfe652e9ec651c968"), looks := true }, kinds := [], alts := [], laidByText := true, laidKinds := [.data, .data, .data], laidTests := true, laidLooks := .later }
def SchemaFindsCardSaid : Prop := Claim7.holds Tryz.pinned (.plain (OpenSpec.ofChange schemaFindsSpec)) schemaFindsCard

/-- THE TIED CARD OF 'waybilllaw06.SchemaOwn'. -/
def schemaOwnCard : Claim7 := { stood := { row := schemaOwnRow, standIns := [], harness := (true, "207b565e227defcc08a564a899109f068bdca9eb53791c2cfe652e9ec651c968"), looks := true }, kinds := [], alts := [], laidByText := true, laidKinds := [.data, .data, .data], laidTests := true, laidLooks := .later }
def SchemaOwnCardSaid : Prop := Claim7.holds Tryz.pinned (.plain (OpenSpec.ofChange schemaOwnSpec)) schemaOwnCard

/-- THE SECOND FORM's CARD OF 'waybilllaw06.SchemaTells'. -/
def schemaTellsUptoCard : Claim7 := { stood := { row := schemaTellsUptoRow, standIns := [], harness := (true, "207b565e227defcc08a564a899109f068bdca9eb53791c2cfe652e9ec651c968"), looks := true }, kinds := [], alts := [], laidByText := true, laidKinds := [.data, .data, .data], laidTests := true, laidLooks := .later }
def SchemaTellsUptoCardSaid : Prop := Claim7.holds Tryz.pinned (.plain (OpenSpec.upto schemaTellsSpec)) schemaTellsUptoCard

/-- THE SECOND FORM's CARD OF 'waybilllaw06.SchemaItself'. -/
def schemaItselfUptoCard : Claim7 := { stood := { row := schemaItselfUptoRow, standIns := [], harness := (true, "207b565e227defcc08a564a899109f068bdca9eb53791c2cfe652e9ec651c968"), looks := true }, kinds := [], alts := [], laidByText := true, laidKinds := [.data, .data, .data], laidTests := true, laidLooks := .later }
def SchemaItselfUptoCardSaid : Prop := Claim7.holds Tryz.pinned (.plain (OpenSpec.upto schemaItselfSpec)) schemaItselfUptoCard

/-- THE SECOND FORM's CARD OF 'waybilllaw06.SchemaChains'. -/
def schemaChainsUptoCard : Claim7 := { stood := { row := schemaChainsUptoRow, standIns := [], harness := (true, "207b565e227defcc08a564a899109f068bdca9eb53791c2cfe652e9ec651c968"), looks := true }, kinds := [], alts := [], laidByText := true, laidKinds := [.data, .data, .data], laidTests := true, laidLooks := .later }
def SchemaChainsUptoCardSaid : Prop := Claim7.holds Tryz.pinned (.plain (OpenSpec.upto schemaChainsSpec)) schemaChainsUptoCard

/-- THE SECOND FORM's CARD OF 'waybilllaw06.SchemaMore'. -/
def schemaMoreUptoCard : Claim7 := { stood := { row := schemaMoreUptoRow, standIns := [], harness := (true, "207b565e227defcc08a564a899109f068bdca9eb53791c2cfe652e9ec651c968"), looks := true }, kinds := [], alts := [], laidByText := true, laidKinds := [.data, .data, .data], laidTests := true, laidLooks := .later }
def SchemaMoreUptoCardSaid : Prop := Claim7.holds Tryz.pinned (.plain (OpenSpec.upto schemaMoreSpec)) schemaMoreUptoCard

/-- THE SECOND FORM's CARD OF 'waybilllaw06.SchemaFinds'. -/
def schemaFindsUptoCard : Claim7 := { stood := { row := schemaFindsUptoRow, standIns := [], harness := (true, "207b565e227defcc08a564a899109f068bdca9eb53791c2cfe652e9ec651c968"), looks := true }, kinds := [], alts := [], laidByText := true, laidKinds := [.data, .data, .data], laidTests := true, laidLooks := .later }
def SchemaFindsUptoCardSaid : Prop := Claim7.holds Tryz.pinned (.plain (OpenSpec.upto schemaFindsSpec)) schemaFindsUptoCard

/-- THE SECOND FORM's CARD OF 'waybilllaw06.SchemaOwn'. -/
def schemaOwnUptoCard : Claim7 := { stood := { row := schemaOwnUptoRow, standIns := [], harness := (true, "207b565e227defcc08a564a899109f068bdca9eb53791c2cfe652e9ec651c968"), looks := true }, kinds := [], alts := [], laidByText := true, laidKinds := [.data, .data, .data], laidTests := true, laidLooks := .later }
def SchemaOwnUptoCardSaid : Prop := Claim7.holds Tryz.pinned (.plain (OpenSpec.upto schemaOwnSpec)) schemaOwnUptoCard
end Rows
end Go.Proofs.YtdbgncdnffbhkaaGreatDoor
