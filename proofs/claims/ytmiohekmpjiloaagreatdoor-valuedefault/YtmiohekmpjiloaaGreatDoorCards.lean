/-
  DERIVED. GIVEN WITH THE SEED: THE CARDS: each row of YtmiohekmpjiloaaGreatDoorRows.lean that lists a variable, with what it lists TIED to the program's text (the seventh form; the later family's looks); each row that meets fmt, with fmt's text TOLD by the authors' own Lean function (tested against real Go, not proved from fmt's source: count such statements apart). THE CARD IS WHAT COUNTS. Prove the row's statement (the work); the ties are given (YtmiohekmpjiloaaGreatDoorTie.lean); close each card by the builder's one call (the guide's Derived/Test/ToyasCard.lean, 'card_holds'). Laid BY PROGRAM, IN A SANDBOX (cutbox-door.mjs). By AI agents, Wed Nov 11 2026. No macro, syntax, notation, axiom, sorry.
-/
import Derived.Test.YtmiohekmpjiloaaGreatDoorRows
import GoSem.ClaimSeven
namespace Go.Proofs.YtmiohekmpjiloaaGreatDoor
namespace Rows

/-- THE TIED CARD OF 'waybilllaw07.ValueTells'. -/
def valueTellsCard : Claim7 := { stood := { row := valueTellsRow, standIns := [], harness := (true, "a1db207f6e6b037ef9c428ff9752a7fd1d449a74a1de151ebb557c3d07051d25"), looks := true }, kinds := [], alts := [], laidByText := true, laidKinds := [.data, .data, .data], laidTests := true, laidLooks := .later }
def ValueTellsCardSaid : Prop := Claim7.holds Tryz.pinned (.plain (OpenSpec.ofChange valueTellsSpec)) valueTellsCard

/-- THE TIED CARD OF 'waybilllaw07.ValueDefault'. -/
def valueDefaultCard : Claim7 := { stood := { row := valueDefaultRow, standIns := [], harness := (true, "a1db207f6e6b037ef9c428ff9752a7fd1d449a74a1de151ebb557c3d07051d25"), looks := true }, kinds := [], alts := [], laidByText := true, laidKinds := [.data, .data, .data], laidTests := true, laidLooks := .later }
def ValueDefaultCardSaid : Prop := Claim7.holds Tryz.pinned (.plain (OpenSpec.ofChange valueDefaultSpec)) valueDefaultCard

/-- THE TIED CARD OF 'waybilllaw07.ValueOrder'. -/
def valueOrderCard : Claim7 := { stood := { row := valueOrderRow, standIns := [], harness := (true, "a1db207f6e6b037ef9c428ff9752a7fd1d449a74a1de151ebb557c3d07051d25"), looks := true }, kinds := [], alts := [], laidByText := true, laidKinds := [.data, .data, .data], laidTests := true, laidLooks := .later }
def ValueOrderCardSaid : Prop := Claim7.holds Tryz.pinned (.plain (OpenSpec.ofChange valueOrderSpec)) valueOrderCard

/-- THE TIED CARD OF 'waybilllaw07.ValueParts'. -/
def valuePartsCard : Claim7 := { stood := { row := valuePartsRow, standIns := [], harness := (true, "a1db207f6e6b037ef9c428ff9752a7fd1d449a74a1de151ebb557c3d07051d25"), looks := true }, kinds := [], alts := [], laidByText := true, laidKinds := [.data, .data, .data], laidTests := true, laidLooks := .later }
def ValuePartsCardSaid : Prop := Claim7.holds Tryz.pinned (.plain (OpenSpec.ofChange valuePartsSpec)) valuePartsCard

/-- THE TIED CARD OF 'waybilllaw07.ValueWraps'. -/
def valueWrapsCard : Claim7 := { stood := { row := valueWrapsRow, standIns := [], harness := (true, "a1db207f6e6b037ef9c428ff9752a7fd1d449a74a1de151ebb557c3d07051d25"), looks := true }, kinds := [], alts := [], laidByText := true, laidKinds := [.data, .data, .data], laidTests := true, laidLooks := .later }
def ValueWrapsCardSaid : Prop := Claim7.holds Tryz.pinned (.plain (OpenSpec.ofChange valueWrapsSpec)) valueWrapsCard

/-- THE TIED CARD OF 'waybilllaw07.ValueOwn'. -/
def valueOwnCard : Claim7 := { stood := { row := valueOwnRow, standIns := [], harness := (true, "a1db207f6e6b037ef9c428ff9752a7fd1d449a74a1de151ebb557c3d07051d25"), looks := true }, kinds := [], alts := [], laidByText := true, laidKinds := [.data, .data, .data], laidTests := true, laidLooks := .later }
def ValueOwnCardSaid : Prop := Claim7.holds Tryz.pinned (.plain (OpenSpec.ofChange valueOwnSpec)) valueOwnCard

/-- THE SECOND FORM's CARD OF 'waybilllaw07.ValueTells'. -/
def valueTellsUptoCard : Claim7 := { stood := { row := valueTellsUptoRow, standIns := [], harness := (true, "a1db207f6e6b037ef9c428ff9752a7fd1d449a74a1de151ebb557c3d07051d25"), looks := true }, kinds := [], alts := [], laidByText := true, laidKinds := [.data, .data, .data], laidTests := true, laidLooks := .later }
def ValueTellsUptoCardSaid : Prop := Claim7.holds Tryz.pinned (.plain (OpenSpec.upto valueTellsSpec)) valueTellsUptoCard

/-- THE SECOND FORM's CARD OF 'waybilllaw07.ValueDefault'. -/
def valueDefaultUptoCard : Claim7 := { stood := { row := valueDefaultUptoRow, standIns := [], harness := (true, "a1db207f6e6b037ef9c428ff9752a7fd1d449a74a1de151ebb557c3d07051d25"), looks := true }, kinds := [], alts := [], laidByText := true, laidKinds := [.data, .data, .data], laidTests := true, laidLooks := .later }
def ValueDefaultUptoCardSaid : Prop := Claim7.holds Tryz.pinned (.plain (OpenSpec.upto valueDefaultSpec)) valueDefaultUptoCard

/-- THE SECOND FORM's CARD OF 'waybilllaw07.ValueOrder'. -/
def valueOrderUptoCard : Claim7 := { stood := { row := valueOrderUptoRow, standIns := [], harness := (true, "a1db207f6e6b037ef9c428ff9752a7fd1d449a74a1de151ebb557c3d07051d25"), looks := true }, kinds := [], alts := [], laidByText := true, laidKinds := [.data, .data, .data], laidTests := true, laidLooks := .later }
def ValueOrderUptoCardSaid : Prop := Claim7.holds Tryz.pinned (.plain (OpenSpec.upto valueOrderSpec)) valueOrderUptoCard

/-- THE SECOND FORM's CARD OF 'waybilllaw07.ValueParts'. -/
def valuePartsUptoCard : Claim7 := { stood := { row := valuePartsUptoRow, standIns := [], harness := (true, "a1db207f6e6b037ef9c428ff9752a7fd1d449a74a1de151ebb557c3d07051d25"), looks := true }, kinds := [], alts := [], laidByText := true, laidKinds := [.data, .data, .data], laidTests := true, laidLooks := .later }
def ValuePartsUptoCardSaid : Prop := Claim7.holds Tryz.pinned (.plain (OpenSpec.upto valuePartsSpec)) valuePartsUptoCard

/-- THE SECOND FORM's CARD OF 'waybilllaw07.ValueWraps'. -/
def valueWrapsUptoCard : Claim7 := { stood := { row := valueWrapsUptoRow, standIns := [], harness := (true, "a1db207f6e6b037ef9c428ff9752a7fd1d449a74a1de151ebb557c3d07051d25"), looks := true }, kinds := [], alts := [], laidByText := true, laidKinds := [.data, .data, .data], laidTests := true, laidLooks := .later }
def ValueWrapsUptoCardSaid : Prop := Claim7.holds Tryz.pinned (.plain (OpenSpec.upto valueWrapsSpec)) valueWrapsUptoCard

/-- THE SECOND FORM's CARD OF 'waybilllaw07.ValueOwn'. -/
def valueOwnUptoCard : Claim7 := { stood := { row := valueOwnUptoRow, standIns := [], harness := (true, "a1db207f6e6b037ef9c428ff9752a7fd1d449a74a1de151ebb557c3d07051d25"), looks := true }, kinds := [], alts := [], laidByText := true, laidKinds := [.data, .data, .data], laidTests := true, laidLooks := .later }
def ValueOwnUptoCardSaid : Prop := Claim7.holds Tryz.pinned (.plain (OpenSpec.upto valueOwnSpec)) valueOwnUptoCard
end Rows
end Go.Proofs.YtmiohekmpjiloaaGreatDoor
