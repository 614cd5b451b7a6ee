/-
  DERIVED. GIVEN WITH THE SEED: THE CARDS: each row of YtkipnkpnkhfjhabGreatDoorRows.lean that lists a variable, with what it lists TIED to the program's text (the seventh form; the later family's looks); each row that meets fmt, with fmt's text TOLD by the authors' own Lean function (tested against real Go, not proved from fmt's source: count such statements apart). THE CARD IS WHAT COUNTS. Prove the row's statement (the work); the ties are given (YtkipnkpnkhfjhabGreatDoorTie.lean); close each card by the builder's one call (the guide's Derived/Test/ToyasCard.lean, 'card_holds'). Laid BY PROGRAM, IN A SANDBOX (cutbox-door.mjs). By AI agents, Wed Nov 11 2026. No macro, syntax, notation, axiom, sorry.
-/
import Derived.Test.YtkipnkpnkhfjhabGreatDoorRows
import GoSem.ClaimSeven
namespace Go.Proofs.YtkipnkpnkhfjhabGreatDoor
namespace Rows

/-- THE TIED CARD OF 'tocsinlaw04.LabelsIds'. -/
def labelsIdsCard : Claim7 := { stood := { row := labelsIdsRow, standIns := [], harness := (true, "4428a3a986e500acd7c159334c9bccb06df3737d498e5cf2f6314aafa7f75f02"), looks := false }, kinds := [], alts := [], laidByText := true, laidKinds := [.data, .pinned], laidTests := true, laidLooks := .later }
def LabelsIdsCardSaid : Prop := Claim7.holds Tryz.pinned (.plain (OpenSpec.ofChange labelsIdsSpec)) labelsIdsCard

/-- THE TIED CARD OF 'tocsinlaw04.LabelsFull'. -/
def labelsFullCard : Claim7 := { stood := { row := labelsFullRow, standIns := [], harness := (true, "4428a3a986e500acd7c159334c9bccb06df3737d498e5cf2f6314aafa7f75f02"), looks := false }, kinds := [], alts := [], laidByText := true, laidKinds := [.data, .pinned], laidTests := true, laidLooks := .later }
def LabelsFullCardSaid : Prop := Claim7.holds Tryz.pinned (.plain (OpenSpec.ofChange labelsFullSpec)) labelsFullCard

/-- THE TIED CARD OF 'tocsinlaw04.LabelsNil'. -/
def labelsNilCard : Claim7 := { stood := { row := labelsNilRow, standIns := [], harness := (true, "4428a3a986e500acd7c159334c9bccb06df3737d498e5cf2f6314aafa7f75f02"), looks := false }, kinds := [], alts := [], laidByText := true, laidKinds := [.data, .pinned], laidTests := true, laidLooks := .later }
def LabelsNilCardSaid : Prop := Claim7.holds Tryz.pinned (.plain (OpenSpec.ofChange labelsNilSpec)) labelsNilCard

/-- THE SECOND FORM's CARD OF 'tocsinlaw04.LabelsIds'. -/
def labelsIdsUptoCard : Claim7 := { stood := { row := labelsIdsUptoRow, standIns := [], harness := (true, "4428a3a986e500acd7c159334c9bccb06df3737d498e5cf2f6314aafa7f75f02"), looks := false }, kinds := [], alts := [], laidByText := true, laidKinds := [.data, .pinned], laidTests := true, laidLooks := .later }
def LabelsIdsUptoCardSaid : Prop := Claim7.holds Tryz.pinned (.plain (OpenSpec.upto labelsIdsSpec)) labelsIdsUptoCard

/-- THE SECOND FORM's CARD OF 'tocsinlaw04.LabelsFull'. -/
def labelsFullUptoCard : Claim7 := { stood := { row := labelsFullUptoRow, standIns := [], harness := (true, "4428a3a986e500acd7c159334c9bccb06df3737d498e5cf2f6314aafa7f75f02"), looks := false }, kinds := [], alts := [], laidByText := true, laidKinds := [.data, .pinned], laidTests := true, laidLooks := .later }
def LabelsFullUptoCardSaid : Prop := Claim7.holds Tryz.pinned (.plain (OpenSpec.upto labelsFullSpec)) labelsFullUptoCard

/-- THE SECOND FORM's CARD OF 'tocsinlaw04.LabelsNil'. -/
def labelsNilUptoCard : Claim7 := { stood := { row := labelsNilUptoRow, standIns := [], harness := (true, "4428a3a986e500acd7c159334c9bccb06df3737d498e5cf2f6314aafa7f75f02"), looks := false }, kinds := [], alts := [], laidByText := true, laidKinds := [.data, .pinned], laidTests := true, laidLooks := .later }
def LabelsNilUptoCardSaid : Prop := Claim7.holds Tryz.pinned (.plain (OpenSpec.upto labelsNilSpec)) labelsNilUptoCard
end Rows
end Go.Proofs.YtkipnkpnkhfjhabGreatDoor
