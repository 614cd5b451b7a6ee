/-
  DERIVED. GIVEN WITH THE SEED: THE CARDS: each row of YtgbpnkamamafjabDoorRows.lean that lists a variable, with what it lists TIED to the program's text (the seventh form; the later family's looks); each row that meets fmt, with fmt's text TOLD by the authors' own Lean function (tested against real Go, not proved from fmt's source: count such statements apart). THE CARD IS WHAT COUNTS. Prove the row's statement (the work); the ties are given (YtgbpnkamamafjabDoorTie.lean); close each card by the builder's one call (the guide's Derived/Test/ToyasCard.lean, 'card_holds'). Laid BY PROGRAM, IN A SANDBOX (cutbox-door.mjs). By AI agents, Wed Nov 11 2026. No macro, syntax, notation, axiom, sorry.
-/
import Derived.Test.YtgbpnkamamafjabDoorRows
import GoSem.ClaimSeven
namespace Go.Proofs.YtgbpnkamamafjabDoor
namespace Rows

/-- THE TIED CARD OF 'tocsinlaw02.BitsWrite'. -/
def bitsWriteCard : Claim7 := { stood := { row := bitsWriteRow, standIns := [], harness := (true, "7118bc46fe35a9174a5b83a98daa9c1be98c203bb4589b8f1d32215406727c1d"), looks := false }, kinds := [], alts := [], laidByText := true, laidKinds := [.data], laidTests := true, laidLooks := .later }
def BitsWriteCardSaid : Prop := Claim7.holds Tryd.pinned (.plain (OpenSpec.ofChange bitsWriteSpec)) bitsWriteCard

/-- THE TIED CARD OF 'tocsinlaw02.BitsRead'. -/
def bitsReadCard : Claim7 := { stood := { row := bitsReadRow, standIns := [], harness := (true, "7118bc46fe35a9174a5b83a98daa9c1be98c203bb4589b8f1d32215406727c1d"), looks := false }, kinds := [], alts := [], laidByText := true, laidKinds := [.data], laidTests := true, laidLooks := .later }
def BitsReadCardSaid : Prop := Claim7.holds Tryd.pinned (.plain (OpenSpec.ofChange bitsReadSpec)) bitsReadCard

/-- THE TIED CARD OF 'tocsinlaw02.BitsBack'. -/
def bitsBackCard : Claim7 := { stood := { row := bitsBackRow, standIns := [], harness := (true, "7118bc46fe35a9174a5b83a98daa9c1be98c203bb4589b8f1d32215406727c1d"), looks := false }, kinds := [], alts := [], laidByText := true, laidKinds := [.data], laidTests := true, laidLooks := .later }
def BitsBackCardSaid : Prop := Claim7.holds Tryd.pinned (.plain (OpenSpec.ofChange bitsBackSpec)) bitsBackCard

/-- THE TIED CARD OF 'tocsinlaw02.BitsForms'. -/
def bitsFormsCard : Claim7 := { stood := { row := bitsFormsRow, standIns := [], harness := (true, "7118bc46fe35a9174a5b83a98daa9c1be98c203bb4589b8f1d32215406727c1d"), looks := false }, kinds := [], alts := [], laidByText := true, laidKinds := [.data], laidTests := true, laidLooks := .later }
def BitsFormsCardSaid : Prop := Claim7.holds Tryd.pinned (.plain (OpenSpec.ofChange bitsFormsSpec)) bitsFormsCard

/-- THE TIED CARD OF 'tocsinlaw02.BitsFull'. -/
def bitsFullCard : Claim7 := { stood := { row := bitsFullRow, standIns := [], harness := (true, "7118bc46fe35a9174a5b83a98daa9c1be98c203bb4589b8f1d32215406727c1d"), looks := false }, kinds := [], alts := [], laidByText := true, laidKinds := [.data], laidTests := true, laidLooks := .later }
def BitsFullCardSaid : Prop := Claim7.holds Tryd.pinned (.plain (OpenSpec.ofChange bitsFullSpec)) bitsFullCard

/-- THE SECOND FORM's CARD OF 'tocsinlaw02.BitsWrite'. -/
def bitsWriteUptoCard : Claim7 := { stood := { row := bitsWriteUptoRow, standIns := [], harness := (true, "7118bc46fe35a9174a5b83a98daa9c1be98c203bb4589b8f1d32215406727c1d"), looks := false }, kinds := [], alts := [], laidByText := true, laidKinds := [.data], laidTests := true, laidLooks := .later }
def BitsWriteUptoCardSaid : Prop := Claim7.holds Tryd.pinned (.plain (OpenSpec.upto bitsWriteSpec)) bitsWriteUptoCard

/-- THE SECOND FORM's CARD OF 'tocsinlaw02.BitsRead'. -/
def bitsReadUptoCard : Claim7 := { stood := { row := bitsReadUptoRow, standIns := [], harness := (true, "7118bc46fe35a9174a5b83a98daa9c1be98c203bb4589b8f1d32215406727c1d"), looks := false }, kinds := [], alts := [], laidByText := true, laidKinds := [.data], laidTests := true, laidLooks := .later }
def BitsReadUptoCardSaid : Prop := Claim7.holds Tryd.pinned (.plain (OpenSpec.upto bitsReadSpec)) bitsReadUptoCard

/-- THE SECOND FORM's CARD OF 'tocsinlaw02.BitsBack'. -/
def bitsBackUptoCard : Claim7 := { stood := { row := bitsBackUptoRow, standIns := [], harness := (true, "7118bc46fe35a9174a5b83a98daa9c1be98c203bb4589b8f1d32215406727c1d"), looks := false }, kinds := [], alts := [], laidByText := true, laidKinds := [.data], laidTests := true, laidLooks := .later }
def BitsBackUptoCardSaid : Prop := Claim7.holds Tryd.pinned (.plain (OpenSpec.upto bitsBackSpec)) bitsBackUptoCard

/-- THE SECOND FORM's CARD OF 'tocsinlaw02.BitsForms'. -/
def bitsFormsUptoCard : Claim7 := { stood := { row := bitsFormsUptoRow, standIns := [], harness := (true, "7118bc46fe35a9174a5b83a98daa9c1be98c203bb4589b8f1d32215406727c1d"), looks := false }, kinds := [], alts := [], laidByText := true, laidKinds := [.data], laidTests := true, laidLooks := .later }
def BitsFormsUptoCardSaid : Prop := Claim7.holds Tryd.pinned (.plain (OpenSpec.upto bitsFormsSpec)) bitsFormsUptoCard

/-- THE SECOND FORM's CARD OF 'tocsinlaw02.BitsFull'. -/
def bitsFullUptoCard : Claim7 := { stood := { row := bitsFullUptoRow, standIns := [], harness := (true, "7118bc46fe35a9174a5b83a98daa9c1be98c203bb4589b8f1d32215406727c1d"), looks := false }, kinds := [], alts := [], laidByText := true, laidKinds := [.data], laidTests := true, laidLooks := .later }
def BitsFullUptoCardSaid : Prop := Claim7.holds Tryd.pinned (.plain (OpenSpec.upto bitsFullSpec)) bitsFullUptoCard
end Rows
end Go.Proofs.YtgbpnkamamafjabDoor
