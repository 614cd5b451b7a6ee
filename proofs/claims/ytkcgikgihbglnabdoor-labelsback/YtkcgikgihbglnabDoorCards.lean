/-
  DERIVED. GIVEN WITH THE SEED: THE CARDS: each row of YtkcgikgihbglnabDoorRows.lean that lists a variable, with what it lists TIED to the program's text (the seventh form; the later family's looks); each row that meets fmt, with fmt's text TOLD by the authors' own Lean function (tested against real Go, not proved from fmt's source: count such statements apart). THE CARD IS WHAT COUNTS. Prove the row's statement (the work); the ties are given (YtkcgikgihbglnabDoorTie.lean); close each card by the builder's one call (the guide's Derived/Test/ToyasCard.lean, 'card_holds'). Laid BY PROGRAM, IN A SANDBOX (cutbox-door.mjs). By AI agents, Wed Nov 11 2026. No macro, syntax, notation, axiom, sorry.
-/
import Derived.Test.YtkcgikgihbglnabDoorRows
import GoSem.ClaimSeven
namespace Go.Proofs.YtkcgikgihbglnabDoor
namespace Rows

/-- THE TIED CARD OF 'tocsinlaw04.LabelsBack'. -/
def labelsBackCard : Claim7 := { stood := { row := labelsBackRow, standIns := [], harness := (true, "386c4e60af20cafd4b8a67035969f6e18a6afb01a85ef5e07a0fff6f18604d89"), looks := false }, kinds := [], alts := [], laidByText := true, laidKinds := [.data, .pinned], laidTests := true, laidLooks := .later }
def LabelsBackCardSaid : Prop := Claim7.holds Tryd.pinned (.plain (OpenSpec.ofChange labelsBackSpec)) labelsBackCard

/-- THE TIED CARD OF 'tocsinlaw04.LabelsAlgebra'. -/
def labelsAlgebraCard : Claim7 := { stood := { row := labelsAlgebraRow, standIns := [], harness := (true, "386c4e60af20cafd4b8a67035969f6e18a6afb01a85ef5e07a0fff6f18604d89"), looks := false }, kinds := [], alts := [], laidByText := true, laidKinds := [.data, .pinned], laidTests := true, laidLooks := .later }
def LabelsAlgebraCardSaid : Prop := Claim7.holds Tryd.pinned (.plain (OpenSpec.ofChange labelsAlgebraSpec)) labelsAlgebraCard

/-- THE SECOND FORM's CARD OF 'tocsinlaw04.LabelsBack'. -/
def labelsBackUptoCard : Claim7 := { stood := { row := labelsBackUptoRow, standIns := [], harness := (true, "386c4e60af20cafd4b8a67035969f6e18a6afb01a85ef5e07a0fff6f18604d89"), looks := false }, kinds := [], alts := [], laidByText := true, laidKinds := [.data, .pinned], laidTests := true, laidLooks := .later }
def LabelsBackUptoCardSaid : Prop := Claim7.holds Tryd.pinned (.plain (OpenSpec.upto labelsBackSpec)) labelsBackUptoCard

/-- THE SECOND FORM's CARD OF 'tocsinlaw04.LabelsAlgebra'. -/
def labelsAlgebraUptoCard : Claim7 := { stood := { row := labelsAlgebraUptoRow, standIns := [], harness := (true, "386c4e60af20cafd4b8a67035969f6e18a6afb01a85ef5e07a0fff6f18604d89"), looks := false }, kinds := [], alts := [], laidByText := true, laidKinds := [.data, .pinned], laidTests := true, laidLooks := .later }
def LabelsAlgebraUptoCardSaid : Prop := Claim7.holds Tryd.pinned (.plain (OpenSpec.upto labelsAlgebraSpec)) labelsAlgebraUptoCard
end Rows
end Go.Proofs.YtkcgikgihbglnabDoor
