/-
  DERIVED. GIVEN WITH THE SEED: THE CARDS: each row of YtbnieljkadcaoabGreatDoorRows.lean that lists a variable, with what it lists TIED to the program's text (the seventh form; the later family's looks); each row that meets fmt, with fmt's text TOLD by the authors' own Lean function (tested against real Go, not proved from fmt's source: count such statements apart). THE CARD IS WHAT COUNTS. Prove the row's statement (the work); the ties are given (YtbnieljkadcaoabGreatDoorTie.lean); close each card by the builder's one call (the guide's Derived/Test/ToyasCard.lean, 'card_holds'). Laid BY PROGRAM, IN A SANDBOX (cutbox-door.mjs). By AI agents, Wed Nov 11 2026. No macro, syntax, notation, axiom, sorry.
-/
import Derived.Test.YtbnieljkadcaoabGreatDoorRows
import GoSem.ClaimSeven
namespace Go.Proofs.YtbnieljkadcaoabGreatDoor
namespace Rows

/-- THE TIED CARD OF 'tocsinlaw26.NflogFull'. -/
def nflogFullCard : Claim7 := { stood := { row := nflogFullRow, standIns := [], harness := (true, "5919b9adfcac9cd551934a2132a7a1d3ac507be9510a44f402751c1b4510e300"), looks := false }, kinds := [], alts := [], laidByText := true, laidKinds := [.data, .pinned], laidTests := true, laidLooks := .later }
def NflogFullCardSaid : Prop := Claim7.holds Tryz.pinned (.plain (OpenSpec.ofChange nflogFullSpec)) nflogFullCard

/-- THE TIED CARD OF 'tocsinlaw26.NflogNil'. -/
def nflogNilCard : Claim7 := { stood := { row := nflogNilRow, standIns := [], harness := (true, "5919b9adfcac9cd551934a2132a7a1d3ac507be9510a44f402751c1b4510e300"), looks := false }, kinds := [], alts := [], laidByText := true, laidKinds := [.data, .pinned], laidTests := true, laidLooks := .later }
def NflogNilCardSaid : Prop := Claim7.holds Tryz.pinned (.plain (OpenSpec.ofChange nflogNilSpec)) nflogNilCard

/-- THE SECOND FORM's CARD OF 'tocsinlaw26.NflogFull'. -/
def nflogFullUptoCard : Claim7 := { stood := { row := nflogFullUptoRow, standIns := [], harness := (true, "5919b9adfcac9cd551934a2132a7a1d3ac507be9510a44f402751c1b4510e300"), looks := false }, kinds := [], alts := [], laidByText := true, laidKinds := [.data, .pinned], laidTests := true, laidLooks := .later }
def NflogFullUptoCardSaid : Prop := Claim7.holds Tryz.pinned (.plain (OpenSpec.upto nflogFullSpec)) nflogFullUptoCard

/-- THE SECOND FORM's CARD OF 'tocsinlaw26.NflogNil'. -/
def nflogNilUptoCard : Claim7 := { stood := { row := nflogNilUptoRow, standIns := [], harness := (true, "5919b9adfcac9cd551934a2132a7a1d3ac507be9510a44f402751c1b4510e300"), looks := false }, kinds := [], alts := [], laidByText := true, laidKinds := [.data, .pinned], laidTests := true, laidLooks := .later }
def NflogNilUptoCardSaid : Prop := Claim7.holds Tryz.pinned (.plain (OpenSpec.upto nflogNilSpec)) nflogNilUptoCard
end Rows
end Go.Proofs.YtbnieljkadcaoabGreatDoor
