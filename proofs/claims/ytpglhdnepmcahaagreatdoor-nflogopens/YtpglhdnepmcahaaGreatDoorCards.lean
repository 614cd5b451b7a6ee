/-
  DERIVED. GIVEN WITH THE SEED: THE CARDS: each row of YtpglhdnepmcahaaGreatDoorRows.lean that lists a variable, with what it lists TIED to the program's text (the seventh form; the later family's looks); each row that meets fmt, with fmt's text TOLD by the authors' own Lean function (tested against real Go, not proved from fmt's source: count such statements apart). THE CARD IS WHAT COUNTS. Prove the row's statement (the work); the ties are given (YtpglhdnepmcahaaGreatDoorTie.lean); close each card by the builder's one call (the guide's Derived/Test/ToyasCard.lean, 'card_holds'). Laid BY PROGRAM, IN A SANDBOX (cutbox-door.mjs). By AI agents, Wed Nov 11 2026. No macro, syntax, notation, axiom, sorry.
-/
import Derived.Test.YtpglhdnepmcahaaGreatDoorRows
import GoSem.ClaimSeven
namespace Go.Proofs.YtpglhdnepmcahaaGreatDoor
namespace Rows

/-- THE TIED CARD OF 'tocsinlaw26.NflogOpens'. -/
def nflogOpensCard : Claim7 := { stood := { row := nflogOpensRow, standIns := [], harness := (true, "6319055bf7a013d429751893520eaa0616657f9642bda208cab390d89bd9123c"), looks := false }, kinds := [], alts := [], laidByText := true, laidKinds := [.data, .pinned], laidTests := true, laidLooks := .later }
def NflogOpensCardSaid : Prop := Claim7.holds Tryz.pinned (.plain (OpenSpec.ofChange nflogOpensSpec)) nflogOpensCard

/-- THE SECOND FORM's CARD OF 'tocsinlaw26.NflogOpens'. -/
def nflogOpensUptoCard : Claim7 := { stood := { row := nflogOpensUptoRow, standIns := [], harness := (true, "6319055bf7a013d429751893520eaa0616657f9642bda208cab390d89bd9123c"), looks := false }, kinds := [], alts := [], laidByText := true, laidKinds := [.data, .pinned], laidTests := true, laidLooks := .later }
def NflogOpensUptoCardSaid : Prop := Claim7.holds Tryz.pinned (.plain (OpenSpec.upto nflogOpensSpec)) nflogOpensUptoCard
end Rows
end Go.Proofs.YtpglhdnepmcahaaGreatDoor
