/-
  DERIVED. GIVEN WITH THE SEED: THE CARDS: each row of YtfmgkpgflbidkaaGreatDoorRRows.lean that lists a variable, with what it lists TIED to the program's text (the seventh form; the later family's looks); each row that meets fmt, with fmt's text TOLD by the authors' own Lean function (tested against real Go, not proved from fmt's source: count such statements apart). THE CARD IS WHAT COUNTS. Prove the row's statement (the work); the ties are given (YtfmgkpgflbidkaaGreatDoorRTie.lean); close each card by the builder's one call (the guide's Derived/Test/ToyasCard.lean, 'card_holds'). Laid BY PROGRAM, IN A SANDBOX (cutbox-door.mjs). By AI agents, Wed Nov 11 2026. No macro, syntax, notation, axiom, sorry.
-/
import Derived.Test.YtfmgkpgflbidkaaGreatDoorRRows
import GoSem.ClaimSeven
namespace Go.Proofs.YtfmgkpgflbidkaaGreatDoorR
namespace Rows

/-- THE TIED CARD OF 'tocsinlaw26.NflogPlays'. -/
def nflogPlaysCard : Claim7 := { stood := { row := nflogPlaysRow, standIns := [], harness := (true, "151af61b66bcc7c4486f51d70faf3922a3e6f468651c499286b57a15e09ee091"), looks := false }, kinds := [], alts := [], laidByText := true, laidKinds := [.data, .pinned], laidTests := true, laidLooks := .later }
def NflogPlaysCardSaid : Prop := Claim7.holds Tryz.pinned (.plain (OpenSpec.ofChange nflogPlaysSpec)) nflogPlaysCard

/-- THE TIED CARD OF 'tocsinlaw26.NflogRecords'. -/
def nflogRecordsCard : Claim7 := { stood := { row := nflogRecordsRow, standIns := [], harness := (true, "151af61b66bcc7c4486f51d70faf3922a3e6f468651c499286b57a15e09ee091"), looks := false }, kinds := [], alts := [], laidByText := true, laidKinds := [.data, .pinned], laidTests := true, laidLooks := .later }
def NflogRecordsCardSaid : Prop := Claim7.holds Tryz.pinned (.plain (OpenSpec.ofChange nflogRecordsSpec)) nflogRecordsCard

/-- THE SECOND FORM's CARD OF 'tocsinlaw26.NflogPlays'. -/
def nflogPlaysUptoCard : Claim7 := { stood := { row := nflogPlaysUptoRow, standIns := [], harness := (true, "151af61b66bcc7c4486f51d70faf3922a3e6f468651c499286b57a15e09ee091"), looks := false }, kinds := [], alts := [], laidByText := true, laidKinds := [.data, .pinned], laidTests := true, laidLooks := .later }
def NflogPlaysUptoCardSaid : Prop := Claim7.holds Tryz.pinned (.plain (OpenSpec.upto nflogPlaysSpec)) nflogPlaysUptoCard

/-- THE SECOND FORM's CARD OF 'tocsinlaw26.NflogRecords'. -/
def nflogRecordsUptoCard : Claim7 := { stood := { row := nflogRecordsUptoRow, standIns := [], harness := (true, "151af61b66bcc7c4486f51d70faf3922a3e6f468651c499286b57a15e09ee091"), looks := false }, kinds := [], alts := [], laidByText := true, laidKinds := [.data, .pinned], laidTests := true, laidLooks := .later }
def NflogRecordsUptoCardSaid : Prop := Claim7.holds Tryz.pinned (.plain (OpenSpec.upto nflogRecordsSpec)) nflogRecordsUptoCard
end Rows
end Go.Proofs.YtfmgkpgflbidkaaGreatDoorR
