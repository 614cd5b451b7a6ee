/-
  DERIVED. GIVEN WITH THE SEED: THE CARDS: each row of YtbnieljkadcaoaaDoorRows.lean that lists a variable, with what it lists TIED to the program's text (the seventh form; the later family's looks); each row that meets fmt, with fmt's text TOLD by the authors' own Lean function (tested against real Go, not proved from fmt's source: count such statements apart). THE CARD IS WHAT COUNTS. Prove the row's statement (the work); the ties are given (YtbnieljkadcaoaaDoorTie.lean); close each card by the builder's one call (the guide's Derived/Test/ToyasCard.lean, 'card_holds'). Laid BY PROGRAM, IN A SANDBOX (cutbox-door.mjs). By AI agents, Wed Nov 11 2026. No macro, syntax, notation, axiom, sorry.
-/
import Derived.Test.YtbnieljkadcaoaaDoorRows
import GoSem.ClaimSeven
namespace Go.Proofs.YtbnieljkadcaoaaDoor
namespace Rows

/-- THE TIED CARD OF 'tocsinlaw26.NflogNeeds'. -/
def nflogNeedsCard : Claim7 := { stood := { row := nflogNeedsRow, standIns := [], harness := (true, "3d074d53e9e9e1616da46317fb39f99fec62243377082cb39c7c1dd99dcfcb95"), looks := false }, kinds := [], alts := [], laidByText := true, laidKinds := [.data, .pinned], laidTests := true, laidLooks := .later }
def NflogNeedsCardSaid : Prop := Claim7.holds Tryd.pinned (.plain (OpenSpec.ofChange nflogNeedsSpec)) nflogNeedsCard

/-- THE TIED CARD OF 'tocsinlaw26.NflogOnce'. -/
def nflogOnceCard : Claim7 := { stood := { row := nflogOnceRow, standIns := [], harness := (true, "3d074d53e9e9e1616da46317fb39f99fec62243377082cb39c7c1dd99dcfcb95"), looks := false }, kinds := [], alts := [], laidByText := true, laidKinds := [.data, .pinned], laidTests := true, laidLooks := .later }
def NflogOnceCardSaid : Prop := Claim7.holds Tryd.pinned (.plain (OpenSpec.ofChange nflogOnceSpec)) nflogOnceCard

/-- THE TIED CARD OF 'tocsinlaw26.NflogApart'. -/
def nflogApartCard : Claim7 := { stood := { row := nflogApartRow, standIns := [], harness := (true, "3d074d53e9e9e1616da46317fb39f99fec62243377082cb39c7c1dd99dcfcb95"), looks := false }, kinds := [], alts := [], laidByText := true, laidKinds := [.data, .pinned], laidTests := true, laidLooks := .later }
def NflogApartCardSaid : Prop := Claim7.holds Tryd.pinned (.plain (OpenSpec.ofChange nflogApartSpec)) nflogApartCard

/-- THE SECOND FORM's CARD OF 'tocsinlaw26.NflogNeeds'. -/
def nflogNeedsUptoCard : Claim7 := { stood := { row := nflogNeedsUptoRow, standIns := [], harness := (true, "3d074d53e9e9e1616da46317fb39f99fec62243377082cb39c7c1dd99dcfcb95"), looks := false }, kinds := [], alts := [], laidByText := true, laidKinds := [.data, .pinned], laidTests := true, laidLooks := .later }
def NflogNeedsUptoCardSaid : Prop := Claim7.holds Tryd.pinned (.plain (OpenSpec.upto nflogNeedsSpec)) nflogNeedsUptoCard

/-- THE SECOND FORM's CARD OF 'tocsinlaw26.NflogOnce'. -/
def nflogOnceUptoCard : Claim7 := { stood := { row := nflogOnceUptoRow, standIns := [], harness := (true, "3d074d53e9e9e1616da46317fb39f99fec62243377082cb39c7c1dd99dcfcb95"), looks := false }, kinds := [], alts := [], laidByText := true, laidKinds := [.data, .pinned], laidTests := true, laidLooks := .later }
def NflogOnceUptoCardSaid : Prop := Claim7.holds Tryd.pinned (.plain (OpenSpec.upto nflogOnceSpec)) nflogOnceUptoCard

/-- THE SECOND FORM's CARD OF 'tocsinlaw26.NflogApart'. -/
def nflogApartUptoCard : Claim7 := { stood := { row := nflogApartUptoRow, standIns := [], harness := (true, "3d074d53e9e9e1616da46317fb39f99fec62243377082cb39c7c1dd99dcfcb95"), looks := false }, kinds := [], alts := [], laidByText := true, laidKinds := [.data, .pinned], laidTests := true, laidLooks := .later }
def NflogApartUptoCardSaid : Prop := Claim7.holds Tryd.pinned (.plain (OpenSpec.upto nflogApartSpec)) nflogApartUptoCard
end Rows
end Go.Proofs.YtbnieljkadcaoaaDoor
