/-
  DERIVED. GIVEN WITH THE SEED: THE CARDS: each row of YtdhkgblbfpbgdabDoorRows.lean that lists a variable, with what it lists TIED to the program's text (the seventh form; the later family's looks); each row that meets fmt, with fmt's text TOLD by the authors' own Lean function (tested against real Go, not proved from fmt's source: count such statements apart). THE CARD IS WHAT COUNTS. Prove the row's statement (the work); the ties are given (YtdhkgblbfpbgdabDoorTie.lean); close each card by the builder's one call (the guide's Derived/Test/ToyasCard.lean, 'card_holds'). Laid BY PROGRAM, IN A SANDBOX (cutbox-door.mjs). By AI agents, Wed Nov 11 2026. No macro, syntax, notation, axiom, sorry.
-/
import Derived.Test.YtdhkgblbfpbgdabDoorRows
import GoSem.ClaimSeven
namespace Go.Proofs.YtdhkgblbfpbgdabDoor
namespace Rows

/-- THE TIED CARD OF 'tocsinlaw08.ChunkNil'. -/
def chunkNilCard : Claim7 := { stood := { row := chunkNilRow, standIns := [], harness := (true, "01fd19d31088c42d46a2d24b0489133de9bf5c39ada3feec70dd2b38aac4ec45"), looks := false }, kinds := [], alts := [], laidByText := true, laidKinds := [.data, .data], laidTests := true, laidLooks := .later }
def ChunkNilCardSaid : Prop := Claim7.holds Tryd.pinned (.plain (OpenSpec.ofChange chunkNilSpec)) chunkNilCard

/-- THE SECOND FORM's CARD OF 'tocsinlaw08.ChunkNil'. -/
def chunkNilUptoCard : Claim7 := { stood := { row := chunkNilUptoRow, standIns := [], harness := (true, "01fd19d31088c42d46a2d24b0489133de9bf5c39ada3feec70dd2b38aac4ec45"), looks := false }, kinds := [], alts := [], laidByText := true, laidKinds := [.data, .data], laidTests := true, laidLooks := .later }
def ChunkNilUptoCardSaid : Prop := Claim7.holds Tryd.pinned (.plain (OpenSpec.upto chunkNilSpec)) chunkNilUptoCard
end Rows
end Go.Proofs.YtdhkgblbfpbgdabDoor
