/-
  From a walk to a statement over a program that lists the table of widths.
-/
import Derived.Test.YtgbpnkamamafjabDoorCards
import Derived.Test.YtgbpnkamamafjabDoorTie
import Derived.Test.YtgbpnkamamafjabDoorBitsA
import Derived.ProofKit
import Derived.OpenShut
import Derived.ShutString
import Derived.ChangeOld
import Derived.SizedLaws
import Derived.Deep.DeepHandedRow
import Derived.Lib.LaidTab
import Derived.LaidLaws
namespace Go.Proofs.YtgbpnkamamafjabDoor
open Go.ChangeShapes Go.WideShapes Go.ChangeAt Go.RowKit

theorem own : ownKnob Tryd.prog.godebug = none := by kernel_rfl
theorem laidOut : laidOutB Tryd.prog = true := by kernel_rfl
/-- A WORLD FOR THE WITNESS: the settled one, the table of widths holding what its initialiser lays. -/
noncomputable def laidWorld (os : Os) : World :=
  { World.holding Tryd.prog os ⟨#[], #[], []⟩ with heap := (World.holding Tryd.prog os ⟨#[], #[], []⟩).heap.modify 0 fun
      | .cells _ t frozen => .cells #[.int .i64 0, .int .i64 3, .int .i64 6, .int .i64 9, .int .i64 12, .int .i64 18, .int .i64 25, .int .i64 56, .int .i64 64] t frozen
      | o => o }
theorem u64_of {z : Int} (h : (Lit.int .u64 z).wf = true) : ∃ x : BitVec 64, z = I64 x := by
  have hz : 0 ≤ z ∧ z ≤ 18446744073709551615 := by simpa [Lit.wf, IntKind.min, IntKind.max, IntKind.signed, IntKind.bits] using h
  refine ⟨BitVec.ofNat 64 z.toNat, ?_⟩
  simp only [I64, BitVec.toNat_ofNat]
  omega
theorem i64_bd {z : Int} (h : (Lit.int .i64 z).wf = true) : -9223372036854775808 ≤ z ∧ z ≤ 9223372036854775807 := by
  simpa [Lit.wf, IntKind.min, IntKind.max, IntKind.signed, IntKind.bits] using h
end Go.Proofs.YtgbpnkamamafjabDoor
