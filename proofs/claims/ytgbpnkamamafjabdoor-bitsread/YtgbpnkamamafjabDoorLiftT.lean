/-
  What a statement's own list gives of the table of widths.
-/
import Derived.Test.YtgbpnkamamafjabDoorLiftW
import Derived.Test.YtgbpnkamamafjabDoorBitsI
namespace Go.Proofs.YtgbpnkamamafjabDoor
open Go.ChangeShapes Go.WideShapes Go.ChangeAt Go.RowKit

theorem gTabW : Tryd.prog.globalNamed "tocsin/bits.widths" = some 0 := by kernel_rfl
theorem gTabWType : (Tryd.prog.globals[0]?).map (·.type) = some 66 := by kernel_rfl
theorem cellsTW : Tryd.prog.cellsOf 66 = 9 := by kernel_rfl
theorem cellsInt : Tryd.prog.cellsOf 3 = 1 := by kernel_rfl
theorem tabw_of {W : World} (h : laidMetH Tryd.prog Rows.bitsFullRow.laid W) : TabW W := by
  have ht : Lib.TabIs Tryd.prog W "tocsin/bits.widths" .i64 [0, 3, 6, 9, 12, 18, 25, 56, 64] :=
    Lib.tabIs_of_head (rest := []) gTabW gTabWType Tryd.underlying66 Tryd.underlying3 cellsInt cellsTW h
  intro j hj
  rw [ht.cell gTabW j (by simpa using hj)]
  rcases (show j = 0 ∨ j = 1 ∨ j = 2 ∨ j = 3 ∨ j = 4 ∨ j = 5 ∨ j = 6 ∨ j = 7 ∨ j = 8 by omega) with rfl | rfl | rfl | rfl | rfl | rfl | rfl | rfl | rfl <;> rfl
theorem wrap_u64 (n : Int) : IntKind.u64.wrap n = I64 (BitVec.ofInt 64 n) := by
  rw [IntKind.wrap_u64]
  unfold I64
  rw [BitVec.toNat_ofInt]
  have : (n % 18446744073709551616) = ((n % 18446744073709551616).toNat : Int) := (Int.toNat_of_nonneg (Int.emod_nonneg _ (by decide))).symm
  first | exact this | (simp; omega)
end Go.Proofs.YtgbpnkamamafjabDoor
