/-
  One label: what is wrong of it, by the document and by the project: the walks.
-/
import Derived.Test.YtknlnllcpdiglabDoorLbR2
import Derived.Test.YtknlnllcpdiglabDoorU8Ref2
namespace Go.Proofs.YtknlnllcpdiglabDoor
open Go.RowKit Go.Lib

/-- what is wrong of a label -/
def oneE (n v : List UInt8) : Int := if nameB n = false then 40 else if v = [] then 41 else if 256 < v.length then 4 else if validD v = false then 12 else 0

theorem empty_facts {v : List UInt8} (h : ¬ v = []) : (ByteArray.mk ⟨v⟩).toList.isEmpty = false ∧ ¬ (ByteArray.mk ⟨v⟩).toList = [] ∧ v.isEmpty = false := by
  refine ⟨?_, ?_, ?_⟩
  · rw [ByteArray.toList_eq]; cases v with | nil => exact absurd rfl h | cons c t => rfl
  · rw [ByteArray.toList_eq]; exact h
  · cases v with | nil => exact absurd rfl h | cons c t => rfl

/-- the label's own box -/
def Bx (w : World) (b0 : Nat) (sn sv : ByteArray) (W : World) : Prop := W.heap[b0]? = some (.cells #[.string sn, .string sv] 42 (0, 0)) ∧ w.grownBy W none
theorem Bx.cells {w W : World} {b0 : Nat} {sn sv : ByteArray} (h : Bx w b0 sn sv W) : W.cell? ⟨b0, 0, none⟩ = some (.string sn) ∧ W.cell? ⟨b0, 1, none⟩ = some (.string sv) := ⟨by simp [World.cell?, h.1], by simp [World.cell?, h.1]⟩
theorem Bx.keep {w W W' : World} {b0 : Nat} {sn sv : ByteArray} (h : Bx w b0 sn sv W) (hg : W.grownBy W' none) : Bx w b0 sn sv W' :=
  ⟨(hg.block b0 (Array.getElem?_eq_some_iff.1 h.1).1 (by simp)).trans h.1, gb_none h.2 hg⟩

end Go.Proofs.YtknlnllcpdiglabDoor
