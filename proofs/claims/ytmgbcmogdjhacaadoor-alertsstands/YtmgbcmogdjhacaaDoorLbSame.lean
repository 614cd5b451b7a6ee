/-
  Labels held against others: what the law's own same, Kept come to: the walks.
-/
import Derived.Test.YtmgbcmogdjhacaaDoorLbLent
namespace Go.Proofs.YtmgbcmogdjhacaaDoor
open Go.RowKit

theorem strq (a b : List UInt8) : ((ByteArray.mk ⟨a⟩).toList == (ByteArray.mk ⟨b⟩).toList) = decide (a = b) := by
  rw [ByteArray.toList_eq, ByteArray.toList_eq]
  show (a == b) = decide (a = b)
  rw [Bool.eq_iff_iff]
  simp
theorem lb_ext {ls ms : List LbT} (hl : ls.length = ms.length) (h : ∀ j, j < ls.length → ls.getD j ([], []) = ms.getD j ([], [])) : ls = ms := by
  apply List.ext_getElem hl
  intro j h1 h2
  have := h j h1
  simpa [h1, h2] using this

/-- what was lent reads as it was -/
def LentL (w : World) (base g cap : Nat) (ls : List LbT) : Prop := OwnL w base (.slice (some ⟨g, 0, none⟩) (ls.length + 1) cap) (ls ++ [(mkA, mkB)])
theorem OwnL.keep {w w' : World} {base : Nat} {v : Value} {ls : List LbT} (h : OwnL w base v ls) (hg : w.grownBy w' none) : OwnL w' base v ls := by
  refine World.ownsRow.kept h hg ?_
  cases hv : v.ownBlock with
  | none => exact .inl rfl
  | some k => exact .inr (by simp)
theorem LentL.rd {w : World} {base g cap : Nat} {ls : List LbT} (h : LentL w base g cap ls) : RdL w (.slice (some ⟨g, 0, none⟩) ls.length cap) ls ∧ w.cell? ⟨g, ls.length * 2, none⟩ = some (.string (ByteArray.mk ⟨mkA⟩)) ∧ ls.length + 1 ≤ cap ∧ cap ≤ 9223372036854775807 := by
  obtain ⟨a, c, he, hc1, hc2, h4, -⟩ := OwnL.rd h
  rw [List.length_append] at he hc1 h4
  simp only [Value.slice.injEq] at he
  obtain ⟨rfl, -, rfl⟩ := he
  simp only [List.length_cons, List.length_nil] at hc1 h4
  refine ⟨⟨_, cap, rfl, by omega, hc2, fun j hj => ?_, fun h => by cases h⟩, ?_, by omega, by unfold maxLen at hc2; exact hc2⟩
  · obtain ⟨b, o, e, c0, c1⟩ := h4 j (by omega)
    have hgd : (ls ++ [(mkA, mkB)]).getD j ([], []) = ls.getD j ([], []) := by simp [List.getElem?_append_left hj]
    rw [hgd] at c0 c1
    exact ⟨b, o, e, c0, c1⟩
  · obtain ⟨b, o, e, c0, -⟩ := h4 ls.length (by omega)
    have hgd : (ls ++ [(mkA, mkB)]).getD ls.length ([], []) = (mkA, mkB) := by simp
    rw [hgd] at c0
    cases e
    simpa using c0

end Go.Proofs.YtmgbcmogdjhacaaDoor
