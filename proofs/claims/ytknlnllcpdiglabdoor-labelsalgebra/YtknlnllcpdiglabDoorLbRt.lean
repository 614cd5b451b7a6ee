/-
  The document's twice: the walk.
-/
import Derived.Test.YtknlnllcpdiglabDoorLbMd
namespace Go.Proofs.YtknlnllcpdiglabDoor
open Go.RowKit

theorem nd_of_all {ls : List LbT} (h : ∀ j, j < ls.length → ∀ i, i < j → (ls.getD i ([], [])).1 ≠ (ls.getD j ([], [])).1) : ndN ls := by
  refine List.pairwise_iff_getElem.2 fun i j hi hj hij => ?_
  have := h j hj i hij
  have e1 : ls.getD j ([], []) = ls[j] := by simp [List.getD, hj]
  have e2 : ls.getD i ([], []) = ls[i] := by simp [List.getD, hi]
  rwa [e1, e2] at this
theorem not_nd_of {ls : List LbT} {i j : Nat} (hj : j < ls.length) (hi : i < j) (h : (ls.getD i ([], [])).1 = (ls.getD j ([], [])).1) : ¬ ndN ls := by
  intro hn
  have := List.pairwise_iff_getElem.1 hn i j (by omega) hj hi
  have e1 : ls.getD j ([], []) = ls[j] := by simp [List.getD, hj]
  have e2 : ls.getD i ([], []) = ls[i]'(by omega) := by simp [List.getD, show i < ls.length by omega]
  rw [e1, e2] at h
  exact this h

end Go.Proofs.YtknlnllcpdiglabDoor
