/-
  The document's Make: the walk.
-/
import Derived.Test.YtknlnllcpdiglabDoorLbRs
import Derived.Test.YtknlnllcpdiglabDoorLbRt
namespace Go.Proofs.YtknlnllcpdiglabDoor
open Go.RowKit

theorem OwnL.mono {w : World} {base base' : Nat} {v : Value} {ls : List LbT} (h : OwnL w base v ls) (hb : base' ≤ base) : OwnL w base' v ls := by
  obtain ⟨h1, h2⟩ := h
  refine ⟨h1, ?_⟩
  rcases h2 with h2 | ⟨g, cap, cur, hv, hg, r⟩
  · exact .inl h2
  · exact .inr ⟨g, cap, cur, hv, by omega, r⟩
theorem madeS_nd {ls : List LbT} (hn : ndN ls) : madeS ls = if (rightS (sortN (fullL ls))).1 = 0 then (sortN (fullL ls), 0, 0) else ([], (rightS (sortN (fullL ls))).1, (rightS (sortN (fullL ls))).2) := by
  unfold madeS
  rw [if_pos hn]
theorem madeS_dup {ls : List LbT} (hn : ¬ ndN ls) : madeS ls = ([], 6, 0) := by
  unfold madeS
  rw [if_neg hn]
theorem sort_len (ls : List LbT) : (sortN (fullL ls)).length ≤ ls.length := by rw [(sortN_perm _).length_eq]; exact full_len ls

end Go.Proofs.YtknlnllcpdiglabDoor
