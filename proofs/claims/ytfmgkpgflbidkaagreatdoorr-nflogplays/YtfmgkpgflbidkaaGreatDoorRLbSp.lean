/-
  Labels written over: what the law's own Spoil comes to: the walk. A label stored into a list of the call's own.
-/
import Derived.Test.YtfmgkpgflbidkaaGreatDoorRLhA
namespace Go.Proofs.YtfmgkpgflbidkaaGreatDoorR
open Go.RowKit

theorem lbf_set (ls : List LbT) : ∀ (j : Nat) (x : LbT), lbf (ls.set j x) = ((lbf ls).set (j * 2) (.string (ByteArray.mk ⟨x.1⟩))).set (j * 2 + 1) (.string (ByteArray.mk ⟨x.2⟩)) := by
  induction ls with
  | nil => intro j x; rfl
  | cons y t ih =>
    intro j x
    have e : ∀ z : LbT, ∀ u : List LbT, lbf (z :: u) = .string (ByteArray.mk ⟨z.1⟩) :: .string (ByteArray.mk ⟨z.2⟩) :: lbf u := fun _ _ => rfl
    cases j with
    | zero => rw [List.set_cons_zero, e, e]; simp
    | succ j => rw [List.set_cons_succ, e, e, ih, show (j + 1) * 2 = j * 2 + 1 + 1 by omega]; simp
/-- a label stored -/
theorem OwnL.set {w : World} {base g n cap : Nat} {ls : List LbT} (h : OwnL w base (.slice (some ⟨g, 0, none⟩) n cap) ls) (j : Nat) (x : LbT) :
    OwnL ((w.setCell ⟨g, j * 2, none⟩ (.string (ByteArray.mk ⟨x.1⟩))).setCell ⟨g, j * 2 + 1, none⟩ (.string (ByteArray.mk ⟨x.2⟩))) base (.slice (some ⟨g, 0, none⟩) n cap) (ls.set j x) ∧
    w.grownBy ((w.setCell ⟨g, j * 2, none⟩ (.string (ByteArray.mk ⟨x.1⟩))).setCell ⟨g, j * 2 + 1, none⟩ (.string (ByteArray.mk ⟨x.2⟩))) (some g) := by
  have hn : n = ls.length := by
    rcases h.2 with ⟨h', _⟩ | ⟨_, _, _, h', _⟩
    · simp at h'
    · simp at h'; exact h'.2.1
  subst hn
  obtain ⟨h1, g1⟩ := World.ownsRow.stored h (j * 2) (.string (ByteArray.mk ⟨x.1⟩))
  obtain ⟨h2, g2⟩ := World.ownsRow.stored h1 (j * 2 + 1) (.string (ByteArray.mk ⟨x.2⟩))
  refine ⟨?_, gb_trans g1 g2 (fun k hk _ => hk.symm)⟩
  unfold OwnL
  rw [List.length_set, lbf_set]
  exact h2
theorem OwnL.frozen {w : World} {base g n cap : Nat} {ls : List LbT} (h : OwnL w base (.slice (some ⟨g, 0, none⟩) n cap) ls) (j : Nat) : w.frozen? ⟨g, j, none⟩ = false := by
  have hn : n = ls.length := by
    rcases h.2 with ⟨h', _⟩ | ⟨_, _, _, h', _⟩
    · simp at h'
    · simp at h'; exact h'.2.1
  subst hn
  exact World.ownsRow.frozenAt h j
theorem OwnL.form {w : World} {base : Nat} {v : Value} {ls : List LbT} (h : OwnL w base v ls) (hl : 0 < ls.length) : ∃ g cap, v = .slice (some ⟨g, 0, none⟩) ls.length cap ∧ base ≤ g ∧ g < w.heap.size ∧ ls.length ≤ cap ∧ cap ≤ 9223372036854775807 ∧ ∀ j, j < ls.length → w.cell? ⟨g, j * 2, none⟩ = some (.string (ByteArray.mk ⟨(ls.getD j ([], [])).1⟩)) ∧ w.cell? ⟨g, j * 2 + 1, none⟩ = some (.string (ByteArray.mk ⟨(ls.getD j ([], [])).2⟩)) := by
  have h0 := h
  rcases h.2 with ⟨rfl, hn⟩ | ⟨g, cap, cur, rfl, hbg, hh, hnc, hcm, hcs, htake⟩
  · omega
  · refine ⟨g, cap, rfl, hbg, (Array.getElem?_eq_some_iff.1 hh).1, hnc, by unfold maxLen at hcm; exact hcm, fun j hj => ?_⟩
    have hg := lbf_get ls j hj
    have hc := World.ownsRow.cells h0 rfl
    have c0 := hc _ _ hg.1
    have c1 := hc _ _ hg.2
    rw [Go.WideShapes.add_plain] at c0 c1
    simp only [Nat.zero_add] at c0 c1
    exact ⟨c0, c1⟩
theorem OwnL.shape {w : World} {base : Nat} {v : Value} {ls : List LbT} (h : OwnL w base v ls) : ∃ a c, v = .slice a ls.length c := by
  rcases h.2 with ⟨rfl, hn⟩ | ⟨g, cap, cur, rfl, _⟩
  · exact ⟨none, 0, by rw [hn]⟩
  · exact ⟨_, _, rfl⟩
theorem OwnL.lt {w : World} {base : Nat} {v : Value} {ls : List LbT} (h : OwnL w base v ls) : ∀ k, v.ownBlock = some k → base ≤ k ∧ k < w.heap.size := World.ownsRow.lt h
theorem gbs (w : World) (g j : Nat) (u : Value) : w.grownBy (w.setCell ⟨g, j, none⟩ u) (some g) :=
  ⟨rfl, rfl, rfl, by simp, fun k _ hk => Below.heap_setCell _ _ _ _ (fun e => hk (by rw [e]))⟩
def spB : List UInt8 := [115, 112, 111, 105, 108, 116]

end Go.Proofs.YtfmgkpgflbidkaaGreatDoorR
