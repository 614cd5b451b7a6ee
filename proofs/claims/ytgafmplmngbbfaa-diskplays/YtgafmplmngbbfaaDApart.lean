/-
  What a call does to one file changes no other one: plain facts.
-/
import Derived.Test.YtgafmplmngbbfaaDFiles
import Derived.Test.YtgafmplmngbbfaaRefJ
namespace Go.Proofs.Ytgafmplmngbbfaa
open Go.RowKit Go.Maps Go.WideMaps Go.Sort

theorem stepM_other (o : Opm) (M : Fls) (N : Nat) (l : Bs) (hk : 0 ≤ o.kind ∧ o.kind ≤ 4) (hl : l ≠ o.name) (ht : o.kind = 3 → l ≠ o.to) : stepM o M N l = M l := by
  unfold stepM
  by_cases k0 : o.kind = 0
  · rw [if_pos k0]
    unfold appendM
    split
    · exact upd_other _ _ hl
    · rfl
  rw [if_neg k0]
  by_cases k1 : o.kind = 1
  · rw [if_pos k1]
    unfold syncM
    cases M o.name with
    | none => rfl
    | some p => exact upd_other _ _ hl
  rw [if_neg k1]
  by_cases k2 : o.kind = 2
  · rw [if_pos k2]
    unfold cutM
    cases M o.name with
    | none => rfl
    | some p =>
      obtain ⟨c, z⟩ := p
      simp only
      split
      · exact upd_other _ _ hl
      · rfl
  rw [if_neg k2]
  by_cases k3 : o.kind = 3
  · rw [if_pos k3]
    unfold renameM
    split
    · rw [upd_other _ _ (ht k3), upd_other _ _ hl]
    · rfl
  rw [if_neg k3]
  have k4 : o.kind = 4 := by omega
  rw [if_pos k4]
  exact upd_other _ _ hl
/-- a crash of what is crashed changes nothing -/
theorem crashF_again (q k : Nat) (p : Bs × Nat) (hp : p.2 ≤ p.1.length) : crashF q (crashF k p) = crashF k p := by
  obtain ⟨c, z⟩ := p
  simp only at hp
  have h1 : (c.take (z + min k (c.length - z))).length = z + min k (c.length - z) := by rw [List.length_take]; omega
  simp only [crashF, h1]
  have h2 : z + min k (c.length - z) + min q (z + min k (c.length - z) - (z + min k (c.length - z))) = z + min k (c.length - z) := by omega
  rw [h2, List.take_take, Nat.min_self]
/-- what is left of a file is a head of it, with all that was synced -/
theorem crashF_head (k : Nat) (p : Bs × Nat) (hp : p.2 ≤ p.1.length) : (crashF k p).1 = p.1.take (crashF k p).1.length ∧ p.2 ≤ (crashF k p).1.length ∧ (crashF k p).1.length ≤ p.1.length ∧ (crashF k p).2 = (crashF k p).1.length := by
  obtain ⟨c, z⟩ := p
  simp only at hp
  have h1 : (c.take (z + min k (c.length - z))).length = z + min k (c.length - z) := by rw [List.length_take]; omega
  simp only [crashF, h1]
  exact ⟨trivial, by omega, by omega, trivial⟩
theorem OpIn.keep {w w' : World} {v : Value} {o : Opm} (h : OpIn w v o) (hg : w.grownBy w' none) : OpIn w' v o := by
  obtain ⟨ba, bc, va, vc, rfl, h1, h2, h3, h5, h6, h7, h8⟩ := h
  exact ⟨ba, bc, va, vc, rfl, h1.keep hg, h2.keep hg, h3, h5, h6, h7, h8⟩
theorem OpsIn.keep {w w' : World} {v : Value} {os : List Opm} (h : OpsIn w v os) (hg : w.grownBy w' none) : OpsIn w' v os := by
  obtain ⟨a, c, rfl, h1, h2⟩ := h
  refine ⟨a, c, rfl, h1, fun j hj => ?_⟩
  obtain ⟨b, o, hb, x0, x1, x2, x3, x4, x5, ho, y0, y1, y2, y3, y4, y5⟩ := h2 j hj
  exact ⟨b, o, hb, x0, x1, x2, x3, x4, x5, ho.keep hg, cell_keep y0 hg, cell_keep y1 hg, cell_keep y2 hg, cell_keep y3 hg, cell_keep y4 hg, cell_keep y5 hg⟩
/-- the same two disks, seen from an earlier world; a block between the two may then change -/
theorem Duo.early {w W wr wr' : World} {gd gr N : Nat} {M : Fls} (h : Duo W wr gd gr M N) (hg : w.grownBy W none) (hc : Ch wr wr' (fun k => w.heap.size ≤ k ∧ k < W.heap.size)) : Duo w wr' gd gr M N := by
  obtain ⟨Sd, Sr, h⟩ := h
  have hz := hg.size
  have hzc := hc.size
  refine ⟨Sd, Sr, h.d.frame hc (fun k _ hk e => by have := (h.bd k hk).1; omega), h.r.frame hc (fun k _ hk e => by have := (h.br k hk).1; omega), ?_, fun k hk => ?_, fun k hk => ?_⟩
  · exact ((Ch.of_gb (S := fun k => w.heap.size ≤ k ∧ k < W.heap.size) (gb_none hg h.g) (fun k hk => by cases hk)).trans hc (fun _ _ h => h)).gb (fun k hk e => by omega)
  · obtain ⟨a, b, c⟩ := h.bd k hk
    exact ⟨by omega, by omega, c⟩
  · obtain ⟨a, b⟩ := h.br k hk
    exact ⟨by omega, by omega⟩
end Go.Proofs.Ytgafmplmngbbfaa
