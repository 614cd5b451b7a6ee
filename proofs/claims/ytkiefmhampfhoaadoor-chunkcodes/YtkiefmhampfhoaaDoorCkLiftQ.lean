/-
  Samples among the arguments, and how many they can be: how they read.
-/
import Derived.Test.YtkiefmhampfhoaaDoorCkLiftP
namespace Go.Proofs.YtkiefmhampfhoaaDoor
open Go.ChangeShapes Go.WideShapes Go.ChangeAt Go.RowKit

theorem bytesSm : Tryd.prog.bytesOf 27 = 16 := by kernel_rfl
set_option maxRecDepth 8000 in
theorem samples_cellW {H : Type} {enc : TypeId × Value → H} {W : World} {fuel : Nat} {u : Value} {x : DataW H × List MemPlace} (hw : Wt 22 x.1) (hf : DataW.trod enc Tryd.prog W 0 (fun _ => true) true fuel 22 [u] = some x) :
    ∃ l, RdP W u l ∧ SmIn l ∧ l.length ≤ 8796093022208 := by
  rcases Go.Deep.open_slice Tryd.underlying22 hf with ⟨hcs, hx⟩ | ⟨a, l, c, m, n, D, Pl, hcs, hb, hl, hm, hmm, hx, hel⟩
  · simp only [List.cons.injEq, and_true] at hcs
    subst hcs
    exact ⟨[], ⟨none, 0, rfl, by simp, by simp [maxLen], fun j hj => by simp at hj⟩, (fun y hy => by cases hy), by simp⟩
  · simp only [List.cons.injEq, and_true] at hcs
    subst hcs
    simp only [if_true] at hmm
    have each : ∀ j, j < l → ∃ q : SmpT, W.cell? (a.add (j * 2)) = some (.int .i64 q.1) ∧ W.cell? (a.add (j * 2 + 1)) = some (.float .f64 q.2) ∧ (Lit.int .i64 q.1).wf = true ∧ (Lit.float .f64 q.2).wf = true := by
      intro j hj
      obtain ⟨cs', h1, h2⟩ := hel j (by omega)
      exact one_sample h1 h2
    obtain ⟨q, hq⟩ := Go.Deep.choose_lt each
    have hlen : ((List.range l).map q).length = l := by simp
    have hgd : ∀ j, j < l → ((List.range l).map q).getD j smZ = q j := fun j hj => by simp [List.getD, hj]
    refine ⟨(List.range l).map q, ⟨some a, c, by rw [hlen], by rw [hlen]; omega, hm, fun j hj => ?_⟩, fun y hy => ?_, ?_⟩
    · rw [hlen] at hj
      obtain ⟨h0, h1, -, -⟩ := hq j hj
      have h00 := (hq 0 (by omega)).1
      obtain ⟨b, off, spot⟩ := a
      have hspot : spot = none := by simpa [Addr.add] using World.cell?_spot h00
      subst hspot
      rw [Go.WideShapes.add_plain] at h0 h1
      rw [hgd j hj]
      exact ⟨b, off, rfl, h0, by rw [Nat.add_assoc]; exact h1⟩
    · obtain ⟨j, hj, rfl⟩ := List.mem_map.1 hy
      have := (hq j (List.mem_range.1 hj)).2.2
      exact ⟨i64_bd this.1, f64_bd this.2⟩
    · rw [hlen]
      rw [hx] at hw
      have hwe := (Wt.elem hw Tryd.underlying22).1
      rw [bytesSm] at hwe
      simp only [List.length_map, List.length_range, reachBytes] at hwe
      omega
set_option maxRecDepth 8000 in
theorem open_samplesW {H : Type} {enc : TypeId × Value → H} {W : World} {base : Nat} {v : Value} {d : DataW H} {p : List MemPlace} (hw : Wt 22 d) (hval : Value.okWide Tryd.prog W .any base 22 v)
    (h : DataW.Trod enc Tryd.prog W 0 (fun _ => true) true 22 v d p) : ∃ l, RdP W v l ∧ SmIn l ∧ l.length ≤ 8796093022208 := by
  obtain ⟨a0, len, cap, rfl⟩ := okWide_slice Tryd.underlying22 hval
  obtain ⟨fuel, hf⟩ := h
  exact samples_cellW (x := (d, p)) hw (by simpa [Value.cells] using hf)
end Go.Proofs.YtkiefmhampfhoaaDoor
