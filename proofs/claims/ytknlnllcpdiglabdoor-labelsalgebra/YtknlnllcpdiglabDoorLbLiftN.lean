/-
  Texts among the arguments: how they read.
-/
import Derived.Test.YtknlnllcpdiglabDoorLbLift
import Derived.Test.YtknlnllcpdiglabDoorLbPk
namespace Go.Proofs.YtknlnllcpdiglabDoor
open Go.ChangeShapes Go.WideShapes Go.ChangeAt Go.RowKit Go.Lib Go.Shelf

theorem one_str {H : Type} {enc : TypeId × Value → H} {W : World} {n : Nat} {a : Addr} {j : Nat} {cs : List Value} {x : DataW H × List MemPlace} (h1 : W.cells? 0 (a.add (j * Tryd.prog.cellsOf 9)) (Tryd.prog.cellsOf 9) = some cs)
    (h2 : DataW.trod enc Tryd.prog W 0 (fun _ => true) true n 9 cs = some x) : ∃ s : List UInt8, W.cell? (a.add j) = some (.string (ByteArray.mk ⟨s⟩)) := by
  rw [cellsStr] at h1
  obtain ⟨_, hlen, hcell⟩ := World.cells?_some h1
  obtain ⟨s0, w0, x0, f0⟩ := DataW.trod_string Tryd.underlying9 h2
  subst w0
  have e0 := hcell 0 (by omega)
  rw [Go.Deep.add_add, Nat.mul_one, Nat.add_zero] at e0
  exact ⟨s0.data.toList, by rw [mk_data]; simpa using e0⟩
set_option maxRecDepth 8000 in
theorem strs_cell {H : Type} {enc : TypeId × Value → H} {W : World} {fuel : Nat} {u : Value} {x : DataW H × List MemPlace} (hf : DataW.trod enc Tryd.prog W 0 (fun _ => true) true fuel 38 [u] = some x) : ∃ ns, RdN W u ns := by
  rcases Go.Deep.open_slice Tryd.underlying38 hf with ⟨hcs, hx⟩ | ⟨a, l, c, m, n, D, Pl, hcs, hb, hl, hm, hmm, hx, hel⟩
  · simp only [List.cons.injEq, and_true] at hcs
    subst hcs
    exact ⟨[], ⟨none, 0, rfl, by simp, by simp [maxLen], fun j hj => by simp at hj, fun _ => rfl⟩⟩
  · simp only [List.cons.injEq, and_true] at hcs
    subst hcs
    simp only [if_true] at hmm
    have each : ∀ j, j < l → ∃ s : List UInt8, W.cell? (a.add j) = some (.string (ByteArray.mk ⟨s⟩)) := by
      intro j hj
      obtain ⟨cs', h1, h2⟩ := hel j (by omega)
      exact one_str (x := (D j, Pl j)) h1 h2
    obtain ⟨q, hq⟩ := Go.Deep.choose_lt each
    have hlen : ((List.range l).map q).length = l := by simp
    have hgd : ∀ j, j < l → ((List.range l).map q).getD j [] = q j := fun j hj => by simp [List.getD, hj]
    refine ⟨(List.range l).map q, ⟨some a, c, by rw [hlen], by rw [hlen]; omega, hm, fun j hj => ?_, fun h => (by cases h)⟩⟩
    rw [hlen] at hj
    have h0 := hq j hj
    have h00 := hq 0 (by omega)
    obtain ⟨b, off, spot⟩ := a
    have hspot : spot = none := by simpa [Addr.add] using World.cell?_spot h00
    subst hspot
    rw [Go.WideShapes.add_plain] at h0
    rw [hgd j hj]
    exact ⟨b, off, rfl, h0⟩
set_option maxRecDepth 8000 in
theorem open_strs {H : Type} {enc : TypeId × Value → H} {W : World} {base : Nat} {v : Value} {d : DataW H} {p : List MemPlace} (hval : Value.okWide Tryd.prog W .any base 38 v)
    (h : DataW.Trod enc Tryd.prog W 0 (fun _ => true) true 38 v d p) : ∃ ns, RdN W v ns := by
  obtain ⟨a0, len, cap, rfl⟩ := okWide_slice Tryd.underlying38 hval
  obtain ⟨fuel, hf⟩ := h
  exact strs_cell (x := (d, p)) (by simpa [Value.cells] using hf)
set_option maxRecDepth 8000 in
theorem back_strs {H : Type} {enc : TypeId × Value → H} {W W' : World} {v : Value} {d : DataW H} {p : List MemPlace} (h : DataW.Trod enc Tryd.prog W 0 (fun _ => true) true 38 v d p) (hb : Below W.heap.size W W') :
    DataW.Trod enc Tryd.prog W' 0 (fun b => decide (b < W.heap.size)) true 38 v d p :=
  Below.trod laidOut (by kernel_rfl) (of_decide_eq_true (by kernel_rfl)) h hb (by obtain ⟨m, hm⟩ := h; exact DataW.trod_lt m _ _ _ hm)
end Go.Proofs.YtknlnllcpdiglabDoor
