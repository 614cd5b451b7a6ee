/-
  Calls of a numbering among the arguments: how they read.
-/
import Derived.Test.YtkcgikgihbglnabGreatDoorLbLift
import Derived.Test.YtkcgikgihbglnabGreatDoorLawLbIds
namespace Go.Proofs.YtkcgikgihbglnabGreatDoor
open Go.ChangeShapes Go.WideShapes Go.ChangeAt Go.RowKit Go.Lib Go.Shelf

theorem cellsLop : Tryz.prog.cellsOf 31 = 3 := by kernel_rfl
theorem cellsLbs : Tryz.prog.cellsOf 29 = 1 := by kernel_rfl
theorem cellsIntL : Tryz.prog.cellsOf 3 = 1 := by kernel_rfl
theorem bytesLop : Tryz.prog.bytesOf 31 = 40 := by kernel_rfl
theorem wf_range {n : Int} (h : (Lit.int .i64 n).wf = true) : -9223372036854775808 ≤ n ∧ n ≤ 9223372036854775807 := by
  simp [Lit.wf, IntKind.min, IntKind.max, IntKind.signed, IntKind.bits] at h
  omega
set_option maxRecDepth 8000 in
/-- a call, as its three cells -/
theorem lop_cells {H : Type} {enc : TypeId × Value → H} {W : World} {n : Nat} {cs : List Value} {x : DataW H × List MemPlace} (hw : Wt 31 x.1)
    (h2 : DataW.trod enc Tryz.prog W 0 (fun _ => true) true n 31 cs = some x) : ∃ (u : Value) (o : LopT), cs = [.int .i64 o.1, u, .int .i64 o.2.2] ∧ RdL W u o.2.1 ∧ LbIn o.2.1 ∧ o.2.1.length ≤ 4398046511104 ∧ -9223372036854775808 ≤ o.2.2 ∧ o.2.2 ≤ 9223372036854775807 := by
  obtain ⟨xs, k, hk0, hxy, hcl, hxl, hf⟩ := DataW.trod_struct Tryz.underlying31 h2
  rw [cellsLop] at hcl
  match cs, hcl with
  | [v0, v1, v2], _ =>
    match xs, hxl with
    | [y0, y1, y2], _ =>
      have g0 := hf 0 _ rfl
      have g1 := hf 1 _ rfl
      have g2 := hf 2 _ rfl
      simp [cellsLbs, cellsIntL] at g0 g1 g2
      obtain ⟨z0, w0, -, -⟩ := DataW.trod_int Tryz.underlying3 g0
      obtain ⟨z2, w2, -, f2⟩ := DataW.trod_int Tryz.underlying3 g2
      rw [hxy] at hw
      obtain ⟨ls, hr, hl, hb⟩ := labels_cell (hw.part Tryz.underlying31 1 rfl rfl) g1
      simp only [List.cons.injEq, and_true] at w0 w2
      subst w0 w2
      have hwf := wf_range f2
      exact ⟨v1, (z0, ls, z2), rfl, hr, hl, hb, hwf.1, hwf.2⟩
set_option maxRecDepth 8000 in
theorem open_lops {H : Type} {enc : TypeId × Value → H} {W : World} {base : Nat} {v : Value} {d : DataW H} {p : List MemPlace} (hw : Wt 22 d) (hval : Value.okWide Tryz.prog W .any base 22 v)
    (h : DataW.Trod enc Tryz.prog W 0 (fun _ => true) true 22 v d p) : ∃ os, LopsIn W v os := by
  obtain ⟨a0, len, cap, rfl⟩ := okWide_slice Tryz.underlying22 hval
  obtain ⟨fuel, hf⟩ := h
  rcases Go.Deep.open_slice Tryz.underlying22 hf with ⟨hcs, hx⟩ | ⟨a, l, c, m, n, D, Pl, hcs, hb, hl, hm, hmm, hx, hel⟩
  · simp [Value.cells] at hcs
    obtain ⟨rfl, rfl, rfl⟩ := hcs
    exact ⟨[], none, 0, rfl, by simp, by simp, fun j hj => by simp at hj⟩
  · simp [Value.cells] at hcs
    obtain ⟨rfl, rfl, rfl⟩ := hcs
    simp only [if_true] at hmm
    have hd : d = .slice ((List.range len).map D) ((List.range (m - len)).map fun j => D (len + j)) := congrArg Prod.fst hx
    rw [hd] at hw
    have hwe := Wt.elem hw Tryz.underlying22
    have hl42 : len ≤ 4398046511104 := by
      have := hwe.1
      rw [bytesLop] at this
      simp only [List.length_map, List.length_range, reachBytes] at this
      omega
    have each : ∀ j, j < len → ∃ q : Value × LopT, (RdL W q.1 q.2.2.1 ∧ LbIn q.2.2.1 ∧ q.2.2.1.length ≤ 4398046511104 ∧ -9223372036854775808 ≤ q.2.2.2 ∧ q.2.2.2 ≤ 9223372036854775807) ∧ W.cell? (a.add (j * 3)) = some (.int .i64 q.2.1) ∧ W.cell? (a.add (j * 3 + 1)) = some q.1 ∧ W.cell? (a.add (j * 3 + 2)) = some (.int .i64 q.2.2.2) := by
      intro j hj
      obtain ⟨cs', h1, h2⟩ := hel j (by omega)
      have hbj : Wt 31 (D j) := hwe.2 _ (List.mem_map.2 ⟨j, List.mem_range.2 hj, rfl⟩)
      obtain ⟨u, o, rfl, ho⟩ := lop_cells (x := (D j, Pl j)) hbj h2
      rw [cellsLop] at h1
      obtain ⟨_, hlen, hcell⟩ := World.cells?_some h1
      have e0 := hcell 0 (by omega)
      have e1 := hcell 1 (by omega)
      have e2 := hcell 2 (by omega)
      rw [Go.Deep.add_add] at e0 e1 e2
      exact ⟨(u, o), ho, by simpa using e0, by simpa using e1, by simpa using e2⟩
    obtain ⟨q, hq⟩ := Go.Deep.choose_lt (α := Value × LopT) each
    have hlen : ((List.range len).map fun j => (q j).2).length = len := by simp
    refine ⟨(List.range len).map fun j => (q j).2, some a, cap, by rw [hlen], by rw [hlen]; omega, by rw [hlen]; exact hl42, fun j hj => ?_⟩
    rw [hlen] at hj
    have hg : ((List.range len).map fun j => (q j).2).getD j lopZ = (q j).2 := by simp [List.getD, hj]
    obtain ⟨ho, h0, h1, h2⟩ := hq j hj
    have h00 := (hq 0 (by omega)).2.1
    obtain ⟨b, off, spot⟩ := a
    have hspot : spot = none := by simpa [Addr.add] using World.cell?_spot h00
    subst hspot
    rw [Go.WideShapes.add_plain] at h0 h1 h2
    rw [hg]
    exact ⟨b, off, (q j).1, rfl, h0, by rw [Nat.add_assoc]; exact h1, by rw [Nat.add_assoc]; exact h2, ho⟩
theorem back_lops {H : Type} {enc : TypeId × Value → H} {W W' : World} {v : Value} {d : DataW H} {p : List MemPlace} (h : DataW.Trod enc Tryz.prog W 0 (fun _ => true) true 22 v d p) (hb : Below W.heap.size W W') :
    DataW.Trod enc Tryz.prog W' 0 (fun b => decide (b < W.heap.size)) true 22 v d p :=
  Below.trod laidOut (by kernel_rfl) (of_decide_eq_true (by kernel_rfl)) h hb (by obtain ⟨m, hm⟩ := h; exact DataW.trod_lt m _ _ _ hm)
end Go.Proofs.YtkcgikgihbglnabGreatDoor
