/-
  A list of asked calls among the arguments: how it reads.
-/
import Derived.Test.YtgbpnkamamafjabDoorLiftT
import Derived.Deep.Slices
namespace Go.Proofs.YtgbpnkamamafjabDoor
open Go.ChangeShapes Go.WideShapes Go.ChangeAt Go.RowKit

structure OpT where
  k : Int
  x : BitVec 64
  n : Int
  i : Int
def opZ : OpT := ⟨0, 0#64, 0, 0⟩
/-- the value is a slice that reads as these calls -/
def OpsIn (w : World) (v : Value) (ops : List OpT) : Prop :=
  ∃ a c, v = .slice a ops.length c ∧ ops.length ≤ maxLen ∧ ∀ j, j < ops.length → ∃ b o, a = some ⟨b, o, none⟩ ∧
    w.cell? ⟨b, o + j * 4, none⟩ = some (.int .i64 (ops.getD j opZ).k) ∧ w.cell? ⟨b, o + j * 4 + 1, none⟩ = some (.int .u64 (I64 (ops.getD j opZ).x)) ∧
    w.cell? ⟨b, o + j * 4 + 2, none⟩ = some (.int .i64 (ops.getD j opZ).n) ∧ w.cell? ⟨b, o + j * 4 + 3, none⟩ = some (.int .i64 (ops.getD j opZ).i)
theorem OpsIn.keep {w w' : World} {v : Value} {ops : List OpT} (h : OpsIn w v ops) (hg : w.grownBy w' none) : OpsIn w' v ops := by
  obtain ⟨a, c, h1, h2, h3⟩ := h
  refine ⟨a, c, h1, h2, fun j hj => ?_⟩
  obtain ⟨b, o, ha, c0, c1, c2, c3⟩ := h3 j hj
  have hk : ∀ q u, w.cell? ⟨b, q, none⟩ = some u → w'.cell? ⟨b, q, none⟩ = some u := fun q u hq => by
    rw [← hq]
    exact World.cell?_of_block (hg.block b (block_lt hq) (by simp))
  exact ⟨b, o, ha, hk _ _ c0, hk _ _ c1, hk _ _ c2, hk _ _ c3⟩

theorem cellsOp : Tryd.prog.cellsOf 31 = 4 := by kernel_rfl
theorem cellsI64 : Tryd.prog.cellsOf 2 = 1 := by kernel_rfl
theorem cellsU64 : Tryd.prog.cellsOf 29 = 1 := by kernel_rfl
instance : Inhabited OpT := ⟨opZ⟩
theorem one_op {H : Type} {enc : TypeId × Value → H} {W : World} {n : Nat} {a : Addr} {j : Nat} {cs : List Value} {x : DataW H × List MemPlace} (h1 : W.cells? 0 (a.add (j * Tryd.prog.cellsOf 31)) (Tryd.prog.cellsOf 31) = some cs)
    (h2 : DataW.trod enc Tryd.prog W 0 (fun _ => true) true n 31 cs = some x) : ∃ q : OpT, W.cell? (a.add (j * 4)) = some (.int .i64 q.k) ∧ W.cell? (a.add (j * 4 + 1)) = some (.int .u64 (I64 q.x)) ∧ W.cell? (a.add (j * 4 + 2)) = some (.int .i64 q.n) ∧ W.cell? (a.add (j * 4 + 3)) = some (.int .i64 q.i) := by
  rw [cellsOp] at h1
  obtain ⟨_, hlen, hcell⟩ := World.cells?_some h1
  obtain ⟨xs, k, hk, hxy, _, hxl, hf⟩ := DataW.trod_struct Tryd.underlying31 h2
  match cs, hlen with
  | [v0, v1, v2, v3], _ =>
    have e0 := hcell 0 (by omega)
    have e1 := hcell 1 (by omega)
    have e2 := hcell 2 (by omega)
    have e3 := hcell 3 (by omega)
    rw [Go.Deep.add_add] at e0 e1 e2 e3
    match xs, hxl with
    | [y0, y1, y2, y3], _ =>
      have g0 := hf 0 _ rfl
      have g1 := hf 1 _ rfl
      have g2 := hf 2 _ rfl
      have g3 := hf 3 _ rfl
      simp [cellsInt, cellsI64, cellsU64] at g0 g1 g2 g3
      obtain ⟨z0, w0, -, -⟩ := DataW.trod_int Tryd.underlying3 g0
      obtain ⟨z1, w1, -, f1⟩ := DataW.trod_int Tryd.underlying29 g1
      obtain ⟨z2, w2, -, -⟩ := DataW.trod_int Tryd.underlying3 g2
      obtain ⟨z3, w3, -, -⟩ := DataW.trod_int Tryd.underlying2 g3
      obtain ⟨s1, rfl⟩ := u64_of f1
      simp only [List.cons.injEq, and_true] at w0 w1 w2 w3
      subst w0
      subst w1
      subst w2
      subst w3
      exact ⟨⟨z0, s1, z2, z3⟩, by simpa using e0, by simpa using e1, by simpa using e2, by simpa using e3⟩
theorem open_ops {H : Type} {enc : TypeId × Value → H} {W : World} {base : Nat} {v : Value} {d : DataW H} {p : List MemPlace} (hval : Value.okWide Tryd.prog W .any base 22 v)
    (h : DataW.Trod enc Tryd.prog W 0 (fun _ => true) true 22 v d p) : ∃ ops, OpsIn W v ops := by
  obtain ⟨a0, len, cap, rfl⟩ := okWide_slice Tryd.underlying22 hval
  obtain ⟨fuel, hf⟩ := h
  rcases Go.Deep.open_slice Tryd.underlying22 hf with ⟨hcs, hx⟩ | ⟨a, l, c, m, n, D, Pl, hcs, hb, hl, hm, hmm, hx, hel⟩
  · simp [Value.cells] at hcs
    obtain ⟨rfl, rfl, rfl⟩ := hcs
    exact ⟨[], none, 0, rfl, by simp, fun j hj => by simp at hj⟩
  · simp [Value.cells] at hcs
    obtain ⟨rfl, rfl, rfl⟩ := hcs
    simp only [if_true] at hmm
    have each : ∀ j, j < len → ∃ q : OpT, W.cell? (a.add (j * 4)) = some (.int .i64 q.k) ∧ W.cell? (a.add (j * 4 + 1)) = some (.int .u64 (I64 q.x)) ∧ W.cell? (a.add (j * 4 + 2)) = some (.int .i64 q.n) ∧ W.cell? (a.add (j * 4 + 3)) = some (.int .i64 q.i) := by
      intro j hj
      obtain ⟨cs', h1, h2⟩ := hel j (by omega)
      exact one_op h1 h2
    obtain ⟨q, hq⟩ := Go.Deep.choose_lt each
    refine ⟨(List.range len).map q, some a, cap, by simp, by simp; omega, fun j hj => ?_⟩
    simp only [List.length_map, List.length_range] at hj
    have hg : ((List.range len).map q).getD j opZ = q j := by simp [List.getD, hj]
    obtain ⟨h0, h1, h2, h3⟩ := hq j hj
    have h00 := (hq 0 (by omega)).1
    obtain ⟨b, off, spot⟩ := a
    have hspot : spot = none := by simpa [Addr.add] using World.cell?_spot h00
    subst hspot
    rw [Go.WideShapes.add_plain] at h0 h1 h2 h3
    refine ⟨b, off, rfl, ?_⟩
    rw [hg]
    refine ⟨h0, ?_, ?_, ?_⟩
    · rw [Nat.add_assoc]; exact h1
    · rw [Nat.add_assoc]; exact h2
    · rw [Nat.add_assoc]; exact h3
theorem back_ops {H : Type} {enc : TypeId × Value → H} {W W' : World} {v : Value} {d : DataW H} {p : List MemPlace} (h : DataW.Trod enc Tryd.prog W 0 (fun _ => true) true 22 v d p) (hb : Below W.heap.size W W') :
    DataW.Trod enc Tryd.prog W' 0 (fun b => decide (b < W.heap.size)) true 22 v d p :=
  Below.trod laidOut (by kernel_rfl) (of_decide_eq_true (by kernel_rfl)) h hb (by obtain ⟨m, hm⟩ := h; exact DataW.trod_lt m _ _ _ hm)
end Go.Proofs.YtgbpnkamamafjabDoor
