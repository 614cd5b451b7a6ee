/-
  A call among the arguments: how it reads.
-/
import Derived.Test.YtbnieljkadcaoabGreatDoorLbLift
namespace Go.Proofs.YtbnieljkadcaoabGreatDoor
open Go.ChangeShapes Go.WideShapes Go.ChangeAt Go.RowKit Go.Lib Go.Shelf

theorem cellsOp : Tryz.prog.cellsOf 38 = 8 := by kernel_rfl
theorem cellsMk : Tryz.prog.cellsOf 24 = 5 := by kernel_rfl
theorem cellsI64 : Tryz.prog.cellsOf 2 = 1 := by kernel_rfl
theorem cellsIntA : Tryz.prog.cellsOf 3 = 1 := by kernel_rfl
theorem cellsLLb : Tryz.prog.cellsOf 22 = 1 := by kernel_rfl
set_option maxRecDepth 8000 in
theorem mk_shape {H : Type} {enc : TypeId × Value → H} {W : World} {n : Nat} {cs : List Value} {x : DataW H × List MemPlace}
    (h2 : DataW.trod enc Tryz.prog W 0 (fun _ => true) true n 24 cs = some x) : ∃ (r k : ByteArray) (t : Int) (fa : Option Addr) (fn fc : Nat) (sa : Option Addr) (sn sc : Nat), cs = [.string r, .string k, .int .i64 t, .slice fa fn fc, .slice sa sn sc] := by
  obtain ⟨xs, k, hk0, hxy, hcl, hxl, hf⟩ := DataW.trod_struct Tryz.underlying24 h2
  rw [cellsMk] at hcl
  match cs, hcl with
  | [v0, v1, v2, v3, v4], _ =>
    match xs, hxl with
    | [y0, y1, y2, y3, y4], _ =>
      have g0 := hf 0 _ rfl
      have g1 := hf 1 _ rfl
      have g2 := hf 2 _ rfl
      have g3 := hf 3 _ rfl
      have g4 := hf 4 _ rfl
      simp [cellsStr, cellsI64, cellsLLb] at g0 g1 g2 g3 g4
      obtain ⟨s0, w0, -, -⟩ := DataW.trod_string Tryz.underlying9 g0
      obtain ⟨s1, w1, -, -⟩ := DataW.trod_string Tryz.underlying9 g1
      obtain ⟨z2, w2, -, -⟩ := DataW.trod_int Tryz.underlying2 g2
      have sl : ∀ {u : Value} {y : DataW H × List MemPlace}, DataW.trod enc Tryz.prog W 0 (fun _ => true) true k 22 [u] = some y → ∃ a n c, u = .slice a n c := by
        intro u y hu
        rcases Go.Deep.open_slice Tryz.underlying22 hu with ⟨hcs, -⟩ | ⟨a, l, c, m, n, D, Pl, hcs, -⟩
        · simp only [List.cons.injEq, and_true] at hcs
          exact ⟨_, _, _, hcs⟩
        · simp only [List.cons.injEq, and_true] at hcs
          exact ⟨_, _, _, hcs⟩
      obtain ⟨fa, fn, fc, rfl⟩ := sl g3
      obtain ⟨sa, sn, sc, rfl⟩ := sl g4
      simp only [List.cons.injEq, and_true] at w0 w1 w2
      subst w0 w1 w2
      exact ⟨_, _, _, fa, fn, fc, sa, sn, sc, rfl⟩
set_option maxRecDepth 8000 in
theorem op_shape {H : Type} {enc : TypeId × Value → H} {W : World} {n : Nat} {cs : List Value} {x : DataW H × List MemPlace}
    (h2 : DataW.trod enc Tryz.prog W 0 (fun _ => true) true n 38 cs = some x) : ∃ (kd : Int) (r k : ByteArray) (t : Int) (fa : Option Addr) (fn fc : Nat) (sa : Option Addr) (sn sc : Nat) (nw nn : Int), cs = [.int .i64 kd, .string r, .string k, .int .i64 t, .slice fa fn fc, .slice sa sn sc, .int .i64 nw, .int .i64 nn] := by
  obtain ⟨xs, k, hk0, hxy, hcl, hxl, hf⟩ := DataW.trod_struct Tryz.underlying38 h2
  rw [cellsOp] at hcl
  match cs, hcl with
  | [v0, v1, v2, v3, v4, v5, v6, v7], _ =>
    match xs, hxl with
    | [y0, y1, y2, y3], _ =>
      have g0 := hf 0 _ rfl
      have g1 := hf 1 _ rfl
      have g2 := hf 2 _ rfl
      have g3 := hf 3 _ rfl
      simp [cellsIntA, cellsMk, cellsI64] at g0 g1 g2 g3
      obtain ⟨z0, w0, -, -⟩ := DataW.trod_int Tryz.underlying3 g0
      obtain ⟨z2, w2, -, -⟩ := DataW.trod_int Tryz.underlying2 g2
      obtain ⟨z3, w3, -, -⟩ := DataW.trod_int Tryz.underlying2 g3
      obtain ⟨r, ky, t, fa, fn, fc, sa, sn, sc, e⟩ := mk_shape g1
      simp only [List.cons.injEq, and_true] at w0 w2 w3 e
      obtain ⟨rfl, rfl, rfl, rfl, rfl⟩ := e
      subst w0 w2 w3
      exact ⟨_, _, _, _, fa, fn, fc, sa, sn, sc, _, _, rfl⟩
set_option maxRecDepth 8000 in
theorem open_nop {H : Type} {enc : TypeId × Value → H} {W : World} {base : Nat} {v : Value} {d : DataW H} {p : List MemPlace} (hval : Value.okWide Tryz.prog W .any base 38 v)
    (h : DataW.Trod enc Tryz.prog W 0 (fun _ => true) true 38 v d p) : ∃ (kd : Int) (r k : ByteArray) (t : Int) (fa : Option Addr) (fn fc : Nat) (sa : Option Addr) (sn sc : Nat) (nw nn : Int), v = .agg #[.int .i64 kd, .string r, .string k, .int .i64 t, .slice fa fn fc, .slice sa sn sc, .int .i64 nw, .int .i64 nn] := by
  obtain ⟨cs, rfl, hc⟩ := okWide_struct Tryz.underlying38 hval
  obtain ⟨fuel, hf⟩ := h
  obtain ⟨kd, r, k, t, fa, fn, fc, sa, sn, sc, nw, nn, he⟩ := op_shape (x := (d, p)) hf
  refine ⟨kd, r, k, t, fa, fn, fc, sa, sn, sc, nw, nn, ?_⟩
  have e : cs = #[.int .i64 kd, .string r, .string k, .int .i64 t, .slice fa fn fc, .slice sa sn sc, .int .i64 nw, .int .i64 nn] := by
    cases cs
    simpa [Value.cells] using he
  rw [e]
theorem back_nop {H : Type} {enc : TypeId × Value → H} {W W' : World} {v : Value} {d : DataW H} {p : List MemPlace} (h : DataW.Trod enc Tryz.prog W 0 (fun _ => true) true 38 v d p) (hb : Below W.heap.size W W') :
    DataW.Trod enc Tryz.prog W' 0 (fun b => decide (b < W.heap.size)) true 38 v d p :=
  Below.trod laidOut (by kernel_rfl) (of_decide_eq_true (by kernel_rfl)) h hb (by obtain ⟨m, hm⟩ := h; exact DataW.trod_lt m _ _ _ hm)
end Go.Proofs.YtbnieljkadcaoabGreatDoor
