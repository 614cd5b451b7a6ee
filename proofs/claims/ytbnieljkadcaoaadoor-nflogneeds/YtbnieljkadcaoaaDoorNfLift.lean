/-
  A call among the arguments: how it reads.
-/
import Derived.Test.YtbnieljkadcaoaaDoorLbLift
namespace Go.Proofs.YtbnieljkadcaoaaDoor
open Go.ChangeShapes Go.WideShapes Go.ChangeAt Go.RowKit Go.Lib Go.Shelf

theorem cellsMk : Tryd.prog.cellsOf 24 = 5 := by kernel_rfl
theorem cellsI64 : Tryd.prog.cellsOf 2 = 1 := by kernel_rfl
theorem cellsIntA : Tryd.prog.cellsOf 3 = 1 := by kernel_rfl
theorem cellsLLb : Tryd.prog.cellsOf 22 = 1 := by kernel_rfl
set_option maxRecDepth 8000 in
theorem mk_shape {H : Type} {enc : TypeId × Value → H} {W : World} {n : Nat} {cs : List Value} {x : DataW H × List MemPlace}
    (h2 : DataW.trod enc Tryd.prog W 0 (fun _ => true) true n 24 cs = some x) : ∃ (r k : ByteArray) (t : Int) (fa : Option Addr) (fn fc : Nat) (sa : Option Addr) (sn sc : Nat), cs = [.string r, .string k, .int .i64 t, .slice fa fn fc, .slice sa sn sc] := by
  obtain ⟨xs, k, hk0, hxy, hcl, hxl, hf⟩ := DataW.trod_struct Tryd.underlying24 h2
  rw [cellsMk] at hcl
  match cs, hcl with
  | [v0, v1, v2, v3, v4], _ =>
    match xs, hxl with
    | [y0, y1, y2, y3, y4], _ =>
      have g0 := hf 0 _ rfl
      have g1 := hf 1 _ rfl
      have g2 := hf 2 _ rfl
      have g3 := hf 3 _ rfl
      have g4 := hf 4 _ rfl
      simp [cellsStr, cellsI64, cellsLLb] at g0 g1 g2 g3 g4
      obtain ⟨s0, w0, -, -⟩ := DataW.trod_string Tryd.underlying9 g0
      obtain ⟨s1, w1, -, -⟩ := DataW.trod_string Tryd.underlying9 g1
      obtain ⟨z2, w2, -, -⟩ := DataW.trod_int Tryd.underlying2 g2
      have sl : ∀ {u : Value} {y : DataW H × List MemPlace}, DataW.trod enc Tryd.prog W 0 (fun _ => true) true k 22 [u] = some y → ∃ a n c, u = .slice a n c := by
        intro u y hu
        rcases Go.Deep.open_slice Tryd.underlying22 hu with ⟨hcs, -⟩ | ⟨a, l, c, m, n, D, Pl, hcs, -⟩
        · simp only [List.cons.injEq, and_true] at hcs
          exact ⟨_, _, _, hcs⟩
        · simp only [List.cons.injEq, and_true] at hcs
          exact ⟨_, _, _, hcs⟩
      obtain ⟨fa, fn, fc, rfl⟩ := sl g3
      obtain ⟨sa, sn, sc, rfl⟩ := sl g4
      simp only [List.cons.injEq, and_true] at w0 w1 w2
      subst w0 w1 w2
      exact ⟨_, _, _, fa, fn, fc, sa, sn, sc, rfl⟩
end Go.Proofs.YtbnieljkadcaoaaDoor
