/-
  Alerts among the arguments: how they read.
-/
import Derived.Test.YtfnknlbakhehdaaDoorLbLift
namespace Go.Proofs.YtfnknlbakhehdaaDoor
open Go.ChangeShapes Go.WideShapes Go.ChangeAt Go.RowKit Go.Lib Go.Shelf

theorem cellsAl : Tryd.prog.cellsOf 34 = 3 := by kernel_rfl
theorem cellsLbs : Tryd.prog.cellsOf 32 = 1 := by kernel_rfl
theorem cellsI64 : Tryd.prog.cellsOf 2 = 1 := by kernel_rfl
theorem cellsIntA : Tryd.prog.cellsOf 3 = 1 := by kernel_rfl
theorem wf_range {n : Int} (h : (Lit.int .i64 n).wf = true) : -9223372036854775808 ≤ n ∧ n ≤ 9223372036854775807 := by
  simp [Lit.wf, IntKind.min, IntKind.max, IntKind.signed, IntKind.bits] at h
  omega
/-- an alert among the arguments -/
def AlIn (W : World) (u : Value) (ls : List LbT) (st en : Int) : Prop := RdL W u ls ∧ LbIn ls ∧ ls.length ≤ 4398046511104 ∧ (-9223372036854775808 ≤ st ∧ st ≤ 9223372036854775807) ∧ -9223372036854775808 ≤ en ∧ en ≤ 9223372036854775807
set_option maxRecDepth 8000 in
theorem al_cells {H : Type} {enc : TypeId × Value → H} {W : World} {n : Nat} {cs : List Value} {x : DataW H × List MemPlace} (hw : Wt 34 x.1)
    (h2 : DataW.trod enc Tryd.prog W 0 (fun _ => true) true n 34 cs = some x) : ∃ (u : Value) (ls : List LbT) (st en : Int), cs = [u, .int .i64 st, .int .i64 en] ∧ AlIn W u ls st en := by
  obtain ⟨xs, k, hk0, hxy, hcl, hxl, hf⟩ := DataW.trod_struct Tryd.underlying34 h2
  rw [cellsAl] at hcl
  match cs, hcl with
  | [v0, v1, v2], _ =>
    match xs, hxl with
    | [y0, y1, y2], _ =>
      have g0 := hf 0 _ rfl
      have g1 := hf 1 _ rfl
      have g2 := hf 2 _ rfl
      simp [cellsLbs, cellsI64] at g0 g1 g2
      obtain ⟨z1, w1, -, f1⟩ := DataW.trod_int Tryd.underlying2 g1
      obtain ⟨z2, w2, -, f2⟩ := DataW.trod_int Tryd.underlying2 g2
      rw [hxy] at hw
      obtain ⟨ls, hr, hl, hb⟩ := labels_cell (hw.part Tryd.underlying34 0 rfl rfl) g0
      simp only [List.cons.injEq, and_true] at w1 w2
      subst w1 w2
      exact ⟨v0, ls, z1, z2, rfl, hr, hl, hb, wf_range f1, wf_range f2⟩
set_option maxRecDepth 8000 in
theorem open_alert {H : Type} {enc : TypeId × Value → H} {W : World} {base : Nat} {v : Value} {d : DataW H} {p : List MemPlace} (hw : Wt 34 d) (hval : Value.okWide Tryd.prog W .any base 34 v)
    (h : DataW.Trod enc Tryd.prog W 0 (fun _ => true) true 34 v d p) : ∃ u ls st en, v = .agg #[u, .int .i64 st, .int .i64 en] ∧ AlIn W u ls st en := by
  obtain ⟨cs, rfl, hc⟩ := okWide_struct Tryd.underlying34 hval
  obtain ⟨fuel, hf⟩ := h
  obtain ⟨u, ls, st, en, he, ho⟩ := al_cells (x := (d, p)) hw hf
  have e : cs = #[u, .int .i64 st, .int .i64 en] := by
    cases cs
    simpa [Value.cells] using he
  subst e
  exact ⟨u, ls, st, en, rfl, ho⟩
theorem back_alert {H : Type} {enc : TypeId × Value → H} {W W' : World} {v : Value} {d : DataW H} {p : List MemPlace} (h : DataW.Trod enc Tryd.prog W 0 (fun _ => true) true 34 v d p) (hb : Below W.heap.size W W') :
    DataW.Trod enc Tryd.prog W' 0 (fun b => decide (b < W.heap.size)) true 34 v d p :=
  Below.trod laidOut (by kernel_rfl) (of_decide_eq_true (by kernel_rfl)) h hb (by obtain ⟨m, hm⟩ := h; exact DataW.trod_lt m _ _ _ hm)
end Go.Proofs.YtfnknlbakhehdaaDoor
