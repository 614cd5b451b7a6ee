/-
  AlLift, AlLiftO, in one text.
-/
import Derived.Test.YtmgbcmogdjhacaaDoorLbLift
import Derived.Test.YtmgbcmogdjhacaaDoorVE
/- AlLift -/
namespace Go.Proofs.YtmgbcmogdjhacaaDoor
open Go.ChangeShapes Go.WideShapes Go.ChangeAt Go.RowKit Go.Lib Go.Shelf

theorem cellsAl : Tryd.prog.cellsOf 34 = 3 := by kernel_rfl
theorem cellsLbs : Tryd.prog.cellsOf 32 = 1 := by kernel_rfl
theorem cellsI64 : Tryd.prog.cellsOf 2 = 1 := by kernel_rfl
theorem cellsIntA : Tryd.prog.cellsOf 3 = 1 := by kernel_rfl
theorem wf_range {n : Int} (h : (Lit.int .i64 n).wf = true) : -9223372036854775808 ≤ n ∧ n ≤ 9223372036854775807 := by
  simp [Lit.wf, IntKind.min, IntKind.max, IntKind.signed, IntKind.bits] at h
  omega
/-- an alert among the arguments -/
def AlIn (W : World) (u : Value) (ls : List LbT) (st en : Int) : Prop := RdL W u ls ∧ LbIn ls ∧ ls.length ≤ 4398046511104 ∧ (-9223372036854775808 ≤ st ∧ st ≤ 9223372036854775807) ∧ -9223372036854775808 ≤ en ∧ en ≤ 9223372036854775807
set_option maxRecDepth 8000 in
theorem al_cells {H : Type} {enc : TypeId × Value → H} {W : World} {n : Nat} {cs : List Value} {x : DataW H × List MemPlace} (hw : Wt 34 x.1)
    (h2 : DataW.trod enc Tryd.prog W 0 (fun _ => true) true n 34 cs = some x) : ∃ (u : Value) (ls : List LbT) (st en : Int), cs = [u, .int .i64 st, .int .i64 en] ∧ AlIn W u ls st en := by
  obtain ⟨xs, k, hk0, hxy, hcl, hxl, hf⟩ := DataW.trod_struct Tryd.underlying34 h2
  rw [cellsAl] at hcl
  match cs, hcl with
  | [v0, v1, v2], _ =>
    match xs, hxl with
    | [y0, y1, y2], _ =>
      have g0 := hf 0 _ rfl
      have g1 := hf 1 _ rfl
      have g2 := hf 2 _ rfl
      simp [cellsLbs, cellsI64] at g0 g1 g2
      obtain ⟨z1, w1, -, f1⟩ := DataW.trod_int Tryd.underlying2 g1
      obtain ⟨z2, w2, -, f2⟩ := DataW.trod_int Tryd.underlying2 g2
      rw [hxy] at hw
      obtain ⟨ls, hr, hl, hb⟩ := labels_cell (hw.part Tryd.underlying34 0 rfl rfl) g0
      simp only [List.cons.injEq, and_true] at w1 w2
      subst w1 w2
      exact ⟨v0, ls, z1, z2, rfl, hr, hl, hb, wf_range f1, wf_range f2⟩
set_option maxRecDepth 8000 in
theorem open_alert {H : Type} {enc : TypeId × Value → H} {W : World} {base : Nat} {v : Value} {d : DataW H} {p : List MemPlace} (hw : Wt 34 d) (hval : Value.okWide Tryd.prog W .any base 34 v)
    (h : DataW.Trod enc Tryd.prog W 0 (fun _ => true) true 34 v d p) : ∃ u ls st en, v = .agg #[u, .int .i64 st, .int .i64 en] ∧ AlIn W u ls st en := by
  obtain ⟨cs, rfl, hc⟩ := okWide_struct Tryd.underlying34 hval
  obtain ⟨fuel, hf⟩ := h
  obtain ⟨u, ls, st, en, he, ho⟩ := al_cells (x := (d, p)) hw hf
  have e : cs = #[u, .int .i64 st, .int .i64 en] := by
    cases cs
    simpa [Value.cells] using he
  subst e
  exact ⟨u, ls, st, en, rfl, ho⟩
theorem back_alert {H : Type} {enc : TypeId × Value → H} {W W' : World} {v : Value} {d : DataW H} {p : List MemPlace} (h : DataW.Trod enc Tryd.prog W 0 (fun _ => true) true 34 v d p) (hb : Below W.heap.size W W') :
    DataW.Trod enc Tryd.prog W' 0 (fun b => decide (b < W.heap.size)) true 34 v d p :=
  Below.trod laidOut (by kernel_rfl) (of_decide_eq_true (by kernel_rfl)) h hb (by obtain ⟨m, hm⟩ := h; exact DataW.trod_lt m _ _ _ hm)
end Go.Proofs.YtmgbcmogdjhacaaDoor

/- AlLiftO -/
namespace Go.Proofs.YtmgbcmogdjhacaaDoor
open Go.ChangeShapes Go.WideShapes Go.ChangeAt Go.RowKit Go.Lib Go.Shelf

theorem cellsAop : Tryd.prog.cellsOf 36 = 6 := by kernel_rfl
theorem rdL_slice {W : World} {u : Value} {ls : List LbT} (h : RdL W u ls) : ∃ x n d, u = .slice x n d := by
  obtain ⟨a, c, h, _⟩ := h
  exact ⟨_, _, _, h⟩
set_option maxRecDepth 8000 in
theorem aop_cells {H : Type} {enc : TypeId × Value → H} {W : World} {n : Nat} {cs : List Value} {x : DataW H × List MemPlace} (hw : Wt 36 x.1)
    (h2 : DataW.trod enc Tryd.prog W 0 (fun _ => true) true n 36 cs = some x) : ∃ (q : AOp × Value), cs = [.int .i64 q.1.kind, .int .i64 q.1.now, .int .i64 q.1.keep, q.2, .int .i64 q.1.a.st, .int .i64 q.1.a.en] ∧ RdL W q.2 q.1.a.lbs ∧ LbIn q.1.a.lbs ∧ q.1.a.lbs.length ≤ 4398046511104 := by
  obtain ⟨xs, k, hk0, hxy, hcl, hxl, hf⟩ := DataW.trod_struct Tryd.underlying36 h2
  rw [cellsAop] at hcl
  match cs, hcl with
  | [v0, v1, v2, v3, v4, v5], _ =>
    match xs, hxl with
    | [y0, y1, y2, y3], _ =>
      have g0 := hf 0 _ rfl
      have g1 := hf 1 _ rfl
      have g2 := hf 2 _ rfl
      have g3 := hf 3 _ rfl
      simp [cellsAl, cellsI64, cellsIntA] at g0 g1 g2 g3
      obtain ⟨z0, w0, -, f0⟩ := DataW.trod_int Tryd.underlying3 g0
      obtain ⟨z1, w1, -, f1⟩ := DataW.trod_int Tryd.underlying2 g1
      obtain ⟨z2, w2, -, f2⟩ := DataW.trod_int Tryd.underlying2 g2
      rw [hxy] at hw
      obtain ⟨u, ls, st, en, he, ho⟩ := al_cells (x := y3) (hw.part Tryd.underlying36 3 rfl rfl) g3
      simp only [List.cons.injEq, and_true] at w0 w1 w2 he
      subst w0 w1 w2
      obtain ⟨rfl, rfl, rfl⟩ := he
      exact ⟨(⟨z0, z1, z2, ls, st, en⟩, _), rfl, ho.1, ho.2.1, ho.2.2.1⟩
set_option maxRecDepth 8000 in
theorem open_aops {H : Type} {enc : TypeId × Value → H} {W : World} {base : Nat} {v : Value} {d : DataW H} {p : List MemPlace} (hw : Wt 22 d) (hval : Value.okWide Tryd.prog W .any base 22 v)
    (h : DataW.Trod enc Tryd.prog W 0 (fun _ => true) true 22 v d p) : ∃ l, RdO W v l ∧ ∀ j, j < l.length → (l.getD j aoZ).a.lbs.length ≤ 4398046511104 := by
  obtain ⟨a0, len, cap, rfl⟩ := okWide_slice Tryd.underlying22 hval
  obtain ⟨fuel, hf⟩ := h
  rcases Go.Deep.open_slice Tryd.underlying22 hf with ⟨hcs, hx⟩ | ⟨a, l, c, m, n, D, Pl, hcs, hb, hl, hm, hmm, hx, hel⟩
  · simp [Value.cells] at hcs
    obtain ⟨rfl, rfl, rfl⟩ := hcs
    exact ⟨[], ⟨none, 0, rfl, by simp, fun j hj => by simp at hj⟩, fun j hj => by simp at hj⟩
  · simp [Value.cells] at hcs
    obtain ⟨rfl, rfl, rfl⟩ := hcs
    simp only [if_true] at hmm
    have hd : d = .slice ((List.range len).map D) ((List.range (m - len)).map fun j => D (len + j)) := congrArg Prod.fst hx
    have each : ∀ j, j < len → ∃ q : AOp × Value, (RdL W q.2 q.1.a.lbs ∧ LbIn q.1.a.lbs ∧ q.1.a.lbs.length ≤ 4398046511104) ∧ W.cell? (a.add (j * 6)) = some (.int .i64 q.1.kind) ∧ W.cell? (a.add (j * 6 + 1)) = some (.int .i64 q.1.now) ∧ W.cell? (a.add (j * 6 + 2)) = some (.int .i64 q.1.keep) ∧ W.cell? (a.add (j * 6 + 3)) = some q.2 ∧ W.cell? (a.add (j * 6 + 4)) = some (.int .i64 q.1.a.st) ∧ W.cell? (a.add (j * 6 + 5)) = some (.int .i64 q.1.a.en) := by
      intro j hj
      obtain ⟨cs', h1, h2⟩ := hel j (by omega)
      rw [hd] at hw
      have hbj : Wt 36 (D j) := (Wt.elem hw Tryd.underlying22).2 _ (List.mem_map.2 ⟨j, List.mem_range.2 hj, rfl⟩)
      obtain ⟨q, rfl, ho⟩ := aop_cells (x := (D j, Pl j)) hbj h2
      rw [cellsAop] at h1
      obtain ⟨_, hlen, hcell⟩ := World.cells?_some h1
      have e0 := hcell 0 (by omega)
      have e1 := hcell 1 (by omega)
      have e2 := hcell 2 (by omega)
      have e3 := hcell 3 (by omega)
      have e4 := hcell 4 (by omega)
      have e5 := hcell 5 (by omega)
      rw [Go.Deep.add_add] at e0 e1 e2 e3 e4 e5
      exact ⟨q, ho, by simpa using e0, by simpa using e1, by simpa using e2, by simpa using e3, by simpa using e4, by simpa using e5⟩
    have : Inhabited AOp := ⟨aoZ⟩
    obtain ⟨q, hq⟩ := Go.Deep.choose_lt (α := AOp × Value) each
    have hlen : ((List.range len).map fun j => (q j).1).length = len := by simp
    unfold maxLen at hm
    have hg : ∀ j, j < len → ((List.range len).map fun j => (q j).1).getD j aoZ = (q j).1 := fun j hj => by simp [List.getD, hj]
    refine ⟨(List.range len).map fun j => (q j).1, ⟨some a, cap, by rw [hlen], by rw [hlen]; omega, fun j hj => ?_⟩, fun j hj => by rw [hlen] at hj; rw [hg j hj]; exact (hq j hj).1.2.2⟩
    rw [hlen] at hj
    obtain ⟨ho, h0, h1, h2, h3, h4, h5⟩ := hq j hj
    have h00 := (hq 0 (by omega)).2.1
    obtain ⟨b, off, spot⟩ := a
    have hspot : spot = none := by simpa [Addr.add] using World.cell?_spot h00
    subst hspot
    rw [Go.WideShapes.add_plain] at h0 h1 h2 h3 h4 h5
    rw [hg j hj]
    obtain ⟨x, n, dd, hu⟩ := rdL_slice ho.1
    rw [hu] at h3 ho
    exact ⟨b, off, x, n, dd, rfl, h0, by rw [Nat.add_assoc]; exact h1, by rw [Nat.add_assoc]; exact h2, by rw [Nat.add_assoc]; exact h3, by rw [Nat.add_assoc]; exact h4, by rw [Nat.add_assoc]; exact h5, ho.1, ho.2.1⟩
theorem back_aops {H : Type} {enc : TypeId × Value → H} {W W' : World} {v : Value} {d : DataW H} {p : List MemPlace} (h : DataW.Trod enc Tryd.prog W 0 (fun _ => true) true 22 v d p) (hb : Below W.heap.size W W') :
    DataW.Trod enc Tryd.prog W' 0 (fun b => decide (b < W.heap.size)) true 22 v d p :=
  Below.trod laidOut (by kernel_rfl) (of_decide_eq_true (by kernel_rfl)) h hb (by obtain ⟨m, hm⟩ := h; exact DataW.trod_lt m _ _ _ hm)
end Go.Proofs.YtmgbcmogdjhacaaDoor
