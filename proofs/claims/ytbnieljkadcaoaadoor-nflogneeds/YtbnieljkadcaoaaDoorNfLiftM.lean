/-
  Marks and lists of label sets among the arguments: how they read.
-/
import Derived.Test.YtbnieljkadcaoaaDoorNfLift
import Derived.Test.YtbnieljkadcaoaaDoorNf9
namespace Go.Proofs.YtbnieljkadcaoaaDoor
open Go.ChangeShapes Go.WideShapes Go.ChangeAt Go.RowKit Go.Lib Go.Shelf

theorem cellsLbs1 : Tryd.prog.cellsOf 39 = 1 := by kernel_rfl
theorem bytesLbs1 : Tryd.prog.bytesOf 39 = 24 := by kernel_rfl
theorem wf_rangeN {n : Int} (h : (Lit.int .i64 n).wf = true) : -9223372036854775808 ≤ n ∧ n ≤ 9223372036854775807 := by
  simp [Lit.wf, IntKind.min, IntKind.max, IntKind.signed, IntKind.bits] at h
  omega
set_option maxRecDepth 8000 in
theorem sets_cell {H : Type} {enc : TypeId × Value → H} {W : World} {fuel : Nat} {u : Value} {x : DataW H × List MemPlace} (hw : Wt 22 x.1) (hf : DataW.trod enc Tryd.prog W 0 (fun _ => true) true fuel 22 [u] = some x) :
    ∃ lss, RdLL W u lss ∧ LLIn lss ∧ LLs lss := by
  rcases Go.Deep.open_slice Tryd.underlying22 hf with ⟨hcs, hx⟩ | ⟨a, l, c, m, n, D, Pl, hcs, hb, hl, hm, hmm, hx, hel⟩
  · simp only [List.cons.injEq, and_true] at hcs
    subst hcs
    exact ⟨[], RdLL.nil W, ⟨by simp, fun j => by simpa using LbIn.nil⟩, by simp, fun j => by simp⟩
  · simp only [List.cons.injEq, and_true] at hcs
    subst hcs
    simp only [if_true] at hmm
    rw [hx] at hw
    have hwe := Wt.elem hw Tryd.underlying22
    have each : ∀ j, j < l → ∃ q : Value × List LbT, W.cell? (a.add j) = some q.1 ∧ RdL W q.1 q.2 ∧ LbIn q.2 ∧ q.2.length ≤ 4398046511104 := by
      intro j hj
      obtain ⟨cs', h1, h2⟩ := hel j (by omega)
      rw [cellsLbs1, Nat.mul_one] at h1
      obtain ⟨_, hlen, hcell⟩ := World.cells?_some h1
      match cs', hlen with
      | [v0], _ =>
        have e0 := hcell 0 (by omega)
        rw [Go.Deep.add_add] at e0
        obtain ⟨ls, r1, r2, r3⟩ := labels_cell (x := (D j, Pl j)) (hwe.2 _ (List.mem_map.2 ⟨j, List.mem_range.2 hj, rfl⟩)) h2
        exact ⟨(v0, ls), by simpa using e0, r1, r2, r3⟩
    obtain ⟨q, hq⟩ := Go.Deep.choose_lt each
    have hlen : ((List.range l).map q).length = l := by simp
    have hl6 : l ≤ 6000000000000 := by
      have := hwe.1
      rw [bytesLbs1] at this
      simp only [List.length_map, List.length_range, reachBytes] at this
      omega
    have hv : ∀ j, j < l → ((List.range l).map fun j => (q j).1).getD j nilV = (q j).1 := fun j hj => by simp [List.getD, hj]
    have hs : ∀ j, j < l → ((List.range l).map fun j => (q j).2).getD j [] = (q j).2 := fun j hj => by simp [List.getD, hj]
    have hv' : ∀ j, ¬ j < l → ((List.range l).map fun j => (q j).1).getD j nilV = nilV := fun j hj => by simp [List.getD, hj]
    have hs' : ∀ j, ¬ j < l → ((List.range l).map fun j => (q j).2).getD j [] = [] := fun j hj => by simp [List.getD, hj]
    refine ⟨(List.range l).map fun j => (q j).2, ⟨(List.range l).map fun j => (q j).1, ⟨some a, c, by simp, by simp; omega, hm, fun j hj => ?_, fun h => (by cases h)⟩, by simp, fun j => ?_⟩, ⟨by simp; omega, fun j => ?_⟩, by simp; exact hl6, fun j => ?_⟩
    · have hj : j < l := by simpa using hj
      obtain ⟨h0, -⟩ := hq j hj
      have h00 := (hq 0 (by omega)).1
      obtain ⟨b, off, spot⟩ := a
      have hspot : spot = none := by simpa [Addr.add] using World.cell?_spot h00
      subst hspot
      rw [Go.WideShapes.add_plain] at h0
      rw [hv j hj]
      exact ⟨b, off, rfl, h0⟩
    · by_cases hj : j < l
      · rw [hv j hj, hs j hj]
        exact (hq j hj).2.1
      · rw [hv' j hj, hs' j hj]
        exact RdL.nil W
    · by_cases hj : j < l
      · rw [hs j hj]
        exact (hq j hj).2.2.1
      · rw [hs' j hj]
        exact LbIn.nil
    · by_cases hj : j < l
      · rw [hs j hj]
        exact (hq j hj).2.2.2
      · rw [hs' j hj]
        simp
/-- a mark among the arguments -/
def MkIn (W : World) (m : MkR) (f s : Value) : Prop := RdM W m f s ∧ LLs m.fir ∧ LLs m.res ∧ -9223372036854775808 ≤ m.tim ∧ m.tim ≤ 9223372036854775807
set_option maxRecDepth 8000 in
theorem mk_cells {H : Type} {enc : TypeId × Value → H} {W : World} {n : Nat} {cs : List Value} {x : DataW H × List MemPlace} (hw : Wt 24 x.1)
    (h2 : DataW.trod enc Tryd.prog W 0 (fun _ => true) true n 24 cs = some x) : ∃ (m : MkR) (f s : Value), cs = [.string (ByteArray.mk ⟨m.rcv⟩), .string (ByteArray.mk ⟨m.key⟩), .int .i64 m.tim, f, s] ∧ MkIn W m f s := by
  obtain ⟨xs, k, hk0, hxy, hcl, hxl, hf⟩ := DataW.trod_struct Tryd.underlying24 h2
  rw [cellsMk] at hcl
  match cs, hcl with
  | [v0, v1, v2, v3, v4], _ =>
    match xs, hxl with
    | [y0, y1, y2, y3, y4], _ =>
      have g0 := hf 0 _ rfl
      have g1 := hf 1 _ rfl
      have g2 := hf 2 _ rfl
      have g3 := hf 3 _ rfl
      have g4 := hf 4 _ rfl
      simp [cellsStr, cellsI64, cellsLLb] at g0 g1 g2 g3 g4
      rw [hxy] at hw
      obtain ⟨s0, w0, x0, -⟩ := DataW.trod_string Tryd.underlying9 g0
      obtain ⟨s1, w1, x1, -⟩ := DataW.trod_string Tryd.underlying9 g1
      obtain ⟨z2, w2, -, f2⟩ := DataW.trod_int Tryd.underlying2 g2
      obtain ⟨lf, r1, r2, r3⟩ := sets_cell (hw.part Tryd.underlying24 3 rfl rfl) g3
      obtain ⟨lr, t1, t2, t3⟩ := sets_cell (hw.part Tryd.underlying24 4 rfl rfl) g4
      have hs0 := hw.part Tryd.underlying24 0 rfl rfl
      have hs1 := hw.part Tryd.underlying24 1 rfl rfl
      simp only [x0, x1] at hs0 hs1
      have l0 := Wt.str hs0
      have l1 := Wt.str hs1
      simp only [List.cons.injEq, and_true] at w0 w1 w2
      subst w0 w1 w2
      exact ⟨⟨s0.data.toList, s1.data.toList, z2, lf, lr⟩, v3, v4, by rw [mk_data, mk_data], ⟨r1, t1, r2, t2, l0, l1⟩, r3, t3, wf_rangeN f2⟩
set_option maxRecDepth 8000 in
theorem open_mark {H : Type} {enc : TypeId × Value → H} {W : World} {base : Nat} {v : Value} {d : DataW H} {p : List MemPlace} (hw : Wt 24 d) (hval : Value.okWide Tryd.prog W .any base 24 v)
    (h : DataW.Trod enc Tryd.prog W 0 (fun _ => true) true 24 v d p) : ∃ m f s, v = markV m f s ∧ MkIn W m f s := by
  obtain ⟨cs, rfl, hc⟩ := okWide_struct Tryd.underlying24 hval
  obtain ⟨fuel, hf⟩ := h
  obtain ⟨m, f, s, he, ho⟩ := mk_cells (x := (d, p)) hw hf
  refine ⟨m, f, s, ?_, ho⟩
  have e : cs = #[.string (ByteArray.mk ⟨m.rcv⟩), .string (ByteArray.mk ⟨m.key⟩), .int .i64 m.tim, f, s] := by
    cases cs
    simpa [Value.cells] using he
  rw [e]
  rfl
theorem back_mark {H : Type} {enc : TypeId × Value → H} {W W' : World} {v : Value} {d : DataW H} {p : List MemPlace} (h : DataW.Trod enc Tryd.prog W 0 (fun _ => true) true 24 v d p) (hb : Below W.heap.size W W') :
    DataW.Trod enc Tryd.prog W' 0 (fun b => decide (b < W.heap.size)) true 24 v d p :=
  Below.trod laidOut (by kernel_rfl) (of_decide_eq_true (by kernel_rfl)) h hb (by obtain ⟨m, hm⟩ := h; exact DataW.trod_lt m _ _ _ hm)
set_option maxRecDepth 8000 in
theorem open_sets {H : Type} {enc : TypeId × Value → H} {W : World} {base : Nat} {v : Value} {d : DataW H} {p : List MemPlace} (hw : Wt 22 d) (hval : Value.okWide Tryd.prog W .any base 22 v)
    (h : DataW.Trod enc Tryd.prog W 0 (fun _ => true) true 22 v d p) : ∃ lss, RdLL W v lss ∧ LLIn lss ∧ LLs lss := by
  obtain ⟨a0, len, cap, rfl⟩ := okWide_slice Tryd.underlying22 hval
  obtain ⟨fuel, hf⟩ := h
  exact sets_cell (x := (d, p)) hw (by simpa [Value.cells] using hf)
theorem back_sets {H : Type} {enc : TypeId × Value → H} {W W' : World} {v : Value} {d : DataW H} {p : List MemPlace} (h : DataW.Trod enc Tryd.prog W 0 (fun _ => true) true 22 v d p) (hb : Below W.heap.size W W') :
    DataW.Trod enc Tryd.prog W' 0 (fun b => decide (b < W.heap.size)) true 22 v d p :=
  Below.trod laidOut (by kernel_rfl) (of_decide_eq_true (by kernel_rfl)) h hb (by obtain ⟨m, hm⟩ := h; exact DataW.trod_lt m _ _ _ hm)
end Go.Proofs.YtbnieljkadcaoaaDoor
