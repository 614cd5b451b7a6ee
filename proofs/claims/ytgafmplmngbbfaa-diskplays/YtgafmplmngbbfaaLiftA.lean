/-
  Calls of a disk, and what a crash is to keep, among the arguments: how they read.
-/
import Derived.Test.YtgafmplmngbbfaaLiftL
import Derived.Test.YtgafmplmngbbfaaDFiles
namespace Go.Proofs.Ytgafmplmngbbfaa
open Go.ChangeShapes Go.WideShapes Go.ChangeAt Go.RowKit

theorem cellsKeep : Try.prog.cellsOf 80 = 2 := by kernel_rfl
theorem cellsKeeps : Try.prog.cellsOf 32 = 1 := by kernel_rfl
theorem cellsStr : Try.prog.cellsOf 9 = 1 := by kernel_rfl
theorem cellsInt : Try.prog.cellsOf 3 = 1 := by kernel_rfl
theorem cellsDop : Try.prog.cellsOf 34 = 6 := by kernel_rfl
theorem data_len (s : ByteArray) : s.data.toList.length = s.size := by rw [Array.length_toList]; rfl
theorem mk_data (s : ByteArray) : ByteArray.mk ⟨s.data.toList⟩ = s := by cases s; rfl
instance : Inhabited Opm := ⟨opmZ⟩
theorem bytesKeep : Try.prog.bytesOf 80 = 24 := by kernel_rfl
/-- what an argument weighs is within reach -/
def Wt {H : Type} (t : TypeId) (d : DataW H) : Prop := ∀ n ∈ d.weights Try.prog t, n ≤ reachBytes
theorem Wt.of {H : Type} {ts : List TypeId} {ds : List (DataW H)} (hk : (DataW.weightsEach Try.prog ts ds).all (· ≤ reachBytes) = true) (j : Nat) {t : TypeId} {d : DataW H} (ht : ts[j]? = some t) (hd : ds[j]? = some d) : Wt t d := fun n hn => by
  simpa using List.all_eq_true.1 hk n (DataW.weights_mem_each ht hd n hn)
theorem Wt.elem {H : Type} {t e : TypeId} {elems spare : List (DataW H)} (h : Wt t (.slice elems spare)) (hu : Try.prog.underlying t = some (.slice e)) : (elems.length + spare.length) * Try.prog.bytesOf e ≤ reachBytes ∧ ∀ d ∈ elems, Wt e d := by
  have hmem : ∀ (l : List (DataW H)) (d : DataW H), d ∈ l → ∀ n ∈ d.weights Try.prog e, n ∈ DataW.weightsAll Try.prog e l := by
    intro l
    induction l with
    | nil => intro d hd; cases hd
    | cons y l ih =>
      intro d hd n hn
      simp only [DataW.weightsAll, List.mem_append]
      cases hd with
      | head => exact .inl hn
      | tail _ h => exact .inr (ih d h n hn)
  refine ⟨h _ (by simp [DataW.weights, hu]), fun d hd n hn => h n ?_⟩
  simp only [DataW.weights, hu, List.mem_cons, List.mem_append]
  exact .inr (.inl (hmem _ d hd n hn))
theorem Wt.part {H : Type} {t : TypeId} {fs : Array Field} {parts : List (DataW H)} (h : Wt t (.agg parts)) (hu : Try.prog.underlying t = some (.struct fs)) (j : Nat) {u : TypeId} {d : DataW H} (ht : (fs.toList.map (·.type))[j]? = some u) (hd : parts[j]? = some d) : Wt u d := fun n hn => by
  refine h n ?_
  simp only [DataW.weights, hu]
  exact DataW.weights_mem_each ht hd n hn
set_option maxRecDepth 8000 in
theorem bytes_cellW {H : Type} {enc : TypeId × Value → H} {W : World} {fuel : Nat} {u : Value} {x : DataW H × List MemPlace} (hw : Wt 31 x.1) (hf : DataW.trod enc Try.prog W 0 (fun _ => true) true fuel 31 [u] = some x) : ∃ l, Rd W u l ∧ l.length ≤ 140737488351232 := by
  rcases open_ints Try.underlying31 Try.underlying5 cellsU8 hf with ⟨hcs, hx⟩ | ⟨ad, l, c, zs, hcs, _, hl, hm, hz, hx, hcell, hwz⟩
  · simp only [List.cons.injEq, and_true] at hcs
    subst hcs
    exact ⟨[], Rd.nil W, by simp⟩
  · simp only [List.cons.injEq, and_true] at hcs
    subst hcs
    obtain ⟨bs, rfl⟩ := toU8 zs hwz
    simp only [if_true, List.length_map] at hz hcell
    have hlt : (bs.take l).length = l := by simp; omega
    refine ⟨bs.take l, ⟨some ad, c, by rw [hlt], by rw [hlt]; exact hl, hm, ?_, fun h => by cases h⟩, ?_⟩
    · intro j hj
      rw [hlt] at hj
      have h0 := hcell 0 (by omega)
      obtain ⟨b, off, spot⟩ := ad
      have hspot : spot = none := by simpa [Addr.add] using World.cell?_spot h0
      subst hspot
      refine ⟨b, off, rfl, ?_⟩
      have hj' : j < bs.length := by omega
      have := hcell j hj'
      rw [Go.WideShapes.add_plain] at this
      rw [this]
      simp [hj, hj']
    · rw [hx] at hw
      have := (Wt.elem hw Try.underlying31).1
      rw [bytesU8] at this
      simp only [lits, List.length_map, List.length_take, List.length_drop, reachBytes] at this
      rw [hlt]
      omega
set_option maxRecDepth 8000 in
theorem one_keep {H : Type} {enc : TypeId × Value → H} {W : World} {n : Nat} {a : Addr} {j : Nat} {cs : List Value} {x : DataW H × List MemPlace} (h1 : W.cells? 0 (a.add (j * Try.prog.cellsOf 80)) (Try.prog.cellsOf 80) = some cs)
    (h2 : DataW.trod enc Try.prog W 0 (fun _ => true) true n 80 cs = some x) : ∃ q : Kp, W.cell? (a.add (j * 2)) = some (.string (ByteArray.mk ⟨q.name⟩)) ∧ W.cell? (a.add (j * 2 + 1)) = some (.int .i64 q.n) ∧ q.name.length ≤ maxLen ∧ (Lit.int .i64 q.n).wf = true := by
  rw [cellsKeep] at h1
  obtain ⟨_, hlen, hcell⟩ := World.cells?_some h1
  obtain ⟨xs, k, hk, hxy, _, hxl, hf⟩ := DataW.trod_struct Try.underlying80 h2
  match cs, hlen with
  | [v0, v1], _ =>
    have e0 := hcell 0 (by omega)
    have e1 := hcell 1 (by omega)
    rw [Go.Deep.add_add] at e0 e1
    match xs, hxl with
    | [y0, y1], _ =>
      have g0 := hf 0 _ rfl
      have g1 := hf 1 _ rfl
      simp [cellsStr, cellsInt] at g0 g1
      obtain ⟨s0, w0, -, f0⟩ := DataW.trod_string Try.underlying9 g0
      obtain ⟨z1, w1, -, f1⟩ := DataW.trod_int Try.underlying3 g1
      simp only [List.cons.injEq, and_true] at w0 w1
      subst w0
      subst w1
      refine ⟨⟨s0.data.toList, z1⟩, ?_, by simpa using e1, ?_, f1⟩
      · rw [mk_data]; simpa using e0
      · rw [data_len]; exact f0
/-- what a crash is to keep, as a cell -/
theorem keeps_cell {H : Type} {enc : TypeId × Value → H} {W : World} {fuel : Nat} {u : Value} {x : DataW H × List MemPlace} (hw : Wt 32 x.1) (hf : DataW.trod enc Try.prog W 0 (fun _ => true) true fuel 32 [u] = some x) :
    ∃ va vc ks, u = .slice va (List.length ks) vc ∧ KpsIn W u ks ∧ (va = none → vc = 0) ∧ ks.length ≤ 5864062014634 := by
  rcases Go.Deep.open_slice Try.underlying32 hf with ⟨hcs, hx⟩ | ⟨a, l, c, m, n, D, Pl, hcs, hb, hl, hm, hmm, hx, hel⟩
  · simp only [List.cons.injEq, and_true] at hcs
    subst hcs
    exact ⟨none, 0, [], rfl, KpsIn.nil W, fun _ => rfl, by simp⟩
  · simp only [List.cons.injEq, and_true] at hcs
    subst hcs
    simp only [if_true] at hmm
    have each : ∀ j, j < l → ∃ q : Kp, W.cell? (a.add (j * 2)) = some (.string (ByteArray.mk ⟨q.name⟩)) ∧ W.cell? (a.add (j * 2 + 1)) = some (.int .i64 q.n) ∧ q.name.length ≤ maxLen ∧ (Lit.int .i64 q.n).wf = true := by
      intro j hj
      obtain ⟨cs', h1, h2⟩ := hel j (by omega)
      exact one_keep h1 h2
    obtain ⟨q, hq⟩ := Go.Deep.choose_lt each
    have hlen : ((List.range l).map q).length = l := by simp
    refine ⟨some a, c, (List.range l).map q, by rw [hlen], ⟨some a, c, by rw [hlen], by rw [hlen]; omega, fun j hj => ?_⟩, fun h => (by cases h), ?_⟩
    · rw [hlen] at hj
      have hg : ((List.range l).map q).getD j kpZ = q j := by simp [List.getD, hj]
      obtain ⟨h0, h1, h2, h3⟩ := hq j hj
      have h00 := (hq 0 (by omega)).1
      obtain ⟨b, off, spot⟩ := a
      have hspot : spot = none := by simpa [Addr.add] using World.cell?_spot h00
      subst hspot
      rw [Go.WideShapes.add_plain] at h0 h1
      rw [hg]
      exact ⟨h2, h3, b, off, rfl, h0, by rw [Nat.add_assoc]; exact h1⟩
    · rw [hx] at hw
      have := (Wt.elem hw Try.underlying32).1
      rw [bytesKeep] at this
      simp only [List.length_map, List.length_range, reachBytes] at this ⊢
      omega
set_option maxRecDepth 8000 in
theorem open_keeps {H : Type} {enc : TypeId × Value → H} {W : World} {base : Nat} {v : Value} {d : DataW H} {p : List MemPlace} (hw : Wt 32 d) (hval : Value.okWide Try.prog W .any base 32 v)
    (h : DataW.Trod enc Try.prog W 0 (fun _ => true) true 32 v d p) : ∃ va vc ks, v = .slice va (List.length ks) vc ∧ KpsIn W v ks ∧ (va = none → vc = 0) ∧ ks.length ≤ 5864062014634 := by
  obtain ⟨a0, len, cap, rfl⟩ := okWide_slice Try.underlying32 hval
  obtain ⟨fuel, hf⟩ := h
  exact keeps_cell (x := (d, p)) hw (by simpa [Value.cells] using hf)
theorem back_keeps {H : Type} {enc : TypeId × Value → H} {W W' : World} {v : Value} {d : DataW H} {p : List MemPlace} (h : DataW.Trod enc Try.prog W 0 (fun _ => true) true 32 v d p) (hb : Below W.heap.size W W') :
    DataW.Trod enc Try.prog W' 0 (fun b => decide (b < W.heap.size)) true 32 v d p :=
  Below.trod laidOut (by kernel_rfl) (of_decide_eq_true (by kernel_rfl)) h hb (by obtain ⟨m, hm⟩ := h; exact DataW.trod_lt m _ _ _ hm)

set_option maxRecDepth 8000 in
/-- a call, as its six cells -/
theorem dop_cells {H : Type} {enc : TypeId × Value → H} {W : World} {n : Nat} {cs : List Value} {x : DataW H × List MemPlace} (hw : Wt 34 x.1)
    (h2 : DataW.trod enc Try.prog W 0 (fun _ => true) true n 34 cs = some x) : ∃ x0 x1 x2 x3 x4 x5 o, cs = [x0, x1, x2, x3, x4, x5] ∧ OpIn W (.agg #[x0, x1, x2, x3, x4, x5]) o := by
  obtain ⟨xs, k, hk0, hxy, hcl, hxl, hf⟩ := DataW.trod_struct Try.underlying34 h2
  rw [cellsDop] at hcl
  match cs, hcl with
  | [v0, v1, v2, v3, v4, v5], _ =>
    match xs, hxl with
    | [y0, y1, y2, y3, y4, y5], _ =>
      have g0 := hf 0 _ rfl
      have g1 := hf 1 _ rfl
      have g2 := hf 2 _ rfl
      have g3 := hf 3 _ rfl
      have g4 := hf 4 _ rfl
      have g5 := hf 5 _ rfl
      simp [cellsStr, cellsInt, cellsB, cellsKeeps] at g0 g1 g2 g3 g4 g5
      obtain ⟨z0, w0, -, -⟩ := DataW.trod_int Try.underlying3 g0
      obtain ⟨s1, w1, -, f1⟩ := DataW.trod_string Try.underlying9 g1
      obtain ⟨s2, w2, -, f2⟩ := DataW.trod_string Try.underlying9 g2
      rw [hxy] at hw
      obtain ⟨bs, hr, hb⟩ := bytes_cellW (hw.part Try.underlying34 3 rfl rfl) g3
      obtain ⟨z4, w4, -, -⟩ := DataW.trod_int Try.underlying3 g4
      obtain ⟨va, vc, ks, hv5, hk5, hn5, hb5⟩ := keeps_cell (hw.part Try.underlying34 5 rfl rfl) g5
      simp only [List.cons.injEq, and_true] at w0 w1 w2 w4
      subst w0 w1 w2 w4 hv5
      obtain ⟨ba, bc, rfl, hr2⟩ := hr
      refine ⟨_, _, _, _, _, _, ⟨z0, s1.data.toList, s2.data.toList, bs, z4, ks⟩, rfl, ba, bc, va, vc, by rw [mk_data, mk_data], ⟨ba, bc, rfl, hr2⟩, hk5, hn5, ?_, ?_, hb, hb5⟩
      · rw [data_len]; unfold maxLen at f1; omega
      · rw [data_len]; unfold maxLen at f2; omega
set_option maxRecDepth 8000 in
theorem open_dop {H : Type} {enc : TypeId × Value → H} {W : World} {base : Nat} {v : Value} {d : DataW H} {p : List MemPlace} (hw : Wt 34 d) (hval : Value.okWide Try.prog W .any base 34 v)
    (h : DataW.Trod enc Try.prog W 0 (fun _ => true) true 34 v d p) : ∃ o, OpIn W v o := by
  obtain ⟨cs, rfl, hc⟩ := okWide_struct Try.underlying34 hval
  obtain ⟨fuel, hf⟩ := h
  obtain ⟨x0, x1, x2, x3, x4, x5, o, he, ho⟩ := dop_cells (x := (d, p)) hw hf
  have e : cs = #[x0, x1, x2, x3, x4, x5] := by
    cases cs
    simpa [Value.cells] using he
  subst e
  exact ⟨o, ho⟩
theorem back_dop {H : Type} {enc : TypeId × Value → H} {W W' : World} {v : Value} {d : DataW H} {p : List MemPlace} (h : DataW.Trod enc Try.prog W 0 (fun _ => true) true 34 v d p) (hb : Below W.heap.size W W') :
    DataW.Trod enc Try.prog W' 0 (fun b => decide (b < W.heap.size)) true 34 v d p :=
  Below.trod laidOut (by kernel_rfl) (of_decide_eq_true (by kernel_rfl)) h hb (by obtain ⟨m, hm⟩ := h; exact DataW.trod_lt m _ _ _ hm)
set_option maxRecDepth 8000 in
theorem open_dops {H : Type} {enc : TypeId × Value → H} {W : World} {base : Nat} {v : Value} {d : DataW H} {p : List MemPlace} (hw : Wt 22 d) (hval : Value.okWide Try.prog W .any base 22 v)
    (h : DataW.Trod enc Try.prog W 0 (fun _ => true) true 22 v d p) : ∃ os, OpsIn W v os := by
  obtain ⟨a0, len, cap, rfl⟩ := okWide_slice Try.underlying22 hval
  obtain ⟨fuel, hf⟩ := h
  rcases Go.Deep.open_slice Try.underlying22 hf with ⟨hcs, hx⟩ | ⟨a, l, c, m, n, D, Pl, hcs, hb, hl, hm, hmm, hx, hel⟩
  · simp [Value.cells] at hcs
    obtain ⟨rfl, rfl, rfl⟩ := hcs
    exact ⟨[], none, 0, rfl, by simp, fun j hj => by simp at hj⟩
  · simp [Value.cells] at hcs
    obtain ⟨rfl, rfl, rfl⟩ := hcs
    simp only [if_true] at hmm
    have hd : d = .slice ((List.range len).map D) ((List.range (m - len)).map fun j => D (len + j)) := congrArg Prod.fst hx
    have each : ∀ j, j < len → ∃ q : (Value × Value × Value) × (Value × Value × Value) × Opm, OpIn W (.agg #[q.1.1, q.1.2.1, q.1.2.2, q.2.1.1, q.2.1.2.1, q.2.1.2.2]) q.2.2 ∧ W.cell? (a.add (j * 6)) = some q.1.1 ∧ W.cell? (a.add (j * 6 + 1)) = some q.1.2.1 ∧ W.cell? (a.add (j * 6 + 2)) = some q.1.2.2 ∧ W.cell? (a.add (j * 6 + 3)) = some q.2.1.1 ∧ W.cell? (a.add (j * 6 + 4)) = some q.2.1.2.1 ∧ W.cell? (a.add (j * 6 + 5)) = some q.2.1.2.2 := by
      intro j hj
      obtain ⟨cs', h1, h2⟩ := hel j (by omega)
      rw [hd] at hw
      have hbj : Wt 34 (D j) := (Wt.elem hw Try.underlying22).2 _ (List.mem_map.2 ⟨j, List.mem_range.2 hj, rfl⟩)
      obtain ⟨x0, x1, x2, x3, x4, x5, o, rfl, ho⟩ := dop_cells (x := (D j, Pl j)) hbj h2
      rw [cellsDop] at h1
      obtain ⟨_, hlen, hcell⟩ := World.cells?_some h1
      have e0 := hcell 0 (by omega)
      have e1 := hcell 1 (by omega)
      have e2 := hcell 2 (by omega)
      have e3 := hcell 3 (by omega)
      have e4 := hcell 4 (by omega)
      have e5 := hcell 5 (by omega)
      rw [Go.Deep.add_add] at e0 e1 e2 e3 e4 e5
      exact ⟨((x0, x1, x2), (x3, x4, x5), o), ho, by simpa using e0, by simpa using e1, by simpa using e2, by simpa using e3, by simpa using e4, by simpa using e5⟩
    obtain ⟨q, hq⟩ := Go.Deep.choose_lt (α := (Value × Value × Value) × (Value × Value × Value) × Opm) each
    have hlen : ((List.range len).map fun j => (q j).2.2).length = len := by simp
    refine ⟨(List.range len).map fun j => (q j).2.2, some a, cap, by rw [hlen], by rw [hlen]; omega, fun j hj => ?_⟩
    rw [hlen] at hj
    have hg : ((List.range len).map fun j => (q j).2.2).getD j opmZ = (q j).2.2 := by simp [List.getD, hj]
    obtain ⟨ho, h0, h1, h2, h3, h4, h5⟩ := hq j hj
    have h00 := (hq 0 (by omega)).2.1
    obtain ⟨b, off, spot⟩ := a
    have hspot : spot = none := by simpa [Addr.add] using World.cell?_spot h00
    subst hspot
    rw [Go.WideShapes.add_plain] at h0 h1 h2 h3 h4 h5
    rw [hg]
    exact ⟨b, off, rfl, _, _, _, _, _, _, ho, h0, by rw [Nat.add_assoc]; exact h1, by rw [Nat.add_assoc]; exact h2, by rw [Nat.add_assoc]; exact h3, by rw [Nat.add_assoc]; exact h4, by rw [Nat.add_assoc]; exact h5⟩
theorem back_dops {H : Type} {enc : TypeId × Value → H} {W W' : World} {v : Value} {d : DataW H} {p : List MemPlace} (h : DataW.Trod enc Try.prog W 0 (fun _ => true) true 22 v d p) (hb : Below W.heap.size W W') :
    DataW.Trod enc Try.prog W' 0 (fun b => decide (b < W.heap.size)) true 22 v d p :=
  Below.trod laidOut (by kernel_rfl) (of_decide_eq_true (by kernel_rfl)) h hb (by obtain ⟨m, hm⟩ := h; exact DataW.trod_lt m _ _ _ hm)
end Go.Proofs.Ytgafmplmngbbfaa
