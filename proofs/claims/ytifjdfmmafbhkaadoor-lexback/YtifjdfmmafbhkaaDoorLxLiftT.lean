/-
  Lists of tokens, lists of whole numbers as arguments, where the bulk is bounded.
-/
import Derived.Test.YtifjdfmmafbhkaaDoorLxLift
import Derived.Test.YtifjdfmmafbhkaaDoorLxZd
namespace Go.Proofs.YtifjdfmmafbhkaaDoor
open Go.ChangeShapes Go.WideShapes Go.ChangeAt Go.RowKit Go.Lib Go.Shelf

theorem cellsTok : Tryd.prog.cellsOf 28 = 3 := by kernel_rfl
theorem cellsInt : Tryd.prog.cellsOf 3 = 1 := by kernel_rfl
theorem bulkAll_len {H : Type} (l : List (DataW H)) : l.length ≤ Rows.uptoBulkAll l := by
  induction l with
  | nil => simp [Rows.uptoBulkAll]
  | cons x r ih =>
    have h1 : 1 ≤ Rows.uptoBulk x := by
      cases x with
      | lit v => cases v <;> simp [Rows.uptoBulk]
      | _ => simp [Rows.uptoBulk]
    simp only [Rows.uptoBulkAll, List.length_cons]
    omega
theorem bulkAll_mem {H : Type} (l : List (DataW H)) (x : DataW H) (h : x ∈ l) : Rows.uptoBulk x ≤ Rows.uptoBulkAll l := by
  induction l with
  | nil => cases h
  | cons y r ih =>
    simp only [Rows.uptoBulkAll]
    cases h with
    | head => omega
    | tail _ h => have := ih h; omega
theorem i64_wf {z : Int} (h : (Lit.int .i64 z).wf = true) : -9223372036854775808 ≤ z ∧ z ≤ 9223372036854775807 := by
  simp [Lit.wf, IntKind.min, IntKind.max, IntKind.signed, IntKind.bits] at h
  omega
set_option maxRecDepth 8000 in
theorem one_tok {H : Type} {enc : TypeId × Value → H} {W : World} {n : Nat} {a : Addr} {j : Nat} {cs : List Value} {x : DataW H × List MemPlace} (h1 : W.cells? 0 (a.add (j * Tryd.prog.cellsOf 28)) (Tryd.prog.cellsOf 28) = some cs)
    (h2 : DataW.trod enc Tryd.prog W 0 (fun _ => true) true n 28 cs = some x) : ∃ q : Tok, W.cell? (a.add (j * 3)) = some (.int .i64 q.1) ∧ W.cell? (a.add (j * 3 + 1)) = some (.string (ByteArray.mk ⟨q.2.1⟩)) ∧ W.cell? (a.add (j * 3 + 2)) = some (.int .i64 q.2.2) ∧ q.2.1.length ≤ Rows.uptoBulk x.1 := by
  rw [cellsTok] at h1
  obtain ⟨_, hlen, hcell⟩ := World.cells?_some h1
  obtain ⟨xs, k, hk, hxy, _, hxl, hf⟩ := DataW.trod_struct Tryd.underlying28 h2
  match cs, hlen with
  | [v0, v1, v2], _ =>
    have e0 := hcell 0 (by omega)
    have e1 := hcell 1 (by omega)
    have e2 := hcell 2 (by omega)
    rw [Go.Deep.add_add] at e0 e1 e2
    match xs, hxl with
    | [y0, y1, y2], _ =>
      have g0 := hf 0 _ rfl
      have g1 := hf 1 _ rfl
      have g2 := hf 2 _ rfl
      simp [cellsStr, cellsInt] at g0 g1 g2
      obtain ⟨z0, w0, x0, f0⟩ := DataW.trod_int Tryd.underlying3 g0
      obtain ⟨s1, w1, x1, f1⟩ := DataW.trod_string Tryd.underlying9 g1
      obtain ⟨z2, w2, x2, f2⟩ := DataW.trod_int Tryd.underlying3 g2
      simp only [List.cons.injEq, and_true] at w0 w1 w2
      subst w0 w1 w2
      refine ⟨(z0, s1.data.toList, z2), by simpa using e0, ?_, by simpa using e2, ?_⟩
      · rw [mk_data]; simpa using e1
      · rw [hxy]
        simp only [List.map_cons, List.map_nil, Rows.uptoBulk, Rows.uptoBulkAll, x1]
        omega
set_option maxRecDepth 8000 in
theorem open_toks {H : Type} {enc : TypeId × Value → H} {W : World} {base : Nat} {v : Value} {d : DataW H} {p : List MemPlace} (hval : Value.okWide Tryd.prog W .any base 22 v)
    (h : DataW.Trod enc Tryd.prog W 0 (fun _ => true) true 22 v d p) : ∃ l, RdT W v l ∧ l.length ≤ Rows.uptoBulk d ∧ ∀ t ∈ l, t.2.1.length ≤ Rows.uptoBulk d := by
  obtain ⟨a0, len, cap, rfl⟩ := okWide_slice Tryd.underlying22 hval
  obtain ⟨fuel, hf⟩ := h
  rcases Go.Deep.open_slice Tryd.underlying22 hf with ⟨hcs, hx⟩ | ⟨a, l, c, m, n, D, Pl, hcs, hb, hl, hm, hmm, hx, hel⟩
  · simp [Value.cells] at hcs
    obtain ⟨rfl, rfl, rfl⟩ := hcs
    exact ⟨[], ⟨none, 0, rfl, by simp, by simp [maxLen], fun j hj => by simp at hj⟩, by simp, fun t ht => by cases ht⟩
  · simp [Value.cells] at hcs
    obtain ⟨rfl, rfl, rfl⟩ := hcs
    simp only [if_true] at hmm
    have each : ∀ j, j < len → ∃ q : Tok, (W.cell? (a.add (j * 3)) = some (.int .i64 q.1) ∧ W.cell? (a.add (j * 3 + 1)) = some (.string (ByteArray.mk ⟨q.2.1⟩)) ∧ W.cell? (a.add (j * 3 + 2)) = some (.int .i64 q.2.2)) ∧ q.2.1.length ≤ Rows.uptoBulk (D j) := by
      intro j hj
      obtain ⟨cs', h1, h2⟩ := hel j (by omega)
      obtain ⟨q, q0, q1, q2, q3⟩ := one_tok h1 h2
      exact ⟨q, ⟨q0, q1, q2⟩, q3⟩
    obtain ⟨q, hq⟩ := Go.Deep.choose_lt each
    have hlen : ((List.range len).map q).length = len := by simp
    have hgd : ∀ j, j < len → ((List.range len).map q).getD j tkD = q j := fun j hj => by simp [List.getD, hj]
    have hbk : Rows.uptoBulkAll ((List.range len).map D) ≤ Rows.uptoBulk d := by
      have hd : d = _ := congrArg Prod.fst hx
      rw [hd]
      simp only [Rows.uptoBulk]
      omega
    refine ⟨(List.range len).map q, ⟨some a, cap, by rw [hlen], by rw [hlen]; omega, hm, fun j hj => ?_⟩, ?_, ?_⟩
    · rw [hlen] at hj
      obtain ⟨h0, h1, h2⟩ := (hq j hj).1
      have h00 := (hq 0 (by omega)).1.1
      obtain ⟨b, off, spot⟩ := a
      have hspot : spot = none := by simpa [Addr.add] using World.cell?_spot h00
      subst hspot
      rw [Go.WideShapes.add_plain] at h0 h1 h2
      rw [hgd j hj]
      exact ⟨b, off, rfl, h0, by rw [Nat.add_assoc]; exact h1, by rw [Nat.add_assoc]; exact h2⟩
    · rw [hlen]
      have := bulkAll_len ((List.range len).map D)
      simp only [List.length_map, List.length_range] at this
      omega
    · intro t ht
      obtain ⟨j, hj, rfl⟩ := List.mem_map.1 ht
      have h1 := (hq j (List.mem_range.1 hj)).2
      have h2 := bulkAll_mem ((List.range len).map D) (D j) (List.mem_map.2 ⟨j, hj, rfl⟩)
      omega
set_option maxRecDepth 8000 in
theorem back_toks {H : Type} {enc : TypeId × Value → H} {W W' : World} {v : Value} {d : DataW H} {p : List MemPlace} (h : DataW.Trod enc Tryd.prog W 0 (fun _ => true) true 22 v d p) (hb : Below W.heap.size W W') :
    DataW.Trod enc Tryd.prog W' 0 (fun b => decide (b < W.heap.size)) true 22 v d p :=
  Below.trod laidOut (by kernel_rfl) (of_decide_eq_true (by kernel_rfl)) h hb (by obtain ⟨m, hm⟩ := h; exact DataW.trod_lt m _ _ _ hm)
set_option maxRecDepth 8000 in
theorem open_ints {H : Type} {enc : TypeId × Value → H} {W : World} {base : Nat} {v : Value} {d : DataW H} {p : List MemPlace} (hval : Value.okWide Tryd.prog W .any base 37 v)
    (h : DataW.Trod enc Tryd.prog W 0 (fun _ => true) true 37 v d p) : ∃ l, RdI W v l ∧ ∀ z ∈ l, -9223372036854775808 ≤ z ∧ z ≤ 9223372036854775807 := by
  obtain ⟨a0, len, cap, rfl⟩ := okWide_slice Tryd.underlying37 hval
  obtain ⟨fuel, hf⟩ := h
  rcases Go.Deep.open_slice Tryd.underlying37 hf with ⟨hcs, hx⟩ | ⟨a, l, c, m, n, D, Pl, hcs, hb, hl, hm, hmm, hx, hel⟩
  · simp [Value.cells] at hcs
    obtain ⟨rfl, rfl, rfl⟩ := hcs
    exact ⟨[], ⟨none, 0, rfl, by simp, fun j hj => by simp at hj⟩, fun z hz => by cases hz⟩
  · simp [Value.cells] at hcs
    obtain ⟨rfl, rfl, rfl⟩ := hcs
    simp only [if_true] at hmm
    have each : ∀ j, j < len → ∃ q : Int, W.cell? (a.add j) = some (.int .i64 q) ∧ -9223372036854775808 ≤ q ∧ q ≤ 9223372036854775807 := by
      intro j hj
      obtain ⟨cs', h1, h2⟩ := hel j (by omega)
      rw [cellsInt, Nat.mul_one] at h1
      obtain ⟨z, hz, -, hw⟩ := DataW.trod_int Tryd.underlying3 h2
      obtain ⟨_, hlen, hcell⟩ := World.cells?_some h1
      have e0 := hcell 0 (by omega)
      rw [Go.Deep.add_add] at e0
      subst hz
      exact ⟨z, by simpa using e0, i64_wf hw⟩
    obtain ⟨q, hq⟩ := Go.Deep.choose_lt (α := Int) each
    have hlen : ((List.range len).map q).length = len := by simp
    unfold maxLen at hm
    refine ⟨(List.range len).map q, ⟨some a, cap, by rw [hlen], by rw [hlen]; omega, fun j hj => ?_⟩, fun z hz => ?_⟩
    · rw [hlen] at hj
      have hg : ((List.range len).map q).getD j 0 = q j := by simp [List.getD, hj]
      have h0 := (hq j hj).1
      have h00 := (hq 0 (by omega)).1
      obtain ⟨b, off, spot⟩ := a
      have hspot : spot = none := by simpa [Addr.add] using World.cell?_spot h00
      subst hspot
      rw [Go.WideShapes.add_plain] at h0
      rw [hg]
      exact ⟨b, off, rfl, h0⟩
    · obtain ⟨j, hj, rfl⟩ := List.mem_map.1 hz
      exact (hq j (List.mem_range.1 hj)).2
set_option maxRecDepth 8000 in
theorem back_ints {H : Type} {enc : TypeId × Value → H} {W W' : World} {v : Value} {d : DataW H} {p : List MemPlace} (h : DataW.Trod enc Tryd.prog W 0 (fun _ => true) true 37 v d p) (hb : Below W.heap.size W W') :
    DataW.Trod enc Tryd.prog W' 0 (fun b => decide (b < W.heap.size)) true 37 v d p :=
  Below.trod laidOut (by kernel_rfl) (of_decide_eq_true (by kernel_rfl)) h hb (by obtain ⟨m, hm⟩ := h; exact DataW.trod_lt m _ _ _ hm)
end Go.Proofs.YtifjdfmmafbhkaaDoor
