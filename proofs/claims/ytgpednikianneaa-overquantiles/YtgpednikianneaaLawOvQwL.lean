/-
  OverQuantiles, proved whatever the input: the quantile of values in any order, which stay, is the document's; 0 tells the least of numbers, 1 the greatest.
-/
import Derived.Test.YtgpednikianneaaLawOvQw
import Derived.Test.YtgpednikianneaaOvLift
namespace Go.Proofs.Ytgpednikianneaa
open Go.ChangeShapes Go.WideShapes Go.ChangeAt Go.RowKit

theorem bytesFl : Try.prog.bytesOf 22 = 8 := by kernel_rfl
theorem one_float {H : Type} {enc : TypeId × Value → H} {W : World} {n : Nat} {a : Addr} {j : Nat} {cs : List Value} {x : DataW H × List MemPlace} (h1 : W.cells? 0 (a.add (j * Try.prog.cellsOf 22)) (Try.prog.cellsOf 22) = some cs)
    (h2 : DataW.trod enc Try.prog W 0 (fun _ => true) true n 22 cs = some x) : ∃ q : Nat, W.cell? (a.add j) = some (.float .f64 q) ∧ (Lit.float .f64 q).wf = true := by
  rw [cellsF64, Nat.mul_one] at h1
  obtain ⟨_, hlen, hcell⟩ := World.cells?_some h1
  obtain ⟨z1, w1, f1⟩ := trod_f64 Try.underlying22 h2
  subst w1
  have e0 := hcell 0 (by omega)
  rw [Go.Deep.add_add] at e0
  exact ⟨z1, by simpa using e0, f1⟩
set_option maxRecDepth 8000 in
theorem floats_cellW {H : Type} {enc : TypeId × Value → H} {W : World} {fuel : Nat} {u : Value} {x : DataW H × List MemPlace} (hw : Wt 23 x.1) (hf : DataW.trod enc Try.prog W 0 (fun _ => true) true fuel 23 [u] = some x) :
    ∃ l, RdL W u l ∧ (∀ x ∈ l, x < 18446744073709551616) ∧ l.length ≤ 17592186044416 := by
  rcases Go.Deep.open_slice Try.underlying23 hf with ⟨hcs, hx⟩ | ⟨a, l, c, m, n, D, Pl, hcs, hb, hl, hm, hmm, hx, hel⟩
  · simp only [List.cons.injEq, and_true] at hcs
    subst hcs
    exact ⟨[], ⟨none, 0, rfl, ⟨by simp, fun _ => rfl⟩, by simp [maxLen], fun j hj => by simp at hj⟩, (fun y hy => by cases hy), by simp⟩
  · simp only [List.cons.injEq, and_true] at hcs
    subst hcs
    simp only [if_true] at hmm
    have each : ∀ j, j < l → ∃ q : Nat, W.cell? (a.add j) = some (.float .f64 q) ∧ (Lit.float .f64 q).wf = true := by
      intro j hj
      obtain ⟨cs', h1, h2⟩ := hel j (by omega)
      exact one_float h1 h2
    obtain ⟨q, hq⟩ := Go.Deep.choose_lt each
    have hlen : ((List.range l).map q).length = l := by simp
    have hgd : ∀ j, j < l → ((List.range l).map q).getD j 0 = q j := fun j hj => by simp [List.getD, hj]
    refine ⟨(List.range l).map q, ⟨some a, c, by rw [hlen], ⟨by rw [hlen]; omega, fun h => by cases h⟩, hm, fun j hj => ?_⟩, fun y hy => ?_, ?_⟩
    · rw [hlen] at hj
      obtain ⟨h0, -⟩ := hq j hj
      have h00 := (hq 0 (by omega)).1
      obtain ⟨b, off, spot⟩ := a
      have hspot : spot = none := by simpa [Addr.add] using World.cell?_spot h00
      subst hspot
      rw [Go.WideShapes.add_plain] at h0
      rw [hgd j hj]
      exact ⟨b, off, rfl, h0⟩
    · obtain ⟨j, hj, rfl⟩ := List.mem_map.1 hy
      exact f64_bd (hq j (List.mem_range.1 hj)).2
    · rw [hlen]
      rw [hx] at hw
      have hwe := (Wt.elem hw Try.underlying23).1
      rw [bytesFl] at hwe
      simp only [List.length_map, List.length_range, reachBytes] at hwe
      omega
set_option maxRecDepth 8000 in
theorem open_floatsW {H : Type} {enc : TypeId × Value → H} {W : World} {base : Nat} {v : Value} {d : DataW H} {p : List MemPlace} (hw : Wt 23 d) (hval : Value.okWide Try.prog W .any base 23 v)
    (h : DataW.Trod enc Try.prog W 0 (fun _ => true) true 23 v d p) : ∃ l, RdL W v l ∧ (∀ x ∈ l, x < 18446744073709551616) ∧ l.length ≤ 17592186044416 := by
  obtain ⟨a0, len, cap, rfl⟩ := okWide_slice Try.underlying23 hval
  obtain ⟨fuel, hf⟩ := h
  exact floats_cellW (x := (d, p)) hw (by simpa [Value.cells] using hf)
set_option maxRecDepth 8000 in
theorem back_floats {H : Type} {enc : TypeId × Value → H} {W W' : World} {v : Value} {d : DataW H} {p : List MemPlace} (h : DataW.Trod enc Try.prog W 0 (fun _ => true) true 23 v d p) (hb : Below W.heap.size W W') :
    DataW.Trod enc Try.prog W' 0 (fun b => decide (b < W.heap.size)) true 23 v d p :=
  Below.trod laidOut (by kernel_rfl) (of_decide_eq_true (by kernel_rfl)) h hb (by obtain ⟨m, hm⟩ := h; exact DataW.trod_lt m _ _ _ hm)

set_option maxRecDepth 100000 in
theorem quantiles_contract (H : Type) (enc : TypeId × Value → H) (W : World) (base : Nat) (args : Array Value) (ds gs : List (DataW H)) (before : List MemPlace)
    (hval : ∀ (j : Nat) t v, Try.f3.params[j]? = some t → args[j]? = some v → Value.okWide Try.prog W .any base t v)
    (hW : DataW.Whole enc Try.prog Try.f3.params.toList Rows.overQuantilesSpec.vars false W args.toList ds gs before) (hk : (DataW.weightsEach Try.prog (Try.f3.params.toList ++ (OpenSpec.ofChange Rows.overQuantilesSpec).bare.plain.varTypes Try.prog) (ds ++ gs)).all (· ≤ reachBytes) = true) :
    Calls Try.prog 3 args W fun e W' => ∃ v, e = .returned v ∧ Rows.overQuantilesSpec.post enc Try.prog Try.f3 false true false false W args v W' := by
  have hW' := hW
  obtain ⟨p, q, hA0, hV, rfl, hfz, hnd⟩ := hW
  have hA : DataW.TrodAll enc Try.prog W 0 (fun _ => true) true Try.f3.params.toList args.toList ds p := hA0
  rw [Try.params3] at hA hval hk
  obtain ⟨v0, vs0, d0, ds0, p0, q0, hargs, rfl, rfl, h0, r0⟩ := trodAll_cons hA
  obtain ⟨v1, vs1, d1, ds1, p1, q1, rfl, rfl, rfl, h1, r1⟩ := trodAll_cons r0
  obtain ⟨rfl, rfl, rfl⟩ := trodAll_nil r1
  obtain rfl : args = #[v0, v1] := by cases args; simp_all
  obtain ⟨rfl, rfl⟩ := trodVars_none hV
  obtain ⟨z0, rfl, rfl, rfl, wz0⟩ := open_float Try.underlying22 (hval 0 22 v0 rfl rfl) h0
  obtain ⟨l1, o1, i1, m1⟩ := open_floatsW (Wt.of hk 1 rfl rfl) (hval 1 23 v1 rfl rfl) h1
  clear hA0
  refine (quantiles_walk z0 v1 l1 W o1 i1 m1).mono fun e W' ⟨he, bel⟩ => ?_
  subst he
  exact ⟨_, rfl, _, _, _, [], _, [], hW', trodAll_mk1 (shut_bool Try.underlying4 _), (trodAll_cons_mk (shut_float Try.underlying22 wz0) (trodAll_cons_mk (back_floats h1 bel) trodAll_mk0)), rfl, bel.frame _, fun h => by cases h⟩

set_option maxRecDepth 100000 in
theorem quantiles_reads (os : Os) {H : Type} (enc : TypeId × Value → H) : ∃ places, DataW.whole enc Try.prog ((laidWorld os).forCall (fun _ _ => 0) ⟨#[], #[.float .f64 0, .slice none 0 0], []⟩).memory Try.f3.params.toList Rows.overQuantilesSpec.vars false #[Value.float .f64 0, Value.slice none 0 0].toList 8 = some ([.lit (.float .f64 0), .nil], [], places) :=
  ⟨[], by kernel_rfl⟩

set_option maxRecDepth 100000 in
theorem quantiles_lifted (os : Os) (started : os.Started) (H : Type) (enc : TypeId × Value → H) (F : Stop.Interp) :
    ReturnsInHanded {} Try.checked os 3 .any ((OpenSpec.ofChange Rows.overQuantilesSpec).preRow enc Try.prog Try.f3 Rows.overQuantilesRow.domain false Rows.overQuantilesRow.laid) (((OpenSpec.ofChange Rows.overQuantilesSpec).at F).post enc Try.prog Try.f3 false true false false) := by
  obtain ⟨places, hx⟩ := quantiles_reads os enc
  refine returnsInHanded_of_row (C := Try.checked) (s := (OpenSpec.ofChange Rows.overQuantilesSpec)) own started (by kernel_rfl) Try.func3
    (witness_row_at (enc := enc) (C := Try.checked) false (laidWorld os) #[.float .f64 0, .slice none 0 0] rfl (by kernel_rfl) (by kernel_rfl) (by kernel_rfl)
      (OpenSpec.preRow_of_cond 8 hx (by kernel_rfl) (fun k hk => by cases hk) (by kernel_rfl) (laidMet_of_run' 8 (by kernel_rfl) (by kernel_rfl)))) ?_
  intro W base args ds gs before hval hW _ _ hsz _ _ _
  exact quantiles_contract H enc W base args ds gs before hval hW hsz

set_option maxRecDepth 100000 in
theorem quantiles_said : Rows.OverQuantilesSaid :=
  OpenClaim.holds_of_cond 3 Try.f3 rfl rfl rfl rfl rfl rfl rfl ⟨rfl, rfl, rfl, rfl, rfl⟩ rfl rfl rfl rfl rfl (by kernel_rfl) Try.func3 (by kernel_rfl)
    (of_decide_eq_true (by kernel_rfl)) (by unfold Func.isWrapper; first | (rw [if_pos (by decide +kernel)]; kernel_rfl) | (rw [if_neg (by decide +kernel)]; exact ⟨rfl, rfl⟩))
    (fun os started H enc _ F => by rw [OpenClaim.pre_eq_preRow]; exact quantiles_lifted os started H enc F)

/-- THE STATEMENT -/
theorem overQuantiles_holds : Rows.OverQuantilesSaid := quantiles_said
end Go.Proofs.Ytgpednikianneaa
