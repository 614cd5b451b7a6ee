/-
  ChunkCodes, proved whatever the input: samples are bytes, and bytes are samples, or none, as the chapter says; those of a span are told; what is handed in stays.
-/
import Derived.Test.YtkiefmhampfhoaaDoorLawCkCod
import Derived.Test.YtkiefmhampfhoaaDoorCkSx
import Derived.Test.YtkiefmhampfhoaaDoorCkLiftQ
namespace Go.Proofs.YtkiefmhampfhoaaDoor
open Go.ChangeShapes Go.WideShapes Go.ChangeAt Go.RowKit

theorem codes_tabs {W : World} (h : laidMetH Tryd.prog Rows.chunkCodesRow.laid W) : Tk W := by
  have h : laidMet Tryd.prog Rows.chunkCodesRow.laid W := by rw [← Go.MakeChecks.laidMetH_plain _ _ _ (by kernel_rfl)]; exact h
  exact ⟨tabc_of h (by simp [Rows.chunkCodesRow]), tabz_of h (by simp [Rows.chunkCodesRow])⟩

set_option maxRecDepth 100000 in
theorem codes_contract (H : Type) (enc : TypeId × Value → H) (W : World) (base : Nat) (args : Array Value) (ds gs : List (DataW H)) (before : List MemPlace)
    (hval : ∀ (j : Nat) t v, Tryd.f4.params[j]? = some t → args[j]? = some v → Value.okWide Tryd.prog W .any base t v)
    (hW : DataW.Whole enc Tryd.prog Tryd.f4.params.toList Rows.chunkCodesSpec.vars false W args.toList ds gs before) (hL : laidMetH Tryd.prog Rows.chunkCodesRow.laid W) (hk : (DataW.weightsEach Tryd.prog (Tryd.f4.params.toList ++ (OpenSpec.ofChange Rows.chunkCodesSpec).bare.plain.varTypes Tryd.prog) (ds ++ gs)).all (· ≤ reachBytes) = true) :
    Calls Tryd.prog 4 args W fun e W' => ∃ v, e = .returned v ∧ Rows.chunkCodesSpec.post enc Tryd.prog Tryd.f4 false true false false W args v W' := by
  have hW' := hW
  obtain ⟨p, q, hA0, hV, rfl, hfz, hnd⟩ := hW
  have hA : DataW.TrodAll enc Tryd.prog W 0 (fun _ => true) true Tryd.f4.params.toList args.toList ds p := hA0
  rw [Tryd.params4] at hA hval hk
  obtain ⟨v0, vs0, d0, ds0, p0, q0, hargs, rfl, rfl, h0, r0⟩ := trodAll_cons hA
  obtain ⟨v1, vs1, d1, ds1, p1, q1, rfl, rfl, rfl, h1, r1⟩ := trodAll_cons r0
  obtain ⟨v2, vs2, d2, ds2, p2, q2, rfl, rfl, rfl, h2, r2⟩ := trodAll_cons r1
  obtain ⟨v3, vs3, d3, ds3, p3, q3, rfl, rfl, rfl, h3, r3⟩ := trodAll_cons r2
  obtain ⟨rfl, rfl, rfl⟩ := trodAll_nil r3
  obtain rfl : args = #[v0, v1, v2, v3] := by cases args; simp_all
  obtain ⟨rfl, rfl⟩ := trodVars_none hV
  obtain ⟨l0, o0, i0, m0⟩ := open_samplesW (Wt.of hk 0 rfl rfl) (hval 0 22 v0 rfl rfl) h0
  obtain ⟨l1, rd1, b1, n1, nl1, nd1⟩ := open_bytes (hval 1 36 v1 rfl rfl) h1
  obtain ⟨z2, rfl, rfl, rfl, wz2⟩ := open_int Tryd.underlying2 (hval 2 2 v2 rfl rfl) h2
  obtain ⟨z3, rfl, rfl, rfl, wz3⟩ := open_int Tryd.underlying2 (hval 3 2 v3 rfl rfl) h3
  clear hA0
  have s1 : l1.length ≤ 140737488351232 := sz_bytes hk 1 rfl rfl nl1 nd1
  refine (codes_of dDecode_any v0 v1 l0 l1 z2 z3 W o0 i0 m0 rd1 s1 (codes_tabs hL)).mono fun e W' ⟨he, bel⟩ => ?_
  subst he
  exact ⟨_, rfl, _, _, _, [], _, [], hW', trodAll_mk1 (shut_bool Tryd.underlying4 _), (trodAll_cons_mk (back_samples h0 bel) (trodAll_cons_mk (back_bytes h1 bel) (trodAll_cons_mk (shut_int Tryd.underlying2 wz2) (trodAll_cons_mk (shut_int Tryd.underlying2 wz3) trodAll_mk0)))), rfl, bel.frame _, fun h => by cases h⟩

theorem codes_met (os : Os) : laidMet Tryd.prog Rows.chunkCodesRow.laid ((laidWorld os).forCall (fun _ _ => 0) ⟨#[], #[.slice none 0 0, .slice none 0 0, .int .i64 0, .int .i64 0], []⟩).memory :=
  laidMet_of_run' 8 (by kernel_rfl) (by kernel_rfl)
set_option maxRecDepth 100000 in
theorem codes_reads (os : Os) {H : Type} (enc : TypeId × Value → H) : ∃ places, DataW.whole enc Tryd.prog ((laidWorld os).forCall (fun _ _ => 0) ⟨#[], #[.slice none 0 0, .slice none 0 0, .int .i64 0, .int .i64 0], []⟩).memory Tryd.f4.params.toList Rows.chunkCodesSpec.vars false #[Value.slice none 0 0, Value.slice none 0 0, Value.int .i64 0, Value.int .i64 0].toList 8 = some ([.nil, .nil, .lit (.int .i64 0), .lit (.int .i64 0)], [], places) :=
  ⟨[], by kernel_rfl⟩

set_option maxRecDepth 100000 in
theorem codes_lifted (os : Os) (started : os.Started) (H : Type) (enc : TypeId × Value → H) (F : Stop.Interp) :
    ReturnsInHanded {} Tryd.checked os 4 .any ((OpenSpec.ofChange Rows.chunkCodesSpec).preRow enc Tryd.prog Tryd.f4 Rows.chunkCodesRow.domain false Rows.chunkCodesRow.laid) (((OpenSpec.ofChange Rows.chunkCodesSpec).at F).post enc Tryd.prog Tryd.f4 false true false false) := by
  obtain ⟨places, hx⟩ := codes_reads os enc
  refine returnsInHanded_of_row (C := Tryd.checked) (s := (OpenSpec.ofChange Rows.chunkCodesSpec)) own started (by kernel_rfl) Tryd.func4
    (witness_row_at (enc := enc) (C := Tryd.checked) false (laidWorld os) #[.slice none 0 0, .slice none 0 0, .int .i64 0, .int .i64 0] rfl (by kernel_rfl) (by kernel_rfl) (by kernel_rfl)
      (OpenSpec.preRow_of_cond 8 hx (by kernel_rfl) (fun k hk => by cases hk) (by kernel_rfl) (codes_met os))) ?_
  intro W base args ds gs before hval hW _ _ hsz hL _ _
  exact codes_contract H enc W base args ds gs before hval hW hL hsz

set_option maxRecDepth 100000 in
theorem codes_said : Rows.ChunkCodesSaid :=
  OpenClaim.holds_of_cond 4 Tryd.f4 rfl rfl rfl rfl rfl rfl rfl ⟨rfl, rfl, rfl, rfl, rfl⟩ rfl rfl rfl rfl rfl (by kernel_rfl) Tryd.func4 (by kernel_rfl)
    (of_decide_eq_true (by kernel_rfl)) (by unfold Func.isWrapper; first | (rw [if_pos (by decide +kernel)]; kernel_rfl) | (rw [if_neg (by decide +kernel)]; exact ⟨rfl, rfl⟩))
    (fun os started H enc _ F => by rw [OpenClaim.pre_eq_preRow]; exact codes_lifted os started H enc F)

theorem codes_inLapiSample : Tryd.prog.wantsStandIn 22 = false := by kernel_rfl
theorem codes_inLuint8 : Tryd.prog.wantsStandIn 36 = false := by kernel_rfl
theorem codes_inint64 : Tryd.prog.wantsStandIn 2 = false := by kernel_rfl
theorem codes_plain (f : FuncId) (fn : Func) (hf : Tryd.pinned.checked.prog.funcNamed "tocsin/tocsinlaw08.ChunkCodes" = some f) (hfn : Tryd.pinned.checked.prog.funcs[f]? = some fn) :
    false = Tryd.pinned.checked.prog.looks [] ∧ ∀ (j : Nat) t, fn.params[j]? = some t → Tryd.pinned.checked.prog.wantsStandIn t = false := by
  obtain rfl : f = 4 := Option.some.inj ((show Tryd.prog.funcNamed "tocsin/tocsinlaw08.ChunkCodes" = some 4 by kernel_rfl).symm.trans hf) |>.symm
  obtain rfl : fn = Tryd.f4 := (Option.some.inj (Tryd.func4.symm.trans hfn)).symm
  refine ⟨by kernel_rfl, fun j t ht => ?_⟩
  rw [Tryd.params4] at ht
  have hm := Array.mem_of_getElem? ht
  simp only [List.mem_toArray, List.mem_cons, List.not_mem_nil, or_false] at hm
  rcases hm with rfl | rfl | rfl | rfl
  · exact codes_inLapiSample
  · exact codes_inLuint8
  · exact codes_inint64
  · exact codes_inint64

/-- THE STATEMENT -/
theorem chunkCodes_holds : Rows.ChunkCodesCardSaid :=
  Claim7.holds_tied_plain_at .later [] _ _ _ _ codes_said (fun _ h => by cases h) (by kernel_rfl) (fun _ h => by cases h) chunkCodes_row_tie rfl ⟨rfl, rfl⟩ (by kernel_rfl) rfl codes_plain (by kernel_rfl)
end Go.Proofs.YtkiefmhampfhoaaDoor
