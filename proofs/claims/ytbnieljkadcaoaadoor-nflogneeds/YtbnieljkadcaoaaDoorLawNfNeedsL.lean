/-
  NflogNeeds: whether something must be told again is what the chapter says: at any mark, any times, any label sets.
-/
import Derived.Test.YtbnieljkadcaoaaDoorLawNfNeeds
import Derived.Test.YtbnieljkadcaoaaDoorNfLiftM
namespace Go.Proofs.YtbnieljkadcaoaaDoor
open Go.ChangeShapes Go.WideShapes Go.ChangeAt Go.RowKit

theorem nfneeds_tabs {W : World} (h : laidMetH Tryd.prog Rows.nflogNeedsRow.laid W) : U8S W := by
  have h : laidMet Tryd.prog Rows.nflogNeedsRow.laid W := by rw [← Go.MakeChecks.laidMetH_plain _ _ _ (by kernel_rfl)]; exact h
  exact u8S_of h (by simp [Rows.nflogNeedsRow]) (by simp [Rows.nflogNeedsRow])
set_option maxRecDepth 100000 in
theorem nfneeds_contract (H : Type) (enc : TypeId × Value → H) (W : World) (base : Nat) (args : Array Value) (ds gs : List (DataW H)) (before : List MemPlace)
    (hval : ∀ (j : Nat) t v, Tryd.f3.params[j]? = some t → args[j]? = some v → Value.okWide Tryd.prog W .any base t v)
    (hW : DataW.Whole enc Tryd.prog Tryd.f3.params.toList Rows.nflogNeedsSpec.vars false W args.toList ds gs before) (hL : laidMetH Tryd.prog Rows.nflogNeedsRow.laid W) (hk : (DataW.weightsEach Tryd.prog (Tryd.f3.params.toList ++ (OpenSpec.ofChange Rows.nflogNeedsSpec).bare.plain.varTypes Tryd.prog) (ds ++ gs)).all (· ≤ reachBytes) = true) :
    Calls Tryd.prog 3 args W fun e W' => ∃ v, e = .returned v ∧ Rows.nflogNeedsSpec.post enc Tryd.prog Tryd.f3 false true false false W args v W' := by
  have hW' := hW
  obtain ⟨p, q, hA0, hV, rfl, hfz, hnd⟩ := hW
  have hA : DataW.TrodAll enc Tryd.prog W 0 (fun _ => true) true Tryd.f3.params.toList args.toList ds p := hA0
  rw [Tryd.params3] at hA hval hk
  obtain ⟨v0, vs0, d0, ds0, p0, q0, hargs, rfl, rfl, h0, r0⟩ := trodAll_cons hA
  obtain ⟨v1, vs1, d1, ds1, p1, q1, rfl, rfl, rfl, h1, r1⟩ := trodAll_cons r0
  obtain ⟨v2, vs2, d2, ds2, p2, q2, rfl, rfl, rfl, h2, r2⟩ := trodAll_cons r1
  obtain ⟨v3, vs3, d3, ds3, p3, q3, rfl, rfl, rfl, h3, r3⟩ := trodAll_cons r2
  obtain ⟨v4, vs4, d4, ds4, p4, q4, rfl, rfl, rfl, h4, r4⟩ := trodAll_cons r3
  obtain ⟨v5, vs5, d5, ds5, p5, q5, rfl, rfl, rfl, h5, r5⟩ := trodAll_cons r4
  obtain ⟨rfl, rfl, rfl⟩ := trodAll_nil r5
  obtain rfl : args = #[v0, v1, v2, v3, v4, v5] := by cases args; simp_all
  obtain ⟨rfl, rfl⟩ := trodVars_none hV
  obtain ⟨m0, f0, s0, rfl, a0⟩ := open_mark (Wt.of hk 0 rfl rfl) (hval 0 24 v0 rfl rfl) h0
  obtain ⟨z1, rfl, rfl, rfl⟩ := Go.RowKit.open_bool Tryd.underlying4 (hval 1 4 v1 rfl rfl) h1
  obtain ⟨z2, rfl, rfl, rfl, wz2⟩ := open_int Tryd.underlying2 (hval 2 2 v2 rfl rfl) h2
  obtain ⟨z3, rfl, rfl, rfl, wz3⟩ := open_int Tryd.underlying2 (hval 3 2 v3 rfl rfl) h3
  obtain ⟨l4, o4, n4, b4⟩ := open_sets (Wt.of hk 4 rfl rfl) (hval 4 22 v4 rfl rfl) h4
  obtain ⟨l5, o5, n5, b5⟩ := open_sets (Wt.of hk 5 rfl rfl) (hval 5 22 v5 rfl rfl) h5
  clear hA0
  have hT := nfneeds_tabs hL
  refine (nfNeeds_walk W m0 f0 s0 z1 z2 z3 v4 v5 l4 l5 a0.1 a0.2.1 a0.2.2.1 o4 o5 n4 n5 b4 b5 hT).mono fun e W' ⟨he, bel⟩ => ?_
  subst he
  exact ⟨_, rfl, _, _, _, [], _, [], hW', trodAll_mk1 (shut_bool Tryd.underlying4 _), (trodAll_cons_mk (back_mark h0 bel) (trodAll_cons_mk (shut_bool Tryd.underlying4 z1) (trodAll_cons_mk (shut_int Tryd.underlying2 wz2) (trodAll_cons_mk (shut_int Tryd.underlying2 wz3) (trodAll_cons_mk (back_sets h4 bel) (trodAll_cons_mk (back_sets h5 bel) trodAll_mk0)))))), rfl, bel.frame _, fun h => by cases h⟩

theorem nfneeds_met (os : Os) : laidMet Tryd.prog Rows.nflogNeedsRow.laid ((laidWorld os).forCall (fun _ _ => 0) ⟨#[], #[.agg #[.string .empty, .string .empty, .int .i64 0, .slice none 0 0, .slice none 0 0], .bool false, .int .i64 0, .int .i64 0, .slice none 0 0, .slice none 0 0], []⟩).memory :=
  laidMet_of_run' 8 (by kernel_rfl) (by kernel_rfl)
set_option maxRecDepth 100000 in
theorem nfneeds_reads (os : Os) {H : Type} (enc : TypeId × Value → H) : ∃ places, DataW.whole enc Tryd.prog ((laidWorld os).forCall (fun _ _ => 0) ⟨#[], #[.agg #[.string .empty, .string .empty, .int .i64 0, .slice none 0 0, .slice none 0 0], .bool false, .int .i64 0, .int .i64 0, .slice none 0 0, .slice none 0 0], []⟩).memory Tryd.f3.params.toList Rows.nflogNeedsSpec.vars false #[Value.agg #[.string ByteArray.empty, .string ByteArray.empty, .int .i64 0, .slice none 0 0, .slice none 0 0], Value.bool false, Value.int .i64 0, Value.int .i64 0, Value.slice none 0 0, Value.slice none 0 0].toList 8 = some ([.agg [.lit (.string []), .lit (.string []), .lit (.int .i64 0), .nil, .nil], .lit (.bool false), .lit (.int .i64 0), .lit (.int .i64 0), .nil, .nil], [], places) :=
  ⟨[], by kernel_rfl⟩

set_option maxRecDepth 100000 in
theorem nfneeds_lifted (os : Os) (started : os.Started) (H : Type) (enc : TypeId × Value → H) (F : Stop.Interp) :
    ReturnsInHanded {} Tryd.checked os 3 .any ((OpenSpec.ofChange Rows.nflogNeedsSpec).preRow enc Tryd.prog Tryd.f3 Rows.nflogNeedsRow.domain false Rows.nflogNeedsRow.laid) (((OpenSpec.ofChange Rows.nflogNeedsSpec).at F).post enc Tryd.prog Tryd.f3 false true false false) := by
  obtain ⟨places, hx⟩ := nfneeds_reads os enc
  refine returnsInHanded_of_row (C := Tryd.checked) (s := (OpenSpec.ofChange Rows.nflogNeedsSpec)) own started (by kernel_rfl) Tryd.func3
    (witness_row_at (enc := enc) (C := Tryd.checked) false (laidWorld os) #[.agg #[.string .empty, .string .empty, .int .i64 0, .slice none 0 0, .slice none 0 0], .bool false, .int .i64 0, .int .i64 0, .slice none 0 0, .slice none 0 0] rfl (by kernel_rfl) (by kernel_rfl) (by kernel_rfl)
      (OpenSpec.preRow_of_cond 8 hx (by kernel_rfl) (fun k hk => by cases hk) (by kernel_rfl) (nfneeds_met os))) ?_
  intro W base args ds gs before hval hW _ _ hsz hL _ _
  exact nfneeds_contract H enc W base args ds gs before hval hW hL hsz

set_option maxRecDepth 100000 in
theorem nfneeds_said : Rows.NflogNeedsSaid :=
  OpenClaim.holds_of_cond 3 Tryd.f3 rfl rfl rfl rfl rfl rfl rfl ⟨rfl, rfl, rfl, rfl, rfl⟩ rfl rfl rfl rfl rfl (by kernel_rfl) Tryd.func3 (by kernel_rfl)
    (of_decide_eq_true (by kernel_rfl)) (by unfold Func.isWrapper; first | (rw [if_pos (by decide +kernel)]; kernel_rfl) | (rw [if_neg (by decide +kernel)]; exact ⟨rfl, rfl⟩))
    (fun os started H enc _ F => by rw [OpenClaim.pre_eq_preRow]; exact nfneeds_lifted os started H enc F)

theorem nfneeds_inLLapiLabel : Tryd.prog.wantsStandIn 22 = false := by kernel_rfl
theorem nfneeds_inbool : Tryd.prog.wantsStandIn 4 = false := by kernel_rfl
theorem nfneeds_inint64 : Tryd.prog.wantsStandIn 2 = false := by kernel_rfl
theorem nfneeds_intocsinapiMark : Tryd.prog.wantsStandIn 24 = false := by kernel_rfl
theorem nfneeds_plain (f : FuncId) (fn : Func) (hf : Tryd.pinned.checked.prog.funcNamed "tocsin/tocsinlaw26.NflogNeeds" = some f) (hfn : Tryd.pinned.checked.prog.funcs[f]? = some fn) :
    false = Tryd.pinned.checked.prog.looks [] ∧ ∀ (j : Nat) t, fn.params[j]? = some t → Tryd.pinned.checked.prog.wantsStandIn t = false := by
  obtain rfl : f = 3 := Option.some.inj ((show Tryd.prog.funcNamed "tocsin/tocsinlaw26.NflogNeeds" = some 3 by kernel_rfl).symm.trans hf) |>.symm
  obtain rfl : fn = Tryd.f3 := (Option.some.inj (Tryd.func3.symm.trans hfn)).symm
  refine ⟨by kernel_rfl, fun j t ht => ?_⟩
  rw [Tryd.params3] at ht
  have hm := Array.mem_of_getElem? ht
  simp only [List.mem_toArray, List.mem_cons, List.not_mem_nil, or_false] at hm
  rcases hm with rfl | rfl | rfl | rfl | rfl | rfl
  · exact nfneeds_intocsinapiMark
  · exact nfneeds_inbool
  · exact nfneeds_inint64
  · exact nfneeds_inint64
  · exact nfneeds_inLLapiLabel
  · exact nfneeds_inLLapiLabel

/-- THE STATEMENT -/
theorem nflogNeeds_holds : Rows.NflogNeedsCardSaid :=
  Claim7.holds_tied_plain_at .later [] _ _ _ _ nfneeds_said (fun _ h => by cases h) (by kernel_rfl) (fun _ h => by cases h) nflogNeeds_row_tie rfl ⟨rfl, rfl⟩ (by kernel_rfl) rfl nfneeds_plain (by kernel_rfl)
end Go.Proofs.YtbnieljkadcaoaaDoor
