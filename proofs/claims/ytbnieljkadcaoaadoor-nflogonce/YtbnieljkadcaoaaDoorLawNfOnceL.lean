/-
  NflogOnce: what was told is not told again until the repeat interval has gone by, but at once, if another alert fires: at any mark, any times, any labels.
-/
import Derived.Test.YtbnieljkadcaoaaDoorLawNfOnce
import Derived.Test.YtbnieljkadcaoaaDoorNfLiftM
namespace Go.Proofs.YtbnieljkadcaoaaDoor
open Go.ChangeShapes Go.WideShapes Go.ChangeAt Go.RowKit

theorem nfonce_tabs {W : World} (h : laidMetH Tryd.prog Rows.nflogOnceRow.laid W) : U8S W := by
  have h : laidMet Tryd.prog Rows.nflogOnceRow.laid W := by rw [← Go.MakeChecks.laidMetH_plain _ _ _ (by kernel_rfl)]; exact h
  exact u8S_of h (by simp [Rows.nflogOnceRow]) (by simp [Rows.nflogOnceRow])
set_option maxRecDepth 100000 in
theorem nfonce_contract (H : Type) (enc : TypeId × Value → H) (W : World) (base : Nat) (args : Array Value) (ds gs : List (DataW H)) (before : List MemPlace)
    (hval : ∀ (j : Nat) t v, Tryd.f4.params[j]? = some t → args[j]? = some v → Value.okWide Tryd.prog W .any base t v)
    (hW : DataW.Whole enc Tryd.prog Tryd.f4.params.toList Rows.nflogOnceSpec.vars false W args.toList ds gs before) (hL : laidMetH Tryd.prog Rows.nflogOnceRow.laid W) (hk : (DataW.weightsEach Tryd.prog (Tryd.f4.params.toList ++ (OpenSpec.ofChange Rows.nflogOnceSpec).bare.plain.varTypes Tryd.prog) (ds ++ gs)).all (· ≤ reachBytes) = true) :
    Calls Tryd.prog 4 args W fun e W' => ∃ v, e = .returned v ∧ Rows.nflogOnceSpec.post enc Tryd.prog Tryd.f4 false true false false W args v W' := by
  have hW' := hW
  obtain ⟨p, q, hA0, hV, rfl, hfz, hnd⟩ := hW
  have hA : DataW.TrodAll enc Tryd.prog W 0 (fun _ => true) true Tryd.f4.params.toList args.toList ds p := hA0
  rw [Tryd.params4] at hA hval hk
  obtain ⟨v0, vs0, d0, ds0, p0, q0, hargs, rfl, rfl, h0, r0⟩ := trodAll_cons hA
  obtain ⟨v1, vs1, d1, ds1, p1, q1, rfl, rfl, rfl, h1, r1⟩ := trodAll_cons r0
  obtain ⟨v2, vs2, d2, ds2, p2, q2, rfl, rfl, rfl, h2, r2⟩ := trodAll_cons r1
  obtain ⟨v3, vs3, d3, ds3, p3, q3, rfl, rfl, rfl, h3, r3⟩ := trodAll_cons r2
  obtain ⟨rfl, rfl, rfl⟩ := trodAll_nil r3
  obtain rfl : args = #[v0, v1, v2, v3] := by cases args; simp_all
  obtain ⟨rfl, rfl⟩ := trodVars_none hV
  obtain ⟨m0, f0, s0, rfl, a0⟩ := open_mark (Wt.of hk 0 rfl rfl) (hval 0 24 v0 rfl rfl) h0
  obtain ⟨z1, rfl, rfl, rfl, wz1⟩ := open_int Tryd.underlying2 (hval 1 2 v1 rfl rfl) h1
  obtain ⟨z2, rfl, rfl, rfl, wz2⟩ := open_int Tryd.underlying2 (hval 2 2 v2 rfl rfl) h2
  obtain ⟨l3, o3, n3, b3⟩ := open_labels (Wt.of hk 3 rfl rfl) (hval 3 39 v3 rfl rfl) h3
  clear hA0
  have hT := nfonce_tabs hL
  have hz1 := wf_rangeN wz1
  have hz2 := wf_rangeN wz2
  refine (nfOnce_walk W m0 f0 s0 z1 z2 v3 l3 a0.1 o3 n3 hT hz1 hz2).mono fun e W' ⟨he, bel⟩ => ?_
  subst he
  exact ⟨_, rfl, _, _, _, [], _, [], hW', trodAll_mk1 (shut_bool Tryd.underlying4 _), (trodAll_cons_mk (back_mark h0 bel) (trodAll_cons_mk (shut_int Tryd.underlying2 wz1) (trodAll_cons_mk (shut_int Tryd.underlying2 wz2) (trodAll_cons_mk (back_labels h3 bel) trodAll_mk0)))), rfl, bel.frame _, fun h => by cases h⟩

theorem nfonce_met (os : Os) : laidMet Tryd.prog Rows.nflogOnceRow.laid ((laidWorld os).forCall (fun _ _ => 0) ⟨#[], #[.agg #[.string .empty, .string .empty, .int .i64 0, .slice none 0 0, .slice none 0 0], .int .i64 0, .int .i64 0, .slice none 0 0], []⟩).memory :=
  laidMet_of_run' 8 (by kernel_rfl) (by kernel_rfl)
set_option maxRecDepth 100000 in
theorem nfonce_reads (os : Os) {H : Type} (enc : TypeId × Value → H) : ∃ places, DataW.whole enc Tryd.prog ((laidWorld os).forCall (fun _ _ => 0) ⟨#[], #[.agg #[.string .empty, .string .empty, .int .i64 0, .slice none 0 0, .slice none 0 0], .int .i64 0, .int .i64 0, .slice none 0 0], []⟩).memory Tryd.f4.params.toList Rows.nflogOnceSpec.vars false #[Value.agg #[.string ByteArray.empty, .string ByteArray.empty, .int .i64 0, .slice none 0 0, .slice none 0 0], Value.int .i64 0, Value.int .i64 0, Value.slice none 0 0].toList 8 = some ([.agg [.lit (.string []), .lit (.string []), .lit (.int .i64 0), .nil, .nil], .lit (.int .i64 0), .lit (.int .i64 0), .nil], [], places) :=
  ⟨[], by kernel_rfl⟩

set_option maxRecDepth 100000 in
theorem nfonce_lifted (os : Os) (started : os.Started) (H : Type) (enc : TypeId × Value → H) (F : Stop.Interp) :
    ReturnsInHanded {} Tryd.checked os 4 .any ((OpenSpec.ofChange Rows.nflogOnceSpec).preRow enc Tryd.prog Tryd.f4 Rows.nflogOnceRow.domain false Rows.nflogOnceRow.laid) (((OpenSpec.ofChange Rows.nflogOnceSpec).at F).post enc Tryd.prog Tryd.f4 false true false false) := by
  obtain ⟨places, hx⟩ := nfonce_reads os enc
  refine returnsInHanded_of_row (C := Tryd.checked) (s := (OpenSpec.ofChange Rows.nflogOnceSpec)) own started (by kernel_rfl) Tryd.func4
    (witness_row_at (enc := enc) (C := Tryd.checked) false (laidWorld os) #[.agg #[.string .empty, .string .empty, .int .i64 0, .slice none 0 0, .slice none 0 0], .int .i64 0, .int .i64 0, .slice none 0 0] rfl (by kernel_rfl) (by kernel_rfl) (by kernel_rfl)
      (OpenSpec.preRow_of_cond 8 hx (by kernel_rfl) (fun k hk => by cases hk) (by kernel_rfl) (nfonce_met os))) ?_
  intro W base args ds gs before hval hW _ _ hsz hL _ _
  exact nfonce_contract H enc W base args ds gs before hval hW hL hsz

set_option maxRecDepth 100000 in
theorem nfonce_said : Rows.NflogOnceSaid :=
  OpenClaim.holds_of_cond 4 Tryd.f4 rfl rfl rfl rfl rfl rfl rfl ⟨rfl, rfl, rfl, rfl, rfl⟩ rfl rfl rfl rfl rfl (by kernel_rfl) Tryd.func4 (by kernel_rfl)
    (of_decide_eq_true (by kernel_rfl)) (by unfold Func.isWrapper; first | (rw [if_pos (by decide +kernel)]; kernel_rfl) | (rw [if_neg (by decide +kernel)]; exact ⟨rfl, rfl⟩))
    (fun os started H enc _ F => by rw [OpenClaim.pre_eq_preRow]; exact nfonce_lifted os started H enc F)

theorem nfonce_inLapiLabel : Tryd.prog.wantsStandIn 39 = false := by kernel_rfl
theorem nfonce_inint64 : Tryd.prog.wantsStandIn 2 = false := by kernel_rfl
theorem nfonce_intocsinapiMark : Tryd.prog.wantsStandIn 24 = false := by kernel_rfl
theorem nfonce_plain (f : FuncId) (fn : Func) (hf : Tryd.pinned.checked.prog.funcNamed "tocsin/tocsinlaw26.NflogOnce" = some f) (hfn : Tryd.pinned.checked.prog.funcs[f]? = some fn) :
    false = Tryd.pinned.checked.prog.looks [] ∧ ∀ (j : Nat) t, fn.params[j]? = some t → Tryd.pinned.checked.prog.wantsStandIn t = false := by
  obtain rfl : f = 4 := Option.some.inj ((show Tryd.prog.funcNamed "tocsin/tocsinlaw26.NflogOnce" = some 4 by kernel_rfl).symm.trans hf) |>.symm
  obtain rfl : fn = Tryd.f4 := (Option.some.inj (Tryd.func4.symm.trans hfn)).symm
  refine ⟨by kernel_rfl, fun j t ht => ?_⟩
  rw [Tryd.params4] at ht
  have hm := Array.mem_of_getElem? ht
  simp only [List.mem_toArray, List.mem_cons, List.not_mem_nil, or_false] at hm
  rcases hm with rfl | rfl | rfl | rfl
  · exact nfonce_intocsinapiMark
  · exact nfonce_inint64
  · exact nfonce_inint64
  · exact nfonce_inLapiLabel

/-- THE STATEMENT -/
theorem nflogOnce_holds : Rows.NflogOnceCardSaid :=
  Claim7.holds_tied_plain_at .later [] _ _ _ _ nfonce_said (fun _ h => by cases h) (by kernel_rfl) (fun _ h => by cases h) nflogOnce_row_tie rfl ⟨rfl, rfl⟩ (by kernel_rfl) rfl nfonce_plain (by kernel_rfl)
end Go.Proofs.YtbnieljkadcaoaaDoor
