/-
  AlertsStands: what a set of alerts holds stands: a script of Puts and Sweeps leaves it in order, within its bound, and changes nothing but the alert that comes: at any resolve timeout, any bound, any script.
-/
import Derived.Test.YtmgbcmogdjhacaaDoorVF
import Derived.Test.YtmgbcmogdjhacaaDoorLawAlStd
namespace Go.Proofs.YtmgbcmogdjhacaaDoor
open Go.ChangeShapes Go.WideShapes Go.ChangeAt Go.RowKit

theorem alstd_tabs {W : World} (h : laidMetH Tryd.prog Rows.alertsStandsRow.laid W) : U8S W := by
  have h : laidMet Tryd.prog Rows.alertsStandsRow.laid W := by rw [← Go.MakeChecks.laidMetH_plain _ _ _ (by kernel_rfl)]; exact h
  exact u8S_of h (by simp [Rows.alertsStandsRow]) (by simp [Rows.alertsStandsRow])
set_option maxRecDepth 100000 in
theorem alstd_contract (H : Type) (enc : TypeId × Value → H) (W : World) (base : Nat) (args : Array Value) (ds gs : List (DataW H)) (before : List MemPlace)
    (hval : ∀ (j : Nat) t v, Tryd.f4.params[j]? = some t → args[j]? = some v → Value.okWide Tryd.prog W .any base t v)
    (hW : DataW.Whole enc Tryd.prog Tryd.f4.params.toList Rows.alertsStandsSpec.vars false W args.toList ds gs before) (hL : laidMetH Tryd.prog Rows.alertsStandsRow.laid W) (hk : (DataW.weightsEach Tryd.prog (Tryd.f4.params.toList ++ (OpenSpec.ofChange Rows.alertsStandsSpec).bare.plain.varTypes Tryd.prog) (ds ++ gs)).all (· ≤ reachBytes) = true) :
    Calls Tryd.prog 4 args W fun e W' => ∃ v, e = .returned v ∧ Rows.alertsStandsSpec.post enc Tryd.prog Tryd.f4 false true false false W args v W' := by
  have hW' := hW
  obtain ⟨p, q, hA0, hV, rfl, hfz, hnd⟩ := hW
  have hA : DataW.TrodAll enc Tryd.prog W 0 (fun _ => true) true Tryd.f4.params.toList args.toList ds p := hA0
  rw [Tryd.params4] at hA hval hk
  obtain ⟨v0, vs0, d0, ds0, p0, q0, hargs, rfl, rfl, h0, r0⟩ := trodAll_cons hA
  obtain ⟨v1, vs1, d1, ds1, p1, q1, rfl, rfl, rfl, h1, r1⟩ := trodAll_cons r0
  obtain ⟨v2, vs2, d2, ds2, p2, q2, rfl, rfl, rfl, h2, r2⟩ := trodAll_cons r1
  obtain ⟨rfl, rfl, rfl⟩ := trodAll_nil r2
  obtain rfl : args = #[v0, v1, v2] := by cases args; simp_all
  obtain ⟨rfl, rfl⟩ := trodVars_none hV
  obtain ⟨z0, rfl, rfl, rfl, wz0⟩ := open_int Tryd.underlying2 (hval 0 2 v0 rfl rfl) h0
  obtain ⟨z1, rfl, rfl, rfl, wz1⟩ := open_int Tryd.underlying3 (hval 1 3 v1 rfl rfl) h1
  obtain ⟨l2, o2⟩ := open_aops (Wt.of hk 2 rfl rfl) (hval 2 22 v2 rfl rfl) h2
  clear hA0
  have hT := alstd_tabs hL
  refine (alStands_walk W z0 z1 v2 l2 o2.1 hT).mono fun e W' ⟨he, bel⟩ => ?_
  subst he
  exact ⟨_, rfl, _, _, _, [], _, [], hW', trodAll_mk1 (shut_bool Tryd.underlying4 _), (trodAll_cons_mk (shut_int Tryd.underlying2 wz0) (trodAll_cons_mk (shut_int Tryd.underlying3 wz1) (trodAll_cons_mk (back_aops h2 bel) trodAll_mk0))), rfl, bel.frame _, fun h => by cases h⟩

theorem alstd_met (os : Os) : laidMet Tryd.prog Rows.alertsStandsRow.laid ((laidWorld os).forCall (fun _ _ => 0) ⟨#[], #[.int .i64 0, .int .i64 0, .slice none 0 0], []⟩).memory :=
  laidMet_of_run' 8 (by kernel_rfl) (by kernel_rfl)
set_option maxRecDepth 100000 in
theorem alstd_reads (os : Os) {H : Type} (enc : TypeId × Value → H) : ∃ places, DataW.whole enc Tryd.prog ((laidWorld os).forCall (fun _ _ => 0) ⟨#[], #[.int .i64 0, .int .i64 0, .slice none 0 0], []⟩).memory Tryd.f4.params.toList Rows.alertsStandsSpec.vars false #[Value.int .i64 0, Value.int .i64 0, Value.slice none 0 0].toList 8 = some ([.lit (.int .i64 0), .lit (.int .i64 0), .nil], [], places) :=
  ⟨[], by kernel_rfl⟩

set_option maxRecDepth 100000 in
theorem alstd_lifted (os : Os) (started : os.Started) (H : Type) (enc : TypeId × Value → H) (F : Stop.Interp) :
    ReturnsInHanded {} Tryd.checked os 4 .any ((OpenSpec.ofChange Rows.alertsStandsSpec).preRow enc Tryd.prog Tryd.f4 Rows.alertsStandsRow.domain false Rows.alertsStandsRow.laid) (((OpenSpec.ofChange Rows.alertsStandsSpec).at F).post enc Tryd.prog Tryd.f4 false true false false) := by
  obtain ⟨places, hx⟩ := alstd_reads os enc
  refine returnsInHanded_of_row (C := Tryd.checked) (s := (OpenSpec.ofChange Rows.alertsStandsSpec)) own started (by kernel_rfl) Tryd.func4
    (witness_row_at (enc := enc) (C := Tryd.checked) false (laidWorld os) #[.int .i64 0, .int .i64 0, .slice none 0 0] rfl (by kernel_rfl) (by kernel_rfl) (by kernel_rfl)
      (OpenSpec.preRow_of_cond 8 hx (by kernel_rfl) (fun k hk => by cases hk) (by kernel_rfl) (alstd_met os))) ?_
  intro W base args ds gs before hval hW _ _ hsz hL _ _
  exact alstd_contract H enc W base args ds gs before hval hW hL hsz

set_option maxRecDepth 100000 in
theorem alstd_said : Rows.AlertsStandsSaid :=
  OpenClaim.holds_of_cond 4 Tryd.f4 rfl rfl rfl rfl rfl rfl rfl ⟨rfl, rfl, rfl, rfl, rfl⟩ rfl rfl rfl rfl rfl (by kernel_rfl) Tryd.func4 (by kernel_rfl)
    (of_decide_eq_true (by kernel_rfl)) (by unfold Func.isWrapper; first | (rw [if_pos (by decide +kernel)]; kernel_rfl) | (rw [if_neg (by decide +kernel)]; exact ⟨rfl, rfl⟩))
    (fun os started H enc _ F => by rw [OpenClaim.pre_eq_preRow]; exact alstd_lifted os started H enc F)

theorem alstd_inLtocsinlaw21Op : Tryd.prog.wantsStandIn 22 = false := by kernel_rfl
theorem alstd_inint : Tryd.prog.wantsStandIn 3 = false := by kernel_rfl
theorem alstd_inint64 : Tryd.prog.wantsStandIn 2 = false := by kernel_rfl
theorem alstd_plain (f : FuncId) (fn : Func) (hf : Tryd.pinned.checked.prog.funcNamed "tocsin/tocsinlaw21.AlertsStands" = some f) (hfn : Tryd.pinned.checked.prog.funcs[f]? = some fn) :
    false = Tryd.pinned.checked.prog.looks [] ∧ ∀ (j : Nat) t, fn.params[j]? = some t → Tryd.pinned.checked.prog.wantsStandIn t = false := by
  obtain rfl : f = 4 := Option.some.inj ((show Tryd.prog.funcNamed "tocsin/tocsinlaw21.AlertsStands" = some 4 by kernel_rfl).symm.trans hf) |>.symm
  obtain rfl : fn = Tryd.f4 := (Option.some.inj (Tryd.func4.symm.trans hfn)).symm
  refine ⟨by kernel_rfl, fun j t ht => ?_⟩
  rw [Tryd.params4] at ht
  have hm := Array.mem_of_getElem? ht
  simp only [List.mem_toArray, List.mem_cons, List.not_mem_nil, or_false] at hm
  rcases hm with rfl | rfl | rfl
  · exact alstd_inint64
  · exact alstd_inint
  · exact alstd_inLtocsinlaw21Op

/-- THE STATEMENT -/
theorem alertsStands_holds : Rows.AlertsStandsCardSaid :=
  Claim7.holds_tied_plain_at .later [] _ _ _ _ alstd_said (fun _ h => by cases h) (by kernel_rfl) (fun _ h => by cases h) alertsStands_row_tie rfl ⟨rfl, rfl⟩ (by kernel_rfl) rfl alstd_plain (by kernel_rfl)
end Go.Proofs.YtmgbcmogdjhacaaDoor
