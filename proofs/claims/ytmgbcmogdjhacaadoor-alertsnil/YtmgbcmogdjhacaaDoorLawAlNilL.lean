/-
  AlertsNil: a set of alerts that is not there answers ErrNil, or nothing: at any time and any alert.
-/
import Derived.Test.YtmgbcmogdjhacaaDoorLawAlNil
import Derived.Test.YtmgbcmogdjhacaaDoorVF
namespace Go.Proofs.YtmgbcmogdjhacaaDoor
open Go.ChangeShapes Go.WideShapes Go.ChangeAt Go.RowKit

theorem alnil_tabs {W : World} (h : laidMetH Tryd.prog Rows.alertsNilRow.laid W) : U8S W := by
  have h : laidMet Tryd.prog Rows.alertsNilRow.laid W := by rw [← Go.MakeChecks.laidMetH_plain _ _ _ (by kernel_rfl)]; exact h
  exact u8S_of h (by simp [Rows.alertsNilRow]) (by simp [Rows.alertsNilRow])
set_option maxRecDepth 100000 in
theorem alnil_contract (H : Type) (enc : TypeId × Value → H) (W : World) (base : Nat) (args : Array Value) (ds gs : List (DataW H)) (before : List MemPlace)
    (hval : ∀ (j : Nat) t v, Tryd.f6.params[j]? = some t → args[j]? = some v → Value.okWide Tryd.prog W .any base t v)
    (hW : DataW.Whole enc Tryd.prog Tryd.f6.params.toList Rows.alertsNilSpec.vars false W args.toList ds gs before) (hL : laidMetH Tryd.prog Rows.alertsNilRow.laid W) (hk : (DataW.weightsEach Tryd.prog (Tryd.f6.params.toList ++ (OpenSpec.ofChange Rows.alertsNilSpec).bare.plain.varTypes Tryd.prog) (ds ++ gs)).all (· ≤ reachBytes) = true) :
    Calls Tryd.prog 6 args W fun e W' => ∃ v, e = .returned v ∧ Rows.alertsNilSpec.post enc Tryd.prog Tryd.f6 false true false false W args v W' := by
  have hW' := hW
  obtain ⟨p, q, hA0, hV, rfl, hfz, hnd⟩ := hW
  have hA : DataW.TrodAll enc Tryd.prog W 0 (fun _ => true) true Tryd.f6.params.toList args.toList ds p := hA0
  rw [Tryd.params6] at hA hval hk
  obtain ⟨v0, vs0, d0, ds0, p0, q0, hargs, rfl, rfl, h0, r0⟩ := trodAll_cons hA
  obtain ⟨v1, vs1, d1, ds1, p1, q1, rfl, rfl, rfl, h1, r1⟩ := trodAll_cons r0
  obtain ⟨rfl, rfl, rfl⟩ := trodAll_nil r1
  obtain rfl : args = #[v0, v1] := by cases args; simp_all
  obtain ⟨rfl, rfl⟩ := trodVars_none hV
  obtain ⟨z0, rfl, rfl, rfl, wz0⟩ := open_int Tryd.underlying2 (hval 0 2 v0 rfl rfl) h0
  obtain ⟨u1, ls1, st1, en1, rfl, a1⟩ := open_alert (Wt.of hk 1 rfl rfl) (hval 1 34 v1 rfl rfl) h1
  clear hA0
  have hT := alnil_tabs hL
  refine (alNil_walk W z0 st1 en1 u1 ls1 a1.1 a1.2.1 hT).mono fun e W' ⟨he, bel⟩ => ?_
  subst he
  exact ⟨_, rfl, _, _, _, [], _, [], hW', trodAll_mk1 (shut_bool Tryd.underlying4 _), (trodAll_cons_mk (shut_int Tryd.underlying2 wz0) (trodAll_cons_mk (back_alert h1 bel) trodAll_mk0)), rfl, bel.frame _, fun h => by cases h⟩

theorem alnil_met (os : Os) : laidMet Tryd.prog Rows.alertsNilRow.laid ((laidWorld os).forCall (fun _ _ => 0) ⟨#[], #[.int .i64 0, .agg #[.slice none 0 0, .int .i64 0, .int .i64 0]], []⟩).memory :=
  laidMet_of_run' 8 (by kernel_rfl) (by kernel_rfl)
set_option maxRecDepth 100000 in
theorem alnil_reads (os : Os) {H : Type} (enc : TypeId × Value → H) : ∃ places, DataW.whole enc Tryd.prog ((laidWorld os).forCall (fun _ _ => 0) ⟨#[], #[.int .i64 0, .agg #[.slice none 0 0, .int .i64 0, .int .i64 0]], []⟩).memory Tryd.f6.params.toList Rows.alertsNilSpec.vars false #[Value.int .i64 0, Value.agg #[.slice none 0 0, .int .i64 0, .int .i64 0]].toList 8 = some ([.lit (.int .i64 0), .agg [.nil, .lit (.int .i64 0), .lit (.int .i64 0)]], [], places) :=
  ⟨[], by kernel_rfl⟩

set_option maxRecDepth 100000 in
theorem alnil_lifted (os : Os) (started : os.Started) (H : Type) (enc : TypeId × Value → H) (F : Stop.Interp) :
    ReturnsInHanded {} Tryd.checked os 6 .any ((OpenSpec.ofChange Rows.alertsNilSpec).preRow enc Tryd.prog Tryd.f6 Rows.alertsNilRow.domain false Rows.alertsNilRow.laid) (((OpenSpec.ofChange Rows.alertsNilSpec).at F).post enc Tryd.prog Tryd.f6 false true false false) := by
  obtain ⟨places, hx⟩ := alnil_reads os enc
  refine returnsInHanded_of_row (C := Tryd.checked) (s := (OpenSpec.ofChange Rows.alertsNilSpec)) own started (by kernel_rfl) Tryd.func6
    (witness_row_at (enc := enc) (C := Tryd.checked) false (laidWorld os) #[.int .i64 0, .agg #[.slice none 0 0, .int .i64 0, .int .i64 0]] rfl (by kernel_rfl) (by kernel_rfl) (by kernel_rfl)
      (OpenSpec.preRow_of_cond 8 hx (by kernel_rfl) (fun k hk => by cases hk) (by kernel_rfl) (alnil_met os))) ?_
  intro W base args ds gs before hval hW _ _ hsz hL _ _
  exact alnil_contract H enc W base args ds gs before hval hW hL hsz

set_option maxRecDepth 100000 in
theorem alnil_said : Rows.AlertsNilSaid :=
  OpenClaim.holds_of_cond 6 Tryd.f6 rfl rfl rfl rfl rfl rfl rfl ⟨rfl, rfl, rfl, rfl, rfl⟩ rfl rfl rfl rfl rfl (by kernel_rfl) Tryd.func6 (by kernel_rfl)
    (of_decide_eq_true (by kernel_rfl)) (by unfold Func.isWrapper; first | (rw [if_pos (by decide +kernel)]; kernel_rfl) | (rw [if_neg (by decide +kernel)]; exact ⟨rfl, rfl⟩))
    (fun os started H enc _ F => by rw [OpenClaim.pre_eq_preRow]; exact alnil_lifted os started H enc F)

theorem alnil_inint64 : Tryd.prog.wantsStandIn 2 = false := by kernel_rfl
theorem alnil_intocsinapiAlert : Tryd.prog.wantsStandIn 34 = false := by kernel_rfl
theorem alnil_plain (f : FuncId) (fn : Func) (hf : Tryd.pinned.checked.prog.funcNamed "tocsin/tocsinlaw21.AlertsNil" = some f) (hfn : Tryd.pinned.checked.prog.funcs[f]? = some fn) :
    false = Tryd.pinned.checked.prog.looks [] ∧ ∀ (j : Nat) t, fn.params[j]? = some t → Tryd.pinned.checked.prog.wantsStandIn t = false := by
  obtain rfl : f = 6 := Option.some.inj ((show Tryd.prog.funcNamed "tocsin/tocsinlaw21.AlertsNil" = some 6 by kernel_rfl).symm.trans hf) |>.symm
  obtain rfl : fn = Tryd.f6 := (Option.some.inj (Tryd.func6.symm.trans hfn)).symm
  refine ⟨by kernel_rfl, fun j t ht => ?_⟩
  rw [Tryd.params6] at ht
  have hm := Array.mem_of_getElem? ht
  simp only [List.mem_toArray, List.mem_cons, List.not_mem_nil, or_false] at hm
  rcases hm with rfl | rfl
  · exact alnil_inint64
  · exact alnil_intocsinapiAlert

/-- THE STATEMENT -/
theorem alertsNil_holds : Rows.AlertsNilCardSaid :=
  Claim7.holds_tied_plain_at .later [] _ _ _ _ alnil_said (fun _ h => by cases h) (by kernel_rfl) (fun _ h => by cases h) alertsNil_row_tie rfl ⟨rfl, rfl⟩ (by kernel_rfl) rfl alnil_plain (by kernel_rfl)
end Go.Proofs.YtmgbcmogdjhacaaDoor
