/-
  LabelsRights: names and label sets are right as the chapter says, or have its first fault, at any text and any labels, which stay.
-/
import Derived.Test.YtfdoncmecijcmaaDoorLawLbRights
import Derived.Test.YtfdoncmecijcmaaDoorLbA7
import Derived.Test.YtfdoncmecijcmaaDoorLbLift
namespace Go.Proofs.YtfdoncmecijcmaaDoor
open Go.ChangeShapes Go.WideShapes Go.ChangeAt Go.RowKit

theorem rights_tabs {W : World} (h : laidMetH Tryd.prog Rows.labelsRightsRow.laid W) : U8S W := by
  have h : laidMet Tryd.prog Rows.labelsRightsRow.laid W := by rw [← Go.MakeChecks.laidMetH_plain _ _ _ (by kernel_rfl)]; exact h
  exact u8S_of h (by simp [Rows.labelsRightsRow]) (by simp [Rows.labelsRightsRow])
set_option maxRecDepth 100000 in
theorem rights_contract (H : Type) (enc : TypeId × Value → H) (W : World) (base : Nat) (args : Array Value) (ds gs : List (DataW H)) (before : List MemPlace)
    (hval : ∀ (j : Nat) t v, Tryd.f3.params[j]? = some t → args[j]? = some v → Value.okWide Tryd.prog W .any base t v)
    (hW : DataW.Whole enc Tryd.prog Tryd.f3.params.toList Rows.labelsRightsSpec.vars false W args.toList ds gs before) (hL : laidMetH Tryd.prog Rows.labelsRightsRow.laid W) (hk : (DataW.weightsEach Tryd.prog (Tryd.f3.params.toList ++ (OpenSpec.ofChange Rows.labelsRightsSpec).bare.plain.varTypes Tryd.prog) (ds ++ gs)).all (· ≤ reachBytes) = true) :
    Calls Tryd.prog 3 args W fun e W' => ∃ v, e = .returned v ∧ Rows.labelsRightsSpec.post enc Tryd.prog Tryd.f3 false true false false W args v W' := by
  have hW' := hW
  obtain ⟨p, q, hA0, hV, rfl, hfz, hnd⟩ := hW
  have hA : DataW.TrodAll enc Tryd.prog W 0 (fun _ => true) true Tryd.f3.params.toList args.toList ds p := hA0
  rw [Tryd.params3] at hA hval hk
  obtain ⟨v0, vs0, d0, ds0, p0, q0, hargs, rfl, rfl, h0, r0⟩ := trodAll_cons hA
  obtain ⟨v1, vs1, d1, ds1, p1, q1, rfl, rfl, rfl, h1, r1⟩ := trodAll_cons r0
  obtain ⟨rfl, rfl, rfl⟩ := trodAll_nil r1
  obtain rfl : args = #[v0, v1] := by cases args; simp_all
  obtain ⟨rfl, rfl⟩ := trodVars_none hV
  obtain ⟨t0, rfl, rfl, rfl, wz0⟩ := Go.ChangeMaps.open_string Tryd.underlying9 (hval 0 9 v0 rfl rfl) h0
  obtain ⟨l1, o1, n1, b1⟩ := open_labels (Wt.of hk 1 rfl rfl) (hval 1 22 v1 rfl rfl) h1
  clear hA0
  have hT := rights_tabs hL; have hb := (Wt.of hk 0 rfl rfl).str
  refine (lbRights_walk W t0.data.toList v1 l1 (by simpa using hb) o1 n1 b1 hT (fun W' hW' => awakeL_any W' (hT.keep hW'))).mono fun e W' ⟨he, bel⟩ => ?_
  subst he
  exact ⟨_, rfl, _, _, _, [], _, [], hW', trodAll_mk1 (shut_bool Tryd.underlying4 _), (trodAll_cons_mk (Go.ChangeMaps.shut_string Tryd.underlying9 wz0) (trodAll_cons_mk (back_labels h1 bel) trodAll_mk0)), rfl, bel.frame _, fun h => by cases h⟩

theorem rights_met (os : Os) : laidMet Tryd.prog Rows.labelsRightsRow.laid ((laidWorld os).forCall (fun _ _ => 0) ⟨#[], #[.string .empty, .slice none 0 0], []⟩).memory :=
  laidMet_of_run' 8 (by kernel_rfl) (by kernel_rfl)
set_option maxRecDepth 100000 in
theorem rights_reads (os : Os) {H : Type} (enc : TypeId × Value → H) : ∃ places, DataW.whole enc Tryd.prog ((laidWorld os).forCall (fun _ _ => 0) ⟨#[], #[.string .empty, .slice none 0 0], []⟩).memory Tryd.f3.params.toList Rows.labelsRightsSpec.vars false #[Value.string ByteArray.empty, Value.slice none 0 0].toList 8 = some ([.lit (.string []), .nil], [], places) :=
  ⟨[], by kernel_rfl⟩

set_option maxRecDepth 100000 in
theorem rights_lifted (os : Os) (started : os.Started) (H : Type) (enc : TypeId × Value → H) (F : Stop.Interp) :
    ReturnsInHanded {} Tryd.checked os 3 .any ((OpenSpec.ofChange Rows.labelsRightsSpec).preRow enc Tryd.prog Tryd.f3 Rows.labelsRightsRow.domain false Rows.labelsRightsRow.laid) (((OpenSpec.ofChange Rows.labelsRightsSpec).at F).post enc Tryd.prog Tryd.f3 false true false false) := by
  obtain ⟨places, hx⟩ := rights_reads os enc
  refine returnsInHanded_of_row (C := Tryd.checked) (s := (OpenSpec.ofChange Rows.labelsRightsSpec)) own started (by kernel_rfl) Tryd.func3
    (witness_row_at (enc := enc) (C := Tryd.checked) false (laidWorld os) #[.string .empty, .slice none 0 0] rfl (by kernel_rfl) (by kernel_rfl) (by kernel_rfl)
      (OpenSpec.preRow_of_cond 8 hx (by kernel_rfl) (fun k hk => by cases hk) (by kernel_rfl) (rights_met os))) ?_
  intro W base args ds gs before hval hW _ _ hsz hL _ _
  exact rights_contract H enc W base args ds gs before hval hW hL hsz

set_option maxRecDepth 100000 in
theorem rights_said : Rows.LabelsRightsSaid :=
  OpenClaim.holds_of_cond 3 Tryd.f3 rfl rfl rfl rfl rfl rfl rfl ⟨rfl, rfl, rfl, rfl, rfl⟩ rfl rfl rfl rfl rfl (by kernel_rfl) Tryd.func3 (by kernel_rfl)
    (of_decide_eq_true (by kernel_rfl)) (by unfold Func.isWrapper; first | (rw [if_pos (by decide +kernel)]; kernel_rfl) | (rw [if_neg (by decide +kernel)]; exact ⟨rfl, rfl⟩))
    (fun os started H enc _ F => by rw [OpenClaim.pre_eq_preRow]; exact rights_lifted os started H enc F)

theorem rights_inapiLabel : Tryd.prog.wantsStandIn 22 = false := by kernel_rfl
theorem rights_instring : Tryd.prog.wantsStandIn 9 = false := by kernel_rfl
theorem rights_plain (f : FuncId) (fn : Func) (hf : Tryd.pinned.checked.prog.funcNamed "tocsin/tocsinlaw04.LabelsRights" = some f) (hfn : Tryd.pinned.checked.prog.funcs[f]? = some fn) :
    false = Tryd.pinned.checked.prog.looks [] ∧ ∀ (j : Nat) t, fn.params[j]? = some t → Tryd.pinned.checked.prog.wantsStandIn t = false := by
  obtain rfl : f = 3 := Option.some.inj ((show Tryd.prog.funcNamed "tocsin/tocsinlaw04.LabelsRights" = some 3 by kernel_rfl).symm.trans hf) |>.symm
  obtain rfl : fn = Tryd.f3 := (Option.some.inj (Tryd.func3.symm.trans hfn)).symm
  refine ⟨by kernel_rfl, fun j t ht => ?_⟩
  rw [Tryd.params3] at ht
  have hm := Array.mem_of_getElem? ht
  simp only [List.mem_toArray, List.mem_cons, List.not_mem_nil, or_false] at hm
  rcases hm with rfl | rfl
  · exact rights_instring
  · exact rights_inapiLabel

/-- THE STATEMENT -/
theorem labelsRights_holds : Rows.LabelsRightsCardSaid :=
  Claim7.holds_tied_plain_at .later [] _ _ _ _ rights_said (fun _ h => by cases h) (by kernel_rfl) (fun _ h => by cases h) labelsRights_row_tie rfl ⟨rfl, rfl⟩ (by kernel_rfl) rfl rights_plain (by kernel_rfl)
end Go.Proofs.YtfdoncmecijcmaaDoor
