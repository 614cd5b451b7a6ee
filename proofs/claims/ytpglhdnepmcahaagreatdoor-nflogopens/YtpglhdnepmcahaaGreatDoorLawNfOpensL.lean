/-
  NflogOpens: a log of any records, or the first one at fault; opened from its own records it is the same: at any records, any script.
-/
import Derived.Test.YtpglhdnepmcahaaGreatDoorNoA
import Derived.Test.YtpglhdnepmcahaaGreatDoorNfLiftB
namespace Go.Proofs.YtpglhdnepmcahaaGreatDoor
open Go.ChangeShapes Go.WideShapes Go.ChangeAt Go.RowKit

theorem nfopens_tabs {W : World} (h : laidMetH Tryz.prog Rows.nflogOpensRow.laid W) : U8S W := by
  have h : laidMet Tryz.prog Rows.nflogOpensRow.laid W := by rw [← Go.MakeChecks.laidMetH_plain _ _ _ (by kernel_rfl)]; exact h
  exact u8S_of h (by simp [Rows.nflogOpensRow]) (by simp [Rows.nflogOpensRow])
set_option maxRecDepth 100000 in
theorem nfopens_contract (H : Type) (enc : TypeId × Value → H) (W : World) (base : Nat) (args : Array Value) (ds gs : List (DataW H)) (before : List MemPlace)
    (hval : ∀ (j : Nat) t v, Tryz.f3.params[j]? = some t → args[j]? = some v → Value.okWide Tryz.prog W .any base t v)
    (hW : DataW.Whole enc Tryz.prog Tryz.f3.params.toList Rows.nflogOpensSpec.vars false W args.toList ds gs before) (hL : laidMetH Tryz.prog Rows.nflogOpensRow.laid W) (hk : (DataW.weightsEach Tryz.prog (Tryz.f3.params.toList ++ (OpenSpec.ofChange Rows.nflogOpensSpec).bare.plain.varTypes Tryz.prog) (ds ++ gs)).all (· ≤ reachBytes) = true) :
    Calls Tryz.prog 3 args W fun e W' => ∃ v, e = .returned v ∧ Rows.nflogOpensSpec.post enc Tryz.prog Tryz.f3 false true false false W args v W' := by
  have hW' := hW
  obtain ⟨p, q, hA0, hV, rfl, hfz, hnd⟩ := hW
  have hA : DataW.TrodAll enc Tryz.prog W 0 (fun _ => true) true Tryz.f3.params.toList args.toList ds p := hA0
  rw [Tryz.params3] at hA hval hk
  obtain ⟨v0, vs0, d0, ds0, p0, q0, hargs, rfl, rfl, h0, r0⟩ := trodAll_cons hA
  obtain ⟨v1, vs1, d1, ds1, p1, q1, rfl, rfl, rfl, h1, r1⟩ := trodAll_cons r0
  obtain ⟨rfl, rfl, rfl⟩ := trodAll_nil r1
  obtain rfl : args = #[v0, v1] := by cases args; simp_all
  obtain ⟨rfl, rfl⟩ := trodVars_none hV
  obtain ⟨l0, o0⟩ := open_recs (Wt.of hk 0 rfl rfl) (hval 0 22 v0 rfl rfl) h0
  obtain ⟨l1, o1⟩ := open_nops (Wt.of hk 1 rfl rfl) (hval 1 23 v1 rfl rfl) h1
  clear hA0
  have hT := nfopens_tabs hL
  refine (nfOpens_walk W v0 v1 l0 l1 o0.1 o0.2 o1 hT).mono fun e W' ⟨he, bel⟩ => ?_
  subst he
  exact ⟨_, rfl, _, _, _, [], _, [], hW', trodAll_mk1 (shut_bool Tryz.underlying4 _), (trodAll_cons_mk (back_recs h0 bel) (trodAll_cons_mk (back_nops h1 bel) trodAll_mk0)), rfl, bel.frame _, fun h => by cases h⟩

theorem nfopens_met (os : Os) : laidMet Tryz.prog Rows.nflogOpensRow.laid ((laidWorld os).forCall (fun _ _ => 0) ⟨#[], #[.slice none 0 0, .slice none 0 0], []⟩).memory :=
  laidMet_of_run' 8 (by kernel_rfl) (by kernel_rfl)
set_option maxRecDepth 100000 in
theorem nfopens_reads (os : Os) {H : Type} (enc : TypeId × Value → H) : ∃ places, DataW.whole enc Tryz.prog ((laidWorld os).forCall (fun _ _ => 0) ⟨#[], #[.slice none 0 0, .slice none 0 0], []⟩).memory Tryz.f3.params.toList Rows.nflogOpensSpec.vars false #[Value.slice none 0 0, Value.slice none 0 0].toList 8 = some ([.nil, .nil], [], places) :=
  ⟨[], by kernel_rfl⟩

set_option maxRecDepth 100000 in
theorem nfopens_lifted (os : Os) (started : os.Started) (H : Type) (enc : TypeId × Value → H) (F : Stop.Interp) :
    ReturnsInHanded {} Tryz.checked os 3 .any ((OpenSpec.ofChange Rows.nflogOpensSpec).preRow enc Tryz.prog Tryz.f3 Rows.nflogOpensRow.domain false Rows.nflogOpensRow.laid) (((OpenSpec.ofChange Rows.nflogOpensSpec).at F).post enc Tryz.prog Tryz.f3 false true false false) := by
  obtain ⟨places, hx⟩ := nfopens_reads os enc
  refine returnsInHanded_of_row (C := Tryz.checked) (s := (OpenSpec.ofChange Rows.nflogOpensSpec)) own started (by kernel_rfl) Tryz.func3
    (witness_row_at (enc := enc) (C := Tryz.checked) false (laidWorld os) #[.slice none 0 0, .slice none 0 0] rfl (by kernel_rfl) (by kernel_rfl) (by kernel_rfl)
      (OpenSpec.preRow_of_cond 8 hx (by kernel_rfl) (fun k hk => by cases hk) (by kernel_rfl) (nfopens_met os))) ?_
  intro W base args ds gs before hval hW _ _ hsz hL _ _
  exact nfopens_contract H enc W base args ds gs before hval hW hL hsz

set_option maxRecDepth 100000 in
theorem nfopens_said : Rows.NflogOpensSaid :=
  OpenClaim.holds_of_cond 3 Tryz.f3 rfl rfl rfl rfl rfl rfl rfl ⟨rfl, rfl, rfl, rfl, rfl⟩ rfl rfl rfl rfl rfl (by kernel_rfl) Tryz.func3 (by kernel_rfl)
    (of_decide_eq_true (by kernel_rfl)) (by unfold Func.isWrapper; first | (rw [if_pos (by decide +kernel)]; kernel_rfl) | (rw [if_neg (by decide +kernel)]; exact ⟨rfl, rfl⟩))
    (fun os started H enc _ F => by rw [OpenClaim.pre_eq_preRow]; exact nfopens_lifted os started H enc F)

theorem nfopens_inLLuint8 : Tryz.prog.wantsStandIn 22 = false := by kernel_rfl
theorem nfopens_inLtocsinlaw26Op : Tryz.prog.wantsStandIn 23 = false := by kernel_rfl
theorem nfopens_plain (f : FuncId) (fn : Func) (hf : Tryz.pinned.checked.prog.funcNamed "tocsin/tocsinlaw26.NflogOpens" = some f) (hfn : Tryz.pinned.checked.prog.funcs[f]? = some fn) :
    false = Tryz.pinned.checked.prog.looks [] ∧ ∀ (j : Nat) t, fn.params[j]? = some t → Tryz.pinned.checked.prog.wantsStandIn t = false := by
  obtain rfl : f = 3 := Option.some.inj ((show Tryz.prog.funcNamed "tocsin/tocsinlaw26.NflogOpens" = some 3 by kernel_rfl).symm.trans hf) |>.symm
  obtain rfl : fn = Tryz.f3 := (Option.some.inj (Tryz.func3.symm.trans hfn)).symm
  refine ⟨by kernel_rfl, fun j t ht => ?_⟩
  rw [Tryz.params3] at ht
  have hm := Array.mem_of_getElem? ht
  simp only [List.mem_toArray, List.mem_cons, List.not_mem_nil, or_false] at hm
  rcases hm with rfl | rfl
  · exact nfopens_inLLuint8
  · exact nfopens_inLtocsinlaw26Op

/-- THE STATEMENT -/
theorem nflogOpens_holds : Rows.NflogOpensCardSaid :=
  Claim7.holds_tied_plain_at .later [] _ _ _ _ nfopens_said (fun _ h => by cases h) (by kernel_rfl) (fun _ h => by cases h) nflogOpens_row_tie rfl ⟨rfl, rfl⟩ (by kernel_rfl) rfl nfopens_plain (by kernel_rfl)
end Go.Proofs.YtpglhdnepmcahaaGreatDoor
