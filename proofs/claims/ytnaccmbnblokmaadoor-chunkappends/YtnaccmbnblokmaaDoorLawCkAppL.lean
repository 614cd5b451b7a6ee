/-
  ChunkAppends, proved whatever the input: samples are taken or refused one after another as the chapter says; what is there is told, to its end or to where who asks stops; the bytes are those that the chapter gives, and new memory.
-/
import Derived.Test.YtnaccmbnblokmaaDoorLawCkApp
import Derived.Test.YtnaccmbnblokmaaDoorCkLiftS
namespace Go.Proofs.YtnaccmbnblokmaaDoor
open Go.ChangeShapes Go.WideShapes Go.ChangeAt Go.RowKit

theorem app_tabs {W : World} (h : laidMetH Tryd.prog Rows.chunkAppendsRow.laid W) : Tk W := by
  have h : laidMet Tryd.prog Rows.chunkAppendsRow.laid W := by rw [← Go.MakeChecks.laidMetH_plain _ _ _ (by kernel_rfl)]; exact h
  exact ⟨tabc_of h (by simp [Rows.chunkAppendsRow]), tabz_of h (by simp [Rows.chunkAppendsRow])⟩

set_option maxRecDepth 100000 in
theorem app_contract (H : Type) (enc : TypeId × Value → H) (W : World) (base : Nat) (args : Array Value) (ds gs : List (DataW H)) (before : List MemPlace)
    (hval : ∀ (j : Nat) t v, Tryd.f3.params[j]? = some t → args[j]? = some v → Value.okWide Tryd.prog W .any base t v)
    (hW : DataW.Whole enc Tryd.prog Tryd.f3.params.toList Rows.chunkAppendsSpec.vars false W args.toList ds gs before) (hL : laidMetH Tryd.prog Rows.chunkAppendsRow.laid W) (hk : (DataW.weightsEach Tryd.prog (Tryd.f3.params.toList ++ (OpenSpec.ofChange Rows.chunkAppendsSpec).bare.plain.varTypes Tryd.prog) (ds ++ gs)).all (· ≤ reachBytes) = true) :
    Calls Tryd.prog 3 args W fun e W' => ∃ v, e = .returned v ∧ Rows.chunkAppendsSpec.post enc Tryd.prog Tryd.f3 false true false false W args v W' := by
  have hW' := hW
  obtain ⟨p, q, hA0, hV, rfl, hfz, hnd⟩ := hW
  have hA : DataW.TrodAll enc Tryd.prog W 0 (fun _ => true) true Tryd.f3.params.toList args.toList ds p := hA0
  rw [Tryd.params3] at hA hval hk
  obtain ⟨v0, vs0, d0, ds0, p0, q0, hargs, rfl, rfl, h0, r0⟩ := trodAll_cons hA
  obtain ⟨rfl, rfl, rfl⟩ := trodAll_nil r0
  obtain rfl : args = #[v0] := by cases args; simp_all
  obtain ⟨rfl, rfl⟩ := trodVars_none hV
  obtain ⟨l0, o0, i0⟩ := open_samples (hval 0 22 v0 rfl rfl) h0
  clear hA0
  refine (app_walk v0 l0 W o0 i0 (app_tabs hL)).mono fun e W' ⟨he, bel⟩ => ?_
  subst he
  exact ⟨_, rfl, _, _, _, [], _, [], hW', trodAll_mk1 (shut_bool Tryd.underlying4 _), (trodAll_cons_mk (back_samples h0 bel) trodAll_mk0), rfl, bel.frame _, fun h => by cases h⟩

theorem app_met (os : Os) : laidMet Tryd.prog Rows.chunkAppendsRow.laid ((laidWorld os).forCall (fun _ _ => 0) ⟨#[], #[.slice none 0 0], []⟩).memory :=
  laidMet_of_run' 8 (by kernel_rfl) (by kernel_rfl)
set_option maxRecDepth 100000 in
theorem app_reads (os : Os) {H : Type} (enc : TypeId × Value → H) : ∃ places, DataW.whole enc Tryd.prog ((laidWorld os).forCall (fun _ _ => 0) ⟨#[], #[.slice none 0 0], []⟩).memory Tryd.f3.params.toList Rows.chunkAppendsSpec.vars false #[Value.slice none 0 0].toList 8 = some ([.nil], [], places) :=
  ⟨[], by kernel_rfl⟩

set_option maxRecDepth 100000 in
theorem app_lifted (os : Os) (started : os.Started) (H : Type) (enc : TypeId × Value → H) (F : Stop.Interp) :
    ReturnsInHanded {} Tryd.checked os 3 .any ((OpenSpec.ofChange Rows.chunkAppendsSpec).preRow enc Tryd.prog Tryd.f3 Rows.chunkAppendsRow.domain false Rows.chunkAppendsRow.laid) (((OpenSpec.ofChange Rows.chunkAppendsSpec).at F).post enc Tryd.prog Tryd.f3 false true false false) := by
  obtain ⟨places, hx⟩ := app_reads os enc
  refine returnsInHanded_of_row (C := Tryd.checked) (s := (OpenSpec.ofChange Rows.chunkAppendsSpec)) own started (by kernel_rfl) Tryd.func3
    (witness_row_at (enc := enc) (C := Tryd.checked) false (laidWorld os) #[.slice none 0 0] rfl (by kernel_rfl) (by kernel_rfl) (by kernel_rfl)
      (OpenSpec.preRow_of_cond 8 hx (by kernel_rfl) (fun k hk => by cases hk) (by kernel_rfl) (app_met os))) ?_
  intro W base args ds gs before hval hW _ _ hsz hL _ _
  exact app_contract H enc W base args ds gs before hval hW hL hsz

set_option maxRecDepth 100000 in
theorem app_said : Rows.ChunkAppendsSaid :=
  OpenClaim.holds_of_cond 3 Tryd.f3 rfl rfl rfl rfl rfl rfl rfl ⟨rfl, rfl, rfl, rfl, rfl⟩ rfl rfl rfl rfl rfl (by kernel_rfl) Tryd.func3 (by kernel_rfl)
    (of_decide_eq_true (by kernel_rfl)) (by unfold Func.isWrapper; first | (rw [if_pos (by decide +kernel)]; kernel_rfl) | (rw [if_neg (by decide +kernel)]; exact ⟨rfl, rfl⟩))
    (fun os started H enc _ F => by rw [OpenClaim.pre_eq_preRow]; exact app_lifted os started H enc F)

theorem app_inLapiSample : Tryd.prog.wantsStandIn 22 = false := by kernel_rfl
theorem app_plain (f : FuncId) (fn : Func) (hf : Tryd.pinned.checked.prog.funcNamed "tocsin/tocsinlaw08.ChunkAppends" = some f) (hfn : Tryd.pinned.checked.prog.funcs[f]? = some fn) :
    false = Tryd.pinned.checked.prog.looks [] ∧ ∀ (j : Nat) t, fn.params[j]? = some t → Tryd.pinned.checked.prog.wantsStandIn t = false := by
  obtain rfl : f = 3 := Option.some.inj ((show Tryd.prog.funcNamed "tocsin/tocsinlaw08.ChunkAppends" = some 3 by kernel_rfl).symm.trans hf) |>.symm
  obtain rfl : fn = Tryd.f3 := (Option.some.inj (Tryd.func3.symm.trans hfn)).symm
  refine ⟨by kernel_rfl, fun j t ht => ?_⟩
  rw [Tryd.params3] at ht
  have hm := Array.mem_of_getElem? ht
  simp only [List.mem_toArray, List.mem_cons, List.not_mem_nil, or_false] at hm
  rcases hm with rfl
  · exact app_inLapiSample

/-- THE STATEMENT -/
theorem chunkAppends_holds : Rows.ChunkAppendsCardSaid :=
  Claim7.holds_tied_plain_at .later [] _ _ _ _ app_said (fun _ h => by cases h) (by kernel_rfl) (fun _ h => by cases h) chunkAppends_row_tie rfl ⟨rfl, rfl⟩ (by kernel_rfl) rfl app_plain (by kernel_rfl)
end Go.Proofs.YtnaccmbnblokmaaDoor
