/-
  NflogApart: marks of one receiver and key change nothing of others: at any two marks, any times.
-/
import Derived.Test.YtbnieljkadcaoaaDoorLawNfApart
import Derived.Test.YtbnieljkadcaoaaDoorNmC
namespace Go.Proofs.YtbnieljkadcaoaaDoor
open Go.ChangeShapes Go.WideShapes Go.ChangeAt Go.RowKit

theorem nfapart_tabs {W : World} (h : laidMetH Tryd.prog Rows.nflogApartRow.laid W) : U8S W := by
  have h : laidMet Tryd.prog Rows.nflogApartRow.laid W := by rw [← Go.MakeChecks.laidMetH_plain _ _ _ (by kernel_rfl)]; exact h
  exact u8S_of h (by simp [Rows.nflogApartRow]) (by simp [Rows.nflogApartRow])
set_option maxRecDepth 100000 in
theorem nfapart_contract (H : Type) (enc : TypeId × Value → H) (W : World) (base : Nat) (args : Array Value) (ds gs : List (DataW H)) (before : List MemPlace)
    (hval : ∀ (j : Nat) t v, Tryd.f5.params[j]? = some t → args[j]? = some v → Value.okWide Tryd.prog W .any base t v)
    (hW : DataW.Whole enc Tryd.prog Tryd.f5.params.toList Rows.nflogApartSpec.vars false W args.toList ds gs before) (hL : laidMetH Tryd.prog Rows.nflogApartRow.laid W) (hk : (DataW.weightsEach Tryd.prog (Tryd.f5.params.toList ++ (OpenSpec.ofChange Rows.nflogApartSpec).bare.plain.varTypes Tryd.prog) (ds ++ gs)).all (· ≤ reachBytes) = true) :
    Calls Tryd.prog 5 args W fun e W' => ∃ v, e = .returned v ∧ Rows.nflogApartSpec.post enc Tryd.prog Tryd.f5 false true false false W args v W' := by
  have hW' := hW
  obtain ⟨p, q, hA0, hV, rfl, hfz, hnd⟩ := hW
  have hA : DataW.TrodAll enc Tryd.prog W 0 (fun _ => true) true Tryd.f5.params.toList args.toList ds p := hA0
  rw [Tryd.params5] at hA hval hk
  obtain ⟨v0, vs0, d0, ds0, p0, q0, hargs, rfl, rfl, h0, r0⟩ := trodAll_cons hA
  obtain ⟨v1, vs1, d1, ds1, p1, q1, rfl, rfl, rfl, h1, r1⟩ := trodAll_cons r0
  obtain ⟨v2, vs2, d2, ds2, p2, q2, rfl, rfl, rfl, h2, r2⟩ := trodAll_cons r1
  obtain ⟨v3, vs3, d3, ds3, p3, q3, rfl, rfl, rfl, h3, r3⟩ := trodAll_cons r2
  obtain ⟨rfl, rfl, rfl⟩ := trodAll_nil r3
  obtain rfl : args = #[v0, v1, v2, v3] := by cases args; simp_all
  obtain ⟨rfl, rfl⟩ := trodVars_none hV
  obtain ⟨m0, f0, s0, rfl, a0⟩ := open_mark (Wt.of hk 0 rfl rfl) (hval 0 24 v0 rfl rfl) h0
  obtain ⟨m1, f1, s1, rfl, a1⟩ := open_mark (Wt.of hk 1 rfl rfl) (hval 1 24 v1 rfl rfl) h1
  obtain ⟨z2, rfl, rfl, rfl, wz2⟩ := open_int Tryd.underlying2 (hval 2 2 v2 rfl rfl) h2
  obtain ⟨z3, rfl, rfl, rfl, wz3⟩ := open_int Tryd.underlying2 (hval 3 2 v3 rfl rfl) h3
  clear hA0
  have hT := nfapart_tabs hL
  refine (nfApart_walk W m0 m1 f0 s0 f1 s1 z2 z3 a0.1 a1.1 hT).mono fun e W' ⟨he, bel⟩ => ?_
  subst he
  exact ⟨_, rfl, _, _, _, [], _, [], hW', trodAll_mk1 (shut_bool Tryd.underlying4 _), (trodAll_cons_mk (back_mark h0 bel) (trodAll_cons_mk (back_mark h1 bel) (trodAll_cons_mk (shut_int Tryd.underlying2 wz2) (trodAll_cons_mk (shut_int Tryd.underlying2 wz3) trodAll_mk0)))), rfl, bel.frame _, fun h => by cases h⟩

theorem nfapart_met (os : Os) : laidMet Tryd.prog Rows.nflogApartRow.laid ((laidWorld os).forCall (fun _ _ => 0) ⟨#[], #[.agg #[.string .empty, .string .empty, .int .i64 0, .slice none 0 0, .slice none 0 0], .agg #[.string .empty, .string .empty, .int .i64 0, .slice none 0 0, .slice none 0 0], .int .i64 0, .int .i64 0], []⟩).memory :=
  laidMet_of_run' 8 (by kernel_rfl) (by kernel_rfl)
set_option maxRecDepth 100000 in
theorem nfapart_reads (os : Os) {H : Type} (enc : TypeId × Value → H) : ∃ places, DataW.whole enc Tryd.prog ((laidWorld os).forCall (fun _ _ => 0) ⟨#[], #[.agg #[.string .empty, .string .empty, .int .i64 0, .slice none 0 0, .slice none 0 0], .agg #[.string .empty, .string .empty, .int .i64 0, .slice none 0 0, .slice none 0 0], .int .i64 0, .int .i64 0], []⟩).memory Tryd.f5.params.toList Rows.nflogApartSpec.vars false #[Value.agg #[.string ByteArray.empty, .string ByteArray.empty, .int .i64 0, .slice none 0 0, .slice none 0 0], Value.agg #[.string ByteArray.empty, .string ByteArray.empty, .int .i64 0, .slice none 0 0, .slice none 0 0], Value.int .i64 0, Value.int .i64 0].toList 8 = some ([.agg [.lit (.string []), .lit (.string []), .lit (.int .i64 0), .nil, .nil], .agg [.lit (.string []), .lit (.string []), .lit (.int .i64 0), .nil, .nil], .lit (.int .i64 0), .lit (.int .i64 0)], [], places) :=
  ⟨[], by kernel_rfl⟩

set_option maxRecDepth 100000 in
theorem nfapart_lifted (os : Os) (started : os.Started) (H : Type) (enc : TypeId × Value → H) (F : Stop.Interp) :
    ReturnsInHanded {} Tryd.checked os 5 .any ((OpenSpec.ofChange Rows.nflogApartSpec).preRow enc Tryd.prog Tryd.f5 Rows.nflogApartRow.domain false Rows.nflogApartRow.laid) (((OpenSpec.ofChange Rows.nflogApartSpec).at F).post enc Tryd.prog Tryd.f5 false true false false) := by
  obtain ⟨places, hx⟩ := nfapart_reads os enc
  refine returnsInHanded_of_row (C := Tryd.checked) (s := (OpenSpec.ofChange Rows.nflogApartSpec)) own started (by kernel_rfl) Tryd.func5
    (witness_row_at (enc := enc) (C := Tryd.checked) false (laidWorld os) #[.agg #[.string .empty, .string .empty, .int .i64 0, .slice none 0 0, .slice none 0 0], .agg #[.string .empty, .string .empty, .int .i64 0, .slice none 0 0, .slice none 0 0], .int .i64 0, .int .i64 0] rfl (by kernel_rfl) (by kernel_rfl) (by kernel_rfl)
      (OpenSpec.preRow_of_cond 8 hx (by kernel_rfl) (fun k hk => by cases hk) (by kernel_rfl) (nfapart_met os))) ?_
  intro W base args ds gs before hval hW _ _ hsz hL _ _
  exact nfapart_contract H enc W base args ds gs before hval hW hL hsz

set_option maxRecDepth 100000 in
theorem nfapart_said : Rows.NflogApartSaid :=
  OpenClaim.holds_of_cond 5 Tryd.f5 rfl rfl rfl rfl rfl rfl rfl ⟨rfl, rfl, rfl, rfl, rfl⟩ rfl rfl rfl rfl rfl (by kernel_rfl) Tryd.func5 (by kernel_rfl)
    (of_decide_eq_true (by kernel_rfl)) (by unfold Func.isWrapper; first | (rw [if_pos (by decide +kernel)]; kernel_rfl) | (rw [if_neg (by decide +kernel)]; exact ⟨rfl, rfl⟩))
    (fun os started H enc _ F => by rw [OpenClaim.pre_eq_preRow]; exact nfapart_lifted os started H enc F)

theorem nfapart_inint64 : Tryd.prog.wantsStandIn 2 = false := by kernel_rfl
theorem nfapart_intocsinapiMark : Tryd.prog.wantsStandIn 24 = false := by kernel_rfl
theorem nfapart_plain (f : FuncId) (fn : Func) (hf : Tryd.pinned.checked.prog.funcNamed "tocsin/tocsinlaw26.NflogApart" = some f) (hfn : Tryd.pinned.checked.prog.funcs[f]? = some fn) :
    false = Tryd.pinned.checked.prog.looks [] ∧ ∀ (j : Nat) t, fn.params[j]? = some t → Tryd.pinned.checked.prog.wantsStandIn t = false := by
  obtain rfl : f = 5 := Option.some.inj ((show Tryd.prog.funcNamed "tocsin/tocsinlaw26.NflogApart" = some 5 by kernel_rfl).symm.trans hf) |>.symm
  obtain rfl : fn = Tryd.f5 := (Option.some.inj (Tryd.func5.symm.trans hfn)).symm
  refine ⟨by kernel_rfl, fun j t ht => ?_⟩
  rw [Tryd.params5] at ht
  have hm := Array.mem_of_getElem? ht
  simp only [List.mem_toArray, List.mem_cons, List.not_mem_nil, or_false] at hm
  rcases hm with rfl | rfl | rfl | rfl
  · exact nfapart_intocsinapiMark
  · exact nfapart_intocsinapiMark
  · exact nfapart_inint64
  · exact nfapart_inint64

/-- THE STATEMENT -/
theorem nflogApart_holds : Rows.NflogApartCardSaid :=
  Claim7.holds_tied_plain_at .later [] _ _ _ _ nfapart_said (fun _ h => by cases h) (by kernel_rfl) (fun _ h => by cases h) nflogApart_row_tie rfl ⟨rfl, rfl⟩ (by kernel_rfl) rfl nfapart_plain (by kernel_rfl)
end Go.Proofs.YtbnieljkadcaoaaDoor
