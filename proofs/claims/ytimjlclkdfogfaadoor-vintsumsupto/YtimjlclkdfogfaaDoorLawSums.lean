/-
  VintSums is true for every input of bulk at most 1048576: the sum by half bytes is the document's bit by bit, and the sum of two texts one behind the other is that of the whole.
-/
import Derived.Test.YtimjlclkdfogfaaDoorLift
namespace Go.Proofs.YtimjlclkdfogfaaDoor
open Go.ChangeShapes Go.WideShapes Go.ChangeAt Go.RowKit

set_option maxHeartbeats 1600000 in
theorem sums_walk (v u : Value) (a b : List UInt8) (s : BitVec 32) (w : World) (hv : Rd w v a) (hu : Rd w u b) (hT : TabIn w) (ha : a.length ≤ 1048576) (hb : b.length ≤ 1048576) :
    Calls Tryd.prog 5 #[v, u, .int .u32 (I32 s)] w fun e w' => e = .returned (.bool true) ∧ Below w.heap.size w w' := by
  have hv2 : Hid (Rd w v a) := hv
  have hu2 : Hid (Rd w u b) := hu
  have hT2 : Hid (TabIn w) := hT
  have hab : Hid (crcOn (crc a) b = crc (a ++ b)) := crcOn_append 0#32 a b
  clear hv hu hT
  go_enter Tryd.func5, Tryd.ntmps5
  go_wp2_with (at_builtin; refine wp_app rfl _ _ rfl w.heap.size _ _ [] a rfl rfl (Own.nil _ _) hv2.out ?c1 ?c2 ?_)
  case c1 => first | omega | (simp; omega)
  case c2 => omega
  intro v1 w1 ho1 hf1
  have H1 : Hid (Own w1 w.heap.size v1 a ∧ w.grownBy w1 none) := ⟨by simpa using ho1, hf1.1⟩
  clear ho1 hf1
  go_wp2_with (at_builtin; refine wp_app rfl _ _ rfl w.heap.size _ _ a b rfl rfl H1.out.1 (hu2.out.keep H1.out.2) ?c3 ?c4 ?_)
  case c3 => first | omega | (simp; omega)
  case c4 => exact H1.out.2.size
  intro v2 w2 ho2 hf2
  have H2 : Hid (Rd w2 v2 (a ++ b) ∧ w.grownBy w2 none) := ⟨ho2.rd, Fr.new H1.out.2 hf2 (fun k hk => (H1.out.1.lt k hk).1)⟩
  clear ho2 hf2 H1
  go_wp2_with fail
  refine (sum_any v a _ (hv2.out.keep H2.out.2) (hT2.out.keep0 H2.out.2)).mono ?_
  rintro e w3 ⟨rfl, rfl⟩
  go_wp2_with fail
  refine (refSum_any v a _ (hv2.out.keep H2.out.2)).mono ?_
  rintro e w4 ⟨rfl, rfl⟩
  go_wp2_with fail
  refine (on_any s u b _ (hu2.out.keep H2.out.2) (hT2.out.keep0 H2.out.2)).mono ?_
  rintro e w5 ⟨rfl, rfl⟩
  go_wp2_with fail
  refine (refOn_any s u b _ (hu2.out.keep H2.out.2)).mono ?_
  rintro e w6 ⟨rfl, rfl⟩
  go_wp2_with fail
  refine (sum_any v a _ (hv2.out.keep H2.out.2) (hT2.out.keep0 H2.out.2)).mono ?_
  rintro e w7 ⟨rfl, rfl⟩
  go_wp2_with fail
  refine (on_any (crc a) u b _ (hu2.out.keep H2.out.2) (hT2.out.keep0 H2.out.2)).mono ?_
  rintro e w8 ⟨rfl, rfl⟩
  rw [hab.out]
  go_wp2_with fail
  refine (sum_any v2 (a ++ b) _ H2.out.1 (hT2.out.keep0 H2.out.2)).mono ?_
  rintro e w9 ⟨rfl, rfl⟩
  go_wp2_with fail
  refine (known_any _ (hT2.out.keep0 H2.out.2)).mono ?_
  rintro e w10 ⟨rfl, hg⟩
  have H3 : Hid (Below w.heap.size w w10) := gb_below (gb_none H2.out.2 hg)
  clear hg H2
  go_wp2
  go_ret
  exact ⟨rfl, H3.out⟩

theorem sums_contract (H : Type) (enc : TypeId × Value → H) (W : World) (base : Nat) (args : Array Value) (ds gs : List (DataW H)) (before : List MemPlace)
    (hval : ∀ (j : Nat) t v, Tryd.f5.params[j]? = some t → args[j]? = some v → Value.okWide Tryd.prog W .any base t v)
    (hW : DataW.Whole enc Tryd.prog Tryd.f5.params.toList Rows.vintSumsSpec.vars false W args.toList ds gs before) (hL : laidMetH Tryd.prog Rows.vintSumsRow.laid W) (hk : Rows.uptoBulkAll (ds ++ gs) ≤ 1048576) :
    Calls Tryd.prog 5 args W fun e W' => ∃ v, e = .returned v ∧ Rows.vintSumsSpec.post enc Tryd.prog Tryd.f5 false true false false W args v W' := by
  have hW' := hW
  obtain ⟨p, q, hA0, hV, rfl, hfz, hnd⟩ := hW
  have hA : DataW.TrodAll enc Tryd.prog W 0 (fun _ => true) true Tryd.f5.params.toList args.toList ds p := hA0
  rw [Tryd.params5] at hA hval
  obtain ⟨v0, vs0, d0, ds0, p0, q0, hargs, rfl, rfl, h0, r0⟩ := trodAll_cons hA
  obtain ⟨v1, vs1, d1, ds1, p1, q1, rfl, rfl, rfl, h1, r1⟩ := trodAll_cons r0
  obtain ⟨v2, vs2, d2, ds2, p2, q2, rfl, rfl, rfl, h2, r2⟩ := trodAll_cons r1
  obtain ⟨rfl, rfl, rfl⟩ := trodAll_nil r2
  obtain rfl : args = #[v0, v1, v2] := by cases args; simp_all
  obtain ⟨rfl, rfl⟩ := trodVars_none hV
  obtain ⟨l0, rd0, b0, n0, nl0, nd0⟩ := open_bytes (hval 0 22 v0 rfl rfl) h0
  obtain ⟨l1, rd1, b1, n1, nl1, nd1⟩ := open_bytes (hval 1 22 v1 rfl rfl) h1
  obtain ⟨z2, rfl, rfl, rfl, wz2⟩ := open_int Tryd.underlying40 (hval 2 40 v2 rfl rfl) h2
  obtain ⟨s2, rfl⟩ := u32_of wz2
  clear hA0
  simp only [List.append_nil, Rows.uptoBulkAll] at hk
  refine (sums_walk v0 v1 l0 l1 s2 W rd0 rd1 (tab_of hL) (by omega) (by omega)).mono fun e W' ⟨he, bel⟩ => ?_
  subst he
  exact ⟨_, rfl, _, _, _, [], _, [], hW', trodAll_mk1 (shut_bool Tryd.underlying4 _), (trodAll_cons_mk (back_bytes h0 bel) (trodAll_cons_mk (back_bytes h1 bel) (trodAll_cons_mk (shut_int Tryd.underlying40 wz2) trodAll_mk0))), rfl, bel.frame _, fun h => by cases h⟩

theorem sums_met (os : Os) : laidMet Tryd.prog Rows.vintSumsRow.laid ((laidWorld os).forCall (fun _ _ => 0) ⟨#[], #[.slice none 0 0, .slice none 0 0, .int .u32 0], []⟩).memory :=
  laidMet_of_run' 8 (by kernel_rfl) (by kernel_rfl)
theorem sums_reads (os : Os) {H : Type} (enc : TypeId × Value → H) : ∃ places, DataW.whole enc Tryd.prog ((laidWorld os).forCall (fun _ _ => 0) ⟨#[], #[.slice none 0 0, .slice none 0 0, .int .u32 0], []⟩).memory Tryd.f5.params.toList Rows.vintSumsSpec.vars false #[Value.slice none 0 0, Value.slice none 0 0, Value.int .u32 0].toList 8 = some ([.nil, .nil, .lit (.int .u32 0)], [], places) :=
  ⟨[], by kernel_rfl⟩

set_option maxRecDepth 100000 in
theorem sums_lifted (os : Os) (started : os.Started) (H : Type) (enc : TypeId × Value → H) (F : Stop.Interp) :
    ReturnsInHanded {} Tryd.checked os 5 .any ((Rows.OpenSpec.upto Rows.vintSumsSpec).preRow enc Tryd.prog Tryd.f5 Rows.vintSumsUptoRow.domain false Rows.vintSumsUptoRow.laid) (((Rows.OpenSpec.upto Rows.vintSumsSpec).at F).post enc Tryd.prog Tryd.f5 false true false false) := by
  obtain ⟨places, hx⟩ := sums_reads os enc
  refine returnsInHanded_of_row (C := Tryd.checked) (s := (Rows.OpenSpec.upto Rows.vintSumsSpec)) own started (by kernel_rfl) Tryd.func5
    (witness_row_at (enc := enc) (C := Tryd.checked) false (laidWorld os) #[.slice none 0 0, .slice none 0 0, .int .u32 0] rfl (by kernel_rfl) (by kernel_rfl) (by kernel_rfl)
      (OpenSpec.preRow_of_cond 8 hx (by kernel_rfl) (fun k hk => by cases hk; kernel_rfl) (by kernel_rfl) (sums_met os))) ?_
  intro W base args ds gs before hval hW _ hcond _ hL _ _
  exact sums_contract H enc W base args ds gs before hval hW hL (of_decide_eq_true (hcond _ rfl))

theorem sums_said : Rows.VintSumsUptoSaid :=
  OpenClaim.holds_of_cond 5 Tryd.f5 rfl rfl rfl rfl rfl rfl rfl ⟨rfl, rfl, rfl, rfl, rfl⟩ rfl rfl rfl rfl rfl (by kernel_rfl) Tryd.func5 (by kernel_rfl)
    (of_decide_eq_true (by kernel_rfl)) (by unfold Func.isWrapper; first | (rw [if_pos (by decide +kernel)]; kernel_rfl) | (rw [if_neg (by decide +kernel)]; exact ⟨rfl, rfl⟩))
    (fun os started H enc _ F => by rw [OpenClaim.pre_eq_preRow]; exact sums_lifted os started H enc F)

theorem sums_inuint8 : Tryd.prog.wantsStandIn 22 = false := by kernel_rfl
theorem sums_inuint32 : Tryd.prog.wantsStandIn 40 = false := by kernel_rfl
theorem sums_plain (f : FuncId) (fn : Func) (hf : Tryd.pinned.checked.prog.funcNamed "tocsin/tocsinlaw01.VintSums" = some f) (hfn : Tryd.pinned.checked.prog.funcs[f]? = some fn) :
    false = Tryd.pinned.checked.prog.looks [] ∧ ∀ (j : Nat) t, fn.params[j]? = some t → Tryd.pinned.checked.prog.wantsStandIn t = false := by
  obtain rfl : f = 5 := Option.some.inj ((show Tryd.prog.funcNamed "tocsin/tocsinlaw01.VintSums" = some 5 by kernel_rfl).symm.trans hf) |>.symm
  obtain rfl : fn = Tryd.f5 := (Option.some.inj (Tryd.func5.symm.trans hfn)).symm
  refine ⟨by kernel_rfl, fun j t ht => ?_⟩
  rw [Tryd.params5] at ht
  have hm := Array.mem_of_getElem? ht
  simp only [List.mem_toArray, List.mem_cons, List.not_mem_nil, or_false] at hm
  rcases hm with rfl | rfl | rfl
  · exact sums_inuint8
  · exact sums_inuint8
  · exact sums_inuint32

/-- THE STATEMENT -/
theorem vintSums_holds : Rows.VintSumsUptoCardSaid :=
  Claim7.holds_tied_plain_at .later [] _ _ _ _ sums_said (fun _ h => by cases h) (by kernel_rfl) (fun _ h => by cases h) vintSumsUpto_row_tie rfl ⟨rfl, rfl⟩ (by kernel_rfl) rfl sums_plain (by kernel_rfl)
end Go.Proofs.YtimjlclkdfogfaaDoor
