/-
  VintNumbers is true for every input: what vint.PutU, PutI, U and I answer is the document's answer, at any bytes, numbers and place, and what is handed in stays.
-/
import Derived.Test.YtimjlclkdfogfaaDoorLift
import Derived.Test.YtimjlclkdfogfaaDoorRefU
import Derived.Test.YtimjlclkdfogfaaDoorLent
namespace Go.Proofs.YtimjlclkdfogfaaDoor
open Go.ChangeShapes Go.WideShapes Go.ChangeAt Go.RowKit

set_option maxHeartbeats 3200000 in
theorem numbers_walk (v : Value) (l : List UInt8) (x : BitVec 64) (n p : Int) (w : World) (hv : Rd w v l) (hT : TabIn w) (hsz : l.length ≤ 140737488351232) (hl : -9223372036854775808 ≤ n) (hh : n ≤ 9223372036854775807) :
    Calls Tryd.prog 3 #[v, .int .u64 (I64 x), .int .i64 n, .int .i64 p] w fun e w' => e = .returned (.bool true) ∧ Below w.heap.size w w' := by
  have hv2 : Hid (Rd w v l) := hv
  have hT2 : Hid (TabIn w) := hT
  have hux := uv_len64 x
  have huz : (uv (zz n)).length ≤ 10 := by
    have := uv_len64 (BitVec.ofNat 64 (zz n))
    rwa [ofNat_zz hl hh] at this
  clear hv hT
  go_enter Tryd.func3, Tryd.ntmps3
  go_wp2_with fail
  refine (lent_any v l _ hv2.out (by omega)).mono ?_
  rintro e w1 ⟨v1, rfl, hl1, hg1⟩
  have H1 : Hid (LentAs w1 w.heap.size v1 l ∧ w.grownBy w1 none) := ⟨hl1, hg1⟩
  clear hl1 hg1
  go_wp2_with fail
  refine (putU_any v1 l x _ H1.out.1.rd (by omega)).mono ?_
  rintro e w2 ⟨v2, rfl, ho2, hg2⟩
  have H2 : Hid (Own w2 w1.heap.size v2 (l ++ uv x.toNat) ∧ w1.grownBy w2 none) := ⟨ho2, hg2⟩
  clear ho2 hg2
  go_wp2_with fail
  refine (putI_any v1 l n _ (H1.out.1.keep H2.out.2).rd (by omega) hl hh).mono ?_
  rintro e w3 ⟨v3, rfl, ho3, hg3⟩
  have H3 : Hid (Own w3 w2.heap.size v3 (l ++ uv (zz n)) ∧ w2.grownBy w3 none) := ⟨ho3, hg3⟩
  clear ho3 hg3
  go_wp2_with fail
  refine (refPutU_any v l x _ (((hv2.out.keep H1.out.2).keep H2.out.2).keep H3.out.2) (by omega)).mono ?_
  rintro e w4 ⟨v4, rfl, ho4, hg4⟩
  have H4 : Hid (Own w4 w3.heap.size v4 (l ++ uv x.toNat) ∧ w3.grownBy w4 none) := ⟨ho4, hg4⟩
  clear ho4 hg4
  go_wp2_with fail
  refine (same_any v2 v4 (l ++ uv x.toNat) (l ++ uv x.toNat) _ ((H2.out.1.rd.keep H3.out.2).keep H4.out.2) H4.out.1.rd).mono ?_
  rintro e w5 ⟨he, hg5⟩
  rw [decide_eq_true rfl] at he
  subst he
  have H5 : Hid (w4.grownBy w5 none) := hg5
  clear hg5
  go_wp2_with fail
  refine (refPutI_any v l n _ (((((hv2.out.keep H1.out.2).keep H2.out.2).keep H3.out.2).keep H4.out.2).keep H5.out) (by omega) hl hh).mono ?_
  rintro e w6 ⟨v6, rfl, ho6, hg6⟩
  have H6 : Hid (Own w6 w5.heap.size v6 (l ++ uv (zz n)) ∧ w5.grownBy w6 none) := ⟨ho6, hg6⟩
  clear ho6 hg6
  go_wp2_with fail
  refine (same_any v3 v6 (l ++ uv (zz n)) (l ++ uv (zz n)) _ (((H3.out.1.rd.keep H4.out.2).keep H5.out).keep H6.out.2) H6.out.1.rd).mono ?_
  rintro e w7 ⟨he, hg7⟩
  rw [decide_eq_true rfl] at he
  subst he
  have G7 : Hid (w3.grownBy w7 none) := gb_none (gb_none (gb_none H4.out.2 H5.out) H6.out.2) hg7
  clear hg7 H4 H5 H6
  have G2 : Hid (w2.grownBy w7 none) := gb_none H3.out.2 G7.out
  go_wp2_with fail
  refine (spoil_any v2 w1.heap.size (l ++ uv x.toNat) _ (H2.out.1.keep G2.out) (by have := H2.out.2.size; have := G2.out.size; omega) (by simp; omega)).mono ?_
  rintro e w8 ⟨rfl, hg8⟩
  have H8 : Hid (Own w8 w2.heap.size v3 (l ++ uv (zz n)) ∧ w1.grownBy w8 none) := by
    have h1 : w1.grownBy w7 none := gb_none H2.out.2 G2.out
    refine ⟨(H3.out.1.keep G7.out).kept hg8 (.inr ?_), gb_new h1 hg8 (fun k hk => (H2.out.1.lt k hk).1)⟩
    intro he
    cases hb : v3.ownBlock with
    | none =>
      obtain ⟨g, cap, hs, -⟩ := H3.out.1.form (by intro h; have := uv_pos (zz n); have h2 := congrArg List.length h; simp only [List.length_append, List.length_nil] at h2; omega)
      rw [hs] at hb
      simp [Value.ownBlock] at hb
    | some k =>
      have h3 := H3.out.1.lt k hb
      have h4 := H2.out.1.lt k (by rw [← he]; exact hb)
      omega
  clear hg8 H3 G7 G2
  go_wp2_with fail
  refine (spoil_any v3 w2.heap.size (l ++ uv (zz n)) _ H8.out.1 (by have := H2.out.2.size; have := H8.out.2.size; have := (Own.lt H8.out.1); obtain ⟨g, cap, hs, h1, h2, -⟩ := H8.out.1.form (by intro h; have := uv_pos (zz n); have h2 := congrArg List.length h; simp only [List.length_append, List.length_nil] at h2; omega); omega) (by simp; omega)).mono ?_
  rintro e w9 ⟨rfl, hg9⟩
  have H9 : Hid (w1.grownBy w9 none) := gb_new H8.out.2 hg9 (fun k hk => by have := H8.out.1.lt k hk; have := H2.out.2.size; omega)
  clear hg9 H8 H2
  go_wp2_with fail
  refine (u_any v1 l p _ (H1.out.1.keep H9.out).rd).mono ?_
  rintro e w10 ⟨rfl, rfl⟩
  unfold tup3
  go_wp2_with fail
  refine (refu_any v l p _ ((hv2.out.keep H1.out.2).keep H9.out)).mono ?_
  rintro e w11 ⟨rfl, rfl⟩
  unfold tup3
  go_wp2_with fail
  refine (i_any v1 l p _ (H1.out.1.keep H9.out).rd).mono ?_
  rintro e w12 ⟨rfl, rfl⟩
  unfold tup3i
  go_wp2_with fail
  refine (refi_any v l p _ ((hv2.out.keep H1.out.2).keep H9.out)).mono ?_
  rintro e w13 ⟨rfl, rfl⟩
  unfold tup3i
  go_wp2_with fail
  refine (kept_any v1 v w.heap.size l _ (H1.out.1.keep H9.out) ((hv2.out.keep H1.out.2).keep H9.out)).mono ?_
  rintro e w14 ⟨rfl, hg14⟩
  have H14 : Hid (w.grownBy w14 none) := gb_none (gb_none H1.out.2 H9.out) hg14
  clear hg14 H9 H1
  go_wp2_with fail
  refine (known_any _ (hT2.out.keep0 H14.out)).mono ?_
  rintro e w15 ⟨rfl, hg15⟩
  have H15 : Hid (Below w.heap.size w w15) := gb_below (gb_none H14.out hg15)
  clear hg15 H14
  go_wp2
  go_ret
  exact ⟨rfl, H15.out⟩

theorem numbers_contract (H : Type) (enc : TypeId × Value → H) (W : World) (base : Nat) (args : Array Value) (ds gs : List (DataW H)) (before : List MemPlace)
    (hval : ∀ (j : Nat) t v, Tryd.f3.params[j]? = some t → args[j]? = some v → Value.okWide Tryd.prog W .any base t v)
    (hW : DataW.Whole enc Tryd.prog Tryd.f3.params.toList Rows.vintNumbersSpec.vars false W args.toList ds gs before) (hL : laidMetH Tryd.prog Rows.vintNumbersRow.laid W) (hk : (DataW.weightsEach Tryd.prog (Tryd.f3.params.toList ++ (OpenSpec.ofChange Rows.vintNumbersSpec).bare.plain.varTypes Tryd.prog) (ds ++ gs)).all (· ≤ reachBytes) = true) :
    Calls Tryd.prog 3 args W fun e W' => ∃ v, e = .returned v ∧ Rows.vintNumbersSpec.post enc Tryd.prog Tryd.f3 false true false false W args v W' := by
  have hW' := hW
  obtain ⟨p, q, hA0, hV, rfl, hfz, hnd⟩ := hW
  have hA : DataW.TrodAll enc Tryd.prog W 0 (fun _ => true) true Tryd.f3.params.toList args.toList ds p := hA0
  rw [Tryd.params3] at hA hval hk
  obtain ⟨v0, vs0, d0, ds0, p0, q0, hargs, rfl, rfl, h0, r0⟩ := trodAll_cons hA
  obtain ⟨v1, vs1, d1, ds1, p1, q1, rfl, rfl, rfl, h1, r1⟩ := trodAll_cons r0
  obtain ⟨v2, vs2, d2, ds2, p2, q2, rfl, rfl, rfl, h2, r2⟩ := trodAll_cons r1
  obtain ⟨v3, vs3, d3, ds3, p3, q3, rfl, rfl, rfl, h3, r3⟩ := trodAll_cons r2
  obtain ⟨rfl, rfl, rfl⟩ := trodAll_nil r3
  obtain rfl : args = #[v0, v1, v2, v3] := by cases args; simp_all
  obtain ⟨rfl, rfl⟩ := trodVars_none hV
  obtain ⟨l0, rd0, b0, n0, nl0, nd0⟩ := open_bytes (hval 0 22 v0 rfl rfl) h0
  obtain ⟨z1, rfl, rfl, rfl, wz1⟩ := open_int Tryd.underlying23 (hval 1 23 v1 rfl rfl) h1
  obtain ⟨s1, rfl⟩ := u64_of wz1
  obtain ⟨z2, rfl, rfl, rfl, wz2⟩ := open_int Tryd.underlying2 (hval 2 2 v2 rfl rfl) h2
  obtain ⟨z3, rfl, rfl, rfl, wz3⟩ := open_int Tryd.underlying3 (hval 3 3 v3 rfl rfl) h3
  clear hA0
  have bd := i64_bd wz2
  refine (numbers_walk v0 l0 s1 z2 z3 W rd0 (tab_of hL) (sz_bytes hk 0 rfl rfl nl0 nd0) bd.1 bd.2).mono fun e W' ⟨he, bel⟩ => ?_
  subst he
  exact ⟨_, rfl, _, _, _, [], _, [], hW', trodAll_mk1 (shut_bool Tryd.underlying4 _), (trodAll_cons_mk (back_bytes h0 bel) (trodAll_cons_mk (shut_int Tryd.underlying23 wz1) (trodAll_cons_mk (shut_int Tryd.underlying2 wz2) (trodAll_cons_mk (shut_int Tryd.underlying3 wz3) trodAll_mk0)))), rfl, bel.frame _, fun h => by cases h⟩

theorem numbers_met (os : Os) : laidMet Tryd.prog Rows.vintNumbersRow.laid ((laidWorld os).forCall (fun _ _ => 0) ⟨#[], #[.slice none 0 0, .int .u64 0, .int .i64 0, .int .i64 0], []⟩).memory :=
  laidMet_of_run' 8 (by kernel_rfl) (by kernel_rfl)
theorem numbers_reads (os : Os) {H : Type} (enc : TypeId × Value → H) : ∃ places, DataW.whole enc Tryd.prog ((laidWorld os).forCall (fun _ _ => 0) ⟨#[], #[.slice none 0 0, .int .u64 0, .int .i64 0, .int .i64 0], []⟩).memory Tryd.f3.params.toList Rows.vintNumbersSpec.vars false #[Value.slice none 0 0, Value.int .u64 0, Value.int .i64 0, Value.int .i64 0].toList 8 = some ([.nil, .lit (.int .u64 0), .lit (.int .i64 0), .lit (.int .i64 0)], [], places) :=
  ⟨[], by kernel_rfl⟩

set_option maxRecDepth 100000 in
theorem numbers_lifted (os : Os) (started : os.Started) (H : Type) (enc : TypeId × Value → H) (F : Stop.Interp) :
    ReturnsInHanded {} Tryd.checked os 3 .any ((OpenSpec.ofChange Rows.vintNumbersSpec).preRow enc Tryd.prog Tryd.f3 Rows.vintNumbersRow.domain false Rows.vintNumbersRow.laid) (((OpenSpec.ofChange Rows.vintNumbersSpec).at F).post enc Tryd.prog Tryd.f3 false true false false) := by
  obtain ⟨places, hx⟩ := numbers_reads os enc
  refine returnsInHanded_of_row (C := Tryd.checked) (s := (OpenSpec.ofChange Rows.vintNumbersSpec)) own started (by kernel_rfl) Tryd.func3
    (witness_row_at (enc := enc) (C := Tryd.checked) false (laidWorld os) #[.slice none 0 0, .int .u64 0, .int .i64 0, .int .i64 0] rfl (by kernel_rfl) (by kernel_rfl) (by kernel_rfl)
      (OpenSpec.preRow_of_cond 8 hx (by kernel_rfl) (fun k hk => by cases hk) (by kernel_rfl) (numbers_met os))) ?_
  intro W base args ds gs before hval hW _ _ hsz hL _ _
  exact numbers_contract H enc W base args ds gs before hval hW hL hsz

theorem numbers_said : Rows.VintNumbersSaid :=
  OpenClaim.holds_of_cond 3 Tryd.f3 rfl rfl rfl rfl rfl rfl rfl ⟨rfl, rfl, rfl, rfl, rfl⟩ rfl rfl rfl rfl rfl (by kernel_rfl) Tryd.func3 (by kernel_rfl)
    (of_decide_eq_true (by kernel_rfl)) (by unfold Func.isWrapper; first | (rw [if_pos (by decide +kernel)]; kernel_rfl) | (rw [if_neg (by decide +kernel)]; exact ⟨rfl, rfl⟩))
    (fun os started H enc _ F => by rw [OpenClaim.pre_eq_preRow]; exact numbers_lifted os started H enc F)

theorem numbers_inuint8 : Tryd.prog.wantsStandIn 22 = false := by kernel_rfl
theorem numbers_inint : Tryd.prog.wantsStandIn 3 = false := by kernel_rfl
theorem numbers_inint64 : Tryd.prog.wantsStandIn 2 = false := by kernel_rfl
theorem numbers_inuint64 : Tryd.prog.wantsStandIn 23 = false := by kernel_rfl
theorem numbers_plain (f : FuncId) (fn : Func) (hf : Tryd.pinned.checked.prog.funcNamed "tocsin/tocsinlaw01.VintNumbers" = some f) (hfn : Tryd.pinned.checked.prog.funcs[f]? = some fn) :
    false = Tryd.pinned.checked.prog.looks [] ∧ ∀ (j : Nat) t, fn.params[j]? = some t → Tryd.pinned.checked.prog.wantsStandIn t = false := by
  obtain rfl : f = 3 := Option.some.inj ((show Tryd.prog.funcNamed "tocsin/tocsinlaw01.VintNumbers" = some 3 by kernel_rfl).symm.trans hf) |>.symm
  obtain rfl : fn = Tryd.f3 := (Option.some.inj (Tryd.func3.symm.trans hfn)).symm
  refine ⟨by kernel_rfl, fun j t ht => ?_⟩
  rw [Tryd.params3] at ht
  have hm := Array.mem_of_getElem? ht
  simp only [List.mem_toArray, List.mem_cons, List.not_mem_nil, or_false] at hm
  rcases hm with rfl | rfl | rfl | rfl
  · exact numbers_inuint8
  · exact numbers_inuint64
  · exact numbers_inint64
  · exact numbers_inint

/-- THE STATEMENT -/
theorem vintNumbers_holds : Rows.VintNumbersCardSaid :=
  Claim7.holds_tied_plain_at .later [] _ _ _ _ numbers_said (fun _ h => by cases h) (by kernel_rfl) (fun _ h => by cases h) vintNumbers_row_tie rfl ⟨rfl, rfl⟩ (by kernel_rfl) rfl numbers_plain (by kernel_rfl)
end Go.Proofs.YtimjlclkdfogfaaDoor
