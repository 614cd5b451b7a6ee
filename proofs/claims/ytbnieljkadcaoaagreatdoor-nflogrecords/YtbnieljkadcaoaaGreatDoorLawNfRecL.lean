/-
  NflogRecords: a mark is a record and back; any bytes are a mark, or none: at any mark, any bytes.
-/
import Derived.Test.YtbnieljkadcaoaaGreatDoorLawNfRec
import Derived.Test.YtbnieljkadcaoaaGreatDoorNmF
namespace Go.Proofs.YtbnieljkadcaoaaGreatDoor
open Go.ChangeShapes Go.WideShapes Go.ChangeAt Go.RowKit

theorem cellsU8 : Tryz.prog.cellsOf 5 = 1 := by kernel_rfl
theorem toU8 (zs : List Int) (h : ∀ n ∈ zs, (Lit.int .u8 n).wf = true) : ∃ l : List UInt8, zs = l.map fun b => (b.toNat : Int) := by
  induction zs with
  | nil => exact ⟨[], rfl⟩
  | cons z zs ih =>
    obtain ⟨l, rfl⟩ := ih (fun n hn => h n (List.mem_cons_of_mem _ hn))
    have hz : 0 ≤ z ∧ z ≤ 255 := by simpa [Lit.wf, IntKind.min, IntKind.max, IntKind.signed, IntKind.bits] using h z List.mem_cons_self
    refine ⟨UInt8.ofNat z.toNat :: l, ?_⟩
    simp only [List.map_cons, List.cons.injEq, and_true]
    rw [UInt8.toNat_ofNat']
    omega

theorem bulkAll_len {H : Type} (l : List (DataW H)) : l.length ≤ Rows.uptoBulkAll l := by
  induction l with
  | nil => simp [Rows.uptoBulkAll]
  | cons x r ih =>
    have h1 : 1 ≤ Rows.uptoBulk x := by
      cases x with
      | lit v => cases v <;> simp [Rows.uptoBulk]
      | _ => simp [Rows.uptoBulk]
    simp only [Rows.uptoBulkAll, List.length_cons]
    omega

set_option maxRecDepth 8000 in
theorem open_bytes {H : Type} {enc : TypeId × Value → H} {W : World} {base : Nat} {v : Value} {d : DataW H} {p : List MemPlace} (hval : Value.okWide Tryz.prog W .any base 41 v)
    (h : DataW.Trod enc Tryz.prog W 0 (fun _ => true) true 41 v d p) : ∃ l, Rd W v l ∧ l.length ≤ Rows.uptoBulk d ∧ ∃ n : Nat, l.length ≤ n ∧ (d = .nil ∧ n = 0 ∨ ∃ es sp, d = .slice es sp ∧ n = es.length + sp.length) := by
  obtain ⟨a0, len, cap, rfl⟩ := okWide_slice Tryz.underlying41 hval
  obtain ⟨fuel, hf⟩ := h
  rcases open_ints Tryz.underlying41 Tryz.underlying5 cellsU8 hf with ⟨hcs, hx⟩ | ⟨x, l, c, zs, hcs, _, hl, hm, hz, hx, hcell, hwz⟩
  · simp [Value.cells] at hcs
    obtain ⟨rfl, rfl, rfl⟩ := hcs
    simp only [Prod.mk.injEq] at hx
    exact ⟨[], Rd.nil W, by simp, 0, by simp, .inl ⟨hx.1, rfl⟩⟩
  · simp [Value.cells] at hcs
    obtain ⟨rfl, rfl, rfl⟩ := hcs
    simp only [Prod.mk.injEq] at hx
    obtain ⟨bs, rfl⟩ := toU8 zs hwz
    simp only [if_true, List.length_map] at hz hcell
    have hlt : (bs.take len).length = len := by simp; omega
    refine ⟨bs.take len, ⟨some x, cap, by rw [hlt], by rw [hlt]; exact hl, hm, ?_, fun h => by cases h⟩, ?_, bs.length, by rw [hlt]; omega, .inr ⟨_, _, hx.1, ?_⟩⟩
    · intro j hj
      rw [hlt] at hj
      have h0 := hcell 0 (by omega)
      obtain ⟨b, off, spot⟩ := x
      have hspot : spot = none := by simpa [Addr.add] using World.cell?_spot h0
      subst hspot
      refine ⟨b, off, rfl, ?_⟩
      have hj' : j < bs.length := by omega
      have := hcell j hj'
      rw [Go.WideShapes.add_plain] at this
      rw [this]
      simp [hj, hj']
    · rw [hx.1]
      have := bulkAll_len (lits (H := H) .u8 (((bs.map fun b => (b.toNat : Int))).take len))
      simp only [Rows.uptoBulk]
      simp only [lits, List.length_map, List.length_take] at this ⊢
      omega
    · simp [lits]
      omega

set_option maxRecDepth 8000 in
/-- an argument of bytes reads behind the call as it did -/
theorem back_bytes {H : Type} {enc : TypeId × Value → H} {W W' : World} {v : Value} {d : DataW H} {p : List MemPlace} (h : DataW.Trod enc Tryz.prog W 0 (fun _ => true) true 41 v d p) (hb : Below W.heap.size W W') :
    DataW.Trod enc Tryz.prog W' 0 (fun b => decide (b < W.heap.size)) true 41 v d p :=
  Below.trod laidOut (by kernel_rfl) (of_decide_eq_true (by kernel_rfl)) h hb (by obtain ⟨m, hm⟩ := h; exact DataW.trod_lt m _ _ _ hm)

theorem bytesU8 : Tryz.prog.bytesOf 5 = 1 := by kernel_rfl
set_option maxRecDepth 8000 in
/-- the form's own reach, of an argument of bytes -/
theorem sz_bytes {H : Type} {ts : List TypeId} {ds : List (DataW H)} (hk : (DataW.weightsEach Tryz.prog ts ds).all (· ≤ reachBytes) = true) (j : Nat) {d : DataW H} (ht : ts[j]? = some 41) (hd : ds[j]? = some d) {l : List UInt8} {n : Nat}
    (hl : l.length ≤ n) (nd : d = .nil ∧ n = 0 ∨ ∃ es sp, d = .slice es sp ∧ n = es.length + sp.length) : l.length ≤ 140737488351232 := by
  rcases nd with ⟨-, rfl⟩ | ⟨es, sp, rfl, rfl⟩
  · omega
  · have := sized_slice hk (j := j) (t := 41) (e := 5) ht hd Tryz.underlying41
    rw [bytesU8] at this
    simp only [reachBytes] at this
    omega

theorem nfrec_tabs {W : World} (h : laidMetH Tryz.prog Rows.nflogRecordsRow.laid W) : U8S W := by
  have h : laidMet Tryz.prog Rows.nflogRecordsRow.laid W := by rw [← Go.MakeChecks.laidMetH_plain _ _ _ (by kernel_rfl)]; exact h
  exact u8S_of h (by simp [Rows.nflogRecordsRow]) (by simp [Rows.nflogRecordsRow])
set_option maxRecDepth 100000 in
theorem nfrec_contract (H : Type) (enc : TypeId × Value → H) (W : World) (base : Nat) (args : Array Value) (ds gs : List (DataW H)) (before : List MemPlace)
    (hval : ∀ (j : Nat) t v, Tryz.f4.params[j]? = some t → args[j]? = some v → Value.okWide Tryz.prog W .any base t v)
    (hW : DataW.Whole enc Tryz.prog Tryz.f4.params.toList Rows.nflogRecordsSpec.vars false W args.toList ds gs before) (hL : laidMetH Tryz.prog Rows.nflogRecordsRow.laid W) (hk : (DataW.weightsEach Tryz.prog (Tryz.f4.params.toList ++ (OpenSpec.ofChange Rows.nflogRecordsSpec).bare.plain.varTypes Tryz.prog) (ds ++ gs)).all (· ≤ reachBytes) = true) :
    Calls Tryz.prog 4 args W fun e W' => ∃ v, e = .returned v ∧ Rows.nflogRecordsSpec.post enc Tryz.prog Tryz.f4 false true false false W args v W' := by
  have hW' := hW
  obtain ⟨p, q, hA0, hV, rfl, hfz, hnd⟩ := hW
  have hA : DataW.TrodAll enc Tryz.prog W 0 (fun _ => true) true Tryz.f4.params.toList args.toList ds p := hA0
  rw [Tryz.params4] at hA hval hk
  obtain ⟨v0, vs0, d0, ds0, p0, q0, hargs, rfl, rfl, h0, r0⟩ := trodAll_cons hA
  obtain ⟨v1, vs1, d1, ds1, p1, q1, rfl, rfl, rfl, h1, r1⟩ := trodAll_cons r0
  obtain ⟨rfl, rfl, rfl⟩ := trodAll_nil r1
  obtain rfl : args = #[v0, v1] := by cases args; simp_all
  obtain ⟨rfl, rfl⟩ := trodVars_none hV
  obtain ⟨m0, f0, s0, rfl, a0⟩ := open_mark (Wt.of hk 0 rfl rfl) (hval 0 31 v0 rfl rfl) h0
  obtain ⟨l1, rd1, b1, n1, nl1, nd1⟩ := open_bytes (hval 1 41 v1 rfl rfl) h1
  clear hA0
  have hT := nfrec_tabs hL
  have s1 : l1.length ≤ 140737488351232 := sz_bytes hk 1 rfl rfl nl1 nd1
  refine (nfRec_walk W m0 f0 s0 v1 l1 a0.1 a0.2.1 a0.2.2.1 rd1 (by omega) hT).mono fun e W' ⟨he, bel⟩ => ?_
  subst he
  exact ⟨_, rfl, _, _, _, [], _, [], hW', trodAll_mk1 (shut_bool Tryz.underlying4 _), (trodAll_cons_mk (back_mark h0 bel) (trodAll_cons_mk (back_bytes h1 bel) trodAll_mk0)), rfl, bel.frame _, fun h => by cases h⟩

theorem nfrec_met (os : Os) : laidMet Tryz.prog Rows.nflogRecordsRow.laid ((laidWorld os).forCall (fun _ _ => 0) ⟨#[], #[.agg #[.string .empty, .string .empty, .int .i64 0, .slice none 0 0, .slice none 0 0], .slice none 0 0], []⟩).memory :=
  laidMet_of_run' 8 (by kernel_rfl) (by kernel_rfl)
set_option maxRecDepth 100000 in
theorem nfrec_reads (os : Os) {H : Type} (enc : TypeId × Value → H) : ∃ places, DataW.whole enc Tryz.prog ((laidWorld os).forCall (fun _ _ => 0) ⟨#[], #[.agg #[.string .empty, .string .empty, .int .i64 0, .slice none 0 0, .slice none 0 0], .slice none 0 0], []⟩).memory Tryz.f4.params.toList Rows.nflogRecordsSpec.vars false #[Value.agg #[.string ByteArray.empty, .string ByteArray.empty, .int .i64 0, .slice none 0 0, .slice none 0 0], Value.slice none 0 0].toList 8 = some ([.agg [.lit (.string []), .lit (.string []), .lit (.int .i64 0), .nil, .nil], .nil], [], places) :=
  ⟨[], by kernel_rfl⟩

set_option maxRecDepth 100000 in
theorem nfrec_lifted (os : Os) (started : os.Started) (H : Type) (enc : TypeId × Value → H) (F : Stop.Interp) :
    ReturnsInHanded {} Tryz.checked os 4 .any ((OpenSpec.ofChange Rows.nflogRecordsSpec).preRow enc Tryz.prog Tryz.f4 Rows.nflogRecordsRow.domain false Rows.nflogRecordsRow.laid) (((OpenSpec.ofChange Rows.nflogRecordsSpec).at F).post enc Tryz.prog Tryz.f4 false true false false) := by
  obtain ⟨places, hx⟩ := nfrec_reads os enc
  refine returnsInHanded_of_row (C := Tryz.checked) (s := (OpenSpec.ofChange Rows.nflogRecordsSpec)) own started (by kernel_rfl) Tryz.func4
    (witness_row_at (enc := enc) (C := Tryz.checked) false (laidWorld os) #[.agg #[.string .empty, .string .empty, .int .i64 0, .slice none 0 0, .slice none 0 0], .slice none 0 0] rfl (by kernel_rfl) (by kernel_rfl) (by kernel_rfl)
      (OpenSpec.preRow_of_cond 8 hx (by kernel_rfl) (fun k hk => by cases hk) (by kernel_rfl) (nfrec_met os))) ?_
  intro W base args ds gs before hval hW _ _ hsz hL _ _
  exact nfrec_contract H enc W base args ds gs before hval hW hL hsz

set_option maxRecDepth 100000 in
theorem nfrec_said : Rows.NflogRecordsSaid :=
  OpenClaim.holds_of_cond 4 Tryz.f4 rfl rfl rfl rfl rfl rfl rfl ⟨rfl, rfl, rfl, rfl, rfl⟩ rfl rfl rfl rfl rfl (by kernel_rfl) Tryz.func4 (by kernel_rfl)
    (of_decide_eq_true (by kernel_rfl)) (by unfold Func.isWrapper; first | (rw [if_pos (by decide +kernel)]; kernel_rfl) | (rw [if_neg (by decide +kernel)]; exact ⟨rfl, rfl⟩))
    (fun os started H enc _ F => by rw [OpenClaim.pre_eq_preRow]; exact nfrec_lifted os started H enc F)

theorem nfrec_inLuint8 : Tryz.prog.wantsStandIn 41 = false := by kernel_rfl
theorem nfrec_intocsinapiMark : Tryz.prog.wantsStandIn 31 = false := by kernel_rfl
theorem nfrec_plain (f : FuncId) (fn : Func) (hf : Tryz.pinned.checked.prog.funcNamed "tocsin/tocsinlaw26.NflogRecords" = some f) (hfn : Tryz.pinned.checked.prog.funcs[f]? = some fn) :
    false = Tryz.pinned.checked.prog.looks [] ∧ ∀ (j : Nat) t, fn.params[j]? = some t → Tryz.pinned.checked.prog.wantsStandIn t = false := by
  obtain rfl : f = 4 := Option.some.inj ((show Tryz.prog.funcNamed "tocsin/tocsinlaw26.NflogRecords" = some 4 by kernel_rfl).symm.trans hf) |>.symm
  obtain rfl : fn = Tryz.f4 := (Option.some.inj (Tryz.func4.symm.trans hfn)).symm
  refine ⟨by kernel_rfl, fun j t ht => ?_⟩
  rw [Tryz.params4] at ht
  have hm := Array.mem_of_getElem? ht
  simp only [List.mem_toArray, List.mem_cons, List.not_mem_nil, or_false] at hm
  rcases hm with rfl | rfl
  · exact nfrec_intocsinapiMark
  · exact nfrec_inLuint8

/-- THE STATEMENT -/
theorem nflogRecords_holds : Rows.NflogRecordsCardSaid :=
  Claim7.holds_tied_plain_at .later [] _ _ _ _ nfrec_said (fun _ h => by cases h) (by kernel_rfl) (fun _ h => by cases h) nflogRecords_row_tie rfl ⟨rfl, rfl⟩ (by kernel_rfl) rfl nfrec_plain (by kernel_rfl)
end Go.Proofs.YtbnieljkadcaoaaGreatDoor
