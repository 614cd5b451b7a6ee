/-
  BitsPieces is true for every input: writing a number of n bits is writing its bits one by one, the highest first.
-/
import Derived.Test.YtimjlclkdfogfabLiftP
namespace Go.Proofs.Ytimjlclkdfogfab
open Go.ChangeShapes Go.WideShapes Go.ChangeAt Go.RowKit

theorem Wr.keptFw {w w' : World} {g g2 : Nat} {v v2 v2' : Value} {bs : List Bool} (h : Wr w g v bs) (hf : Fw w w' g2 v2 v2') (h1 : g ≠ g2) (h2 : v2.ownBlock ≠ some g) (h3 : v.ownBlock ≠ some g2) (h4 : v.ownBlock = none ∨ v.ownBlock ≠ v2.ownBlock) : Wr w' g v bs := by
  refine ⟨?_, ?_⟩
  · rw [hf.block g h.cells.2.2.2.2 h1 (fun e => h2 e.symm)]
    exact h.1
  · cases hv : v.ownBlock with
    | none =>
      rcases h.2.2 with ⟨rfl, hn⟩ | ⟨gb, cap, cur, rfl, r⟩
      · exact ⟨h.2.1, .inl ⟨rfl, hn⟩⟩
      · simp [Value.ownBlock] at hv
    | some k =>
      rcases h.2.2 with ⟨rfl, hn⟩ | ⟨gb, cap, cur, rfl, hb, hh, r⟩
      · simp [Value.ownBlock] at hv
      · simp only [Value.ownBlock, Option.some.injEq] at hv
        subst hv
        refine ⟨h.2.1, .inr ⟨gb, cap, cur, rfl, hb, ?_, r⟩⟩
        rw [hf.block gb (Array.getElem?_eq_some_iff.1 hh).1 (by intro e; exact h3 (by simp [Value.ownBlock, e])) (by rcases h4 with h4 | h4 <;> simp [Value.ownBlock] at h4 ⊢; exact h4)]
        exact hh

theorem bit_and (x : BitVec 64) (i : Nat) : bits .and .u64 (I64 x / 2 ^ i) 1 = ((x.toNat / 2 ^ i % 2 : Nat) : Int) := by
  have e : I64 x / 2 ^ i = ((x.toNat / 2 ^ i : Nat) : Int) := by
    unfold I64
    rw [Int.natCast_ediv, Int.natCast_pow]
    rfl
  have hx := x.isLt
  have h := u64_and_nat (x.toNat / 2 ^ i) 1 (Nat.lt_of_le_of_lt (Nat.div_le_self _ _) hx) (by decide)
  rw [Nat.and_one_is_mod] at h
  rw [e]
  exact h
theorem bit_test (x : BitVec 64) (i : Nat) : (bits .and .u64 (I64 x / 2 ^ i) 1 == 1) = x.toNat.testBit i := by
  rw [bit_and, Nat.testBit_eq_decide_div_mod_eq]
  by_cases h : x.toNat / 2 ^ i % 2 = 1
  · rw [h]; rfl
  · have h0 : x.toNat / 2 ^ i % 2 = 0 := by omega
    rw [h0]; rfl

set_option maxHeartbeats 6400000 in
theorem pieces_bad (x : BitVec 64) (n : Int) (w : World) (h : n < 0 ∨ 64 < n ∨ (0 ≤ n ∧ n ≤ 64 ∧ ¬ x.toNat < 2 ^ n.toNat)) :
    Calls Try.prog 3 #[.int .u64 (I64 x), .int .i64 n] w fun e w' => e = .returned (.bool true) ∧ Below w.heap.size w w' := by
  have HB : Hid (∀ g w', Calls Try.prog 5 #[.pointer (some ⟨g, 0, none⟩), .int .u64 (I64 x), .int .i64 n] w' fun e w'' => e = .returned (.int .i64 1) ∧ w'' = w') := fun g w' => wbits_arg g x n w' h
  have hlt64 : Hid (0 ≤ n ∧ n ≤ 64 → n < 64) := by
    rintro ⟨h1, h2⟩
    rcases h with h | h | ⟨_, _, h3⟩
    · omega
    · omega
    · by_cases he : n = 64
      · subst he
        exact absurd x.isLt h3
      · omega
  have hsh : Hid (0 ≤ n ∧ n ≤ 64 → (I64 x / 2 ^ n.toNat != 0) = true) := by
    rintro ⟨h1, h2⟩
    rw [bne_iff_ne]
    rcases h with h | h | ⟨_, _, h3⟩
    · omega
    · omega
    · exact shr_some h3
  clear h
  go_enter Try.func3, Try.ntmps3
  go_wp2_with fail
  refine (newWriter_any _).mono ?_
  rintro e w1 ⟨ga, rfl, hw1, hg1, hgg1⟩
  have H1 : Hid (Wr w1 ga (.slice none 0 0) [] ∧ w.grownBy w1 none) := ⟨hw1, hg1⟩
  clear hw1 hg1 hgg1
  go_wp2_with fail
  refine (newWriter_any _).mono ?_
  rintro e w2 ⟨gb, rfl, hw2, hg2, hgg2⟩
  have H2 : Hid (Wr w2 ga (.slice none 0 0) [] ∧ w.grownBy w2 none) := ⟨H1.out.1.keep hg2, gb_none H1.out.2 hg2⟩
  clear hw2 hg2 hgg2 H1
  go_wp2_with fail
  refine (HB.out ga _).mono ?_
  rintro e w3 ⟨rfl, rfl⟩
  go_wp2_with fail
  refine (wlen_any ga _ [] _ H2.out.1).mono ?_
  rintro e w4 ⟨rfl, rfl⟩
  by_cases c1 : n < 0
  · go_wp2_with fail
    refine (awake_any _).mono ?_
    rintro e w5 ⟨rfl, hg5⟩
    have H5 : Hid (Below w.heap.size w w5) := gb_below (gb_none H2.out.2 hg5)
    clear hg5 H2
    go_wp2
    go_ret
    exact ⟨rfl, H5.out⟩
  · by_cases c2 : 64 < n
    · go_wp2_with fail
      refine (awake_any _).mono ?_
      rintro e w5 ⟨rfl, hg5⟩
      have H5 : Hid (Below w.heap.size w w5) := gb_below (gb_none H2.out.2 hg5)
      clear hg5 H2
      go_wp2
      go_ret
      exact ⟨rfl, H5.out⟩
    · have c3 : n < 64 := hlt64.out ⟨by omega, by omega⟩
      obtain ⟨m, rfl⟩ := Int.eq_ofNat_of_zero_le (show 0 ≤ n by omega)
      have hs := hsh.out ⟨by omega, by omega⟩
      rw [Int.toNat_natCast] at hs
      clear hlt64 hsh HB
      go_wp2_with fail
      refine (awake_any _).mono ?_
      rintro e w5 ⟨rfl, hg5⟩
      have H5 : Hid (Below w.heap.size w w5) := gb_below (gb_none H2.out.2 hg5)
      clear hg5 H2
      go_wp2
      go_ret
      exact ⟨rfl, H5.out⟩

set_option maxHeartbeats 6400000 in
theorem pieces_ok (x : BitVec 64) (n : Nat) (w : World) (hn : n ≤ 64) (hx : x.toNat < 2 ^ n) :
    Calls Try.prog 3 #[.int .u64 (I64 x), .int .i64 (n : Int)] w fun e w' => e = .returned (.bool true) ∧ Below w.heap.size w w' := by
  have HX : Hid (x.toNat < 2 ^ n) := hx
  clear hx
  go_enter Try.func3, Try.ntmps3
  go_wp2_with fail
  refine (newWriter_any _).mono ?_
  rintro e w1 ⟨ga, rfl, hw1, hg1, hgg1⟩
  have H1 : Hid (Wr w1 ga (.slice none 0 0) [] ∧ w.grownBy w1 none ∧ w.heap.size ≤ ga) := ⟨hw1, hg1, hgg1⟩
  clear hw1 hg1 hgg1
  go_wp2_with fail
  refine (newWriter_any _).mono ?_
  rintro e w2 ⟨gb, rfl, hw2, hg2, hgg2⟩
  have H2 : Hid (Wr w2 ga (.slice none 0 0) [] ∧ Wr w2 gb (.slice none 0 0) [] ∧ w.grownBy w2 none ∧ w.heap.size ≤ ga ∧ ga < gb) :=
    ⟨H1.out.1.keep hg2, hw2, gb_none H1.out.2.1 hg2, H1.out.2.2, by have := H1.out.1.cells.2.2.2.2; show ga < gb; omega⟩
  clear hw2 hg2 hgg2 H1
  go_wp2_with fail
  refine (wbits_ok ga _ [] x n _ H2.out.1 hn HX.out (by simp; omega)).mono ?_
  rintro e w3 ⟨rfl, va, hw3, hf3⟩
  have H3 : Hid (Wr w3 ga va ([] ++ bitsOf x.toNat n) ∧ Wr w3 gb (.slice none 0 0) [] ∧ w.grownBy w3 none ∧ w.heap.size ≤ ga ∧ ga < gb ∧ va.ownBlock ≠ some gb) := by
    have h2 := H2.out.2.1.cells.2.2.2.2
    refine ⟨hw3, H2.out.2.1.keptFw hf3 (by have := H2.out.2.2.2.2; omega) (by simp [Value.ownBlock]) (by simp [Value.ownBlock]) (.inl rfl), ?_, H2.out.2.2.2.1, H2.out.2.2.2.2, ?_⟩
    · have hG := H2.out.2.2.1
      refine ⟨hf3.os.trans hG.os, hf3.tape.trans hG.tape, hf3.output.trans hG.output, Nat.le_trans hG.size hf3.size, fun k hk _ => ?_⟩
      have := H2.out.2.2.2.1
      exact (hf3.block k (Nat.lt_of_lt_of_le hk hG.size) (by omega) (by simp [Value.ownBlock])).trans (hG.block k hk (by simp))
    · intro e
      rcases hf3.own gb e with h | h
      · simp [Value.ownBlock] at h
      · omega
  clear hw3 hf3 H2
  go_wp2
  go_loopw [7] (fun i wr => ∃ k : Nat, k ≤ n ∧ i = .int .i64 ((k : Int) - 1) ∧ Hid (∃ vb P, Wr wr gb vb P ∧ bitsOf x.toNat n = P ++ bitsOf x.toNat k ∧ Fw w3 wr gb (.slice none 0 0) vb)) (fun i _ => (intOf i + 1).toNat)
  case atStart => exact ⟨n, Nat.le_refl _, rfl, .slice none 0 0, [], H3.out.2.1, rfl, Fw.refl _ _ _⟩
  case round =>
    obtain ⟨k, hk, rfl, hr⟩ := hrel
    obtain ⟨vb, P, hwb, heq, hfb⟩ := hr.out
    have hPl : P.length + k = n := by
      have := congrArg List.length heq
      simp only [List.length_append, bitsOf_len] at this
      omega
    clear hr
    by_cases h0 : 0 < k
    · obtain ⟨j, rfl⟩ : ∃ j, k = j + 1 := ⟨k - 1, by omega⟩
      have hji : ((j + 1 : Nat) : Int) - 1 = (j : Int) := by omega
      rw [hji]
      have hbt := bit_test x j
      have H : Hid (Wr wr gb vb P ∧ bitsOf x.toNat n = (P ++ [x.toNat.testBit j]) ++ bitsOf x.toNat j ∧ Fw w3 wr gb (.slice none 0 0) vb ∧ P.length + 1 ≤ 8388608) := ⟨hwb, by rw [heq]; simp [bitsOf], hfb, by omega⟩
      have hji2 : Hid ((j : Int) - 1 = (j : Int) - 1) := rfl
      clear hwb heq hfb hPl hji hji2
      generalize x.toNat.testBit j = tb at *
      go_wp2_with fail
      refine (wbit_ok gb vb P tb _ H.out.1 H.out.2.2.2).mono ?_
      rintro e w4 ⟨rfl, vb', hw4, hf4⟩
      have H4 : Hid (∃ vb P, Wr w4 gb vb P ∧ bitsOf x.toNat n = P ++ bitsOf x.toNat j ∧ Fw w3 w4 gb (.slice none 0 0) vb) := ⟨vb', P ++ [tb], hw4, H.out.2.1, H.out.2.2.1.trans hf4⟩
      clear hw4 hf4 H hbt
      go_wp2
      go_roundw
      case rel => exact ⟨j, by omega, rfl, H4⟩
      case measure => simp [intOf]
    · obtain rfl : k = 0 := by omega
      have heq' : bitsOf x.toNat n = P := by rw [heq]; simp [bitsOf]
      subst heq'
      have H : Hid (Wr wr gb vb (bitsOf x.toNat n) ∧ Wr wr ga va (bitsOf x.toNat n) ∧ w.grownBy wr none) := by
        refine ⟨hwb, ?_, ?_⟩
        · have := H3.out.1
          rw [List.nil_append] at this
          exact this.keptFw hfb (by have := H3.out.2.2.2.2.1; omega) (by simp [Value.ownBlock]) H3.out.2.2.2.2.2 (by
            cases hv : va.ownBlock with
            | none => exact .inl rfl
            | some q => right; simp [Value.ownBlock])
        · have hG := H3.out.2.2.1
          refine ⟨hfb.os.trans hG.os, hfb.tape.trans hG.tape, hfb.output.trans hG.output, Nat.le_trans hG.size hfb.size, fun q hq _ => ?_⟩
          have := H3.out.2.2.2.1
          have := H3.out.2.2.2.2.1
          exact (hfb.block q (Nat.lt_of_lt_of_le hq hG.size) (by omega) (by simp [Value.ownBlock])).trans (hG.block q hq (by simp))
      clear hwb heq hfb hPl H3
      have hbl : (bitsOf x.toNat n).length ≤ 8388608 := by rw [bitsOf_len]; omega
      go_wp2_with fail
      refine (wlen_any ga va _ _ H.out.2.1).mono ?_
      rintro e w5 ⟨rfl, rfl⟩
      go_wp2_with fail
      refine (wlen_any gb vb _ _ H.out.1).mono ?_
      rintro e w6 ⟨rfl, rfl⟩
      go_wp2_with fail
      refine (wbytes_any ga va _ _ H.out.2.1 hbl).mono ?_
      rintro e w7 ⟨v7, rfl, ho7, hg7⟩
      have H7 : Hid (Own w7 w6.heap.size v7 (pack (bitsOf x.toNat n)) ∧ Wr w7 gb vb (bitsOf x.toNat n) ∧ w.grownBy w7 none) := ⟨ho7, H.out.1.keep hg7, gb_none H.out.2.2 hg7⟩
      clear ho7 hg7 H
      go_wp2_with fail
      refine (wbytes_any gb vb _ _ H7.out.2.1 hbl).mono ?_
      rintro e w8 ⟨v8, rfl, ho8, hg8⟩
      have H8 : Hid (Own w8 w6.heap.size v7 (pack (bitsOf x.toNat n)) ∧ Own w8 w7.heap.size v8 (pack (bitsOf x.toNat n)) ∧ w.grownBy w8 none) := ⟨H7.out.1.keep hg8, ho8, gb_none H7.out.2.2 hg8⟩
      clear ho8 hg8 H7
      go_wp2_with fail
      refine (same_true v7 v8 _ _ _ _ H8.out.1 H8.out.2.1).mono ?_
      rintro e w9 ⟨rfl, rfl⟩
      go_wp2_with fail
      refine (awake_any _).mono ?_
      rintro e w10 ⟨rfl, hg10⟩
      have H10 : Hid (Below w.heap.size w w10) := gb_below (gb_none H8.out.2.2 hg10)
      clear hg10 H8
      go_wp2
      go_ret
      exact ⟨rfl, H10.out⟩

theorem pieces_walk (x : BitVec 64) (n : Int) (w : World) :
    Calls Try.prog 3 #[.int .u64 (I64 x), .int .i64 n] w fun e w' => e = .returned (.bool true) ∧ Below w.heap.size w w' := by
  by_cases h : n < 0 ∨ 64 < n ∨ (0 ≤ n ∧ n ≤ 64 ∧ ¬ x.toNat < 2 ^ n.toNat)
  · exact pieces_bad x n w h
  · obtain ⟨m, rfl⟩ := Int.eq_ofNat_of_zero_le (show 0 ≤ n by omega)
    rw [Int.toNat_natCast] at h
    refine pieces_ok x m w (by omega) ?_
    by_cases hx : x.toNat < 2 ^ m
    · exact hx
    · exact absurd (.inr (.inr ⟨by omega, by omega, hx⟩)) h

theorem pieces_contract (H : Type) (enc : TypeId × Value → H) (W : World) (base : Nat) (args : Array Value) (ds gs : List (DataW H)) (before : List MemPlace)
    (hval : ∀ (j : Nat) t v, Try.f3.params[j]? = some t → args[j]? = some v → Value.okWide Try.prog W .any base t v)
    (hW : DataW.Whole enc Try.prog Try.f3.params.toList Rows.bitsPiecesSpec.vars false W args.toList ds gs before) (hk : (DataW.weightsEach Try.prog (Try.f3.params.toList ++ (OpenSpec.ofChange Rows.bitsPiecesSpec).bare.plain.varTypes Try.prog) (ds ++ gs)).all (· ≤ reachBytes) = true) :
    Calls Try.prog 3 args W fun e W' => ∃ v, e = .returned v ∧ Rows.bitsPiecesSpec.post enc Try.prog Try.f3 false true false false W args v W' := by
  have hW' := hW
  obtain ⟨p, q, hA0, hV, rfl, hfz, hnd⟩ := hW
  have hA : DataW.TrodAll enc Try.prog W 0 (fun _ => true) true Try.f3.params.toList args.toList ds p := hA0
  rw [Try.params3] at hA hval hk
  obtain ⟨v0, vs0, d0, ds0, p0, q0, hargs, rfl, rfl, h0, r0⟩ := trodAll_cons hA
  obtain ⟨v1, vs1, d1, ds1, p1, q1, rfl, rfl, rfl, h1, r1⟩ := trodAll_cons r0
  obtain ⟨rfl, rfl, rfl⟩ := trodAll_nil r1
  obtain rfl : args = #[v0, v1] := by cases args; simp_all
  obtain ⟨rfl, rfl⟩ := trodVars_none hV
  obtain ⟨z0, rfl, rfl, rfl, wz0⟩ := open_int Try.underlying22 (hval 0 22 v0 rfl rfl) h0
  obtain ⟨s0, rfl⟩ := u64_of wz0
  obtain ⟨z1, rfl, rfl, rfl, wz1⟩ := open_int Try.underlying3 (hval 1 3 v1 rfl rfl) h1
  clear hA0
  refine (pieces_walk s0 z1 W).mono fun e W' ⟨he, bel⟩ => ?_
  subst he
  exact ⟨_, rfl, _, _, _, [], _, [], hW', trodAll_mk1 (shut_bool Try.underlying4 _), (trodAll_cons_mk (shut_int Try.underlying22 wz0) (trodAll_cons_mk (shut_int Try.underlying3 wz1) trodAll_mk0)), rfl, bel.frame _, fun h => by cases h⟩

theorem pieces_reads (os : Os) {H : Type} (enc : TypeId × Value → H) : ∃ places, DataW.whole enc Try.prog ((laidWorld os).forCall (fun _ _ => 0) ⟨#[], #[.int .u64 0, .int .i64 0], []⟩).memory Try.f3.params.toList Rows.bitsPiecesSpec.vars false #[Value.int .u64 0, Value.int .i64 0].toList 8 = some ([.lit (.int .u64 0), .lit (.int .i64 0)], [], places) :=
  ⟨[], by kernel_rfl⟩

set_option maxRecDepth 100000 in
theorem pieces_lifted (os : Os) (started : os.Started) (H : Type) (enc : TypeId × Value → H) (F : Stop.Interp) :
    ReturnsInHanded {} Try.checked os 3 .any ((OpenSpec.ofChange Rows.bitsPiecesSpec).preRow enc Try.prog Try.f3 Rows.bitsPiecesRow.domain false Rows.bitsPiecesRow.laid) (((OpenSpec.ofChange Rows.bitsPiecesSpec).at F).post enc Try.prog Try.f3 false true false false) := by
  obtain ⟨places, hx⟩ := pieces_reads os enc
  refine returnsInHanded_of_row (C := Try.checked) (s := (OpenSpec.ofChange Rows.bitsPiecesSpec)) own started (by kernel_rfl) Try.func3
    (witness_row_at (enc := enc) (C := Try.checked) false (laidWorld os) #[.int .u64 0, .int .i64 0] rfl (by kernel_rfl) (by kernel_rfl) (by kernel_rfl)
      (OpenSpec.preRow_of_cond 8 hx (by kernel_rfl) (fun k hk => by cases hk) (by kernel_rfl) (laidMet_of_run' 8 (by kernel_rfl) (by kernel_rfl)))) ?_
  intro W base args ds gs before hval hW _ _ hsz _ _ _
  exact pieces_contract H enc W base args ds gs before hval hW hsz

theorem pieces_said : Rows.BitsPiecesSaid :=
  OpenClaim.holds_of_cond 3 Try.f3 rfl rfl rfl rfl rfl rfl rfl ⟨rfl, rfl, rfl, rfl, rfl⟩ rfl rfl rfl rfl rfl (by kernel_rfl) Try.func3 (by kernel_rfl)
    (of_decide_eq_true (by kernel_rfl)) (by unfold Func.isWrapper; first | (rw [if_pos (by decide +kernel)]; kernel_rfl) | (rw [if_neg (by decide +kernel)]; exact ⟨rfl, rfl⟩))
    (fun os started H enc _ F => by rw [OpenClaim.pre_eq_preRow]; exact pieces_lifted os started H enc F)

/-- THE STATEMENT -/
theorem bitsPieces_holds : Rows.BitsPiecesSaid := pieces_said
end Go.Proofs.Ytimjlclkdfogfab
