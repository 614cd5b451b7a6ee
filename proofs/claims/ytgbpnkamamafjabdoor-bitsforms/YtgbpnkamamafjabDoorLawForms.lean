/-
  BitsForms is true for every input: a number's form is never longer than that of one further from 0, and what is read is written with the same bits.
-/
import Derived.Test.YtgbpnkamamafjabDoorLiftB
import Derived.Test.YtgbpnkamamafjabDoorBitsN2
import Derived.Test.YtgbpnkamamafjabDoorBitsE7
import Derived.Deep.CutRange
namespace Go.Proofs.YtgbpnkamamafjabDoor
open Go.ChangeShapes Go.WideShapes Go.ChangeAt Go.RowKit

theorem Wr.keptFw {w w' : World} {g g2 : Nat} {v v2 v2' : Value} {bs : List Bool} (h : Wr w g v bs) (hf : Fw w w' g2 v2 v2') (h1 : g ≠ g2) (h2 : v2.ownBlock ≠ some g) (h3 : v.ownBlock ≠ some g2) (h4 : v.ownBlock = none ∨ v.ownBlock ≠ v2.ownBlock) : Wr w' g v bs := by
  refine ⟨?_, ?_⟩
  · rw [hf.block g h.cells.2.2.2.2 h1 (fun e => h2 e.symm)]
    exact h.1
  · cases hv : v.ownBlock with
    | none =>
      rcases h.2.2 with ⟨rfl, hn⟩ | ⟨gb, cap, cur, rfl, r⟩
      · exact ⟨h.2.1, .inl ⟨rfl, hn⟩⟩
      · simp [Value.ownBlock] at hv
    | some k =>
      rcases h.2.2 with ⟨rfl, hn⟩ | ⟨gb, cap, cur, rfl, hb, hh, r⟩
      · simp [Value.ownBlock] at hv
      · simp only [Value.ownBlock, Option.some.injEq] at hv
        subst hv
        refine ⟨h.2.1, .inr ⟨gb, cap, cur, rfl, hb, ?_, r⟩⟩
        rw [hf.block gb (Array.getElem?_eq_some_iff.1 hh).1 (by intro e; exact h3 (by simp [Value.ownBlock, e])) (by rcases h4 with h4 | h4 <;> simp [Value.ownBlock] at h4 ⊢; exact h4)]
        exact hh
theorem form_le (n : Int) (x : BitVec 64) : (form n x).length ≤ 72 := by
  rw [form_len]
  have := hb_le (rowN n)
  have := wd_le (rowN n)
  omega

theorem newReader_un (v : Value) (l : List UInt8) (n : Nat) (wr : World) (hv : Rd wr v l) : Calls Tryd.prog 15 #[v, .int .i64 (n : Int)] wr fun e w' => ∃ q : Option Addr, e = .returned (.pointer q) ∧ wr.grownBy w' none := by
  by_cases h : n ≤ 8388608 ∧ (n + 7) / 8 ≤ l.length
  · exact (newReader_ok wr v l n wr hv (gb_refl _ _) h.1 h.2).mono fun e w' ⟨g, he, _, hg, _⟩ => ⟨_, he, hg⟩
  · exact (newReader_nil v l n wr hv (by omega)).mono fun e w' ⟨he, hw⟩ => ⟨_, he, by subst hw; exact gb_refl _ _⟩
theorem gb_of_fw {w w1 w2 : World} {g : Nat} {v' : Value} (h1 : w.grownBy w1 none) (h2 : Fw w1 w2 g (.slice none 0 0) v') (hg : w.heap.size ≤ g) : w.grownBy w2 none := Fw.newN h1 h2 hg (fun k hk => by simp [Value.ownBlock] at hk)

set_option maxRecDepth 8000 in
set_option maxHeartbeats 12800000 in
theorem forms_walk (n m : Int) (x y : BitVec 64) (v : Value) (l : List UInt8) (w : World) (hv : Rd w v l) (hT : TabW w) (hx : IntKind.u64.wrap n = I64 x) (hy : IntKind.u64.wrap m = I64 y) (hl : l.length ≤ 140737488351232) :
    Calls Tryd.prog 6 #[.int .i64 n, .int .i64 m, v] w fun e w' => e = .returned (.bool true) ∧ Below w.heap.size w w' := by
  have HV : Hid (Rd w v l) := hv
  have HT : Hid (TabW w) := hT
  have HX : Hid (IntKind.u64.wrap n = I64 x) := hx
  have HY : Hid (IntKind.u64.wrap m = I64 y) := hy
  have HLT : Hid (0 < w.heap.size) := block_lt (hT 0 (by omega))
  have HFL : Hid ((form n x).length ≤ 72 ∧ (form m y).length ≤ 72) := ⟨form_le n x, form_le m y⟩
  have HMO : Hid (((0 ≤ n ∧ n ≤ m) ∨ (m ≤ n ∧ n ≤ 0)) → ¬ ((form m y).length : Int) < ((form n x).length : Int)) := fun h => by have := form_mono x y h; omega
  have HLL : Hid (l.length ≤ 140737488351232) := hl
  obtain ⟨a, c, hvv, -, -, -, -⟩ := hv
  subst hvv
  have hl2 : (l.length : Int) ≤ 140737488351232 := by omega
  clear hT hx hy hl
  go_enter Tryd.func6, Tryd.ntmps6
  go_wp2_with fail
  refine (newWriter_any _).mono ?_
  rintro e w1 ⟨ga, rfl, hw1, hg1, hgg1⟩
  have H1 : Hid (Wr w1 ga (.slice none 0 0) [] ∧ w.grownBy w1 none ∧ w.heap.size ≤ ga) := ⟨hw1, hg1, hgg1⟩
  clear hw1 hg1 hgg1
  go_wp2_with fail
  refine (newWriter_any _).mono ?_
  rintro e w2 ⟨gb, rfl, hw2, hg2, hgg2⟩
  have H2 : Hid (Wr w2 ga (.slice none 0 0) [] ∧ Wr w2 gb (.slice none 0 0) [] ∧ w.grownBy w2 none ∧ w.heap.size ≤ ga ∧ ga < gb) :=
    ⟨H1.out.1.keep hg2, hw2, gb_none H1.out.2.1 hg2, H1.out.2.2, by have := H1.out.1.cells.2.2.2.2; show ga < gb; omega⟩
  clear hw2 hg2 hgg2 H1
  go_wp2_with fail
  refine (wint_ok ga _ [] n x _ H2.out.1 (HT.out.keep H2.out.2.2.1) HX.out (by have := HLT.out; have := H2.out.2.2.2.1; omega) (by simp [Value.ownBlock]) (by have := HFL.out.1; simp; omega)).mono ?_
  rintro e w3 ⟨rfl, va, hw3, hf3⟩
  have H3 : Hid (Wr w3 ga va (form n x) ∧ Wr w3 gb (.slice none 0 0) [] ∧ w.grownBy w3 none ∧ w.heap.size ≤ ga ∧ ga < gb ∧ va.ownBlock ≠ some gb) := by
    have h2 := H2.out.2.1.cells.2.2.2.2
    refine ⟨hw3, H2.out.2.1.keptFw hf3 (by have := H2.out.2.2.2.2; omega) (by simp [Value.ownBlock]) (by simp [Value.ownBlock]) (.inl rfl), gb_of_fw H2.out.2.2.1 hf3 H2.out.2.2.2.1, H2.out.2.2.2.1, H2.out.2.2.2.2, ?_⟩
    intro e
    rcases hf3.own gb e with h | h
    · simp [Value.ownBlock] at h
    · omega
  clear hw3 hf3 H2
  go_wp2_with fail
  refine (wint_ok gb _ [] m y _ H3.out.2.1 (HT.out.keep H3.out.2.2.1) HY.out (by have := HLT.out; have := H3.out.2.2.2.1; have := H3.out.2.2.2.2.1; omega) (by simp [Value.ownBlock]) (by have := HFL.out.2; simp; omega)).mono ?_
  rintro e w4 ⟨rfl, vb, hw4, hf4⟩
  have H4 : Hid (Wr w4 ga va (form n x) ∧ Wr w4 gb vb (form m y) ∧ w.grownBy w4 none) := by
    refine ⟨H3.out.1.keptFw hf4 (by have := H3.out.2.2.2.2.1; omega) (by simp [Value.ownBlock]) H3.out.2.2.2.2.2 ?_, hw4, gb_of_fw H3.out.2.2.1 hf4 (by have := H3.out.2.2.2.1; have := H3.out.2.2.2.2.1; omega)⟩
    cases va.ownBlock with
    | none => exact .inl rfl
    | some k => exact .inr (by simp [Value.ownBlock])
  clear hw4 hf4 H3
  generalize form n x = F1 at *
  generalize form m y = F2 at *
  generalize hlf1 : (F1.length : Int) = D1 at *
  generalize hlf2 : (F2.length : Int) = D2 at *
  have HD : Hid ((F1.length : Int) = D1 ∧ (F2.length : Int) = D2) := ⟨hlf1, hlf2⟩
  clear hlf1 hlf2
  go_upto_region 4 with fail
  go_cut [65] from 16 (fun b wx => b = .bool false ∧ wx = w4)
  case first =>
    have HL1 : Hid (Calls Tryd.prog 10 #[.pointer (some ⟨ga, 0, none⟩)] w4 fun e w' => e = .returned (.int .i64 D1) ∧ w' = w4) := by
      have := wlen_any ga va F1 w4 H4.out.1
      rw [HD.out.1] at this
      exact this
    have HL2 : Hid (Calls Tryd.prog 10 #[.pointer (some ⟨gb, 0, none⟩)] w4 fun e w' => e = .returned (.int .i64 D2) ∧ w' = w4) := by
      have := wlen_any gb vb F2 w4 H4.out.2.1
      rw [HD.out.2] at this
      exact this
    by_cases c1 : 0 ≤ n
    · by_cases c2 : n ≤ m
      · have hlt := HMO.out (.inl ⟨c1, c2⟩)
        by_cases c3 : n ≤ 0
        · by_cases c4 : m ≤ n
          · go_wp2_with (first | (go_at_call_of 10 (Value.pointer (some ⟨gb, 0, none⟩)); refine HL2.out.mono ?_; rintro e w5 ⟨rfl, rfl⟩) | (go_at_call_of 10 (Value.pointer (some ⟨ga, 0, none⟩)); refine HL1.out.mono ?_; rintro e w5 ⟨rfl, rfl⟩))
            go_meet
            first | exact ⟨rfl, rfl⟩ | exact ⟨by rw [decide_eq_false (Int.not_lt.2 hlt)], rfl⟩
          · go_wp2_with (first | (go_at_call_of 10 (Value.pointer (some ⟨gb, 0, none⟩)); refine HL2.out.mono ?_; rintro e w5 ⟨rfl, rfl⟩) | (go_at_call_of 10 (Value.pointer (some ⟨ga, 0, none⟩)); refine HL1.out.mono ?_; rintro e w5 ⟨rfl, rfl⟩))
            go_meet
            first | exact ⟨rfl, rfl⟩ | exact ⟨by rw [decide_eq_false (Int.not_lt.2 hlt)], rfl⟩
        · go_wp2_with (first | (go_at_call_of 10 (Value.pointer (some ⟨gb, 0, none⟩)); refine HL2.out.mono ?_; rintro e w5 ⟨rfl, rfl⟩) | (go_at_call_of 10 (Value.pointer (some ⟨ga, 0, none⟩)); refine HL1.out.mono ?_; rintro e w5 ⟨rfl, rfl⟩))
          go_meet
          first | exact ⟨rfl, rfl⟩ | exact ⟨by rw [decide_eq_false (Int.not_lt.2 hlt)], rfl⟩
      · by_cases c3 : n ≤ 0
        · have hlt := HMO.out (.inr ⟨by omega, c3⟩)
          have c4 : m ≤ n := by omega
          go_wp2_with (first | (go_at_call_of 10 (Value.pointer (some ⟨gb, 0, none⟩)); refine HL2.out.mono ?_; rintro e w5 ⟨rfl, rfl⟩) | (go_at_call_of 10 (Value.pointer (some ⟨ga, 0, none⟩)); refine HL1.out.mono ?_; rintro e w5 ⟨rfl, rfl⟩))
          go_meet
          first | exact ⟨rfl, rfl⟩ | exact ⟨by rw [decide_eq_false (Int.not_lt.2 hlt)], rfl⟩
        · go_wp2_with fail
          go_meet
          first | exact ⟨rfl, rfl⟩ | exact ⟨by rw [decide_eq_false (Int.not_lt.2 hlt)], rfl⟩
    · have c3 : n ≤ 0 := by omega
      by_cases c4 : m ≤ n
      · have hlt := HMO.out (.inr ⟨c4, c3⟩)
        go_wp2_with (first | (go_at_call_of 10 (Value.pointer (some ⟨gb, 0, none⟩)); refine HL2.out.mono ?_; rintro e w5 ⟨rfl, rfl⟩) | (go_at_call_of 10 (Value.pointer (some ⟨ga, 0, none⟩)); refine HL1.out.mono ?_; rintro e w5 ⟨rfl, rfl⟩))
        go_meet
        first | exact ⟨rfl, rfl⟩ | exact ⟨by rw [decide_eq_false (Int.not_lt.2 hlt)], rfl⟩
      · go_wp2_with fail
        go_meet
        first | exact ⟨rfl, rfl⟩ | exact ⟨by rw [decide_eq_false (Int.not_lt.2 hlt)], rfl⟩
  case rest =>
  obtain ⟨rfl, rfl⟩ := hcut
  have H5 : Hid (w.grownBy wc none) := H4.out.2.2
  clear H4 HMO HFL HD HX HY
  by_cases hbig : (1000 : Int) < (l.length : Int)
  · have h8 : Hid ((8 : Int) * (l.length : Int) = ((8 * l.length : Nat) : Int)) := by show (8 : Int) * (l.length : Int) = ((8 * l.length : Nat) : Int); omega
    go_wp2_with fail
    rw [h8.out]
    refine (newReader_un _ l _ _ (HV.out.keep H5.out)).mono ?_
    rintro e w5 ⟨q, rfl, hg5⟩
    have H6 : Hid (w.grownBy w5 none) := gb_none H5.out hg5
    clear hg5
    go_wp2_with fail
    refine (awake_any _).mono ?_
    rintro e w6 ⟨rfl, hg6⟩
    have H7 : Hid (Below w.heap.size w w6) := gb_below (gb_none H6.out hg6)
    clear hg6
    go_wp2
    go_ret
    exact ⟨rfl, H7.out⟩
  · have h8 : Hid ((8 : Int) * (l.length : Int) = ((8 * l.length : Nat) : Int)) := by show (8 : Int) * (l.length : Int) = ((8 * l.length : Nat) : Int); omega
    have HS : Hid (8 * l.length ≤ 8000 ∧ (8 * l.length + 7) / 8 = l.length) := ⟨by omega, by omega⟩
    go_wp2_with fail
    rw [h8.out]
    refine (newReader_ok w _ l (8 * l.length) _ (HV.out.keep H5.out) H5.out (by have := HS.out.1; omega) (by rw [HS.out.2]; omega)).mono ?_
    rintro e w5 ⟨gr, rfl, hr5, hg5, -⟩
    rw [HS.out.2, List.take_length] at hr5
    have H6 : Hid (RN w w5 gr l 0 (8 * l.length)) := hr5
    clear hg5 hr5
    go_wp2_with fail
    refine (rintN w _ gr 0 (8 * l.length) l H6.out HT.out).mono ?_
    rintro e w6 ⟨he, hr6, hg6⟩
    have H7 : Hid (RN w w6 gr l (riS l 0 (8 * l.length)).2.2 (8 * l.length)) := hr6
    clear hr6 hg6 H6
    generalize hri : riS l 0 (8 * l.length) = RI at *
    have HRI : Hid (riS l 0 (8 * l.length) = RI) := hri
    clear hri
    obtain ⟨k, code, q⟩ := RI
    simp only at he H7
    subst he
    by_cases hcode : code = 0
    · subst hcode
      obtain ⟨z, HZ⟩ : ∃ z, IntKind.u64.wrap k = I64 z := ⟨_, wrap_u64 k⟩
      have HZZ : Hid (IntKind.u64.wrap k = I64 z) := HZ
      clear HZ
      have hq : Hid (q = (form k z).length ∧ q ≤ 8 * l.length) := by
        rcases ri_len HRI.out z with h | h
        · exact ⟨by omega, h.2⟩
        · omega
      have hkb : Hid (-9223372036854775808 ≤ k ∧ k ≤ 9223372036854775807) := ri_bd HRI.out
      have hfl : Hid ((form k z).length ≤ 72) := form_le k z
      clear HRI
      go_wp2_with fail
      refine (newN w6 _ (gb_refl _ _)).mono ?_
      rintro e w7 ⟨gx, rfl, hw7, -⟩
      have H8 : Hid (WN w6 w7 gx []) := hw7
      clear hw7
      go_wp2_with fail
      refine (wintN w6 _ gx [] k z H8.out (HT.out.keep H7.out.kept) HZZ.out (by simp)).mono ?_
      rintro e w8 ⟨he, hw8⟩
      have hic : iCode k z ([] : List Bool).length = 0 := if_neg (by have := hfl.out; simp; omega)
      have hin : iNew k z [] = form k z := if_neg (by have := hfl.out; simp; omega)
      rw [hic] at he
      subst he
      rw [hin] at hw8
      have H9 : Hid (WN w6 w8 gx (form k z) ∧ RN w w8 gr l q (8 * l.length)) := ⟨hw8, H7.out.keep hw8.2.1⟩
      clear hw8 H8 hic hin
      go_wp2_with fail
      refine (wlenN w6 _ gx _ H9.out.1).mono ?_
      rintro e w9 ⟨he, rfl⟩
      rw [← hq.out.1] at he
      subst he
      have hsub : Hid (((8 * l.length - q : Nat) : Int) = 8 * (l.length : Int) - (q : Int)) := by have := hq.out.2; show ((8 * l.length - q : Nat) : Int) = 8 * (l.length : Int) - (q : Int); omega
      go_wp2_with fail
      refine (leftN w _ gr q (8 * l.length) l H9.out.2).mono ?_
      rintro e w10 ⟨he, hg10⟩
      rw [hsub.out] at he
      subst he
      have H10 : Hid (WN w6 w10 gx (form k z) ∧ w.grownBy w10 none) := ⟨H9.out.1.keep hg10, gb_none H9.out.2.kept hg10⟩
      clear hg10 H9 H7
      have hq2 : (q : Int) ≤ 8 * (l.length : Int) := by have := hq.out.2; omega
      have hfin : 8 * (l.length : Int) - (8 * (l.length : Int) - (q : Int)) = (q : Int) := by omega
      go_wp2_with fail
      refine (wbytesN w6 _ gx _ H10.out.1 (by have := hfl.out; omega)).mono ?_
      rintro e w11 ⟨v11, rfl, ho11, hg11⟩
      have H11 : Hid (WN w6 w11 gx (form k z) ∧ w.grownBy w11 none ∧ Rd w11 v11 (pack (form k z))) := ⟨H10.out.1.keep hg11, gb_none H10.out.2 hg11, ho11.rd⟩
      clear ho11 hg11 H10
      go_wp2_with fail
      refine (wlenN w6 _ gx _ H11.out.1).mono ?_
      rintro e w12 ⟨rfl, rfl⟩
      go_wp2_with fail
      refine (newReader_ok w _ (pack (form k z)) (form k z).length _ H11.out.2.2 H11.out.2.1 (by have := hfl.out; omega) (by rw [pack_len]; omega)).mono ?_
      rintro e w13 ⟨g2, rfl, hr13, hg13, -⟩
      have htk : (pack (form k z)).take (((form k z).length + 7) / 8) = pack (form k z) := List.take_of_length_le (by rw [pack_len]; omega)
      rw [htk] at hr13
      have H13 : Hid (RN w w13 g2 (pack (form k z)) 0 (form k z).length) := hr13
      clear hr13 hg13 htk H11
      go_wp2_with fail
      refine (rintN w _ g2 0 (form k z).length (pack (form k z)) H13.out HT.out).mono ?_
      rintro e w14 ⟨he, hr14, hg14⟩
      have hback : riS (pack (form k z)) 0 (form k z).length = (k, 0, 0 + (form k z).length) := ri_at HZZ.out hkb.out.1 hkb.out.2 (At.pack (bs := form k z) (a := []) (b := form k z) (c := []) (by simp))
      rw [hback] at he hr14
      subst he
      have H14 : Hid (w.grownBy w14 none) := hr14.kept
      clear hr14 hg14 hback
      go_wp2_with fail
      refine (awake_any _).mono ?_
      rintro e w15 ⟨rfl, hg15⟩
      have H15 : Hid (Below w.heap.size w w15) := gb_below (gb_none H14.out hg15)
      clear hg15
      go_wp2
      go_ret
      exact ⟨rfl, H15.out⟩
    · have hq : Hid (((8 * l.length - q : Nat) : Int) = 8 * (l.length : Int)) := by
        have := ri_err (L := l) (p := 0) (s := 8 * l.length) (by rw [HRI.out]; exact hcode)
        rw [HRI.out] at this
        simp only at this
        subst this
        show ((8 * l.length - 0 : Nat) : Int) = 8 * (l.length : Int)
        omega
      have hcb : (code == 0) = false := by simpa using hcode
      have hcb2 : (code != 0) = true := by simpa using hcode
      clear HRI
      go_wp2_with fail
      refine (leftN w _ gr q (8 * l.length) l H7.out).mono ?_
      rintro e w7 ⟨he, hg7⟩
      rw [hq.out] at he
      subst he
      have H8 : Hid (w.grownBy w7 none) := gb_none H7.out.kept hg7
      clear hg7
      go_wp2_with fail
      refine (awake_any _).mono ?_
      rintro e w8 ⟨rfl, hg8⟩
      have H9 : Hid (Below w.heap.size w w8) := gb_below (gb_none H8.out hg8)
      clear hg8
      go_wp2
      go_ret
      exact ⟨rfl, H9.out⟩

theorem forms_contract (H : Type) (enc : TypeId × Value → H) (W : World) (base : Nat) (args : Array Value) (ds gs : List (DataW H)) (before : List MemPlace)
    (hval : ∀ (j : Nat) t v, Tryd.f6.params[j]? = some t → args[j]? = some v → Value.okWide Tryd.prog W .any base t v)
    (hW : DataW.Whole enc Tryd.prog Tryd.f6.params.toList Rows.bitsFormsSpec.vars false W args.toList ds gs before) (hL : laidMetH Tryd.prog Rows.bitsFormsRow.laid W) (hk : (DataW.weightsEach Tryd.prog (Tryd.f6.params.toList ++ (OpenSpec.ofChange Rows.bitsFormsSpec).bare.plain.varTypes Tryd.prog) (ds ++ gs)).all (· ≤ reachBytes) = true) :
    Calls Tryd.prog 6 args W fun e W' => ∃ v, e = .returned v ∧ Rows.bitsFormsSpec.post enc Tryd.prog Tryd.f6 false true false false W args v W' := by
  have hW' := hW
  obtain ⟨p, q, hA0, hV, rfl, hfz, hnd⟩ := hW
  have hA : DataW.TrodAll enc Tryd.prog W 0 (fun _ => true) true Tryd.f6.params.toList args.toList ds p := hA0
  rw [Tryd.params6] at hA hval hk
  obtain ⟨v0, vs0, d0, ds0, p0, q0, hargs, rfl, rfl, h0, r0⟩ := trodAll_cons hA
  obtain ⟨v1, vs1, d1, ds1, p1, q1, rfl, rfl, rfl, h1, r1⟩ := trodAll_cons r0
  obtain ⟨v2, vs2, d2, ds2, p2, q2, rfl, rfl, rfl, h2, r2⟩ := trodAll_cons r1
  obtain ⟨rfl, rfl, rfl⟩ := trodAll_nil r2
  obtain rfl : args = #[v0, v1, v2] := by cases args; simp_all
  obtain ⟨rfl, rfl⟩ := trodVars_none hV
  obtain ⟨z0, rfl, rfl, rfl, wz0⟩ := open_int Tryd.underlying2 (hval 0 2 v0 rfl rfl) h0
  obtain ⟨z1, rfl, rfl, rfl, wz1⟩ := open_int Tryd.underlying2 (hval 1 2 v1 rfl rfl) h1
  obtain ⟨l2, rd2, b2, n2, nl2, nd2⟩ := open_bytes (hval 2 34 v2 rfl rfl) h2
  clear hA0
  have hT := tabw_of hL
  have hz2 := sz_bytes hk 2 rfl rfl nl2 nd2
  refine (forms_walk z0 z1 (BitVec.ofInt 64 z0) (BitVec.ofInt 64 z1) v2 l2 W rd2 hT (wrap_u64 z0) (wrap_u64 z1) hz2).mono fun e W' ⟨he, bel⟩ => ?_
  subst he
  exact ⟨_, rfl, _, _, _, [], _, [], hW', trodAll_mk1 (shut_bool Tryd.underlying4 _), (trodAll_cons_mk (shut_int Tryd.underlying2 wz0) (trodAll_cons_mk (shut_int Tryd.underlying2 wz1) (trodAll_cons_mk (back_bytes h2 bel) trodAll_mk0))), rfl, bel.frame _, fun h => by cases h⟩

theorem forms_met (os : Os) : laidMet Tryd.prog Rows.bitsFormsRow.laid ((laidWorld os).forCall (fun _ _ => 0) ⟨#[], #[.int .i64 0, .int .i64 0, .slice none 0 0], []⟩).memory :=
  laidMet_of_run' 8 (by kernel_rfl) (by kernel_rfl)
theorem forms_reads (os : Os) {H : Type} (enc : TypeId × Value → H) : ∃ places, DataW.whole enc Tryd.prog ((laidWorld os).forCall (fun _ _ => 0) ⟨#[], #[.int .i64 0, .int .i64 0, .slice none 0 0], []⟩).memory Tryd.f6.params.toList Rows.bitsFormsSpec.vars false #[Value.int .i64 0, Value.int .i64 0, Value.slice none 0 0].toList 8 = some ([.lit (.int .i64 0), .lit (.int .i64 0), .nil], [], places) :=
  ⟨[], by kernel_rfl⟩

set_option maxRecDepth 100000 in
theorem forms_lifted (os : Os) (started : os.Started) (H : Type) (enc : TypeId × Value → H) (F : Stop.Interp) :
    ReturnsInHanded {} Tryd.checked os 6 .any ((OpenSpec.ofChange Rows.bitsFormsSpec).preRow enc Tryd.prog Tryd.f6 Rows.bitsFormsRow.domain false Rows.bitsFormsRow.laid) (((OpenSpec.ofChange Rows.bitsFormsSpec).at F).post enc Tryd.prog Tryd.f6 false true false false) := by
  obtain ⟨places, hx⟩ := forms_reads os enc
  refine returnsInHanded_of_row (C := Tryd.checked) (s := (OpenSpec.ofChange Rows.bitsFormsSpec)) own started (by kernel_rfl) Tryd.func6
    (witness_row_at (enc := enc) (C := Tryd.checked) false (laidWorld os) #[.int .i64 0, .int .i64 0, .slice none 0 0] rfl (by kernel_rfl) (by kernel_rfl) (by kernel_rfl)
      (OpenSpec.preRow_of_cond 8 hx (by kernel_rfl) (fun k hk => by cases hk) (by kernel_rfl) (forms_met os))) ?_
  intro W base args ds gs before hval hW _ _ hsz hL _ _
  exact forms_contract H enc W base args ds gs before hval hW hL hsz

theorem forms_said : Rows.BitsFormsSaid :=
  OpenClaim.holds_of_cond 6 Tryd.f6 rfl rfl rfl rfl rfl rfl rfl ⟨rfl, rfl, rfl, rfl, rfl⟩ rfl rfl rfl rfl rfl (by kernel_rfl) Tryd.func6 (by kernel_rfl)
    (of_decide_eq_true (by kernel_rfl)) (by unfold Func.isWrapper; first | (rw [if_pos (by decide +kernel)]; kernel_rfl) | (rw [if_neg (by decide +kernel)]; exact ⟨rfl, rfl⟩))
    (fun os started H enc _ F => by rw [OpenClaim.pre_eq_preRow]; exact forms_lifted os started H enc F)

theorem forms_inuint8 : Tryd.prog.wantsStandIn 34 = false := by kernel_rfl
theorem forms_inint64 : Tryd.prog.wantsStandIn 2 = false := by kernel_rfl
theorem forms_plain (f : FuncId) (fn : Func) (hf : Tryd.pinned.checked.prog.funcNamed "tocsin/tocsinlaw02.BitsForms" = some f) (hfn : Tryd.pinned.checked.prog.funcs[f]? = some fn) :
    false = Tryd.pinned.checked.prog.looks [] ∧ ∀ (j : Nat) t, fn.params[j]? = some t → Tryd.pinned.checked.prog.wantsStandIn t = false := by
  obtain rfl : f = 6 := Option.some.inj ((show Tryd.prog.funcNamed "tocsin/tocsinlaw02.BitsForms" = some 6 by kernel_rfl).symm.trans hf) |>.symm
  obtain rfl : fn = Tryd.f6 := (Option.some.inj (Tryd.func6.symm.trans hfn)).symm
  refine ⟨by kernel_rfl, fun j t ht => ?_⟩
  rw [Tryd.params6] at ht
  have hm := Array.mem_of_getElem? ht
  simp only [List.mem_toArray, List.mem_cons, List.not_mem_nil, or_false] at hm
  rcases hm with rfl | rfl | rfl
  · exact forms_inint64
  · exact forms_inint64
  · exact forms_inuint8

/-- THE STATEMENT -/
theorem bitsForms_holds : Rows.BitsFormsCardSaid :=
  Claim7.holds_tied_plain_at .later [] _ _ _ _ forms_said (fun _ h => by cases h) (by kernel_rfl) (fun _ h => by cases h) bitsForms_row_tie rfl ⟨rfl, rfl⟩ (by kernel_rfl) rfl forms_plain (by kernel_rfl)
end Go.Proofs.YtgbpnkamamafjabDoor
