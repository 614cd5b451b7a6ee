/-
  LexBack: what is joined is read as it was, what is read is joined and read again, a duration's text is the duration: the law's own walk.
-/
import Derived.Test.YtifjdfmmafbhkaaDoorLxBf
import Derived.Deep.CutRange
import Derived.Deep.DeepCutAuto
namespace Go.Proofs.YtifjdfmmafbhkaaDoor
open Go.RowKit

set_option maxRecDepth 8000 in
set_option maxHeartbeats 12800000 in
theorem lxBack_walk (w : World) (v : Value) (l : List Tok) (s : LxS) (n : Int) (hv : RdT w v l) (hv0 : NilZ v) (hn : l.length ≤ 2000000) (hl : ∀ t ∈ l, t.2.1.length ≤ 2000000) (hs : s.length ≤ 140737488351232) (hz : -9223372036854775808 ≤ n ∧ n ≤ 9223372036854775807) (hT : U8S w) (hU : UnT w) (hP : P10 w) :
    Calls Tryd.prog 4 #[v, .string (ByteArray.mk ⟨s⟩), .int .i64 n] w fun e w' => e = .returned (.bool true) ∧ Below w.heap.size w w' := by
  have HJ := hidJ (join_any w v l hv hn hl hT hU)
  have HT := hidJ hT
  have HU := hidJ hU
  have HP := hidJ hP
  have HV := hidJ hv
  have HV0 := hidJ hv0
  have HK : Hid (∀ W, w.grownBy W none → Calls Tryd.prog 10 #[] W fun e w' => e = .returned (.bool true) ∧ w.grownBy w' none) := fun W h => (known_any W (hT.keep h) (hU.keep h) (hP.keep h)).mono fun e w' ⟨h1, h2⟩ => ⟨h1, gb_none h h2⟩
  obtain ⟨va, vc, rfl, hvc, hvm, hvr⟩ := hv
  have hlen := fun W ty m => len_tokens W ty va m vc
  have HB := hidJ (back_join l)
  clear hT hU hP hv0 hl
  obtain ⟨N, hN⟩ : ∃ N, l.length = N := ⟨_, rfl⟩
  have HN := hidJ hN
  rw [hN] at hn hvc hvr HJ HV HV0 ⊢
  clear hN
  go_enter Tryd.func4, Tryd.ntmps4
  go_wp2_with fail
  refine HJ.out.mono ?_
  rintro e w1 ⟨rfl, hg1⟩
  have G1 := hidJ hg1
  clear hg1 HJ
  have hjw : joinW l = joinW l := rfl
  generalize hRR : joinW l = R at *
  obtain ⟨t, er⟩ := R
  dsimp only [joV] at *
  have HJW := hidJ hRR
  clear hRR hjw
  go_upto_if 27 with fail
  go_cut [6] from 7 (fun s wx => s = .bool false ∧ Hid (w.grownBy wx none))
  case first =>
    by_cases c1 : er = 0
    · subst c1
      obtain ⟨r, hr, hsb⟩ := HB.out t rfl
      obtain ⟨P, hp0, -, hp1, -, -, -⟩ := join_ok l t HJW.out
      have htl : t.length ≤ 65536 := by rw [hp0]; exact hp1
      have HTk := hidJ (tokens_any w1 t (by omega) (HT.out.keep G1.out) (HU.out.keep G1.out))
      rw [hr] at HTk
      have HBs := hidJ hsb
      clear hr hsb HB hp0 hp1 HJW
      go_wp2_with fail
      refine HTk.out.mono ?_
      rintro e w2 ⟨vm, rfl, ho2, hg2⟩
      obtain ⟨am, cm, em⟩ := ho2.shape
      subst em
      have G2 := hidJ (gb_none G1.out hg2)
      have HRm := hidJ ho2.rd
      have HV2 := hidJ (HV.out.keep G2.out)
      clear hg2 HTk ho2
      go_wp2_with (at_builtin; go_loud (refine wp_appTs rfl _ _ rfl w2.heap.size (.slice none 0 0) _ [] l rfl rfl (OwnT.nil _ _) HV2.out HV0.out ?c1 ?c2 ?_))
      case c1 => have := HN.out; simp only [List.length_nil]; omega
      case c2 => exact Nat.le_refl _
      intro v3 w3 ho3 hg3
      have HRm3 := hidJ (HRm.out.keep hg3)
      have HO3 := hidJ (show OwnT w3 w2.heap.size v3 l ∧ w.grownBy w3 none ∧ w2.grownBy w3 none from ⟨ho3, gb_none G2.out hg3, hg3⟩)
      clear ho3 hg3 HV2
      have hwd : wantW l = if l = [] ∨ (l.getD (l.length - 1) tkD).1 ≠ 0 then l ++ [((0 : Int), ([] : LxS), (0 : Int))] else l := rfl
      by_cases cN : N = 0
      · have hl0 : l = [] := List.eq_nil_of_length_eq_zero (HN.out.trans cN)
        have hwant : wantW l = l ++ [((0 : Int), ([] : LxS), (0 : Int))] := by rw [hwd, if_pos (Or.inl hl0)]
        clear hwd hl0
        subst cN
        have hk3 := hidJ (alloc_at w3 (.cells #[.int .i64 0, .string ⟨#[]⟩, .int .i64 0] 28))
        have hA3 := hidJ (World.grownBy_alloc w3 (.cells #[.int .i64 0, .string ⟨#[]⟩, .int .i64 0] 28) none)
        go_wp2_with (at_builtin; go_loud (refine wp_appT rfl _ _ rfl w2.heap.size v3 l (0, [], 0) w3.heap.size rfl rfl (HO3.out.1.keep hA3.out) hk3.out ?c3a ?c4a ?_))
        case c3a => have := HN.out; omega
        case c4a => have := HO3.out.2.2.size; have := hA3.out.size; omega
        intro v5 w5 ho5 hg5
        have HRm5 := hidJ (HRm.out.keep (gb_new (gb_none HO3.out.2.2 hA3.out) hg5 (fun k hk => (HO3.out.1.lt k hk).1)))
        have HW5 := hidJ (show OwnT w5 w2.heap.size v5 (wantW l) ∧ w.grownBy w5 none from ⟨by rw [hwant]; exact ho5, gb_new (gb_none HO3.out.2.1 hA3.out) hg5 (fun k hk => by have := (HO3.out.1.lt k hk).1; have := G2.out.size; omega)⟩)
        clear ho5 hg5 hwant
        obtain ⟨a5, c5, e5⟩ := HW5.out.1.shape
        subst e5
        have HS := hidJ (same_any w5 _ _ _ _ HRm5.out HW5.out.1.rd)
        rw [HBs.out] at HS
        go_wp2_with fail
        refine HS.out.mono ?_
        rintro e w6 ⟨rfl, hg6⟩
        have G6 := hidJ (gb_none HW5.out.2 hg6)
        clear hg6 HS
        go_wp2_with fail
        go_meet
        case rel => exact ⟨rfl, G6.out⟩
      · obtain ⟨m, hm⟩ : ∃ m, N = m + 1 := ⟨N - 1, by omega⟩
        obtain ⟨b, o, ea, x0, -, -⟩ := hvr m (by omega)
        cases ea
        have y0 := cell_keep HO3.out.2.1 x0
        have hNi : ¬ (N : Int) = 0 := by omega
        have hNj : ((N : Int) == 0) = false := by rw [beq_eq_false_iff_ne]; exact hNi
        have hmi : (N : Int) - 1 = (m : Int) := by omega
        have hmc : m < N := by omega
        have hmci : (m : Int) < (N : Int) := by omega
        have hlne : l ≠ [] := fun e => cN (by have := HN.out; rw [e] at this; exact this.symm)
        rw [HN.out, show N - 1 = m by omega] at hwd
        clear hm cN x0 hvr
        generalize l.getD m tkD = tm at *
        obtain ⟨K, tx, pp⟩ := tm
        dsimp only at *
        by_cases cK : K = 0
        · subst cK
          have hwant : wantW l = l := by rw [hwd, if_neg (fun e => e.elim hlne (fun e => e rfl))]
          clear hwd hlne
          obtain ⟨w5, hw5⟩ : ∃ x, x = w3 := ⟨_, rfl⟩
          have HRm5 := HRm3
          have HW5 := hidJ (show OwnT w3 w2.heap.size v3 (wantW l) ∧ w.grownBy w3 none from ⟨by rw [hwant]; exact HO3.out.1, HO3.out.2.1⟩)
          subst hw5
          clear hwant
          obtain ⟨a5, c5, e5⟩ := HW5.out.1.shape
          subst e5
          have HS := hidJ (same_any w5 _ _ _ _ HRm5.out HW5.out.1.rd)
          rw [HBs.out] at HS
          go_wp2_with fail
          refine HS.out.mono ?_
          rintro e w6 ⟨rfl, hg6⟩
          have G6 := hidJ (gb_none HW5.out.2 hg6)
          clear hg6 HS
          go_wp2_with fail
          go_meet
          case rel => exact ⟨rfl, G6.out⟩
        · have hK : (K == 0) = false := by rw [beq_eq_false_iff_ne]; exact cK
          have hwant : wantW l = l ++ [((0 : Int), ([] : LxS), (0 : Int))] := by rw [hwd, if_pos (Or.inr cK)]
          clear hwd hlne
          have hk3 := hidJ (alloc_at w3 (.cells #[.int .i64 0, .string ⟨#[]⟩, .int .i64 0] 28))
          have hA3 := hidJ (World.grownBy_alloc w3 (.cells #[.int .i64 0, .string ⟨#[]⟩, .int .i64 0] 28) none)
          go_wp2_with (at_builtin; go_loud (refine wp_appT rfl _ _ rfl w2.heap.size v3 l (0, [], 0) w3.heap.size rfl rfl (HO3.out.1.keep hA3.out) hk3.out ?c3c ?c4c ?_))
          case c3c => have := HN.out; omega
          case c4c => have := HO3.out.2.2.size; have := hA3.out.size; omega
          intro v5 w5 ho5 hg5
          have HRm5 := hidJ (HRm.out.keep (gb_new (gb_none HO3.out.2.2 hA3.out) hg5 (fun k hk => (HO3.out.1.lt k hk).1)))
          have HW5 := hidJ (show OwnT w5 w2.heap.size v5 (wantW l) ∧ w.grownBy w5 none from ⟨by rw [hwant]; exact ho5, gb_new (gb_none HO3.out.2.1 hA3.out) hg5 (fun k hk => by have := (HO3.out.1.lt k hk).1; have := G2.out.size; omega)⟩)
          clear ho5 hg5 hwant
          obtain ⟨a5, c5, e5⟩ := HW5.out.1.shape
          subst e5
          have HS := hidJ (same_any w5 _ _ _ _ HRm5.out HW5.out.1.rd)
          rw [HBs.out] at HS
          go_wp2_with fail
          refine HS.out.mono ?_
          rintro e w6 ⟨rfl, hg6⟩
          have G6 := hidJ (gb_none HW5.out.2 hg6)
          clear hg6 HS
          go_wp2_with fail
          go_meet
          case rel => exact ⟨rfl, G6.out⟩
    · have hne2 : (er == 0) = false := by rw [beq_eq_false_iff_ne]; exact c1
      go_wp2_with fail
      go_meet
      case rel => exact ⟨rfl, G1.out⟩
  case rest =>
    obtain ⟨rfl, hc⟩ := hcut
    have GC := hc
    have HCs := hidJ (tokW_cases s)
    have HTs := hidJ (tokens_any wc s hs (HT.out.keep GC.out) (HU.out.keep GC.out))
    have HBt := hidJ (back_toks2 s)
    have HW0 := hidJ (show ∀ W, wc.grownBy W none → w.grownBy W none from fun W h => gb_none GC.out h)
    clear HJW HB hc G1 hvr HN HV HV0
    generalize hT2 : tokW s = T at *
    obtain ⟨r, er2, ar⟩ := T
    dsimp only at *
    go_wp2_with fail
    refine HTs.out.mono ?_
    rintro e w2 ⟨vm, rfl, ho2, hg2⟩
    obtain ⟨am, cm, em⟩ := ho2.shape
    subst em
    have G2 := hidJ (gb_none GC.out hg2)
    have HRm := hidJ ho2.rd
    clear hg2 HTs ho2 HW0
    go_upto_if 69 with fail
    go_cut [6] from 7 (fun s wx => s = .bool false ∧ Hid (w.grownBy wx none))
    case first =>
      by_cases c1 : er2 = 0
      · subst c1
        have har : ar = 0 := by
          rcases HCs.out with h | ⟨-, h, -⟩
          · exact congrArg (·.2) h
          · omega
        subst har
        obtain ⟨hj, htx, hrl, hwr⟩ := HBt.out r rfl
        have HJ2 := hidJ (join_any w2 _ r HRm.out (by omega) (fun t ht => by have := htx t ht; omega) (HT.out.keep G2.out) (HU.out.keep G2.out))
        have HB2 := hidJ (back_join r)
        have HJo := hidJ (join_ok r)
        rw [hwr] at HB2
        clear HBt HCs hT2 htx hwr
        generalize joinW r = R2 at *
        obtain ⟨t2, e2⟩ := R2
        dsimp only [joV] at *
        go_wp2_with fail
        refine HJ2.out.mono ?_
        rintro e w3 ⟨rfl, hg3⟩
        have G3 := hidJ (gb_none G2.out hg3)
        have HRm3 := hidJ (HRm.out.keep hg3)
        clear hg3 HJ2 HRm
        rcases hj with rfl | rfl
        · obtain ⟨r2, hr2, hsb⟩ := HB2.out t2 rfl
          obtain ⟨P, hp0, -, hp1, -, -, -⟩ := HJo.out t2 rfl
          have htl : t2.length ≤ 65536 := by rw [hp0]; exact hp1
          have HTk := hidJ (tokens_any w3 t2 (by omega) (HT.out.keep G3.out) (HU.out.keep G3.out))
          rw [hr2] at HTk
          have HBs := hidJ hsb
          clear hr2 hsb HB2 HJo hp0 hp1
          go_wp2_with fail
          refine HTk.out.mono ?_
          rintro e w5 ⟨vo, rfl, ho5, hg5⟩
          obtain ⟨ao, co, eo⟩ := ho5.shape
          subst eo
          have G5 := hidJ (gb_none G3.out hg5)
          have HS := hidJ (same_any w5 _ _ _ _ ho5.rd (HRm3.out.keep hg5))
          rw [HBs.out] at HS
          clear hg5 HTk ho5
          go_wp2_with fail
          refine HS.out.mono ?_
          rintro e w6 ⟨rfl, hg6⟩
          have G6 := hidJ (gb_none G5.out hg6)
          clear hg6 HS
          go_wp2_with fail
          go_meet
          case rel => exact ⟨rfl, G6.out⟩
        · clear HB2 HJo
          go_wp2_with fail
          go_meet
          case rel => exact ⟨rfl, G3.out⟩
      · have hne2 : (er2 == 0) = false := by rw [beq_eq_false_iff_ne]; exact c1
        clear HBt HCs hT2
        go_wp2_with fail
        go_meet
        case rel => exact ⟨rfl, G2.out⟩
    case rest =>
      obtain ⟨rfl, hc⟩ := hcut
      clear HBt HCs hT2 HRm
      have HSt := hidJ (spanText_any wc n (HU.out.keep hc.out) (HP.out.keep hc.out))
      by_cases cn : 0 ≤ n ∧ n ≤ 1099511627776
      · obtain ⟨hs2, hsp⟩ := span_back n cn.1 cn.2
        have hlen3 := spT_len n
        generalize spT n = Q at *
        obtain ⟨u, eu⟩ := Q
        dsimp only at *
        subst hs2
        have HSp := hidJ (fun W h1 h2 => span_any W u (by omega) h1 h2)
        rw [hsp] at HSp
        clear hsp
        go_wp2_with fail
        refine HSt.out.mono ?_
        rintro e w7 ⟨rfl, hg7⟩
        have G7 := hidJ (gb_none hc.out hg7)
        clear hg7 HSt
        go_wp2_with fail
        refine (HSp.out _ (HT.out.keep G7.out) (HU.out.keep G7.out)).mono ?_
        rintro e w8 ⟨rfl, hg8⟩
        have G8 := hidJ (gb_none G7.out hg8)
        clear hg8 HSp
        go_wp2_with (first | (go_at_call 10; refine (HK.out _ G8.out).mono ?_; rintro e w2 ⟨rfl, hg2⟩; have H2 := hidJ hg2; clear hg2))
        go_ret
        exact ⟨rfl, gb_below H2.out⟩
      · have hsp : spT n = ([], 1) := by unfold spT; rw [if_pos (by omega)]
        rw [hsp] at HSt
        go_wp2_with fail
        refine HSt.out.mono ?_
        rintro e w7 ⟨rfl, hg7⟩
        have G7 := hidJ (gb_none hc.out hg7)
        clear hg7 HSt hsp
        have key : n < 0 ∨ (¬ n < 0 ∧ 1099511627776 < n) := by omega
        rcases key with k1 | ⟨k1, k2⟩
        · go_wp2_with (first | (go_at_call 10; refine (HK.out _ G7.out).mono ?_; rintro e w2 ⟨rfl, hg2⟩; have H2 := hidJ hg2; clear hg2))
          go_ret
          exact ⟨rfl, gb_below H2.out⟩
        · go_wp2_with (first | (go_at_call 10; refine (HK.out _ G7.out).mono ?_; rintro e w2 ⟨rfl, hg2⟩; have H2 := hidJ hg2; clear hg2))
          go_ret
          exact ⟨rfl, gb_below H2.out⟩
end Go.Proofs.YtifjdfmmafbhkaaDoor
