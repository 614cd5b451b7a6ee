/-
  LexBlanks: blanks and remarks between tokens change nothing but places: the law's own walk.
-/
import Derived.Test.YtifjdfmmafbhkaaDoorLxZd
import Derived.Deep.QuietTactic
namespace Go.Proofs.YtifjdfmmafbhkaaDoor
open Go.RowKit

set_option maxRecDepth 8000 in
set_option maxHeartbeats 12800000 in
theorem lxBlanks_walk (w : World) (v u : Value) (l : List Tok) (gs : List Int) (hv : RdT w v l) (hu : RdI w u gs) (hgz : ∀ z ∈ gs, -9223372036854775808 ≤ z ∧ z ≤ 9223372036854775807) (hn : l.length ≤ 2000000) (hl : ∀ t ∈ l, t.2.1.length ≤ 2000000) (hT : U8S w) (hU : UnT w) (hP : P10 w) :
    Calls Tryd.prog 6 #[v, u] w fun e w' => e = .returned (.bool true) ∧ Below w.heap.size w w' := by
  have HJ := hidJ (join_any w v l hv hn hl hT hU)
  have HT := hidJ hT
  have HU := hidJ hU
  have HK : Hid (∀ W, w.grownBy W none → Calls Tryd.prog 10 #[] W fun e w' => e = .returned (.bool true) ∧ w.grownBy w' none) := fun W h => (known_any W (hT.keep h) (hU.keep h) (hP.keep h)).mono fun e w' ⟨h1, h2⟩ => ⟨h1, gb_none h h2⟩
  have HJo := hidJ (join_ok l)
  have HUi := hidJ hu
  obtain ⟨ua, uc, rfl, hu1, hu2⟩ := hu
  clear hT hU hP hv hl hn
  generalize joinW l = R at *
  obtain ⟨t, er⟩ := R
  dsimp only [joV] at *
  by_cases c1 : er = 0
  · subst c1
    obtain ⟨P, ht, hok, hp1, hp2, -, -⟩ := HJo.out t rfl
    subst ht
    have hgw := gapW P hok hp1 hp2
    have HTk := hidJ (fun W h => tokens_any W (gapT P) (by omega) (HT.out.keep h) (HU.out.keep h))
    rw [hgw] at HTk
    obtain ⟨N, hNP⟩ : ∃ N, N = P.length + 1 := ⟨_, rfl⟩
    have hML : (gapK 0 P).length = N := by rw [hNP]; exact gapK_len P 0
    have hNs : N ≤ 4096 := by omega
    have hN1 : 1 ≤ N := by omega
    have HNP := hidJ hNP
    clear hNP
    have HOk := hidJ hok
    have HAt := hidJ (fun i hi => gapK_at P i 0 hi)
    clear hgw HJo hok
    go_enter Tryd.func6, Tryd.ntmps6
    go_wp2_with fail
    refine HJ.out.mono ?_
    rintro e w1 ⟨rfl, hg1⟩
    have G1 := hidJ hg1
    clear hg1 HJ
    go_wp2_with fail
    refine (HTk.out w1 G1.out).mono ?_
    rintro e w2 ⟨vm, rfl, ho, hg2⟩
    have G2 := hidJ (gb_none G1.out hg2)
    have HRd := hidJ ho.rd
    obtain ⟨g, cap, rfl, hbg, hgs, hcap, hcl⟩ := ho.form (by intro e; rw [e] at hML; simp only [List.length_nil] at hML; omega)
    clear hg2 G1 HTk ho hbg
    go_wp2_with fail
    have HMo := hidJ (MorB.new w2)
    have G3a := hidJ (gb_none G2.out (World.grownBy_alloc w2 (.cells #[.string ⟨#[32]⟩, .string ⟨#[10]⟩, .string ⟨#[9, 13, 32]⟩, .string ⟨#[32, 35, 32, 105, 116, 39, 115, 10]⟩, .string ⟨#[35, 10]⟩] 9) none))
    have HCl := hidJ (fun i hi => cell_keep (World.grownBy_alloc w2 (.cells #[.string ⟨#[32]⟩, .string ⟨#[10]⟩, .string ⟨#[9, 13, 32]⟩, .string ⟨#[32, 35, 32, 105, 116, 39, 115, 10]⟩, .string ⟨#[35, 10]⟩] 9) none) (hcl i hi).2.2)
    have HRd1 := hidJ (HRd.out.keep (World.grownBy_alloc w2 (.cells #[.string ⟨#[32]⟩, .string ⟨#[10]⟩, .string ⟨#[9, 13, 32]⟩, .string ⟨#[32, 35, 32, 105, 116, 39, 115, 10]⟩, .string ⟨#[35, 10]⟩] 9) none))
    clear hcl HRd G2 hgs
    generalize w2.alloc (.cells #[.string ⟨#[32]⟩, .string ⟨#[10]⟩, .string ⟨#[9, 13, 32]⟩, .string ⟨#[32, 35, 32, 105, 116, 39, 115, 10]⟩, .string ⟨#[35, 10]⟩] 9) = W0 at *
    generalize w2.heap.size = mb at *
    rw [hML] at hcap HCl HRd1
    have hlen := fun W ty => len_tokens W ty (some ⟨g, 0, none⟩) N cap
    try rw [hML]
    have HEl := hidJ (addG_size (fun i => 32 :: morL (gapN gs i)) (fun i => morL_len _))
    have HEk := hidJ (addG_ok (fun i => 32 :: morL (gapN gs i)) (fun i => ⟨morL_blank _, _, rfl⟩) P 0 HOk.out)
    have HSt0 := hidJ (fun i hi => addG_step (fun i => 32 :: morL (gapN gs i)) P i hi)
    have HSm := hidJ (addG_same (fun i => 32 :: morL (gapN gs i)) P 0 0 0)
    have HGl := hidJ (gapT_mono P)
    have HP1 := hidJ hp1
    obtain ⟨LT, hLT⟩ : ∃ LT, (gapT P).length = LT := ⟨_, rfl⟩
    have hz : (ByteArray.mk ⟨gapT P⟩).size = LT := hLT
    have HLT := hidJ hLT
    generalize hE : (fun i => 32 :: morL (gapN gs i)) = E at *
    have HE := hidJ hE
    clear hE hML hLT hp1 hp2 HOk
    go_loopg [11, 12] (N + 1) (fun gk v11 v12 wr => ∃ i : Nat, v12 = .int .i64 (i : Int) ∧ N < i + 1 + gk ∧ i + 1 ≤ N ∧ Hid (W0.grownBy wr none ∧ Own wr W0.heap.size v11 (gapT (addG E 0 (P.take i)))))
    case atStart => exact ⟨0, rfl, by omega, by omega, gb_refl _ _, Own.nil _ _⟩
    case round =>
      obtain ⟨i, rfl, hg, hin, hr⟩ := hrel
      by_cases hlt : i + 1 < N
      · obtain ⟨k, rfl⟩ : ∃ k, gk = k + 1 := ⟨gk - 1, by omega⟩
        have hiP : i < P.length := by have := HNP.out; omega
        have hli : (i : Int) + 1 < (N : Int) := by omega
        have y0 := cell_keep hr.out.1 (HCl.out i (by omega))
        have y1 := cell_keep hr.out.1 (HCl.out (i + 1) (by omega))
        rw [HAt.out i (by omega)] at y0
        rw [HAt.out (i + 1) (by omega)] at y1
        rw [Nat.zero_add] at y0 y1
        have HSt := hidJ (HSt0.out i hiP)
        have hsub := gapT_sub P i hiP
        have hA : (gapT (P.take i)).length ≤ (gapT (P.take (i + 1))).length := by rw [gapT_step P i hiP, List.length_append]; omega
        have hB := HGl.out (i + 1)
        have hB2 := HP1.out
        have HLa0 := HEl.out (P.take i) 0
        have HLa1 := HGl.out i
        have HLp := gapT_step P i hiP
        have hLT := HLT.out
        have HLpc : ((P.getD i ([], [])).1 ++ (P.getD i ([], [])).2).length ≤ 65536 := by
          have := congrArg List.length HLp
          rw [List.length_append] at this
          omega
        rw [hLT] at hB
        have hTl : (P.take i).length ≤ 4096 := by rw [List.length_take]; omega
        have HO := hidJ hr.out.2
        have G3 := hidJ hr.out.1
        have HLa : Hid ((gapT (addG E 0 (P.take i))).length + ((P.getD i ([], [])).1 ++ (P.getD i ([], [])).2).length ≤ 1000000) := by
          show _ ≤ _
          omega
        have HLm := hidJ (morL_len (gapN gs i))
        clear HLa0 HLa1 HLp HLpc hr hTl hLT
        have hx : (ByteArray.mk ⟨gapT P⟩).extract (gapT (P.take i)).length (gapT (P.take (i + 1))).length = ByteArray.mk ⟨(P.getD i ([], [])).1 ++ (P.getD i ([], [])).2⟩ := by
          have e : (ByteArray.mk ⟨gapT P⟩).extract (gapT (P.take i)).length (gapT (P.take (i + 1))).length = ByteArray.mk ⟨(gapT P).extract (gapT (P.take i)).length (gapT (P.take (i + 1))).length⟩ := by
            rw [ext_mk, List.extract_eq_take_drop]
          rw [e, hsub]
        have hx := hidJ hx
        clear hsub
        generalize (gapT (P.take i)).length = A at *
        generalize (gapT (P.take (i + 1))).length = B at *
        have hsl : ∀ W, (Instr.slice 9 (.string (ByteArray.mk ⟨gapT P⟩)) (some (.int .i64 (A : Int))) (some (.int .i64 (B : Int))) none).run Tryd.prog W = .ok (.string (ByteArray.mk ⟨(P.getD i ([], [])).1 ++ (P.getD i ([], [])).2⟩)) W := fun W => by
          rw [run_slice_string W 9 (ByteArray.mk ⟨gapT P⟩) .i64 .i64 (A : Int) (B : Int) Tryd.underlying9 (by omega) (by omega) (by rw [hz]; omega), ← hx.out]
          rfl
        generalize (P.getD i ([], [])).1 ++ (P.getD i ([], [])).2 = pc at *
        generalize gapT (addG E 0 (P.take i)) = acc at *
        have g1 : ¬ (B : Int) < (A : Int) := by omega
        have g2 : ¬ (LT : Int) < (B : Int) := by omega
        have hGd := hidJ (show gapN gs i = if i < gs.length then ((gs.getD i 0).tmod 5).natAbs else 0 from rfl)
        go_wp2_with (at_builtin; refine wp_appT8 rfl _ _ rfl W0.heap.size _ acc (ByteArray.mk ⟨pc⟩) rfl rfl HO.out ?cA ?cB ?_)
        case cA => have := HLa.out; show _ + pc.length ≤ _; omega
        case cB => exact G3.out.size
        intro v4 w4 ho4 hg4
        clear y0 y1
        have G0 := hidJ (gb_new G3.out hg4 (fun k hk => (HO.out.lt k hk).1))
        obtain ⟨G, hG⟩ : ∃ G, gapN gs i = G := ⟨_, rfl⟩
        have hG5 : G < 5 := by rw [← hG]; exact gapN_lt gs i
        have hG5i : (G : Int) < 5 := by omega
        rw [hG] at HSt HLm hGd
        obtain ⟨X, hX⟩ : ∃ X, morL G = X := ⟨_, rfl⟩
        have HMx : Hid (∀ W, W0.grownBy W none → W.cell? ⟨mb, G, none⟩ = some (.string (ByteArray.mk ⟨X⟩))) := fun W h => by rw [← hX]; exact HMo.out.keep h G hG5
        rw [hX] at HSt HLm
        have hlenI := fun W ty => run_len_slice (P := Tryd.prog) W 37 ty ua gs.length uc (by simp [Program.elem, Tryd.underlying37])
        clear hG hX
        by_cases cg : i < gs.length
        · have cgi : (i : Int) < (gs.length : Int) := by omega
          obtain ⟨bz, oz, ez, hzc⟩ := hu2 i cg
          subst ez
          have yz := cell_keep (gb_none G3a.out G0.out) hzc
          have hbz := hgz (gs.getD i 0) (by rw [List.getD, List.getElem?_eq_getElem cg]; exact List.getElem_mem cg)
          have hGe := hGd.out
          rw [if_pos cg] at hGe
          generalize gs.getD i 0 = z at *
          have htm : z.tmod 5 < 5 ∧ -5 < z.tmod 5 := by
            have h1 := Int.natAbs_tmod z 5
            have h2 : z.natAbs % (5 : Int).natAbs < 5 := Nat.mod_lt _ (by decide)
            omega
          have htz : z.tmod 5 = (G : Int) ∨ (z.tmod 5 = -(G : Int) ∧ 0 < G) := by omega
          clear hGd hzc hGe htm
          rcases htz with hq | ⟨hq, hq0⟩
          · have hqn : ¬ (G : Int) < 0 := by omega
            obtain ⟨acc2, hac2⟩ : ∃ x, x = acc ++ pc := ⟨_, rfl⟩
            have hl2 : acc2.length ≤ 1000000 := by rw [hac2, List.length_append]; exact HLa.out
            have hX8 : X.length ≤ 8 := by have := HLm.out; simp only [List.length_cons] at this; omega
            have HG6 := hidJ (show W0.grownBy w4 none ∧ Own w4 W0.heap.size v4 acc2 from ⟨G0.out, by rw [hac2]; exact ho4⟩)
            have HAc2 := hidJ hac2
            clear ho4 hg4 hac2
            go_wp2_with (at_builtin; refine wp_app rfl _ _ rfl W0.heap.size _ _ acc2 [32] rfl rfl (HG6.out.2.keep (World.grownBy_alloc _ _ _)) (Rd_lit _ [32] 1 rfl (by simp) _ rfl) ?c1a ?c2a ?_)
            case c1a => first | omega | (simp; omega)
            case c2a => have := HG6.out.1.size; have := (World.grownBy_alloc w4 (.cells #[.int .u8 32] 5) none).size; omega
            intro v5 w5 ho5 hf5
            obtain ⟨acc3, hac3⟩ : ∃ x, x = acc2 ++ [32] := ⟨_, rfl⟩
            have hl3 : acc3.length ≤ 1000001 := by rw [hac3, List.length_append]; simp only [List.length_cons, List.length_nil]; omega
            have HG7 := hidJ (show W0.grownBy w5 none ∧ Own w5 W0.heap.size v5 acc3 from ⟨gb_new (gb_none HG6.out.1 (World.grownBy_alloc _ _ _)) hf5.1 (fun k hk => (HG6.out.2.lt k hk).1), by rw [hac3]; exact ho5⟩)
            have e5 := HMx.out w5 HG7.out.1
            have HAc3 := hidJ hac3
            clear ho5 hf5 HG6 hac3
            go_wp2_with (at_builtin; refine wp_appT8 rfl _ _ rfl W0.heap.size _ acc3 (ByteArray.mk ⟨X⟩) rfl rfl HG7.out.2 ?c3a ?c4a ?_)
            case c3a => show _ + X.length ≤ _; omega
            case c4a => exact HG7.out.1.size
            intro v6 w6 ho6 hg6
            have HG8 := hidJ (show W0.grownBy w6 none ∧ Own w6 W0.heap.size v6 (gapT (addG E 0 (P.take (i + 1)))) from ⟨gb_new HG7.out.1 hg6 (fun k hk => (HG7.out.2.lt k hk).1), by
              have e : acc ++ pc ++ 32 :: X = acc3 ++ X := by rw [HAc3.out, HAc2.out]; simp
              rw [HSt.out, e]
              exact ho6⟩)
            clear ho6 hg6 HG7 e5
            go_wp2
            go_roundg k
            case measure => omega
            case rel => exact ⟨i + 1, by go_num, by omega, by omega, HG8.out⟩
          · have hq0i : (0 : Int) < (G : Int) := by omega
            obtain ⟨acc2, hac2⟩ : ∃ x, x = acc ++ pc := ⟨_, rfl⟩
            have hl2 : acc2.length ≤ 1000000 := by rw [hac2, List.length_append]; exact HLa.out
            have hX8 : X.length ≤ 8 := by have := HLm.out; simp only [List.length_cons] at this; omega
            have HG6 := hidJ (show W0.grownBy w4 none ∧ Own w4 W0.heap.size v4 acc2 from ⟨G0.out, by rw [hac2]; exact ho4⟩)
            have HAc2 := hidJ hac2
            clear ho4 hg4 hac2
            go_wp2_with (at_builtin; refine wp_app rfl _ _ rfl W0.heap.size _ _ acc2 [32] rfl rfl (HG6.out.2.keep (World.grownBy_alloc _ _ _)) (Rd_lit _ [32] 1 rfl (by simp) _ rfl) ?c1b ?c2b ?_)
            case c1b => first | omega | (simp; omega)
            case c2b => have := HG6.out.1.size; have := (World.grownBy_alloc w4 (.cells #[.int .u8 32] 5) none).size; omega
            intro v5 w5 ho5 hf5
            obtain ⟨acc3, hac3⟩ : ∃ x, x = acc2 ++ [32] := ⟨_, rfl⟩
            have hl3 : acc3.length ≤ 1000001 := by rw [hac3, List.length_append]; simp only [List.length_cons, List.length_nil]; omega
            have HG7 := hidJ (show W0.grownBy w5 none ∧ Own w5 W0.heap.size v5 acc3 from ⟨gb_new (gb_none HG6.out.1 (World.grownBy_alloc _ _ _)) hf5.1 (fun k hk => (HG6.out.2.lt k hk).1), by rw [hac3]; exact ho5⟩)
            have e5 := HMx.out w5 HG7.out.1
            have HAc3 := hidJ hac3
            clear ho5 hf5 HG6 hac3
            go_wp2_with (at_builtin; refine wp_appT8 rfl _ _ rfl W0.heap.size _ acc3 (ByteArray.mk ⟨X⟩) rfl rfl HG7.out.2 ?c3b ?c4b ?_)
            case c3b => show _ + X.length ≤ _; omega
            case c4b => exact HG7.out.1.size
            intro v6 w6 ho6 hg6
            have HG8 := hidJ (show W0.grownBy w6 none ∧ Own w6 W0.heap.size v6 (gapT (addG E 0 (P.take (i + 1)))) from ⟨gb_new HG7.out.1 hg6 (fun k hk => (HG7.out.2.lt k hk).1), by
              have e : acc ++ pc ++ 32 :: X = acc3 ++ X := by rw [HAc3.out, HAc2.out]; simp
              rw [HSt.out, e]
              exact ho6⟩)
            clear ho6 hg6 HG7 e5
            go_wp2
            go_roundg k
            case measure => omega
            case rel => exact ⟨i + 1, by go_num, by omega, by omega, HG8.out⟩
        · have cgi : ¬ (i : Int) < (gs.length : Int) := by omega
          have hG0 := hGd.out
          rw [if_neg cg] at hG0
          subst hG0
          clear hGd
          obtain ⟨acc2, hac2⟩ : ∃ x, x = acc ++ pc := ⟨_, rfl⟩
          have hl2 : acc2.length ≤ 1000000 := by rw [hac2, List.length_append]; exact HLa.out
          have hX8 : X.length ≤ 8 := by have := HLm.out; simp only [List.length_cons] at this; omega
          have HG6 := hidJ (show W0.grownBy w4 none ∧ Own w4 W0.heap.size v4 acc2 from ⟨G0.out, by rw [hac2]; exact ho4⟩)
          have HAc2 := hidJ hac2
          clear ho4 hg4 hac2
          go_wp2_with (at_builtin; refine wp_app rfl _ _ rfl W0.heap.size _ _ acc2 [32] rfl rfl (HG6.out.2.keep (World.grownBy_alloc _ _ _)) (Rd_lit _ [32] 1 rfl (by simp) _ rfl) ?c1c ?c2c ?_)
          case c1c => first | omega | (simp; omega)
          case c2c => have := HG6.out.1.size; have := (World.grownBy_alloc w4 (.cells #[.int .u8 32] 5) none).size; omega
          intro v5 w5 ho5 hf5
          obtain ⟨acc3, hac3⟩ : ∃ x, x = acc2 ++ [32] := ⟨_, rfl⟩
          have hl3 : acc3.length ≤ 1000001 := by rw [hac3, List.length_append]; simp only [List.length_cons, List.length_nil]; omega
          have HG7 := hidJ (show W0.grownBy w5 none ∧ Own w5 W0.heap.size v5 acc3 from ⟨gb_new (gb_none HG6.out.1 (World.grownBy_alloc _ _ _)) hf5.1 (fun k hk => (HG6.out.2.lt k hk).1), by rw [hac3]; exact ho5⟩)
          have e5 := HMx.out w5 HG7.out.1
          have HAc3 := hidJ hac3
          clear ho5 hf5 HG6 hac3
          go_wp2_with (at_builtin; refine wp_appT8 rfl _ _ rfl W0.heap.size _ acc3 (ByteArray.mk ⟨X⟩) rfl rfl HG7.out.2 ?c3c ?c4c ?_)
          case c3c => show _ + X.length ≤ _; omega
          case c4c => exact HG7.out.1.size
          intro v6 w6 ho6 hg6
          have HG8 := hidJ (show W0.grownBy w6 none ∧ Own w6 W0.heap.size v6 (gapT (addG E 0 (P.take (i + 1)))) from ⟨gb_new HG7.out.1 hg6 (fun k hk => (HG7.out.2.lt k hk).1), by
            have e : acc ++ pc ++ 32 :: X = acc3 ++ X := by rw [HAc3.out, HAc2.out]; simp
            rw [HSt.out, e]
            exact ho6⟩)
          clear ho6 hg6 HG7 e5
          go_wp2
          go_roundg k
          case measure => omega
          case rel => exact ⟨i + 1, by go_num, by omega, by omega, HG8.out⟩
      · have hiP : i = P.length := by have := HNP.out; omega
        subst hiP
        have hli : ¬ (P.length : Int) + 1 < (N : Int) := by omega
        have hTk : P.take P.length = P := List.take_length
        have HO := hidJ hr.out.2
        have G3 := hidJ (gb_none G3a.out hr.out.1)
        rw [hTk] at HO
        have HR1 := hidJ (HRd1.out.keep hr.out.1)
        have hBl : (gapT (addG E 0 P)).length ≤ 1000000 := by
          have h1 := HEl.out P 0
          have h2 := HP1.out
          omega
        have hgw := hidJ (fun h => gapW (addG E 0 P) HEk.out h (by rw [addG_len]; omega))
        have HSm2 := hidJ HSm.out
        clear hr hTk HSt0 HGl HEl HEk HSm HCl HRd1 hN1 hg HAt HE
        generalize gapT (addG E 0 P) = Bt at *
        obtain ⟨a, c, e⟩ := HO.out.shape
        subst e
        have hlenB := fun W ty => run_len_slice (P := Tryd.prog) W 39 ty a Bt.length c (by simp [Program.elem, Tryd.underlying39])
        by_cases cB : 65536 < Bt.length
        · have cBi : (65536 : Int) < (Bt.length : Int) := by omega
          go_wp2_with (first | (go_at_call 10; refine (HK.out _ G3.out).mono ?_; rintro e w2 ⟨rfl, hg2⟩; have H2 := hidJ hg2; clear hg2))
          go_ret
          exact ⟨rfl, gb_below H2.out⟩
        · have cBi : ¬ (65536 : Int) < (Bt.length : Int) := by omega
          have hcv := run_strB8 HO.out.rd
          have HT2 := hidJ (tokens_any wr Bt (by omega) (HT.out.keep G3.out) (HU.out.keep G3.out))
          rw [hgw.out (by omega)] at HT2
          clear hgw
          go_wp2_with fail
          refine HT2.out.mono ?_
          rintro e w7 ⟨vo, rfl, ho7, hg7⟩
          have H7 := hidJ (gb_none G3.out hg7)
          have HS := hidJ (same_any w7 _ _ _ _ ho7.rd (HR1.out.keep hg7))
          rw [HSm2.out] at HS
          obtain ⟨a7, c7, e7⟩ := ho7.shape
          subst e7
          clear hg7 ho7 HT2 hcv HO
          go_wp2_with fail
          refine HS.out.mono ?_
          rintro e w8 ⟨rfl, hg8⟩
          have H8 := hidJ (gb_none H7.out hg8)
          clear hg8
          go_wp2_with (first | (go_at_call 10; refine (HK.out _ H8.out).mono ?_; rintro e w2 ⟨rfl, hg2⟩; have H2 := hidJ hg2; clear hg2))
          go_ret
          exact ⟨rfl, gb_below H2.out⟩
  · have hne2 : (er == 0) = false := by rw [beq_eq_false_iff_ne]; exact c1
    clear HJo
    go_enter Tryd.func6, Tryd.ntmps6
    go_wp2_with fail
    refine HJ.out.mono ?_
    rintro e w1 ⟨rfl, hg1⟩
    have G1 := hidJ hg1
    clear hg1 HJ
    go_wp2_with (first | (go_at_call 10; refine (HK.out _ G1.out).mono ?_; rintro e w2 ⟨rfl, hg2⟩; have H2 := hidJ hg2; clear hg2))
    go_ret
    exact ⟨rfl, gb_below H2.out⟩
end Go.Proofs.YtifjdfmmafbhkaaDoor
