/-
  ChunkAppends: samples are taken or refused one after another, and are the bytes that the chapter gives: the walk.
-/
import Derived.Test.YtnaccmbnblokmaaDoorCkA5
import Derived.Deep.CutBlock
namespace Go.Proofs.YtnaccmbnblokmaaDoor
open Go.RowKit

set_option maxRecDepth 8000 in
set_option maxHeartbeats 12800000 in
theorem app_walk (v : Value) (l : List SmpT) (w : World) (hv : RdP w v l) (hl : SmIn l) (hT : Tk w) :
    Calls Tryd.prog 3 #[v] w fun e w' => e = .returned (.bool true) ∧ Below w.heap.size w w' := by
  have HV := hidJ (And.intro hv (And.intro hl hT))
  obtain ⟨a, c, rfl, hlc, hcm, -⟩ := hv
  have hcm2 : c ≤ 9223372036854775807 := hcm
  clear hl hT hcm
  obtain ⟨N, hN⟩ : ∃ N, l.length = N := ⟨_, rfl⟩
  have HN := hidJ hN
  rw [hN] at hlc
  rw [hN]
  clear hN
  go_enter Tryd.func3, Tryd.ntmps3
  go_wp2_with fail
  refine (ckNew_any _).mono ?_
  rintro e w1 ⟨g, rfl, hw1, hg1⟩
  have H1 : Hid (ApJ w w1 g (.slice none 0 0) []) := ⟨hg1, ⟨_, fun k hk => hk, hw1, fun k hk => by simp [Value.ownBlock] at hk⟩, World.ownsRow_nil _ _ _ _⟩
  clear hw1 hg1
  go_upto_block 0 with fail
  go_cut [4] from 11 (fun s wx => ∃ m aT cT, s = .slice aT m.length cT ∧ Hid (ApJ w wx g s m))
  case first =>
    go_wp2_with fail
    have hsf := store_float
    go_loopw [4, 16] (fun s i wr => ∃ z : Nat, z ≤ N ∧ i = .int .i64 z ∧ z ≤ 300 ∧ ∃ m aT cT, s = .slice aT m.length cT ∧ Hid (ApJ w wr g s m)) (fun _ i _ => N - (intOf i).toNat)
    case atStart => exact ⟨0, by omega, rfl, by omega, [], none, 0, rfl, H1.out⟩
    case round =>
      obtain ⟨z, hz, rfl, hz3, m, aT, cT, rfl, hr⟩ := hrel
      by_cases hlt : z < N
      · have hzi : (z : Int) < (N : Int) := by omega
        have hzl : z < l.length := by rw [HN.out]; exact hlt
        obtain ⟨a', c', he, -, -, hc⟩ := HV.out.1.keep hr.out.old
        simp only [Value.slice.injEq] at he
        obtain ⟨rfl, -, rfl⟩ := he
        obtain ⟨b, o, rfl, c0, c1⟩ := hc z hzl
        have hbd := HV.out.2.1 _ (getS_mem hzl)
        have HBd := hidJ hbd.2
        clear hc hbd hzl
        generalize (l.getD z smZ).1 = tz at *
        generalize (l.getD z smZ).2 = fz at *
        have hnew : ¬ b = wr.heap.size := by have := block_lt c0; omega
        have hnew2 : ¬ wr.heap.size = b := by omega
        by_cases h3 : z = 300
        · subst h3
          go_wp2_with fail
          go_meet
          case rel => exact ⟨m, aT, cT, rfl, hr.out.keep (alloc_gb _ _)⟩
        · have h3i : ¬ (300 : Int) ≤ (z : Int) := by omega
          have HX : Hid (ApJ w wr g (.slice aT m.length cT) m ∧ wr.grownBy (wr.alloc (.cells #[.int .i64 tz, .float .f64 fz] 27)) none ∧ (wr.alloc (.cells #[.int .i64 tz, .float .f64 fz] 27)).heap[wr.heap.size]? = some (.cells #[.int .i64 tz, .float .f64 fz] 27 (0, 0)) ∧ wr.heap.size ≤ wr.heap.size) := ⟨hr.out, alloc_gb _ _, Go.heap_alloc_new wr _, Nat.le_refl _⟩
          have HWr := hidJ (dWrong_any (wr.alloc (.cells #[.int .i64 tz, .float .f64 fz] 27)) _ m tz (HX.out.1.keep HX.out.2.1).rd HX.out.1.ok)
          clear hr
          go_wp2_with fail
          refine HWr.out.mono ?_
          rintro e w2 ⟨rfl, hg2⟩
          generalize wr.alloc (.cells #[.int .i64 tz, .float .f64 fz] 27) = Wx at *
          have H2 : Hid (ApJ w wr g (.slice aT m.length cT) m ∧ wr.grownBy w2 none ∧ w2.heap[wr.heap.size]? = some (.cells #[.int .i64 tz, .float .f64 fz] 27 (0, 0))) := ⟨HX.out.1, gb_none HX.out.2.1 hg2, (hg2.block _ (some_lt2 HX.out.2.2.1) (by simp)).trans HX.out.2.2.1⟩
          have x0 : w2.cell? ⟨wr.heap.size, 0, none⟩ = some (.int .i64 tz) := by simp only [World.cell?, H2.out.2.2]; rfl
          have x1 : w2.cell? ⟨wr.heap.size, 1, none⟩ = some (.float .f64 fz) := by simp only [World.cell?, H2.out.2.2]; rfl
          have HA := hidJ (H2.out.1.append H2.out.2.1 (Nat.le_refl _) H2.out.2.2 HV.out.2.2 tz fz HBd.out)
          clear hg2 HX HWr c0 c1 hnew hnew2
          generalize wr.heap.size = b0 at *
          obtain ⟨q, hq⟩ : ∃ q, wrongN (stA startP m) tz = q := ⟨_, rfl⟩
          rw [hq] at HA ⊢
          clear hq
          go_wp2_with fail
          refine HA.out.mono ?_
          rintro e w3 ⟨rfl, hA1, hA2, hA3⟩
          clear HA H2 x0 x1
          have x0 : w3.cell? ⟨b0, 0, none⟩ = some (.int .i64 tz) := by simp only [World.cell?, hA3]; rfl
          have x1 : w3.cell? ⟨b0, 1, none⟩ = some (.float .f64 fz) := by simp only [World.cell?, hA3]; rfl
          by_cases hq0 : q = 0
          · subst hq0
            obtain ⟨p1, p2, p3⟩ := hA2 rfl
            obtain ⟨a2, c2, W4, r1, r2⟩ := ApJ.push tz fz p1 p2 p3
            have HP := hidJ r2
            clear hA1 hA2 hA3 p1 p2 p3 r2
            obtain ⟨nm, hnm⟩ : ∃ nm, m.length = nm := ⟨_, rfl⟩
            have HNM := hidJ hnm
            rw [hnm] at r1
            rw [hnm]
            clear hnm
            go_wp2_with (at_builtin; refine wp_appRun rfl _ _ 22 rfl _ _ _ rfl rfl r1 ?_)
            go_roundw
            case rel => exact ⟨z + 1, by omega, by go_num, by omega, m ++ [(tz, fz)], a2, c2, by rw [List.length_append, HNM.out]; rfl, by have := HP.out; rw [HNM.out] at this; exact this⟩
            case measure => simp [intOf]; omega
          · have hqb : (q == 0) = false := by rw [beq_eq_false_iff_ne]; exact hq0
            have HP := hidJ (hA1 hq0)
            clear hA1 hA2 hA3
            go_wp2
            go_roundw
            case rel => exact ⟨z + 1, by omega, by go_num, by omega, m, aT, cT, rfl, HP.out⟩
            case measure => simp [intOf]; omega
      · obtain rfl : z = N := by omega
        go_wp2_with fail
        go_meet
        case rel => exact ⟨m, aT, cT, rfl, hr.out⟩
  case rest =>
    obtain ⟨m, aT, cT, rfl, HJ⟩ := hcut
    clear H1 hlc hcm2 HN
    generalize wc = w2 at *
    have HM : Hid (m.length ≤ 120) := okL_most HJ.out.ok
    have HLast := hidJ (ckLast_any w2 _ g m HJ.out.ck.choose_spec.2.1)
    obtain ⟨t0, ht0⟩ : ∃ t0, (lastS m).1 = t0 := ⟨_, rfl⟩
    obtain ⟨f0, hf0⟩ : ∃ f0, (lastS m).2 = f0 := ⟨_, rfl⟩
    obtain ⟨ok, hok⟩ : ∃ ok, decide (0 < m.length) = ok := ⟨_, rfl⟩
    have HL0 := hidJ (And.intro ht0 (And.intro hf0 hok))
    rw [ht0, hf0, hok] at HLast
    clear ht0 hf0 hok
    obtain ⟨nm, hnm⟩ : ∃ nm, m.length = nm := ⟨_, rfl⟩
    have HNM := hidJ hnm
    rw [hnm] at HJ HM ⊢
    clear hnm
    have hsf := store_float
    go_wp2_with fail
    refine HLast.out.mono ?_
    rintro e w3 ⟨rfl, hg3⟩
    have H3 : Hid (ApJ w (w3.alloc (.cells #[.int .i64 t0, .float .f64 f0] 27)) g (.slice aT nm cT) m ∧ (w3.alloc (.cells #[.int .i64 t0, .float .f64 f0] 27)).heap[w3.heap.size]? = some (.cells #[.int .i64 t0, .float .f64 f0] 27 (0, 0))) := ⟨(HJ.out.keep hg3).keep (alloc_gb _ _), Go.heap_alloc_new w3 _⟩
    clear hg3 HJ HLast
    go_upto_region 16 with fail
    generalize w3.alloc (.cells #[.int .i64 t0, .float .f64 f0] 27) = w4 at *
    generalize w3.heap.size = b8 at *
    have HLen : Hid (∀ W, w4.grownBy W none → Calls Tryd.prog 13 #[.pointer (some ⟨g, 0, none⟩)] W fun e w' => e = .returned (.int .i64 (nm : Int)) ∧ w' = W) := fun W hW => by
      have h := ckLen_any W _ g m (H3.out.1.keep hW).ck.choose_spec.2.1
      rw [HNM.out] at h
      exact h
    have HEv : Hid (∀ W, w4.grownBy W none → Calls Tryd.prog 15 #[.pointer (some ⟨g, 0, none⟩), .int .i64 1000] W fun e w' => ∃ v', e = .returned v' ∧ RdP w' v' m ∧ W.grownBy w' none) := fun W hW => by
      have h := everyC_any W _ g m 1000 (by omega) (H3.out.1.keep hW).ck.choose_spec.2.1 (HV.out.2.2.keep (H3.out.1.keep hW).old)
      rw [List.take_of_length_le (by rw [HNM.out]; have := HM.out; omega)] at h
      exact h
    have HEv1 : Hid (∀ W, w4.grownBy W none → Calls Tryd.prog 15 #[.pointer (some ⟨g, 0, none⟩), .int .i64 1] W fun e w' => ∃ v', e = .returned v' ∧ RdP w' v' (m.take 1) ∧ W.grownBy w' none) := fun W hW => everyC_any W _ g m 1 (by omega) (H3.out.1.keep hW).ck.choose_spec.2.1 (HV.out.2.2.keep (H3.out.1.keep hW).old)
    go_cut [65] from 11 (fun s wx => s = .bool false ∧ w4.grownBy wx none)
    case first =>
      by_cases hpos : 0 < nm
      · have hokt : ok = true := by rw [← HL0.out.2.2]; exact decide_eq_true (by rw [HNM.out]; exact hpos)
        subst hokt
        have hposi : (0 : Int) < (nm : Int) := by omega
        go_wp2_with fail
        refine (HLen.out _ (gb_refl _ _)).mono ?_
        rintro e w5 ⟨rfl, hw5⟩
        have hw5 := hw5.symm
        subst hw5
        go_wp2_with fail
        refine (HEv.out _ (gb_refl _ _)).mono ?_
        rintro e w5 ⟨v5, rfl, hr5, hg5⟩
        have H5 := hidJ (And.intro hr5 hg5)
        clear hr5 hg5
        go_wp2_with fail
        refine (refSame_any w5 v5 _ m m H5.out.1 (by have h := (H3.out.1.keep H5.out.2).rd; exact h)).mono ?_
        rintro e w6 ⟨rfl, hg6⟩
        have H6 := hidJ (gb_none H5.out.2 hg6)
        clear hg6
        rw [decide_eq_true rfl]
        go_wp2_with fail
        go_meet
        case rel => exact ⟨rfl, H6.out⟩
      · obtain rfl : nm = 0 := by omega
        have hokt : ok = false := by rw [← HL0.out.2.2]; exact decide_eq_false (by rw [HNM.out]; exact hpos)
        subst hokt
        go_wp2_with fail
        refine (HLen.out _ (gb_refl _ _)).mono ?_
        rintro e w5 ⟨rfl, hw5⟩
        have hw5 := hw5.symm
        subst hw5
        go_wp2_with fail
        refine (HEv.out _ (gb_refl _ _)).mono ?_
        rintro e w5 ⟨v5, rfl, hr5, hg5⟩
        have H5 := hidJ (And.intro hr5 hg5)
        clear hr5 hg5
        go_wp2_with fail
        refine (refSame_any w5 v5 _ m m H5.out.1 (by have h := (H3.out.1.keep H5.out.2).rd; exact h)).mono ?_
        rintro e w6 ⟨rfl, hg6⟩
        have H6 := hidJ (gb_none H5.out.2 hg6)
        clear hg6
        rw [decide_eq_true rfl]
        go_wp2_with fail
        go_meet
        case rel => exact ⟨rfl, H6.out⟩
    case rest =>
      obtain ⟨rfl, hgc⟩ := hcut
      have H5 := hidJ hgc
      clear hgc HLen HEv
      generalize wc = w5 at *
      have hb8 := (H5.out.block b8 (some_lt2 H3.out.2) (by simp)).trans H3.out.2
      have x0 : w5.cell? ⟨b8, 0, none⟩ = some (.int .i64 t0) := by simp only [World.cell?, hb8]; rfl
      have x1 : w5.cell? ⟨b8, 1, none⟩ = some (.float .f64 f0) := by simp only [World.cell?, hb8]; rfl
      clear hb8
      go_upto_region 18 with fail
      go_cut [86] from 11 (fun s wx => s = .bool false ∧ w4.grownBy wx none)
      case first =>
        by_cases hpos : 0 < nm
        · have hokt : ok = true := by rw [← HL0.out.2.2]; exact decide_eq_true (by rw [HNM.out]; exact hpos)
          subst hokt
          obtain ⟨M, rfl⟩ : ∃ M, nm = M + 1 := ⟨nm - 1, by omega⟩
          obtain ⟨bT, rfl, hcT⟩ : ∃ bT, aT = some ⟨bT, 0, none⟩ ∧ M + 1 ≤ cT ∧ cT ≤ 9223372036854775807 := by
            have h := (H3.out.1.row).2
            rw [HNM.out] at h
            rcases h with ⟨-, e2⟩ | ⟨b, cap, cur, e, q1, q2, q3, q4, -⟩
            · omega
            · simp only [Value.slice.injEq] at e
              obtain ⟨rfl, -, rfl⟩ := e
              exact ⟨b, rfl, q3, q4⟩
          have hsl : ∀ W, (Instr.slice 22 (.slice (some ⟨bT, 0, none⟩) (M + 1) cT) (some (.int .i64 (M : Int))) none none).run Tryd.prog W = .ok (.slice (some ⟨bT, M * 2, none⟩) 1 (cT - M)) W := fun W => run_lastS W bT M cT hcT.1
          have hwM : IntKind.i64.wrap (M : Int) = (M : Int) := by rw [IntKind.wrap_i64]; have := HM.out; omega
          have HSm : Hid (∀ W, (W = w5.alloc (.cells #[.int .i64 t0, .float .f64 f0] 27) ∨ W = (w5.alloc (.cells #[.int .i64 t0, .float .f64 f0] 27)).drew) → Calls Tryd.prog 14 #[.slice (some ⟨w5.heap.size, 0, none⟩) 1 1, .slice (some ⟨bT, M * 2, none⟩) 1 (cT - M)] W fun e w' => e = .returned (.bool true) ∧ Hid (w4.grownBy w' none) ∧ w'.cell? ⟨b8, 0, none⟩ = some (.int .i64 t0) ∧ w'.cell? ⟨b8, 1, none⟩ = some (.float .f64 f0)) := by
            intro W hW
            have hg : (w5.alloc (.cells #[.int .i64 t0, .float .f64 f0] 27)).grownBy W none := by
              rcases hW with rfl | rfl
              · exact gb_refl _ _
              · exact gb_drew _ _
            have hgW := gb_none (gb_none H5.out (alloc_gb _ _)) hg
            have h1 := (RdP.one w5 t0 f0).keep hg
            have h2 := (H3.out.1.keep hgW).rd.lastOne HNM.out
            have hls : lastS m = (t0, f0) := Prod.ext HL0.out.1 HL0.out.2.1
            rw [hls] at h2
            refine (refSame_any W _ _ _ _ h1 h2).mono ?_
            rintro e w' ⟨q1, q2⟩
            rw [decide_eq_true rfl] at q1
            have hgf := gb_none hgW q2
            have hb := (hgf.block b8 (some_lt2 H3.out.2) (by simp)).trans H3.out.2
            exact ⟨q1, hgf, by simp only [World.cell?, hb]; rfl, by simp only [World.cell?, hb]; rfl⟩
          refine wp_region_any (by kernel_rfl) ?_
          change wpAny _ _ _ _ _ _ _ (World.drew _)
          refine wpAny_take (i := 0) (v := ?v0) rfl (by kernel_rfl) (by kernel_rfl) (by kernel_rfl) (fun _ _ _ h => h) (Or.inl ⟨by rfl, ?y0⟩) ?r0
          case y0 => intro wq; go_simp; try with_reducible rfl
          case' r0 => skip
          refine wpAny_take (i := 1) (v := ?v1) rfl (by kernel_rfl) (by kernel_rfl) (by kernel_rfl) (fun _ _ _ h => h) (Or.inl ⟨by rfl, ?y1⟩) ?r1
          case y1 => intro wq; go_simp; try with_reducible rfl
          case' r1 => skip
          refine wpAny_take (i := 4) (v := ?v4) rfl (by kernel_rfl) (by kernel_rfl) (by kernel_rfl) (fun _ _ _ h => h) (Or.inl ⟨by rfl, ?y4⟩) ?r4
          case y4 => intro wq; go_simp; try with_reducible rfl
          case' r4 => skip
          refine wpAny_take (i := 5) (v := ?v5) rfl (by kernel_rfl) (by kernel_rfl) (by kernel_rfl) (fun _ _ _ h => h) (Or.inl ⟨by rfl, ?y5⟩) ?r5
          case y5 => intro wq; go_simp; try with_reducible rfl
          case' r5 => skip
          refine wpAny_take (i := 6) (v := ?v6) rfl (by kernel_rfl) (by kernel_rfl) (by kernel_rfl) (fun _ _ _ h => h) (Or.inl ⟨by rfl, ?y6⟩) ?r6
          case y6 => intro wq; go_simp; try with_reducible rfl
          case' r6 => skip
          refine wpAny_take (i := 7) (v := ?v7) rfl (by kernel_rfl) (by kernel_rfl) (by kernel_rfl) (fun _ _ _ h => h) (Or.inl ⟨by rfl, ?y7⟩) ?r7
          case y7 => intro wq; go_simp; try with_reducible rfl
          case' r7 => skip
          refine wpAny_take (i := 8) (v := ?v8) rfl (by kernel_rfl) (by kernel_rfl) (by kernel_rfl) (fun _ _ _ h => h) (Or.inl ⟨by rfl, ?y8⟩) ?r8
          case y8 => intro wq; go_simp; try with_reducible rfl
          case' r8 => skip
          refine wpAny_ready (rs := [2]) (by kernel_rfl) (by simp) ?_
          refine AllReady.cons rfl (fun K hK => ?_) AllReady.nil
          go_simp
          refine hK _ _ ?_
          clear hK K
          refine wpAny_ready (rs := [3]) (by kernel_rfl) (by simp) ?_
          refine AllReady.cons rfl (fun K hK => ?_) AllReady.nil
          go_simp
          refine hK _ _ ?_
          clear hK K
          refine wpAny_ready (rs := [9]) (by kernel_rfl) (by simp) ?_
          refine AllReady.cons rfl (fun K hK => ?_) AllReady.nil
          go_simp
          go_wp2_with (go_at_call 14; refine (HSm.out _ ?_).mono ?_; (first | exact .inr rfl | exact .inl rfl); rintro e w6 ⟨rfl, H6, y0, y1⟩)
          refine wpAny_ready (rs := [10]) (by kernel_rfl) (by simp) ?_
          refine AllReady.cons rfl (fun K hK => ?_) AllReady.nil
          go_simp
          refine hK _ _ ?_
          clear hK K
          refine wpAny_ready (rs := [11]) (by kernel_rfl) (by simp) ?_
          refine AllReady.cons rfl (fun K hK => ?_) AllReady.nil
          go_simp
          refine hK _ _ ?_
          clear hK K
          refine wpAny_ready (rs := [12]) (by kernel_rfl) (by simp) ?_
          refine AllReady.cons rfl (fun K hK => ?_) AllReady.nil
          go_simp
          refine hK _ _ ?_
          clear hK K
          refine wpAny_ready (rs := [13]) (by kernel_rfl) (by simp) ?_
          refine AllReady.cons rfl (fun K hK => ?_) AllReady.nil
          go_simp
          refine hK _ _ ?_
          clear hK K
          refine wpAny_ready (rs := [14]) (by kernel_rfl) (by simp) ?_
          refine AllReady.cons rfl (fun K hK => ?_) AllReady.nil
          go_simp
          refine hK _ _ ?_
          clear hK K
          refine wpAny_ready (rs := [15]) (by kernel_rfl) (by simp) ?_
          refine AllReady.cons rfl (fun K hK => ?_) AllReady.nil
          go_simp
          refine hK _ _ ?_
          clear hK K
          refine wpAny_take (i := 16) (v := undef) rfl (by kernel_rfl) (by kernel_rfl) (by kernel_rfl) (fun _ _ _ h => h) (Or.inr ⟨by rfl, rfl⟩) ?_
          refine wpAny_take (i := 17) (v := undef) rfl (by kernel_rfl) (by kernel_rfl) (by kernel_rfl) (fun _ _ _ h => h) (Or.inr ⟨by rfl, rfl⟩) ?_
          refine wpAny_take (i := 18) (v := undef) rfl (by kernel_rfl) (by kernel_rfl) (by kernel_rfl) (fun _ _ _ h => h) (Or.inr ⟨by rfl, rfl⟩) ?_
          refine wpAny_ready (rs := [19]) (by kernel_rfl) (by simp) ?_
          refine AllReady.cons rfl (fun K hK => ?_) AllReady.nil
          go_simp
          refine hK _ _ ?_
          clear hK K
          refine wpAny_ready (rs := [20]) (by kernel_rfl) (by simp) ?_
          refine AllReady.cons rfl (fun K hK => ?_) AllReady.nil
          go_simp
          refine hK _ _ ?_
          clear hK K
          refine wpAny_done (by kernel_rfl) ?_ _
          go_wp2_with fail
          go_meet
          case rel => exact ⟨rfl, H6.out⟩
        · obtain rfl : nm = 0 := by omega
          have hokt : ok = false := by rw [← HL0.out.2.2]; exact decide_eq_false (by rw [HNM.out]; exact hpos)
          subst hokt
          have hm0 : m = [] := List.eq_nil_of_length_eq_zero HNM.out
          have ht0 : t0 = 0 := by rw [← HL0.out.1, hm0]; rfl
          have hf0 : f0 = 0 := by rw [← HL0.out.2.1, hm0]; rfl
          subst ht0
          subst hf0
          have hfe : ∀ W : World, (Op.equalIn 9999 25 (.float .f64 0) (.float .f64 0)).run Tryd.prog W = .ok true W := fun W => by kernel_rfl
          have HG5 := hidJ (fun n => gb_none H5.out (gb_drewN w5 n))
          go_quiet (fail)
          go_wp2_with fail
          go_meet
          case rel => exact ⟨rfl, HG5.out _⟩
      case rest =>
        obtain ⟨rfl, hgc⟩ := hcut
        have H6 := hidJ hgc
        clear hgc H5 x0 x1
        generalize wc = w6 at *
        go_upto_region 20 with fail
        go_cut [97] from 11 (fun s wx => s = .bool false ∧ w4.grownBy wx none)
        case first =>
          by_cases hpos : 1 < nm
          · have hposi : (1 : Int) < (nm : Int) := by omega
            have hcT : nm ≤ cT := by
              have h := (H3.out.1.row).2
              rw [HNM.out] at h
              rcases h with ⟨-, e2⟩ | ⟨b, cap, cur, e, q1, q2, q3, q4, -⟩
              · omega
              · simp only [Value.slice.injEq] at e
                obtain ⟨rfl, -, rfl⟩ := e
                exact q3
            have hsl : ∀ W, (Instr.slice 22 (.slice aT nm cT) none (some (.int .i64 1)) none).run Tryd.prog W = .ok (.slice aT 1 cT) W := fun W => run_firstS W aT nm cT (by omega) hcT
            have HE : Hid (∀ W, w6.grownBy W none → Calls Tryd.prog 15 #[.pointer (some ⟨g, 0, none⟩), .int .i64 1] W fun e w' => ∃ v', e = .returned v' ∧ Hid (RdP w' v' (m.take 1) ∧ w4.grownBy w' none)) := fun W hW => by
              refine (HEv1.out W (gb_none H6.out hW)).mono ?_
              rintro e w' ⟨v', q1, q2, q3⟩
              exact ⟨v', q1, q2, gb_none (gb_none H6.out hW) q3⟩
            have HSm : Hid (∀ W v', RdP W v' (m.take 1) → w4.grownBy W none → Calls Tryd.prog 14 #[v', .slice aT 1 cT] W fun e w' => e = .returned (.bool true) ∧ Hid (w4.grownBy w' none)) := fun W v' h1 h2 => by
              have h3 := (H3.out.1.keep h2).rd
              have h4 := h3.head 1 (by rw [HNM.out]; omega)
              refine (refSame_any W _ _ _ _ h1 h4).mono ?_
              rintro e w' ⟨q1, q2⟩
              rw [decide_eq_true rfl] at q1
              exact ⟨q1, gb_none h2 q2⟩
            go_region_held3 (fun _ => True) (go_keep)
              (first
                | (go_at_call 15; refine (HE.out _ ?_).mono ?_; (first | exact gb_drew _ _ | exact gb_refl _ _); rintro e w7 ⟨v7, rfl, H7⟩)
                | (go_at_call 14; refine (HSm.out _ _ H7.out.1 H7.out.2).mono ?_; rintro e w8 ⟨rfl, H8⟩))
            go_wp2_with fail
            go_meet
            case rel => exact ⟨rfl, H8.out⟩
          · have hposi : ¬ (1 : Int) < (nm : Int) := by omega
            have HG := hidJ (fun n => gb_none H6.out (gb_drewN w6 n))
            go_quiet (fail)
            go_wp2_with fail
            go_meet
            case rel => exact ⟨rfl, HG.out _⟩
        case rest =>
          obtain ⟨rfl, hgc⟩ := hcut
          have H7 := hidJ hgc
          clear hgc H6 HEv1
          generalize wc = w7 at *
          have HBy : Hid (∀ W, w4.grownBy W none → Calls Tryd.prog 16 #[.pointer (some ⟨g, 0, none⟩)] W fun e w' => ∃ v', e = .returned v' ∧ Own w' W.heap.size v' (ckB m) ∧ W.grownBy w' none) := fun W hW => ckBytes_any W _ g m (H3.out.1.keep hW).ck.choose_spec.2.1
          have HDB : Hid (∀ W, w4.grownBy W none → Calls Tryd.prog 17 #[.slice aT nm cT] W fun e w' => ∃ v', e = .returned v' ∧ Own w' W.heap.size v' (ckB m) ∧ W.grownBy w' none) := fun W hW => dBytes_any W _ m (H3.out.1.keep hW).rd H3.out.1.ok
          go_wp2_with fail
          refine (HBy.out _ H7.out).mono ?_
          rintro e w8 ⟨v8, rfl, ho8, hg8⟩
          have H8 : Hid (Own w8 w7.heap.size v8 (ckB m) ∧ w4.grownBy w8 none ∧ w4.heap.size ≤ w7.heap.size) := ⟨ho8, gb_none H7.out hg8, H7.out.size⟩
          clear ho8 hg8 H7
          generalize w7.heap.size = b7 at *
          go_upto_region 23 with fail
          go_cut [105] from 11 (fun s wx => s = .bool false ∧ w8.grownBy wx none)
          case first =>
            have HD2 : Hid (∀ W, w8.grownBy W none → Calls Tryd.prog 17 #[.slice aT nm cT] W fun e w' => ∃ v', e = .returned v' ∧ Hid (w8.grownBy w' none) ∧ (convert 36 9 v8).run Tryd.prog w' = .ok (.string (ByteArray.mk ⟨ckB m⟩)) w' ∧ (convert 36 9 v').run Tryd.prog w' = .ok (.string (ByteArray.mk ⟨ckB m⟩)) w') := fun W hW => by
              refine (HDB.out W (gb_none H8.out.2.1 hW)).mono ?_
              rintro e w' ⟨v', q1, q2, q3⟩
              have hg := gb_none hW q3
              exact ⟨v', q1, hg, run_strU (H8.out.1.rd.keep hg), run_strU q2.rd⟩
            have c8 := run_strU H8.out.1.rd
            have c8d := run_strU (H8.out.1.rd.keep (gb_drew w8 none))
            generalize ByteArray.mk ⟨ckB m⟩ = sx at *
            have qx : (sx.toList == sx.toList) = true := by simp
            go_region_with
              (first
                | (go_at_call 17; refine (HD2.out _ ?_).mono ?_; (first | exact gb_drew _ _ | exact gb_refl _ _); rintro e w9 ⟨v9, rfl, H9, c1, c2⟩))
            all_goals go_wp2_with fail
            all_goals go_meet
            all_goals exact ⟨rfl, H9.out⟩
          case rest =>
            obtain ⟨rfl, hgc⟩ := hcut
            have H9 : Hid (Own wc b7 v8 (ckB m) ∧ w4.grownBy wc none ∧ w4.heap.size ≤ b7) := ⟨H8.out.1.keep hgc, gb_none H8.out.2.1 hgc, H8.out.2.2⟩
            clear hgc H8
            generalize wc = w9 at *
            go_wp2_with fail
            refine (spoil8_any v8 b7 _ w9 H9.out.1).mono ?_
            rintro e w10 ⟨rfl, hg10⟩
            have HZ : Hid (w4.grownBy w10 none) := gb_new H9.out.2.1 hg10 (fun k hk => Nat.le_trans H9.out.2.2 (H9.out.1.lt k hk).1)
            clear hg10 H9
            have HA0 : Hid (∀ W, w4.grownBy W none → Calls Tryd.prog 16 #[.pointer (some ⟨g, 0, none⟩)] W fun e w' => ∃ v', e = .returned v' ∧ Hid (w4.grownBy w' none ∧ Rd w' v' (ckB m)) ∧ (convert 36 9 v').run Tryd.prog w' = .ok (.string (ByteArray.mk ⟨ckB m⟩)) w') := fun W hW => by
              refine (HBy.out W hW).mono ?_
              rintro e w' ⟨v', q1, q2, q3⟩
              exact ⟨v', q1, ⟨gb_none hW q3, q2.rd⟩, run_strU q2.rd⟩
            have HB0 : Hid (∀ W, w4.grownBy W none → Calls Tryd.prog 17 #[.slice aT nm cT] W fun e w' => ∃ v', e = .returned v' ∧ Hid (w4.grownBy w' none ∧ Rd w' v' (ckB m)) ∧ (convert 36 9 v').run Tryd.prog w' = .ok (.string (ByteArray.mk ⟨ckB m⟩)) w') := fun W hW => by
              refine (HDB.out W hW).mono ?_
              rintro e w' ⟨v', q1, q2, q3⟩
              exact ⟨v', q1, ⟨gb_none hW q3, q2.rd⟩, run_strU q2.rd⟩
            have HA1 : Hid (∀ W u, (w4.grownBy W none ∧ Rd W u (ckB m)) → Calls Tryd.prog 16 #[.pointer (some ⟨g, 0, none⟩)] W fun e w' => ∃ v', e = .returned v' ∧ Hid (w4.grownBy w' none) ∧ (convert 36 9 v').run Tryd.prog w' = .ok (.string (ByteArray.mk ⟨ckB m⟩)) w' ∧ (convert 36 9 u).run Tryd.prog w' = .ok (.string (ByteArray.mk ⟨ckB m⟩)) w') := fun W u hW => by
              refine (HBy.out W hW.1).mono ?_
              rintro e w' ⟨v', q1, q2, q3⟩
              exact ⟨v', q1, gb_none hW.1 q3, run_strU q2.rd, run_strU (hW.2.keep q3)⟩
            have HB1 : Hid (∀ W u, (w4.grownBy W none ∧ Rd W u (ckB m)) → Calls Tryd.prog 17 #[.slice aT nm cT] W fun e w' => ∃ v', e = .returned v' ∧ Hid (w4.grownBy w' none) ∧ (convert 36 9 v').run Tryd.prog w' = .ok (.string (ByteArray.mk ⟨ckB m⟩)) w' ∧ (convert 36 9 u).run Tryd.prog w' = .ok (.string (ByteArray.mk ⟨ckB m⟩)) w') := fun W u hW => by
              refine (HDB.out W hW.1).mono ?_
              rintro e w' ⟨v', q1, q2, q3⟩
              exact ⟨v', q1, gb_none hW.1 q3, run_strU q2.rd, run_strU (hW.2.keep q3)⟩
            have HC : Hid (∀ W, w4.grownBy W none → Calls Tryd.prog 19 #[] W fun e w' => e = .returned (.bool true) ∧ Hid (Below w.heap.size w w')) := fun W hW => by
              refine (awake_any W).mono ?_
              rintro e w' ⟨q1, q2⟩
              exact ⟨q1, gb_below (gb_none (gb_none H3.out.1.old hW) q2)⟩
            have HZd : Hid (w4.grownBy w10.drew none) := gb_none HZ.out (gb_drew _ _)
            clear HBy HDB
            generalize ByteArray.mk ⟨ckB m⟩ = sx at *
            have qx : (sx.toList == sx.toList) = true := by simp
            go_wp2_with fail
            go_region_with
              (first
                | (go_at_call 16; with_reducible refine (HA0.out _ HZd.out).mono ?_; rintro e wA ⟨vA, rfl, HA, cA⟩)
                | (go_at_call 17; with_reducible refine (HB1.out _ _ HA.out).mono ?_; rintro e wB ⟨vB, rfl, HAB, cB, cA2⟩)
                | (go_at_call 17; with_reducible refine (HB0.out _ HZd.out).mono ?_; rintro e wA ⟨vB, rfl, HA, cB⟩)
                | (go_at_call 16; with_reducible refine (HA1.out _ _ HA.out).mono ?_; rintro e wB ⟨vA, rfl, HAB, cA, cB2⟩)
                | (go_at_call 19; with_reducible refine (HC.out _ HAB.out).mono ?_; rintro e wC ⟨rfl, HF⟩))
            all_goals go_wp2
            all_goals go_ret
            all_goals exact ⟨rfl, HF.out⟩
end Go.Proofs.YtnaccmbnblokmaaDoor
