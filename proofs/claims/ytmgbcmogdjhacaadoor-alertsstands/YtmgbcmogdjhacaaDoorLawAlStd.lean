/-
  AlertsStands: the walk of the law.
-/
import Derived.Test.YtmgbcmogdjhacaaDoorVE
import Derived.Deep.QuietTactic
import Derived.BigQuiet
namespace Go.Proofs.YtmgbcmogdjhacaaDoor
open Go.RowKit Go.Shelf Go.Sort Go.Maps Go.WideMaps

/-- behind Sweep or Put: the set, the first list, the step -/
def StQ (w : World) (gx : Nat) (R most : Int) (M Mw : List AlR) (v1 : Value) (b0 : Nat) (C : Obj) (W : World) : Prop := StM w gx R most M W ∧ RdX W v1 Mw ∧ W.heap[b0]? = some C
theorem StQ.keep {w W W' : World} {gx : Nat} {R most : Int} {M Mw : List AlR} {v1 : Value} {b0 : Nat} {C : Obj} (h : StQ w gx R most M Mw v1 b0 C W) (hg : W.grownBy W' none) : StQ w gx R most M Mw v1 b0 C W' := ⟨h.1.keep hg, h.2.1.keep hg, (hg.block b0 (some_lt2 h.2.2) (by simp)).trans h.2.2⟩
set_option maxRecDepth 8000 in
set_option maxHeartbeats 64000000 in
theorem alStands_walk (w : World) (R most : Int) (v : Value) (ops : List AOp) (hv : RdO w v ops) (hT : U8S w) :
    Calls Tryd.prog 4 #[.int .i64 R, .int .i64 most, v] w fun e w' => e = .returned (.bool true) ∧ Below w.heap.size w w' := by
  obtain ⟨va, vc, rfl, hvl, hvc⟩ := hv
  obtain ⟨K, hK⟩ : ∃ K, ops.length = K := ⟨_, rfl⟩
  rw [hK] at hvl hvc ⊢
  have HOP := hidJ hvc
  have HT := hidJ hT
  have HK : Hid (∀ W, w.grownBy W none → Calls Tryd.prog 9 #[] W fun e w' => e = .returned (.bool true) ∧ Hid (w.grownBy w' none)) := fun W hW => (known_any W (HT.out.keep hW)).mono fun e w' ⟨h1, h2⟩ => ⟨h1, gb_none hW h2⟩
  clear hvc hT hK
  by_cases hn : newOk R most
  · have HNw := hidJ (setB_new w R most hn)
    have hm5 : most ≤ 500 := hn.2.2
    clear hn
    go_enter Tryd.func4, Tryd.ntmps4
    go_wp2_with fail
    refine HNw.out.mono ?_
    rintro e w1 ⟨gx, rfl, q1, q2⟩
    have HSt : Hid (∃ M, StM w gx R most M w1) := ⟨[], _, q1, fun k hk => hk.1, q2⟩
    clear HNw q1 q2
    go_wp2_with fail
    go_loopw [8] (fun i wr => ∃ z : Nat, z ≤ K ∧ i = .int .i64 z ∧ Hid (∃ M, StM w gx R most M wr)) (fun i _ => K - (intOf i).toNat)
    case atStart => exact ⟨0, by omega, rfl, HSt.out⟩
    case round =>
      obtain ⟨z, hzK, rfl, HJ⟩ := hrel
      clear HSt
      by_cases hzl : z < K
      · have hzi : (z : Int) < (K : Int) := by omega
        obtain ⟨b, o, lx, ln, ld, rfl, f0, f1, f2, f3, f4, f5, f6, f7⟩ := HOP.out z hzl
        obtain ⟨⟨kd, nw, kp, ls, st, en⟩, ho⟩ : ∃ o, ops.getD z aoZ = o := ⟨_, rfl⟩
        rw [ho] at f0 f1 f2 f4 f5 f6 f7
        simp only at f0 f1 f2 f4 f5 f6 f7
        clear ho
        have HU := hidJ (And.intro f6 f7)
        have HF : Hid (w.cell? ⟨b, o + z * 6, none⟩ = some (.int .i64 kd) ∧ w.cell? ⟨b, o + z * 6 + 1, none⟩ = some (.int .i64 nw) ∧ w.cell? ⟨b, o + z * 6 + 2, none⟩ = some (.int .i64 kp) ∧ w.cell? ⟨b, o + z * 6 + 3, none⟩ = some (.slice lx ln ld) ∧ w.cell? ⟨b, o + z * 6 + 4, none⟩ = some (.int .i64 st) ∧ w.cell? ⟨b, o + z * 6 + 5, none⟩ = some (.int .i64 en)) := ⟨f0, f1, f2, f3, f4, f5⟩
        clear f0 f1 f2 f3 f4 f5 f6 f7
        obtain ⟨M, hM⟩ := HJ.out
        clear HJ
        obtain ⟨p, hp⟩ : ∃ p, wr.heap.size = p := ⟨_, rfl⟩
        obtain ⟨nW, hnW⟩ : ∃ n, M.length = n := ⟨_, rfl⟩
        have hok := hM.ok
        have hnI : (nW : Int) ≤ most := by rw [← hnW]; exact hok.2.2.2.1
        have hn5 : nW ≤ 500 := by omega
        have HMM := hidJ (And.intro hok hnW)
        have HA : Hid (Calls Tryd.prog 14 #[.pointer (some ⟨gx, 0, none⟩), .int .i64 0] wr fun e w' => ∃ a1 c1, e = .returned (.slice a1 nW c1) ∧ Hid (StA w p gx R most M M (.slice a1 nW c1) w')) := by
          refine hM.all.mono ?_
          rintro e w' ⟨a1, c1, rfl, t1, t2⟩
          rw [hp, hnW] at t1
          rw [hnW]
          exact ⟨a1, c1, rfl, t1⟩
        clear hM hok hnW hp
        go_wp2_with fail
        refine HA.out.mono ?_
        rintro e w2 ⟨a1, c1, rfl, H1⟩
        clear HA
        have f0 := cell_keep HF.out.1 H1.out.old
        have f1 := cell_keep HF.out.2.1 H1.out.old
        have f2 := cell_keep HF.out.2.2.1 H1.out.old
        have f3 := cell_keep HF.out.2.2.2.1 H1.out.old
        have f4 := cell_keep HF.out.2.2.2.2.1 H1.out.old
        have f5 := cell_keep HF.out.2.2.2.2.2 H1.out.old
        by_cases hk1 : kd = 1
        · as_aux_lemma =>
          subst hk1
          obtain ⟨eE, M', hE, hle, hs1, hs2, hall⟩ := sweep_two w p gx R most nw kp M (.slice a1 nW c1) HMM.out.1.1
          obtain ⟨nS, hnS⟩ : ∃ n, M'.length = n := ⟨_, rfl⟩
          have hnl : nS ≤ nW := by rw [← hnS, ← HMM.out.2]; exact hle
          have HS1 : Hid (∀ C, C = Obj.cells #[.int .i64 1, .int .i64 nw, .int .i64 kp, .slice lx ln ld, .int .i64 st, .int .i64 en] 36 → Calls Tryd.prog 15 #[.pointer (some ⟨gx, 0, none⟩), .int .i64 nw, .int .i64 kp] (w2.alloc C) fun e w' => e = .returned (.tuple #[.int .i64 ((nW : Int) - (nS : Int)), .int .i64 eE]) ∧ Hid (StA w p gx R most M' M (.slice a1 nW c1) w' ∧ w'.heap[w2.heap.size]? = some (opC 1 nw kp (.slice lx ln ld) st en))) := by
            rintro C rfl
            have k := World.grownBy_alloc w2 (.cells #[.int .i64 1, .int .i64 nw, .int .i64 kp, .slice lx ln ld, .int .i64 st, .int .i64 en] 36) none
            have hb := Go.heap_alloc_new w2 (.cells #[.int .i64 1, .int .i64 nw, .int .i64 kp, .slice lx ln ld, .int .i64 st, .int .i64 en] 36)
            have h := hs1 _ (H1.out.keep k)
            rw [HMM.out.2, hnS] at h
            refine h.mono ?_
            rintro e w' ⟨rfl, t1, t2⟩
            exact ⟨rfl, t1, (t2 _ H1.out.lt (some_lt2 hb)).trans hb⟩
          have HS2 : Hid (∀ W, StA w p gx R most M' M (.slice a1 nW c1) W ∧ W.heap[w2.heap.size]? = some (opC 1 nw kp (.slice lx ln ld) st en) → Calls Tryd.prog 15 #[.pointer (some ⟨gx, 0, none⟩), .int .i64 nw, .int .i64 kp] W fun e w' => e = .returned (.tuple #[.int .i64 0, .int .i64 eE]) ∧ Hid (StQ w gx R most M' M (.slice a1 nW c1) w2.heap.size (opC 1 nw kp (.slice lx ln ld) st en) w')) := by
            rintro W ⟨h1, h2⟩
            refine (hs2 W h1).mono ?_
            rintro e w' ⟨rfl, t1, t2⟩
            exact ⟨rfl, t1.m, t1.rdx, (t2 _ H1.out.lt (some_lt2 h2)).trans h2⟩
          have HALL : Hid (eE = 0 → ∀ a ∈ M, a.st ≤ nw → nw < a.en → (findA M' a.lbs).isSome = true) := hall
          have HNS := hidJ hnS
          clear hs1 hs2 hall hle hnS
          go_wp2_with fail
          refine (HS1.out _ rfl).mono ?_
          rintro e w3 ⟨rfl, H3⟩
          clear HS1 H1
          obtain ⟨d0, d1, d2, -⟩ := opCells H3.out.2
          have HA2 : Hid (Calls Tryd.prog 14 #[.pointer (some ⟨gx, 0, none⟩), .int .i64 0] w3 fun e w' => ∃ a2 c2, e = .returned (.slice a2 nS c2) ∧ Hid (StA w p gx R most M' M (.slice a1 nW c1) w' ∧ w'.heap[w2.heap.size]? = some (opC 1 nw kp (.slice lx ln ld) st en))) := by
            refine H3.out.1.m.all.mono ?_
            rintro e w' ⟨a2, c2, rfl, t1, t2⟩
            rw [HNS.out]
            exact ⟨a2, c2, rfl, H3.out.1.keep t2, (t2.block _ (some_lt2 H3.out.2) (by simp)).trans H3.out.2⟩
          go_wp2_with fail
          refine HA2.out.mono ?_
          rintro e w4 ⟨a2, c2, rfl, H4⟩
          clear HA2 H3 d0 d1 d2
          obtain ⟨d0, d1, d2, -⟩ := opCells H4.out.2
          go_wp2_with fail
          refine (HS2.out _ H4.out).mono ?_
          rintro e w5 ⟨rfl, H5⟩
          clear HS2 H4 d0 d1 d2 f0 f1 f2 f3 f4 f5
          generalize w2.heap.size = b0 at *
          go_wp2_with fail
          go_loopw [16] (fun k wr => ∃ y : Nat, y ≤ nW ∧ k = .int .i64 y ∧ Hid (StQ w gx R most M' M (.slice a1 nW c1) b0 (opC 1 nw kp (.slice lx ln ld) st en) wr)) (fun k _ => nW - (intOf k).toNat)
          case atStart => exact ⟨0, by omega, rfl, H5.out⟩
          case round =>
            obtain ⟨y, hyN, rfl, HQ⟩ := hrel
            clear H5
            by_cases hyl : y < nW
            · as_aux_lemma =>
              have hyi : (y : Int) < (nW : Int) := by omega
              obtain ⟨a', c', e1, hc1, hc2, k1⟩ := HQ.out.2.1
              simp only [Value.slice.injEq] at e1
              obtain ⟨rfl, -, rfl⟩ := e1
              rw [HMM.out.2] at hc1
              unfold maxLen at hc2
              obtain ⟨b1, o1, u1, rfl, x0, x1, x2, r1⟩ := k1 y (by rw [HMM.out.2]; exact hyl)
              clear k1
              obtain ⟨t1, t2, t3, hx⟩ : ∃ a n c, u1 = .slice a n c := by obtain ⟨a, c, h, _⟩ := r1; exact ⟨_, _, _, h⟩
              subst hx
              have hmem : M.getD y alZ ∈ M := getA_mem (by rw [HMM.out.2]; exact hyl)
              obtain ⟨⟨la, sa, ea⟩, haa⟩ : ∃ aa, M.getD y alZ = aa := ⟨_, rfl⟩
              rw [haa] at x1 x2 r1 hmem
              simp only at x1 x2 r1
              obtain ⟨hb, hhb⟩ : ∃ hb, (findA M' la).isSome = hb := ⟨_, rfl⟩
              have hag : eE = 0 → sa ≤ nw → nw < ea → hb = true := fun h1 h2 h3 => by rw [← hhb]; exact HALL.out h1 _ hmem h2 h3
              have HG : Hid (Calls Tryd.prog 16 #[.pointer (some ⟨gx, 0, none⟩), .slice t1 t2 t3] wr fun e w' => ∃ x n d gs ge, e = .returned (.tuple #[.agg #[.slice x n d, .int .i64 gs, .int .i64 ge], .bool hb]) ∧ (∀ C, (w'.alloc C).cell? ⟨b1, o1 + y * 3 + 1, none⟩ = some (.int .i64 sa)) ∧ (∀ C, (w'.alloc C).cell? ⟨b1, o1 + y * 3 + 2, none⟩ = some (.int .i64 ea)) ∧ (∀ C, (w'.alloc C).cell? ⟨b0, 1, none⟩ = some (.int .i64 nw)) ∧ Hid (StQ w gx R most M' M (.slice (some ⟨b1, o1, none⟩) nW c1) b0 (opC 1 nw kp (.slice lx ln ld) st en) w')) := by
                refine (HQ.out.1.get HT.out r1 (lbIn_right (HMM.out.1.2.1 _ hmem))).mono ?_
                rintro e w' ⟨x, n, d, rfl, -, g⟩
                rw [hhb]
                have hq := HQ.out.keep g
                exact ⟨x, n, d, _, _, rfl, fun C => cell_keep x1 (gb_none g (World.grownBy_alloc _ C none)), fun C => cell_keep x2 (gb_none g (World.grownBy_alloc _ C none)), fun C => cell_keep (opCells hq.2.2).2.1 (World.grownBy_alloc _ C none), hq⟩
              clear haa hhb hmem r1 x1 x2
              go_wp2_with fail
              refine HG.out.mono ?_
              rintro e w6 ⟨x6, n6, d6, gs, ge, rfl, g1, g2, g3, H6⟩
              clear HG HQ
              go_wp2_with fail
              rcases hE with rfl | rfl
              · by_cases h1 : sa ≤ nw
                · have c1' : decide (sa ≤ nw) = true := by simpa using h1
                  by_cases h2 : nw < ea
                  · have c2' : decide (nw < ea) = true := by simpa using h2
                    have hbt := hag rfl h1 h2
                    subst hbt
                    clear hag
                    go_quiet (fail)
                    go_wp2
                    go_roundw
                    case rel => exact ⟨y + 1, by omega, by go_num, H6.out.keep (gb_none (World.grownBy_alloc _ _ none) (gb_drewN _ _))⟩
                    case measure => simp [intOf]; omega
                  · have c2' : decide (nw < ea) = false := by simpa using h2
                    clear hag
                    go_quiet (fail)
                    go_wp2
                    go_roundw
                    case rel => exact ⟨y + 1, by omega, by go_num, H6.out.keep (gb_none (World.grownBy_alloc _ _ none) (gb_drewN _ _))⟩
                    case measure => simp [intOf]; omega
                · have c1' : decide (sa ≤ nw) = false := by simpa using h1
                  clear hag
                  go_quiet (fail)
                  go_wp2
                  go_roundw
                  case rel => exact ⟨y + 1, by omega, by go_num, H6.out.keep (gb_none (World.grownBy_alloc _ _ none) (gb_drewN _ _))⟩
                  case measure => simp [intOf]; omega
              · clear hag
                go_quiet (fail)
                go_wp2
                go_roundw
                case rel => exact ⟨y + 1, by omega, by go_num, H6.out.keep (gb_none (World.grownBy_alloc _ _ none) (gb_drewN _ _))⟩
                case measure => simp [intOf]; omega
            · as_aux_lemma =>
              have hyi : ¬ (y : Int) < (nW : Int) := by omega
              go_wp2
              go_roundw
              case rel => exact ⟨z + 1, by omega, by go_num, _, HQ.out.1⟩
              case measure => simp [intOf]; omega
        · as_aux_lemma =>
          have hkb : (kd == 1) = false := by rw [beq_eq_false_iff_ne]; exact hk1
          obtain ⟨pE, hpE⟩ : ∃ x, putE R most nw ⟨ls, st, en⟩ M = x := ⟨_, rfl⟩
          obtain ⟨M2, hM2⟩ : ∃ x, putM R most nw ⟨ls, st, en⟩ M = x := ⟨_, rfl⟩
          obtain ⟨n2, hn2⟩ : ∃ n, M2.length = n := ⟨_, rfl⟩
          have HPM : Hid (M2.length = n2 ∧ (pE ≠ 0 → M2 = M) ∧ ∀ b ∈ M, b.lbs ≠ ls → findA M2 b.lbs = some b) := ⟨hn2, fun h => by rw [← hM2]; exact put_same (by rw [hpE]; exact h), fun b hb h => by rw [← hM2]; exact put_other (a := ⟨ls, st, en⟩) HMM.out.1.1 hb h⟩
          have HPu : Hid (∀ C, C = Obj.cells #[.int .i64 kd, .int .i64 nw, .int .i64 kp, .slice lx ln ld, .int .i64 st, .int .i64 en] 36 → Calls Tryd.prog 17 #[.pointer (some ⟨gx, 0, none⟩), .int .i64 nw, .agg #[.slice lx ln ld, .int .i64 st, .int .i64 en]] (w2.alloc C) fun e w' => e = .returned (.int .i64 pE) ∧ Hid (StQ w gx R most M2 M (.slice a1 nW c1) w2.heap.size (opC kd nw kp (.slice lx ln ld) st en) w')) := by
            rintro C rfl
            have k := World.grownBy_alloc w2 (.cells #[.int .i64 kd, .int .i64 nw, .int .i64 kp, .slice lx ln ld, .int .i64 st, .int .i64 en] 36) none
            have hb := Go.heap_alloc_new w2 (.cells #[.int .i64 kd, .int .i64 nw, .int .i64 kp, .slice lx ln ld, .int .i64 st, .int .i64 en] 36)
            have h := (H1.out.keep k).put HT.out nw st en HU.out.1 HU.out.2
            rw [hpE, hM2] at h
            refine h.mono ?_
            rintro e w' ⟨rfl, t1, t2, t3⟩
            exact ⟨rfl, t1, t2, (t3 _ H1.out.lt (some_lt2 hb)).trans hb⟩
          clear hpE hM2 hn2 hk1
          go_wp2_with fail
          refine (HPu.out _ rfl).mono ?_
          rintro e w3 ⟨rfl, H3⟩
          clear HPu H1 f0 f1 f2 f3 f4 f5
          generalize w2.heap.size = b0 at *
          have hok2 := H3.out.1.ok
          have hn2I : (n2 : Int) ≤ most := by rw [← HPM.out.1]; exact hok2.2.2.2.1
          have hn25 : n2 ≤ 500 := by omega
          have HM2 := hidJ hok2
          clear hok2
          have HA2 : Hid (Calls Tryd.prog 14 #[.pointer (some ⟨gx, 0, none⟩), .int .i64 0] w3 fun e w' => ∃ a2 c2, e = .returned (.slice a2 n2 c2) ∧ Hid (StQ w gx R most M2 M (.slice a1 nW c1) b0 (opC kd nw kp (.slice lx ln ld) st en) w' ∧ RdX w' (.slice a2 n2 c2) M2)) := by
            refine H3.out.1.all.mono ?_
            rintro e w' ⟨a2, c2, rfl, t1, t2⟩
            have t3 := t1.rdx
            rw [HPM.out.1] at t3 ⊢
            exact ⟨a2, c2, rfl, H3.out.keep t2, t3⟩
          go_wp2_with fail
          refine HA2.out.mono ?_
          rintro e w4 ⟨a2, c2, rfl, H4⟩
          clear HA2 H3
          have HL : Hid (∀ W, StQ w gx R most M2 M (.slice a1 nW c1) b0 (opC kd nw kp (.slice lx ln ld) st en) W ∧ RdX W (.slice a2 n2 c2) M2 → Calls Tryd.prog 12 #[.pointer (some ⟨gx, 0, none⟩)] W fun e w' => e = .returned (.int .i64 (n2 : Int)) ∧ Hid (StQ w gx R most M2 M (.slice a1 nW c1) b0 (opC kd nw kp (.slice lx ln ld) st en) w' ∧ RdX w' (.slice a2 n2 c2) M2)) := by
            intro W h
            refine h.1.1.len.mono ?_
            rintro e w' ⟨rfl, rfl⟩
            rw [HPM.out.1]
            exact ⟨rfl, h⟩
          have hgt : ¬ most < (n2 : Int) := by omega
          by_cases hp0 : pE = 0
          · as_aux_lemma =>
            subst hp0
            go_wp2_with fail
            refine (HL.out _ H4.out).mono ?_
            rintro e w5 ⟨rfl, H5⟩
            clear HL H4
            go_wp2_with fail
            go_loopw [21] (fun k wr => ∃ y : Nat, y ≤ n2 ∧ k = .int .i64 y ∧ Hid (StQ w gx R most M2 M (.slice a1 nW c1) b0 (opC kd nw kp (.slice lx ln ld) st en) wr ∧ RdX wr (.slice a2 n2 c2) M2)) (fun k _ => n2 - (intOf k).toNat)
            case atStart => exact ⟨0, by omega, rfl, H5.out⟩
            case round =>
              obtain ⟨y, hyN, rfl, HQ⟩ := hrel
              clear H5
              by_cases hyl : y < n2
              · have hyi : (y : Int) < (n2 : Int) := by omega
                obtain ⟨a', c', e1, hc1, hc2, k1⟩ := HQ.out.2
                simp only [Value.slice.injEq] at e1
                obtain ⟨rfl, -, rfl⟩ := e1
                rw [HPM.out.1] at hc1
                unfold maxLen at hc2
                obtain ⟨b1, o1, u1, rfl, x0, x1, x2, r1⟩ := k1 y (by rw [HPM.out.1]; exact hyl)
                obtain ⟨t1, t2, t3, hx⟩ : ∃ a n c, u1 = .slice a n c := by obtain ⟨a, c, h, _⟩ := r1; exact ⟨_, _, _, h⟩
                subst hx
                have hmem : M2.getD y alZ ∈ M2 := getA_mem (by rw [HPM.out.1]; exact hyl)
                obtain ⟨⟨la, sa, ea⟩, haa⟩ : ∃ aa, M2.getD y alZ = aa := ⟨_, rfl⟩
                have hse : ¬ ea < sa := by
                  have := (HM2.out.2.2.1 _ hmem).2.2.1
                  rw [haa] at this
                  simp only at this
                  omega
                rw [haa] at x1 x2 r1
                simp only at x1 x2 r1
                by_cases hy0 : y = 0
                · as_aux_lemma =>
                  have hyz : ¬ (0 : Int) < (y : Int) := by omega
                  have hyd : decide ((0 : Int) < (y : Int)) = false := decide_eq_false hyz
                  have hyd2 : decide (0 < y) = false := decide_eq_false (by omega)
                  have hsd : decide (ea < sa) = false := decide_eq_false hse
                  clear k1 haa hmem hy0
                  go_wp2_with fail
                  go_quiet (fail)
                  go_wp2
                  go_roundw
                  case rel => exact ⟨y + 1, by omega, by go_num, HQ.out.1.keep (gb_drewN _ _), HQ.out.2.keep (gb_drewN _ _)⟩
                  case measure => simp [intOf]; omega
                · as_aux_lemma =>
                  obtain ⟨q, hq⟩ : ∃ q, y = q + 1 := ⟨y - 1, by omega⟩
                  obtain ⟨b2, o2, u2, e2, y0, -, -, r2⟩ := k1 q (by rw [HPM.out.1]; omega)
                  simp only [Option.some.injEq, Addr.mk.injEq, and_true] at e2
                  obtain ⟨rfl, rfl⟩ := e2
                  obtain ⟨s1, s2, s3, hx⟩ : ∃ a n c, u2 = .slice a n c := by obtain ⟨a, c, h, _⟩ := r2; exact ⟨_, _, _, h⟩
                  subst hx
                  obtain ⟨cm, hcm⟩ : ∃ cm, cmpLs (M2.getD q alZ).lbs la = cm := ⟨_, rfl⟩
                  have hneg : ¬ 0 ≤ cm := by
                    subst hq
                    have h1 : q < M2.length := by rw [HPM.out.1]; omega
                    have h2 : q + 1 < M2.length := by rw [HPM.out.1]; omega
                    have h := List.pairwise_iff_getElem.1 HM2.out.1 q (q + 1) h1 h2 (by omega)
                    have e1 : M2.getD q alZ = M2[q] := by simp [List.getD, h1]
                    have e2 : M2.getD (q + 1) alZ = M2[q + 1] := by simp [List.getD, h2]
                    rw [← e1, ← e2, haa, hcm] at h
                    omega
                  have HC : Hid (∀ n, Calls Tryd.prog 18 #[.slice s1 s2 s3, .slice t1 t2 t3] (wr.drewN n) fun e w' => e = .returned (.int .i64 cm) ∧ ∃ m, w' = (wr.drewN n).drewN m) := fun n => by
                    have h := refCompareQ (wr.drewN n) _ _ _ _ (r2.keep (gb_drewN _ n)) (r1.keep (gb_drewN _ n))
                    rw [hcm] at h
                    exact h
                  have hyz : (0 : Int) < (y : Int) := by omega
                  have hyd : decide ((0 : Int) < (y : Int)) = true := decide_eq_true hyz
                  have hyd2 : decide (0 < y) = true := decide_eq_true (by omega)
                  have hsd : decide (ea < sa) = false := decide_eq_false hse
                  have hcd : decide (0 ≤ cm) = false := decide_eq_false hneg
                  have hqi : (q : Int) < (n2 : Int) := by omega
                  have hqn : q < n2 := by omega
                  have hw2 : (y : Int) - 1 = (q : Int) := by omega
                  have HQY := hidJ hq
                  clear k1 haa hmem r1 r2 hcm hy0 hq
                  go_wp2_with fail
                  go_quiet ((go_at_call 18; exact Calls.quiet_of (HC.out _)))
                  go_wp2
                  go_roundw
                  case rel => exact ⟨y + 1, by omega, by go_num, HQ.out.1.keep (gb_drewN _ _), HQ.out.2.keep (gb_drewN _ _)⟩
                  case measure => simp [intOf]; omega
              · as_aux_lemma =>
                have hyi : ¬ (y : Int) < (n2 : Int) := by omega
                have H7 := hidJ HQ.out.1
                clear HQ
                go_wp2_with fail
                go_loopw [22] (fun k wr => ∃ y : Nat, y ≤ nW ∧ k = .int .i64 y ∧ Hid (StQ w gx R most M2 M (.slice a1 nW c1) b0 (opC kd nw kp (.slice lx ln ld) st en) wr)) (fun k _ => nW - (intOf k).toNat)
                case atStart => exact ⟨0, by omega, rfl, H7.out⟩
                case round =>
                  obtain ⟨y, hyN, rfl, HQ⟩ := hrel
                  clear H7
                  by_cases hyl : y < nW
                  · have hyi : (y : Int) < (nW : Int) := by omega
                    obtain ⟨a', c', e1, hc1, hc2, k1⟩ := HQ.out.2.1
                    simp only [Value.slice.injEq] at e1
                    obtain ⟨rfl, -, rfl⟩ := e1
                    rw [HMM.out.2] at hc1
                    unfold maxLen at hc2
                    obtain ⟨b1, o1, u1, rfl, x0, x1, x2, r1⟩ := k1 y (by rw [HMM.out.2]; exact hyl)
                    clear k1
                    obtain ⟨t1, t2, t3, hx⟩ : ∃ a n c, u1 = .slice a n c := by obtain ⟨a, c, h, _⟩ := r1; exact ⟨_, _, _, h⟩
                    subst hx
                    have hmem : M.getD y alZ ∈ M := getA_mem (by rw [HMM.out.2]; exact hyl)
                    obtain ⟨⟨la, sa, ea⟩, haa⟩ : ∃ aa, M.getD y alZ = aa := ⟨_, rfl⟩
                    rw [haa] at x1 x2 r1 hmem
                    simp only at x1 x2 r1
                    have hlw := HU.out.1.keep HQ.out.1.gb
                    obtain ⟨sb, hsb⟩ : ∃ sb, decide (la = ls) = sb := ⟨_, rfl⟩
                    have HSL : Hid (∀ W, wr.grownBy W none → Calls Tryd.prog 19 #[.slice t1 t2 t3, .slice lx ln ld] W fun e w' => e = .returned (.bool sb) ∧ Dr W w') := fun W hW => by
                      have h := refSameQ W _ _ _ _ (r1.keep hW) (hlw.keep hW)
                      rw [hsb] at h
                      exact h
                    by_cases hsl : la = ls
                    · as_aux_lemma =>
                      have hsbt : sb = true := by rw [← hsb]; exact decide_eq_true hsl
                      subst hsbt
                      have HG : Hid (Calls Tryd.prog 16 #[.pointer (some ⟨gx, 0, none⟩), .slice t1 t2 t3] wr fun e w' => ∃ x n d gs ge hb, e = .returned (.tuple #[.agg #[.slice x n d, .int .i64 gs, .int .i64 ge], .bool hb]) ∧ Hid (wr.grownBy w' none)) := by
                        refine (HQ.out.1.get HT.out r1 (lbIn_right (HMM.out.1.2.1 _ hmem))).mono ?_
                        rintro e w' ⟨x, n, d, rfl, -, g⟩
                        exact ⟨x, n, d, _, _, _, rfl, g⟩
                      have HX0 := hidJ x0
                      clear haa hmem r1 x1 x2 hsb hsl hlw
                      go_wp2_with fail
                      refine HG.out.mono ?_
                      rintro e w6 ⟨x6, n6, d6, gs, ge, hb, rfl, H6⟩
                      clear HG
                      go_wp2_with fail
                      have HW6 : Hid (wr.grownBy (w6.alloc (.cells #[.slice x6 n6 d6, .int .i64 gs, .int .i64 ge] 34)) none) := gb_none H6.out (World.grownBy_alloc _ _ none)
                      generalize w6.alloc (.cells #[.slice x6 n6 d6, .int .i64 gs, .int .i64 ge] 34) = w7 at *
                      have g0 := cell_keep HX0.out HW6.out
                      have g1 := (opCells (HQ.out.keep HW6.out).2.2).2.2.2.1
                      have HSM : Hid (∀ n, Calls Tryd.prog 19 #[.slice t1 t2 t3, .slice lx ln ld] (w7.drewN n) fun e w' => e = .returned (.bool true) ∧ ∃ m, w' = (w7.drewN n).drewN m) := fun n => HSL.out _ (gb_none HW6.out (gb_drewN _ n))
                      clear x0 HX0 HSL H6
                      go_quiet ((go_at_call 19; exact Calls.quiet_of (HSM.out _)))
                      go_wp2
                      go_roundw
                      case rel => exact ⟨y + 1, by omega, by go_num, HQ.out.keep (gb_none HW6.out (gb_drewN _ _))⟩
                      case measure => simp [intOf]; omega
                    · as_aux_lemma =>
                      have hsbt : sb = false := by rw [← hsb]; exact decide_eq_false hsl
                      subst hsbt
                      have hfd : findA M2 la = some ⟨la, sa, ea⟩ := HPM.out.2.2 _ hmem hsl
                      have HG : Hid (Calls Tryd.prog 16 #[.pointer (some ⟨gx, 0, none⟩), .slice t1 t2 t3] wr fun e w' => ∃ x n d, e = .returned (.tuple #[.agg #[.slice x n d, .int .i64 sa, .int .i64 ea], .bool true]) ∧ Hid (wr.grownBy w' none ∧ RdL w' (.slice x n d) la)) := by
                        have h := HQ.out.1.get HT.out r1 (lbIn_right (HMM.out.1.2.1 _ hmem))
                        unfold getA at h
                        rw [hfd] at h
                        refine h.mono ?_
                        rintro e w' ⟨x, n, d, rfl, h1, g⟩
                        exact ⟨x, n, d, rfl, g, h1⟩
                      have HX0 := hidJ (And.intro x0 (And.intro x1 (And.intro x2 r1)))
                      clear haa hmem r1 x1 x2 hsb hsl hlw hfd
                      go_wp2_with fail
                      refine HG.out.mono ?_
                      rintro e w6 ⟨x6, n6, d6, rfl, H6⟩
                      clear HG
                      go_wp2_with fail
                      have HW6 : Hid (wr.grownBy (w6.alloc (.cells #[.slice x6 n6 d6, .int .i64 sa, .int .i64 ea] 34)) none ∧ RdL (w6.alloc (.cells #[.slice x6 n6 d6, .int .i64 sa, .int .i64 ea] 34)) (.slice x6 n6 d6) la ∧ B3 (w6.alloc (.cells #[.slice x6 n6 d6, .int .i64 sa, .int .i64 ea] 34)) w6.heap.size 34 (.slice x6 n6 d6) (.int .i64 sa) (.int .i64 ea)) := ⟨gb_none H6.out.1 (World.grownBy_alloc _ _ none), H6.out.2.keep (World.grownBy_alloc _ _ none), B3.new w6 34 _ _ _⟩
                      generalize w6.alloc (.cells #[.slice x6 n6 d6, .int .i64 sa, .int .i64 ea] 34) = w7 at *
                      generalize w6.heap.size = bx at *
                      have g0 := cell_keep HX0.out.1 HW6.out.1
                      have g1 := (opCells (HQ.out.keep HW6.out.1).2.2).2.2.2.1
                      obtain ⟨g2, g3, g4, -⟩ := HW6.out.2.2.cells
                      have HSM : Hid (∀ W, w7.grownBy W none → Calls Tryd.prog 19 #[.slice t1 t2 t3, .slice lx ln ld] W fun e w' => e = .returned (.bool false) ∧ w'.cell? ⟨b1, o1 + y * 3, none⟩ = some (.slice t1 t2 t3) ∧ w'.cell? ⟨b0, 3, none⟩ = some (.slice lx ln ld) ∧ w'.cell? ⟨bx, 0, none⟩ = some (.slice x6 n6 d6) ∧ w'.cell? ⟨bx, 1, none⟩ = some (.int .i64 sa) ∧ w'.cell? ⟨bx, 2, none⟩ = some (.int .i64 ea) ∧ Hid (w7.grownBy w' none)) := fun W hW => by
                        refine (HSL.out W (gb_none HW6.out.1 hW)).mono ?_
                        rintro e w' ⟨rfl, g⟩
                        have g' := gb_none hW g.gb
                        exact ⟨rfl, cell_keep g0 g', cell_keep g1 g', cell_keep g2 g', cell_keep g3 g', cell_keep g4 g', g'⟩
                      have HRS : Hid (∀ W a cc, w7.grownBy W none ∧ W.heap[a]? = some (.cells #[.slice x6 n6 d6, .int .i64 sa, .int .i64 ea] 34 (0, 0)) ∧ 1 ≤ cc ∧ cc ≤ 9223372036854775807 → Calls Tryd.prog 13 #[.slice (some ⟨a, 0, none⟩) 1 1, .slice (some ⟨b1, o1 + y * 3, none⟩) 1 cc] W fun e w' => e = .returned (.bool true) ∧ w'.cell? ⟨b1, o1 + y * 3, none⟩ = some (.slice t1 t2 t3) ∧ w'.cell? ⟨b0, 3, none⟩ = some (.slice lx ln ld) ∧ w'.cell? ⟨bx, 0, none⟩ = some (.slice x6 n6 d6) ∧ w'.cell? ⟨bx, 1, none⟩ = some (.int .i64 sa) ∧ w'.cell? ⟨bx, 2, none⟩ = some (.int .i64 ea) ∧ Hid (StQ w gx R most M2 M (.slice (some ⟨b1, o1, none⟩) nW c1) b0 (opC kd nw kp (.slice lx ln ld) st en) w')) := by
                        rintro W a cc ⟨hW, hb, hc3, hc4⟩
                        have g7 := gb_none HW6.out.1 hW
                        have d0 : W.cell? ⟨a, 0, none⟩ = some (.slice x6 n6 d6) := by simp [World.cell?, hb]
                        have d1 : W.cell? ⟨a, 1, none⟩ = some (.int .i64 sa) := by simp [World.cell?, hb]
                        have d2 : W.cell? ⟨a, 2, none⟩ = some (.int .i64 ea) := by simp [World.cell?, hb]
                        refine (refSameA_any W _ _ [⟨la, sa, ea⟩] ⟨_, _, rfl, Nat.le_refl _, by show 1 ≤ maxLen; unfold maxLen; omega, fun j hj => ?_⟩ ⟨_, _, rfl, hc3, by unfold maxLen; omega, fun j hj => ?_⟩).mono ?_
                        · have hj0 : j = 0 := by simp at hj; exact hj
                          subst hj0
                          exact ⟨a, 0, _, rfl, d0, d1, d2, HW6.out.2.1.keep hW⟩
                        · have hj0 : j = 0 := by simp at hj; exact hj
                          subst hj0
                          exact ⟨b1, o1 + y * 3, _, rfl, cell_keep HX0.out.1 g7, cell_keep HX0.out.2.1 g7, cell_keep HX0.out.2.2.1 g7, HX0.out.2.2.2.keep g7⟩
                        · rintro e w' ⟨rfl, g⟩
                          have g' := gb_none hW g
                          exact ⟨rfl, cell_keep g0 g', cell_keep g1 g', cell_keep g2 g', cell_keep g3 g', cell_keep g4 g', HQ.out.keep (gb_none g7 g)⟩
                      clear HSL H6 x0
                      obtain ⟨y1, hy1⟩ : ∃ y1, y1 = y + 1 := ⟨_, rfl⟩
                      have hwy : IntKind.i64.wrap ((y : Int) + 1) = (y1 : Int) := by rw [wrapI (by omega) (by omega)]; omega
                      have hsr : ∀ W, (Instr.slice 38 (.slice (some ⟨b1, o1, none⟩) nW c1) (some (.int .i64 (y : Int))) (some (.int .i64 (y1 : Int))) none).run Tryd.prog W = .ok (.slice (some ⟨b1, o1 + y * 3, none⟩) 1 (c1 - y)) W := fun W => run_oneX W b1 o1 nW c1 y y1 hyl hc1 hy1
                      have HY1 := hidJ hy1
                      clear hy1
                      go_region_held3 (fun w' => w'.cell? ⟨b1, o1 + y * 3, none⟩ = some (.slice t1 t2 t3) ∧ w'.cell? ⟨b0, 3, none⟩ = some (.slice lx ln ld) ∧ w'.cell? ⟨bx, 0, none⟩ = some (.slice x6 n6 d6) ∧ w'.cell? ⟨bx, 1, none⟩ = some (.int .i64 sa) ∧ w'.cell? ⟨bx, 2, none⟩ = some (.int .i64 ea)) (go_keep)
                        (first | (go_at_call 19; with_reducible refine (HSM.out _ ?_).mono ?_; (first | exact gb_refl _ _ | exact gb_drew _ none); rintro e w8 ⟨rfl, i0, i1, i2, i3, i4, H8⟩) | (go_at_call 13; with_reducible refine (HRS.out _ _ _ ⟨?_, ?_, ?_, ?_⟩).mono ?_; (first | exact gb_none H8.out (World.grownBy_alloc _ _ none) | exact gb_none H8.out (gb_none (World.grownBy_alloc _ _ none) (gb_drew _ none)) | exact gb_none H8.out (gb_none (gb_drew _ none) (World.grownBy_alloc _ _ none))); (first | exact Go.heap_alloc_new _ _); omega; omega; rintro e w9 ⟨rfl, j0, j1, j2, j3, j4, H9⟩))
                      all_goals
                        go_wp2
                        go_roundw
                        case rel =>
                          have hy1 := HY1.out
                          first | exact ⟨y1, by omega, by first | rfl | go_num, H9⟩ | exact ⟨y1, by omega, by first | rfl | go_num, H9.out.keep (gb_drew _ none)⟩
                        case measure =>
                          have hy1 := HY1.out
                          simp [intOf]
                          omega
                  · as_aux_lemma =>
                    have hyi : ¬ (y : Int) < (nW : Int) := by omega
                    go_wp2
                    go_roundw
                    case rel => exact ⟨z + 1, by omega, by go_num, _, HQ.out.1⟩
                    case measure => simp [intOf]; omega
          · as_aux_lemma =>
            have hpb : (pE == 0) = false := by rw [beq_eq_false_iff_ne]; exact hp0
            have HSm : Hid (Calls Tryd.prog 13 #[.slice a2 n2 c2, .slice a1 nW c1] w4 fun e w' => e = .returned (.bool true) ∧ Hid (StQ w gx R most M2 M (.slice a1 nW c1) b0 (opC kd nw kp (.slice lx ln ld) st en) w' ∧ RdX w' (.slice a2 n2 c2) M2)) := by
              refine (refSameA_any w4 _ _ M (by rw [← HPM.out.2.1 hp0]; exact H4.out.2) H4.out.1.2.1).mono ?_
              rintro e w' ⟨rfl, g⟩
              exact ⟨rfl, H4.out.1.keep g, H4.out.2.keep g⟩
            go_wp2_with fail
            refine HSm.out.mono ?_
            rintro e w6 ⟨rfl, H6⟩
            clear HSm H4
            go_wp2_with fail
            refine (HL.out _ H6.out).mono ?_
            rintro e w5 ⟨rfl, H5⟩
            clear HL H6
            go_wp2_with fail
            go_loopw [21] (fun k wr => ∃ y : Nat, y ≤ n2 ∧ k = .int .i64 y ∧ Hid (StQ w gx R most M2 M (.slice a1 nW c1) b0 (opC kd nw kp (.slice lx ln ld) st en) wr ∧ RdX wr (.slice a2 n2 c2) M2)) (fun k _ => n2 - (intOf k).toNat)
            case atStart => exact ⟨0, by omega, rfl, H5.out⟩
            case round =>
              obtain ⟨y, hyN, rfl, HQ⟩ := hrel
              clear H5
              by_cases hyl : y < n2
              · have hyi : (y : Int) < (n2 : Int) := by omega
                obtain ⟨a', c', e1, hc1, hc2, k1⟩ := HQ.out.2
                simp only [Value.slice.injEq] at e1
                obtain ⟨rfl, -, rfl⟩ := e1
                rw [HPM.out.1] at hc1
                unfold maxLen at hc2
                obtain ⟨b1, o1, u1, rfl, x0, x1, x2, r1⟩ := k1 y (by rw [HPM.out.1]; exact hyl)
                obtain ⟨t1, t2, t3, hx⟩ : ∃ a n c, u1 = .slice a n c := by obtain ⟨a, c, h, _⟩ := r1; exact ⟨_, _, _, h⟩
                subst hx
                have hmem : M2.getD y alZ ∈ M2 := getA_mem (by rw [HPM.out.1]; exact hyl)
                obtain ⟨⟨la, sa, ea⟩, haa⟩ : ∃ aa, M2.getD y alZ = aa := ⟨_, rfl⟩
                have hse : ¬ ea < sa := by
                  have := (HM2.out.2.2.1 _ hmem).2.2.1
                  rw [haa] at this
                  simp only at this
                  omega
                rw [haa] at x1 x2 r1
                simp only at x1 x2 r1
                by_cases hy0 : y = 0
                · as_aux_lemma =>
                  have hyz : ¬ (0 : Int) < (y : Int) := by omega
                  have hyd : decide ((0 : Int) < (y : Int)) = false := decide_eq_false hyz
                  have hyd2 : decide (0 < y) = false := decide_eq_false (by omega)
                  have hsd : decide (ea < sa) = false := decide_eq_false hse
                  clear k1 haa hmem hy0
                  go_wp2_with fail
                  go_quiet (fail)
                  go_wp2
                  go_roundw
                  case rel => exact ⟨y + 1, by omega, by go_num, HQ.out.1.keep (gb_drewN _ _), HQ.out.2.keep (gb_drewN _ _)⟩
                  case measure => simp [intOf]; omega
                · as_aux_lemma =>
                  obtain ⟨q, hq⟩ : ∃ q, y = q + 1 := ⟨y - 1, by omega⟩
                  obtain ⟨b2, o2, u2, e2, y0, -, -, r2⟩ := k1 q (by rw [HPM.out.1]; omega)
                  simp only [Option.some.injEq, Addr.mk.injEq, and_true] at e2
                  obtain ⟨rfl, rfl⟩ := e2
                  obtain ⟨s1, s2, s3, hx⟩ : ∃ a n c, u2 = .slice a n c := by obtain ⟨a, c, h, _⟩ := r2; exact ⟨_, _, _, h⟩
                  subst hx
                  obtain ⟨cm, hcm⟩ : ∃ cm, cmpLs (M2.getD q alZ).lbs la = cm := ⟨_, rfl⟩
                  have hneg : ¬ 0 ≤ cm := by
                    subst hq
                    have h1 : q < M2.length := by rw [HPM.out.1]; omega
                    have h2 : q + 1 < M2.length := by rw [HPM.out.1]; omega
                    have h := List.pairwise_iff_getElem.1 HM2.out.1 q (q + 1) h1 h2 (by omega)
                    have e1 : M2.getD q alZ = M2[q] := by simp [List.getD, h1]
                    have e2 : M2.getD (q + 1) alZ = M2[q + 1] := by simp [List.getD, h2]
                    rw [← e1, ← e2, haa, hcm] at h
                    omega
                  have HC : Hid (∀ n, Calls Tryd.prog 18 #[.slice s1 s2 s3, .slice t1 t2 t3] (wr.drewN n) fun e w' => e = .returned (.int .i64 cm) ∧ ∃ m, w' = (wr.drewN n).drewN m) := fun n => by
                    have h := refCompareQ (wr.drewN n) _ _ _ _ (r2.keep (gb_drewN _ n)) (r1.keep (gb_drewN _ n))
                    rw [hcm] at h
                    exact h
                  have hyz : (0 : Int) < (y : Int) := by omega
                  have hyd : decide ((0 : Int) < (y : Int)) = true := decide_eq_true hyz
                  have hyd2 : decide (0 < y) = true := decide_eq_true (by omega)
                  have hsd : decide (ea < sa) = false := decide_eq_false hse
                  have hcd : decide (0 ≤ cm) = false := decide_eq_false hneg
                  have hqi : (q : Int) < (n2 : Int) := by omega
                  have hqn : q < n2 := by omega
                  have hw2 : (y : Int) - 1 = (q : Int) := by omega
                  have HQY := hidJ hq
                  clear k1 haa hmem r1 r2 hcm hy0 hq
                  go_wp2_with fail
                  go_quiet ((go_at_call 18; exact Calls.quiet_of (HC.out _)))
                  go_wp2
                  go_roundw
                  case rel => exact ⟨y + 1, by omega, by go_num, HQ.out.1.keep (gb_drewN _ _), HQ.out.2.keep (gb_drewN _ _)⟩
                  case measure => simp [intOf]; omega
              · as_aux_lemma =>
                have hyi : ¬ (y : Int) < (n2 : Int) := by omega
                have H7 := hidJ HQ.out.1
                clear HQ
                go_wp2_with fail
                go_loopw [22] (fun k wr => ∃ y : Nat, y ≤ nW ∧ k = .int .i64 y ∧ Hid (StQ w gx R most M2 M (.slice a1 nW c1) b0 (opC kd nw kp (.slice lx ln ld) st en) wr)) (fun k _ => nW - (intOf k).toNat)
                case atStart => exact ⟨0, by omega, rfl, H7.out⟩
                case round =>
                  obtain ⟨y, hyN, rfl, HQ⟩ := hrel
                  clear H7
                  by_cases hyl : y < nW
                  · have hyi : (y : Int) < (nW : Int) := by omega
                    obtain ⟨a', c', e1, hc1, hc2, k1⟩ := HQ.out.2.1
                    simp only [Value.slice.injEq] at e1
                    obtain ⟨rfl, -, rfl⟩ := e1
                    rw [HMM.out.2] at hc1
                    unfold maxLen at hc2
                    obtain ⟨b1, o1, u1, rfl, x0, x1, x2, r1⟩ := k1 y (by rw [HMM.out.2]; exact hyl)
                    clear k1
                    obtain ⟨t1, t2, t3, hx⟩ : ∃ a n c, u1 = .slice a n c := by obtain ⟨a, c, h, _⟩ := r1; exact ⟨_, _, _, h⟩
                    subst hx
                    have hmem : M.getD y alZ ∈ M := getA_mem (by rw [HMM.out.2]; exact hyl)
                    obtain ⟨⟨la, sa, ea⟩, haa⟩ : ∃ aa, M.getD y alZ = aa := ⟨_, rfl⟩
                    rw [haa] at x1 x2 r1 hmem
                    simp only at x1 x2 r1
                    have hlw := HU.out.1.keep HQ.out.1.gb
                    obtain ⟨sb, hsb⟩ : ∃ sb, decide (la = ls) = sb := ⟨_, rfl⟩
                    have HSL : Hid (∀ W, wr.grownBy W none → Calls Tryd.prog 19 #[.slice t1 t2 t3, .slice lx ln ld] W fun e w' => e = .returned (.bool sb) ∧ Dr W w') := fun W hW => by
                      have h := refSameQ W _ _ _ _ (r1.keep hW) (hlw.keep hW)
                      rw [hsb] at h
                      exact h
                    by_cases hsl : la = ls
                    · as_aux_lemma =>
                      have hsbt : sb = true := by rw [← hsb]; exact decide_eq_true hsl
                      subst hsbt
                      have HG : Hid (Calls Tryd.prog 16 #[.pointer (some ⟨gx, 0, none⟩), .slice t1 t2 t3] wr fun e w' => ∃ x n d gs ge hb, e = .returned (.tuple #[.agg #[.slice x n d, .int .i64 gs, .int .i64 ge], .bool hb]) ∧ Hid (wr.grownBy w' none)) := by
                        refine (HQ.out.1.get HT.out r1 (lbIn_right (HMM.out.1.2.1 _ hmem))).mono ?_
                        rintro e w' ⟨x, n, d, rfl, -, g⟩
                        exact ⟨x, n, d, _, _, _, rfl, g⟩
                      have HX0 := hidJ x0
                      clear haa hmem r1 x1 x2 hsb hsl hlw
                      go_wp2_with fail
                      refine HG.out.mono ?_
                      rintro e w6 ⟨x6, n6, d6, gs, ge, hb, rfl, H6⟩
                      clear HG
                      go_wp2_with fail
                      have HW6 : Hid (wr.grownBy (w6.alloc (.cells #[.slice x6 n6 d6, .int .i64 gs, .int .i64 ge] 34)) none) := gb_none H6.out (World.grownBy_alloc _ _ none)
                      generalize w6.alloc (.cells #[.slice x6 n6 d6, .int .i64 gs, .int .i64 ge] 34) = w7 at *
                      have g0 := cell_keep HX0.out HW6.out
                      have g1 := (opCells (HQ.out.keep HW6.out).2.2).2.2.2.1
                      have HSM : Hid (∀ n, Calls Tryd.prog 19 #[.slice t1 t2 t3, .slice lx ln ld] (w7.drewN n) fun e w' => e = .returned (.bool true) ∧ ∃ m, w' = (w7.drewN n).drewN m) := fun n => HSL.out _ (gb_none HW6.out (gb_drewN _ n))
                      clear x0 HX0 HSL H6
                      go_quiet ((go_at_call 19; exact Calls.quiet_of (HSM.out _)))
                      go_wp2
                      go_roundw
                      case rel => exact ⟨y + 1, by omega, by go_num, HQ.out.keep (gb_none HW6.out (gb_drewN _ _))⟩
                      case measure => simp [intOf]; omega
                    · as_aux_lemma =>
                      have hsbt : sb = false := by rw [← hsb]; exact decide_eq_false hsl
                      subst hsbt
                      have hfd : findA M2 la = some ⟨la, sa, ea⟩ := HPM.out.2.2 _ hmem hsl
                      have HG : Hid (Calls Tryd.prog 16 #[.pointer (some ⟨gx, 0, none⟩), .slice t1 t2 t3] wr fun e w' => ∃ x n d, e = .returned (.tuple #[.agg #[.slice x n d, .int .i64 sa, .int .i64 ea], .bool true]) ∧ Hid (wr.grownBy w' none ∧ RdL w' (.slice x n d) la)) := by
                        have h := HQ.out.1.get HT.out r1 (lbIn_right (HMM.out.1.2.1 _ hmem))
                        unfold getA at h
                        rw [hfd] at h
                        refine h.mono ?_
                        rintro e w' ⟨x, n, d, rfl, h1, g⟩
                        exact ⟨x, n, d, rfl, g, h1⟩
                      have HX0 := hidJ (And.intro x0 (And.intro x1 (And.intro x2 r1)))
                      clear haa hmem r1 x1 x2 hsb hsl hlw hfd
                      go_wp2_with fail
                      refine HG.out.mono ?_
                      rintro e w6 ⟨x6, n6, d6, rfl, H6⟩
                      clear HG
                      go_wp2_with fail
                      have HW6 : Hid (wr.grownBy (w6.alloc (.cells #[.slice x6 n6 d6, .int .i64 sa, .int .i64 ea] 34)) none ∧ RdL (w6.alloc (.cells #[.slice x6 n6 d6, .int .i64 sa, .int .i64 ea] 34)) (.slice x6 n6 d6) la ∧ B3 (w6.alloc (.cells #[.slice x6 n6 d6, .int .i64 sa, .int .i64 ea] 34)) w6.heap.size 34 (.slice x6 n6 d6) (.int .i64 sa) (.int .i64 ea)) := ⟨gb_none H6.out.1 (World.grownBy_alloc _ _ none), H6.out.2.keep (World.grownBy_alloc _ _ none), B3.new w6 34 _ _ _⟩
                      generalize w6.alloc (.cells #[.slice x6 n6 d6, .int .i64 sa, .int .i64 ea] 34) = w7 at *
                      generalize w6.heap.size = bx at *
                      have g0 := cell_keep HX0.out.1 HW6.out.1
                      have g1 := (opCells (HQ.out.keep HW6.out.1).2.2).2.2.2.1
                      obtain ⟨g2, g3, g4, -⟩ := HW6.out.2.2.cells
                      have HSM : Hid (∀ W, w7.grownBy W none → Calls Tryd.prog 19 #[.slice t1 t2 t3, .slice lx ln ld] W fun e w' => e = .returned (.bool false) ∧ w'.cell? ⟨b1, o1 + y * 3, none⟩ = some (.slice t1 t2 t3) ∧ w'.cell? ⟨b0, 3, none⟩ = some (.slice lx ln ld) ∧ w'.cell? ⟨bx, 0, none⟩ = some (.slice x6 n6 d6) ∧ w'.cell? ⟨bx, 1, none⟩ = some (.int .i64 sa) ∧ w'.cell? ⟨bx, 2, none⟩ = some (.int .i64 ea) ∧ Hid (w7.grownBy w' none)) := fun W hW => by
                        refine (HSL.out W (gb_none HW6.out.1 hW)).mono ?_
                        rintro e w' ⟨rfl, g⟩
                        have g' := gb_none hW g.gb
                        exact ⟨rfl, cell_keep g0 g', cell_keep g1 g', cell_keep g2 g', cell_keep g3 g', cell_keep g4 g', g'⟩
                      have HRS : Hid (∀ W a cc, w7.grownBy W none ∧ W.heap[a]? = some (.cells #[.slice x6 n6 d6, .int .i64 sa, .int .i64 ea] 34 (0, 0)) ∧ 1 ≤ cc ∧ cc ≤ 9223372036854775807 → Calls Tryd.prog 13 #[.slice (some ⟨a, 0, none⟩) 1 1, .slice (some ⟨b1, o1 + y * 3, none⟩) 1 cc] W fun e w' => e = .returned (.bool true) ∧ w'.cell? ⟨b1, o1 + y * 3, none⟩ = some (.slice t1 t2 t3) ∧ w'.cell? ⟨b0, 3, none⟩ = some (.slice lx ln ld) ∧ w'.cell? ⟨bx, 0, none⟩ = some (.slice x6 n6 d6) ∧ w'.cell? ⟨bx, 1, none⟩ = some (.int .i64 sa) ∧ w'.cell? ⟨bx, 2, none⟩ = some (.int .i64 ea) ∧ Hid (StQ w gx R most M2 M (.slice (some ⟨b1, o1, none⟩) nW c1) b0 (opC kd nw kp (.slice lx ln ld) st en) w')) := by
                        rintro W a cc ⟨hW, hb, hc3, hc4⟩
                        have g7 := gb_none HW6.out.1 hW
                        have d0 : W.cell? ⟨a, 0, none⟩ = some (.slice x6 n6 d6) := by simp [World.cell?, hb]
                        have d1 : W.cell? ⟨a, 1, none⟩ = some (.int .i64 sa) := by simp [World.cell?, hb]
                        have d2 : W.cell? ⟨a, 2, none⟩ = some (.int .i64 ea) := by simp [World.cell?, hb]
                        refine (refSameA_any W _ _ [⟨la, sa, ea⟩] ⟨_, _, rfl, Nat.le_refl _, by show 1 ≤ maxLen; unfold maxLen; omega, fun j hj => ?_⟩ ⟨_, _, rfl, hc3, by unfold maxLen; omega, fun j hj => ?_⟩).mono ?_
                        · have hj0 : j = 0 := by simp at hj; exact hj
                          subst hj0
                          exact ⟨a, 0, _, rfl, d0, d1, d2, HW6.out.2.1.keep hW⟩
                        · have hj0 : j = 0 := by simp at hj; exact hj
                          subst hj0
                          exact ⟨b1, o1 + y * 3, _, rfl, cell_keep HX0.out.1 g7, cell_keep HX0.out.2.1 g7, cell_keep HX0.out.2.2.1 g7, HX0.out.2.2.2.keep g7⟩
                        · rintro e w' ⟨rfl, g⟩
                          have g' := gb_none hW g
                          exact ⟨rfl, cell_keep g0 g', cell_keep g1 g', cell_keep g2 g', cell_keep g3 g', cell_keep g4 g', HQ.out.keep (gb_none g7 g)⟩
                      clear HSL H6 x0
                      obtain ⟨y1, hy1⟩ : ∃ y1, y1 = y + 1 := ⟨_, rfl⟩
                      have hwy : IntKind.i64.wrap ((y : Int) + 1) = (y1 : Int) := by rw [wrapI (by omega) (by omega)]; omega
                      have hsr : ∀ W, (Instr.slice 38 (.slice (some ⟨b1, o1, none⟩) nW c1) (some (.int .i64 (y : Int))) (some (.int .i64 (y1 : Int))) none).run Tryd.prog W = .ok (.slice (some ⟨b1, o1 + y * 3, none⟩) 1 (c1 - y)) W := fun W => run_oneX W b1 o1 nW c1 y y1 hyl hc1 hy1
                      have HY1 := hidJ hy1
                      clear hy1
                      go_region_held3 (fun w' => w'.cell? ⟨b1, o1 + y * 3, none⟩ = some (.slice t1 t2 t3) ∧ w'.cell? ⟨b0, 3, none⟩ = some (.slice lx ln ld) ∧ w'.cell? ⟨bx, 0, none⟩ = some (.slice x6 n6 d6) ∧ w'.cell? ⟨bx, 1, none⟩ = some (.int .i64 sa) ∧ w'.cell? ⟨bx, 2, none⟩ = some (.int .i64 ea)) (go_keep)
                        (first | (go_at_call 19; with_reducible refine (HSM.out _ ?_).mono ?_; (first | exact gb_refl _ _ | exact gb_drew _ none); rintro e w8 ⟨rfl, i0, i1, i2, i3, i4, H8⟩) | (go_at_call 13; with_reducible refine (HRS.out _ _ _ ⟨?_, ?_, ?_, ?_⟩).mono ?_; (first | exact gb_none H8.out (World.grownBy_alloc _ _ none) | exact gb_none H8.out (gb_none (World.grownBy_alloc _ _ none) (gb_drew _ none)) | exact gb_none H8.out (gb_none (gb_drew _ none) (World.grownBy_alloc _ _ none))); (first | exact Go.heap_alloc_new _ _); omega; omega; rintro e w9 ⟨rfl, j0, j1, j2, j3, j4, H9⟩))
                      all_goals
                        go_wp2
                        go_roundw
                        case rel =>
                          have hy1 := HY1.out
                          first | exact ⟨y1, by omega, by first | rfl | go_num, H9⟩ | exact ⟨y1, by omega, by first | rfl | go_num, H9.out.keep (gb_drew _ none)⟩
                        case measure =>
                          have hy1 := HY1.out
                          simp [intOf]
                          omega
                  · as_aux_lemma =>
                    have hyi : ¬ (y : Int) < (nW : Int) := by omega
                    go_wp2
                    go_roundw
                    case rel => exact ⟨z + 1, by omega, by go_num, _, HQ.out.1⟩
                    case measure => simp [intOf]; omega
      · have hzi : ¬ (z : Int) < (K : Int) := by omega
        obtain ⟨M, hM⟩ := HJ.out
        have HGG := hidJ hM.gb
        clear HJ hM
        go_wp2_with fail
        refine (HK.out _ HGG.out).mono ?_
        rintro e w4 ⟨rfl, H4⟩
        go_wp2
        go_ret
        exact ⟨rfl, gb_below H4.out⟩
  · have HNw : Hid (Calls Tryd.prog 7 #[.int .i64 R, .int .i64 most] w fun e w' => e = .returned (.pointer none) ∧ Hid (w.grownBy w' none)) := newBad_any w R most hn
    clear hn
    go_enter Tryd.func4, Tryd.ntmps4
    go_wp2_with fail
    refine HNw.out.mono ?_
    rintro e w1 ⟨rfl, H1⟩
    go_wp2_with fail
    refine (HK.out _ H1.out).mono ?_
    rintro e w4 ⟨rfl, H4⟩
    go_wp2
    go_ret
    exact ⟨rfl, gb_below H4.out⟩
end Go.Proofs.YtmgbcmogdjhacaaDoor
