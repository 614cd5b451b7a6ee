/-
  Alz, AlPa, in one text.
-/
import Derived.Test.YtmgbcmogdjhacaaDoorVG
import Derived.Test.YtmgbcmogdjhacaaDoorVE
/- Alz -/
namespace Go.Proofs.YtmgbcmogdjhacaaDoor
open Go.RowKit Go.Shelf Go.Sort Go.Maps Go.WideMaps

theorem RefA.at {W wr : World} {T : Nat → Prop} {gr : Nat} {R most : Int} {M : List AlR} {a : Option Addr} {n c : Nat} {l : List AlX} (h : RefA W T gr R most M (.slice a n c) l) (hg : W.grownBy wr none) {z : Nat} (hz : z < M.length) :
    ∃ g x m d, a = some ⟨g, 0, none⟩ ∧ n = M.length ∧ n ≤ c ∧ z < l.length ∧ (l.getD z xZ).1 = .slice x m d ∧ (l.getD z xZ).2 = M.getD z alZ ∧ wr.cell? ⟨gr, 2, none⟩ = some (.slice a n c) ∧ wr.cell? ⟨g, z * 3, none⟩ = some (.slice x m d) ∧ wr.cell? ⟨g, z * 3 + 1, none⟩ = some (.int .i64 (M.getD z alZ).st) ∧ wr.cell? ⟨g, z * 3 + 2, none⟩ = some (.int .i64 (M.getD z alZ).en) := by
  have hlen := len_of_map h.map
  have hzl : z < l.length := by omega
  obtain ⟨g, c', e, hc, d0, d1, d2⟩ := (h.row.keep hg).cells hzl
  simp only [Value.slice.injEq] at e
  obtain ⟨rfl, rfl, rfl⟩ := e
  have hgd : (l.getD z xZ).2 = M.getD z alZ := by rw [← h.map]; simp [List.getD, hzl]
  have hmem : l.getD z xZ ∈ l := by simp [List.getD, hzl]
  obtain ⟨⟨x, d, e, -⟩, -⟩ := h.each _ hmem
  rw [hgd] at d1 d2
  exact ⟨g, x, _, d, rfl, hlen, hc, hzl, e, hgd, (h.box.keep hg).cells.2.2.1, by rw [← e]; exact d0, d1, d2⟩

set_option maxRecDepth 8000 in
set_option maxHeartbeats 6400000 in
theorem refSweep_bad (W : World) (gr : Nat) (now keep : Int) (hb : swBad now keep) :
    Calls Tryd.prog 29 #[.pointer (some ⟨gr, 0, none⟩), .int .i64 now, .int .i64 keep] W fun e w' => e = .returned (.tuple #[.int .i64 0, .int .i64 1]) ∧ w' = W := by
  have HTi := hidJ (refTime_any now)
  unfold swBad at hb
  by_cases h1 : isT now
  · have hbT : decide (isT now) = true := decide_eq_true h1
    rw [hbT] at HTi
    by_cases h2 : keep < 0
    · clear hb h1 hbT
      go_enter Tryd.func29, Tryd.ntmps29
      go_wp2_with fail
      refine (HTi.out _).mono ?_
      rintro e w1 ⟨rfl, rfl⟩
      go_wp2
      go_ret2
      exact ⟨rfl, rfl⟩
    · have h3 : 1099511627776 < keep := by
        rcases hb with f | f
        · exact absurd h1 f
        · omega
      clear hb h1 hbT
      go_enter Tryd.func29, Tryd.ntmps29
      go_wp2_with fail
      refine (HTi.out _).mono ?_
      rintro e w1 ⟨rfl, rfl⟩
      go_wp2
      go_ret2
      exact ⟨rfl, rfl⟩
  · have hbT : decide (isT now) = false := decide_eq_false h1
    rw [hbT] at HTi
    clear hb h1 hbT
    go_enter Tryd.func29, Tryd.ntmps29
    go_wp2_with fail
    refine (HTi.out _).mono ?_
    rintro e w1 ⟨rfl, rfl⟩
    go_wp2
    go_ret2
    exact ⟨rfl, rfl⟩

set_option maxRecDepth 8000 in
set_option maxHeartbeats 6400000 in
theorem refSweep_ok (W : World) (T : Nat → Prop) (gr : Nat) (R most now keep : Int) (M : List AlR) (h : RefOK W T gr R most M) (hM : M.length ≤ 500) (hb : ¬ swBad now keep) :
    Calls Tryd.prog 29 #[.pointer (some ⟨gr, 0, none⟩), .int .i64 now, .int .i64 keep] W fun e w' => e = .returned (.tuple #[.int .i64 ((M.length : Int) - ((sweepM now keep M).length : Int)), .int .i64 0]) ∧ RefOK w' (Gr T W w') gr R most (sweepM now keep M) ∧ Ch W w' (fun k => k = gr) := by
  obtain ⟨v, l, h⟩ := h
  obtain ⟨a, c, rfl⟩ := h.shape
  have h1 : isT now := Decidable.byContradiction fun f => hb (.inl f)
  have h2 : 0 ≤ keep ∧ keep ≤ 1099511627776 := Decidable.byContradiction fun f => hb (.inr f)
  have HTi := hidJ (refTime_any now)
  rw [decide_eq_true h1] at HTi
  unfold isT at h1
  obtain ⟨k1, k2⟩ := h2
  obtain ⟨t1, t2⟩ := h1
  have HA := hidJ h
  have hn1 : ¬ keep < 0 := by omega
  have hn2 : ¬ 1099511627776 < keep := by omega
  obtain ⟨N, hN⟩ : ∃ N, M.length = N := ⟨_, rfl⟩
  have HFin : Hid (∀ v2 wr, PkJ W l (fun a => decide (now - keep < a.en)) N v2 wr → ∃ a2 n2 c2, v2 = .slice a2 n2 c2 ∧ n2 ≤ N ∧ wr.cell? ⟨gr, 2, none⟩ = some (.slice a N c) ∧ wr.frozen? ⟨gr, 2, none⟩ = false ∧ Hid ((N : Int) - (n2 : Int) = (N : Int) - ((sweepM now keep M).length : Int) ∧ RefOK (wr.setCell ⟨gr, 2, none⟩ v2) (Gr T W (wr.setCell ⟨gr, 2, none⟩ v2)) gr R most (sweepM now keep M) ∧ Ch W (wr.setCell ⟨gr, 2, none⟩ v2) (fun k => k = gr))) := by
    rintro v2 wr ⟨g1, g2⟩
    have hlen := len_of_map h.map
    rw [List.take_of_length_le (by omega)] at g2
    have hmm : (l.filter fun x => decide (now - keep < x.2.en)).map (·.2) = sweepM now keep M := pk_map h.map (fun a => decide (now - keep < a.en))
    have hl2 := len_of_map hmm
    obtain ⟨a2, c2, e⟩ := g2.shape
    simp only at e g2
    rw [hl2] at e
    have hle := sweepM_le now keep M
    obtain ⟨r1, r2, r3⟩ := h.set g1 g2 hmm (fun x hx => .inl (List.mem_filter.1 hx).1)
    obtain ⟨x0, x1, x2, x3, x4, x5⟩ := (h.box.keep g1).cells
    rw [hN] at x2
    refine ⟨a2, _, c2, e, by omega, x2, x5, rfl, ?_, r2⟩
    have e2 : Gr T W (wr.setCell ⟨gr, 2, none⟩ v2) = Gr T W wr := by
      unfold Gr
      rw [r3]
    rw [e2]
    exact ⟨_, _, r1⟩
  have HN := hidJ hN
  rw [hN] at HA hM ⊢
  generalize (N : Int) - ((sweepM now keep M).length : Int) = RS at *
  obtain ⟨b0, b1, b2, -⟩ := HA.out.box.cells
  obtain ⟨lim, hlim⟩ : ∃ lim, now - keep = lim := ⟨_, rfl⟩
  have HLim := hidJ hlim
  clear h hb hlim hN
  go_enter Tryd.func29, Tryd.ntmps29
  go_wp2_with fail
  refine (HTi.out _).mono ?_
  rintro e w1 ⟨rfl, hw1⟩
  have hw1 := hw1.symm
  subst hw1
  clear HTi
  go_wp2
  go_loopw [8, 9] (fun lv i wr => ∃ (z n3 : Nat) (a3 : Option Addr) (c3 : Nat), z ≤ N ∧ i = .int .i64 z ∧ lv = .slice a3 n3 c3 ∧ Hid (PkJ W l (fun a => decide (now - keep < a.en)) z (.slice a3 n3 c3) wr)) (fun _ i _ => N - (intOf i).toNat)
  case atStart => exact ⟨0, 0, none, 0, by omega, rfl, rfl, gb_refl _ _, OwnX.nil _ _⟩
  case round =>
    obtain ⟨z, n3, a3, c3, hzN, rfl, rfl, HJ⟩ := hrel
    clear b0 b1 b2
    by_cases hzl : z < N
    · have hzi : (z : Int) < (N : Int) := by omega
      obtain ⟨g, x, m, d, ea, -, hnc, hz2, e1, e2, d2, f0, f1, f2⟩ := HA.out.at HJ.out.1 (z := z) (by rw [HN.out]; exact hzl)
      subst ea
      obtain ⟨st, hst⟩ : ∃ st, (M.getD z alZ).st = st := ⟨_, rfl⟩
      obtain ⟨en, hen⟩ : ∃ en, (M.getD z alZ).en = en := ⟨_, rfl⟩
      rw [hst] at f1
      rw [hen] at f2
      by_cases hgo : now - keep < en
      · obtain ⟨a', n', c', a4, n4, c4, W4, ev, hrun, hJ4⟩ := HJ.out.take hz2 (by have := len_of_map HA.out.map; have := HN.out; omega) (by rw [e1]; rfl) (by simp only [e2, hen]; exact decide_eq_true hgo)
        simp only [Value.slice.injEq] at ev
        obtain ⟨rfl, rfl, rfl⟩ := ev
        rw [e1, e2, hst, hen] at hrun
        have HJ4 := hidJ hJ4
        clear hJ4 e1 e2 hst hen HJ
        go_wp2_with (at_builtin; refine wp_appRun rfl _ _ 38 rfl _ _ _ rfl rfl hrun ?_)
        go_roundw
        case rel => exact ⟨z + 1, _, _, _, by omega, by go_num, rfl, HJ4⟩
        case measure => simp [intOf]; omega
      · have HJ4 := hidJ (HJ.out.skip hz2 (by simp only [e2, hen]; exact decide_eq_false hgo))
        clear e1 e2 hst hen HJ
        go_wp2
        go_roundw
        case rel => exact ⟨z + 1, _, _, _, by omega, by go_num, rfl, HJ4⟩
        case measure => simp [intOf]; omega
    · have hzi : ¬ (z : Int) < (N : Int) := by omega
      have hze : z = N := by omega
      subst hze
      obtain ⟨a2, n2, c2, ev, hle, d2, d5, HF⟩ := HFin.out _ _ HJ.out
      simp only [Value.slice.injEq] at ev
      obtain ⟨rfl, rfl, rfl⟩ := ev
      clear HFin HJ HA HLim HN
      go_wp2
      go_ret2
      exact ⟨by rw [← HF.out.1]; rfl, HF.out.2⟩

set_option maxRecDepth 8000 in
set_option maxHeartbeats 6400000 in
theorem refFiring_any (W : World) (T : Nat → Prop) (gr : Nat) (R most now : Int) (M : List AlR) (h : RefOK W T gr R most M) (hM : M.length ≤ 500) :
    Calls Tryd.prog 32 #[.pointer (some ⟨gr, 0, none⟩), .int .i64 now] W fun e w' => ∃ v', e = .returned v' ∧ RdX w' v' (fireM now M) ∧ W.grownBy w' none := by
  obtain ⟨v, l, h⟩ := h
  obtain ⟨a, c, rfl⟩ := h.shape
  have HA := hidJ h
  obtain ⟨N, hN⟩ : ∃ N, M.length = N := ⟨_, rfl⟩
  have HFin : Hid (∀ v2 wr, PkJ W l (fun a => decide (a.st ≤ now) && decide (now < a.en)) N v2 wr → RdX wr v2 (fireM now M) ∧ W.grownBy wr none) := by
    rintro v2 wr ⟨g1, g2⟩
    have hlen := len_of_map h.map
    rw [List.take_of_length_le (by omega)] at g2
    have hmm : (l.filter fun x => decide (x.2.st ≤ now) && decide (now < x.2.en)).map (·.2) = fireM now M := pk_map h.map (fun a => decide (a.st ≤ now) && decide (now < a.en))
    exact ⟨g2.rdx hmm (fun x hx => (h.each x (List.mem_filter.1 hx).1).1.keep g1), g1⟩
  have HN := hidJ hN
  rw [hN] at HA hM
  clear h hN
  obtain ⟨b0, b1, b2, -⟩ := HA.out.box.cells
  go_enter Tryd.func32, Tryd.ntmps32
  go_wp2
  go_loopw [5, 6] (fun lv i wr => ∃ (z n3 : Nat) (a3 : Option Addr) (c3 : Nat), z ≤ N ∧ i = .int .i64 z ∧ lv = .slice a3 n3 c3 ∧ Hid (PkJ W l (fun a => decide (a.st ≤ now) && decide (now < a.en)) z (.slice a3 n3 c3) wr)) (fun _ i _ => N - (intOf i).toNat)
  case atStart => exact ⟨0, 0, none, 0, by omega, rfl, rfl, gb_refl _ _, OwnX.nil _ _⟩
  case round =>
    obtain ⟨z, n3, a3, c3, hzN, rfl, rfl, HJ⟩ := hrel
    clear b0 b1 b2
    by_cases hzl : z < N
    · have hzi : (z : Int) < (N : Int) := by omega
      obtain ⟨g, x, m, d, ea, -, hnc, hz2, e1, e2, d2, f0, f1, f2⟩ := HA.out.at HJ.out.1 (z := z) (by rw [HN.out]; exact hzl)
      subst ea
      obtain ⟨st, hst⟩ : ∃ st, (M.getD z alZ).st = st := ⟨_, rfl⟩
      obtain ⟨en, hen⟩ : ∃ en, (M.getD z alZ).en = en := ⟨_, rfl⟩
      rw [hst] at f1
      rw [hen] at f2
      by_cases hs : st ≤ now
      · by_cases hgo : now < en
        · obtain ⟨a', n', c', a4, n4, c4, W4, ev, hrun, hJ4⟩ := HJ.out.take hz2 (by have := len_of_map HA.out.map; have := HN.out; omega) (by rw [e1]; rfl) (by simp only [e2, hst, hen, decide_eq_true hgo, decide_eq_true hs, Bool.and_self])
          simp only [Value.slice.injEq] at ev
          obtain ⟨rfl, rfl, rfl⟩ := ev
          rw [e1, e2, hst, hen] at hrun
          have HJ4 := hidJ hJ4
          clear hJ4 e1 e2 hst hen HJ
          go_wp2_with (at_builtin; refine wp_appRun rfl _ _ 38 rfl _ _ _ rfl rfl hrun ?_)
          go_roundw
          case rel => exact ⟨z + 1, _, _, _, by omega, by go_num, rfl, HJ4⟩
          case measure => simp [intOf]; omega
        · have HJ4 := hidJ (HJ.out.skip hz2 (by simp only [e2, hst, hen, decide_eq_false hgo, Bool.and_false]))
          clear e1 e2 hst hen HJ
          go_wp2
          go_roundw
          case rel => exact ⟨z + 1, _, _, _, by omega, by go_num, rfl, HJ4⟩
          case measure => simp [intOf]; omega
      · have HJ4 := hidJ (HJ.out.skip hz2 (by simp only [e2, hst, hen, decide_eq_false hs, Bool.false_and]))
        clear e1 e2 hst hen HJ
        go_wp2
        go_roundw
        case rel => exact ⟨z + 1, _, _, _, by omega, by go_num, rfl, HJ4⟩
        case measure => simp [intOf]; omega
    · have hzi : ¬ (z : Int) < (N : Int) := by omega
      have hze : z = N := by omega
      subst hze
      obtain ⟨b0, b1, d2, -⟩ := (HA.out.box.keep HJ.out.1).cells
      have HF := hidJ (HFin.out _ _ HJ.out)
      clear HFin HJ HA HN b0 b1
      go_wp2
      go_ret
      exact ⟨_, rfl, HF.out⟩
end Go.Proofs.YtmgbcmogdjhacaaDoor

/- AlPa -/
namespace Go.Proofs.YtmgbcmogdjhacaaDoor
open Go.RowKit Go.Shelf Go.Sort Go.Maps Go.WideMaps

theorem RefOK.gr {W W' : World} {T : Nat → Prop} {gr : Nat} {R most : Int} {M : List AlR} (h : RefOK W T gr R most M) (hg : W.grownBy W' none) : RefOK W' (Gr T W W') gr R most M := by
  obtain ⟨v, l, h0⟩ := h
  have h := h0.keep hg
  exact ⟨v, l, ⟨h.box, h.row, h.map, fun x hx => (h.each x hx).mono (fun k _ hk => .inl hk), .inl h.inB, fun k hk => .inl (h.inR k hk), fun k hk => hk.elim (fun e => h.lt k e) (fun e => e.2)⟩⟩
theorem date_en {R now st en : Int} {ls : List LbT} (h : dateE R now ⟨ls, st, en⟩ = 0) : ¬ (en ≠ 0 ∧ en < st) := by
  intro f
  unfold dateE at h
  by_cases h1 : isT now
  · rw [if_neg (fun f => f h1)] at h
    by_cases h2 : (rightS ls).1 ≠ 0 ∨ ls = []
    · rw [if_pos h2] at h; omega
    · rw [if_neg h2, if_pos (.inr (.inr f))] at h; omega
  · rw [if_pos h1] at h; omega
set_option maxRecDepth 8000 in
set_option maxHeartbeats 12800000 in
theorem refPut_bad (w : World) (T : Nat → Prop) (gr : Nat) (R most now st en : Int) (M : List AlR) (u : Value) (ls : List LbT) (h : RefOK w T gr R most M) (hR : 1 ≤ R ∧ R ≤ 1099511627776) (hu : RdL w u ls) (hl : LbIn ls) (hd : dateE R now ⟨ls, st, en⟩ ≠ 0) :
    Calls Tryd.prog 28 #[.pointer (some ⟨gr, 0, none⟩), .int .i64 now, .agg #[u, .int .i64 st, .int .i64 en]] w fun e w' => e = .returned (.int .i64 (dateE R now ⟨ls, st, en⟩)) ∧ w.grownBy w' none := by
  obtain ⟨a, c, rfl⟩ : ∃ a c, u = .slice a ls.length c := by obtain ⟨a, c, h, _⟩ := hu; exact ⟨a, c, h⟩
  obtain ⟨v, l, h⟩ := h
  have HTi := hidJ (refTime_any now)
  have HRt : Hid (Calls Tryd.prog 20 #[.slice a ls.length c] (w.alloc (.cells #[.slice a ls.length c, .int .i64 st, .int .i64 en] 34)) fun e w' => e = .returned (.tuple #[.int .i64 (rightS ls).1, .int .i64 ((rightS ls).2 : Int)]) ∧ Hid (w.grownBy w' none ∧ B3 w' w.heap.size 34 (.slice a ls.length c) (.int .i64 st) (.int .i64 en) ∧ B3 w' gr 40 (.int .i64 R) (.int .i64 most) v)) := by
    have k1 := World.grownBy_alloc w (.cells #[.slice a ls.length c, .int .i64 st, .int .i64 en] 34) none
    refine (refRight_any _ _ ls (hu.keep k1) hl).mono ?_
    rintro e w' ⟨rfl, q2⟩
    exact ⟨rfl, gb_none k1 q2, (B3.new w 34 _ _ _).keep q2, (h.box.keep k1).keep q2⟩
  obtain ⟨dE, hdE⟩ : ∃ dE, dE = dateE R now ⟨ls, st, en⟩ := ⟨_, rfl⟩
  have hst : stD now ⟨ls, st, en⟩ = if st = 0 then now else st := rfl
  have hen : enD R now ⟨ls, st, en⟩ = if en = 0 then now + R else en := rfl
  rw [← hdE] at hd ⊢
  unfold dateE at hdE
  rw [hst, hen] at hdE
  dsimp only at hdE
  have hL0 : (ls = []) = (ls.length = 0) := by simp
  simp only [hL0] at hdE
  have hLm : ls.length ≤ 1000000000000000000 := hl.1
  clear hst hen hu hl h hL0
  generalize (rightS ls).1 = r1 at *
  generalize (rightS ls).2 = r2 at *
  generalize ls.length = L at *
  by_cases h1 : isT now
  · rw [decide_eq_true h1] at HTi
    rw [if_neg (fun f => f h1)] at hdE
    unfold isT at h1
    by_cases h2 : r1 = 0
    · subst h2
      by_cases h3 : L = 0
      · subst h3
        rw [if_pos (.inr rfl)] at hdE
        subst hdE
        go_enter Tryd.func28, Tryd.ntmps28
        go_wp2_with fail
        refine (HTi.out _).mono ?_
        rintro e w1 ⟨rfl, hw1⟩
        have hw1 := hw1.symm
        subst hw1
        clear HTi
        go_wp2_with fail
        refine HRt.out.mono ?_
        rintro e w1 ⟨rfl, H1⟩
        clear HRt
        obtain ⟨b0, b1, b2, f0, f1, f2⟩ := H1.out.2.1.cells
        obtain ⟨g0, g1, g2, -⟩ := H1.out.2.2.cells
        go_wp2
        go_ret
        exact ⟨rfl, H1.out.1⟩
      · rw [if_neg (by omega)] at hdE
        have hL1 : ((L : Int) == 0) = false := by rw [beq_eq_false_iff_ne]; omega
        by_cases h4 : isB st
        · unfold isB at h4
          have n1 : ¬ st < 0 := by omega
          have n2 : ¬ 1126999418470400 < st := by omega
          by_cases h5 : isB en
          · unfold isB at h5
            have n3 : ¬ en < 0 := by omega
            have n4 : ¬ 1126999418470400 < en := by omega
            by_cases h6 : en = 0
            · subst h6
              rw [if_neg (by unfold isB; rintro (f | f | f); exact f h4; exact f h5; exact f.1 rfl), if_pos rfl] at hdE
              by_cases h7 : st = 0
              · subst h7
                rw [if_pos rfl, if_neg (by omega)] at hdE
                exact absurd hdE hd
              · rw [if_neg h7] at hdE
                have h7b : (st == 0) = false := by rw [beq_eq_false_iff_ne]; exact h7
                by_cases h8 : now + R < st
                · rw [if_pos h8] at hdE
                  subst hdE
                  have hr2 : -9223372036854775808 ≤ now + R := by omega
                  have hr3 : now + R ≤ 9223372036854775807 := by omega
                  go_enter Tryd.func28, Tryd.ntmps28
                  go_wp2_with fail
                  refine (HTi.out _).mono ?_
                  rintro e w1 ⟨rfl, hw1⟩
                  have hw1 := hw1.symm
                  subst hw1
                  clear HTi
                  go_wp2_with fail
                  refine HRt.out.mono ?_
                  rintro e w1 ⟨rfl, H1⟩
                  clear HRt
                  obtain ⟨b0, b1, b2, f0, f1, f2⟩ := H1.out.2.1.cells
                  obtain ⟨g0, g1, g2, -⟩ := H1.out.2.2.cells
                  go_wp2
                  go_ret
                  exact ⟨rfl, gb_ch H1.out.1 (set_ch _ _ _ _) (fun k e => by omega)⟩
                · rw [if_neg h8] at hdE
                  exact absurd hdE hd
            · have h6z : (en == 0) = false := by rw [beq_eq_false_iff_ne]; exact h6
              have h6n : (en != 0) = true := by rw [bne_iff_ne]; exact h6
              by_cases h6b : en < st
              · rw [if_pos (.inr (.inr ⟨h6, h6b⟩))] at hdE
                subst hdE
                go_enter Tryd.func28, Tryd.ntmps28
                go_wp2_with fail
                refine (HTi.out _).mono ?_
                rintro e w1 ⟨rfl, hw1⟩
                have hw1 := hw1.symm
                subst hw1
                clear HTi
                go_wp2_with fail
                refine HRt.out.mono ?_
                rintro e w1 ⟨rfl, H1⟩
                clear HRt
                obtain ⟨b0, b1, b2, f0, f1, f2⟩ := H1.out.2.1.cells
                obtain ⟨g0, g1, g2, -⟩ := H1.out.2.2.cells
                go_wp2
                go_ret
                exact ⟨rfl, H1.out.1⟩
              · rw [if_neg (by unfold isB; rintro (f | f | f); exact f h4; exact f h5; exact h6b f.2), if_neg h6] at hdE
                by_cases h7 : st = 0
                · subst h7
                  rw [if_pos rfl] at hdE
                  by_cases h8 : en < now
                  · rw [if_pos h8] at hdE
                    subst hdE
                    go_enter Tryd.func28, Tryd.ntmps28
                    go_wp2_with fail
                    refine (HTi.out _).mono ?_
                    rintro e w1 ⟨rfl, hw1⟩
                    have hw1 := hw1.symm
                    subst hw1
                    clear HTi
                    go_wp2_with fail
                    refine HRt.out.mono ?_
                    rintro e w1 ⟨rfl, H1⟩
                    clear HRt
                    obtain ⟨b0, b1, b2, f0, f1, f2⟩ := H1.out.2.1.cells
                    obtain ⟨g0, g1, g2, -⟩ := H1.out.2.2.cells
                    go_wp2
                    go_ret
                    exact ⟨rfl, gb_ch H1.out.1 (set_ch _ _ _ _) (fun k e => by omega)⟩
                  · rw [if_neg h8] at hdE
                    exact absurd hdE hd
                · rw [if_neg h7, if_neg h6b] at hdE
                  exact absurd hdE hd
          · rw [if_pos (.inr (.inl h5))] at hdE
            subst hdE
            unfold isB at h5
            by_cases n3 : en < 0
            · skip
              go_enter Tryd.func28, Tryd.ntmps28
              go_wp2_with fail
              refine (HTi.out _).mono ?_
              rintro e w1 ⟨rfl, hw1⟩
              have hw1 := hw1.symm
              subst hw1
              clear HTi
              go_wp2_with fail
              refine HRt.out.mono ?_
              rintro e w1 ⟨rfl, H1⟩
              clear HRt
              obtain ⟨b0, b1, b2, f0, f1, f2⟩ := H1.out.2.1.cells
              obtain ⟨g0, g1, g2, -⟩ := H1.out.2.2.cells
              go_wp2
              go_ret
              exact ⟨rfl, H1.out.1⟩
            · have n4 : 1126999418470400 < en := by omega
              go_enter Tryd.func28, Tryd.ntmps28
              go_wp2_with fail
              refine (HTi.out _).mono ?_
              rintro e w1 ⟨rfl, hw1⟩
              have hw1 := hw1.symm
              subst hw1
              clear HTi
              go_wp2_with fail
              refine HRt.out.mono ?_
              rintro e w1 ⟨rfl, H1⟩
              clear HRt
              obtain ⟨b0, b1, b2, f0, f1, f2⟩ := H1.out.2.1.cells
              obtain ⟨g0, g1, g2, -⟩ := H1.out.2.2.cells
              go_wp2
              go_ret
              exact ⟨rfl, H1.out.1⟩
        · rw [if_pos (.inl h4)] at hdE
          subst hdE
          unfold isB at h4
          by_cases n1 : st < 0
          · skip
            go_enter Tryd.func28, Tryd.ntmps28
            go_wp2_with fail
            refine (HTi.out _).mono ?_
            rintro e w1 ⟨rfl, hw1⟩
            have hw1 := hw1.symm
            subst hw1
            clear HTi
            go_wp2_with fail
            refine HRt.out.mono ?_
            rintro e w1 ⟨rfl, H1⟩
            clear HRt
            obtain ⟨b0, b1, b2, f0, f1, f2⟩ := H1.out.2.1.cells
            obtain ⟨g0, g1, g2, -⟩ := H1.out.2.2.cells
            go_wp2
            go_ret
            exact ⟨rfl, H1.out.1⟩
          · have n2 : 1126999418470400 < st := by omega
            go_enter Tryd.func28, Tryd.ntmps28
            go_wp2_with fail
            refine (HTi.out _).mono ?_
            rintro e w1 ⟨rfl, hw1⟩
            have hw1 := hw1.symm
            subst hw1
            clear HTi
            go_wp2_with fail
            refine HRt.out.mono ?_
            rintro e w1 ⟨rfl, H1⟩
            clear HRt
            obtain ⟨b0, b1, b2, f0, f1, f2⟩ := H1.out.2.1.cells
            obtain ⟨g0, g1, g2, -⟩ := H1.out.2.2.cells
            go_wp2
            go_ret
            exact ⟨rfl, H1.out.1⟩
    · have h2b : (r1 == 0) = false := by rw [beq_eq_false_iff_ne]; exact h2
      rw [if_pos (.inl h2)] at hdE
      subst hdE
      go_enter Tryd.func28, Tryd.ntmps28
      go_wp2_with fail
      refine (HTi.out _).mono ?_
      rintro e w1 ⟨rfl, hw1⟩
      have hw1 := hw1.symm
      subst hw1
      clear HTi
      go_wp2_with fail
      refine HRt.out.mono ?_
      rintro e w1 ⟨rfl, H1⟩
      clear HRt
      obtain ⟨b0, b1, b2, f0, f1, f2⟩ := H1.out.2.1.cells
      obtain ⟨g0, g1, g2, -⟩ := H1.out.2.2.cells
      go_wp2
      go_ret
      exact ⟨rfl, H1.out.1⟩
  · rw [decide_eq_false h1] at HTi
    rw [if_pos h1] at hdE
    subst hdE
    go_enter Tryd.func28, Tryd.ntmps28
    go_wp2_with fail
    refine (HTi.out _).mono ?_
    rintro e w1 ⟨rfl, hw1⟩
    have hw1 := hw1.symm
    subst hw1
    clear HTi
    go_wp2
    go_ret
    exact ⟨rfl, World.grownBy_alloc w _ none⟩
end Go.Proofs.YtmgbcmogdjhacaaDoor
