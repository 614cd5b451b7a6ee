/-
  Nfn, Nfo, Nfp, Nfq, Nfr, Nfs, in one text.
-/
import Derived.Test.YtbnieljkadcaoaaDoorNfk
/- Nfn -/
namespace Go.Proofs.YtbnieljkadcaoaaDoor
open Go.RowKit Go.Shelf Go.Sort

set_option maxHeartbeats 800000 in
theorem refTimeN_any (n : Int) (w : World) : Calls Tryd.prog 29 #[.int .i64 n] w fun e w' => e = .returned (.bool (timB n)) ∧ w' = w := by
  have HR : Hid (timB n = (decide (0 ≤ n) && decide (n ≤ 1125899906842624))) := rfl
  generalize timB n = r at *
  by_cases h1 : 0 ≤ n
  · by_cases h2 : n ≤ 1125899906842624
    · have hr : r = true := by rw [HR.out]; simp [h1, h2]
      subst hr
      go_enter Tryd.func29, Tryd.ntmps29
      go_wp2
      go_ret
      exact ⟨rfl, rfl⟩
    · have hr : r = false := by rw [HR.out]; simp [h2]
      subst hr
      go_enter Tryd.func29, Tryd.ntmps29
      go_wp2
      go_ret
      exact ⟨rfl, rfl⟩
  · have hr : r = false := by rw [HR.out]; simp [h1]
    subst hr
    go_enter Tryd.func29, Tryd.ntmps29
    go_wp2
    go_ret
    exact ⟨rfl, rfl⟩
set_option maxRecDepth 8000 in
set_option maxHeartbeats 3200000 in
theorem refSets_any (w : World) (v : Value) (lss : List (List LbT)) (hv : RdLL w v lss) (hl : LLIn lss) :
    Calls Tryd.prog 30 #[v] w fun e w' => e = .returned (.bool (allR lss)) ∧ w.grownBy w' none := by
  have HV := hidJ (And.intro hv hl)
  obtain ⟨a, c, rfl, hc1, hc2⟩ := hv.shape
  obtain ⟨R, hR⟩ : ∃ R, R = allR lss := ⟨_, rfl⟩
  rw [← hR]
  have HR : Hid (R = allR (lss.drop 0)) := by show R = _; rw [hR]; simp
  clear hv hl hR
  go_enter Tryd.func30, Tryd.ntmps30
  go_wp2
  go_loopw [9] (fun i wr => ∃ z : Nat, z ≤ lss.length ∧ i = .int .i64 z ∧ Hid (w.grownBy wr none ∧ R = allR (lss.drop z))) (fun i _ => lss.length - (intOf i).toNat)
  case atStart => exact ⟨0, by omega, rfl, gb_refl _ _, HR.out⟩
  case round =>
    obtain ⟨z, hzN, rfl, hr⟩ := hrel
    have HG : Hid (w.grownBy wr none) := hr.out.1
    by_cases hzl : z < lss.length
    · have hzi : (z : Int) < (lss.length : Int) := by omega
      obtain ⟨b, o, ha', hcc, rfl, c0, hrd⟩ := (HV.out.1.keep HG.out).at (j := z) hzl
      have HB := hidJ (refRight_any wr _ _ hrd (HV.out.2.2 z))
      have HW : Hid (R = (decide ((rightS (lss.getD z [])).1 = 0) && allR (lss.drop (z + 1)))) := by
        show _ = _
        rw [← allR_drop hzl]
        exact hr.out.2
      clear hr hrd HR
      generalize (lss.getD z []).length = hn at *
      generalize (rightS (lss.getD z [])).1 = r at *
      generalize (((rightS (lss.getD z [])).2 : Nat) : Int) = q at *
      by_cases hm : r = 0
      · subst hm
        rw [decide_eq_true rfl, Bool.true_and] at HW
        go_wp2_with fail
        refine HB.out.mono ?_
        rintro e w2 ⟨rfl, hg2⟩
        have H2 := hidJ (gb_none HG.out hg2)
        clear HB hg2 c0
        go_wp2
        go_roundw
        case rel => exact ⟨z + 1, by omega, by go_num, H2.out, HW.out⟩
        case measure => simp [intOf]; omega
      · rw [decide_eq_false hm, Bool.false_and] at HW
        have hrb : (r == 0) = false := by rw [beq_eq_false_iff_ne]; exact hm
        go_wp2_with fail
        refine HB.out.mono ?_
        rintro e w2 ⟨rfl, hg2⟩
        have H2 := hidJ (gb_none HG.out hg2)
        clear HB hg2 c0
        go_wp2
        go_ret
        exact ⟨by rw [HW.out]; rfl, H2.out⟩
    · have hzi : ¬ (z : Int) < (lss.length : Int) := by omega
      have HW : Hid (R = true) := by
        show _ = _
        rw [hr.out.2, List.drop_eq_nil_of_le (by omega)]
        rfl
      clear hr HR
      go_wp2
      go_ret
      exact ⟨by rw [HW.out]; rfl, HG.out⟩
/-- right, and above the one ahead, one by one -/
def rsB (lss : List (List LbT)) : Nat → Nat → Bool
  | 0, _ => true
  | f + 1, i => (decide ((rightS (lss.getD i [])).1 = 0) && (decide (i = 0) || decide (cmpLs (lss.getD (i - 1) []) (lss.getD i []) < 0))) && rsB lss f (i + 1)
theorem rsB_iff (lss : List (List LbT)) : ∀ f i, rsB lss f i = true ↔ ∀ k, i ≤ k → k < i + f → (rightS (lss.getD k [])).1 = 0 ∧ (k = 0 ∨ cmpLs (lss.getD (k - 1) []) (lss.getD k []) < 0)
  | 0, i => ⟨fun _ k h1 h2 => by omega, fun _ => rfl⟩
  | f + 1, i => by
    rw [rsB, Bool.and_eq_true, Bool.and_eq_true, Bool.or_eq_true, decide_eq_true_eq, decide_eq_true_eq, decide_eq_true_eq, rsB_iff lss f (i + 1)]
    constructor
    · rintro ⟨h1, h2⟩ k hk hk2
      by_cases e : k = i
      · rw [e]; exact h1
      · exact h2 k (by omega) (by omega)
    · intro h
      exact ⟨h i (Nat.le_refl _) (by omega), fun k h1 h2 => h k (by omega) (by omega)⟩
theorem upB_iff (lss : List (List LbT)) : ∀ f i, upB lss f i = true ↔ ∀ k, i ≤ k → k < i + f → cmpLs (lss.getD (k - 1) []) (lss.getD k []) < 0
  | 0, i => ⟨fun _ k h1 h2 => by omega, fun _ => rfl⟩
  | f + 1, i => by
    rw [upB, Bool.and_eq_true, decide_eq_true_eq, upB_iff lss f (i + 1)]
    constructor
    · rintro ⟨h1, h2⟩ k hk hk2
      by_cases e : k = i
      · rw [e]; exact h1
      · exact h2 k (by omega) (by omega)
    · intro h
      exact ⟨h i (Nat.le_refl _) (by omega), fun k h1 h2 => h k (by omega) (by omega)⟩
theorem allR_iff (lss : List (List LbT)) : allR lss = true ↔ ∀ k, k < lss.length → (rightS (lss.getD k [])).1 = 0 := by
  unfold allR
  rw [List.all_eq_true]
  constructor
  · intro h k hk
    have e : lss.getD k [] = lss[k] := by simp [List.getD, hk]
    rw [e]
    exact of_decide_eq_true (h lss[k] (by simp))
  · intro h x hx
    obtain ⟨k, hk, rfl⟩ := List.mem_iff_getElem.1 hx
    have e : lss.getD k [] = lss[k] := by simp [List.getD, hk]
    exact decide_eq_true (by rw [← e]; exact h k hk)
theorem rsB_rise (lss : List (List LbT)) : rsB lss lss.length 0 = riseB lss := by
  rw [Bool.eq_iff_iff, rsB_iff]
  unfold riseB
  rw [Bool.and_eq_true, upB_iff, allR_iff]
  constructor
  · intro h
    refine ⟨fun k h1 h2 => ?_, fun k hk => (h k (by omega) (by omega)).1⟩
    rcases (h k (by omega) (by omega)).2 with e | e
    · omega
    · exact e
  · rintro ⟨h1, h2⟩ k - hk
    refine ⟨h2 k (by omega), ?_⟩
    by_cases e : k = 0
    · exact .inl e
    · exact .inr (h1 k (by omega) (by omega))
set_option maxRecDepth 8000 in
set_option maxHeartbeats 6400000 in
theorem refRising_any (w : World) (v : Value) (lss : List (List LbT)) (hv : RdLL w v lss) (hl : LLIn lss) :
    Calls Tryd.prog 34 #[v] w fun e w' => e = .returned (.bool (riseB lss)) ∧ w.grownBy w' none := by
  have HV := hidJ (And.intro hv hl)
  obtain ⟨a, c, rfl, hc1, hc2⟩ := hv.shape
  obtain ⟨R, hR⟩ : ∃ R, R = riseB lss := ⟨_, rfl⟩
  rw [← hR]
  have HR : Hid (R = rsB lss (lss.length - 0) 0) := by show R = _; rw [hR, Nat.sub_zero, rsB_rise]
  clear hv hl hR
  go_enter Tryd.func34, Tryd.ntmps34
  go_wp2
  go_loopw [9] (fun i wr => ∃ z : Nat, z ≤ lss.length ∧ i = .int .i64 z ∧ Hid (w.grownBy wr none ∧ R = rsB lss (lss.length - z) z)) (fun i _ => lss.length - (intOf i).toNat)
  case atStart => exact ⟨0, by omega, rfl, gb_refl _ _, HR.out⟩
  case round =>
    obtain ⟨z, hzN, rfl, hr⟩ := hrel
    have HG : Hid (w.grownBy wr none) := hr.out.1
    by_cases hzl : z < lss.length
    · have hzi : (z : Int) < (lss.length : Int) := by omega
      obtain ⟨b, o, ha', hcc, rfl, c0, hrd⟩ := (HV.out.1.keep HG.out).at (j := z) hzl
      have HB := hidJ (refRight_any wr _ _ hrd (HV.out.2.2 z))
      have HW : Hid (R = ((decide ((rightS (lss.getD z [])).1 = 0) && (decide (z = 0) || decide (cmpLs (lss.getD (z - 1) []) (lss.getD z []) < 0))) && rsB lss (lss.length - (z + 1)) (z + 1))) := by
        show _ = _
        have h := hr.out.2
        obtain ⟨f, hf⟩ : ∃ f, lss.length - z = f + 1 := ⟨lss.length - z - 1, by omega⟩
        rw [hf, rsB] at h
        rw [show lss.length - (z + 1) = f by omega]
        exact h
      have HX := hidJ hrd
      clear hr hrd HR
      generalize hnx : (lss.getD z []).length = nx at *
      have HNX := hidJ hnx
      clear hnx
      generalize hr1 : (rightS (lss.getD z [])).1 = r at *
      clear hr1
      generalize (((rightS (lss.getD z [])).2 : Nat) : Int) = q at *
      by_cases hm : r = 0
      · subst hm
        rw [decide_eq_true rfl, Bool.true_and] at HW
        by_cases hz0 : z = 0
        · rw [decide_eq_true hz0, Bool.true_or, Bool.true_and] at HW
          subst hz0
          simp only [Nat.add_zero] at c0
          go_wp2_with fail
          refine HB.out.mono ?_
          rintro e w2 ⟨rfl, hg2⟩
          have H2 := hidJ (gb_none HG.out hg2)
          clear HB hg2 c0
          go_wp2
          go_roundw
          case rel => exact ⟨0 + 1, by omega, by go_num, H2.out, HW.out⟩
          case measure => simp [intOf]; omega
        · rw [decide_eq_false hz0, Bool.false_or] at HW
          obtain ⟨y, hy⟩ : ∃ y, z = y + 1 := ⟨z - 1, by omega⟩
          rw [show z - 1 = y by omega] at HW
          have hyi : (z : Int) - 1 = (y : Int) := by omega
          have hyl : y < lss.length := by omega
          have hyI : (y : Int) < (lss.length : Int) := by omega
          have hz0i : (0 : Int) < (z : Int) := by omega
          have hHY : Hid (∀ W, w.grownBy W none → ∃ a2 c2, W.cell? ⟨b, o + y, none⟩ = some (.slice a2 (lss.getD y []).length c2) ∧ RdL W (.slice a2 (lss.getD y []).length c2) (lss.getD y [])) := fun W hW => by
            obtain ⟨b2, o2, a2, c2, e1, e2, e3⟩ := (HV.out.1.keep hW).at (j := y) hyl
            cases e1
            exact ⟨a2, c2, e2, e3⟩
          clear hy hz0
          go_wp2_with fail
          refine HB.out.mono ?_
          rintro e w2 ⟨rfl, hg2⟩
          have hgw := gb_none HG.out hg2
          obtain ⟨a2, c2, d0, hrd2⟩ := hHY.out w2 hgw
          have HC := hidJ (refCompare_any w2 _ _ _ _ hrd2 (HX.out.keep hg2))
          have H2 := hidJ hgw
          clear HB hg2 c0 hrd2 hgw
          generalize (lss.getD y []).length = ny at *
          generalize cmpLs (lss.getD y []) (lss.getD z []) = rr at *
          by_cases hrr : rr < 0
          · rw [decide_eq_true hrr, Bool.true_and] at HW
            have hr0 : ¬ 0 ≤ rr := by omega
            go_wp2_with fail
            refine HC.out.mono ?_
            rintro e w3 ⟨rfl, hg3⟩
            have H3 := hidJ (gb_none H2.out hg3)
            clear HC hg3 d0
            go_wp2
            go_roundw
            case rel => exact ⟨z + 1, by omega, by go_num, H3.out, HW.out⟩
            case measure => simp [intOf]; omega
          · rw [decide_eq_false hrr, Bool.false_and] at HW
            have hr0 : 0 ≤ rr := by omega
            go_wp2_with fail
            refine HC.out.mono ?_
            rintro e w3 ⟨rfl, hg3⟩
            have H3 := hidJ (gb_none H2.out hg3)
            clear HC hg3 d0
            go_wp2
            go_ret
            exact ⟨by rw [HW.out]; rfl, H3.out⟩
      · rw [decide_eq_false hm, Bool.false_and, Bool.false_and] at HW
        have hrb : (r == 0) = false := by rw [beq_eq_false_iff_ne]; exact hm
        go_wp2_with fail
        refine HB.out.mono ?_
        rintro e w2 ⟨rfl, hg2⟩
        have H2 := hidJ (gb_none HG.out hg2)
        clear HB hg2 c0
        go_wp2
        go_ret
        exact ⟨by rw [HW.out]; rfl, H2.out⟩
    · have hzi : ¬ (z : Int) < (lss.length : Int) := by omega
      have HW : Hid (R = true) := by
        show _ = _
        rw [hr.out.2, show lss.length - z = 0 by omega]
        rfl
      clear hr HR
      go_wp2
      go_ret
      exact ⟨by rw [HW.out]; rfl, HG.out⟩
end Go.Proofs.YtbnieljkadcaoaaDoor

/- Nfo -/
namespace Go.Proofs.YtbnieljkadcaoaaDoor
open Go.RowKit Go.Shelf Go.Sort

set_option maxRecDepth 8000 in
set_option maxHeartbeats 6400000 in
theorem markL_any (w : World) (m : MkR) (f s : Value) (hf : RdLL w f m.fir) (hs : RdLL w s m.res) (lf : LLs m.fir) (ls : LLs m.res) :
    Calls Tryd.prog 6 #[markV m f s] w fun e w' => ∃ f' s', e = .returned (markV m f' s') ∧ OwnLL w' (w.heap.size + 2) f' m.fir ∧ OwnLL w' (w.heap.size + 2) s' m.res ∧ w.grownBy w' none := by
  obtain ⟨br, hbr⟩ : ∃ br, br = ByteArray.mk ⟨m.rcv⟩ := ⟨_, rfl⟩
  obtain ⟨bk, hbk⟩ : ∃ bk, bk = ByteArray.mk ⟨m.key⟩ := ⟨_, rfl⟩
  obtain ⟨tm, htm⟩ : ∃ tm, tm = m.tim := ⟨_, rfl⟩
  have HM : Hid (∀ f s, markV m f s = .agg #[.string br, .string bk, .int .i64 tm, f, s]) := fun f s => by rw [hbr, hbk, htm]; rfl
  rw [HM.out f s]
  clear hbr hbk htm
  obtain ⟨fa, fc, e1, -⟩ := hf.shape
  obtain ⟨sa, sc, e2, -⟩ := hs.shape
  subst e1 e2
  have HV := hidJ (And.intro hf (And.intro hs (And.intro lf ls)))
  clear hf hs lf ls
  generalize m.fir.length = nf at *
  generalize m.res.length = ns at *
  have HC : Hid (Calls Tryd.prog 7 #[.slice fa nf fc] ((w.alloc (.cells #[.string br, .string bk, .int .i64 tm, .slice fa nf fc, .slice sa ns sc] 24)).alloc (.cells #[.string ⟨#[]⟩, .string ⟨#[]⟩, .int .i64 0, .slice none 0 0, .slice none 0 0] 24)) fun e w' => ∃ a' n' c', e = .returned (.slice a' n' c') ∧ Hid (OwnLL w' (w.heap.size + 2) (.slice a' n' c') m.fir ∧ w.grownBy w' none ∧ w.heap.size + 2 ≤ w'.heap.size ∧ B5 w' w.heap.size 24 (.string br) (.string bk) (.int .i64 tm) (.slice fa nf fc) (.slice sa ns sc) ∧ B5 w' (w.heap.size + 1) 24 (.string ⟨#[]⟩) (.string ⟨#[]⟩) (.int .i64 0) (.slice none 0 0) (.slice none 0 0))) := by
    have k1 := World.grownBy_alloc w (.cells #[.string br, .string bk, .int .i64 tm, .slice fa nf fc, .slice sa ns sc] 24) none
    have k2 := World.grownBy_alloc (w.alloc (.cells #[.string br, .string bk, .int .i64 tm, .slice fa nf fc, .slice sa ns sc] 24)) (.cells #[.string ⟨#[]⟩, .string ⟨#[]⟩, .int .i64 0, .slice none 0 0, .slice none 0 0] 24) none
    refine (lentS_any _ _ m.fir (HV.out.1.keep (gb_none k1 k2)) HV.out.2.2.1).mono ?_
    rintro e w' ⟨v', rfl, q1, q2⟩
    obtain ⟨a', c', e'⟩ := q1.shape
    subst e'
    have x0 := ((B5.new w 24 (.string br) (.string bk) (.int .i64 tm) (.slice fa nf fc) (.slice sa ns sc)).keep k2).keep q2
    have x1 := (B5.new (w.alloc (.cells #[.string br, .string bk, .int .i64 tm, .slice fa nf fc, .slice sa ns sc] 24)) 24 (.string ⟨#[]⟩) (.string ⟨#[]⟩) (.int .i64 0) (.slice none 0 0) (.slice none 0 0)).keep q2
    have z2 := q2.size
    rw [World.size_alloc] at x1
    rw [World.size_alloc, World.size_alloc] at q1 z2
    exact ⟨a', _, c', rfl, q1, gb_none (gb_none k1 k2) q2, z2, x0, x1⟩
  go_enter Tryd.func6, Tryd.ntmps6
  go_wp2_with fail
  refine HC.out.mono ?_
  rintro e w1 ⟨a1, n1, c1, rfl, H1⟩
  clear HC
  have hB := H1.out.2.2.2.1
  obtain ⟨-, -, -, b3, b4⟩ := hB.cells
  obtain ⟨-, -, -, f3, -⟩ := hB.froz
  have hch := set_ch w1 w.heap.size 3 (.slice a1 n1 c1)
  have hB2 := hB.set3 (.slice a1 n1 c1)
  have hD2 := H1.out.2.2.2.2.ch hch (by omega)
  have gw := gb_ch H1.out.2.1 hch (fun k e => by omega)
  have hO2 := H1.out.1.ch hch (fun k e => by omega)
  have hz2 : w.heap.size + 2 ≤ (w1.setCell ⟨w.heap.size, 3, none⟩ (.slice a1 n1 c1)).heap.size := by have := H1.out.2.2.1; simpa using this
  have HC : Hid (Calls Tryd.prog 7 #[.slice sa ns sc] (w1.setCell ⟨w.heap.size, 3, none⟩ (.slice a1 n1 c1)) fun e w' => ∃ a' n' c', e = .returned (.slice a' n' c') ∧ Hid (OwnLL w' (w.heap.size + 2) (.slice a' n' c') m.res ∧ OwnLL w' (w.heap.size + 2) (.slice a1 n1 c1) m.fir ∧ w.grownBy w' none ∧ B5 w' w.heap.size 24 (.string br) (.string bk) (.int .i64 tm) (.slice a1 n1 c1) (.slice sa ns sc) ∧ B5 w' (w.heap.size + 1) 24 (.string ⟨#[]⟩) (.string ⟨#[]⟩) (.int .i64 0) (.slice none 0 0) (.slice none 0 0))) := by
    refine (lentS_any _ _ m.res (HV.out.2.1.keep gw) HV.out.2.2.2).mono ?_
    rintro e w' ⟨v', rfl, q1, q2⟩
    obtain ⟨a', c', e'⟩ := q1.shape
    subst e'
    exact ⟨a', _, c', rfl, q1.mono hz2, hO2.keep q2, gb_none gw q2, hB2.keep q2, hD2.keep q2⟩
  clear hB hch hB2 hD2 gw hO2 hz2
  go_wp2_with fail
  refine HC.out.mono ?_
  rintro e w2 ⟨a2, n2, c2, rfl, H2⟩
  clear HC b3 b4 f3
  obtain ⟨d0, d1, d2, d3, d4⟩ := H2.out.2.2.2.1.cells
  obtain ⟨f0, f1, f2, f3, f4⟩ := H2.out.2.2.2.1.froz
  obtain ⟨i0, i1, i2, i3, i4⟩ := H2.out.2.2.2.2.cells
  obtain ⟨j0, j1, j2, j3, j4⟩ := H2.out.2.2.2.2.froz
  go_wp2
  have HB : Hid (B5 (w2.setCell ⟨w.heap.size, 4, none⟩ (.slice a2 n2 c2)) (w.heap.size + 1) 24 (.string ⟨#[]⟩) (.string ⟨#[]⟩) (.int .i64 0) (.slice none 0 0) (.slice none 0 0)) := H2.out.2.2.2.2.ch (set_ch _ _ _ _) (by omega)
  refine bodyPost_ret (results_cell_row rfl _ _ (w.heap.size + 1) _ _ _ _ rfl (set5_at HB.out) Tryd.underlying24 rfl (by kernel_rfl)) rfl ?_
  have k1 := set_ch w2 w.heap.size 4 (.slice a2 n2 c2)
  have k2 := set5_ch (w2.setCell ⟨w.heap.size, 4, none⟩ (.slice a2 n2 c2)) (w.heap.size + 1) (.string br) (.string bk) (.int .i64 tm) (.slice a1 n1 c1) (.slice a2 n2 c2)
  refine ⟨.slice a1 n1 c1, .slice a2 n2 c2, by rw [HM.out], (H2.out.2.1.ch k1 (fun k e => by omega)).ch k2 (fun k e => by omega), (H2.out.1.ch k1 (fun k e => by omega)).ch k2 (fun k e => by omega), gb_ch (gb_ch H2.out.2.2.1 k1 (fun k e => by omega)) k2 (fun k e => by omega)⟩
end Go.Proofs.YtbnieljkadcaoaaDoor

/- Nfp -/
namespace Go.Proofs.YtbnieljkadcaoaaDoor
open Go.RowKit Go.Shelf Go.Sort

set_option maxRecDepth 8000 in
set_option maxHeartbeats 12800000 in
theorem refRightM_any (w : World) (m : MkR) (f s : Value) (h : RdM w m f s) :
    Calls Tryd.prog 11 #[markV m f s] w fun e w' => e = .returned (.int .i64 (rightM m)) ∧ w.grownBy w' none := by
  have HR : Hid (rightM m = if txtB m.rcv 64 = false then 204 else if txtB m.key 65536 = false then 40 else if timB m.tim = false then 1 else if 500 < m.fir.length ∨ 500 < m.res.length then 8 else if riseB m.fir = false ∨ riseB m.res = false then 41 else 0) := rfl
  have H1 : Hid (∀ W, Calls Tryd.prog 33 #[.string (ByteArray.mk ⟨m.rcv⟩)] W fun e w' => e = .returned (.bool (Lib.validD m.rcv)) ∧ W.grownBy w' none) := fun W => utf8_walk W m.rcv h.inr
  have H2 : Hid (∀ W, Calls Tryd.prog 33 #[.string (ByteArray.mk ⟨m.key⟩)] W fun e w' => e = .returned (.bool (Lib.validD m.key)) ∧ W.grownBy w' none) := fun W => utf8_walk W m.key h.ink
  have H3 : Hid (∀ W, Calls Tryd.prog 29 #[.int .i64 m.tim] W fun e w' => e = .returned (.bool (timB m.tim)) ∧ w' = W) := fun W => refTimeN_any m.tim W
  have H4 : Hid (∀ W, w.grownBy W none → Calls Tryd.prog 34 #[f] W fun e w' => e = .returned (.bool (riseB m.fir)) ∧ W.grownBy w' none) := fun W hW => refRising_any W f m.fir (h.fir.keep hW) h.inF
  have H5 : Hid (∀ W, w.grownBy W none → Calls Tryd.prog 34 #[s] W fun e w' => e = .returned (.bool (riseB m.res)) ∧ W.grownBy w' none) := fun W hW => refRising_any W s m.res (h.res.keep hW) h.inR
  have hT1 : txtB m.rcv 64 = (decide (m.rcv ≠ []) && (decide (m.rcv.length ≤ 64) && Lib.validD m.rcv)) := rfl
  have hT2 : txtB m.key 65536 = (decide (m.key ≠ []) && (decide (m.key.length ≤ 65536) && Lib.validD m.key)) := rfl
  have hr0 := h.inr
  have hk0 := h.ink
  have ze1 : (ByteArray.mk ⟨m.rcv⟩).size = m.rcv.length := rfl
  have ze2 : (ByteArray.mk ⟨m.key⟩).size = m.key.length := rfl
  have em1 : (ByteArray.mk ⟨m.rcv⟩).toList.isEmpty = decide (m.rcv = []) := by
    rw [ByteArray.toList_eq]
    cases m.rcv <;> rfl
  have em1' : ((ByteArray.mk ⟨m.rcv⟩).toList = []) = (m.rcv = []) := by rw [ByteArray.toList_eq]
  have em2 : (ByteArray.mk ⟨m.key⟩).toList.isEmpty = decide (m.key = []) := by
    rw [ByteArray.toList_eq]
    cases m.key <;> rfl
  have em2' : ((ByteArray.mk ⟨m.key⟩).toList = []) = (m.key = []) := by rw [ByteArray.toList_eq]
  obtain ⟨fa, fc, hf, hf1, hf2⟩ := h.fir.shape
  obtain ⟨sa, sc, hs, hs1, hs2⟩ := h.res.shape
  subst hf hs
  unfold markV
  have HB := hidJ (And.intro (B5.new w 24 (.string (ByteArray.mk ⟨m.rcv⟩)) (.string (ByteArray.mk ⟨m.key⟩)) (.int .i64 m.tim) (.slice fa m.fir.length fc) (.slice sa m.res.length sc)) (World.grownBy_alloc w (.cells #[.string (ByteArray.mk ⟨m.rcv⟩), .string (ByteArray.mk ⟨m.key⟩), .int .i64 m.tim, .slice fa m.fir.length fc, .slice sa m.res.length sc] 24) none))
  obtain ⟨nf, hnf⟩ : ∃ nf, m.fir.length = nf := ⟨_, rfl⟩
  obtain ⟨ns, hns⟩ : ∃ ns, m.res.length = ns := ⟨_, rfl⟩
  rw [hnf] at H4 HB HR hf1
  rw [hns] at H5 HB HR hs1
  rw [hnf, hns]
  clear h hnf hns
  have HT1 := hidJ hT1
  have HT2 := hidJ hT2
  clear hT1 hT2
  generalize rightM m = R at *
  generalize Lib.validD m.rcv = v1 at *
  generalize Lib.validD m.key = v2 at *
  generalize txtB m.rcv 64 = t1 at *
  generalize txtB m.key 65536 = t2 at *
  generalize timB m.tim = t3 at *
  generalize riseB m.fir = t4 at *
  generalize riseB m.res = t5 at *
  generalize ByteArray.mk ⟨m.rcv⟩ = br at *
  generalize ByteArray.mk ⟨m.key⟩ = bk at *
  generalize m.tim = tm at *
  obtain ⟨lr, hlr⟩ : ∃ lr, m.rcv.length = lr := ⟨_, rfl⟩
  obtain ⟨lk, hlk⟩ : ∃ lk, m.key.length = lk := ⟨_, rfl⟩
  have hrn : (m.rcv = []) = (lr = 0) := by rw [← hlr, List.length_eq_zero_iff]
  have hkn : (m.key = []) = (lk = 0) := by rw [← hlk, List.length_eq_zero_iff]
  simp only [ne_eq, hrn, hlr] at HT1 em1 em1' ze1 hr0
  simp only [ne_eq, hkn, hlk] at HT2 em2 em2' ze2 hk0
  clear hrn hkn hlr hlk
  have e204 : t1 = false → R = 204 := fun e => by rw [HR.out, e]; rfl
  have e40 : t1 = true → t2 = false → R = 40 := fun e1 e2 => by rw [HR.out, e1, e2]; rfl
  have E204 := hidJ e204
  have E40 := hidJ e40
  clear e204 e40
  by_cases r0 : lr = 0
  · have hR := E204.out (by rw [HT1.out]; simp [r0])
    subst hR
    subst r0
    have em3 : br.toList = [] := by rw [em1']
    rw [decide_eq_true rfl] at em1
    clear em1' E40 E204 HR
    go_enter Tryd.func11, Tryd.ntmps11
    go_wp2
    go_ret
    exact ⟨rfl, HB.out.2⟩
  have em3 : ¬ br.toList = [] := by rw [em1']; exact r0
  rw [decide_eq_false r0] at em1
  clear em1'
  by_cases r1 : 64 < lr
  · have hR := E204.out (by rw [HT1.out, decide_eq_false (show ¬ lr ≤ 64 by omega)]; simp)
    subst hR
    have r1i : (64 : Int) < (lr : Int) := by omega
    clear E40 E204 HR
    go_enter Tryd.func11, Tryd.ntmps11
    go_wp2
    go_ret
    exact ⟨rfl, HB.out.2⟩
  have r1i : ¬ (64 : Int) < (lr : Int) := by omega
  have hv1 : t1 = v1 := by rw [HT1.out, decide_eq_true (show lr ≤ 64 by omega)]; simp [r0]
  subst hv1
  clear HT1
  go_enter Tryd.func11, Tryd.ntmps11
  go_wp2_with fail
  refine (H1.out _).mono ?_
  rintro e w1 ⟨rfl, g1⟩
  have HB := hidJ (And.intro (HB.out.1.keep g1) (gb_none HB.out.2 g1))
  clear g1 H1
  cases t1
  · have hR := E204.out rfl
    subst hR
    go_wp2
    go_ret
    exact ⟨rfl, HB.out.2⟩
  obtain ⟨-, c1, -, -, -⟩ := HB.out.1.cells
  by_cases k0 : lk = 0
  · have hR := E40.out (by first | rfl | trivial) (by rw [HT2.out]; simp [k0])
    subst hR
    subst k0
    have em4 : bk.toList = [] := by rw [em2']
    rw [decide_eq_true rfl] at em2
    clear em2' E40 E204 HR
    go_wp2
    go_ret
    exact ⟨rfl, HB.out.2⟩
  have em4 : ¬ bk.toList = [] := by rw [em2']; exact k0
  rw [decide_eq_false k0] at em2
  clear em2'
  by_cases k1 : 65536 < lk
  · have hR := E40.out (by first | rfl | trivial) (by rw [HT2.out, decide_eq_false (show ¬ lk ≤ 65536 by omega)]; simp)
    subst hR
    have k1i : (65536 : Int) < (lk : Int) := by omega
    clear E40 E204 HR
    go_wp2
    go_ret
    exact ⟨rfl, HB.out.2⟩
  have k1i : ¬ (65536 : Int) < (lk : Int) := by omega
  have hv2 : t2 = v2 := by rw [HT2.out, decide_eq_true (show lk ≤ 65536 by omega)]; simp [k0]
  subst hv2
  clear HT2
  go_wp2_with fail
  clear c1
  refine (H2.out _).mono ?_
  rintro e w2 ⟨rfl, g1⟩
  have HB := hidJ (And.intro (HB.out.1.keep g1) (gb_none HB.out.2 g1))
  clear g1 H2
  cases t2
  · have hR := E40.out (by first | rfl | trivial) (by first | rfl | trivial)
    subst hR
    go_wp2
    go_ret
    exact ⟨rfl, HB.out.2⟩
  clear E40 E204
  obtain ⟨-, -, c2, c3, c4⟩ := HB.out.1.cells
  go_wp2_with fail
  refine (H3.out _).mono ?_
  rintro e w3 ⟨rfl, h3⟩
  have h3 := h3.symm
  subst h3
  clear H3
  cases t3
  · have hR : R = 1 := by rw [HR.out]; rfl
    subst hR
    go_wp2
    go_ret
    exact ⟨rfl, HB.out.2⟩
  by_cases h5 : 500 < nf
  · have hR : R = 8 := by rw [HR.out]; simp [h5]
    subst hR
    have h5i : (500 : Int) < (nf : Int) := by omega
    go_wp2
    go_ret
    exact ⟨rfl, HB.out.2⟩
  have h5i : ¬ (500 : Int) < (nf : Int) := by omega
  by_cases h6 : 500 < ns
  · have hR : R = 8 := by rw [HR.out]; simp [h6]
    subst hR
    have h6i : (500 : Int) < (ns : Int) := by omega
    go_wp2
    go_ret
    exact ⟨rfl, HB.out.2⟩
  have h6i : ¬ (500 : Int) < (ns : Int) := by omega
  have HR2 : Hid (R = if t4 = false ∨ t5 = false then 41 else 0) := by
    show R = _
    rw [HR.out]
    simp [h5, h6]
  clear HR h5 h6
  go_wp2_with fail
  clear c2 c3 c4
  refine (H4.out _ HB.out.2).mono ?_
  rintro e w4 ⟨rfl, g1⟩
  have HB := hidJ (And.intro (HB.out.1.keep g1) (gb_none HB.out.2 g1))
  clear g1 H4
  cases t4
  · have hR : R = 41 := by rw [HR2.out]; rfl
    subst hR
    go_wp2
    go_ret
    exact ⟨rfl, HB.out.2⟩
  obtain ⟨-, -, -, -, c4⟩ := HB.out.1.cells
  go_wp2_with fail
  clear c4
  refine (H5.out _ HB.out.2).mono ?_
  rintro e w5 ⟨rfl, g1⟩
  have HB := hidJ (And.intro (HB.out.1.keep g1) (gb_none HB.out.2 g1))
  clear g1 H5
  cases t5
  · have hR : R = 41 := by rw [HR2.out]; rfl
    subst hR
    go_wp2
    go_ret
    exact ⟨rfl, HB.out.2⟩
  · have hR : R = 0 := by rw [HR2.out]; rfl
    subst hR
    go_wp2
    go_ret
    exact ⟨rfl, HB.out.2⟩
end Go.Proofs.YtbnieljkadcaoaaDoor

/- Nfq -/
namespace Go.Proofs.YtbnieljkadcaoaaDoor
open Go.RowKit Go.Shelf Go.Sort

set_option maxRecDepth 8000 in
set_option maxHeartbeats 12800000 in
theorem refNeeds_any (w : World) (m : MkR) (f s u v : Value) (has : Bool) (now rep : Int) (fi re : List (List LbT)) (h : RdM w m f s) (hu : RdLL w u fi) (hv : RdLL w v re) (hui : LLIn fi) (hvi : LLIn re) :
    Calls Tryd.prog 9 #[markV m f s, .bool has, .int .i64 now, .int .i64 rep, u, v] w fun e w' => e = .returned (.tuple #[.bool (needsM m has now rep fi re).1, .int .i64 (needsM m has now rep fi re).2]) ∧ w.grownBy w' none := by
  have HR : Hid (needsM m has now rep fi re = if timB now = false ∨ somB rep = false then (false, 1) else if allR fi = false ∨ allR re = false then (false, 41) else if has = false then (decide (0 < fi.length), 0) else if rightM m ≠ 0 then (false, rightM m) else (tellB m now rep fi re, 0)) := rfl
  have HTl : Hid (tellB m now rep fi re = if withinB fi m.fir = false then true else if fi.length = 0 then decide (0 < m.fir.length) else if withinB re m.res = false then true else decide (m.tim ≤ now - rep)) := rfl
  have H1 : Hid (∀ W, Calls Tryd.prog 29 #[.int .i64 now] W fun e w' => e = .returned (.bool (timB now)) ∧ w' = W) := fun W => refTimeN_any now W
  have HSm : Hid (somB rep = (decide (1 ≤ rep) && decide (rep ≤ 1099511627776))) := rfl
  have HNw : Hid (timB now = true → 0 ≤ now ∧ now ≤ 1125899906842624) := fun e => by
    unfold timB at e
    rw [Bool.and_eq_true, decide_eq_true_eq, decide_eq_true_eq] at e
    exact e
  have H3 : Hid (∀ W, w.grownBy W none → Calls Tryd.prog 30 #[u] W fun e w' => e = .returned (.bool (allR fi)) ∧ W.grownBy w' none) := fun W hW => refSets_any W u fi (hu.keep hW) hui
  have H4 : Hid (∀ W, w.grownBy W none → Calls Tryd.prog 30 #[v] W fun e w' => e = .returned (.bool (allR re)) ∧ W.grownBy w' none) := fun W hW => refSets_any W v re (hv.keep hW) hvi
  have H5 : Hid (∀ W, w.grownBy W none → Calls Tryd.prog 11 #[markV m f s] W fun e w' => e = .returned (.int .i64 (rightM m)) ∧ W.grownBy w' none) := fun W hW => refRightM_any W m f s (h.keep hW)
  have H6 : Hid (∀ W, w.grownBy W none → Calls Tryd.prog 13 #[u, f] W fun e w' => e = .returned (.bool (withinB fi m.fir)) ∧ W.grownBy w' none) := fun W hW => refWithin_any W u f fi m.fir (hu.keep hW) (h.fir.keep hW)
  have H7 : Hid (∀ W, w.grownBy W none → Calls Tryd.prog 13 #[v, s] W fun e w' => e = .returned (.bool (withinB re m.res)) ∧ W.grownBy w' none) := fun W hW => refWithin_any W v s re m.res (hv.keep hW) (h.res.keep hW)
  obtain ⟨fa, fc, hf, hf1, hf2⟩ := h.fir.shape
  obtain ⟨sa, sc, hs, hs1, hs2⟩ := h.res.shape
  obtain ⟨ua, uc, hu', hu1, hu2⟩ := hu.shape
  obtain ⟨va, vc, hv', hv1, hv2⟩ := hv.shape
  subst hf hs hu' hv'
  unfold markV at H5
  unfold markV
  have HB := hidJ (And.intro (B5.new w 24 (.string (ByteArray.mk ⟨m.rcv⟩)) (.string (ByteArray.mk ⟨m.key⟩)) (.int .i64 m.tim) (.slice fa m.fir.length fc) (.slice sa m.res.length sc)) (World.grownBy_alloc w (.cells #[.string (ByteArray.mk ⟨m.rcv⟩), .string (ByteArray.mk ⟨m.key⟩), .int .i64 m.tim, .slice fa m.fir.length fc, .slice sa m.res.length sc] 24) none))
  obtain ⟨nu, hnu⟩ : ∃ nu, fi.length = nu := ⟨_, rfl⟩
  obtain ⟨nf, hnf⟩ : ∃ nf, m.fir.length = nf := ⟨_, rfl⟩
  rw [hnu] at H3 H6 HR HTl hu1
  rw [hnf] at H5 H6 HB HTl hf1
  rw [hnu, hnf]
  clear h hnu hnf hu hv hui hvi
  generalize needsM m has now rep fi re = R at *
  generalize tellB m now rep fi re = t6 at *
  generalize rightM m = r5 at *
  generalize allR fi = t3 at *
  generalize allR re = t4 at *
  generalize timB now = t1 at *
  generalize somB rep = t2 at *
  generalize withinB fi m.fir = q1 at *
  generalize withinB re m.res = q2 at *
  generalize ByteArray.mk ⟨m.rcv⟩ = br at *
  generalize ByteArray.mk ⟨m.key⟩ = bk at *
  generalize m.tim = tm at *
  generalize m.res.length = ns at *
  generalize re.length = nv at *
  go_enter Tryd.func9, Tryd.ntmps9
  go_wp2_with fail
  refine (H1.out _).mono ?_
  rintro e w1 ⟨rfl, h1⟩
  have h1 := h1.symm
  subst h1
  clear H1
  generalize w.alloc (.cells #[.string br, .string bk, .int .i64 tm, .slice fa nf fc, .slice sa ns sc] 24) = W1 at *
  cases t1
  · have hR : R = (false, 1) := by rw [HR.out]; rfl
    subst hR
    go_wp2
    go_ret2
    exact ⟨rfl, HB.out.2⟩
  have hnw := HNw.out (by first | rfl | trivial)
  have HNW := hidJ hnw
  clear HNw hnw
  by_cases hp1 : rep < 1
  · have ht2 : t2 = false := by rw [HSm.out, decide_eq_false (by omega)]; rfl
    have hR : R = (false, 1) := by rw [HR.out, ht2]; rfl
    subst hR
    go_wp2
    go_ret2
    exact ⟨rfl, HB.out.2⟩
  by_cases hp2 : 1099511627776 < rep
  · have ht2 : t2 = false := by rw [HSm.out, decide_eq_false (show ¬ rep ≤ 1099511627776 by omega), Bool.and_false]
    have hR : R = (false, 1) := by rw [HR.out, ht2]; rfl
    subst hR
    go_wp2
    go_ret2
    exact ⟨rfl, HB.out.2⟩
  have ht2 : t2 = true := by rw [HSm.out, decide_eq_true (by omega), decide_eq_true (by omega)]; rfl
  subst ht2
  clear HSm
  go_wp2_with fail
  refine (H3.out _ HB.out.2).mono ?_
  rintro e w2 ⟨rfl, g1⟩
  have HB := hidJ (And.intro (HB.out.1.keep g1) (gb_none HB.out.2 g1))
  clear g1 H3
  cases t3
  · have hR : R = (false, 41) := by rw [HR.out]; rfl
    subst hR
    go_wp2
    go_ret2
    exact ⟨rfl, HB.out.2⟩
  go_wp2_with fail
  refine (H4.out _ HB.out.2).mono ?_
  rintro e w3 ⟨rfl, g1⟩
  have HB := hidJ (And.intro (HB.out.1.keep g1) (gb_none HB.out.2 g1))
  clear g1 H4
  cases t4
  · have hR : R = (false, 41) := by rw [HR.out]; rfl
    subst hR
    go_wp2
    go_ret2
    exact ⟨rfl, HB.out.2⟩
  cases has
  · have HRR : Hid (R = (decide (0 < nu), 0)) := by show R = _; rw [HR.out]; rfl
    clear HR
    go_wp2
    go_ret2
    exact ⟨by rw [HRR.out]; simp, HB.out.2⟩
  have HR2 : Hid (R = if r5 ≠ 0 then (false, r5) else (t6, 0)) := by show R = _; rw [HR.out]; rfl
  clear HR
  obtain ⟨c0, c1, c2, c3, c4⟩ := HB.out.1.cells
  go_wp2_with fail
  clear c0 c1 c2 c3 c4
  refine (H5.out _ HB.out.2).mono ?_
  rintro e w4 ⟨rfl, g1⟩
  have HB := hidJ (And.intro (HB.out.1.keep g1) (gb_none HB.out.2 g1))
  clear g1 H5
  by_cases h5 : r5 = 0
  · have HRR : Hid (R = (t6, 0)) := by show R = _; rw [HR2.out]; simp [h5]
    subst h5
    clear HR2
    obtain ⟨-, -, -, c3, -⟩ := HB.out.1.cells
    go_wp2_with fail
    clear c3
    refine (H6.out _ HB.out.2).mono ?_
    rintro e w5 ⟨rfl, g1⟩
    have HB := hidJ (And.intro (HB.out.1.keep g1) (gb_none HB.out.2 g1))
    clear g1 H6
    cases q1
    · have ht : t6 = true := by rw [HTl.out]; rfl
      subst ht
      go_wp2
      go_ret2
      exact ⟨by rw [HRR.out]; rfl, HB.out.2⟩
    obtain ⟨-, -, -, c3, c4⟩ := HB.out.1.cells
    by_cases h0 : nu = 0
    · have ht : t6 = decide (0 < nf) := by rw [HTl.out]; simp [h0]
      have HT6 := hidJ ht
      subst h0
      clear HTl ht H7 c4
      go_wp2
      go_ret2
      exact ⟨by rw [HRR.out, HT6.out]; simp, HB.out.2⟩
    have h0i : ((nu : Int) == 0) = false := by rw [beq_eq_false_iff_ne]; omega
    have h0j : ¬ (nu : Int) = 0 := by omega
    have HT6 : Hid (t6 = if q2 = false then true else decide (tm ≤ now - rep)) := by
      show t6 = _
      rw [HTl.out]
      simp [h0]
    clear HTl h0 c3
    go_wp2_with fail
    clear c4
    refine (H7.out _ HB.out.2).mono ?_
    rintro e w6 ⟨rfl, g1⟩
    have HB := hidJ (And.intro (HB.out.1.keep g1) (gb_none HB.out.2 g1))
    clear g1 H7
    cases q2
    · have ht : t6 = true := by rw [HT6.out]; rfl
      subst ht
      go_wp2
      go_ret2
      exact ⟨by rw [HRR.out]; rfl, HB.out.2⟩
    · obtain ⟨z, hz⟩ : ∃ z, now - rep = z := ⟨_, rfl⟩
      have hz1 : -9223372036854775808 ≤ now - rep := by have := HNW.out; omega
      have hz2 : now - rep ≤ 9223372036854775807 := by have := HNW.out; omega
      have HT7 : Hid (t6 = decide (tm ≤ z)) := by show t6 = _; rw [HT6.out, hz]; rfl
      rw [hz] at hz1 hz2
      clear HT6
      obtain ⟨-, -, c2, -, -⟩ := HB.out.1.cells
      go_wp2
      go_ret2
      exact ⟨by rw [HRR.out, HT7.out]; rfl, HB.out.2⟩
  · have HRR : Hid (R = (false, r5)) := by show R = _; rw [HR2.out]; simp [h5]
    have h5b : (r5 == 0) = false := by rw [beq_eq_false_iff_ne]; exact h5
    clear HR2 H6
    go_wp2
    go_ret2
    exact ⟨by rw [HRR.out]; rfl, HB.out.2⟩
end Go.Proofs.YtbnieljkadcaoaaDoor

/- Nfr -/
namespace Go.Proofs.YtbnieljkadcaoaaDoor
open Go.RowKit Go.Shelf Go.Sort

theorem ll_ext {a b : List (List LbT)} (hl : a.length = b.length) (h : ∀ j, j < a.length → a.getD j [] = b.getD j []) : a = b := by
  apply List.ext_getElem hl
  intro j h1 h2
  have := h j h1
  simpa [List.getD, h1, h2] using this
set_option maxRecDepth 8000 in
set_option maxHeartbeats 6400000 in
theorem sameSets_any (w : World) (va vb : Value) (xs bs : List (List LbT)) (ha : RdLL w va xs) (hb : RdLL w vb bs) :
    Calls Tryd.prog 16 #[va, vb] w fun e w' => e = .returned (.bool (decide (xs = bs))) ∧ w.grownBy w' none := by
  have HA := hidJ (And.intro ha hb)
  obtain ⟨a, c, rfl, hc1, hc2⟩ := ha.shape
  obtain ⟨b, d, rfl, hd1, hd2⟩ := hb.shape
  clear ha hb
  by_cases hlen : xs.length = bs.length
  · have hli : (xs.length : Int) = (bs.length : Int) := by omega
    have HT : Hid ((∀ j, j < xs.length → xs.getD j [] = bs.getD j []) → decide (xs = bs) = true) := fun h => decide_eq_true (ll_ext hlen h)
    have HF : Hid (∀ j, j < xs.length → xs.getD j [] ≠ bs.getD j [] → decide (xs = bs) = false) := fun j _ h => decide_eq_false (fun e => h (by rw [e]))
    have HL := hidJ hlen
    generalize decide (xs = bs) = B at *
    clear hlen
    go_enter Tryd.func16, Tryd.ntmps16
    go_wp2
    go_loopw [13] (fun i wr => ∃ z : Nat, z ≤ xs.length ∧ i = .int .i64 z ∧ Hid (w.grownBy wr none ∧ ∀ j, j < z → xs.getD j [] = bs.getD j [])) (fun i _ => xs.length - (intOf i).toNat)
    case atStart => exact ⟨0, by omega, rfl, gb_refl _ _, fun j hj => by omega⟩
    case round =>
      obtain ⟨z, hzN, rfl, hr⟩ := hrel
      have HG : Hid (w.grownBy wr none) := hr.out.1
      by_cases hzl : z < xs.length
      · have hzi : (z : Int) < (xs.length : Int) := by omega
        have hzb : z < bs.length := by have := HL.out; omega
        have hzj : (z : Int) < (bs.length : Int) := by omega
        obtain ⟨b1, o1, ha', hac, rfl, c0, hrd⟩ := (HA.out.1.keep HG.out).at (j := z) hzl
        obtain ⟨b2, o2, hb', hbc, rfl, d0, hrd2⟩ := (HA.out.2.keep HG.out).at (j := z) hzb
        have HS : Hid (∀ W, wr.grownBy W none → Calls Tryd.prog 38 #[.slice ha' (xs.getD z []).length hac, .slice hb' (bs.getD z []).length hbc] W fun e w' => e = .returned (.bool (decide (xs.getD z [] = bs.getD z []))) ∧ (w'.cell? ⟨b1, o1 + z, none⟩ = some (.slice ha' (xs.getD z []).length hac) ∧ w'.cell? ⟨b2, o2 + z, none⟩ = some (.slice hb' (bs.getD z []).length hbc)) ∧ Hid (w.grownBy w' none)) := fun W hW => (refSameN_any W _ _ _ _ (hrd.keep hW) (hrd2.keep hW)).mono fun e w' ⟨h1, h2⟩ => ⟨h1, ⟨(World.cell?_of_block ((gb_none hW h2).block b1 (block_lt c0) (by simp))).trans c0, (World.cell?_of_block ((gb_none hW h2).block b2 (block_lt d0) (by simp))).trans d0⟩, gb_none (gb_none HG.out hW) h2⟩
        have HD : Hid (wr.grownBy wr.drew none) := gb_drew _ _
        have HE := hidJ hr.out.2
        clear hrd hrd2 hr
        generalize (xs.getD z []).length = n1 at *
        generalize (bs.getD z []).length = n2 at *
        by_cases heq : xs.getD z [] = bs.getD z []
        · have H2 : Hid (∀ j, j < z + 1 → xs.getD j [] = bs.getD j []) := fun j hj => by
            by_cases e : j = z
            · rw [e]; exact heq
            · exact HE.out j (by omega)
          rw [decide_eq_true heq] at HS
          clear heq HT HF
          go_wp2
          go_region_held3 (fun w' => w'.cell? ⟨b1, o1 + z, none⟩ = some (.slice ha' n1 hac) ∧ w'.cell? ⟨b2, o2 + z, none⟩ = some (.slice hb' n2 hbc)) (go_keep)
            (first | (go_at_call 38; with_reducible refine (HS.out _ HD.out).mono ?_; rintro e w3 ⟨rfl, ⟨k0, k1⟩, H3⟩))
          go_wp2
          go_roundw
          case rel => exact ⟨z + 1, by omega, by go_num, H3.out, H2.out⟩
          case measure => simp [intOf]; omega
        · have hB : B = false := HF.out z hzl heq
          subst hB
          rw [decide_eq_false heq] at HS
          clear heq HT HF
          go_wp2
          go_region_held3 (fun w' => w'.cell? ⟨b1, o1 + z, none⟩ = some (.slice ha' n1 hac) ∧ w'.cell? ⟨b2, o2 + z, none⟩ = some (.slice hb' n2 hbc)) (go_keep)
            (first | (go_at_call 38; with_reducible refine (HS.out _ HD.out).mono ?_; rintro e w3 ⟨rfl, ⟨k0, k1⟩, H3⟩))
          go_wp2
          go_ret
          exact ⟨rfl, H3.out⟩
      · have hB : B = true := HT.out (fun j hj => hr.out.2 j (by omega))
        subst hB
        have hzi : ¬ (z : Int) < (xs.length : Int) := by omega
        clear hr HT HF
        go_wp2
        go_ret
        exact ⟨rfl, HG.out⟩
  · have hli : ((xs.length : Int) == (bs.length : Int)) = false := by rw [beq_eq_false_iff_ne]; omega
    have hB : decide (xs = bs) = false := decide_eq_false (fun e => hlen (by rw [e]))
    rw [hB]
    clear hB
    go_enter Tryd.func16, Tryd.ntmps16
    go_wp2
    go_ret
    exact ⟨rfl, gb_refl _ _⟩
set_option maxRecDepth 8000 in
set_option maxHeartbeats 6400000 in
theorem sameM_refl (w : World) (m : MkR) (f s f' s' : Value) (hf : RdLL w f m.fir) (hs : RdLL w s m.res) (hf' : RdLL w f' m.fir) (hs' : RdLL w s' m.res) :
    Calls Tryd.prog 18 #[markV m f s, markV m f' s'] w fun e w' => e = .returned (.bool true) ∧ w.grownBy w' none := by
  have H1 : Hid (∀ W, w.grownBy W none → Calls Tryd.prog 16 #[f, f'] W fun e w' => e = .returned (.bool true) ∧ W.grownBy w' none) := fun W hW => by
    have h := sameSets_any W f f' m.fir m.fir (hf.keep hW) (hf'.keep hW)
    rw [decide_eq_true rfl] at h
    exact h
  have H2 : Hid (∀ W, w.grownBy W none → Calls Tryd.prog 16 #[s, s'] W fun e w' => e = .returned (.bool true) ∧ W.grownBy w' none) := fun W hW => by
    have h := sameSets_any W s s' m.res m.res (hs.keep hW) (hs'.keep hW)
    rw [decide_eq_true rfl] at h
    exact h
  obtain ⟨fa, fc, e1, -⟩ := hf.shape
  obtain ⟨sa, sc, e2, -⟩ := hs.shape
  obtain ⟨fa', fc', e3, -⟩ := hf'.shape
  obtain ⟨sa', sc', e4, -⟩ := hs'.shape
  subst e1 e2 e3 e4
  clear hf hs hf' hs'
  unfold markV
  generalize ByteArray.mk ⟨m.rcv⟩ = br at *
  generalize ByteArray.mk ⟨m.key⟩ = bk at *
  generalize m.tim = tm at *
  generalize m.fir.length = nf at *
  generalize m.res.length = ns at *
  have k1 := World.grownBy_alloc w (.cells #[.string br, .string bk, .int .i64 tm, .slice fa nf fc, .slice sa ns sc] 24) none
  have k2 := World.grownBy_alloc (w.alloc (.cells #[.string br, .string bk, .int .i64 tm, .slice fa nf fc, .slice sa ns sc] 24)) (.cells #[.string br, .string bk, .int .i64 tm, .slice fa' nf fc', .slice sa' ns sc'] 24) none
  have hb1 := (B5.new w 24 (.string br) (.string bk) (.int .i64 tm) (.slice fa nf fc) (.slice sa ns sc)).keep k2
  have hb2 := B5.new (w.alloc (.cells #[.string br, .string bk, .int .i64 tm, .slice fa nf fc, .slice sa ns sc] 24)) 24 (.string br) (.string bk) (.int .i64 tm) (.slice fa' nf fc') (.slice sa' ns sc')
  rw [World.size_alloc] at hb2
  have HB := hidJ (And.intro (gb_none k1 k2) (And.intro hb1 hb2))
  have q1 : (br.toList == br.toList) = true := by simp
  have q2 : (bk.toList == bk.toList) = true := by simp
  clear k1 k2 hb1 hb2
  go_enter Tryd.func18, Tryd.ntmps18
  go_wp2_with fail
  refine (H1.out _ HB.out.1).mono ?_
  rintro e w1 ⟨rfl, g1⟩
  have HB1 := hidJ (And.intro (gb_none HB.out.1 g1) (And.intro (HB.out.2.1.keep g1) (HB.out.2.2.keep g1)))
  clear H1 g1 HB
  obtain ⟨-, -, -, -, c4⟩ := HB1.out.2.1.cells
  obtain ⟨-, -, -, -, d4⟩ := HB1.out.2.2.cells
  go_wp2_with fail
  refine (H2.out _ HB1.out.1).mono ?_
  rintro e w2 ⟨rfl, g2⟩
  have HB2 := hidJ (gb_none HB1.out.1 g2)
  clear H2 g2 HB1 c4 d4
  go_wp2
  go_ret
  exact ⟨rfl, HB2.out⟩
end Go.Proofs.YtbnieljkadcaoaaDoor

/- Nfs -/
namespace Go.Proofs.YtbnieljkadcaoaaDoor
open Go.RowKit Go.Shelf Go.Sort

/-- spoil between two rounds: all that is written was made behind w0 -/
structure SpJ (w0 : World) (v : Value) (vs : List Value) (wr : World) : Prop where
  old : w0.grownBy wr none
  row : OwnVs wr w0.heap.size v vs
  each : ∀ j, ∃ m : List LbT, OwnL wr w0.heap.size (vs.getD j nilV) m
theorem SpJ.set {w0 wr : World} {v : Value} {vs : List Value} (h : SpJ w0 v vs wr) {g : Nat} {m : List LbT} {n c : Nat} (ho : OwnL wr w0.heap.size (.slice (some ⟨g, 0, none⟩) n c) m) (j : Nat) (x : LbT) :
    SpJ w0 v vs ((wr.setCell ⟨g, j * 2, none⟩ (.string (ByteArray.mk ⟨x.1⟩))).setCell ⟨g, j * 2 + 1, none⟩ (.string (ByteArray.mk ⟨x.2⟩))) := by
  obtain ⟨k1, k2⟩ := ho.set j x
  have hgb : w0.heap.size ≤ g := (World.ownsRow.lt ho g rfl).1
  refine ⟨gb_new h.old k2 (fun k hk => by cases hk; exact hgb), ?_, fun i => ?_⟩
  · refine row_via h.row (fun k hk => k2.block k ?_ ?_)
    · exact (World.ownsRow.lt h.row k hk).2
    · intro e
      cases e
      obtain ⟨cur, q1⟩ := row_objE h.row hk
      obtain ⟨cur', q2⟩ := row_objE ho (rfl : (Value.slice (some ⟨g, 0, none⟩) n c).ownBlock = some g)
      rw [q1] at q2
      simp at q2
  · obtain ⟨m', hm'⟩ := h.each i
    obtain ⟨a, c', e⟩ := hm'.shape
    by_cases hb : (vs.getD i nilV).ownBlock = some g
    · have hm2 := hm'
      rcases hm'.2 with ⟨e1, -⟩ | ⟨g', cap, cur, e1, r⟩
      · rw [e1] at hb
        simp [Value.ownBlock] at hb
      · rw [e1] at hb hm2 ⊢
        simp only [Value.ownBlock, Option.some.injEq] at hb
        first | subst hb | (have hb2 : g' = g := by simpa [Value.ownBlock] using hb; subst hb2)
        exact ⟨m'.set j x, (hm2.set j x).1⟩
    · exact ⟨m', row_via hm' (fun k hk => k2.block k (World.ownsRow.lt hm' k hk).2 (fun e => hb (by rw [hk, e])))⟩
theorem SpJ.clr {w0 wr : World} {g N c : Nat} {vs : List Value} (h : SpJ w0 (.slice (some ⟨g, 0, none⟩) N c) vs wr) (z : Nat) :
    SpJ w0 (.slice (some ⟨g, 0, none⟩) N c) (vs.set z nilV) (wr.setCell ⟨g, z, none⟩ nilV) := by
  have hN : N = vs.length := by
    rcases h.row.2 with ⟨h', _⟩ | ⟨_, _, _, h', _⟩
    · simp at h'
    · simp at h'; exact h'.2.1
  subst hN
  have hgb : w0.heap.size ≤ g := (World.ownsRow.lt h.row g rfl).1
  obtain ⟨k1, k2⟩ := World.ownsRow.stored h.row z nilV
  refine ⟨gb_new h.old k2 (fun k hk => by cases hk; exact hgb), ?_, fun i => ?_⟩
  · unfold OwnVs
    rw [List.length_set]
    exact k1
  · by_cases e : z = i
    · refine ⟨[], ?_⟩
      have e2 : (vs.set z nilV).getD i nilV = nilV := by
        simp only [List.getD, e, List.getElem?_set]
        by_cases hl : i < vs.length <;> simp [hl]
      rw [e2]
      exact World.ownsRow_nil _ _ _ _
    · obtain ⟨m', hm'⟩ := h.each i
      have e2 : (vs.set z nilV).getD i nilV = vs.getD i nilV := by simp [List.getD, e]
      rw [e2]
      refine ⟨m', row_via hm' (fun k hk => k2.block k (World.ownsRow.lt hm' k hk).2 (fun e => ?_))⟩
      cases e
      obtain ⟨cur, q1⟩ := row_objE hm' hk
      obtain ⟨cur', q2⟩ := row_objE h.row (rfl : (Value.slice (some ⟨g, 0, none⟩) vs.length c).ownBlock = some g)
      rw [q1] at q2
      simp at q2
set_option maxRecDepth 8000 in
set_option maxHeartbeats 3200000 in
theorem spoilS_any (w0 w : World) (v : Value) (lss : List (List LbT)) (h0 : w0.grownBy w none) (hv : OwnLL w w0.heap.size v lss) :
    Calls Tryd.prog 17 #[v] w fun e w' => e = .returned (.tuple #[]) ∧ w0.grownBy w' none := by
  obtain ⟨vs0, h1, h2, h3⟩ := hv
  have H0 : Hid (SpJ w0 v vs0 w) := ⟨h0, h1, fun j => ⟨_, h3 j⟩⟩
  obtain ⟨a, c, rfl⟩ := h1.shape
  have hn0 : vs0.length ≤ 9223372036854775807 := by
    rcases h1.2 with ⟨-, h'⟩ | ⟨g, cap, cur, e, -, -, hnc, hcm, -⟩
    · omega
    · unfold maxLen at hcm; omega
  clear h0 h1 h2 h3
  obtain ⟨n, hn⟩ : ∃ n, vs0.length = n := ⟨_, rfl⟩
  have HN := hidJ hn
  rw [hn] at H0 hn0
  rw [hn]
  clear hn
  go_enter Tryd.func17, Tryd.ntmps17
  go_wp2
  go_loopw [6] (fun i wr => ∃ z : Nat, z ≤ n ∧ i = .int .i64 z ∧ Hid (∃ vs, vs.length = n ∧ SpJ w0 (.slice a n c) vs wr)) (fun i _ => n - (intOf i).toNat)
  case atStart => exact ⟨0, by omega, rfl, vs0, HN.out, H0.out⟩
  case round =>
    obtain ⟨z, hzN, rfl, hr⟩ := hrel
    clear H0 HN
    obtain ⟨vs, hvn, hr⟩ := hr.out
    have HR := hidJ hr
    have HVN := hidJ hvn
    clear hr hvn
    by_cases hzl : z < n
    · have hzi : (z : Int) < (n : Int) := by omega
      obtain ⟨g, c2, he, hc1, hc2, hbg, d0, d1, hgl⟩ := HR.out.row.cell (j := z) (by have := HVN.out; omega)
      simp only [Value.slice.injEq] at he
      obtain ⟨rfl, -, rfl⟩ := he
      obtain ⟨m, hm⟩ := HR.out.each z
      obtain ⟨ua, uc, eu⟩ := hm.shape
      have HU : Hid (vs.getD z nilV = .slice ua m.length uc) := eu
      have hml : m.length ≤ 9223372036854775807 := by
        rcases hm.2 with ⟨-, h'⟩ | ⟨g, cap, cur, e, -, -, hnc, hcm, -⟩
        · omega
        · unfold maxLen at hcm; omega
      rw [eu] at d0
      clear eu hm
      obtain ⟨ml, hmm⟩ : ∃ ml, m.length = ml := ⟨_, rfl⟩
      rw [hmm] at d0 HU hml
      clear hmm
      have hzc : z < c := by have := HVN.out; omega
      clear hc1 hbg hgl d1
      go_wp2
      go_loopw [14] (fun i wr2 => ∃ k : Nat, k ≤ ml ∧ i = .int .i64 k ∧ Hid (SpJ w0 (.slice (some ⟨g, 0, none⟩) n c) vs wr2)) (fun i _ => ml - (intOf i).toNat)
      case atStart => exact ⟨0, by omega, rfl, HR.out⟩
      case round =>
        obtain ⟨k, hkN, rfl, hr⟩ := hrel
        clear HR d0
        obtain ⟨g', c3, he, -, -, -, d0, d1, -⟩ := hr.out.row.cell (j := z) (by have := HVN.out; omega)
        simp only [Value.slice.injEq, Option.some.injEq, Addr.mk.injEq] at he
        obtain ⟨⟨rfl, -, -⟩, -, rfl⟩ := he
        have HU2 := HU.out
        by_cases hkl : k < ml
        · have hki : (k : Int) < (ml : Int) := by omega
          obtain ⟨m2, hm2⟩ := hr.out.each z
          rw [HU2] at d0 hm2
          have hm2l : m2.length = ml := by
            obtain ⟨_, _, e⟩ := hm2.shape
            simp only [Value.slice.injEq] at e
            exact e.2.1.symm
          obtain ⟨b, cap, he, -, -, hcap, hcm, hcell⟩ := hm2.form (by omega)
          rw [hm2l] at he hcap
          simp only [Value.slice.injEq] at he
          obtain ⟨rfl, -, rfl⟩ := he
          obtain ⟨c0, c1⟩ := hcell k (by omega)
          have f0 := hm2.frozen (k * 2)
          have f1 := hm2.frozen (k * 2 + 1)
          have hst : Hid (SpJ w0 (.slice (some ⟨g, 0, none⟩) n c) vs ((wr.setCell ⟨b, k * 2, none⟩ (.string (ByteArray.mk ⟨spB⟩))).setCell ⟨b, k * 2 + 1, none⟩ (.string (ByteArray.mk ⟨[]⟩)))) := hr.out.set hm2 k (spB, [])
          clear hcell hr hm2 HU2 hm2l
          generalize ByteArray.mk ⟨(m2.getD k ([], [])).1⟩ = o1 at *
          generalize ByteArray.mk ⟨(m2.getD k ([], [])).2⟩ = o2 at *
          go_wp2
          go_roundw
          case rel => exact ⟨k + 1, by omega, by go_num, hst⟩
          case measure => simp [intOf]; omega
        · have hki : ¬ (k : Int) < (ml : Int) := by omega
          rw [HU2] at d0
          have hst : Hid (∃ vs, vs.length = n ∧ SpJ w0 (.slice (some ⟨g, 0, none⟩) n c) vs (wr.setCell ⟨g, z, none⟩ (.slice none 0 0))) := ⟨vs.set z nilV, by rw [List.length_set]; exact HVN.out, hr.out.clr z⟩
          clear hr HU2 HU HVN
          go_wp2
          go_roundw
          case rel => exact ⟨z + 1, by omega, by go_num, hst⟩
          case measure => simp [intOf]; omega
    · have hzi : ¬ (z : Int) < (n : Int) := by omega
      have HF := hidJ HR.out.old
      clear HR HVN
      go_wp2
      go_end0
      exact ⟨rfl, HF.out⟩
end Go.Proofs.YtbnieljkadcaoaaDoor
