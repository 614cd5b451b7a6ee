/-
  Nfn, Nk7, in one text.
-/
import Derived.Test.YtpglhdnepmcahaaGreatDoorNgA
import Derived.Test.YtpglhdnepmcahaaGreatDoorNkA
/- Nfn -/
namespace Go.Proofs.YtpglhdnepmcahaaGreatDoor
open Go.RowKit Go.Shelf Go.Sort

set_option maxHeartbeats 800000 in
theorem refTimeN_any (n : Int) (w : World) : Calls Tryz.prog 58 #[.int .i64 n] w fun e w' => e = .returned (.bool (timB n)) ∧ w' = w := by
  have HR : Hid (timB n = (decide (0 ≤ n) && decide (n ≤ 1125899906842624))) := rfl
  generalize timB n = r at *
  by_cases h1 : 0 ≤ n
  · by_cases h2 : n ≤ 1125899906842624
    · have hr : r = true := by rw [HR.out]; simp [h1, h2]
      subst hr
      go_enter Tryz.func58, Tryz.ntmps58
      go_wp2
      go_ret
      exact ⟨rfl, rfl⟩
    · have hr : r = false := by rw [HR.out]; simp [h2]
      subst hr
      go_enter Tryz.func58, Tryz.ntmps58
      go_wp2
      go_ret
      exact ⟨rfl, rfl⟩
  · have hr : r = false := by rw [HR.out]; simp [h1]
    subst hr
    go_enter Tryz.func58, Tryz.ntmps58
    go_wp2
    go_ret
    exact ⟨rfl, rfl⟩
set_option maxRecDepth 8000 in
set_option maxHeartbeats 3200000 in
theorem refSets_any (w : World) (v : Value) (lss : List (List LbT)) (hv : RdLL w v lss) (hl : LLIn lss) :
    Calls Tryz.prog 83 #[v] w fun e w' => e = .returned (.bool (allR lss)) ∧ w.grownBy w' none := by
  have HV := hidJ (And.intro hv hl)
  obtain ⟨a, c, rfl, hc1, hc2⟩ := hv.shape
  obtain ⟨R, hR⟩ : ∃ R, R = allR lss := ⟨_, rfl⟩
  rw [← hR]
  have HR : Hid (R = allR (lss.drop 0)) := by show R = _; rw [hR]; simp
  clear hv hl hR
  go_enter Tryz.func83, Tryz.ntmps83
  go_wp2
  go_loopw [9] (fun i wr => ∃ z : Nat, z ≤ lss.length ∧ i = .int .i64 z ∧ Hid (w.grownBy wr none ∧ R = allR (lss.drop z))) (fun i _ => lss.length - (intOf i).toNat)
  case atStart => exact ⟨0, by omega, rfl, gb_refl _ _, HR.out⟩
  case round =>
    obtain ⟨z, hzN, rfl, hr⟩ := hrel
    have HG : Hid (w.grownBy wr none) := hr.out.1
    by_cases hzl : z < lss.length
    · have hzi : (z : Int) < (lss.length : Int) := by omega
      obtain ⟨b, o, ha', hcc, rfl, c0, hrd⟩ := (HV.out.1.keep HG.out).at (j := z) hzl
      have HB := hidJ (refRight_any wr _ _ hrd (HV.out.2.2 z))
      have HW : Hid (R = (decide ((rightS (lss.getD z [])).1 = 0) && allR (lss.drop (z + 1)))) := by
        show _ = _
        rw [← allR_drop hzl]
        exact hr.out.2
      clear hr hrd HR
      generalize (lss.getD z []).length = hn at *
      generalize (rightS (lss.getD z [])).1 = r at *
      generalize (((rightS (lss.getD z [])).2 : Nat) : Int) = q at *
      by_cases hm : r = 0
      · subst hm
        rw [decide_eq_true rfl, Bool.true_and] at HW
        go_wp2_with fail
        refine HB.out.mono ?_
        rintro e w2 ⟨rfl, hg2⟩
        have H2 := hidJ (gb_none HG.out hg2)
        clear HB hg2 c0
        go_wp2
        go_roundw
        case rel => exact ⟨z + 1, by omega, by go_num, H2.out, HW.out⟩
        case measure => simp [intOf]; omega
      · rw [decide_eq_false hm, Bool.false_and] at HW
        have hrb : (r == 0) = false := by rw [beq_eq_false_iff_ne]; exact hm
        go_wp2_with fail
        refine HB.out.mono ?_
        rintro e w2 ⟨rfl, hg2⟩
        have H2 := hidJ (gb_none HG.out hg2)
        clear HB hg2 c0
        go_wp2
        go_ret
        exact ⟨by rw [HW.out]; rfl, H2.out⟩
    · have hzi : ¬ (z : Int) < (lss.length : Int) := by omega
      have HW : Hid (R = true) := by
        show _ = _
        rw [hr.out.2, List.drop_eq_nil_of_le (by omega)]
        rfl
      clear hr HR
      go_wp2
      go_ret
      exact ⟨by rw [HW.out]; rfl, HG.out⟩
/-- right, and above the one ahead, one by one -/
def rsB (lss : List (List LbT)) : Nat → Nat → Bool
  | 0, _ => true
  | f + 1, i => (decide ((rightS (lss.getD i [])).1 = 0) && (decide (i = 0) || decide (cmpLs (lss.getD (i - 1) []) (lss.getD i []) < 0))) && rsB lss f (i + 1)
theorem rsB_iff (lss : List (List LbT)) : ∀ f i, rsB lss f i = true ↔ ∀ k, i ≤ k → k < i + f → (rightS (lss.getD k [])).1 = 0 ∧ (k = 0 ∨ cmpLs (lss.getD (k - 1) []) (lss.getD k []) < 0)
  | 0, i => ⟨fun _ k h1 h2 => by omega, fun _ => rfl⟩
  | f + 1, i => by
    rw [rsB, Bool.and_eq_true, Bool.and_eq_true, Bool.or_eq_true, decide_eq_true_eq, decide_eq_true_eq, decide_eq_true_eq, rsB_iff lss f (i + 1)]
    constructor
    · rintro ⟨h1, h2⟩ k hk hk2
      by_cases e : k = i
      · rw [e]; exact h1
      · exact h2 k (by omega) (by omega)
    · intro h
      exact ⟨h i (Nat.le_refl _) (by omega), fun k h1 h2 => h k (by omega) (by omega)⟩
theorem upB_iff (lss : List (List LbT)) : ∀ f i, upB lss f i = true ↔ ∀ k, i ≤ k → k < i + f → cmpLs (lss.getD (k - 1) []) (lss.getD k []) < 0
  | 0, i => ⟨fun _ k h1 h2 => by omega, fun _ => rfl⟩
  | f + 1, i => by
    rw [upB, Bool.and_eq_true, decide_eq_true_eq, upB_iff lss f (i + 1)]
    constructor
    · rintro ⟨h1, h2⟩ k hk hk2
      by_cases e : k = i
      · rw [e]; exact h1
      · exact h2 k (by omega) (by omega)
    · intro h
      exact ⟨h i (Nat.le_refl _) (by omega), fun k h1 h2 => h k (by omega) (by omega)⟩
theorem allR_iff (lss : List (List LbT)) : allR lss = true ↔ ∀ k, k < lss.length → (rightS (lss.getD k [])).1 = 0 := by
  unfold allR
  rw [List.all_eq_true]
  constructor
  · intro h k hk
    have e : lss.getD k [] = lss[k] := by simp [List.getD, hk]
    rw [e]
    exact of_decide_eq_true (h lss[k] (by simp))
  · intro h x hx
    obtain ⟨k, hk, rfl⟩ := List.mem_iff_getElem.1 hx
    have e : lss.getD k [] = lss[k] := by simp [List.getD, hk]
    exact decide_eq_true (by rw [← e]; exact h k hk)
theorem rsB_rise (lss : List (List LbT)) : rsB lss lss.length 0 = riseB lss := by
  rw [Bool.eq_iff_iff, rsB_iff]
  unfold riseB
  rw [Bool.and_eq_true, upB_iff, allR_iff]
  constructor
  · intro h
    refine ⟨fun k h1 h2 => ?_, fun k hk => (h k (by omega) (by omega)).1⟩
    rcases (h k (by omega) (by omega)).2 with e | e
    · omega
    · exact e
  · rintro ⟨h1, h2⟩ k - hk
    refine ⟨h2 k (by omega), ?_⟩
    by_cases e : k = 0
    · exact .inl e
    · exact .inr (h1 k (by omega) (by omega))
set_option maxRecDepth 8000 in
set_option maxHeartbeats 6400000 in
theorem refRising_any (w : World) (v : Value) (lss : List (List LbT)) (hv : RdLL w v lss) (hl : LLIn lss) :
    Calls Tryz.prog 78 #[v] w fun e w' => e = .returned (.bool (riseB lss)) ∧ w.grownBy w' none := by
  have HV := hidJ (And.intro hv hl)
  obtain ⟨a, c, rfl, hc1, hc2⟩ := hv.shape
  obtain ⟨R, hR⟩ : ∃ R, R = riseB lss := ⟨_, rfl⟩
  rw [← hR]
  have HR : Hid (R = rsB lss (lss.length - 0) 0) := by show R = _; rw [hR, Nat.sub_zero, rsB_rise]
  clear hv hl hR
  go_enter Tryz.func78, Tryz.ntmps78
  go_wp2
  go_loopw [9] (fun i wr => ∃ z : Nat, z ≤ lss.length ∧ i = .int .i64 z ∧ Hid (w.grownBy wr none ∧ R = rsB lss (lss.length - z) z)) (fun i _ => lss.length - (intOf i).toNat)
  case atStart => exact ⟨0, by omega, rfl, gb_refl _ _, HR.out⟩
  case round =>
    obtain ⟨z, hzN, rfl, hr⟩ := hrel
    have HG : Hid (w.grownBy wr none) := hr.out.1
    by_cases hzl : z < lss.length
    · have hzi : (z : Int) < (lss.length : Int) := by omega
      obtain ⟨b, o, ha', hcc, rfl, c0, hrd⟩ := (HV.out.1.keep HG.out).at (j := z) hzl
      have HB := hidJ (refRight_any wr _ _ hrd (HV.out.2.2 z))
      have HW : Hid (R = ((decide ((rightS (lss.getD z [])).1 = 0) && (decide (z = 0) || decide (cmpLs (lss.getD (z - 1) []) (lss.getD z []) < 0))) && rsB lss (lss.length - (z + 1)) (z + 1))) := by
        show _ = _
        have h := hr.out.2
        obtain ⟨f, hf⟩ : ∃ f, lss.length - z = f + 1 := ⟨lss.length - z - 1, by omega⟩
        rw [hf, rsB] at h
        rw [show lss.length - (z + 1) = f by omega]
        exact h
      have HX := hidJ hrd
      clear hr hrd HR
      generalize hnx : (lss.getD z []).length = nx at *
      have HNX := hidJ hnx
      clear hnx
      generalize hr1 : (rightS (lss.getD z [])).1 = r at *
      clear hr1
      generalize (((rightS (lss.getD z [])).2 : Nat) : Int) = q at *
      by_cases hm : r = 0
      · subst hm
        rw [decide_eq_true rfl, Bool.true_and] at HW
        by_cases hz0 : z = 0
        · rw [decide_eq_true hz0, Bool.true_or, Bool.true_and] at HW
          subst hz0
          simp only [Nat.add_zero] at c0
          go_wp2_with fail
          refine HB.out.mono ?_
          rintro e w2 ⟨rfl, hg2⟩
          have H2 := hidJ (gb_none HG.out hg2)
          clear HB hg2 c0
          go_wp2
          go_roundw
          case rel => exact ⟨0 + 1, by omega, by go_num, H2.out, HW.out⟩
          case measure => simp [intOf]; omega
        · rw [decide_eq_false hz0, Bool.false_or] at HW
          obtain ⟨y, hy⟩ : ∃ y, z = y + 1 := ⟨z - 1, by omega⟩
          rw [show z - 1 = y by omega] at HW
          have hyi : (z : Int) - 1 = (y : Int) := by omega
          have hyl : y < lss.length := by omega
          have hyI : (y : Int) < (lss.length : Int) := by omega
          have hz0i : (0 : Int) < (z : Int) := by omega
          have hHY : Hid (∀ W, w.grownBy W none → ∃ a2 c2, W.cell? ⟨b, o + y, none⟩ = some (.slice a2 (lss.getD y []).length c2) ∧ RdL W (.slice a2 (lss.getD y []).length c2) (lss.getD y [])) := fun W hW => by
            obtain ⟨b2, o2, a2, c2, e1, e2, e3⟩ := (HV.out.1.keep hW).at (j := y) hyl
            cases e1
            exact ⟨a2, c2, e2, e3⟩
          clear hy hz0
          go_wp2_with fail
          refine HB.out.mono ?_
          rintro e w2 ⟨rfl, hg2⟩
          have hgw := gb_none HG.out hg2
          obtain ⟨a2, c2, d0, hrd2⟩ := hHY.out w2 hgw
          have HC := hidJ (refCompare_any w2 _ _ _ _ hrd2 (HX.out.keep hg2))
          have H2 := hidJ hgw
          clear HB hg2 c0 hrd2 hgw
          generalize (lss.getD y []).length = ny at *
          generalize cmpLs (lss.getD y []) (lss.getD z []) = rr at *
          by_cases hrr : rr < 0
          · rw [decide_eq_true hrr, Bool.true_and] at HW
            have hr0 : ¬ 0 ≤ rr := by omega
            go_wp2_with fail
            refine HC.out.mono ?_
            rintro e w3 ⟨rfl, hg3⟩
            have H3 := hidJ (gb_none H2.out hg3)
            clear HC hg3 d0
            go_wp2
            go_roundw
            case rel => exact ⟨z + 1, by omega, by go_num, H3.out, HW.out⟩
            case measure => simp [intOf]; omega
          · rw [decide_eq_false hrr, Bool.false_and] at HW
            have hr0 : 0 ≤ rr := by omega
            go_wp2_with fail
            refine HC.out.mono ?_
            rintro e w3 ⟨rfl, hg3⟩
            have H3 := hidJ (gb_none H2.out hg3)
            clear HC hg3 d0
            go_wp2
            go_ret
            exact ⟨by rw [HW.out]; rfl, H3.out⟩
      · rw [decide_eq_false hm, Bool.false_and, Bool.false_and] at HW
        have hrb : (r == 0) = false := by rw [beq_eq_false_iff_ne]; exact hm
        go_wp2_with fail
        refine HB.out.mono ?_
        rintro e w2 ⟨rfl, hg2⟩
        have H2 := hidJ (gb_none HG.out hg2)
        clear HB hg2 c0
        go_wp2
        go_ret
        exact ⟨by rw [HW.out]; rfl, H2.out⟩
    · have hzi : ¬ (z : Int) < (lss.length : Int) := by omega
      have HW : Hid (R = true) := by
        show _ = _
        rw [hr.out.2, show lss.length - z = 0 by omega]
        rfl
      clear hr HR
      go_wp2
      go_ret
      exact ⟨by rw [HW.out]; rfl, HG.out⟩
end Go.Proofs.YtpglhdnepmcahaaGreatDoor

/- Nk7 -/
namespace Go.Proofs.YtpglhdnepmcahaaGreatDoor
open Go.RowKit Go.Shelf Go.Sort

/-- what is left behind a sweep -/
def swpM (l : List MkX) (d : Int) : List MkX := l.filter fun x => decide (d < x.1.tim)
/-- can it be swept? -/
def swpB (now kp : Int) : Bool := timB now && (decide (0 ≤ kp) && decide (kp ≤ 1099511627776))
theorem swp_next {l : List MkX} {d : Int} {z : Nat} (hz : z < l.length) : swpM (l.take (z + 1)) d = if d < (l.getD z xZ).1.tim then swpM (l.take z) d ++ [l.getD z xZ] else swpM (l.take z) d := by
  have e : l.getD z xZ = l[z] := by simp [List.getD, hz]
  unfold swpM
  rw [List.take_succ_eq_append_getElem hz, List.filter_append, e]
  by_cases h : d < l[z].1.tim
  · rw [if_pos h]
    simp [h]
  · rw [if_neg h]
    simp [h]
theorem swp_len (l : List MkX) (d : Int) : (swpM l d).length ≤ l.length := List.length_filter_le _ _
theorem RefX.swept {w W : World} {gr : Nat} {v v' : Value} {l : List MkX} (h : RefX w gr v l) (hW : w.grownBy W none) (d : Int) (ho : OwnK W w.heap.size v' (swpM l d)) : RefX (W.setCell ⟨gr, 0, none⟩ v') gr v' (swpM l d) ∧ LFr gr w (W.setCell ⟨gr, 0, none⟩ v') v v' := by
  have hk := h.keep hW
  have hgr : gr < w.heap.size := h.box.lt
  have hc := set_ch W gr 0 v'
  have e1 : EnL W (fun j => j = gr) := fun k hk' => hk.enl k (.inl hk')
  have hlt : ∀ k, v'.ownBlock = some k → w.heap.size ≤ k := fun k hk' => (World.ownsRow.lt ho k hk').1
  have ho0 : OwnK (W.setCell ⟨gr, 0, none⟩ v') 0 v' (swpM l d) := by
    have := row_ch ho hc (fun k hk' e => by have := hlt k hk'; omega)
    refine ⟨this.1, ?_⟩
    rcases this.2 with h2 | ⟨g, cap, cur, hv, hg, r⟩
    · exact .inl h2
    · exact .inr ⟨g, cap, cur, hv, Nat.zero_le _, r⟩
  refine ⟨⟨hk.box.set v', ho0, List.Pairwise.filter _ h.ris, fun x hx => ?_, Nat.le_trans (swp_len l d) h.len⟩, ?_⟩
  · have hx := (List.mem_filter.1 hx).1
    exact ⟨((h.each x hx).1.keep hW).chT hc e1, (h.each x hx).2⟩
  · exact ⟨(Ch.of_gb (S := FpL gr v) hW (fun k hk => by cases hk)).trans hc (fun k _ e => .inl e), fun k hk' => .inr (hlt k hk')⟩
/-- what the document's Sweep leaves -/
def RSwp (w : World) (gr : Nat) (v : Value) (l : List MkX) (now kp : Int) (e : Ending) (w' : World) : Prop :=
  (swpB now kp = false ∧ e = .returned (.tuple #[.int .i64 0, .int .i64 1]) ∧ w.grownBy w' none) ∨ (swpB now kp = true ∧ e = .returned (.tuple #[.int .i64 ((l.length : Int) - ((swpM l (now - kp)).length : Int)), .int .i64 0]) ∧ ∃ v', RefX w' gr v' (swpM l (now - kp)) ∧ LFr gr w w' v v')
theorem OwnK.mono {w : World} {base base' : Nat} {v : Value} {l : List MkX} (h : OwnK w base v l) (hb : base' ≤ base) : OwnK w base' v l := by
  refine ⟨h.1, ?_⟩
  rcases h.2 with h2 | ⟨g, cap, cur, hv, hg, r⟩
  · exact .inl h2
  · exact .inr ⟨g, cap, cur, hv, by omega, r⟩
set_option maxRecDepth 8000 in
set_option maxHeartbeats 12800000 in
theorem refSweepX_any (w : World) (gr : Nat) (v : Value) (l : List MkX) (now kp : Int) (h : RefX w gr v l) :
    Calls Tryz.prog 25 #[.pointer (some ⟨gr, 0, none⟩), .int .i64 now, .int .i64 kp] w fun e w' => RSwp w gr v l now kp e w' := by
  obtain ⟨va, vc, ev, hvc⟩ := h.row.shape
  subst ev
  have hlen := h.len
  have HTm : Hid (∀ W, Calls Tryz.prog 58 #[.int .i64 now] W fun e w' => e = .returned (.bool (timB now)) ∧ w' = W) := fun W => refTimeN_any now W
  have HNo : Hid (∀ w', swpB now kp = false → w.grownBy w' none → RSwp w gr (.slice va l.length vc) l now kp (.returned (.tuple #[.int .i64 0, .int .i64 1])) w') := fun w' h1 h2 => .inl ⟨h1, rfl, h2⟩
  have HYe : Hid (∀ W v', swpB now kp = true → w.grownBy W none → OwnK W w.heap.size v' (swpM l (now - kp)) → RSwp w gr (.slice va l.length vc) l now kp (.returned (.tuple #[.int .i64 ((l.length : Int) - ((swpM l (now - kp)).length : Int)), .int .i64 0])) (W.setCell ⟨gr, 0, none⟩ v')) := fun W v' h1 h2 h3 => .inr ⟨h1, rfl, v', h.swept h2 _ h3⟩
  have HE : Hid (∀ j, j < l.length → ∀ wr, w.grownBy wr none → ∃ g fa fn fc sa sn sc, va = some ⟨g, 0, none⟩ ∧ g < wr.heap.size ∧ (l.getD j xZ).2.1 = .slice fa fn fc ∧ (l.getD j xZ).2.2 = .slice sa sn sc ∧ wr.cell? ⟨g, j * 5, none⟩ = some (.string (ByteArray.mk ⟨(l.getD j xZ).1.rcv⟩)) ∧ wr.cell? ⟨g, j * 5 + 1, none⟩ = some (.string (ByteArray.mk ⟨(l.getD j xZ).1.key⟩)) ∧ wr.cell? ⟨g, j * 5 + 2, none⟩ = some (.int .i64 (l.getD j xZ).1.tim) ∧ wr.cell? ⟨g, j * 5 + 3, none⟩ = some (.slice fa fn fc) ∧ wr.cell? ⟨g, j * 5 + 4, none⟩ = some (.slice sa sn sc)) := fun j hj wr hg => by
    obtain ⟨g, c, e0, hgl, d0, d1, d2, d3, d4⟩ := (h.row.keep hg).cells hj
    have hm : l.getD j xZ ∈ l := by simp [List.getD, hj]
    obtain ⟨fa, fc, ef⟩ := (h.each _ hm).1.fir.shape
    obtain ⟨sa, sc, es⟩ := (h.each _ hm).1.res.shape
    rw [ef] at d3
    rw [es] at d4
    simp only [Value.slice.injEq] at e0
    exact ⟨g, fa, _, fc, sa, _, sc, e0.1, hgl, ef, es, d0, d1, d2, d3, d4⟩
  have HBx := hidJ h
  obtain ⟨RQ, hRQ⟩ : ∃ RQ : Ending → World → Prop, RQ = RSwp w gr (.slice va l.length vc) l now kp := ⟨_, rfl⟩
  rw [← hRQ] at HNo HYe
  rw [show (fun e w' => RSwp w gr (.slice va l.length vc) l now kp e w') = (fun e w' => RQ e w') from by rw [hRQ]]
  clear hRQ h
  go_enter Tryz.func25, Tryz.ntmps25
  go_wp2_with fail
  refine (HTm.out _).mono ?_
  rintro e w1 ⟨rfl, q1⟩
  have q1 := q1.symm
  subst q1
  clear HTm
  cases ht : timB now with
  | false =>
    have HF := hidJ (HNo.out w (by unfold swpB; rw [ht]; rfl) (gb_refl _ _))
    clear HNo HYe HE
    go_wp2
    exact HF.out
  | true =>
    by_cases h1 : kp < 0
    · have HF := hidJ (HNo.out w (by unfold swpB; rw [decide_eq_false (show ¬ 0 ≤ kp by omega)]; simp) (gb_refl _ _))
      clear HNo HYe HE
      go_wp2
      exact HF.out
    · by_cases h2 : 1099511627776 < kp
      · have HF := hidJ (HNo.out w (by unfold swpB; rw [decide_eq_false (show ¬ kp ≤ 1099511627776 by omega)]; simp) (gb_refl _ _))
        clear HNo HYe HE
        go_wp2
        exact HF.out
      · have HY := hidJ (fun W v' => HYe.out W v' (by unfold swpB; rw [ht, decide_eq_true (show 0 ≤ kp by omega), decide_eq_true (show kp ≤ 1099511627776 by omega)]; rfl))
        have htb : 0 ≤ now ∧ now ≤ 1125899906842624 := by
          unfold timB at ht
          rw [Bool.and_eq_true, decide_eq_true_eq, decide_eq_true_eq] at ht
          exact ht
        obtain ⟨d, hd⟩ : ∃ d, now - kp = d := ⟨_, rfl⟩
        have hz1 : -9223372036854775808 ≤ now - kp := by omega
        have hz2 : now - kp ≤ 9223372036854775807 := by omega
        rw [hd] at HY
        have HFin : Hid (∀ W v' n, n = (swpM l d).length → w.grownBy W none → OwnK W w.heap.size v' (swpM l d) → RQ (.returned (.tuple #[.int .i64 ((l.length : Int) - (n : Int)), .int .i64 0])) (W.setCell ⟨gr, 0, none⟩ v')) := fun W v' n hn hW ho => by
          rw [hn]
          exact HY.out W v' hW ho
        clear HNo HYe ht HY
        have g0 := HBx.out.box.cell
        have H0 : Hid (OwnK w w.heap.size (.slice none 0 0) (swpM (l.take 0) d) ∧ w.grownBy w none) := ⟨OwnK.nil _ _, gb_refl _ _⟩
        go_wp2
        clear g0
        go_loopw [8, 28] (fun o i wr => ∃ (z n : Nat) (a : Option Addr) (c : Nat), z ≤ l.length ∧ i = .int .i64 z ∧ o = .slice a n c ∧ Hid (OwnK wr w.heap.size (.slice a n c) (swpM (l.take z) d) ∧ w.grownBy wr none)) (fun _ i _ => l.length - (intOf i).toNat)
        case atStart => exact ⟨0, 0, none, 0, by omega, rfl, rfl, H0.out⟩
        case round =>
          obtain ⟨z, n, oa, oc, hzN, rfl, rfl, hr⟩ := hrel
          clear H0
          by_cases hzl : z < l.length
          · have hzi : (z : Int) < (l.length : Int) := by omega
            obtain ⟨g, fa, fn, fc, sa, sn, sc, rfl, hgl, ef, es, d0, d1, d2, d3, d4⟩ := HE.out z hzl wr hr.out.2
            have HG : Hid (∀ C, w.grownBy (wr.alloc C) none ∧ OwnK (wr.alloc C) w.heap.size (.slice oa n oc) (swpM (l.take z) d)) := fun C => ⟨gb_none hr.out.2 (World.grownBy_alloc _ _ none), hr.out.1.keep (World.grownBy_alloc _ _ none)⟩
            have HNx := hidJ (swp_next (d := d) hzl)
            have hn : n = (swpM (l.take z) d).length := by
              obtain ⟨a', c', e', -⟩ := hr.out.1.shape
              simp only [Value.slice.injEq] at e'
              exact e'.2.1
            have HLn := hidJ hn
            have hnl : n ≤ 1000 := by
              have := swp_len (l.take z) d
              rw [List.length_take] at this
              omega
            have HPu : Hid (∀ C, d < (l.getD z xZ).1.tim → ∃ a2 c2 W2, (Builtin.append_ #[46, 46] 46 #[.slice oa n oc, .slice (some ⟨(wr.alloc C).heap.size, 0, none⟩) 1 1]).run Tryz.prog ((wr.alloc C).alloc (.cells #[.string (ByteArray.mk ⟨(l.getD z xZ).1.rcv⟩), .string (ByteArray.mk ⟨(l.getD z xZ).1.key⟩), .int .i64 (l.getD z xZ).1.tim, .slice fa fn fc, .slice sa sn sc] 34)) = .ok (.slice a2 (n + 1) c2) W2 ∧ Hid (OwnK W2 w.heap.size (.slice a2 (n + 1) c2) (swpM (l.take (z + 1)) d) ∧ w.grownBy W2 none)) := fun C hlt => by
              have hb : w.heap.size ≤ (wr.alloc C).heap.size := (HG.out C).1.size
              obtain ⟨a2, c2, W2, q1, q2, q3⟩ := OwnK.push (HG.out C).2 (l.getD z xZ) (by rw [ef]; rfl) (by rw [es]; rfl) (by rw [← HLn.out]; exact hnl) hb (World.grownBy_alloc (wr.alloc C) (.cells (mkC (l.getD z xZ)).toArray 34) none) rfl
              unfold mkC at q1
              rw [ef, es] at q1
              rw [← HLn.out] at q1 q2 q3
              refine ⟨a2, c2, W2, q1, ?_, gb_new (gb_none (HG.out C).1 (World.grownBy_alloc _ _ none)) q3.1 (fun k hk => (World.ownsRow.lt (HG.out C).2 k hk).1)⟩
              rw [HNx.out, if_pos hlt]
              exact q2
            have HSk : Hid (∀ C, ¬ d < (l.getD z xZ).1.tim → OwnK (wr.alloc C) w.heap.size (.slice oa n oc) (swpM (l.take (z + 1)) d) ∧ w.grownBy (wr.alloc C) none) := fun C hlt => by
              rw [HNx.out, if_neg hlt]
              exact ⟨(HG.out C).2, (HG.out C).1⟩
            clear hr HE HG HNx HLn hn ef es
            generalize ByteArray.mk ⟨(l.getD z xZ).1.rcv⟩ = br at *
            generalize ByteArray.mk ⟨(l.getD z xZ).1.key⟩ = bk at *
            generalize (l.getD z xZ).1.tim = tm at *
            by_cases h5 : d < tm
            · have h5b : now - kp < tm := by rw [hd]; exact h5
              obtain ⟨a2, c2, W2, q1, q2⟩ := HPu.out (.cells #[.string br, .string bk, .int .i64 tm, .slice fa fn fc, .slice sa sn sc] 34) h5
              rw [World.size_alloc] at q1
              have R1 := hidJ q1
              clear HPu HSk q1 hd
              go_wp2_with (at_builtin; refine wp_appRun rfl (.tmp 38) (.tmp 40) 46 rfl _ _ _ rfl rfl R1.out ?_)
              clear R1
              go_wp2
              go_roundw
              case rel => exact ⟨z + 1, n + 1, a2, c2, by omega, by go_num, rfl, q2.out⟩
              case measure => simp [intOf]; omega
            · have h5b : ¬ now - kp < tm := by rw [hd]; exact h5
              have HS2 := hidJ (HSk.out (.cells #[.string br, .string bk, .int .i64 tm, .slice fa fn fc, .slice sa sn sc] 34) h5)
              clear HPu HSk hd
              go_wp2
              go_roundw
              case rel => exact ⟨z + 1, n, oa, oc, by omega, by go_num, rfl, HS2.out⟩
              case measure => simp [intOf]; omega
          · have hzi : ¬ (z : Int) < (l.length : Int) := by omega
            have hzn : z = l.length := by omega
            subst hzn
            have ho := hr.out.1
            rw [List.take_length] at ho
            have hn : n = (swpM l d).length := by
              obtain ⟨a', c', e', -⟩ := ho.shape
              simp only [Value.slice.injEq] at e'
              exact e'.2.1
            have HF := hidJ (HFin.out wr (.slice oa n oc) n hn hr.out.2 ho)
            have hnl : n ≤ l.length := by rw [hn]; exact swp_len l d
            have g1 := (HBx.out.keep hr.out.2).box.cell
            have g2 := (HBx.out.keep hr.out.2).box.frozen
            have hw1 : -9223372036854775808 ≤ (l.length : Int) - (n : Int) := by omega
            have hw2 : (l.length : Int) - (n : Int) ≤ 9223372036854775807 := by omega
            clear hr ho hn HFin HE HBx hd
            go_wp2
            exact HF.out
end Go.Proofs.YtpglhdnepmcahaaGreatDoor
