/-
  The law's own lent, the document's Within, nflog's Sorted of one label set: the walks.
-/
import Derived.Test.YtbnieljkadcaoaaDoorNfi
import Derived.Test.YtbnieljkadcaoaaDoorLbCr
namespace Go.Proofs.YtbnieljkadcaoaaDoor
open Go.RowKit Go.Shelf Go.Sort

/-- lent between two rounds -/
structure LeJ (w : World) (lss : List (List LbT)) (z : Nat) (v : Value) (wr : World) : Prop where
  old : w.grownBy wr none
  row : ∃ us, us.length = z ∧ OwnVs wr w.heap.size v us ∧ ∀ j, j < z → OwnL wr w.heap.size (us.getD j nilV) (lss.getD j [])
theorem LeJ.step {w wr : World} {lss : List (List LbT)} {z : Nat} {v : Value} (h : LeJ w lss z v wr) (hz : z ≤ 6000000000000) (s : Value) (hs : RdL wr s (lss.getD z [])) (hl : (lss.getD z []).length ≤ 4398046511104) :
    ∃ ua un uc w1 a2 c2 w2, (Builtin.append_ #[39, 39] 39 #[.slice none 0 0, s]).run Tryd.prog wr = .ok (.slice ua un uc) w1 ∧ (Builtin.append_ #[22, 22] 22 #[v, .slice (some ⟨w1.heap.size, 0, none⟩) 1 1]).run Tryd.prog (w1.alloc (.cells #[.slice ua un uc] 39)) = .ok (.slice a2 (z + 1) c2) w2 ∧ LeJ w lss (z + 1) (.slice a2 (z + 1) c2) w2 := by
  obtain ⟨i0, hi, hz0, hz1, hz2⟩ := info_parts infoLb
  obtain ⟨a, c, e1, e2, e3, e4, e5⟩ := hs
  have hs' : RdL wr (.slice a (lss.getD z []).length c) (lss.getD z []) := ⟨a, c, rfl, e2, e3, e4, e5⟩
  subst e1
  obtain ⟨u, w1, hrun, k2, k3⟩ := run_appH wr 39 39 60 i0 _ 2 32 wr.heap.size Tryd.underlying39 hi hz0 hz1 hz2 rfl (by decide) (.slice none 0 0) 0 [] (World.ownsRow_nil _ _ _ _) a (lss.getD z []).length c (lbf (lss.getD z [])) (lbf_len _) hs'.rdc (fun e => ⟨by have := e5 e; omega, e5 e⟩) (lbf_one _) (by omega) (by omega) (Nat.le_refl _)
  have hu : OwnL w1 wr.heap.size u (lss.getD z []) := by
    unfold OwnL
    simpa using k2
  have g1 : wr.grownBy w1 none := gb_trans (gb_refl _ _) k3.1 (fun k hk => by simp [Value.ownBlock] at hk)
  obtain ⟨ua, uc, e⟩ := hu.shape
  subst e
  obtain ⟨us, h1, h2, h3⟩ := h.row
  have hb := h.old.size
  obtain ⟨a2, c2, w2, hrun2, ho, hfr⟩ := OwnVs.push (h2.keep g1) (.slice ua (lss.getD z []).length uc) rfl (by omega) (Nat.le_trans hb g1.size) (World.grownBy_alloc w1 (.cells #[.slice ua (lss.getD z []).length uc] 39) none) rfl
  rw [h1] at hrun2 ho hfr
  have hvb : ∀ k, v.ownBlock = some k → w.heap.size ≤ k ∧ k < wr.heap.size := World.ownsRow.lt h2
  have hk : Ch w1 w2 (fun k => v.ownBlock = some k) := (Ch.of_gb (S := fun k => v.ownBlock = some k) (World.grownBy_alloc w1 (.cells #[.slice ua (lss.getD z []).length uc] 39) none) (fun k hk => by cases hk)).trans (Ch.of_gb (S := fun k => v.ownBlock = some k) hfr.1 (fun k hk _ => hk)) (fun _ _ e => e)
  have hne : ∀ (x : Value) (ls : List LbT), OwnL w1 w.heap.size x ls → OwnL w2 w.heap.size x ls := fun x ls hx => by
    refine row_ch hx hk (fun k hk' e => ?_)
    obtain ⟨cur, q1⟩ := row_objE hx hk'
    obtain ⟨cur', q2⟩ := row_objE (h2.keep g1) e
    rw [q1] at q2
    simp at q2
  refine ⟨ua, _, uc, w1, a2, c2, w2, hrun, hrun2, gb_ch (gb_none h.old g1) hk (fun k e => (hvb k e).1), us ++ [.slice ua (lss.getD z []).length uc], by simp [h1], ?_, fun j hj => ?_⟩
  · exact ho
  · by_cases e : j = z
    · have e2 : (us ++ [Value.slice ua (lss.getD z []).length uc]).getD j nilV = .slice ua (lss.getD z []).length uc := by rw [e, ← h1]; simp
      rw [e2, e]
      exact hne _ _ (hu.mono hb)
    · have e2 : (us ++ [Value.slice ua (lss.getD z []).length uc]).getD j nilV = us.getD j nilV := by simp [List.getD, List.getElem?_append_left (show j < us.length by omega)]
      rw [e2]
      exact hne _ _ ((h3 j (by omega)).keep g1)
set_option maxRecDepth 8000 in
set_option maxHeartbeats 3200000 in
theorem lentS_any (w : World) (v : Value) (lss : List (List LbT)) (hv : RdLL w v lss) (hl : LLs lss) :
    Calls Tryd.prog 7 #[v] w fun e w' => ∃ v', e = .returned v' ∧ OwnLL w' w.heap.size v' lss ∧ w.grownBy w' none := by
  have HV := hidJ (And.intro hv hl)
  obtain ⟨va, vc, rfl, hc1, hc2⟩ := hv.shape
  have hl6 := hl.1
  clear hv hl
  have H0 : Hid (LeJ w lss 0 (.slice none 0 0) w) := ⟨gb_refl _ _, [], rfl, OwnVs.nil _ _, fun j hj => by omega⟩
  go_enter Tryd.func7, Tryd.ntmps7
  go_wp2
  go_loopw [3, 9] (fun o i wr => ∃ (z : Nat) (a : Option Addr) (c : Nat), z ≤ lss.length ∧ i = .int .i64 z ∧ o = .slice a z c ∧ Hid (LeJ w lss z (.slice a z c) wr)) (fun _ i _ => lss.length - (intOf i).toNat)
  case atStart => exact ⟨0, none, 0, by omega, rfl, rfl, H0.out⟩
  case round =>
    obtain ⟨z, oa, oc, hzN, rfl, rfl, hr⟩ := hrel
    by_cases hzl : z < lss.length
    · have hzi : (z : Int) < (lss.length : Int) := by omega
      obtain ⟨b, o, ha', hcc, rfl, c0, hrd⟩ := (HV.out.1.keep hr.out.old).at (j := z) hzl
      obtain ⟨ua, un, uc, w1, a2, c2, w2, r1, r2, hj⟩ := hr.out.step (by omega) _ hrd (HV.out.2.2 z)
      have H7 := hidJ hj
      have R1 := hidJ r1
      have R2 := hidJ r2
      clear hr hrd hj r1 r2 H0
      generalize (lss.getD z []).length = hn at *
      go_wp2_with (first
        | (at_builtin; refine wp_appRun rfl (.tmp 14) (.tmp 15) 39 rfl _ _ _ rfl rfl R1.out ?_)
        | (at_builtin; refine wp_appRun rfl (.tmp 13) (.tmp 17) 22 rfl _ _ _ rfl rfl R2.out ?_))
      clear R1 R2 c0
      go_wp2
      go_roundw
      case rel => exact ⟨z + 1, a2, c2, by omega, by go_num, rfl, H7⟩
      case measure => simp [intOf]; omega
    · have hzi : ¬ (z : Int) < (lss.length : Int) := by omega
      have HF : Hid (OwnLL wr w.heap.size (.slice oa z oc) lss ∧ w.grownBy wr none) := by
        obtain ⟨us, k1, k2, k3⟩ := hr.out.row
        refine ⟨⟨us, k2, by omega, fun j => ?_⟩, hr.out.old⟩
        by_cases hj : j < z
        · exact k3 j hj
        · have e1 : us.getD j nilV = nilV := by simp only [List.getD, List.getElem?_eq_none (show us.length ≤ j by omega), Option.getD_none]
          have e2 : lss.getD j [] = [] := by simp only [List.getD, List.getElem?_eq_none (show lss.length ≤ j by omega), Option.getD_none]
          rw [e1, e2]
          exact World.ownsRow_nil _ _ _ _
      clear hr H0
      go_wp2
      go_ret
      exact ⟨_, rfl, HF.out⟩
set_option maxHeartbeats 1600000 in
theorem refSameN_any (w : World) (v u : Value) (ls ms : List LbT) (hv : RdL w v ls) (hu : RdL w u ms) :
    Calls Tryd.prog 38 #[v, u] w fun e w' => e = .returned (.bool (decide (ls = ms))) ∧ w.grownBy w' none := by
  have HC := hidJ (refCompare_any w v u ls ms hv hu)
  have HE : Hid (decide (ls = ms) = (cmpLs ls ms == 0)) := by
    show _ = _
    rw [Bool.eq_iff_iff, decide_eq_true_eq, beq_iff_eq, cmpLs_zero]
  obtain ⟨a, c, rfl⟩ := hv.shape
  obtain ⟨b, d, rfl⟩ := hu.shape
  clear hv hu
  generalize cmpLs ls ms = r at *
  generalize decide (ls = ms) = q at *
  go_enter Tryd.func38, Tryd.ntmps38
  go_wp2_with fail
  refine HC.out.mono ?_
  rintro e w1 ⟨rfl, H1⟩
  have H1 := hidJ H1
  clear HC
  go_wp2
  go_ret
  exact ⟨by rw [HE.out]; rfl, H1.out⟩
theorem any_take {b : List (List LbT)} {x : List LbT} {y : Nat} (hy : y < b.length) : decide (x ∈ b.take (y + 1)) = (decide (x ∈ b.take y) || decide (x = b.getD y [])) := by
  have e1 : b.getD y [] = b[y] := by simp [List.getD, hy]
  rw [e1, List.take_succ_eq_append_getElem hy, Bool.eq_iff_iff, Bool.or_eq_true, decide_eq_true_eq, decide_eq_true_eq, decide_eq_true_eq, List.mem_append, List.mem_singleton]
set_option maxRecDepth 8000 in
set_option maxHeartbeats 6400000 in
theorem refWithin_any (w : World) (va vb : Value) (xs bs : List (List LbT)) (ha : RdLL w va xs) (hb : RdLL w vb bs) :
    Calls Tryd.prog 13 #[va, vb] w fun e w' => e = .returned (.bool (withinB xs bs)) ∧ w.grownBy w' none := by
  have HA := hidJ (And.intro ha hb)
  obtain ⟨a, c, rfl, hc1, hc2⟩ := ha.shape
  obtain ⟨b, d, rfl, hd1, hd2⟩ := hb.shape
  obtain ⟨R, hR⟩ : ∃ R, R = withinB xs bs := ⟨_, rfl⟩
  rw [← hR]
  have HR : Hid (R = withinB (xs.drop 0) bs) := by show R = _; rw [hR]; simp
  clear ha hb hR
  go_enter Tryd.func13, Tryd.ntmps13
  go_wp2
  go_loopw [12] (fun i wr => ∃ z : Nat, z ≤ xs.length ∧ i = .int .i64 z ∧ Hid (w.grownBy wr none ∧ R = withinB (xs.drop z) bs)) (fun i _ => xs.length - (intOf i).toNat)
  case atStart => exact ⟨0, by omega, rfl, gb_refl _ _, HR.out⟩
  case round =>
    obtain ⟨z, hzN, rfl, hr⟩ := hrel
    have HG : Hid (w.grownBy wr none) := hr.out.1
    by_cases hzl : z < xs.length
    · have hzi : (z : Int) < (xs.length : Int) := by omega
      obtain ⟨b1, o1, ha', hcc, rfl, c0, hrd⟩ := (HA.out.1.keep HG.out).at (j := z) hzl
      have HW : Hid (R = (decide (xs.getD z [] ∈ bs) && withinB (xs.drop (z + 1)) bs)) := by
        show _ = _
        rw [← within_drop hzl]
        exact hr.out.2
      have HX := hidJ hrd
      have HW0 := hidJ HG.out
      clear hr hrd HR
      obtain ⟨x, hx⟩ : ∃ x, xs.getD z [] = x := ⟨_, rfl⟩
      rw [hx] at c0 HW HX
      clear hx
      obtain ⟨wz, hwz⟩ : ∃ wz, wr = wz := ⟨_, rfl⟩
      rw [hwz] at c0 HX HW0 HG ⊢
      clear hwz
      generalize hxl : x.length = nx at *
      have HXL := hidJ hxl
      clear hxl
      go_wp2
      go_loopw [7, 18] (fun q i wr => ∃ y : Nat, y ≤ bs.length ∧ i = .int .i64 y ∧ q = .bool (decide (x ∈ bs.take y)) ∧ Hid (wz.grownBy wr none)) (fun _ i _ => bs.length - (intOf i).toNat)
      case atStart => exact ⟨0, by omega, rfl, by simp, gb_refl _ _⟩
      case round =>
        obtain ⟨y, hyN, rfl, rfl, hr⟩ := hrel
        by_cases hyl : y < bs.length
        · have hyi : (y : Int) < (bs.length : Int) := by omega
          obtain ⟨b2, o2, hb', hbc, rfl, d0, hrd2⟩ := (HA.out.2.keep (gb_none HW0.out hr.out)).at (j := y) hyl
          have HT := hidJ (any_take (x := x) hyl)
          have hxr : RdL wr (.slice ha' nx hcc) x := HX.out.keep hr.out
          have HS : Hid (Calls Tryd.prog 38 #[.slice ha' nx hcc, .slice hb' (bs.getD y []).length hbc] wr fun e w' => e = .returned (.bool (decide (x = bs.getD y []))) ∧ Hid (wz.grownBy w' none)) := (refSameN_any wr _ _ _ _ hxr hrd2).mono fun e w' ⟨h1, h2⟩ => ⟨h1, gb_none hr.out h2⟩
          clear hrd2 hxr
          generalize (bs.getD y []).length = nb at *
          generalize decide (x = bs.getD y []) = q1 at *
          generalize decide (x ∈ bs.take y) = q0 at *
          generalize hq2 : decide (x ∈ bs.take (y + 1)) = q2 at *
          have HQ2 := hidJ hq2
          clear hq2
          cases q0
          · go_wp2_with fail
            refine HS.out.mono ?_
            rintro e w5 ⟨rfl, H5⟩
            clear HS
            go_wp2
            go_roundw
            case rel => exact ⟨y + 1, by omega, by go_num, by rw [HQ2.out, HT.out]; simp, H5⟩
            case measure => simp [intOf]; omega
          · clear HS
            go_wp2
            go_roundw
            case rel => exact ⟨y + 1, by omega, by go_num, by rw [HQ2.out, HT.out]; simp, hr⟩
            case measure => simp [intOf]; omega
        · have hyi : ¬ (y : Int) < (bs.length : Int) := by omega
          have hall : decide (x ∈ bs.take y) = decide (x ∈ bs) := by rw [List.take_of_length_le (by omega)]
          rw [hall]
          have HG2 := hidJ (gb_none HW0.out hr.out)
          clear hr hall
          by_cases hm : x ∈ bs
          · rw [decide_eq_true hm] at HW
            rw [Bool.true_and] at HW
            have hmb : decide (x ∈ bs) = true := decide_eq_true hm
            rw [hmb]
            clear hm hmb
            go_wp2
            go_roundw
            case rel => exact ⟨z + 1, by omega, by go_num, HG2.out, HW.out⟩
            case measure => simp [intOf]; omega
          · rw [decide_eq_false hm] at HW
            rw [Bool.false_and] at HW
            have hmb : decide (x ∈ bs) = false := decide_eq_false hm
            rw [hmb]
            clear hm hmb
            go_wp2
            go_ret
            exact ⟨by rw [HW.out]; rfl, HG2.out⟩
    · have hzi : ¬ (z : Int) < (xs.length : Int) := by omega
      have HW : Hid (R = true) := by
        show _ = _
        rw [hr.out.2, List.drop_eq_nil_of_le (by omega)]
        rfl
      clear hr HR
      go_wp2
      go_ret
      exact ⟨by rw [HW.out]; rfl, HG.out⟩
end Go.Proofs.YtbnieljkadcaoaaDoor
