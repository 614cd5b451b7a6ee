/-
  The text of a label set, by the project: the walk.
-/
import Derived.Test.YtkcgikgihbglnabDoorLbPi0
import Derived.Deep.RegionHeld3
namespace Go.Proofs.YtkcgikgihbglnabDoor
open Go.RowKit

theorem metric_ne {l : List UInt8} (h : metricB l = true) : l ≠ [] := by
  intro e
  subst e
  exact absurd h (by decide)
theorem p_wo {q : List UInt8} (h : q ≠ mnB) : p_Without [mnB] q = true := by simp [p_Without, hasN, h]
theorem p_wo0 : p_Without [mnB] mnB = false := by simp [p_Without, hasN]
set_option maxRecDepth 8000 in
set_option maxHeartbeats 12800000 in
theorem print_any (w : World) (v : Value) (ls : List LbT) (hv : RdL w v ls) (hl : LbIn ls) (hT : U8S w) :
    Calls Tryd.prog 6 #[v] w fun e w' => e = .returned (.tuple #[.string (ByteArray.mk ⟨(printS ls).1⟩), .int .i64 (printS ls).2]) ∧ w.grownBy w' none := by
  have HR : Hid (Calls Tryd.prog 5 #[v] w fun e w' => e = .returned (.tuple #[.int .i64 (rightS ls).1, .int .i64 ((rightS ls).2 : Int)]) ∧ w.grownBy w' none) := right_any w v ls hv hl hT
  have HV : Hid (RdL w v ls) := hv
  obtain ⟨a, c, rfl, -, hc2, -, -⟩ := hv
  unfold maxLen at hc2
  have HS : Hid (printS ls = if (rightS ls).1 ≠ 0 then ([], (rightS ls).1) else if metricB (getL ls mnB) = true ∧ restP ls = [] then (aheadP ls, 0) else (aheadP ls ++ [123] ++ joinI (restP ls) (restP ls).length ++ [125], 0)) := rfl
  generalize printS ls = PS at *
  by_cases hr1 : (rightS ls).1 = 0
  · rw [if_neg (by simpa using hr1)] at HS
    have HFE : Hid (fewL ls) := right_fewL hr1
    have h16 : ls.length ≤ 16 := HFE.out.1
    have HGT : Hid (∀ W, w.grownBy W none → Calls Tryd.prog 14 #[.slice a ls.length c, .string (ByteArray.mk #[95, 95, 110, 97, 109, 101, 95, 95])] W fun e w' => e = .returned (.string (ByteArray.mk ⟨getL ls mnB⟩)) ∧ W.grownBy w' none) := fun W hg => get_labels W _ ls mnB (HV.out.keep hg)
    have hgl : (getL ls mnB).length ≤ 256 := getL_few mnB HFE.out.2
    have HM : Hid (∀ W, Calls Tryd.prog 18 #[.string (ByteArray.mk ⟨getL ls mnB⟩)] W fun e w' => e = .returned (.bool (metricB (getL ls mnB))) ∧ W.grownBy w' none) := fun W => metric_any W _ (by omega)
    rw [hr1] at HR
    by_cases hm : metricB (getL ls mnB) = true
    · have HA : Hid (aheadP ls = getL ls mnB ∧ restP ls = pickL (p_Without [mnB]) ls) := ⟨if_pos hm, if_pos hm⟩
      rw [HA.out.1, HA.out.2] at HS
      rw [hm] at HM
      have hne := metric_ne hm
      have hA1 : (ByteArray.mk ⟨getL ls mnB⟩).toList.isEmpty = false := by rw [ByteArray.toList_eq]; cases h : getL ls mnB with
        | nil => exact absurd h hne
        | cons x t => rfl
      have hA2 : ¬ (ByteArray.mk ⟨getL ls mnB⟩).toList = [] := by rw [ByteArray.toList_eq]; exact hne
      have HMT : Hid (metricB (getL ls mnB) = true) := hm
      generalize getL ls mnB = A at *
      clear hm HA hne
      obtain ⟨sA, hsA⟩ : ∃ sA, sA = ByteArray.mk ⟨A⟩ := ⟨_, rfl⟩
      rw [← hsA] at HM HGT hA1 hA2
      have HSA : Hid (sA = ByteArray.mk ⟨A⟩) := hsA
      have lA : sA.size ≤ 256 := by rw [hsA]; exact hgl
      clear hsA
      go_enter Tryd.func6, Tryd.ntmps6
      go_wp2_with fail
      refine HR.out.mono ?_
      rintro e w1 ⟨rfl, hg1⟩
      have H1 : Hid (w.grownBy w1 none) := hg1
      clear HR hg1
      go_wp2_with fail
      refine (HGT.out _ H1.out).mono ?_
      rintro e w3 ⟨rfl, hg3⟩
      have H3 : Hid (w.grownBy w3 none) := gb_none H1.out hg3
      clear HGT hg3 H1
      go_wp2_with fail
      refine (HM.out _).mono ?_
      rintro e w2 ⟨rfl, hg4⟩
      have HG2 : Hid (w.grownBy w2 none) := gb_none H3.out hg4
      clear HM hg4 H3
      go_wp2
      go_loopw [7, 25] (fun u i wr => ∃ z : Nat, z ≤ ls.length ∧ i = .int .i64 z ∧ Hid (w2.grownBy wr none ∧ OwnT wr w2.heap.size u ((pickL (p_Without [mnB]) (ls.take z)).map itemB))) (fun _ i _ => ls.length - (intOf i).toNat)
      case atStart => exact ⟨0, by omega, rfl, gb_refl _ _, OwnT.nil _ _⟩
      case round =>
        obtain ⟨z, hzN, rfl, hr⟩ := hrel
        by_cases hzl : z < ls.length
        · obtain ⟨a', c', he, -, -, h3, -⟩ := HV.out.keep (gb_none HG2.out hr.out.1)
          simp only [Value.slice.injEq] at he
          obtain ⟨rfl, -, rfl⟩ := he
          obtain ⟨b, o, rfl, c0, c1⟩ := h3 z hzl
          have hzi : (z : Int) < (ls.length : Int) := by omega
          have hbl : ¬ b = wr.heap.size := by have := block_lt c0; omega
          have hbl2 : ¬ wr.heap.size = b := by omega
          have HPS : Hid (pickL (p_Without [mnB]) (ls.take (z + 1)) = pickL (p_Without [mnB]) (ls.take z) ++ (if p_Without [mnB] (ls.getD z ([], [])).1 = true then [ls.getD z ([], [])] else [])) := pick_step hzl
          have hxl : (pickL (p_Without [mnB]) (ls.take z)).length ≤ 16 := by have := pick_len (p_Without [mnB]) (ls.take z); simp at this; omega
          have HE : Hid (w2.grownBy wr none ∧ OwnT wr w2.heap.size u7 ((pickL (p_Without [mnB]) (ls.take z)).map itemB)) := hr.out
          generalize pickL (p_Without [mnB]) (ls.take z) = XS at *
          clear h3 hr
          by_cases hnm : (ls.getD z ([], [])).1 = mnB
          · rw [hnm, if_neg (by rw [p_wo0]; simp), List.append_nil] at HPS
            rw [hnm] at c0
            have c0 : wr.cell? ⟨b, o + z * 2, none⟩ = some (.string (ByteArray.mk #[95, 95, 110, 97, 109, 101, 95, 95])) := c0
            clear hnm
            have HE2 : Hid (∀ C, w2.grownBy (wr.alloc C) none ∧ OwnT (wr.alloc C) w2.heap.size u7 (XS.map itemB)) := fun C => ⟨gb_none HE.out.1 (World.grownBy_alloc _ _ none), HE.out.2.keep (World.grownBy_alloc _ _ none)⟩
            clear HE
            generalize ByteArray.mk ⟨(ls.getD z ([], [])).2⟩ = sv at *
            go_wp2
            go_roundw
            case rel => exact ⟨z + 1, by omega, by simp, (HE2.out _).1, by rw [HPS.out]; exact (HE2.out _).2⟩
            case measure => simp [intOf]; omega
          · have hpw : p_Without [mnB] (ls.getD z ([], [])).1 = true := p_wo hnm
            rw [if_pos hpw] at HPS
            have e1 : ((ByteArray.mk ⟨(ls.getD z ([], [])).1⟩).toList == (ByteArray.mk #[95, 95, 110, 97, 109, 101, 95, 95]).toList) = false := by rw [ByteArray.toList_eq, ByteArray.toList_eq, beq_eq_false_iff_ne]; exact hnm
            have e1' : ¬ (ByteArray.mk ⟨(ls.getD z ([], [])).1⟩).toList = [95, 95, 110, 97, 109, 101, 95, 95] := by rw [ByteArray.toList_eq]; exact hnm
            clear hpw hnm
            have HIT : Hid (itemB (ls.getD z ([], [])) = (ls.getD z ([], [])).1 ++ [61] ++ quoS (ls.getD z ([], [])).2) := rfl
            have HQ : Hid (∀ W, Bx w2 wr.heap.size (ByteArray.mk ⟨(ls.getD z ([], [])).1⟩) (ByteArray.mk ⟨(ls.getD z ([], [])).2⟩) W → OwnT W w2.heap.size u7 (XS.map itemB) → Calls Tryd.prog 19 #[.string (ByteArray.mk ⟨(ls.getD z ([], [])).2⟩)] W fun e w' => e = .returned (.string (ByteArray.mk ⟨quoS (ls.getD z ([], [])).2⟩)) ∧ Hid (w2.grownBy w' none ∧ OwnT w' w2.heap.size u7 (XS.map itemB)) ∧ w'.cell? ⟨wr.heap.size, 0, none⟩ = some (.string (ByteArray.mk ⟨(ls.getD z ([], [])).1⟩)) ∧ w'.cell? ⟨wr.heap.size, 1, none⟩ = some (.string (ByteArray.mk ⟨(ls.getD z ([], [])).2⟩))) := fun W hW hO => (quoted_any W _ (by have := (HFE.out.at z).2; omega)).mono fun e w' ⟨h1, h2⟩ => ⟨h1, ⟨gb_none hW.2 h2, hO.keep h2⟩, (hW.keep h2).cells.1, (hW.keep h2).cells.2⟩
            have HB0 : Hid (Bx w2 wr.heap.size (ByteArray.mk ⟨(ls.getD z ([], [])).1⟩) (ByteArray.mk ⟨(ls.getD z ([], [])).2⟩) (wr.alloc (.cells #[.string (ByteArray.mk ⟨(ls.getD z ([], [])).1⟩), .string (ByteArray.mk ⟨(ls.getD z ([], [])).2⟩)] 42)) ∧ OwnT (wr.alloc (.cells #[.string (ByteArray.mk ⟨(ls.getD z ([], [])).1⟩), .string (ByteArray.mk ⟨(ls.getD z ([], [])).2⟩)] 42)) w2.heap.size u7 (XS.map itemB)) := ⟨⟨Go.heap_alloc_new wr _, gb_none HE.out.1 (World.grownBy_alloc _ _ none)⟩, HE.out.2.keep (World.grownBy_alloc _ _ none)⟩
            have hsh := HFE.out.at z
            have hql := quoS_len hsh.2
            generalize ls.getD z ([], []) = x0 at *
            obtain ⟨tn, tv⟩ := x0
            dsimp only at *
            have p1 : ByteArray.mk ⟨tn⟩ ++ ByteArray.mk #[61] = ByteArray.mk ⟨tn ++ [61]⟩ := mk_app2 _ [61]
            have p2 : ByteArray.mk ⟨tn ++ [61]⟩ ++ ByteArray.mk ⟨quoS tv⟩ = ByteArray.mk ⟨itemB (tn, tv)⟩ := by rw [mk_app2, HIT.out]
            have l1 : (ByteArray.mk ⟨tn⟩).size ≤ 64 := hsh.1
            have l2 : (ByteArray.mk ⟨tn ++ [61]⟩).size ≤ 65 := by show (tn ++ [61]).length ≤ 65; simp; omega
            have l3 : (ByteArray.mk ⟨quoS tv⟩).size ≤ 514 := hql
            have m1 : ¬ 9223372036854775807 < (ByteArray.mk ⟨tn⟩).size + 1 := by omega
            have m2 : ¬ 9223372036854775807 < (ByteArray.mk ⟨tn ++ [61]⟩).size + (ByteArray.mk ⟨quoS tv⟩).size := by omega
            clear hsh hql HIT
            generalize hit : itemB (tn, tv) = it at *
            have HITM : Hid (itemB (tn, tv) = it) := hit
            clear hit
            generalize hsi : ByteArray.mk ⟨it⟩ = si at *
            have HSI : Hid (ByteArray.mk ⟨it⟩ = si) := hsi
            clear hsi
            generalize ByteArray.mk ⟨tn ++ [61]⟩ = s1 at *
            generalize ByteArray.mk ⟨tn⟩ = sn at *
            generalize ByteArray.mk ⟨tv⟩ = sv at *
            generalize ByteArray.mk ⟨quoS tv⟩ = sq at *
            go_wp2_with fail
            have q0 := HB0.out.1.cells.1
            have q1 := HB0.out.1.cells.2
            have HB1 : Hid (Bx w2 wr.heap.size sn sv (wr.alloc (.cells #[.string sn, .string sv] 42)).drew ∧ OwnT (wr.alloc (.cells #[.string sn, .string sv] 42)).drew w2.heap.size u7 (XS.map itemB)) := ⟨HB0.out.1.keep (gb_drew _ none), HB0.out.2.keep (gb_drew _ none)⟩
            have HLT : Hid (∀ k, u7.ownBlock = some k → k < wr.heap.size) := fun k hk => (HE.out.2.lt k hk).2
            clear c0 c1 hbl hbl2
            generalize wr.alloc (.cells #[.string sn, .string sv] 42) = W1 at *
            generalize wr.heap.size = b0 at *
            go_region_held3 (fun w' => w'.cell? ⟨b0, 0, none⟩ = some (.string sn) ∧ w'.cell? ⟨b0, 1, none⟩ = some (.string sv)) (go_keep)
              (first
                | (go_at_call 19; with_reducible refine (HQ.out _ ?_ ?_).mono ?_; (first | exact HB0.out.1 | exact HB1.out.1); (first | exact HB0.out.2 | exact HB1.out.2); rintro e w3 ⟨rfl, H3, d0, d1⟩)
                | (refine step_appS rfl (.tmp 36) (.tmp 44) rfl w2.heap.size u7 (XS.map itemB) ⟨w3.heap.size, 0, none⟩ it (by simp [Act.eval]) (by simp [Act.eval]) (H3.out.2.keep (World.grownBy_alloc _ _ none)) (by rw [HSI.out]; exact rdc_str _ _) (by simp; omega) (by have := H3.out.1.size; simp; omega) ?_; intro v5 w5 ho5 hf5; have e5 := hid_cells hf5.1 d0 d1 HLT.out; have e6 := e5.1; have e7 := e5.2; clear e5))
            have H5 : Hid (w2.grownBy w5 none ∧ OwnT w5 w2.heap.size v5 ((XS ++ [(tn, tv)]).map itemB)) := by
              refine ⟨gb_new H3.out.1 (gb_trans (gb_any (World.grownBy_alloc w3 (.cells #[.string si] 9) none) _) hf5.1 (fun k hk _ => hk.symm)) (fun k hk => (H3.out.2.lt k hk).1), ?_⟩
              rw [List.map_append, List.map_cons, List.map_nil, HITM.out]
              exact ho5
            clear ho5 hf5 H3 HQ HB0 HB1
            go_wp2
            go_roundw
            case rel => exact ⟨z + 1, by omega, by simp, H5.out.1, by rw [HPS.out]; exact H5.out.2⟩
            case measure => simp [intOf]; omega
        · have hzi : ¬ (z : Int) < (ls.length : Int) := by omega
          have hzt : ls.take z = ls := List.take_of_length_le (by omega)
          rw [hzt] at hr
          have HSH : Hid (fewL (pickL (p_Without [mnB]) ls)) := HFE.out.pick _
          have HE : Hid (w2.grownBy wr none ∧ OwnT wr w2.heap.size u7 ((pickL (p_Without [mnB]) ls).map itemB)) := hr.out
          clear hr hzt
          generalize pickL (p_Without [mnB]) ls = RS at *
          obtain ⟨ua, uc, hu⟩ := HE.out.2.shape
          rw [List.length_map] at hu
          subst hu
          have HJT : Hid (Calls Tryd.prog 20 #[.slice ua RS.length uc, .string (ByteArray.mk #[44])] wr fun e w' => e = .returned (.string (ByteArray.mk ⟨joinI RS RS.length⟩)) ∧ wr.grownBy w' none) := joinT wr _ _ RS HE.out.2 HSH.out
          have hjl := joinI_len HSH.out RS.length (Nat.le_refl _)
          have hRL : RS.length ≤ 16 := HSH.out.1
          by_cases hre : RS = []
          · subst hre
            rw [if_pos ⟨HMT.out, rfl⟩] at HS
            have HE2 : Hid (w.grownBy wr none) := gb_none HG2.out HE.out.1
            go_wp2
            go_ret2
            exact ⟨by rw [HS.out, ← HSA.out]; rfl, HE2.out⟩
          · rw [if_neg (fun h => hre h.2)] at HS
            have hre2 : ((RS.length : Int) == 0) = false := by rw [beq_eq_false_iff_ne]; have := List.length_pos_iff.2 hre; omega
            have hre3 : ¬ (RS.length : Int) = 0 := by have := List.length_pos_iff.2 hre; omega
            have pa : ByteArray.mk ⟨A⟩ ++ ByteArray.mk #[123] = ByteArray.mk ⟨A ++ [123]⟩ := mk_app2 _ [123]
            rw [← HSA.out] at pa
            have pb : ByteArray.mk ⟨A ++ [123]⟩ ++ ByteArray.mk ⟨joinI RS RS.length⟩ = ByteArray.mk ⟨A ++ [123] ++ joinI RS RS.length⟩ := mk_app2 _ _
            have pc : ByteArray.mk ⟨A ++ [123] ++ joinI RS RS.length⟩ ++ ByteArray.mk #[125] = ByteArray.mk ⟨A ++ [123] ++ joinI RS RS.length ++ [125]⟩ := mk_app2 _ [125]
            have la : (ByteArray.mk ⟨A ++ [123]⟩).size ≤ 257 := by show (A ++ [123]).length ≤ 257; simp; omega
            have lb : (ByteArray.mk ⟨joinI RS RS.length⟩).size ≤ 20000 := by show (joinI RS RS.length).length ≤ 20000; omega
            have lc : (ByteArray.mk ⟨A ++ [123] ++ joinI RS RS.length⟩).size ≤ 20257 := by show (A ++ [123] ++ joinI RS RS.length).length ≤ 20257; simp only [List.length_append, List.length_cons, List.length_nil]; omega
            generalize hsR : ByteArray.mk ⟨A ++ [123] ++ joinI RS RS.length ++ [125]⟩ = sR at pc
            have HSR : Hid (ByteArray.mk ⟨A ++ [123] ++ joinI RS RS.length ++ [125]⟩ = sR) := hsR
            clear hsR
            generalize ByteArray.mk ⟨A ++ [123] ++ joinI RS RS.length⟩ = sc at *
            generalize ByteArray.mk ⟨A ++ [123]⟩ = sb at *
            generalize ByteArray.mk ⟨joinI RS RS.length⟩ = sj at *
            have m1 : ¬ 9223372036854775807 < sb.size + sj.size := by omega
            have m2 : ¬ 9223372036854775807 < sc.size + 1 := by omega
            go_wp2_with fail
            refine HJT.out.mono ?_
            rintro e w9 ⟨rfl, hg9⟩
            have HE9 : Hid (w.grownBy w9 none) := gb_none HG2.out (gb_none HE.out.1 hg9)
            clear HJT hg9 HE
            go_wp2
            go_ret2
            exact ⟨by rw [HS.out]; show _ = Ending.returned (.tuple #[.string (ByteArray.mk ⟨A ++ [123] ++ joinI RS RS.length ++ [125]⟩), .int .i64 0]); rw [HSR.out]; rfl, HE9.out⟩
    · have hmf : metricB (getL ls mnB) = false := by cases h : metricB (getL ls mnB) with
        | true => exact absurd h hm
        | false => rfl
      have HA : Hid (aheadP ls = [] ∧ restP ls = ls) := ⟨if_neg hm, if_neg hm⟩
      rw [HA.out.2, if_neg (fun h => hm h.1)] at HS
      rw [hmf] at HM
      have hAe := HA.out.1
      clear HA
      generalize aheadP ls = A at HS hAe
      have hgl2 : A.length ≤ 256 := by rw [hAe]; simp
      have HSA : Hid (ByteArray.mk #[] = ByteArray.mk ⟨A⟩) := by show _ = _; rw [hAe]
      clear hm hmf hAe hgl
      have hgl := hgl2
      clear hgl2
      generalize ByteArray.mk ⟨getL ls mnB⟩ = sG at *
      go_enter Tryd.func6, Tryd.ntmps6
      go_wp2_with fail
      refine HR.out.mono ?_
      rintro e w1 ⟨rfl, hg1⟩
      have H1 : Hid (w.grownBy w1 none) := hg1
      clear HR hg1
      go_wp2_with fail
      refine (HGT.out _ H1.out).mono ?_
      rintro e w3 ⟨rfl, hg3⟩
      have H3 : Hid (w.grownBy w3 none) := gb_none H1.out hg3
      clear HGT hg3 H1
      go_wp2_with fail
      refine (HM.out _).mono ?_
      rintro e w2 ⟨rfl, hg4⟩
      have HG2 : Hid (w.grownBy w2 none) := gb_none H3.out hg4
      clear HM hg4 H3
      go_wp2
      go_loopw [7, 25] (fun u i wr => ∃ z : Nat, z ≤ ls.length ∧ i = .int .i64 z ∧ Hid (w2.grownBy wr none ∧ OwnT wr w2.heap.size u ((ls.take z).map itemB))) (fun _ i _ => ls.length - (intOf i).toNat)
      case atStart => exact ⟨0, by omega, rfl, gb_refl _ _, OwnT.nil _ _⟩
      case round =>
        obtain ⟨z, hzN, rfl, hr⟩ := hrel
        by_cases hzl : z < ls.length
        · obtain ⟨a', c', he, -, -, h3, -⟩ := HV.out.keep (gb_none HG2.out hr.out.1)
          simp only [Value.slice.injEq] at he
          obtain ⟨rfl, -, rfl⟩ := he
          obtain ⟨b, o, rfl, c0, c1⟩ := h3 z hzl
          have hzi : (z : Int) < (ls.length : Int) := by omega
          have hbl : ¬ b = wr.heap.size := by have := block_lt c0; omega
          have hbl2 : ¬ wr.heap.size = b := by omega
          have HPS : Hid (ls.take (z + 1) = ls.take z ++ [ls.getD z ([], [])]) := by
            show ls.take (z + 1) = _
            rw [List.take_succ_eq_append_getElem hzl]
            simp [List.getD, hzl]
          have hxl : (ls.take z).length ≤ 16 := by simp; omega
          have HE : Hid (w2.grownBy wr none ∧ OwnT wr w2.heap.size u7 ((ls.take z).map itemB)) := hr.out
          generalize ls.take z = XS at *
          clear h3 hr
          by_cases hnm : (ls.getD z ([], [])).1 = mnB
          · have e1 : ((ByteArray.mk ⟨(ls.getD z ([], [])).1⟩).toList == (ByteArray.mk #[95, 95, 110, 97, 109, 101, 95, 95]).toList) = true := by rw [ByteArray.toList_eq, ByteArray.toList_eq, beq_iff_eq]; exact hnm
            have e1' : (ByteArray.mk ⟨(ls.getD z ([], [])).1⟩).toList = [95, 95, 110, 97, 109, 101, 95, 95] := by rw [ByteArray.toList_eq]; exact hnm
            clear hnm
            have HIT : Hid (itemB (ls.getD z ([], [])) = (ls.getD z ([], [])).1 ++ [61] ++ quoS (ls.getD z ([], [])).2) := rfl
            have HQ : Hid (∀ W, Bx w2 wr.heap.size (ByteArray.mk ⟨(ls.getD z ([], [])).1⟩) (ByteArray.mk ⟨(ls.getD z ([], [])).2⟩) W → OwnT W w2.heap.size u7 (XS.map itemB) → Calls Tryd.prog 19 #[.string (ByteArray.mk ⟨(ls.getD z ([], [])).2⟩)] W fun e w' => e = .returned (.string (ByteArray.mk ⟨quoS (ls.getD z ([], [])).2⟩)) ∧ Hid (w2.grownBy w' none ∧ OwnT w' w2.heap.size u7 (XS.map itemB)) ∧ w'.cell? ⟨wr.heap.size, 0, none⟩ = some (.string (ByteArray.mk ⟨(ls.getD z ([], [])).1⟩)) ∧ w'.cell? ⟨wr.heap.size, 1, none⟩ = some (.string (ByteArray.mk ⟨(ls.getD z ([], [])).2⟩))) := fun W hW hO => (quoted_any W _ (by have := (HFE.out.at z).2; omega)).mono fun e w' ⟨h1, h2⟩ => ⟨h1, ⟨gb_none hW.2 h2, hO.keep h2⟩, (hW.keep h2).cells.1, (hW.keep h2).cells.2⟩
            have HB0 : Hid (Bx w2 wr.heap.size (ByteArray.mk ⟨(ls.getD z ([], [])).1⟩) (ByteArray.mk ⟨(ls.getD z ([], [])).2⟩) (wr.alloc (.cells #[.string (ByteArray.mk ⟨(ls.getD z ([], [])).1⟩), .string (ByteArray.mk ⟨(ls.getD z ([], [])).2⟩)] 42)) ∧ OwnT (wr.alloc (.cells #[.string (ByteArray.mk ⟨(ls.getD z ([], [])).1⟩), .string (ByteArray.mk ⟨(ls.getD z ([], [])).2⟩)] 42)) w2.heap.size u7 (XS.map itemB)) := ⟨⟨Go.heap_alloc_new wr _, gb_none HE.out.1 (World.grownBy_alloc _ _ none)⟩, HE.out.2.keep (World.grownBy_alloc _ _ none)⟩
            have hsh := HFE.out.at z
            have hql := quoS_len hsh.2
            generalize ls.getD z ([], []) = x0 at *
            obtain ⟨tn, tv⟩ := x0
            dsimp only at *
            have p1 : ByteArray.mk ⟨tn⟩ ++ ByteArray.mk #[61] = ByteArray.mk ⟨tn ++ [61]⟩ := mk_app2 _ [61]
            have p2 : ByteArray.mk ⟨tn ++ [61]⟩ ++ ByteArray.mk ⟨quoS tv⟩ = ByteArray.mk ⟨itemB (tn, tv)⟩ := by rw [mk_app2, HIT.out]
            have l1 : (ByteArray.mk ⟨tn⟩).size ≤ 64 := hsh.1
            have l2 : (ByteArray.mk ⟨tn ++ [61]⟩).size ≤ 65 := by show (tn ++ [61]).length ≤ 65; simp; omega
            have l3 : (ByteArray.mk ⟨quoS tv⟩).size ≤ 514 := hql
            have m1 : ¬ 9223372036854775807 < (ByteArray.mk ⟨tn⟩).size + 1 := by omega
            have m2 : ¬ 9223372036854775807 < (ByteArray.mk ⟨tn ++ [61]⟩).size + (ByteArray.mk ⟨quoS tv⟩).size := by omega
            clear hsh hql HIT
            generalize hit : itemB (tn, tv) = it at *
            have HITM : Hid (itemB (tn, tv) = it) := hit
            clear hit
            generalize hsi : ByteArray.mk ⟨it⟩ = si at *
            have HSI : Hid (ByteArray.mk ⟨it⟩ = si) := hsi
            clear hsi
            generalize ByteArray.mk ⟨tn ++ [61]⟩ = s1 at *
            generalize ByteArray.mk ⟨tn⟩ = sn at *
            generalize ByteArray.mk ⟨tv⟩ = sv at *
            generalize ByteArray.mk ⟨quoS tv⟩ = sq at *
            go_wp2_with fail
            have q0 := HB0.out.1.cells.1
            have q1 := HB0.out.1.cells.2
            have HB1 : Hid (Bx w2 wr.heap.size sn sv (wr.alloc (.cells #[.string sn, .string sv] 42)).drew ∧ OwnT (wr.alloc (.cells #[.string sn, .string sv] 42)).drew w2.heap.size u7 (XS.map itemB)) := ⟨HB0.out.1.keep (gb_drew _ none), HB0.out.2.keep (gb_drew _ none)⟩
            have HLT : Hid (∀ k, u7.ownBlock = some k → k < wr.heap.size) := fun k hk => (HE.out.2.lt k hk).2
            clear c0 c1 hbl hbl2
            generalize wr.alloc (.cells #[.string sn, .string sv] 42) = W1 at *
            generalize wr.heap.size = b0 at *
            go_region_held3 (fun w' => w'.cell? ⟨b0, 0, none⟩ = some (.string sn) ∧ w'.cell? ⟨b0, 1, none⟩ = some (.string sv)) (go_keep)
              (first
                | (go_at_call 19; with_reducible refine (HQ.out _ ?_ ?_).mono ?_; (first | exact HB0.out.1 | exact HB1.out.1); (first | exact HB0.out.2 | exact HB1.out.2); rintro e w3 ⟨rfl, H3, d0, d1⟩)
                | (refine step_appS rfl (.tmp 36) (.tmp 44) rfl w2.heap.size u7 (XS.map itemB) ⟨w3.heap.size, 0, none⟩ it (by simp [Act.eval]) (by simp [Act.eval]) (H3.out.2.keep (World.grownBy_alloc _ _ none)) (by rw [HSI.out]; exact rdc_str _ _) (by simp; omega) (by have := H3.out.1.size; simp; omega) ?_; intro v5 w5 ho5 hf5; have e5 := hid_cells hf5.1 d0 d1 HLT.out; have e6 := e5.1; have e7 := e5.2; clear e5))
            have H5 : Hid (w2.grownBy w5 none ∧ OwnT w5 w2.heap.size v5 ((XS ++ [(tn, tv)]).map itemB)) := by
              refine ⟨gb_new H3.out.1 (gb_trans (gb_any (World.grownBy_alloc w3 (.cells #[.string si] 9) none) _) hf5.1 (fun k hk _ => hk.symm)) (fun k hk => (H3.out.2.lt k hk).1), ?_⟩
              rw [List.map_append, List.map_cons, List.map_nil, HITM.out]
              exact ho5
            clear ho5 hf5 H3 HQ HB0 HB1
            go_wp2
            go_roundw
            case rel => exact ⟨z + 1, by omega, by simp, H5.out.1, by rw [HPS.out]; exact H5.out.2⟩
            case measure => simp [intOf]; omega
          · have e1 : ((ByteArray.mk ⟨(ls.getD z ([], [])).1⟩).toList == (ByteArray.mk #[95, 95, 110, 97, 109, 101, 95, 95]).toList) = false := by rw [ByteArray.toList_eq, ByteArray.toList_eq, beq_eq_false_iff_ne]; exact hnm
            have e1' : ¬ (ByteArray.mk ⟨(ls.getD z ([], [])).1⟩).toList = [95, 95, 110, 97, 109, 101, 95, 95] := by rw [ByteArray.toList_eq]; exact hnm
            clear hnm
            have HIT : Hid (itemB (ls.getD z ([], [])) = (ls.getD z ([], [])).1 ++ [61] ++ quoS (ls.getD z ([], [])).2) := rfl
            have HQ : Hid (∀ W, Bx w2 wr.heap.size (ByteArray.mk ⟨(ls.getD z ([], [])).1⟩) (ByteArray.mk ⟨(ls.getD z ([], [])).2⟩) W → OwnT W w2.heap.size u7 (XS.map itemB) → Calls Tryd.prog 19 #[.string (ByteArray.mk ⟨(ls.getD z ([], [])).2⟩)] W fun e w' => e = .returned (.string (ByteArray.mk ⟨quoS (ls.getD z ([], [])).2⟩)) ∧ Hid (w2.grownBy w' none ∧ OwnT w' w2.heap.size u7 (XS.map itemB)) ∧ w'.cell? ⟨wr.heap.size, 0, none⟩ = some (.string (ByteArray.mk ⟨(ls.getD z ([], [])).1⟩)) ∧ w'.cell? ⟨wr.heap.size, 1, none⟩ = some (.string (ByteArray.mk ⟨(ls.getD z ([], [])).2⟩))) := fun W hW hO => (quoted_any W _ (by have := (HFE.out.at z).2; omega)).mono fun e w' ⟨h1, h2⟩ => ⟨h1, ⟨gb_none hW.2 h2, hO.keep h2⟩, (hW.keep h2).cells.1, (hW.keep h2).cells.2⟩
            have HB0 : Hid (Bx w2 wr.heap.size (ByteArray.mk ⟨(ls.getD z ([], [])).1⟩) (ByteArray.mk ⟨(ls.getD z ([], [])).2⟩) (wr.alloc (.cells #[.string (ByteArray.mk ⟨(ls.getD z ([], [])).1⟩), .string (ByteArray.mk ⟨(ls.getD z ([], [])).2⟩)] 42)) ∧ OwnT (wr.alloc (.cells #[.string (ByteArray.mk ⟨(ls.getD z ([], [])).1⟩), .string (ByteArray.mk ⟨(ls.getD z ([], [])).2⟩)] 42)) w2.heap.size u7 (XS.map itemB)) := ⟨⟨Go.heap_alloc_new wr _, gb_none HE.out.1 (World.grownBy_alloc _ _ none)⟩, HE.out.2.keep (World.grownBy_alloc _ _ none)⟩
            have hsh := HFE.out.at z
            have hql := quoS_len hsh.2
            generalize ls.getD z ([], []) = x0 at *
            obtain ⟨tn, tv⟩ := x0
            dsimp only at *
            have p1 : ByteArray.mk ⟨tn⟩ ++ ByteArray.mk #[61] = ByteArray.mk ⟨tn ++ [61]⟩ := mk_app2 _ [61]
            have p2 : ByteArray.mk ⟨tn ++ [61]⟩ ++ ByteArray.mk ⟨quoS tv⟩ = ByteArray.mk ⟨itemB (tn, tv)⟩ := by rw [mk_app2, HIT.out]
            have l1 : (ByteArray.mk ⟨tn⟩).size ≤ 64 := hsh.1
            have l2 : (ByteArray.mk ⟨tn ++ [61]⟩).size ≤ 65 := by show (tn ++ [61]).length ≤ 65; simp; omega
            have l3 : (ByteArray.mk ⟨quoS tv⟩).size ≤ 514 := hql
            have m1 : ¬ 9223372036854775807 < (ByteArray.mk ⟨tn⟩).size + 1 := by omega
            have m2 : ¬ 9223372036854775807 < (ByteArray.mk ⟨tn ++ [61]⟩).size + (ByteArray.mk ⟨quoS tv⟩).size := by omega
            clear hsh hql HIT
            generalize hit : itemB (tn, tv) = it at *
            have HITM : Hid (itemB (tn, tv) = it) := hit
            clear hit
            generalize hsi : ByteArray.mk ⟨it⟩ = si at *
            have HSI : Hid (ByteArray.mk ⟨it⟩ = si) := hsi
            clear hsi
            generalize ByteArray.mk ⟨tn ++ [61]⟩ = s1 at *
            generalize ByteArray.mk ⟨tn⟩ = sn at *
            generalize ByteArray.mk ⟨tv⟩ = sv at *
            generalize ByteArray.mk ⟨quoS tv⟩ = sq at *
            go_wp2_with fail
            have q0 := HB0.out.1.cells.1
            have q1 := HB0.out.1.cells.2
            have HB1 : Hid (Bx w2 wr.heap.size sn sv (wr.alloc (.cells #[.string sn, .string sv] 42)).drew ∧ OwnT (wr.alloc (.cells #[.string sn, .string sv] 42)).drew w2.heap.size u7 (XS.map itemB)) := ⟨HB0.out.1.keep (gb_drew _ none), HB0.out.2.keep (gb_drew _ none)⟩
            have HLT : Hid (∀ k, u7.ownBlock = some k → k < wr.heap.size) := fun k hk => (HE.out.2.lt k hk).2
            clear c0 c1 hbl hbl2
            generalize wr.alloc (.cells #[.string sn, .string sv] 42) = W1 at *
            generalize wr.heap.size = b0 at *
            go_region_held3 (fun w' => w'.cell? ⟨b0, 0, none⟩ = some (.string sn) ∧ w'.cell? ⟨b0, 1, none⟩ = some (.string sv)) (go_keep)
              (first
                | (go_at_call 19; with_reducible refine (HQ.out _ ?_ ?_).mono ?_; (first | exact HB0.out.1 | exact HB1.out.1); (first | exact HB0.out.2 | exact HB1.out.2); rintro e w3 ⟨rfl, H3, d0, d1⟩)
                | (refine step_appS rfl (.tmp 36) (.tmp 44) rfl w2.heap.size u7 (XS.map itemB) ⟨w3.heap.size, 0, none⟩ it (by simp [Act.eval]) (by simp [Act.eval]) (H3.out.2.keep (World.grownBy_alloc _ _ none)) (by rw [HSI.out]; exact rdc_str _ _) (by simp; omega) (by have := H3.out.1.size; simp; omega) ?_; intro v5 w5 ho5 hf5; have e5 := hid_cells hf5.1 d0 d1 HLT.out; have e6 := e5.1; have e7 := e5.2; clear e5))
            have H5 : Hid (w2.grownBy w5 none ∧ OwnT w5 w2.heap.size v5 ((XS ++ [(tn, tv)]).map itemB)) := by
              refine ⟨gb_new H3.out.1 (gb_trans (gb_any (World.grownBy_alloc w3 (.cells #[.string si] 9) none) _) hf5.1 (fun k hk _ => hk.symm)) (fun k hk => (H3.out.2.lt k hk).1), ?_⟩
              rw [List.map_append, List.map_cons, List.map_nil, HITM.out]
              exact ho5
            clear ho5 hf5 H3 HQ HB0 HB1
            go_wp2
            go_roundw
            case rel => exact ⟨z + 1, by omega, by simp, H5.out.1, by rw [HPS.out]; exact H5.out.2⟩
            case measure => simp [intOf]; omega
        · have hzi : ¬ (z : Int) < (ls.length : Int) := by omega
          have hzt : ls.take z = ls := List.take_of_length_le (by omega)
          rw [hzt] at hr
          obtain ⟨RS, hRS⟩ : ∃ RS, RS = ls := ⟨_, rfl⟩
          rw [← hRS] at hr HS HFE
          have HSH : Hid (fewL RS) := HFE.out
          have HE : Hid (w2.grownBy wr none ∧ OwnT wr w2.heap.size u7 (RS.map itemB)) := hr.out
          clear hr hzt hRS
          obtain ⟨ua, uc, hu⟩ := HE.out.2.shape
          rw [List.length_map] at hu
          subst hu
          have HJT : Hid (Calls Tryd.prog 20 #[.slice ua RS.length uc, .string (ByteArray.mk #[44])] wr fun e w' => e = .returned (.string (ByteArray.mk ⟨joinI RS RS.length⟩)) ∧ wr.grownBy w' none) := joinT wr _ _ RS HE.out.2 HSH.out
          have hjl := joinI_len HSH.out RS.length (Nat.le_refl _)
          have hRL : RS.length ≤ 16 := HSH.out.1
          obtain ⟨sA, hsA⟩ : ∃ sA, sA = ByteArray.mk #[] := ⟨_, rfl⟩
          have HSA : Hid (ByteArray.mk #[] = ByteArray.mk ⟨A⟩) := HSA.out
          clear hsA
          have pa : ByteArray.mk ⟨A⟩ ++ ByteArray.mk #[123] = ByteArray.mk ⟨A ++ [123]⟩ := mk_app2 _ [123]
          rw [← HSA.out] at pa
          have pb : ByteArray.mk ⟨A ++ [123]⟩ ++ ByteArray.mk ⟨joinI RS RS.length⟩ = ByteArray.mk ⟨A ++ [123] ++ joinI RS RS.length⟩ := mk_app2 _ _
          have pc : ByteArray.mk ⟨A ++ [123] ++ joinI RS RS.length⟩ ++ ByteArray.mk #[125] = ByteArray.mk ⟨A ++ [123] ++ joinI RS RS.length ++ [125]⟩ := mk_app2 _ [125]
          have la : (ByteArray.mk ⟨A ++ [123]⟩).size ≤ 257 := by show (A ++ [123]).length ≤ 257; simp; omega
          have lb : (ByteArray.mk ⟨joinI RS RS.length⟩).size ≤ 20000 := by show (joinI RS RS.length).length ≤ 20000; omega
          have lc : (ByteArray.mk ⟨A ++ [123] ++ joinI RS RS.length⟩).size ≤ 20257 := by show (A ++ [123] ++ joinI RS RS.length).length ≤ 20257; simp only [List.length_append, List.length_cons, List.length_nil]; omega
          generalize hsR : ByteArray.mk ⟨A ++ [123] ++ joinI RS RS.length ++ [125]⟩ = sR at pc
          have HSR : Hid (ByteArray.mk ⟨A ++ [123] ++ joinI RS RS.length ++ [125]⟩ = sR) := hsR
          clear hsR
          generalize ByteArray.mk ⟨A ++ [123] ++ joinI RS RS.length⟩ = sc at *
          generalize ByteArray.mk ⟨A ++ [123]⟩ = sb at *
          generalize ByteArray.mk ⟨joinI RS RS.length⟩ = sj at *
          have m1 : ¬ 9223372036854775807 < sb.size + sj.size := by omega
          have m2 : ¬ 9223372036854775807 < sc.size + 1 := by omega
          go_wp2_with fail
          refine HJT.out.mono ?_
          rintro e w9 ⟨rfl, hg9⟩
          have HE9 : Hid (w.grownBy w9 none) := gb_none HG2.out (gb_none HE.out.1 hg9)
          clear HJT hg9 HE
          go_wp2
          go_ret2
          exact ⟨by rw [HS.out]; show _ = Ending.returned (.tuple #[.string (ByteArray.mk ⟨A ++ [123] ++ joinI RS RS.length ++ [125]⟩), .int .i64 0]); rw [HSR.out]; rfl, HE9.out⟩
  · rw [if_pos hr1] at HS
    have hPS := HS.out
    subst hPS
    dsimp only
    have hrb : ((rightS ls).1 == 0) = false := by rw [beq_eq_false_iff_ne]; exact hr1
    generalize (rightS ls).1 = re at *
    generalize (rightS ls).2 = ri at *
    go_enter Tryd.func6, Tryd.ntmps6
    go_wp2_with fail
    refine HR.out.mono ?_
    rintro e w1 ⟨rfl, hg1⟩
    have H1 : Hid (w.grownBy w1 none) := hg1
    clear HR hg1
    go_wp2
    go_ret2
    exact ⟨rfl, H1.out⟩
end Go.Proofs.YtkcgikgihbglnabDoor
