/-
  The text of a label set, by the document: the walk.
-/
import Derived.Test.YtkcgikgihbglnaaDoorLbPr
import Derived.Deep.RegionHeld3
namespace Go.Proofs.YtkcgikgihbglnaaDoor
open Go.RowKit

set_option maxRecDepth 8000 in
set_option maxHeartbeats 6400000 in
theorem refPrint_any (w : World) (v : Value) (ls : List LbT) (hv : RdL w v ls) (hl : LbIn ls) :
    Calls Tryd.prog 34 #[v] w fun e w' => e = .returned (.tuple #[.string (ByteArray.mk ⟨(printS ls).1⟩), .int .i64 (printS ls).2]) ∧ w.grownBy w' none := by
  have HR : Hid (Calls Tryd.prog 11 #[v] w fun e w' => e = .returned (.tuple #[.int .i64 (rightS ls).1, .int .i64 ((rightS ls).2 : Int)]) ∧ w.grownBy w' none) := refRight_any w v ls hv hl
  have HV : Hid (RdL w v ls) := hv
  obtain ⟨a, c, rfl, -, -, -, -⟩ := hv
  have HS : Hid (printS ls = if (rightS ls).1 ≠ 0 then ([], (rightS ls).1) else if metricB (getL ls mnB) = true ∧ restP ls = [] then (aheadP ls, 0) else (aheadP ls ++ [123] ++ joinI (restP ls) (restP ls).length ++ [125], 0)) := rfl
  generalize printS ls = PS at *
  by_cases hr1 : (rightS ls).1 = 0
  · rw [if_neg (by simpa using hr1)] at HS
    have HFE : Hid (fewL ls) := right_fewL hr1
    have HGT : Hid (∀ W, w.grownBy W none → Calls Tryd.prog 22 #[.slice a ls.length c, .string (ByteArray.mk #[95, 95, 110, 97, 109, 101, 95, 95])] W fun e w' => e = .returned (.string (ByteArray.mk ⟨getL ls mnB⟩)) ∧ W.grownBy w' none) := fun W hg => get_tocsinref04 W _ ls mnB (HV.out.keep hg)
    have hgl : (getL ls mnB).length ≤ 256 := getL_few mnB HFE.out.2
    have HM : Hid (∀ W, Calls Tryd.prog 15 #[.string (ByteArray.mk ⟨getL ls mnB⟩)] W fun e w' => e = .returned (.bool (metricB (getL ls mnB))) ∧ W.grownBy w' none) := fun W => refMetric_any W _ (by omega)
    rw [hr1] at HR
    by_cases hm : metricB (getL ls mnB) = true
    · have HA : Hid (aheadP ls = getL ls mnB ∧ restP ls = pickL (p_Without [mnB]) ls) := ⟨if_pos hm, if_pos hm⟩
      rw [HA.out.1, HA.out.2] at HS
      rw [hm] at HM
      have HP : Hid (∀ W, w.grownBy W none → Calls Tryd.prog 55 #[.slice a ls.length c, .slice (some ⟨W.heap.size, 0, none⟩) 1 1, .bool false] (W.alloc (.cells #[.string (ByteArray.mk #[95, 95, 110, 97, 109, 101, 95, 95])] 9)) fun e w' => ∃ v', e = .returned v' ∧ Hid (OwnL w' w.heap.size v' (pickL (p_Without [mnB]) ls) ∧ w.grownBy w' none)) := fun W hW => by
        have hW2 := gb_none hW (World.grownBy_alloc W (.cells #[.string (ByteArray.mk ⟨mnB⟩)] 9) none)
        have h := refPick_any _ (.slice a ls.length c) _ false ls [mnB] (HV.out.keep hW2) (by have := HFE.out.1; omega) (one_nameP W mnB)
        rw [p_In_false] at h
        exact h.mono fun e w' ⟨v', h1, h2, h3⟩ => ⟨v', h1, h2.mono hW2.size, gb_none hW2 h3⟩
      have HSH : Hid (fewL (pickL (p_Without [mnB]) ls)) := HFE.out.pick _
      generalize pickL (p_Without [mnB]) ls = RS at *
      generalize getL ls mnB = A at *
      have HMT : Hid (metricB A = true) := hm
      clear hm HA HFE
      have hRL : RS.length ≤ 16 := HSH.out.1
      have HJL : Hid (∀ z, z ≤ RS.length → (joinI RS z).length ≤ 580 * z) := joinI_len HSH.out
      by_cases hre : RS = []
      · rw [if_pos ⟨HMT.out, hre⟩] at HS
        have hPS := HS.out
        subst hPS
        subst hre
        dsimp only
        generalize ByteArray.mk ⟨A⟩ = sA at *
        go_enter Tryd.func34, Tryd.ntmps34
        go_wp2_with fail
        refine HR.out.mono ?_
        rintro e w1 ⟨rfl, hg1⟩
        have H1 : Hid (w.grownBy w1 none) := hg1
        clear HR hg1
        go_wp2_with fail
        refine (HGT.out _ H1.out).mono ?_
        rintro e w3 ⟨rfl, hg3⟩
        have H3 : Hid (w.grownBy w3 none) := gb_none H1.out hg3
        clear HGT hg3 H1
        go_wp2_with fail
        refine (HM.out _).mono ?_
        rintro e w4 ⟨rfl, hg4⟩
        have H4 : Hid (w.grownBy w4 none) := gb_none H3.out hg4
        clear HM hg4 H3
        go_wp2_with fail
        refine (HP.out _ H4.out).mono ?_
        rintro e w5 ⟨vr, rfl, H5⟩
        obtain ⟨ra, rc, hvr⟩ := H5.out.1.shape
        subst hvr
        go_wp2
        go_ret2
        exact ⟨rfl, H5.out.2⟩
      · rw [if_neg (fun h => hre h.2)] at HS
        have hPS := HS.out
        subst hPS
        dsimp only
        have hre2 : ((RS.length : Int) == 0) = false := by rw [beq_eq_false_iff_ne]; have := List.length_pos_iff.2 hre; omega
        have hre3 : ¬ (RS.length : Int) = 0 := by have := List.length_pos_iff.2 hre; omega
        obtain ⟨R, hR⟩ : ∃ R, R = A ++ [123] ++ joinI RS RS.length ++ [125] := ⟨_, rfl⟩
        have HF : Hid (R = A ++ [123] ++ joinI RS RS.length ++ [125]) := hR
        rw [← hR]
        clear hR HS
        have pA : ByteArray.mk ⟨A⟩ ++ ByteArray.mk #[123] = ByteArray.mk ⟨A ++ [123]⟩ := mk_app2 A [123]
        have lA : (ByteArray.mk ⟨A⟩).size ≤ 256 := hgl
        generalize hs0 : ByteArray.mk ⟨A ++ [123]⟩ = sB at *
        have HS0 : Hid (sB = ByteArray.mk ⟨A ++ [123]⟩) := hs0.symm
        clear hs0
        generalize ByteArray.mk ⟨A⟩ = sA at *
        go_enter Tryd.func34, Tryd.ntmps34
        go_wp2_with fail
        refine HR.out.mono ?_
        rintro e w1 ⟨rfl, hg1⟩
        have H1 : Hid (w.grownBy w1 none) := hg1
        clear HR hg1
        go_wp2_with fail
        refine (HGT.out _ H1.out).mono ?_
        rintro e w3 ⟨rfl, hg3⟩
        have H3 : Hid (w.grownBy w3 none) := gb_none H1.out hg3
        clear HGT hg3 H1
        go_wp2_with fail
        refine (HM.out _).mono ?_
        rintro e w4 ⟨rfl, hg4⟩
        have H4 : Hid (w.grownBy w4 none) := gb_none H3.out hg4
        clear HM hg4 H3
        go_wp2_with fail
        refine (HP.out _ H4.out).mono ?_
        rintro e w2 ⟨vr, rfl, H5⟩
        obtain ⟨ra, rc, hvr⟩ := H5.out.1.shape
        subst hvr
        have HG2 : Hid (w.grownBy w2 none ∧ RdL w2 (.slice ra RS.length rc) RS) := ⟨H5.out.2, H5.out.1.rd⟩
        clear H5 HP
        have HGW : Hid (w.grownBy w2 none ∧ RdL w2 (.slice ra RS.length rc) RS) := HG2.out
        clear HG2
        go_wp2
        go_loopw [8, 35] (fun us i wr => ∃ z : Nat, z ≤ RS.length ∧ i = .int .i64 z ∧ us = .string (ByteArray.mk ⟨A ++ [123] ++ joinI RS z⟩) ∧ Hid (w2.grownBy wr none)) (fun _ i _ => RS.length - (intOf i).toNat)
        case atStart => exact ⟨0, by omega, rfl, by rw [HS0.out]; simp [joinI, Lib.join_nil], gb_refl _ _⟩
        case round =>
          obtain ⟨z, hzN, rfl, rfl, hr⟩ := hrel
          have hjl := HJL.out z hzN
          by_cases hzl : z < RS.length
          · obtain ⟨a', c', he, -, hcm, h3, -⟩ := HGW.out.2.keep hr.out
            simp only [Value.slice.injEq] at he
            obtain ⟨rfl, -, rfl⟩ := he
            obtain ⟨b, o, rfl, c0, c1⟩ := h3 z hzl
            unfold maxLen at hcm
            have hzi : (z : Int) < (RS.length : Int) := by omega
            have hbl : ¬ b = wr.heap.size := by have := block_lt c0; omega
            have hbl2 : ¬ wr.heap.size = b := by omega
            have HST : Hid (joinI RS (z + 1) = (if z = 0 then [] else joinI RS z ++ [44]) ++ itemB (RS.getD z ([], []))) := joinI_step hzl
            have hsh := HSH.out.at z
            have hql := quoS_len hsh.2
            have HIT : Hid (itemB (RS.getD z ([], [])) = (RS.getD z ([], [])).1 ++ [61] ++ quoS (RS.getD z ([], [])).2) := rfl
            have HQ : Hid (∀ W, Bx w2 wr.heap.size (ByteArray.mk ⟨(RS.getD z ([], [])).1⟩) (ByteArray.mk ⟨(RS.getD z ([], [])).2⟩) W → Calls Tryd.prog 66 #[.string (ByteArray.mk ⟨(RS.getD z ([], [])).2⟩)] W fun e w' => e = .returned (.string (ByteArray.mk ⟨quoS (RS.getD z ([], [])).2⟩)) ∧ Hid (w2.grownBy w' none) ∧ w'.cell? ⟨wr.heap.size, 0, none⟩ = some (.string (ByteArray.mk ⟨(RS.getD z ([], [])).1⟩)) ∧ w'.cell? ⟨wr.heap.size, 1, none⟩ = some (.string (ByteArray.mk ⟨(RS.getD z ([], [])).2⟩))) := fun W hW => (refQuoted_any W _ (by omega)).mono fun e w' ⟨h1, h2⟩ => ⟨h1, gb_none hW.2 h2, (hW.keep h2).cells.1, (hW.keep h2).cells.2⟩
            have HB0 : Hid (Bx w2 wr.heap.size (ByteArray.mk ⟨(RS.getD z ([], [])).1⟩) (ByteArray.mk ⟨(RS.getD z ([], [])).2⟩) (wr.alloc (.cells #[.string (ByteArray.mk ⟨(RS.getD z ([], [])).1⟩), .string (ByteArray.mk ⟨(RS.getD z ([], [])).2⟩)] 56))) := ⟨Go.heap_alloc_new wr _, gb_none hr.out (World.grownBy_alloc _ _ none)⟩
            clear h3
            generalize itemB (RS.getD z ([], [])) = it at *
            generalize (RS.getD z ([], [])).1 = tn at *
            generalize (RS.getD z ([], [])).2 = tv at *
            have hsn : (ByteArray.mk ⟨tn⟩).size = tn.length := rfl
            have hsq : (ByteArray.mk ⟨quoS tv⟩).size = (quoS tv).length := rfl
            by_cases hz0 : z = 0
            · rw [if_pos hz0, List.nil_append] at HST
              have hzp : ¬ (0 : Int) < (z : Int) := by omega
              have p1 : ByteArray.mk ⟨A ++ [123] ++ joinI RS z⟩ ++ ByteArray.mk ⟨tn⟩ = ByteArray.mk ⟨A ++ [123] ++ joinI RS z ++ tn⟩ := mk_app2 _ _
              have p2 : ByteArray.mk ⟨A ++ [123] ++ joinI RS z ++ tn⟩ ++ ByteArray.mk #[61] = ByteArray.mk ⟨A ++ [123] ++ joinI RS z ++ tn ++ [61]⟩ := mk_app2 _ [61]
              have p3 : ByteArray.mk ⟨A ++ [123] ++ joinI RS z ++ tn ++ [61]⟩ ++ ByteArray.mk ⟨quoS tv⟩ = ByteArray.mk ⟨A ++ [123] ++ joinI RS (z + 1)⟩ := by rw [mk_app2, HST.out, HIT.out, hz0]; simp [joinI, Lib.join_nil]
              have l0 : (ByteArray.mk ⟨A ++ [123] ++ joinI RS z⟩).size ≤ 20000 := by show (A ++ [123] ++ joinI RS z).length ≤ 20000; simp only [List.length_append, List.length_cons, List.length_nil]; omega
              have l1 : (ByteArray.mk ⟨A ++ [123] ++ joinI RS z ++ tn⟩).size ≤ 20000 := by show (A ++ [123] ++ joinI RS z ++ tn).length ≤ 20000; simp only [List.length_append, List.length_cons, List.length_nil]; omega
              have l2 : (ByteArray.mk ⟨A ++ [123] ++ joinI RS z ++ tn ++ [61]⟩).size ≤ 20000 := by show (A ++ [123] ++ joinI RS z ++ tn ++ [61]).length ≤ 20000; simp only [List.length_append, List.length_cons, List.length_nil]; omega
              clear hz0
              generalize ByteArray.mk ⟨A ++ [123] ++ joinI RS z ++ tn ++ [61]⟩ = s2 at *
              generalize ByteArray.mk ⟨A ++ [123] ++ joinI RS z ++ tn⟩ = s1 at *
              generalize ByteArray.mk ⟨A ++ [123] ++ joinI RS z⟩ = sc at *
              generalize hsN : ByteArray.mk ⟨A ++ [123] ++ joinI RS (z + 1)⟩ = sN at *
              have HSN : Hid (ByteArray.mk ⟨A ++ [123] ++ joinI RS (z + 1)⟩ = sN) := hsN
              clear hsN
              generalize ByteArray.mk ⟨tn⟩ = sn at *
              generalize ByteArray.mk ⟨tv⟩ = sv at *
              generalize ByteArray.mk ⟨quoS tv⟩ = sq at *
              clear HST HIT hjl
              have hq1 : sq.size ≤ 514 := by omega
              have hq2 : sn.size ≤ 64 := by omega
              clear hsn hsq hsh hql
              have m1 : ¬ 9223372036854775807 < sc.size + sn.size := by omega
              have m2 : ¬ 9223372036854775807 < s1.size + 1 := by omega
              have m3 : ¬ 9223372036854775807 < s2.size + sq.size := by omega
              go_wp2_with fail
              have q0 := HB0.out.cells.1
              have q1 := HB0.out.cells.2
              have HB1 : Hid (Bx w2 wr.heap.size sn sv (wr.alloc (.cells #[.string sn, .string sv] 56)).drew) := HB0.out.keep (gb_drew _ none)
              clear c0 c1 hbl hbl2 hr
              generalize wr.alloc (.cells #[.string sn, .string sv] 56) = W1 at *
              generalize wr.heap.size = b0 at *
              go_region_held3 (fun w' => w'.cell? ⟨b0, 0, none⟩ = some (.string sn) ∧ w'.cell? ⟨b0, 1, none⟩ = some (.string sv)) (go_keep)
                (first
                  | (go_at_call 66; with_reducible refine (HQ.out _ ?_).mono ?_; (first | exact HB0.out | exact HB1.out); rintro e w3 ⟨rfl, H3, d0, d1⟩))
              clear HQ HB0 HB1
              go_wp2
              go_roundw
              case rel => exact ⟨z + 1, by omega, by simp, by rw [HSN.out], by first | exact H3.out | exact gb_none H3.out (gb_drew _ none)⟩
              case measure => simp [intOf]; omega
            · rw [if_neg hz0] at HST
              have hzp : (0 : Int) < (z : Int) := by omega
              have p0 : ByteArray.mk ⟨A ++ [123] ++ joinI RS z⟩ ++ ByteArray.mk #[44] = ByteArray.mk ⟨A ++ [123] ++ joinI RS z ++ [44]⟩ := mk_app2 _ [44]
              have p1 : ByteArray.mk ⟨A ++ [123] ++ joinI RS z ++ [44]⟩ ++ ByteArray.mk ⟨tn⟩ = ByteArray.mk ⟨A ++ [123] ++ joinI RS z ++ [44] ++ tn⟩ := mk_app2 _ _
              have p2 : ByteArray.mk ⟨A ++ [123] ++ joinI RS z ++ [44] ++ tn⟩ ++ ByteArray.mk #[61] = ByteArray.mk ⟨A ++ [123] ++ joinI RS z ++ [44] ++ tn ++ [61]⟩ := mk_app2 _ [61]
              have p3 : ByteArray.mk ⟨A ++ [123] ++ joinI RS z ++ [44] ++ tn ++ [61]⟩ ++ ByteArray.mk ⟨quoS tv⟩ = ByteArray.mk ⟨A ++ [123] ++ joinI RS (z + 1)⟩ := by rw [mk_app2, HST.out, HIT.out]; simp
              have l0 : (ByteArray.mk ⟨A ++ [123] ++ joinI RS z⟩).size ≤ 20000 := by show (A ++ [123] ++ joinI RS z).length ≤ 20000; simp only [List.length_append, List.length_cons, List.length_nil]; omega
              have l0' : (ByteArray.mk ⟨A ++ [123] ++ joinI RS z ++ [44]⟩).size ≤ 20000 := by show (A ++ [123] ++ joinI RS z ++ [44]).length ≤ 20000; simp only [List.length_append, List.length_cons, List.length_nil]; omega
              have l1 : (ByteArray.mk ⟨A ++ [123] ++ joinI RS z ++ [44] ++ tn⟩).size ≤ 20000 := by show (A ++ [123] ++ joinI RS z ++ [44] ++ tn).length ≤ 20000; simp only [List.length_append, List.length_cons, List.length_nil]; omega
              have l2 : (ByteArray.mk ⟨A ++ [123] ++ joinI RS z ++ [44] ++ tn ++ [61]⟩).size ≤ 20000 := by show (A ++ [123] ++ joinI RS z ++ [44] ++ tn ++ [61]).length ≤ 20000; simp only [List.length_append, List.length_cons, List.length_nil]; omega
              generalize ByteArray.mk ⟨A ++ [123] ++ joinI RS z ++ [44] ++ tn ++ [61]⟩ = s2 at *
              generalize ByteArray.mk ⟨A ++ [123] ++ joinI RS z ++ [44] ++ tn⟩ = s1 at *
              generalize ByteArray.mk ⟨A ++ [123] ++ joinI RS z ++ [44]⟩ = sc at *
              generalize ByteArray.mk ⟨A ++ [123] ++ joinI RS z⟩ = s0 at *
              generalize hsN : ByteArray.mk ⟨A ++ [123] ++ joinI RS (z + 1)⟩ = sN at *
              have HSN : Hid (ByteArray.mk ⟨A ++ [123] ++ joinI RS (z + 1)⟩ = sN) := hsN
              clear hsN
              generalize ByteArray.mk ⟨tn⟩ = sn at *
              generalize ByteArray.mk ⟨tv⟩ = sv at *
              generalize ByteArray.mk ⟨quoS tv⟩ = sq at *
              clear HST HIT hjl
              have hq1 : sq.size ≤ 514 := by omega
              have hq2 : sn.size ≤ 64 := by omega
              clear hsn hsq hsh hql
              have m1 : ¬ 9223372036854775807 < sc.size + sn.size := by omega
              have m2 : ¬ 9223372036854775807 < s1.size + 1 := by omega
              have m3 : ¬ 9223372036854775807 < s2.size + sq.size := by omega
              go_wp2_with fail
              have q0 := HB0.out.cells.1
              have q1 := HB0.out.cells.2
              have HB1 : Hid (Bx w2 wr.heap.size sn sv (wr.alloc (.cells #[.string sn, .string sv] 56)).drew) := HB0.out.keep (gb_drew _ none)
              clear c0 c1 hbl hbl2 hr
              generalize wr.alloc (.cells #[.string sn, .string sv] 56) = W1 at *
              generalize wr.heap.size = b0 at *
              go_region_held3 (fun w' => w'.cell? ⟨b0, 0, none⟩ = some (.string sn) ∧ w'.cell? ⟨b0, 1, none⟩ = some (.string sv)) (go_keep)
                (first
                  | (go_at_call 66; with_reducible refine (HQ.out _ ?_).mono ?_; (first | exact HB0.out | exact HB1.out); rintro e w3 ⟨rfl, H3, d0, d1⟩))
              clear HQ HB0 HB1
              go_wp2
              go_roundw
              case rel => exact ⟨z + 1, by omega, by simp, by rw [HSN.out], by first | exact H3.out | exact gb_none H3.out (gb_drew _ none)⟩
              case measure => simp [intOf]; omega
          · have hzi : ¬ (z : Int) < (RS.length : Int) := by omega
            have hze : z = RS.length := by omega
            subst hze
            have p1 : ByteArray.mk ⟨A ++ [123] ++ joinI RS RS.length⟩ ++ ByteArray.mk #[125] = ByteArray.mk ⟨R⟩ := by rw [HF.out]; exact mk_app2 _ [125]
            have l0 : (ByteArray.mk ⟨A ++ [123] ++ joinI RS RS.length⟩).size ≤ 20000 := by show (A ++ [123] ++ joinI RS RS.length).length ≤ 20000; simp only [List.length_append, List.length_cons, List.length_nil]; omega
            generalize ByteArray.mk ⟨A ++ [123] ++ joinI RS RS.length⟩ = s0 at *
            generalize hsR : ByteArray.mk ⟨R⟩ = sR at p1
            have HSR : Hid (ByteArray.mk ⟨R⟩ = sR) := hsR
            clear hsR
            have HE : Hid (w.grownBy wr none) := gb_none HGW.out.1 hr.out
            clear hr hjl
            go_wp2
            go_ret2
            exact ⟨by rw [HSR.out]; rfl, HE.out⟩
    · have hmf : metricB (getL ls mnB) = false := by cases h : metricB (getL ls mnB) with
        | true => exact absurd h hm
        | false => rfl
      have HA : Hid (aheadP ls = [] ∧ restP ls = ls) := ⟨if_neg hm, if_neg hm⟩
      rw [HA.out.2, if_neg (fun h => hm h.1)] at HS
      rw [hmf] at HM
      have hAe := HA.out.1
      clear HA
      generalize aheadP ls = A at HS hAe
      obtain ⟨RS, hRS⟩ : ∃ RS, RS = ls := ⟨_, rfl⟩
      subst hRS
      have hgl : A.length ≤ 256 := by rw [hAe]; simp
      have pA : ByteArray.mk #[] ++ ByteArray.mk #[123] = ByteArray.mk ⟨A ++ [123]⟩ := by rw [hAe]; exact mk_app2 [] [123]
      clear hm hmf hAe
      have HSH : Hid (fewL RS) := HFE.out
      have hRL : RS.length ≤ 16 := HSH.out.1
      have HJL : Hid (∀ z, z ≤ RS.length → (joinI RS z).length ≤ 580 * z) := joinI_len HSH.out
      have hPS := HS.out
      subst hPS
      dsimp only
      obtain ⟨R, hR⟩ : ∃ R, R = A ++ [123] ++ joinI RS RS.length ++ [125] := ⟨_, rfl⟩
      have HF : Hid (R = A ++ [123] ++ joinI RS RS.length ++ [125]) := hR
      rw [← hR]
      clear hR HS HFE
      generalize hs0 : ByteArray.mk ⟨A ++ [123]⟩ = sB at *
      have HS0 : Hid (sB = ByteArray.mk ⟨A ++ [123]⟩) := hs0.symm
      clear hs0
      generalize ByteArray.mk ⟨getL RS mnB⟩ = sG at *
      generalize a = ra at *
      generalize c = rc at *
      go_enter Tryd.func34, Tryd.ntmps34
      go_wp2_with fail
      refine HR.out.mono ?_
      rintro e w1 ⟨rfl, hg1⟩
      have H1 : Hid (w.grownBy w1 none) := hg1
      clear HR hg1
      go_wp2_with fail
      refine (HGT.out _ H1.out).mono ?_
      rintro e w3 ⟨rfl, hg3⟩
      have H3 : Hid (w.grownBy w3 none) := gb_none H1.out hg3
      clear HGT hg3 H1
      go_wp2_with fail
      refine (HM.out _).mono ?_
      rintro e w2 ⟨rfl, hg4⟩
      have HG2 : Hid (w.grownBy w2 none ∧ RdL w2 (.slice ra RS.length rc) RS) := ⟨gb_none H3.out hg4, HV.out.keep (gb_none H3.out hg4)⟩
      clear HM hg4 H3
      have HGW : Hid (w.grownBy w2 none ∧ RdL w2 (.slice ra RS.length rc) RS) := HG2.out
      clear HG2
      go_wp2
      go_loopw [8, 35] (fun us i wr => ∃ z : Nat, z ≤ RS.length ∧ i = .int .i64 z ∧ us = .string (ByteArray.mk ⟨A ++ [123] ++ joinI RS z⟩) ∧ Hid (w2.grownBy wr none)) (fun _ i _ => RS.length - (intOf i).toNat)
      case atStart => exact ⟨0, by omega, rfl, by rw [HS0.out]; simp [joinI, Lib.join_nil], gb_refl _ _⟩
      case round =>
        obtain ⟨z, hzN, rfl, rfl, hr⟩ := hrel
        have hjl := HJL.out z hzN
        by_cases hzl : z < RS.length
        · obtain ⟨a', c', he, -, hcm, h3, -⟩ := HGW.out.2.keep hr.out
          simp only [Value.slice.injEq] at he
          obtain ⟨rfl, -, rfl⟩ := he
          obtain ⟨b, o, rfl, c0, c1⟩ := h3 z hzl
          unfold maxLen at hcm
          have hzi : (z : Int) < (RS.length : Int) := by omega
          have hbl : ¬ b = wr.heap.size := by have := block_lt c0; omega
          have hbl2 : ¬ wr.heap.size = b := by omega
          have HST : Hid (joinI RS (z + 1) = (if z = 0 then [] else joinI RS z ++ [44]) ++ itemB (RS.getD z ([], []))) := joinI_step hzl
          have hsh := HSH.out.at z
          have hql := quoS_len hsh.2
          have HIT : Hid (itemB (RS.getD z ([], [])) = (RS.getD z ([], [])).1 ++ [61] ++ quoS (RS.getD z ([], [])).2) := rfl
          have HQ : Hid (∀ W, Bx w2 wr.heap.size (ByteArray.mk ⟨(RS.getD z ([], [])).1⟩) (ByteArray.mk ⟨(RS.getD z ([], [])).2⟩) W → Calls Tryd.prog 66 #[.string (ByteArray.mk ⟨(RS.getD z ([], [])).2⟩)] W fun e w' => e = .returned (.string (ByteArray.mk ⟨quoS (RS.getD z ([], [])).2⟩)) ∧ Hid (w2.grownBy w' none) ∧ w'.cell? ⟨wr.heap.size, 0, none⟩ = some (.string (ByteArray.mk ⟨(RS.getD z ([], [])).1⟩)) ∧ w'.cell? ⟨wr.heap.size, 1, none⟩ = some (.string (ByteArray.mk ⟨(RS.getD z ([], [])).2⟩))) := fun W hW => (refQuoted_any W _ (by omega)).mono fun e w' ⟨h1, h2⟩ => ⟨h1, gb_none hW.2 h2, (hW.keep h2).cells.1, (hW.keep h2).cells.2⟩
          have HB0 : Hid (Bx w2 wr.heap.size (ByteArray.mk ⟨(RS.getD z ([], [])).1⟩) (ByteArray.mk ⟨(RS.getD z ([], [])).2⟩) (wr.alloc (.cells #[.string (ByteArray.mk ⟨(RS.getD z ([], [])).1⟩), .string (ByteArray.mk ⟨(RS.getD z ([], [])).2⟩)] 56))) := ⟨Go.heap_alloc_new wr _, gb_none hr.out (World.grownBy_alloc _ _ none)⟩
          clear h3
          generalize itemB (RS.getD z ([], [])) = it at *
          generalize (RS.getD z ([], [])).1 = tn at *
          generalize (RS.getD z ([], [])).2 = tv at *
          have hsn : (ByteArray.mk ⟨tn⟩).size = tn.length := rfl
          have hsq : (ByteArray.mk ⟨quoS tv⟩).size = (quoS tv).length := rfl
          by_cases hz0 : z = 0
          · rw [if_pos hz0, List.nil_append] at HST
            have hzp : ¬ (0 : Int) < (z : Int) := by omega
            have p1 : ByteArray.mk ⟨A ++ [123] ++ joinI RS z⟩ ++ ByteArray.mk ⟨tn⟩ = ByteArray.mk ⟨A ++ [123] ++ joinI RS z ++ tn⟩ := mk_app2 _ _
            have p2 : ByteArray.mk ⟨A ++ [123] ++ joinI RS z ++ tn⟩ ++ ByteArray.mk #[61] = ByteArray.mk ⟨A ++ [123] ++ joinI RS z ++ tn ++ [61]⟩ := mk_app2 _ [61]
            have p3 : ByteArray.mk ⟨A ++ [123] ++ joinI RS z ++ tn ++ [61]⟩ ++ ByteArray.mk ⟨quoS tv⟩ = ByteArray.mk ⟨A ++ [123] ++ joinI RS (z + 1)⟩ := by rw [mk_app2, HST.out, HIT.out, hz0]; simp [joinI, Lib.join_nil]
            have l0 : (ByteArray.mk ⟨A ++ [123] ++ joinI RS z⟩).size ≤ 20000 := by show (A ++ [123] ++ joinI RS z).length ≤ 20000; simp only [List.length_append, List.length_cons, List.length_nil]; omega
            have l1 : (ByteArray.mk ⟨A ++ [123] ++ joinI RS z ++ tn⟩).size ≤ 20000 := by show (A ++ [123] ++ joinI RS z ++ tn).length ≤ 20000; simp only [List.length_append, List.length_cons, List.length_nil]; omega
            have l2 : (ByteArray.mk ⟨A ++ [123] ++ joinI RS z ++ tn ++ [61]⟩).size ≤ 20000 := by show (A ++ [123] ++ joinI RS z ++ tn ++ [61]).length ≤ 20000; simp only [List.length_append, List.length_cons, List.length_nil]; omega
            clear hz0
            generalize ByteArray.mk ⟨A ++ [123] ++ joinI RS z ++ tn ++ [61]⟩ = s2 at *
            generalize ByteArray.mk ⟨A ++ [123] ++ joinI RS z ++ tn⟩ = s1 at *
            generalize ByteArray.mk ⟨A ++ [123] ++ joinI RS z⟩ = sc at *
            generalize hsN : ByteArray.mk ⟨A ++ [123] ++ joinI RS (z + 1)⟩ = sN at *
            have HSN : Hid (ByteArray.mk ⟨A ++ [123] ++ joinI RS (z + 1)⟩ = sN) := hsN
            clear hsN
            generalize ByteArray.mk ⟨tn⟩ = sn at *
            generalize ByteArray.mk ⟨tv⟩ = sv at *
            generalize ByteArray.mk ⟨quoS tv⟩ = sq at *
            clear HST HIT hjl
            have hq1 : sq.size ≤ 514 := by omega
            have hq2 : sn.size ≤ 64 := by omega
            clear hsn hsq hsh hql
            have m1 : ¬ 9223372036854775807 < sc.size + sn.size := by omega
            have m2 : ¬ 9223372036854775807 < s1.size + 1 := by omega
            have m3 : ¬ 9223372036854775807 < s2.size + sq.size := by omega
            go_wp2_with fail
            have q0 := HB0.out.cells.1
            have q1 := HB0.out.cells.2
            have HB1 : Hid (Bx w2 wr.heap.size sn sv (wr.alloc (.cells #[.string sn, .string sv] 56)).drew) := HB0.out.keep (gb_drew _ none)
            clear c0 c1 hbl hbl2 hr
            generalize wr.alloc (.cells #[.string sn, .string sv] 56) = W1 at *
            generalize wr.heap.size = b0 at *
            go_region_held3 (fun w' => w'.cell? ⟨b0, 0, none⟩ = some (.string sn) ∧ w'.cell? ⟨b0, 1, none⟩ = some (.string sv)) (go_keep)
              (first
                | (go_at_call 66; with_reducible refine (HQ.out _ ?_).mono ?_; (first | exact HB0.out | exact HB1.out); rintro e w3 ⟨rfl, H3, d0, d1⟩))
            clear HQ HB0 HB1
            go_wp2
            go_roundw
            case rel => exact ⟨z + 1, by omega, by simp, by rw [HSN.out], by first | exact H3.out | exact gb_none H3.out (gb_drew _ none)⟩
            case measure => simp [intOf]; omega
          · rw [if_neg hz0] at HST
            have hzp : (0 : Int) < (z : Int) := by omega
            have p0 : ByteArray.mk ⟨A ++ [123] ++ joinI RS z⟩ ++ ByteArray.mk #[44] = ByteArray.mk ⟨A ++ [123] ++ joinI RS z ++ [44]⟩ := mk_app2 _ [44]
            have p1 : ByteArray.mk ⟨A ++ [123] ++ joinI RS z ++ [44]⟩ ++ ByteArray.mk ⟨tn⟩ = ByteArray.mk ⟨A ++ [123] ++ joinI RS z ++ [44] ++ tn⟩ := mk_app2 _ _
            have p2 : ByteArray.mk ⟨A ++ [123] ++ joinI RS z ++ [44] ++ tn⟩ ++ ByteArray.mk #[61] = ByteArray.mk ⟨A ++ [123] ++ joinI RS z ++ [44] ++ tn ++ [61]⟩ := mk_app2 _ [61]
            have p3 : ByteArray.mk ⟨A ++ [123] ++ joinI RS z ++ [44] ++ tn ++ [61]⟩ ++ ByteArray.mk ⟨quoS tv⟩ = ByteArray.mk ⟨A ++ [123] ++ joinI RS (z + 1)⟩ := by rw [mk_app2, HST.out, HIT.out]; simp
            have l0 : (ByteArray.mk ⟨A ++ [123] ++ joinI RS z⟩).size ≤ 20000 := by show (A ++ [123] ++ joinI RS z).length ≤ 20000; simp only [List.length_append, List.length_cons, List.length_nil]; omega
            have l0' : (ByteArray.mk ⟨A ++ [123] ++ joinI RS z ++ [44]⟩).size ≤ 20000 := by show (A ++ [123] ++ joinI RS z ++ [44]).length ≤ 20000; simp only [List.length_append, List.length_cons, List.length_nil]; omega
            have l1 : (ByteArray.mk ⟨A ++ [123] ++ joinI RS z ++ [44] ++ tn⟩).size ≤ 20000 := by show (A ++ [123] ++ joinI RS z ++ [44] ++ tn).length ≤ 20000; simp only [List.length_append, List.length_cons, List.length_nil]; omega
            have l2 : (ByteArray.mk ⟨A ++ [123] ++ joinI RS z ++ [44] ++ tn ++ [61]⟩).size ≤ 20000 := by show (A ++ [123] ++ joinI RS z ++ [44] ++ tn ++ [61]).length ≤ 20000; simp only [List.length_append, List.length_cons, List.length_nil]; omega
            generalize ByteArray.mk ⟨A ++ [123] ++ joinI RS z ++ [44] ++ tn ++ [61]⟩ = s2 at *
            generalize ByteArray.mk ⟨A ++ [123] ++ joinI RS z ++ [44] ++ tn⟩ = s1 at *
            generalize ByteArray.mk ⟨A ++ [123] ++ joinI RS z ++ [44]⟩ = sc at *
            generalize ByteArray.mk ⟨A ++ [123] ++ joinI RS z⟩ = s0 at *
            generalize hsN : ByteArray.mk ⟨A ++ [123] ++ joinI RS (z + 1)⟩ = sN at *
            have HSN : Hid (ByteArray.mk ⟨A ++ [123] ++ joinI RS (z + 1)⟩ = sN) := hsN
            clear hsN
            generalize ByteArray.mk ⟨tn⟩ = sn at *
            generalize ByteArray.mk ⟨tv⟩ = sv at *
            generalize ByteArray.mk ⟨quoS tv⟩ = sq at *
            clear HST HIT hjl
            have hq1 : sq.size ≤ 514 := by omega
            have hq2 : sn.size ≤ 64 := by omega
            clear hsn hsq hsh hql
            have m1 : ¬ 9223372036854775807 < sc.size + sn.size := by omega
            have m2 : ¬ 9223372036854775807 < s1.size + 1 := by omega
            have m3 : ¬ 9223372036854775807 < s2.size + sq.size := by omega
            go_wp2_with fail
            have q0 := HB0.out.cells.1
            have q1 := HB0.out.cells.2
            have HB1 : Hid (Bx w2 wr.heap.size sn sv (wr.alloc (.cells #[.string sn, .string sv] 56)).drew) := HB0.out.keep (gb_drew _ none)
            clear c0 c1 hbl hbl2 hr
            generalize wr.alloc (.cells #[.string sn, .string sv] 56) = W1 at *
            generalize wr.heap.size = b0 at *
            go_region_held3 (fun w' => w'.cell? ⟨b0, 0, none⟩ = some (.string sn) ∧ w'.cell? ⟨b0, 1, none⟩ = some (.string sv)) (go_keep)
              (first
                | (go_at_call 66; with_reducible refine (HQ.out _ ?_).mono ?_; (first | exact HB0.out | exact HB1.out); rintro e w3 ⟨rfl, H3, d0, d1⟩))
            clear HQ HB0 HB1
            go_wp2
            go_roundw
            case rel => exact ⟨z + 1, by omega, by simp, by rw [HSN.out], by first | exact H3.out | exact gb_none H3.out (gb_drew _ none)⟩
            case measure => simp [intOf]; omega
        · have hzi : ¬ (z : Int) < (RS.length : Int) := by omega
          have hze : z = RS.length := by omega
          subst hze
          have p1 : ByteArray.mk ⟨A ++ [123] ++ joinI RS RS.length⟩ ++ ByteArray.mk #[125] = ByteArray.mk ⟨R⟩ := by rw [HF.out]; exact mk_app2 _ [125]
          have l0 : (ByteArray.mk ⟨A ++ [123] ++ joinI RS RS.length⟩).size ≤ 20000 := by show (A ++ [123] ++ joinI RS RS.length).length ≤ 20000; simp only [List.length_append, List.length_cons, List.length_nil]; omega
          generalize ByteArray.mk ⟨A ++ [123] ++ joinI RS RS.length⟩ = s0 at *
          generalize hsR : ByteArray.mk ⟨R⟩ = sR at p1
          have HSR : Hid (ByteArray.mk ⟨R⟩ = sR) := hsR
          clear hsR
          have HE : Hid (w.grownBy wr none) := gb_none HGW.out.1 hr.out
          clear hr hjl
          go_wp2
          go_ret2
          exact ⟨by rw [HSR.out]; rfl, HE.out⟩
  · rw [if_pos hr1] at HS
    have hPS := HS.out
    subst hPS
    dsimp only
    have hrb : ((rightS ls).1 == 0) = false := by rw [beq_eq_false_iff_ne]; exact hr1
    generalize (rightS ls).1 = re at *
    generalize (rightS ls).2 = ri at *
    go_enter Tryd.func34, Tryd.ntmps34
    go_wp2_with fail
    refine HR.out.mono ?_
    rintro e w1 ⟨rfl, hg1⟩
    have H1 : Hid (w.grownBy w1 none) := hg1
    clear HR hg1
    go_wp2
    go_ret2
    exact ⟨rfl, H1.out⟩
end Go.Proofs.YtkcgikgihbglnaaDoor
