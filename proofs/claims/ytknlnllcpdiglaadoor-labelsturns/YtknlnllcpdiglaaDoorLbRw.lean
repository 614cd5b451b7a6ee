/-
  A label set with another label, by the document: the walk.
-/
import Derived.Test.YtknlnllcpdiglaaDoorLbWi
import Derived.Test.YtknlnllcpdiglaaDoorLbRs
namespace Go.Proofs.YtknlnllcpdiglaaDoor
open Go.RowKit

set_option maxRecDepth 8000 in
set_option maxHeartbeats 6400000 in
theorem refWith_any (w : World) (v : Value) (ls : List LbT) (nm val : List UInt8) (hv : RdL w v ls) (hl : LbIn ls) (hll : ls.length ≤ 4398046511104) (hnm : nm.length ≤ 1000000000000000000) (hval : val.length ≤ 1000000000000000000) :
    Calls Tryd.prog 25 #[v, .string (ByteArray.mk ⟨nm⟩), .string (ByteArray.mk ⟨val⟩)] w fun e w' => ∃ v', e = .returned (.tuple #[v', .int .i64 (withS ls nm val).2]) ∧ OwnL w' w.heap.size v' (withS ls nm val).1 ∧ w.grownBy w' none := by
  have HR : Hid (Calls Tryd.prog 11 #[v] w fun e w' => e = .returned (.tuple #[.int .i64 (rightS ls).1, .int .i64 ((rightS ls).2 : Int)]) ∧ w.grownBy w' none) := refRight_any w v ls hv hl
  have HN : Hid (∀ W, Calls Tryd.prog 13 #[.string (ByteArray.mk ⟨nm⟩)] W fun e w' => e = .returned (.bool (nameB nm)) ∧ W.grownBy w' none) := fun W => refName_any W nm hnm
  have HP : Hid (∀ W, w.grownBy W none → Calls Tryd.prog 55 #[v, .slice (some ⟨W.heap.size, 0, none⟩) 1 1, .bool false] (W.alloc (.cells #[.string (ByteArray.mk ⟨nm⟩)] 9)) fun e w' => ∃ v', e = .returned v' ∧ Hid (OwnL w' w.heap.size v' (pickL (p_Without [nm]) ls) ∧ w.grownBy w' none)) := fun W hW => by
    have hW2 := gb_none hW (World.grownBy_alloc W (.cells #[.string (ByteArray.mk ⟨nm⟩)] 9) none)
    have h := refPick_any _ v _ false ls [nm] (hv.keep hW2) hll (one_name W nm)
    rw [p_In_false] at h
    exact h.mono fun e w' ⟨v', h1, h2, h3⟩ => ⟨v', h1, h2.mono hW2.size, gb_none hW2 h3⟩
  have HO : Hid (nameB nm = true → val ≠ [] → ∀ W, Calls Tryd.prog 42 #[.agg #[.string (ByteArray.mk ⟨nm⟩), .string (ByteArray.mk ⟨val⟩)]] W fun e w' => e = .returned (.int .i64 (valueE val)) ∧ W.grownBy w' none) := fun h1 h2 W => by
    rw [← one_value h1 h2]
    exact refOne_any W nm val hnm hval
  have HSO : Hid ((rightS ls).1 = 0 → ∀ W u, RdL W u (pickL (p_Without [nm]) ls ++ [(nm, val)]) → Calls Tryd.prog 50 #[u] W fun e w' => ∃ v', e = .returned v' ∧ OwnL w' W.heap.size v' (sortN (pickL (p_Without [nm]) ls ++ [(nm, val)])) ∧ W.grownBy w' none) := fun h W u hu => (refSorted_any W u _ hu (by have := pick_len (p_Without [nm]) ls; have := (right_ris h).1; simp; omega)).mono fun e w' ⟨v', P, h1, h2, h3, h4, h5⟩ => ⟨v', h1, by
    have hnd : ndN (pickL (p_Without [nm]) ls ++ [(nm, val)]) := by
      refine List.pairwise_append.2 ⟨(ris_nd (right_ris h).2).filter _, by simp, fun x hx y hy => ?_⟩
      have hy : y = (nm, val) := by simpa using hy
      subst hy
      have := (List.mem_filter.1 hx).2
      rw [pW_one] at this
      simpa using this
    rw [← sort_uniq h3 h4 hnd]
    exact h2, h5⟩
  have HS : Hid (withS ls nm val = if (rightS ls).1 ≠ 0 then ([], (rightS ls).1) else if nameB nm = false then ([], 40) else if val = [] then (pickL (p_Without [nm]) ls, 0) else if valueE val ≠ 0 then ([], valueE val) else if 16 < (sortN (pickL (p_Without [nm]) ls ++ [(nm, val)])).length then ([], 8) else (sortN (pickL (p_Without [nm]) ls ++ [(nm, val)]), 0)) := rfl
  have hPl : (rightS ls).1 = 0 → (pickL (p_Without [nm]) ls).length ≤ 16 := fun h => Nat.le_trans (pick_len _ _) (right_ris h).1
  obtain ⟨a, c, rfl, hc1, hc2, -, hc4⟩ := hv
  unfold maxLen at hc2
  clear hl
  generalize withS ls nm val = R at *
  generalize (rightS ls).1 = r1 at *
  generalize (rightS ls).2 = r2 at *
  generalize valueE val = vE at *
  generalize pickL (p_Without [nm]) ls = PK at *
  by_cases hr1 : r1 = 0
  · subst hr1
    rw [if_neg (by simp)] at HS
    have hPl := hPl rfl
    generalize hbn : nameB nm = bn at *
    cases bn with
    | false =>
      rw [if_pos rfl] at HS
      have hR := HS.out
      subst hR
      dsimp only
      generalize ByteArray.mk ⟨nm⟩ = sn at *
      generalize ByteArray.mk ⟨val⟩ = sv at *
      go_enter Tryd.func25, Tryd.ntmps25
      go_wp2_with fail
      refine HR.out.mono ?_
      rintro e w1 ⟨rfl, hg1⟩
      have H1 : Hid (w.grownBy w1 none) := hg1
      clear HR hg1
      go_wp2_with fail
      refine (HN.out _).mono ?_
      rintro e w2 ⟨rfl, hg2⟩
      have H2 : Hid (w.grownBy w2 none) := gb_none H1.out hg2
      clear HN hg2 H1
      go_wp2
      go_ret2
      exact ⟨_, rfl, OwnL.nil _ _, H2.out⟩
    | true =>
      rw [if_neg (by simp)] at HS
      by_cases hv0 : val = []
      · subst hv0
        rw [if_pos rfl] at HS
        have hR := HS.out
        subst hR
        dsimp only
        generalize ByteArray.mk ⟨nm⟩ = sn at *
        go_enter Tryd.func25, Tryd.ntmps25
        go_wp2_with fail
        refine HR.out.mono ?_
        rintro e w1 ⟨rfl, hg1⟩
        have H1 : Hid (w.grownBy w1 none) := hg1
        clear HR hg1
        go_wp2_with fail
        refine (HN.out _).mono ?_
        rintro e w2 ⟨rfl, hg2⟩
        have H2 : Hid (w.grownBy w2 none) := gb_none H1.out hg2
        clear HN hg2 H1
        go_wp2_with fail
        refine (HP.out _ H2.out).mono ?_
        rintro e w3 ⟨v3, rfl, H3⟩
        clear HP H2
        go_wp2
        go_ret2
        exact ⟨_, rfl, H3.out⟩
      · rw [if_neg hv0] at HS
        obtain ⟨e1, e2, e3⟩ := empty_facts hv0
        have HO2 : Hid (∀ W, w.grownBy W none → W.heap[W.heap.size - 1]? = some (.cells #[.string (ByteArray.mk ⟨nm⟩), .string (ByteArray.mk ⟨val⟩)] 56 (0, 0)) → Calls Tryd.prog 42 #[.agg #[.string (ByteArray.mk ⟨nm⟩), .string (ByteArray.mk ⟨val⟩)]] W fun e w' => e = .returned (.int .i64 vE) ∧ (w'.cell? ⟨W.heap.size - 1, 0, none⟩ = some (.string (ByteArray.mk ⟨nm⟩)) ∧ w'.cell? ⟨W.heap.size - 1, 1, none⟩ = some (.string (ByteArray.mk ⟨val⟩))) ∧ Hid (W.grownBy w' none)) := fun W hW hb => (HO.out (by first | rfl | trivial) hv0 W).mono fun e w' ⟨h1, h2⟩ => by
          have hb' := (h2.block (W.heap.size - 1) (Array.getElem?_eq_some_iff.1 hb).1 (by simp)).trans hb
          exact ⟨h1, ⟨by rw [World.cell?, hb']; rfl, by rw [World.cell?, hb']; rfl⟩, h2⟩
        clear HO
        by_cases hvE : vE = 0
        · subst hvE
          rw [if_neg (by simp)] at HS
          obtain ⟨i0, hi, hz0, hz1, hz2⟩ := info_parts infoLb
          have HI : Hid (Tryd.prog.info? 56 = some i0 ∧ i0.zero = some (.agg #[.string ⟨#[]⟩, .string ⟨#[]⟩]) ∧ i0.size = 2 ∧ i0.bytes = 32) := ⟨hi, hz0, hz1, hz2⟩
          clear hi hz0 hz1 hz2
          generalize hsn : ByteArray.mk ⟨nm⟩ = sn at *
          generalize hsv : ByteArray.mk ⟨val⟩ = sv at *
          have HSN : Hid (ByteArray.mk ⟨nm⟩ = sn ∧ ByteArray.mk ⟨val⟩ = sv) := ⟨hsn, hsv⟩
          clear hsn hsv
          go_enter Tryd.func25, Tryd.ntmps25
          go_wp2_with fail
          refine HR.out.mono ?_
          rintro e w1 ⟨rfl, hg1⟩
          have H1 : Hid (w.grownBy w1 none) := hg1
          clear HR hg1
          go_wp2_with fail
          refine (HN.out _).mono ?_
          rintro e w2 ⟨rfl, hg2⟩
          have H2 : Hid (w.grownBy w2 none) := gb_none H1.out hg2
          clear HN hg2 H1
          go_wp2_with fail
          refine (HP.out _ H2.out).mono ?_
          rintro e w3 ⟨v3, rfl, H3⟩
          clear HP H2
          go_wp2_with fail
          have hb0 := Go.heap_alloc_new w3 (.cells #[.string sn, .string sv] 56)
          refine (HO2.out _ (gb_none H3.out.2 (World.grownBy_alloc _ _ none)) (by rw [World.size_alloc, Nat.add_sub_cancel]; exact hb0)).mono ?_
          rintro e w4 ⟨rfl, ⟨d0, d1⟩, hg4⟩
          rw [World.size_alloc, Nat.add_sub_cancel] at d0 d1
          have H4 : Hid (OwnL w4 w.heap.size v3 PK ∧ w.grownBy w4 none) := ⟨(H3.out.1.keep (World.grownBy_alloc _ _ none)).keep hg4.out, gb_none H3.out.2 (gb_none (World.grownBy_alloc _ _ none) hg4.out)⟩
          clear HO2 hb0 hg4 H3
          go_wp2_with (at_builtin; refine wp_appH rfl _ _ 22 56 rfl i0 _ 2 32 w.heap.size Tryd.underlying22 HI.out.1 HI.out.2.1 HI.out.2.2.1 HI.out.2.2.2 rfl (by decide) _ PK.length (lbf PK) (some ⟨w4.heap.size, 0, none⟩) 1 1 [.string sn, .string sv] rfl rfl (World.ownsRow.alloc H4.out.1 _) rfl (box_rdc w4 _ _) (fun h => by cases h) (two_one _ _) (by omega) (by omega) (by have := H4.out.2.size; simp; omega) ?_)
          intro v5 w5 ho5 hf5
          have H5 : Hid (OwnL w5 w.heap.size v5 (PK ++ [(nm, val)]) ∧ w.grownBy w5 none) := by
            refine ⟨?_, gb_new H4.out.2 (gb_trans (gb_any (World.grownBy_alloc w4 (.cells #[.string sn, .string sv] 56) none) _) hf5.1 (fun k hk _ => hk.symm)) (fun k hk => (H4.out.1.lt k hk).1)⟩
            refine OwnL.snoc ?_
            rw [HSN.out.1, HSN.out.2]
            exact ho5
          clear ho5 hf5 H4 d0 d1
          go_wp2_with fail
          refine (HSO.out (by first | rfl | trivial) _ _ H5.out.1.rd).mono ?_
          rintro e w6 ⟨v6, rfl, ho6, hg6⟩
          have H6 : Hid (OwnL w6 w.heap.size v6 (sortN (PK ++ [(nm, val)])) ∧ w.grownBy w6 none) := ⟨ho6.mono H5.out.2.size, gb_none H5.out.2 hg6⟩
          clear HSO ho6 hg6 H5
          obtain ⟨va, vc, rfl⟩ := H6.out.1.shape
          by_cases h17 : 16 < (sortN (PK ++ [(nm, val)])).length
          · rw [if_pos h17] at HS
            have hR := HS.out
            subst hR
            dsimp only
            have h17i : (16 : Int) < ((sortN (PK ++ [(nm, val)])).length : Int) := by omega
            go_wp2
            go_ret2
            exact ⟨_, rfl, OwnL.nil _ _, H6.out.2⟩
          · rw [if_neg h17] at HS
            have hR := HS.out
            subst hR
            dsimp only
            have h17i : ¬ (16 : Int) < ((sortN (PK ++ [(nm, val)])).length : Int) := by omega
            go_wp2
            go_ret2
            exact ⟨_, rfl, H6.out⟩
        · rw [if_pos hvE] at HS
          have hR := HS.out
          subst hR
          dsimp only
          have hvb : (vE == 0) = false := by rw [beq_eq_false_iff_ne]; exact hvE
          generalize ByteArray.mk ⟨nm⟩ = sn at *
          generalize ByteArray.mk ⟨val⟩ = sv at *
          go_enter Tryd.func25, Tryd.ntmps25
          go_wp2_with fail
          refine HR.out.mono ?_
          rintro e w1 ⟨rfl, hg1⟩
          have H1 : Hid (w.grownBy w1 none) := hg1
          clear HR hg1
          go_wp2_with fail
          refine (HN.out _).mono ?_
          rintro e w2 ⟨rfl, hg2⟩
          have H2 : Hid (w.grownBy w2 none) := gb_none H1.out hg2
          clear HN hg2 H1
          go_wp2_with fail
          refine (HP.out _ H2.out).mono ?_
          rintro e w3 ⟨v3, rfl, H3⟩
          clear HP H2
          go_wp2_with fail
          have hb0 := Go.heap_alloc_new w3 (.cells #[.string sn, .string sv] 56)
          refine (HO2.out _ (gb_none H3.out.2 (World.grownBy_alloc _ _ none)) (by rw [World.size_alloc, Nat.add_sub_cancel]; exact hb0)).mono ?_
          rintro e w4 ⟨rfl, -, hg4⟩
          have H4 : Hid (w.grownBy w4 none) := gb_none H3.out.2 (gb_none (World.grownBy_alloc _ _ none) hg4.out)
          clear HO2 hb0 hg4 H3
          go_wp2
          go_ret2
          exact ⟨_, rfl, OwnL.nil _ _, H4.out⟩
  · rw [if_pos hr1] at HS
    have hR := HS.out
    subst hR
    dsimp only
    have hrb : (r1 == 0) = false := by rw [beq_eq_false_iff_ne]; exact hr1
    go_enter Tryd.func25, Tryd.ntmps25
    go_wp2_with fail
    refine HR.out.mono ?_
    rintro e w1 ⟨rfl, hg1⟩
    have H1 : Hid (w.grownBy w1 none) := hg1
    clear HR hg1
    go_wp2
    go_ret2
    exact ⟨_, rfl, OwnL.nil _ _, H1.out⟩
end Go.Proofs.YtknlnllcpdiglaaDoor
