/-
  The document's ReadInt: the walk.
-/
import Derived.Test.YtgbpnkamamafjabDoorBitsT3
namespace Go.Proofs.YtgbpnkamamafjabDoor
open Go.RowKit

set_option maxRecDepth 4000 in
set_option maxHeartbeats 12800000 in
theorem sint_any (g : Nat) (v : Value) (l : List Bool) (p : Nat) (w : World) (h : St w g v l p) (hp : p ≤ l.length) (hs : l.length ≤ 8388608) :
    Calls Tryd.prog 32 #[.pointer (some ⟨g, 0, none⟩)] w fun e w' => e = .returned (.tuple #[.int .i64 (riL l p).1, .int .i64 (riL l p).2.1]) ∧ St w' g v l (riL l p).2.2 ∧ w.grownBy w' (some g) := by
  have HH : Hid (St w g v l p) := h
  have hc := h.cells
  have c0 := hc.1
  have c1 := hc.2.1
  obtain ⟨a, c, hv⟩ := h.2.shape
  subst hv
  generalize hRI : riL l p = RI
  have HRI : Hid (riL l p = RI) := hRI
  clear hRI
  generalize hR0 : rowL l p 8 0 = R
  have HR0 : Hid (rowL l p 8 0 = R) := hR0
  have HN : Hid (R = rowL l p (8 - 0) 0) := hR0.symm
  clear hR0
  have hp2 : (p : Int) ≤ 8388608 := by omega
  have hl2 : (l.length : Int) ≤ 8388608 := by omega
  have HPL : Hid (p ≤ l.length ∧ l.length ≤ 8388608) := ⟨hp, hs⟩
  have hcells : Hid (∀ j, j < l.length → ∃ gb, a = some ⟨gb, 0, none⟩ ∧ w.cell? ⟨gb, j, none⟩ = some (.bool (l.getD j false))) := fun j hj => by
    obtain ⟨gb, cap, hv, -, hcc⟩ := h.2.cellT (by rintro rfl; simp at hj)
    simp only [Value.slice.injEq, true_and] at hv
    exact ⟨gb, hv.1, hcc j hj⟩
  clear hc h hp hs
  go_enter Tryd.func32, Tryd.ntmps32
  go_wp2
  go_loopw [4, 5] (fun i j wr => ∃ r : Nat, r ≤ 8 ∧ i = .int .i64 (r : Int) ∧ j = .int .i64 ((p : Int) + (r : Int)) ∧ wr = w ∧ Hid (R = rowL l p (8 - r) r ∧ p + r ≤ l.length)) (fun i _ _ => 8 - (intOf i).toNat)
  case atStart => exact ⟨0, by omega, rfl, by simp, rfl, HN.out, by have := HPL.out.1; omega⟩
  case round =>
    obtain ⟨r, hr, rfl, rfl, rfl, hR⟩ := hrel
    clear HN
    by_cases h8 : r < 8
    · have hst := rowL_step l p r h8
      rw [← hR.out.1] at hst
      by_cases hps : p + r = l.length
      · rw [if_pos hps] at hst
        subst hst
        have e : RI = (0, 9, p) := by rw [← HRI.out]; unfold riL; rw [HR0.out]
        subst e
        have hge : (l.length : Int) ≤ (p : Int) + (r : Int) := by omega
        have hnl : ¬ (p : Int) + (r : Int) < (l.length : Int) := by omega
        have HF : Hid (wr.grownBy wr (some g)) := gb_refl _ _
        clear HRI HR0 hR hps
        go_wp2
        go_ret2
        exact ⟨rfl, HH.out, HF.out⟩
      · rw [if_neg hps] at hst
        have hlt : p + r < l.length := by have := hR.out.2; omega
        obtain ⟨gb, rfl, hcb⟩ := hcells.out (p + r) hlt
        have hlt2 : (p : Int) + (r : Int) < (l.length : Int) := by omega
        have hge : ¬ (l.length : Int) ≤ (p : Int) + (r : Int) := by omega
        cases hbit : l.getD (p + r) false with
        | true =>
          rw [hbit] at hcb
          rw [hbit, if_pos rfl] at hst
          have H2 : Hid (R = rowL l p (8 - (r + 1)) (r + 1) ∧ p + (r + 1) ≤ l.length) := ⟨hst, by omega⟩
          clear hst hbit hR hps hlt
          go_wp2
          go_roundw
          case rel => exact ⟨r + 1, by omega, by go_num, (by first | rfl | (congr 1; omega) | go_num | (congr 1)), trivial, H2⟩
          case measure => simp [intOf]; omega
        | false =>
          rw [hbit] at hcb
          rw [hbit, if_neg (by simp)] at hst
          subst hst
          have hhb : hb r = r + 1 := if_pos h8
          have e : RI = if l.length - p < hb r + wd r then (0, 9, p) else if rowN (numN (natOf (bitsAt l (p + hb r) (wd r))) (wd r)) < r then (0, 3, p) else (numN (natOf (bitsAt l (p + hb r) (wd r))) (wd r), 0, p + (hb r + wd r)) := by
            rw [← HRI.out]
            unfold riL
            rw [HR0.out]
          have HE : Hid (RI = if l.length - p < hb r + wd r then (0, 9, p) else if rowN (numN (natOf (bitsAt l (p + hb r) (wd r))) (wd r)) < r then (0, 3, p) else (numN (natOf (bitsAt l (p + hb r) (wd r))) (wd r), 0, p + (hb r + wd r))) := e
          have hwl := wd_le r
          have HAt : Hid (((p : Int) + (r : Int) + 1) = ((p + hb r : Nat) : Int) ∧ p + hb r ≤ l.length) := ⟨by rw [hhb]; omega, by rw [hhb]; have := hR.out.2; omega⟩
          have HWd : Hid (∀ w', Calls Tryd.prog 42 #[.int .i64 (r : Int)] w' fun e w'' => e = .returned (.int .i64 (wd r : Int)) ∧ w'.grownBy w'' none) := fun w' => width_any r w' (by omega)
          have HSa : Hid (0 < r → ∀ w', Calls Tryd.prog 45 #[.int .u64 (I64 (BitVec.ofNat 64 (natOf (bitsAt l (p + hb r) (wd r))))), .int .i64 (wd r : Int)] w' fun e w'' => e = .returned (.int .i64 (numN (natOf (bitsAt l (p + hb r) (wd r))) (wd r))) ∧ w'' = w') := fun h0 w' => says_any _ r h0 (by omega) (by have := natOf_lt (bitsAt l (p + hb r) (wd r)); rw [bitsAt_len] at this; exact this) w'
          have HLe : Hid (rowN (numN (natOf (bitsAt l (p + hb r) (wd r))) (wd r)) ≤ r) := num_row (by omega) (by have := natOf_lt (bitsAt l (p + hb r) (wd r)); rw [bitsAt_len] at this; exact this)
          have HZ0 : Hid (r = 0 → numN (natOf (bitsAt l (p + hb r) (wd r))) (wd r) = 0) := fun h0 => by
            rw [h0]
            have hw0 : wd 0 = 0 := rfl
            rw [hw0]
            have : bitsAt l (p + hb 0) 0 = [] := by simp [bitsAt]
            rw [this]
            unfold numN
            rw [if_neg (by decide), if_pos (Or.inl rfl)]
            rfl
          have HRB : Hid (∀ gt w', St w' gt (.slice (some ⟨gb, 0, none⟩) l.length c) l (p + hb r) → p + hb r + wd r ≤ l.length → Calls Tryd.prog 31 #[.pointer (some ⟨gt, 0, none⟩), .int .i64 (wd r : Int)] w' fun e w'' => e = .returned (.tuple #[.int .u64 (I64 (BitVec.ofNat 64 (natOf (bitsAt l (p + hb r) (wd r))))), .int .i64 0]) ∧ St w'' gt (.slice (some ⟨gb, 0, none⟩) l.length c) l (p + hb r + wd r) ∧ w'.grownBy w'' (some gt)) := fun gt w' hs' hle => by
            have hc := sbits_any gt _ l (p + hb r) (wd r : Int) w' hs' (by omega) HPL.out.2
            have e1 : rCode (wd r : Int) (l.length - (p + hb r)) = 0 := by unfold rCode; rw [if_neg (by unfold rBad; omega), Int.toNat_natCast, if_neg (by omega)]
            have e2 : lVal l (p + hb r) (wd r : Int) (l.length - (p + hb r)) = natOf (bitsAt l (p + hb r) (wd r)) := by unfold lVal; rw [if_pos e1, Int.toNat_natCast]
            have e3 : rAt (p + hb r) (wd r : Int) (l.length - (p + hb r)) = p + hb r + wd r := by unfold rAt; rw [if_pos e1, Int.toNat_natCast]
            rw [e1, e2, e3] at hc
            exact hc
          have hK0 : (wd r : Int) ≤ 64 := by omega
          have hA2 : ((p + hb r : Nat) : Int) ≤ (l.length : Int) := by have := HAt.out.2; omega
          have HBK : Hid (l.length - p < hb r + wd r ↔ (l.length : Int) - ((p + hb r : Nat) : Int) < (wd r : Int)) := by
            have := HAt.out.2
            show _ ↔ _
            omega
          have HPA : Hid (p + (hb r + wd r) = p + hb r + wd r) := by show p + (hb r + wd r) = p + hb r + wd r; omega
          clear hbit hR hps hcells HRI HR0 hhb e hwl hlt
          generalize natOf (bitsAt l (p + hb r) (wd r)) = NV at *
          generalize hNN : numN NV (wd r) = NN at *
          clear hNN
          generalize wd r = K at *
          generalize p + hb r = A at *
          generalize hb r + K = BK at *
          by_cases hsh : (l.length : Int) - (A : Int) < (K : Int)
          · have e1 : RI = (0, 9, p) := by rw [HE.out, if_pos (HBK.out.2 hsh)]
            subst e1
            go_wp2_with fail
            refine (HWd.out _).mono ?_
            rintro e w1 ⟨rfl, hg1⟩
            have H1 : Hid (St w1 g (.slice (some ⟨gb, 0, none⟩) l.length c) l p ∧ wr.grownBy w1 (some g)) := ⟨HH.out.keep hg1, gb_any hg1 _⟩
            have d0 := H1.out.1.cells.1
            clear hg1
            rw [HAt.out.1]
            go_wp2
            go_ret2
            exact ⟨rfl, H1.out.1, H1.out.2⟩
          · have hnlt : ¬ l.length - p < BK := fun hh => hsh (HBK.out.1 hh)
            rw [if_neg hnlt] at HE
            have hAK : A + K ≤ l.length := by omega
            have HAK : Hid (A + K ≤ l.length) := hAK
            clear hAK hnlt
            go_wp2_with fail
            refine (HWd.out _).mono ?_
            rintro e w1 ⟨rfl, hg1⟩
            have H1 : Hid (St w1 g (.slice (some ⟨gb, 0, none⟩) l.length c) l p ∧ wr.grownBy w1 none) := ⟨HH.out.keep hg1, hg1⟩
            have d0 := H1.out.1.cells.1
            clear hg1
            rw [HAt.out.1]
            have H2 : Hid (St (w1.alloc (.cells #[.slice (some ⟨gb, 0, none⟩) l.length c, .int .i64 (A : Int)] 28)) w1.heap.size (.slice (some ⟨gb, 0, none⟩) l.length c) l A ∧ St (w1.alloc (.cells #[.slice (some ⟨gb, 0, none⟩) l.length c, .int .i64 (A : Int)] 28)) g (.slice (some ⟨gb, 0, none⟩) l.length c) l p ∧ wr.grownBy (w1.alloc (.cells #[.slice (some ⟨gb, 0, none⟩) l.length c, .int .i64 (A : Int)] 28)) none ∧ g ≠ w1.heap.size ∧ wr.heap.size ≤ w1.heap.size) :=
              ⟨⟨Go.heap_alloc_new w1 _, H1.out.1.2.keep (alloc_gb _ _)⟩, H1.out.1.keep (alloc_gb _ _), gb_none H1.out.2 (alloc_gb _ _), by have := H1.out.1.cells.2.2.2; omega, H1.out.2.size⟩
            go_wp2_with fail
            refine (HRB.out _ _ H2.out.1 HAK.out).mono ?_
            rintro e w2 ⟨rfl, hs2, hg2⟩
            have H3 : Hid (St w2 w1.heap.size (.slice (some ⟨gb, 0, none⟩) l.length c) l (A + K) ∧ St w2 g (.slice (some ⟨gb, 0, none⟩) l.length c) l p ∧ wr.grownBy w2 none ∧ g ≠ w1.heap.size) := ⟨hs2, H2.out.2.1.keptS H2.out.1 H2.out.2.2.2.1 hg2, gb_new H2.out.2.2.1 hg2 (fun k hk => by cases hk; exact H2.out.2.2.2.2), H2.out.2.2.2.1⟩
            clear hs2 hg2 H2 d0 H1
            by_cases hr0 : r = 0
            · have hr1 : ¬ (0 : Int) < (r : Int) := by omega
              have hn0 := HZ0.out hr0
              subst hn0
              clear hr0
              go_wp2_with fail
              refine (row_any (0 : Int) _).mono ?_
              rintro e w4 ⟨rfl, hg4⟩
              have H4 : Hid (St w4 w1.heap.size (.slice (some ⟨gb, 0, none⟩) l.length c) l (A + K) ∧ St w4 g (.slice (some ⟨gb, 0, none⟩) l.length c) l p ∧ wr.grownBy w4 none) := ⟨H3.out.1.keep hg4, H3.out.2.1.keep hg4, gb_none H3.out.2.2.1 hg4⟩
              clear hg4 H3
              by_cases hro : rowN (0 : Int) < r
              · have e1 : RI = (0, 3, p) := by rw [HE.out, if_pos hro]
                subst e1
                have hne : ((rowN (0 : Int) : Int) == (r : Int)) = false := by simp; omega
                have hne2 : ((rowN (0 : Int) : Int) != (r : Int)) = true := by simp; omega
                have HF : Hid (wr.grownBy w4 (some g)) := gb_any H4.out.2.2 _
                clear hro
                generalize rowN (0 : Int) = RN at *
                go_wp2
                go_ret2
                exact ⟨rfl, H4.out.2.1, HF.out⟩
              · have e1 : RI = ((0 : Int), 0, p + BK) := by rw [HE.out, if_neg hro]
                subst e1
                have heq : (rowN (0 : Int) : Int) = (r : Int) := by have := HLe.out; omega
                rw [heq]
                have t1 : w4.cell? ⟨w1.heap.size, 1, none⟩ = some (.int .i64 ((A + K : Nat) : Int)) := H4.out.1.cells.2.1
                have s1 := H4.out.2.1.cells.2.1
                have f1 := H4.out.2.1.frz
                have hM := H4.out.2.1.move (A + K)
                have H5 : Hid (St (w4.setCell ⟨g, 1, none⟩ (.int .i64 ((A + K : Nat) : Int))) g (.slice (some ⟨gb, 0, none⟩) l.length c) l (p + BK) ∧ wr.grownBy (w4.setCell ⟨g, 1, none⟩ (.int .i64 ((A + K : Nat) : Int))) (some g)) := ⟨by rw [HPA.out]; exact hM, gb_some H4.out.2.2 (gb_set _ _ _ _)⟩
                clear hM hro
                generalize ((A + K : Nat) : Int) = AKI at *
                go_wp2
                go_ret2
                exact ⟨rfl, H5.out.1, H5.out.2⟩
            · have hr1 : (0 : Int) < (r : Int) := by omega
              go_wp2_with fail
              refine (HSa.out (by omega) _).mono ?_
              rintro e w3 ⟨rfl, rfl⟩
              go_wp2_with fail
              refine (row_any NN _).mono ?_
              rintro e w4 ⟨rfl, hg4⟩
              have H4 : Hid (St w4 w1.heap.size (.slice (some ⟨gb, 0, none⟩) l.length c) l (A + K) ∧ St w4 g (.slice (some ⟨gb, 0, none⟩) l.length c) l p ∧ wr.grownBy w4 none) := ⟨H3.out.1.keep hg4, H3.out.2.1.keep hg4, gb_none H3.out.2.2.1 hg4⟩
              clear hg4 H3
              by_cases hro : rowN NN < r
              · have e1 : RI = (0, 3, p) := by rw [HE.out, if_pos hro]
                subst e1
                have hne : ((rowN NN : Int) == (r : Int)) = false := by simp; omega
                have hne2 : ((rowN NN : Int) != (r : Int)) = true := by simp; omega
                have HF : Hid (wr.grownBy w4 (some g)) := gb_any H4.out.2.2 _
                clear hro
                generalize rowN NN = RN at *
                go_wp2
                go_ret2
                exact ⟨rfl, H4.out.2.1, HF.out⟩
              · have e1 : RI = (NN, 0, p + BK) := by rw [HE.out, if_neg hro]
                subst e1
                have heq : (rowN NN : Int) = (r : Int) := by have := HLe.out; omega
                rw [heq]
                have t1 : w4.cell? ⟨w1.heap.size, 1, none⟩ = some (.int .i64 ((A + K : Nat) : Int)) := H4.out.1.cells.2.1
                have s1 := H4.out.2.1.cells.2.1
                have f1 := H4.out.2.1.frz
                have hM := H4.out.2.1.move (A + K)
                have H5 : Hid (St (w4.setCell ⟨g, 1, none⟩ (.int .i64 ((A + K : Nat) : Int))) g (.slice (some ⟨gb, 0, none⟩) l.length c) l (p + BK) ∧ wr.grownBy (w4.setCell ⟨g, 1, none⟩ (.int .i64 ((A + K : Nat) : Int))) (some g)) := ⟨by rw [HPA.out]; exact hM, gb_some H4.out.2.2 (gb_set _ _ _ _)⟩
                clear hM hro
                generalize ((A + K : Nat) : Int) = AKI at *
                go_wp2
                go_ret2
                exact ⟨rfl, H5.out.1, H5.out.2⟩
    · obtain rfl : r = 8 := by omega
      have hst : R = some 8 := hR.out.1
      subst hst
      have hhb : hb 8 = 8 := rfl
      have e : RI = if l.length - p < hb 8 + wd 8 then (0, 9, p) else if rowN (numN (natOf (bitsAt l (p + hb 8) (wd 8))) (wd 8)) < 8 then (0, 3, p) else (numN (natOf (bitsAt l (p + hb 8) (wd 8))) (wd 8), 0, p + (hb 8 + wd 8)) := by
        rw [← HRI.out]
        unfold riL
        rw [HR0.out]
      have HE : Hid (RI = if l.length - p < hb 8 + wd 8 then (0, 9, p) else if rowN (numN (natOf (bitsAt l (p + hb 8) (wd 8))) (wd 8)) < 8 then (0, 3, p) else (numN (natOf (bitsAt l (p + hb 8) (wd 8))) (wd 8), 0, p + (hb 8 + wd 8))) := e
      have hwl := wd_le 8
      have HAt : Hid (((p : Int) + ((8 : Nat) : Int)) = ((p + hb 8 : Nat) : Int) ∧ p + hb 8 ≤ l.length) := ⟨by rw [hhb]; omega, by rw [hhb]; have := hR.out.2; omega⟩
      have HAt2 : Hid ((p : Int) + 8 = ((p + hb 8 : Nat) : Int)) := by show (p : Int) + 8 = ((p + hb 8 : Nat) : Int); rw [hhb]; omega
      have HWd : Hid (∀ w', Calls Tryd.prog 42 #[.int .i64 (8 : Int)] w' fun e w'' => e = .returned (.int .i64 (wd 8 : Int)) ∧ w'.grownBy w'' none) := fun w' => width_any 8 w' (by omega)
      have HSa : Hid (0 < 8 → ∀ w', Calls Tryd.prog 45 #[.int .u64 (I64 (BitVec.ofNat 64 (natOf (bitsAt l (p + hb 8) (wd 8))))), .int .i64 (wd 8 : Int)] w' fun e w'' => e = .returned (.int .i64 (numN (natOf (bitsAt l (p + hb 8) (wd 8))) (wd 8))) ∧ w'' = w') := fun h0 w' => says_any _ 8 h0 (by omega) (by have := natOf_lt (bitsAt l (p + hb 8) (wd 8)); rw [bitsAt_len] at this; exact this) w'
      have HLe : Hid (rowN (numN (natOf (bitsAt l (p + hb 8) (wd 8))) (wd 8)) ≤ 8) := num_row (by omega) (by have := natOf_lt (bitsAt l (p + hb 8) (wd 8)); rw [bitsAt_len] at this; exact this)
      have HZ0 : Hid (8 = 0 → numN (natOf (bitsAt l (p + hb 8) (wd 8))) (wd 8) = 0) := fun h0 => by
        rw [h0]
        have hw0 : wd 0 = 0 := rfl
        rw [hw0]
        have : bitsAt l (p + hb 0) 0 = [] := by simp [bitsAt]
        rw [this]
        unfold numN
        rw [if_neg (by decide), if_pos (Or.inl rfl)]
        rfl
      have HRB : Hid (∀ gt w', St w' gt (.slice a l.length c) l (p + hb 8) → p + hb 8 + wd 8 ≤ l.length → Calls Tryd.prog 31 #[.pointer (some ⟨gt, 0, none⟩), .int .i64 (wd 8 : Int)] w' fun e w'' => e = .returned (.tuple #[.int .u64 (I64 (BitVec.ofNat 64 (natOf (bitsAt l (p + hb 8) (wd 8))))), .int .i64 0]) ∧ St w'' gt (.slice a l.length c) l (p + hb 8 + wd 8) ∧ w'.grownBy w'' (some gt)) := fun gt w' hs' hle => by
        have hc := sbits_any gt _ l (p + hb 8) (wd 8 : Int) w' hs' (by omega) HPL.out.2
        have e1 : rCode (wd 8 : Int) (l.length - (p + hb 8)) = 0 := by unfold rCode; rw [if_neg (by unfold rBad; omega), Int.toNat_natCast, if_neg (by omega)]
        have e2 : lVal l (p + hb 8) (wd 8 : Int) (l.length - (p + hb 8)) = natOf (bitsAt l (p + hb 8) (wd 8)) := by unfold lVal; rw [if_pos e1, Int.toNat_natCast]
        have e3 : rAt (p + hb 8) (wd 8 : Int) (l.length - (p + hb 8)) = p + hb 8 + wd 8 := by unfold rAt; rw [if_pos e1, Int.toNat_natCast]
        rw [e1, e2, e3] at hc
        exact hc
      have hK0 : (wd 8 : Int) ≤ 64 := by omega
      have hA2 : ((p + hb 8 : Nat) : Int) ≤ (l.length : Int) := by have := HAt.out.2; omega
      have HBK : Hid (l.length - p < hb 8 + wd 8 ↔ (l.length : Int) - ((p + hb 8 : Nat) : Int) < (wd 8 : Int)) := by
        have := HAt.out.2
        show _ ↔ _
        omega
      have HPA : Hid (p + (hb 8 + wd 8) = p + hb 8 + wd 8) := by show p + (hb 8 + wd 8) = p + hb 8 + wd 8; omega
      clear hR HRI HR0 hhb e hwl hcells
      generalize natOf (bitsAt l (p + hb 8) (wd 8)) = NV at *
      generalize hNN : numN NV (wd 8) = NN at *
      clear hNN
      generalize wd 8 = K at *
      generalize p + hb 8 = A at *
      generalize hb 8 + K = BK at *
      by_cases hsh : (l.length : Int) - (A : Int) < (K : Int)
      · have e1 : RI = (0, 9, p) := by rw [HE.out, if_pos (HBK.out.2 hsh)]
        subst e1
        go_wp2_with fail
        refine (HWd.out _).mono ?_
        rintro e w1 ⟨rfl, hg1⟩
        have H1 : Hid (St w1 g (.slice a l.length c) l p ∧ wr.grownBy w1 (some g)) := ⟨HH.out.keep hg1, gb_any hg1 _⟩
        have d0 := H1.out.1.cells.1
        clear hg1
        first | rw [HAt2.out] | rw [HAt.out.1] | erw [HAt2.out]
        go_wp2
        go_ret2
        exact ⟨rfl, H1.out.1, H1.out.2⟩
      · have hnlt : ¬ l.length - p < BK := fun hh => hsh (HBK.out.1 hh)
        rw [if_neg hnlt] at HE
        have hAK : A + K ≤ l.length := by omega
        have HAK : Hid (A + K ≤ l.length) := hAK
        clear hAK hnlt
        go_wp2_with fail
        refine (HWd.out _).mono ?_
        rintro e w1 ⟨rfl, hg1⟩
        have H1 : Hid (St w1 g (.slice a l.length c) l p ∧ wr.grownBy w1 none) := ⟨HH.out.keep hg1, hg1⟩
        have d0 := H1.out.1.cells.1
        clear hg1
        first | rw [HAt2.out] | rw [HAt.out.1] | erw [HAt2.out]
        have H2 : Hid (St (w1.alloc (.cells #[.slice a l.length c, .int .i64 (A : Int)] 28)) w1.heap.size (.slice a l.length c) l A ∧ St (w1.alloc (.cells #[.slice a l.length c, .int .i64 (A : Int)] 28)) g (.slice a l.length c) l p ∧ wr.grownBy (w1.alloc (.cells #[.slice a l.length c, .int .i64 (A : Int)] 28)) none ∧ g ≠ w1.heap.size ∧ wr.heap.size ≤ w1.heap.size) :=
          ⟨⟨Go.heap_alloc_new w1 _, H1.out.1.2.keep (alloc_gb _ _)⟩, H1.out.1.keep (alloc_gb _ _), gb_none H1.out.2 (alloc_gb _ _), by have := H1.out.1.cells.2.2.2; omega, H1.out.2.size⟩
        go_wp2_with fail
        refine (HRB.out _ _ H2.out.1 HAK.out).mono ?_
        rintro e w2 ⟨rfl, hs2, hg2⟩
        have H3 : Hid (St w2 w1.heap.size (.slice a l.length c) l (A + K) ∧ St w2 g (.slice a l.length c) l p ∧ wr.grownBy w2 none ∧ g ≠ w1.heap.size) := ⟨hs2, H2.out.2.1.keptS H2.out.1 H2.out.2.2.2.1 hg2, gb_new H2.out.2.2.1 hg2 (fun k hk => by cases hk; exact H2.out.2.2.2.2), H2.out.2.2.2.1⟩
        clear hs2 hg2 H2 d0 H1
        go_wp2_with fail
        refine (HSa.out (by omega) _).mono ?_
        rintro e w3 ⟨rfl, rfl⟩
        go_wp2_with fail
        refine (row_any NN _).mono ?_
        rintro e w4 ⟨rfl, hg4⟩
        have H4 : Hid (St w4 w1.heap.size (.slice a l.length c) l (A + K) ∧ St w4 g (.slice a l.length c) l p ∧ wr.grownBy w4 none) := ⟨H3.out.1.keep hg4, H3.out.2.1.keep hg4, gb_none H3.out.2.2.1 hg4⟩
        clear hg4 H3
        by_cases hro : rowN NN < 8
        · have e1 : RI = (0, 3, p) := by rw [HE.out, if_pos hro]
          subst e1
          have hne : ((rowN NN : Int) == (8 : Int)) = false := by simp; omega
          have hne2 : ((rowN NN : Int) != (8 : Int)) = true := by simp; omega
          have HF : Hid (wr.grownBy w4 (some g)) := gb_any H4.out.2.2 _
          clear hro
          generalize rowN NN = RN at *
          go_wp2
          go_ret2
          exact ⟨rfl, H4.out.2.1, HF.out⟩
        · have e1 : RI = (NN, 0, p + BK) := by rw [HE.out, if_neg hro]
          subst e1
          have heq : (rowN NN : Int) = (8 : Int) := by have := HLe.out; omega
          rw [heq]
          have t1 : w4.cell? ⟨w1.heap.size, 1, none⟩ = some (.int .i64 ((A + K : Nat) : Int)) := H4.out.1.cells.2.1
          have s1 := H4.out.2.1.cells.2.1
          have f1 := H4.out.2.1.frz
          have hM := H4.out.2.1.move (A + K)
          have H5 : Hid (St (w4.setCell ⟨g, 1, none⟩ (.int .i64 ((A + K : Nat) : Int))) g (.slice a l.length c) l (p + BK) ∧ wr.grownBy (w4.setCell ⟨g, 1, none⟩ (.int .i64 ((A + K : Nat) : Int))) (some g)) := ⟨by rw [HPA.out]; exact hM, gb_some H4.out.2.2 (gb_set _ _ _ _)⟩
          clear hM hro
          generalize ((A + K : Nat) : Int) = AKI at *
          go_wp2
          go_ret2
          exact ⟨rfl, H5.out.1, H5.out.2⟩
end Go.Proofs.YtgbpnkamamafjabDoor
