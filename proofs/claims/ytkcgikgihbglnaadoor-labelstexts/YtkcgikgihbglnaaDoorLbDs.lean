/-
  What stands in braces, by the document: what set comes to: the walk.
-/
import Derived.Test.YtkcgikgihbglnaaDoorLbDl
import Derived.Test.YtkcgikgihbglnaaDoorMgA
import Derived.Test.YtkcgikgihbglnaaDoorLbSp
namespace Go.Proofs.YtkcgikgihbglnaaDoor
open Go.RowKit

def badR (w : World) (g : Nat) : Nat := match w.cell? ⟨g, 2, none⟩ with | some (.int _ z) => z.toNat | _ => 0
theorem TxR.badv {w : World} {g : Nat} {s : List UInt8} {k b : Nat} (h : TxR w g s k b) : badR w g = b := by
  unfold badR
  rw [h.cells.2.2.1]
  simp
def rnM (n : Nat) (w : World) (g : Nat) : Nat := if badR w g = 0 then n - atR w g + 1 else 0
theorem TxR.rnM0 {w : World} {g : Nat} {s : List UInt8} {k : Nat} (h : TxR w g s k 0) (n : Nat) : rnM n w g = n - k + 1 := by
  unfold rnM
  rw [h.badv, h.at, if_pos rfl]
theorem TxR.rnMb {w : World} {g : Nat} {s : List UInt8} {k b : Nat} (h : TxR w g s k b) (hb : b ≠ 0) (n : Nat) : rnM n w g = 0 := by
  unfold rnM
  rw [h.badv, if_neg hb]
/-- what stands at the loop's head -/
def RsI (w : World) (g : Nat) (s : List UInt8) (V : List LbT × Bool × Nat) (u : Value) (wr : World) : Prop :=
  ∃ K B f acc, K ≤ s.length ∧ acc.length ≤ s.length + 1 ∧ OwnL wr w.heap.size u acc ∧ TxR wr g s K B ∧ w.grownBy wr (some g) ∧
    ((B = 0 ∧ s.length < K + f ∧ acc.length ≤ K ∧ ((acc = [] ∧ V = labsS f s K []) ∨ (acc ≠ [] ∧ V = tailS f s K acc))) ∨ (B ≠ 0 ∧ V.2.1 = false ∧ B = V.2.2 + 1))
/-- behind a label -/
theorem lab_then {s : List UInt8} {k f : Nat} {acc : List LbT} {V : List LbT × Bool × Nat} (hk : k ≤ s.length)
    (hV : V = if (labS s k).2.2.1 = false then ([], false, (labS s k).2.2.2) else tailS f s (labS s k).2.2.2 (acc ++ [((labS s k).1, (labS s k).2.1)])) (k4 b4 : Nat) (h4 : (k4, b4) = wantS s (k + (nmS s k).length) (nmB s k) 61) :
    ((rvS s k4 b4).2 = 0 → V = tailS f s (valS (s.length + 1) s (wantS s k4 b4 34).1 []).2.2 (acc ++ [(nmS s k, (rvS s k4 b4).1)]) ∧ k < (valS (s.length + 1) s (wantS s k4 b4 34).1 []).2.2) ∧ ((rvS s k4 b4).2 ≠ 0 → V.2.1 = false ∧ (rvS s k4 b4).2 = V.2.2 + 1) := by
  obtain ⟨h1, h2⟩ := lab_words s k k4 b4 h4
  have hb := (labS_bd hk).2.2
  refine ⟨fun h => ?_, fun h => ?_⟩
  · have h3 := h1 h
    rw [h3] at hV hb
    rw [if_neg (by simp)] at hV
    exact ⟨hV, hb rfl⟩
  · obtain ⟨h3, h5⟩ := h2 h
    rw [if_pos h3] at hV
    rw [hV]
    exact ⟨rfl, h5⟩

set_option maxRecDepth 8000 in
set_option maxHeartbeats 12800000 in
theorem refSet_any (w : World) (g : Nat) (s : List UInt8) (k : Nat) (h : TxR w g s k 0) (hk : k ≤ s.length) (hs : s.length ≤ 1000000) :
    Calls Tryd.prog 72 #[.pointer (some ⟨g, 0, none⟩)] w fun e w' => ∃ v L A, e = .returned v ∧ OwnL w' w.heap.size v L ∧ L.length ≤ s.length + 1 ∧ A ≤ s.length ∧ w.grownBy w' (some g) ∧
      (((labsS (s.length + 1) s k []).2.1 = true ∧ L = (labsS (s.length + 1) s k []).1 ∧ A = (labsS (s.length + 1) s k []).2.2 ∧ TxR w' g s A 0) ∨ ((labsS (s.length + 1) s k []).2.1 = false ∧ TxR w' g s A ((labsS (s.length + 1) s k []).2.2 + 1))) := by
  have hgl : g < w.heap.size := (Array.getElem?_eq_some_iff.1 h).1
  have H0 : Hid (TxR w g s k 0) := h
  obtain ⟨V, hV⟩ : ∃ V, V = labsS (s.length + 1) s k [] := ⟨_, rfl⟩
  rw [← hV]
  have HV : Hid (V = labsS (s.length + 1) s k []) := hV
  have HIS : Hid (∀ W K, K ≤ s.length → TxR W g s K 0 → Calls Tryd.prog 71 #[.pointer (some ⟨g, 0, none⟩), .int .u8 125] W fun e w' => e = .returned (.bool (tkB s K 125)) ∧ TxR w' g s (tkK s K 125) 0 ∧ W.grownBy w' (some g)) := fun W K hK hW => refIs_any W g s K 0 125 hW hK hs
  have HCO : Hid (∀ W K, K ≤ s.length → TxR W g s K 0 → Calls Tryd.prog 102 #[.pointer (some ⟨g, 0, none⟩), .int .u8 44] W fun e w' => e = .returned (.tuple #[]) ∧ TxR w' g s (wantS s K 0 44).1 (wantS s K 0 44).2 ∧ W.grownBy w' (some g)) := fun W K hK hW => refWant_any W g s K 0 44 hW hK hs
  have HBL : Hid (∀ W K b, K ≤ s.length → TxR W g s K b → Calls Tryd.prog 68 #[.pointer (some ⟨g, 0, none⟩)] W fun e w' => e = .returned (.tuple #[]) ∧ TxR w' g s (skp s K) b ∧ W.grownBy w' (some g)) := fun W K b hK hW => refBlanks_any W g s K b hW hK hs
  have HRU : Hid (∀ W K b, K ≤ s.length → TxR W g s K b → Calls Tryd.prog 69 #[.pointer (some ⟨g, 0, none⟩), .bool false] W fun e w' => e = .returned (.string (ByteArray.mk ⟨nmS s (skp s K)⟩)) ∧ TxR w' g s (skp s K + (nmS s (skp s K)).length) b ∧ W.grownBy w' (some g)) := fun W K b hK hW => by
    have := refRun_any W g s K b false hW hK hs
    rw [rnK_len, runS_name] at this
    exact this
  have HEQ : Hid (∀ W K b, K ≤ s.length → TxR W g s K b → Calls Tryd.prog 102 #[.pointer (some ⟨g, 0, none⟩), .int .u8 61] W fun e w' => e = .returned (.tuple #[]) ∧ TxR w' g s (wantS s K b 61).1 (wantS s K b 61).2 ∧ W.grownBy w' (some g)) := fun W K b hK hW => refWant_any W g s K b 61 hW hK hs
  have HVA : Hid (∀ W K b, K ≤ s.length → TxR W g s K b → Calls Tryd.prog 103 #[.pointer (some ⟨g, 0, none⟩)] W fun e w' => e = .returned (.string (ByteArray.mk ⟨(rvS s K b).1⟩)) ∧ (∃ A, A ≤ s.length ∧ ((rvS s K b).2 = 0 → A = (valS (s.length + 1) s (wantS s K b 34).1 []).2.2) ∧ TxR w' g s A (rvS s K b).2) ∧ W.grownBy w' (some g)) := fun W K b hK hW => refValue_any W g s K b hW hK hs
  obtain ⟨i0, hi, hz0, hz1, hz2⟩ := info_parts infoLb
  have HI : Hid (Tryd.prog.info? 56 = some i0 ∧ i0.zero = some (.agg #[.string ⟨#[]⟩, .string ⟨#[]⟩]) ∧ i0.size = 2 ∧ i0.bytes = 32) := ⟨hi, hz0, hz1, hz2⟩
  clear h hV hi hz0 hz1 hz2
  go_enter Tryd.func72, Tryd.ntmps72
  go_wp2
  go_loopw [3] (fun u wr => Hid (RsI w g s V u wr)) (fun _ wr => rnM s.length wr g)
  case atStart => exact ⟨k, 0, s.length + 1, [], hk, by simp, OwnL.nil _ _, H0.out, gb_refl _ _, .inl ⟨rfl, by omega, by simp, .inl ⟨rfl, HV.out⟩⟩⟩
  case round =>
    obtain ⟨K, B, f, acc, hK, hal, hOw, hTx, hgr, hcase⟩ := hrel.out
    obtain ⟨a3, c3, rfl⟩ := hOw.shape
    obtain ⟨c0, c1, c2, -, -⟩ := hTx.cells
    clear hrel H0 HV
    rcases hcase with ⟨rfl, hf, hacc, hV2⟩ | ⟨hB, hV1, hV2⟩
    · have HX : Hid (OwnL wr w.heap.size (.slice a3 acc.length c3) acc ∧ TxR wr g s K 0 ∧ w.grownBy wr (some g) ∧ rnM s.length wr g = s.length - K + 1) := ⟨hOw, hTx, hgr, hTx.rnM0 _⟩
      obtain ⟨f', rfl⟩ : ∃ f', f = f' + 1 := ⟨f - 1, by omega⟩
      have HT := HIS.out wr K hK hTx
      have HT : Hid (Calls Tryd.prog 71 #[.pointer (some ⟨g, 0, none⟩), .int .u8 125] wr fun e w' => e = .returned (.bool (tkB s K 125)) ∧ TxR w' g s (tkK s K 125) 0 ∧ wr.grownBy w' (some g)) := HT
      have hk1 := tkK_len s K 125 hK
      have hk1g := tkK_ge s K 125
      clear hOw hTx hgr
      by_cases ht : tkB s K 125 = true
      · have HE : Hid (V = (acc, true, tkK s K 125)) := by
          rcases hV2 with ⟨rfl, hV3⟩ | ⟨hne, hV3⟩
          · rw [hV3, labsS_tail, if_pos ht]; rfl
          · rw [hV3, tail_end ht]; rfl
        rw [ht] at HT
        clear hV2 ht
        generalize tkK s K 125 = k1 at *
        go_wp2_with fail
        refine HT.out.mono ?_
        rintro e w1 ⟨rfl, ht1, hg1⟩
        have H1 : Hid (OwnL w1 w.heap.size (.slice a3 acc.length c3) acc ∧ TxR w1 g s k1 0 ∧ w.grownBy w1 (some g)) := ⟨HX.out.1.kept hg1 hgl, ht1, gb_trans HX.out.2.2.1 hg1 (fun _ h _ => h.symm)⟩
        clear HT ht1 hg1 HX c0 c1 c2
        go_wp2
        go_ret
        exact ⟨_, acc, k1, rfl, H1.out.1, hal, hk1, H1.out.2.2, .inl ⟨by rw [HE.out], by rw [HE.out], by rw [HE.out], H1.out.2.1⟩⟩
      · have ht' : tkB s K 125 = false := by simpa using ht
        rw [ht'] at HT
        rcases hV2 with ⟨hae, hV3⟩ | ⟨hne, hV3⟩
        · rw [← hae, labsS_tail, if_neg ht] at hV3
          have HLV : Hid (V = if (labS s (tkK s K 125)).2.2.1 = false then ([], false, (labS s (tkK s K 125)).2.2.2) else tailS f' s (labS s (tkK s K 125)).2.2.2 (acc ++ [((labS s (tkK s K 125)).1, (labS s (tkK s K 125)).2.1)])) := by
            rw [hae] at hV3 ⊢
            exact hV3
          have HSK : Hid (skp s (tkK s K 125) = tkK s K 125) := by
            show skp s (tkK s K 125) = tkK s K 125
            rw [tkK_no ht', skp_idem]
          have hn0 : ¬ (0 : Int) < ((acc.length : Nat) : Int) := by rw [hae]; simp
          clear hV3 ht ht' hae
          generalize tkK s K 125 = k3 at *
          go_wp2_with fail
          refine HT.out.mono ?_
          rintro e wL ⟨rfl, ht1, hg1⟩
          have HX3 : Hid (OwnL wL w.heap.size (.slice a3 acc.length c3) acc ∧ TxR wL g s k3 0 ∧ w.grownBy wL (some g)) := ⟨HX.out.1.kept hg1 hgl, ht1, gb_trans HX.out.2.2.1 hg1 (fun _ h _ => h.symm)⟩
          have HM : Hid (rnM s.length wr g = s.length - K + 1) := HX.out.2.2.2
          clear HT ht1 hg1 HX c0 c1 c2
          obtain ⟨fx, hfx⟩ : ∃ fx, fx = f' := ⟨_, rfl⟩
          rw [← hfx] at HLV
          have hfK : s.length < k3 + (fx + 1) := by omega
          clear hfx
          have hk3l : k3 ≤ s.length := by omega
          have HB1 := HBL.out wL k3 0 hk3l HX3.out.2.1
          rw [HSK.out] at HB1
          have HB1 : Hid (Calls Tryd.prog 68 #[.pointer (some ⟨g, 0, none⟩)] wL fun e w' => e = .returned (.tuple #[]) ∧ TxR w' g s k3 0 ∧ wL.grownBy w' (some g)) := HB1
          go_wp2_with fail
          refine HB1.out.mono ?_
          rintro e w6 ⟨rfl, ht1, hg1⟩
          obtain ⟨c0, c1, c2, -, -⟩ := ht1.cells
          have H6 : Hid (OwnL w6 w.heap.size (.slice a3 acc.length c3) acc ∧ TxR w6 g s k3 0 ∧ w.grownBy w6 (some g)) := ⟨HX3.out.1.kept hg1 hgl, ht1, gb_trans HX3.out.2.2 hg1 (fun _ h _ => h.symm)⟩
          clear HB1 ht1 hg1 HX3
          have HR1 := HRU.out w6 k3 0 hk3l H6.out.2.1
          rw [HSK.out] at HR1
          have HR1 : Hid (Calls Tryd.prog 69 #[.pointer (some ⟨g, 0, none⟩), .bool false] w6 fun e w' => e = .returned (.string (ByteArray.mk ⟨nmS s k3⟩)) ∧ TxR w' g s (k3 + (nmS s k3).length) 0 ∧ w6.grownBy w' (some g)) := HR1
          have hnl := nmS_le s k3 hk3l
          go_wp2_with fail
          refine HR1.out.mono ?_
          rintro e w7 ⟨rfl, ht1, hg1⟩
          clear c0 c1 c2
          obtain ⟨c0, c1, c2, -, -⟩ := ht1.cells
          have H7 : Hid (OwnL w7 w.heap.size (.slice a3 acc.length c3) acc ∧ TxR w7 g s (k3 + (nmS s k3).length) 0 ∧ w.grownBy w7 (some g)) := ⟨H6.out.1.kept hg1 hgl, ht1, gb_trans H6.out.2.2 hg1 (fun _ h _ => h.symm)⟩
          clear HR1 ht1 hg1 H6
          have HN1 : Hid (Calls Tryd.prog 13 #[.string (ByteArray.mk ⟨nmS s k3⟩)] w7 fun e w' => e = .returned (.bool (nameB (nmS s k3))) ∧ w7.grownBy w' none) := refName_any w7 (nmS s k3) (by omega)
          have HQ := lab_then hk3l HLV.out
          obtain ⟨bn, hbn⟩ : ∃ bn, bn = nmB s k3 := ⟨_, rfl⟩
          rw [← hbn] at HQ
          have HQ : Hid (∀ k4 b4, (k4, b4) = wantS s (k3 + (nmS s k3).length) bn 61 → ((rvS s k4 b4).2 = 0 → V = tailS fx s (valS (s.length + 1) s (wantS s k4 b4 34).1 []).2.2 (acc ++ [(nmS s k3, (rvS s k4 b4).1)]) ∧ k3 < (valS (s.length + 1) s (wantS s k4 b4 34).1 []).2.2) ∧ ((rvS s k4 b4).2 ≠ 0 → V.2.1 = false ∧ (rvS s k4 b4).2 = V.2.2 + 1)) := HQ
          have hKk : K ≤ k3 := by omega
          clear HLV HSK
          cases hnb : nameB (nmS s k3) with
          | true =>
            have hb1 : bn = 0 := by rw [hbn]; exact if_pos hnb
            rw [hnb] at HN1
            clear hnb hbn
            go_wp2_with fail
            refine HN1.out.mono ?_
            rintro e w5 ⟨rfl, hg1⟩
            have H5 : Hid (OwnL w5 w.heap.size (.slice a3 acc.length c3) acc ∧ TxR w5 g s (k3 + (nmS s k3).length) bn ∧ w.grownBy w5 (some g)) := ⟨H7.out.1.keep hg1, by rw [hb1]; exact H7.out.2.1.keep hg1, gb_none H7.out.2.2 hg1⟩
            clear HN1 hg1 H7 c0 c1 c2 hb1
            obtain ⟨k4, b4, h4⟩ : ∃ k4 b4, (k4, b4) = wantS s (k3 + (nmS s k3).length) bn 61 := ⟨_, _, rfl⟩
            have HE1 : Hid (Calls Tryd.prog 102 #[.pointer (some ⟨g, 0, none⟩), .int .u8 61] w5 fun e w' => e = .returned (.tuple #[]) ∧ TxR w' g s k4 b4 ∧ w5.grownBy w' (some g)) := by
              have := HEQ.out w5 _ _ hnl H5.out.2.1
              rw [← h4] at this
              exact this
            have hk4 : k4 ≤ s.length := by
              have := wantS_le (c := 61) (b := bn) hnl
              rw [← h4] at this
              exact this
            have HQ2 := HQ.out k4 b4 h4
            have HV1 : Hid (∀ W, TxR W g s k4 b4 → Calls Tryd.prog 103 #[.pointer (some ⟨g, 0, none⟩)] W fun e w' => e = .returned (.string (ByteArray.mk ⟨(rvS s k4 b4).1⟩)) ∧ (∃ A, A ≤ s.length ∧ ((rvS s k4 b4).2 = 0 → A = (valS (s.length + 1) s (wantS s k4 b4 34).1 []).2.2) ∧ TxR w' g s A (rvS s k4 b4).2) ∧ W.grownBy w' (some g)) := fun W hW => HVA.out W k4 b4 hk4 hW
            clear HQ h4 HVA HEQ HRU HBL HCO HIS
            generalize (valS (s.length + 1) s (wantS s k4 b4 34).1 []).2.2 = PL at *
            generalize rvS s k4 b4 = RV at *
            obtain ⟨vl, b5⟩ := RV
            generalize nmS s k3 = nm at *
            dsimp only at HQ2 HV1
            have HQ2 : Hid ((b5 = 0 → V = tailS fx s PL (acc ++ [(nm, vl)]) ∧ k3 < PL) ∧ (b5 ≠ 0 → V.2.1 = false ∧ b5 = V.2.2 + 1)) := HQ2
            go_wp2_with fail
            refine HE1.out.mono ?_
            rintro e w9 ⟨rfl, ht1, hg1⟩
            have H9 : Hid (OwnL w9 w.heap.size (.slice a3 acc.length c3) acc ∧ TxR w9 g s k4 b4 ∧ w.grownBy w9 (some g)) := ⟨H5.out.1.kept hg1 hgl, ht1, gb_trans H5.out.2.2 hg1 (fun _ h _ => h.symm)⟩
            clear HE1 ht1 hg1 H5
            go_wp2_with fail
            refine (HV1.out _ H9.out.2.1).mono ?_
            rintro e w10 ⟨rfl, ⟨A, hA, hAp, ht1⟩, hg1⟩
            have H10 : Hid (OwnL w10 w.heap.size (.slice a3 acc.length c3) acc ∧ TxR w10 g s A b5 ∧ w.grownBy w10 (some g)) := ⟨H9.out.1.kept hg1 hgl, ht1, gb_trans H9.out.2.2 hg1 (fun _ h _ => h.symm)⟩
            have HAP : Hid (b5 = 0 → A = PL) := hAp
            clear HV1 ht1 hg1 H9 hAp
            go_wp2_with (at_builtin; refine wp_appH rfl _ _ 22 56 rfl i0 _ 2 32 w.heap.size Tryd.underlying22 HI.out.1 HI.out.2.1 HI.out.2.2.1 HI.out.2.2.2 rfl (by decide) _ acc.length (lbf acc) (some ⟨w10.heap.size, 0, none⟩) 1 1 [.string (ByteArray.mk ⟨nm⟩), .string (ByteArray.mk ⟨vl⟩)] rfl rfl (World.ownsRow.alloc H10.out.1 _) rfl (box_rdc w10 _ _) (fun h => by cases h) (two_one _ _) (by omega) (by omega) (by have := H10.out.2.2.size; simp; omega) ?_)
            intro v4 w4 ho4 hf4
            have H4 : Hid (OwnL w4 w.heap.size v4 (acc ++ [(nm, vl)]) ∧ TxR w4 g s A b5 ∧ w.grownBy w4 (some g)) := by
              have hgA := World.grownBy_alloc w10 (.cells #[.string (ByteArray.mk ⟨nm⟩), .string (ByteArray.mk ⟨vl⟩)] 56) none
              have hl := H10.out.1.lt
              refine ⟨OwnL.snoc ho4, (H10.out.2.1.keep hgA).far hf4.1 (fun j hj => by have := (hl j hj).1; omega), gb_trans (gb_none H10.out.2.2 hgA) hf4.1 (fun j hj hlt => by have := (hl j (by first | exact hj | exact hj.symm)).1; omega)⟩
            clear ho4 hf4 H10
            go_wp2_with fail
            go_roundw
            case rel =>
              by_cases hb5 : b5 = 0
              · obtain ⟨q1, q2⟩ := HQ2.out.1 hb5
                have q3 := HAP.out hb5
                rw [hb5] at H4
                rw [← q3] at q1 q2
                exact ⟨A, 0, fx, acc ++ [(nm, vl)], hA, by simp; omega, H4.out.1, H4.out.2.1, H4.out.2.2, .inl ⟨rfl, by omega, by simp; omega, .inr ⟨by simp, q1⟩⟩⟩
              · exact ⟨A, b5, fx, acc ++ [(nm, vl)], hA, by simp; omega, H4.out.1, H4.out.2.1, H4.out.2.2, .inr ⟨hb5, HQ2.out.2 hb5⟩⟩
            case measure =>
              by_cases hb5 : b5 = 0
              · obtain ⟨q1, q2⟩ := HQ2.out.1 hb5
                have q3 := HAP.out hb5
                rw [hb5] at H4
                rw [HM.out, H4.out.2.1.rnM0]
                omega
              · rw [HM.out, H4.out.2.1.rnMb hb5]
                omega
          | false =>
            have hb1 : bn = k3 + 1 := by rw [hbn]; exact if_neg (by rw [hnb]; simp)
            rw [hnb] at HN1
            clear hnb hbn
            go_wp2_with fail
            refine HN1.out.mono ?_
            rintro e w8 ⟨rfl, hg1⟩
            have H8 : Hid (OwnL w8 w.heap.size (.slice a3 acc.length c3) acc ∧ TxR w8 g s (k3 + (nmS s k3).length) 0 ∧ w.grownBy w8 (some g)) := ⟨H7.out.1.keep hg1, H7.out.2.1.keep hg1, gb_none H7.out.2.2 hg1⟩
            clear HN1 hg1 H7 c0 c1 c2
            have HF1 : Hid (Calls Tryd.prog 70 #[.pointer (some ⟨g, 0, none⟩), .int .i64 (k3 : Int)] w8 fun e w' => e = .returned (.tuple #[]) ∧ TxR w' g s (k3 + (nmS s k3).length) bn ∧ w8.grownBy w' (some g)) := by rw [hb1]; exact refFail_any w8 g s _ 0 k3 H8.out.2.1 (by omega)
            clear hb1
            go_wp2_with fail
            refine HF1.out.mono ?_
            rintro e w5 ⟨rfl, ht1, hg1⟩
            have H5 : Hid (OwnL w5 w.heap.size (.slice a3 acc.length c3) acc ∧ TxR w5 g s (k3 + (nmS s k3).length) bn ∧ w.grownBy w5 (some g)) := ⟨H8.out.1.kept hg1 hgl, ht1, gb_trans H8.out.2.2 hg1 (fun _ h _ => h.symm)⟩
            clear HF1 ht1 hg1 H8
            obtain ⟨k4, b4, h4⟩ : ∃ k4 b4, (k4, b4) = wantS s (k3 + (nmS s k3).length) bn 61 := ⟨_, _, rfl⟩
            have HE1 : Hid (Calls Tryd.prog 102 #[.pointer (some ⟨g, 0, none⟩), .int .u8 61] w5 fun e w' => e = .returned (.tuple #[]) ∧ TxR w' g s k4 b4 ∧ w5.grownBy w' (some g)) := by
              have := HEQ.out w5 _ _ hnl H5.out.2.1
              rw [← h4] at this
              exact this
            have hk4 : k4 ≤ s.length := by
              have := wantS_le (c := 61) (b := bn) hnl
              rw [← h4] at this
              exact this
            have HQ2 := HQ.out k4 b4 h4
            have HV1 : Hid (∀ W, TxR W g s k4 b4 → Calls Tryd.prog 103 #[.pointer (some ⟨g, 0, none⟩)] W fun e w' => e = .returned (.string (ByteArray.mk ⟨(rvS s k4 b4).1⟩)) ∧ (∃ A, A ≤ s.length ∧ ((rvS s k4 b4).2 = 0 → A = (valS (s.length + 1) s (wantS s k4 b4 34).1 []).2.2) ∧ TxR w' g s A (rvS s k4 b4).2) ∧ W.grownBy w' (some g)) := fun W hW => HVA.out W k4 b4 hk4 hW
            clear HQ h4 HVA HEQ HRU HBL HCO HIS
            generalize (valS (s.length + 1) s (wantS s k4 b4 34).1 []).2.2 = PL at *
            generalize rvS s k4 b4 = RV at *
            obtain ⟨vl, b5⟩ := RV
            generalize nmS s k3 = nm at *
            dsimp only at HQ2 HV1
            have HQ2 : Hid ((b5 = 0 → V = tailS fx s PL (acc ++ [(nm, vl)]) ∧ k3 < PL) ∧ (b5 ≠ 0 → V.2.1 = false ∧ b5 = V.2.2 + 1)) := HQ2
            go_wp2_with fail
            refine HE1.out.mono ?_
            rintro e w9 ⟨rfl, ht1, hg1⟩
            have H9 : Hid (OwnL w9 w.heap.size (.slice a3 acc.length c3) acc ∧ TxR w9 g s k4 b4 ∧ w.grownBy w9 (some g)) := ⟨H5.out.1.kept hg1 hgl, ht1, gb_trans H5.out.2.2 hg1 (fun _ h _ => h.symm)⟩
            clear HE1 ht1 hg1 H5
            go_wp2_with fail
            refine (HV1.out _ H9.out.2.1).mono ?_
            rintro e w10 ⟨rfl, ⟨A, hA, hAp, ht1⟩, hg1⟩
            have H10 : Hid (OwnL w10 w.heap.size (.slice a3 acc.length c3) acc ∧ TxR w10 g s A b5 ∧ w.grownBy w10 (some g)) := ⟨H9.out.1.kept hg1 hgl, ht1, gb_trans H9.out.2.2 hg1 (fun _ h _ => h.symm)⟩
            have HAP : Hid (b5 = 0 → A = PL) := hAp
            clear HV1 ht1 hg1 H9 hAp
            go_wp2_with (at_builtin; refine wp_appH rfl _ _ 22 56 rfl i0 _ 2 32 w.heap.size Tryd.underlying22 HI.out.1 HI.out.2.1 HI.out.2.2.1 HI.out.2.2.2 rfl (by decide) _ acc.length (lbf acc) (some ⟨w10.heap.size, 0, none⟩) 1 1 [.string (ByteArray.mk ⟨nm⟩), .string (ByteArray.mk ⟨vl⟩)] rfl rfl (World.ownsRow.alloc H10.out.1 _) rfl (box_rdc w10 _ _) (fun h => by cases h) (two_one _ _) (by omega) (by omega) (by have := H10.out.2.2.size; simp; omega) ?_)
            intro v4 w4 ho4 hf4
            have H4 : Hid (OwnL w4 w.heap.size v4 (acc ++ [(nm, vl)]) ∧ TxR w4 g s A b5 ∧ w.grownBy w4 (some g)) := by
              have hgA := World.grownBy_alloc w10 (.cells #[.string (ByteArray.mk ⟨nm⟩), .string (ByteArray.mk ⟨vl⟩)] 56) none
              have hl := H10.out.1.lt
              refine ⟨OwnL.snoc ho4, (H10.out.2.1.keep hgA).far hf4.1 (fun j hj => by have := (hl j hj).1; omega), gb_trans (gb_none H10.out.2.2 hgA) hf4.1 (fun j hj hlt => by have := (hl j (by first | exact hj | exact hj.symm)).1; omega)⟩
            clear ho4 hf4 H10
            go_wp2_with fail
            go_roundw
            case rel =>
              by_cases hb5 : b5 = 0
              · obtain ⟨q1, q2⟩ := HQ2.out.1 hb5
                have q3 := HAP.out hb5
                rw [hb5] at H4
                rw [← q3] at q1 q2
                exact ⟨A, 0, fx, acc ++ [(nm, vl)], hA, by simp; omega, H4.out.1, H4.out.2.1, H4.out.2.2, .inl ⟨rfl, by omega, by simp; omega, .inr ⟨by simp, q1⟩⟩⟩
              · exact ⟨A, b5, fx, acc ++ [(nm, vl)], hA, by simp; omega, H4.out.1, H4.out.2.1, H4.out.2.2, .inr ⟨hb5, HQ2.out.2 hb5⟩⟩
            case measure =>
              by_cases hb5 : b5 = 0
              · obtain ⟨q1, q2⟩ := HQ2.out.1 hb5
                have q3 := HAP.out hb5
                rw [hb5] at H4
                rw [HM.out, H4.out.2.1.rnM0]
                omega
              · rw [HM.out, H4.out.2.1.rnMb hb5]
                omega
        · have hn0 : (0 : Int) < ((acc.length : Nat) : Int) := by
            have := List.length_pos_iff.2 hne
            omega
          have HC := fun W => HCO.out W (tkK s K 125) hk1
          have HC : Hid (∀ W, TxR W g s (tkK s K 125) 0 → Calls Tryd.prog 102 #[.pointer (some ⟨g, 0, none⟩), .int .u8 44] W fun e w' => e = .returned (.tuple #[]) ∧ TxR w' g s (wantS s (tkK s K 125) 0 44).1 (wantS s (tkK s K 125) 0 44).2 ∧ W.grownBy w' (some g)) := HC
          have hk2 := tkK_len s (tkK s K 125) 44 hk1
          have hk2g := tkK_ge s (tkK s K 125) 44
          by_cases hc : tkB s (tkK s K 125) 44 = true
          · have hw : wantS s (tkK s K 125) 0 44 = (tkK s (tkK s K 125) 44, 0) := by
              unfold wantS
              rw [if_pos rfl, if_pos hc]
            rw [hw] at HC
            rw [tail_go ht' hc] at hV3
            have HT2 := fun W => HIS.out W (tkK s (tkK s K 125) 44) hk2
            have HT2 : Hid (∀ W, TxR W g s (tkK s (tkK s K 125) 44) 0 → Calls Tryd.prog 71 #[.pointer (some ⟨g, 0, none⟩), .int .u8 125] W fun e w' => e = .returned (.bool (tkB s (tkK s (tkK s K 125) 44) 125)) ∧ TxR w' g s (tkK s (tkK s (tkK s K 125) 44) 125) 0 ∧ W.grownBy w' (some g)) := HT2
            have hk3 := tkK_len s (tkK s (tkK s K 125) 44) 125 hk2
            have hk3g := tkK_ge s (tkK s (tkK s K 125) 44) 125
            have hkc := tkK_gt hc
            clear hw ht ht' hc
            dsimp only at HC
            generalize hk1e : tkK s K 125 = k1 at *
            generalize tkK s k1 44 = k2 at *
            clear hk1e
            by_cases h2 : tkB s k2 125 = true
            · rw [labsS_tail, if_pos h2] at hV3
              have HE : Hid (V = (acc, true, tkK s k2 125)) := hV3
              rw [h2] at HT2
              clear h2 hV3
              generalize tkK s k2 125 = k3 at *
              go_wp2_with fail
              refine HT.out.mono ?_
              rintro e w1 ⟨rfl, ht1, hg1⟩
              have H1 : Hid (OwnL w1 w.heap.size (.slice a3 acc.length c3) acc ∧ TxR w1 g s k1 0 ∧ w.grownBy w1 (some g)) := ⟨HX.out.1.kept hg1 hgl, ht1, gb_trans HX.out.2.2.1 hg1 (fun _ h _ => h.symm)⟩
              clear HT ht1 hg1 HX c0 c1 c2
              go_wp2_with fail
              refine (HC.out _ H1.out.2.1).mono ?_
              rintro e w2 ⟨rfl, ht1, hg1⟩
              obtain ⟨c0, c1, c2, -, -⟩ := ht1.cells
              have H2 : Hid (OwnL w2 w.heap.size (.slice a3 acc.length c3) acc ∧ TxR w2 g s k2 0 ∧ w.grownBy w2 (some g)) := ⟨H1.out.1.kept hg1 hgl, ht1, gb_trans H1.out.2.2 hg1 (fun _ h _ => h.symm)⟩
              clear HC ht1 hg1 H1
              go_wp2_with fail
              refine (HT2.out _ H2.out.2.1).mono ?_
              rintro e w3 ⟨rfl, ht1, hg1⟩
              have H3 : Hid (OwnL w3 w.heap.size (.slice a3 acc.length c3) acc ∧ TxR w3 g s k3 0 ∧ w.grownBy w3 (some g)) := ⟨H2.out.1.kept hg1 hgl, ht1, gb_trans H2.out.2.2 hg1 (fun _ h _ => h.symm)⟩
              clear HT2 ht1 hg1 H2 c0 c1 c2
              go_wp2
              go_ret
              exact ⟨_, acc, k3, rfl, H3.out.1, hal, hk3, H3.out.2.2, .inl ⟨by rw [HE.out], by rw [HE.out], by rw [HE.out], H3.out.2.1⟩⟩
            · have h2' : tkB s k2 125 = false := by simpa using h2
              rw [labsS_tail, if_neg h2] at hV3
              have HLV : Hid (V = if (labS s (tkK s k2 125)).2.2.1 = false then ([], false, (labS s (tkK s k2 125)).2.2.2) else tailS f' s (labS s (tkK s k2 125)).2.2.2 (acc ++ [((labS s (tkK s k2 125)).1, (labS s (tkK s k2 125)).2.1)])) := hV3
              have HSK : Hid (skp s (tkK s k2 125) = tkK s k2 125) := by
                show skp s (tkK s k2 125) = tkK s k2 125
                rw [tkK_no h2', skp_idem]
              rw [h2'] at HT2
              clear h2 h2' hV3
              generalize tkK s k2 125 = k3 at *
              go_wp2_with fail
              refine HT.out.mono ?_
              rintro e w1 ⟨rfl, ht1, hg1⟩
              have H1 : Hid (OwnL w1 w.heap.size (.slice a3 acc.length c3) acc ∧ TxR w1 g s k1 0 ∧ w.grownBy w1 (some g)) := ⟨HX.out.1.kept hg1 hgl, ht1, gb_trans HX.out.2.2.1 hg1 (fun _ h _ => h.symm)⟩
              have HM : Hid (rnM s.length wr g = s.length - K + 1) := HX.out.2.2.2
              clear HT ht1 hg1 HX c0 c1 c2
              go_wp2_with fail
              refine (HC.out _ H1.out.2.1).mono ?_
              rintro e w2 ⟨rfl, ht1, hg1⟩
              obtain ⟨c0, c1, c2, -, -⟩ := ht1.cells
              have H2 : Hid (OwnL w2 w.heap.size (.slice a3 acc.length c3) acc ∧ TxR w2 g s k2 0 ∧ w.grownBy w2 (some g)) := ⟨H1.out.1.kept hg1 hgl, ht1, gb_trans H1.out.2.2 hg1 (fun _ h _ => h.symm)⟩
              clear HC ht1 hg1 H1
              go_wp2_with fail
              refine (HT2.out _ H2.out.2.1).mono ?_
              rintro e wL ⟨rfl, ht1, hg1⟩
              have HX3 : Hid (OwnL wL w.heap.size (.slice a3 acc.length c3) acc ∧ TxR wL g s k3 0 ∧ w.grownBy wL (some g)) := ⟨H2.out.1.kept hg1 hgl, ht1, gb_trans H2.out.2.2 hg1 (fun _ h _ => h.symm)⟩
              clear HT2 ht1 hg1 H2 c0 c1 c2
              obtain ⟨fx, hfx⟩ : ∃ fx, fx = f' := ⟨_, rfl⟩
              rw [← hfx] at HLV
              have hfK : s.length < k3 + (fx + 1) := by omega
              clear hfx
              have hk3l : k3 ≤ s.length := by omega
              have HB1 := HBL.out wL k3 0 hk3l HX3.out.2.1
              rw [HSK.out] at HB1
              have HB1 : Hid (Calls Tryd.prog 68 #[.pointer (some ⟨g, 0, none⟩)] wL fun e w' => e = .returned (.tuple #[]) ∧ TxR w' g s k3 0 ∧ wL.grownBy w' (some g)) := HB1
              go_wp2_with fail
              refine HB1.out.mono ?_
              rintro e w6 ⟨rfl, ht1, hg1⟩
              obtain ⟨c0, c1, c2, -, -⟩ := ht1.cells
              have H6 : Hid (OwnL w6 w.heap.size (.slice a3 acc.length c3) acc ∧ TxR w6 g s k3 0 ∧ w.grownBy w6 (some g)) := ⟨HX3.out.1.kept hg1 hgl, ht1, gb_trans HX3.out.2.2 hg1 (fun _ h _ => h.symm)⟩
              clear HB1 ht1 hg1 HX3
              have HR1 := HRU.out w6 k3 0 hk3l H6.out.2.1
              rw [HSK.out] at HR1
              have HR1 : Hid (Calls Tryd.prog 69 #[.pointer (some ⟨g, 0, none⟩), .bool false] w6 fun e w' => e = .returned (.string (ByteArray.mk ⟨nmS s k3⟩)) ∧ TxR w' g s (k3 + (nmS s k3).length) 0 ∧ w6.grownBy w' (some g)) := HR1
              have hnl := nmS_le s k3 hk3l
              go_wp2_with fail
              refine HR1.out.mono ?_
              rintro e w7 ⟨rfl, ht1, hg1⟩
              clear c0 c1 c2
              obtain ⟨c0, c1, c2, -, -⟩ := ht1.cells
              have H7 : Hid (OwnL w7 w.heap.size (.slice a3 acc.length c3) acc ∧ TxR w7 g s (k3 + (nmS s k3).length) 0 ∧ w.grownBy w7 (some g)) := ⟨H6.out.1.kept hg1 hgl, ht1, gb_trans H6.out.2.2 hg1 (fun _ h _ => h.symm)⟩
              clear HR1 ht1 hg1 H6
              have HN1 : Hid (Calls Tryd.prog 13 #[.string (ByteArray.mk ⟨nmS s k3⟩)] w7 fun e w' => e = .returned (.bool (nameB (nmS s k3))) ∧ w7.grownBy w' none) := refName_any w7 (nmS s k3) (by omega)
              have HQ := lab_then hk3l HLV.out
              obtain ⟨bn, hbn⟩ : ∃ bn, bn = nmB s k3 := ⟨_, rfl⟩
              rw [← hbn] at HQ
              have HQ : Hid (∀ k4 b4, (k4, b4) = wantS s (k3 + (nmS s k3).length) bn 61 → ((rvS s k4 b4).2 = 0 → V = tailS fx s (valS (s.length + 1) s (wantS s k4 b4 34).1 []).2.2 (acc ++ [(nmS s k3, (rvS s k4 b4).1)]) ∧ k3 < (valS (s.length + 1) s (wantS s k4 b4 34).1 []).2.2) ∧ ((rvS s k4 b4).2 ≠ 0 → V.2.1 = false ∧ (rvS s k4 b4).2 = V.2.2 + 1)) := HQ
              have hKk : K ≤ k3 := by omega
              clear HLV HSK
              cases hnb : nameB (nmS s k3) with
              | true =>
                have hb1 : bn = 0 := by rw [hbn]; exact if_pos hnb
                rw [hnb] at HN1
                clear hnb hbn
                go_wp2_with fail
                refine HN1.out.mono ?_
                rintro e w5 ⟨rfl, hg1⟩
                have H5 : Hid (OwnL w5 w.heap.size (.slice a3 acc.length c3) acc ∧ TxR w5 g s (k3 + (nmS s k3).length) bn ∧ w.grownBy w5 (some g)) := ⟨H7.out.1.keep hg1, by rw [hb1]; exact H7.out.2.1.keep hg1, gb_none H7.out.2.2 hg1⟩
                clear HN1 hg1 H7 c0 c1 c2 hb1
                obtain ⟨k4, b4, h4⟩ : ∃ k4 b4, (k4, b4) = wantS s (k3 + (nmS s k3).length) bn 61 := ⟨_, _, rfl⟩
                have HE1 : Hid (Calls Tryd.prog 102 #[.pointer (some ⟨g, 0, none⟩), .int .u8 61] w5 fun e w' => e = .returned (.tuple #[]) ∧ TxR w' g s k4 b4 ∧ w5.grownBy w' (some g)) := by
                  have := HEQ.out w5 _ _ hnl H5.out.2.1
                  rw [← h4] at this
                  exact this
                have hk4 : k4 ≤ s.length := by
                  have := wantS_le (c := 61) (b := bn) hnl
                  rw [← h4] at this
                  exact this
                have HQ2 := HQ.out k4 b4 h4
                have HV1 : Hid (∀ W, TxR W g s k4 b4 → Calls Tryd.prog 103 #[.pointer (some ⟨g, 0, none⟩)] W fun e w' => e = .returned (.string (ByteArray.mk ⟨(rvS s k4 b4).1⟩)) ∧ (∃ A, A ≤ s.length ∧ ((rvS s k4 b4).2 = 0 → A = (valS (s.length + 1) s (wantS s k4 b4 34).1 []).2.2) ∧ TxR w' g s A (rvS s k4 b4).2) ∧ W.grownBy w' (some g)) := fun W hW => HVA.out W k4 b4 hk4 hW
                clear HQ h4 HVA HEQ HRU HBL HCO HIS
                generalize (valS (s.length + 1) s (wantS s k4 b4 34).1 []).2.2 = PL at *
                generalize rvS s k4 b4 = RV at *
                obtain ⟨vl, b5⟩ := RV
                generalize nmS s k3 = nm at *
                dsimp only at HQ2 HV1
                have HQ2 : Hid ((b5 = 0 → V = tailS fx s PL (acc ++ [(nm, vl)]) ∧ k3 < PL) ∧ (b5 ≠ 0 → V.2.1 = false ∧ b5 = V.2.2 + 1)) := HQ2
                go_wp2_with fail
                refine HE1.out.mono ?_
                rintro e w9 ⟨rfl, ht1, hg1⟩
                have H9 : Hid (OwnL w9 w.heap.size (.slice a3 acc.length c3) acc ∧ TxR w9 g s k4 b4 ∧ w.grownBy w9 (some g)) := ⟨H5.out.1.kept hg1 hgl, ht1, gb_trans H5.out.2.2 hg1 (fun _ h _ => h.symm)⟩
                clear HE1 ht1 hg1 H5
                go_wp2_with fail
                refine (HV1.out _ H9.out.2.1).mono ?_
                rintro e w10 ⟨rfl, ⟨A, hA, hAp, ht1⟩, hg1⟩
                have H10 : Hid (OwnL w10 w.heap.size (.slice a3 acc.length c3) acc ∧ TxR w10 g s A b5 ∧ w.grownBy w10 (some g)) := ⟨H9.out.1.kept hg1 hgl, ht1, gb_trans H9.out.2.2 hg1 (fun _ h _ => h.symm)⟩
                have HAP : Hid (b5 = 0 → A = PL) := hAp
                clear HV1 ht1 hg1 H9 hAp
                go_wp2_with (at_builtin; refine wp_appH rfl _ _ 22 56 rfl i0 _ 2 32 w.heap.size Tryd.underlying22 HI.out.1 HI.out.2.1 HI.out.2.2.1 HI.out.2.2.2 rfl (by decide) _ acc.length (lbf acc) (some ⟨w10.heap.size, 0, none⟩) 1 1 [.string (ByteArray.mk ⟨nm⟩), .string (ByteArray.mk ⟨vl⟩)] rfl rfl (World.ownsRow.alloc H10.out.1 _) rfl (box_rdc w10 _ _) (fun h => by cases h) (two_one _ _) (by omega) (by omega) (by have := H10.out.2.2.size; simp; omega) ?_)
                intro v4 w4 ho4 hf4
                have H4 : Hid (OwnL w4 w.heap.size v4 (acc ++ [(nm, vl)]) ∧ TxR w4 g s A b5 ∧ w.grownBy w4 (some g)) := by
                  have hgA := World.grownBy_alloc w10 (.cells #[.string (ByteArray.mk ⟨nm⟩), .string (ByteArray.mk ⟨vl⟩)] 56) none
                  have hl := H10.out.1.lt
                  refine ⟨OwnL.snoc ho4, (H10.out.2.1.keep hgA).far hf4.1 (fun j hj => by have := (hl j hj).1; omega), gb_trans (gb_none H10.out.2.2 hgA) hf4.1 (fun j hj hlt => by have := (hl j (by first | exact hj | exact hj.symm)).1; omega)⟩
                clear ho4 hf4 H10
                go_wp2_with fail
                go_roundw
                case rel =>
                  by_cases hb5 : b5 = 0
                  · obtain ⟨q1, q2⟩ := HQ2.out.1 hb5
                    have q3 := HAP.out hb5
                    rw [hb5] at H4
                    rw [← q3] at q1 q2
                    exact ⟨A, 0, fx, acc ++ [(nm, vl)], hA, by simp; omega, H4.out.1, H4.out.2.1, H4.out.2.2, .inl ⟨rfl, by omega, by simp; omega, .inr ⟨by simp, q1⟩⟩⟩
                  · exact ⟨A, b5, fx, acc ++ [(nm, vl)], hA, by simp; omega, H4.out.1, H4.out.2.1, H4.out.2.2, .inr ⟨hb5, HQ2.out.2 hb5⟩⟩
                case measure =>
                  by_cases hb5 : b5 = 0
                  · obtain ⟨q1, q2⟩ := HQ2.out.1 hb5
                    have q3 := HAP.out hb5
                    rw [hb5] at H4
                    rw [HM.out, H4.out.2.1.rnM0]
                    omega
                  · rw [HM.out, H4.out.2.1.rnMb hb5]
                    omega
              | false =>
                have hb1 : bn = k3 + 1 := by rw [hbn]; exact if_neg (by rw [hnb]; simp)
                rw [hnb] at HN1
                clear hnb hbn
                go_wp2_with fail
                refine HN1.out.mono ?_
                rintro e w8 ⟨rfl, hg1⟩
                have H8 : Hid (OwnL w8 w.heap.size (.slice a3 acc.length c3) acc ∧ TxR w8 g s (k3 + (nmS s k3).length) 0 ∧ w.grownBy w8 (some g)) := ⟨H7.out.1.keep hg1, H7.out.2.1.keep hg1, gb_none H7.out.2.2 hg1⟩
                clear HN1 hg1 H7 c0 c1 c2
                have HF1 : Hid (Calls Tryd.prog 70 #[.pointer (some ⟨g, 0, none⟩), .int .i64 (k3 : Int)] w8 fun e w' => e = .returned (.tuple #[]) ∧ TxR w' g s (k3 + (nmS s k3).length) bn ∧ w8.grownBy w' (some g)) := by rw [hb1]; exact refFail_any w8 g s _ 0 k3 H8.out.2.1 (by omega)
                clear hb1
                go_wp2_with fail
                refine HF1.out.mono ?_
                rintro e w5 ⟨rfl, ht1, hg1⟩
                have H5 : Hid (OwnL w5 w.heap.size (.slice a3 acc.length c3) acc ∧ TxR w5 g s (k3 + (nmS s k3).length) bn ∧ w.grownBy w5 (some g)) := ⟨H8.out.1.kept hg1 hgl, ht1, gb_trans H8.out.2.2 hg1 (fun _ h _ => h.symm)⟩
                clear HF1 ht1 hg1 H8
                obtain ⟨k4, b4, h4⟩ : ∃ k4 b4, (k4, b4) = wantS s (k3 + (nmS s k3).length) bn 61 := ⟨_, _, rfl⟩
                have HE1 : Hid (Calls Tryd.prog 102 #[.pointer (some ⟨g, 0, none⟩), .int .u8 61] w5 fun e w' => e = .returned (.tuple #[]) ∧ TxR w' g s k4 b4 ∧ w5.grownBy w' (some g)) := by
                  have := HEQ.out w5 _ _ hnl H5.out.2.1
                  rw [← h4] at this
                  exact this
                have hk4 : k4 ≤ s.length := by
                  have := wantS_le (c := 61) (b := bn) hnl
                  rw [← h4] at this
                  exact this
                have HQ2 := HQ.out k4 b4 h4
                have HV1 : Hid (∀ W, TxR W g s k4 b4 → Calls Tryd.prog 103 #[.pointer (some ⟨g, 0, none⟩)] W fun e w' => e = .returned (.string (ByteArray.mk ⟨(rvS s k4 b4).1⟩)) ∧ (∃ A, A ≤ s.length ∧ ((rvS s k4 b4).2 = 0 → A = (valS (s.length + 1) s (wantS s k4 b4 34).1 []).2.2) ∧ TxR w' g s A (rvS s k4 b4).2) ∧ W.grownBy w' (some g)) := fun W hW => HVA.out W k4 b4 hk4 hW
                clear HQ h4 HVA HEQ HRU HBL HCO HIS
                generalize (valS (s.length + 1) s (wantS s k4 b4 34).1 []).2.2 = PL at *
                generalize rvS s k4 b4 = RV at *
                obtain ⟨vl, b5⟩ := RV
                generalize nmS s k3 = nm at *
                dsimp only at HQ2 HV1
                have HQ2 : Hid ((b5 = 0 → V = tailS fx s PL (acc ++ [(nm, vl)]) ∧ k3 < PL) ∧ (b5 ≠ 0 → V.2.1 = false ∧ b5 = V.2.2 + 1)) := HQ2
                go_wp2_with fail
                refine HE1.out.mono ?_
                rintro e w9 ⟨rfl, ht1, hg1⟩
                have H9 : Hid (OwnL w9 w.heap.size (.slice a3 acc.length c3) acc ∧ TxR w9 g s k4 b4 ∧ w.grownBy w9 (some g)) := ⟨H5.out.1.kept hg1 hgl, ht1, gb_trans H5.out.2.2 hg1 (fun _ h _ => h.symm)⟩
                clear HE1 ht1 hg1 H5
                go_wp2_with fail
                refine (HV1.out _ H9.out.2.1).mono ?_
                rintro e w10 ⟨rfl, ⟨A, hA, hAp, ht1⟩, hg1⟩
                have H10 : Hid (OwnL w10 w.heap.size (.slice a3 acc.length c3) acc ∧ TxR w10 g s A b5 ∧ w.grownBy w10 (some g)) := ⟨H9.out.1.kept hg1 hgl, ht1, gb_trans H9.out.2.2 hg1 (fun _ h _ => h.symm)⟩
                have HAP : Hid (b5 = 0 → A = PL) := hAp
                clear HV1 ht1 hg1 H9 hAp
                go_wp2_with (at_builtin; refine wp_appH rfl _ _ 22 56 rfl i0 _ 2 32 w.heap.size Tryd.underlying22 HI.out.1 HI.out.2.1 HI.out.2.2.1 HI.out.2.2.2 rfl (by decide) _ acc.length (lbf acc) (some ⟨w10.heap.size, 0, none⟩) 1 1 [.string (ByteArray.mk ⟨nm⟩), .string (ByteArray.mk ⟨vl⟩)] rfl rfl (World.ownsRow.alloc H10.out.1 _) rfl (box_rdc w10 _ _) (fun h => by cases h) (two_one _ _) (by omega) (by omega) (by have := H10.out.2.2.size; simp; omega) ?_)
                intro v4 w4 ho4 hf4
                have H4 : Hid (OwnL w4 w.heap.size v4 (acc ++ [(nm, vl)]) ∧ TxR w4 g s A b5 ∧ w.grownBy w4 (some g)) := by
                  have hgA := World.grownBy_alloc w10 (.cells #[.string (ByteArray.mk ⟨nm⟩), .string (ByteArray.mk ⟨vl⟩)] 56) none
                  have hl := H10.out.1.lt
                  refine ⟨OwnL.snoc ho4, (H10.out.2.1.keep hgA).far hf4.1 (fun j hj => by have := (hl j hj).1; omega), gb_trans (gb_none H10.out.2.2 hgA) hf4.1 (fun j hj hlt => by have := (hl j (by first | exact hj | exact hj.symm)).1; omega)⟩
                clear ho4 hf4 H10
                go_wp2_with fail
                go_roundw
                case rel =>
                  by_cases hb5 : b5 = 0
                  · obtain ⟨q1, q2⟩ := HQ2.out.1 hb5
                    have q3 := HAP.out hb5
                    rw [hb5] at H4
                    rw [← q3] at q1 q2
                    exact ⟨A, 0, fx, acc ++ [(nm, vl)], hA, by simp; omega, H4.out.1, H4.out.2.1, H4.out.2.2, .inl ⟨rfl, by omega, by simp; omega, .inr ⟨by simp, q1⟩⟩⟩
                  · exact ⟨A, b5, fx, acc ++ [(nm, vl)], hA, by simp; omega, H4.out.1, H4.out.2.1, H4.out.2.2, .inr ⟨hb5, HQ2.out.2 hb5⟩⟩
                case measure =>
                  by_cases hb5 : b5 = 0
                  · obtain ⟨q1, q2⟩ := HQ2.out.1 hb5
                    have q3 := HAP.out hb5
                    rw [hb5] at H4
                    rw [HM.out, H4.out.2.1.rnM0]
                    omega
                  · rw [HM.out, H4.out.2.1.rnMb hb5]
                    omega
          · have hc' : tkB s (tkK s K 125) 44 = false := by simpa using hc
            have hw : wantS s (tkK s K 125) 0 44 = (tkK s (tkK s K 125) 44, tkK s (tkK s K 125) 44 + 1) := by
              unfold wantS
              rw [if_pos rfl, if_neg hc]
            rw [hw] at HC
            have hVb := tail_bad (f := f' + 1) (acc := acc) ht' hc'
            rw [← hV3] at hVb
            clear hw ht ht' hc hc' hV3
            dsimp only at HC
            generalize hk1e : tkK s K 125 = k1 at *
            generalize tkK s k1 44 = k2 at *
            clear hk1e
            obtain ⟨b2, hb2⟩ : ∃ b2, b2 = k2 + 1 := ⟨_, rfl⟩
            rw [← hb2] at HC
            have hb0 : b2 ≠ 0 := by omega
            have hbi : ((b2 : Int) == 0) = false := by rw [beq_eq_false_iff_ne]; omega
            have hbi2 : ¬ (b2 : Int) = 0 := by omega
            have HVB : Hid (V.2.1 = false ∧ b2 = V.2.2 + 1) := ⟨hVb.1, by rw [hVb.2]; exact hb2⟩
            clear hVb hb2
            go_wp2_with fail
            refine HT.out.mono ?_
            rintro e w1 ⟨rfl, ht1, hg1⟩
            have H1 : Hid (OwnL w1 w.heap.size (.slice a3 acc.length c3) acc ∧ TxR w1 g s k1 0 ∧ w.grownBy w1 (some g)) := ⟨HX.out.1.kept hg1 hgl, ht1, gb_trans HX.out.2.2.1 hg1 (fun _ h _ => h.symm)⟩
            have HM : Hid (rnM s.length wr g = s.length - K + 1) := HX.out.2.2.2
            clear HT ht1 hg1 HX c0 c1 c2
            go_wp2_with fail
            refine (HC.out _ H1.out.2.1).mono ?_
            rintro e w2 ⟨rfl, ht1, hg1⟩
            obtain ⟨c0, c1, c2, -, -⟩ := ht1.cells
            have H2 : Hid (OwnL w2 w.heap.size (.slice a3 acc.length c3) acc ∧ TxR w2 g s k2 b2 ∧ w.grownBy w2 (some g)) := ⟨H1.out.1.kept hg1 hgl, ht1, gb_trans H1.out.2.2 hg1 (fun _ h _ => h.symm)⟩
            clear HC ht1 hg1 H1
            have HB1 := HBL.out w2 k2 b2 hk2 H2.out.2.1
            have HB1 : Hid (Calls Tryd.prog 68 #[.pointer (some ⟨g, 0, none⟩)] w2 fun e w' => e = .returned (.tuple #[]) ∧ TxR w' g s (skp s k2) b2 ∧ w2.grownBy w' (some g)) := HB1
            have hsl := skp_le s k2 hk2
            have hsg : k2 ≤ skp s k2 := by unfold skp; omega
            have HSK : Hid (skp s (skp s k2) = skp s k2) := skp_idem s k2
            generalize skp s k2 = k3 at *
            go_wp2_with fail
            refine HB1.out.mono ?_
            rintro e w3 ⟨rfl, ht1, hg1⟩
            clear c0 c1 c2
            obtain ⟨c0, c1, c2, -, -⟩ := ht1.cells
            have H3 : Hid (OwnL w3 w.heap.size (.slice a3 acc.length c3) acc ∧ TxR w3 g s k3 b2 ∧ w.grownBy w3 (some g)) := ⟨H2.out.1.kept hg1 hgl, ht1, gb_trans H2.out.2.2 hg1 (fun _ h _ => h.symm)⟩
            clear HB1 ht1 hg1 H2
            have HR1 := HRU.out w3 k3 b2 hsl H3.out.2.1
            rw [HSK.out] at HR1
            have HR1 : Hid (Calls Tryd.prog 69 #[.pointer (some ⟨g, 0, none⟩), .bool false] w3 fun e w' => e = .returned (.string (ByteArray.mk ⟨nmS s k3⟩)) ∧ TxR w' g s (k3 + (nmS s k3).length) b2 ∧ w3.grownBy w' (some g)) := HR1
            have hnl := nmS_le s k3 hsl
            go_wp2_with fail
            refine HR1.out.mono ?_
            rintro e w5 ⟨rfl, ht1, hg1⟩
            clear c0 c1 c2
            obtain ⟨c0, c1, c2, -, -⟩ := ht1.cells
            have H5 : Hid (OwnL w5 w.heap.size (.slice a3 acc.length c3) acc ∧ TxR w5 g s (k3 + (nmS s k3).length) b2 ∧ w.grownBy w5 (some g)) := ⟨H3.out.1.kept hg1 hgl, ht1, gb_trans H3.out.2.2 hg1 (fun _ h _ => h.symm)⟩
            clear HR1 ht1 hg1 H3
            obtain ⟨fx, hfx⟩ : ∃ fx, fx = f' := ⟨_, rfl⟩
            have hfK : s.length < k3 + (fx + 1) := by have := hk2g; have := hk1g; omega
            clear hfx
            have HQ : Hid (∀ k4 b4, (k4, b4) = wantS s (k3 + (nmS s k3).length) b2 61 → ((rvS s k4 b4).2 = 0 → V = tailS fx s (valS (s.length + 1) s (wantS s k4 b4 34).1 []).2.2 (acc ++ [(nmS s k3, (rvS s k4 b4).1)]) ∧ k3 < (valS (s.length + 1) s (wantS s k4 b4 34).1 []).2.2) ∧ ((rvS s k4 b4).2 ≠ 0 → V.2.1 = false ∧ (rvS s k4 b4).2 = V.2.2 + 1)) := by
              intro k4 b4 h4
              rw [wantS_bad hb0, Prod.mk.injEq] at h4
              obtain ⟨rfl, rfl⟩ := h4
              rw [rvS_bad hb0]
              exact ⟨fun h => absurd h hb0, fun _ => HVB.out⟩
            obtain ⟨bn, hbn⟩ : ∃ bn, bn = b2 := ⟨_, rfl⟩
            rw [← hbn] at HQ H5
            clear hbn
            have hKk : K ≤ k3 := by have := hk2g; have := hk1g; omega
            obtain ⟨k4, b4, h4⟩ : ∃ k4 b4, (k4, b4) = wantS s (k3 + (nmS s k3).length) bn 61 := ⟨_, _, rfl⟩
            have HE1 : Hid (Calls Tryd.prog 102 #[.pointer (some ⟨g, 0, none⟩), .int .u8 61] w5 fun e w' => e = .returned (.tuple #[]) ∧ TxR w' g s k4 b4 ∧ w5.grownBy w' (some g)) := by
              have := HEQ.out w5 _ _ hnl H5.out.2.1
              rw [← h4] at this
              exact this
            have hk4 : k4 ≤ s.length := by
              have := wantS_le (c := 61) (b := bn) hnl
              rw [← h4] at this
              exact this
            have HQ2 := HQ.out k4 b4 h4
            have HV1 : Hid (∀ W, TxR W g s k4 b4 → Calls Tryd.prog 103 #[.pointer (some ⟨g, 0, none⟩)] W fun e w' => e = .returned (.string (ByteArray.mk ⟨(rvS s k4 b4).1⟩)) ∧ (∃ A, A ≤ s.length ∧ ((rvS s k4 b4).2 = 0 → A = (valS (s.length + 1) s (wantS s k4 b4 34).1 []).2.2) ∧ TxR w' g s A (rvS s k4 b4).2) ∧ W.grownBy w' (some g)) := fun W hW => HVA.out W k4 b4 hk4 hW
            clear HQ h4 HVA HEQ HRU HBL HCO HIS
            generalize (valS (s.length + 1) s (wantS s k4 b4 34).1 []).2.2 = PL at *
            generalize rvS s k4 b4 = RV at *
            obtain ⟨vl, b5⟩ := RV
            generalize nmS s k3 = nm at *
            dsimp only at HQ2 HV1
            have HQ2 : Hid ((b5 = 0 → V = tailS fx s PL (acc ++ [(nm, vl)]) ∧ k3 < PL) ∧ (b5 ≠ 0 → V.2.1 = false ∧ b5 = V.2.2 + 1)) := HQ2
            go_wp2_with fail
            refine HE1.out.mono ?_
            rintro e w9 ⟨rfl, ht1, hg1⟩
            have H9 : Hid (OwnL w9 w.heap.size (.slice a3 acc.length c3) acc ∧ TxR w9 g s k4 b4 ∧ w.grownBy w9 (some g)) := ⟨H5.out.1.kept hg1 hgl, ht1, gb_trans H5.out.2.2 hg1 (fun _ h _ => h.symm)⟩
            clear HE1 ht1 hg1 H5
            go_wp2_with fail
            refine (HV1.out _ H9.out.2.1).mono ?_
            rintro e w10 ⟨rfl, ⟨A, hA, hAp, ht1⟩, hg1⟩
            have H10 : Hid (OwnL w10 w.heap.size (.slice a3 acc.length c3) acc ∧ TxR w10 g s A b5 ∧ w.grownBy w10 (some g)) := ⟨H9.out.1.kept hg1 hgl, ht1, gb_trans H9.out.2.2 hg1 (fun _ h _ => h.symm)⟩
            have HAP : Hid (b5 = 0 → A = PL) := hAp
            clear HV1 ht1 hg1 H9 hAp
            go_wp2_with (at_builtin; refine wp_appH rfl _ _ 22 56 rfl i0 _ 2 32 w.heap.size Tryd.underlying22 HI.out.1 HI.out.2.1 HI.out.2.2.1 HI.out.2.2.2 rfl (by decide) _ acc.length (lbf acc) (some ⟨w10.heap.size, 0, none⟩) 1 1 [.string (ByteArray.mk ⟨nm⟩), .string (ByteArray.mk ⟨vl⟩)] rfl rfl (World.ownsRow.alloc H10.out.1 _) rfl (box_rdc w10 _ _) (fun h => by cases h) (two_one _ _) (by omega) (by omega) (by have := H10.out.2.2.size; simp; omega) ?_)
            intro v4 w4 ho4 hf4
            have H4 : Hid (OwnL w4 w.heap.size v4 (acc ++ [(nm, vl)]) ∧ TxR w4 g s A b5 ∧ w.grownBy w4 (some g)) := by
              have hgA := World.grownBy_alloc w10 (.cells #[.string (ByteArray.mk ⟨nm⟩), .string (ByteArray.mk ⟨vl⟩)] 56) none
              have hl := H10.out.1.lt
              refine ⟨OwnL.snoc ho4, (H10.out.2.1.keep hgA).far hf4.1 (fun j hj => by have := (hl j hj).1; omega), gb_trans (gb_none H10.out.2.2 hgA) hf4.1 (fun j hj hlt => by have := (hl j (by first | exact hj | exact hj.symm)).1; omega)⟩
            clear ho4 hf4 H10
            go_wp2_with fail
            go_roundw
            case rel =>
              by_cases hb5 : b5 = 0
              · obtain ⟨q1, q2⟩ := HQ2.out.1 hb5
                have q3 := HAP.out hb5
                rw [hb5] at H4
                rw [← q3] at q1 q2
                exact ⟨A, 0, fx, acc ++ [(nm, vl)], hA, by simp; omega, H4.out.1, H4.out.2.1, H4.out.2.2, .inl ⟨rfl, by omega, by simp; omega, .inr ⟨by simp, q1⟩⟩⟩
              · exact ⟨A, b5, fx, acc ++ [(nm, vl)], hA, by simp; omega, H4.out.1, H4.out.2.1, H4.out.2.2, .inr ⟨hb5, HQ2.out.2 hb5⟩⟩
            case measure =>
              by_cases hb5 : b5 = 0
              · obtain ⟨q1, q2⟩ := HQ2.out.1 hb5
                have q3 := HAP.out hb5
                rw [hb5] at H4
                rw [HM.out, H4.out.2.1.rnM0]
                omega
              · rw [HM.out, H4.out.2.1.rnMb hb5]
                omega
    · have hbi : ((B : Int) == 0) = false := by rw [beq_eq_false_iff_ne]; omega
      have hbi2 : ¬ (B : Int) = 0 := by omega
      have HX : Hid (OwnL wr w.heap.size (.slice a3 acc.length c3) acc ∧ TxR wr g s K B ∧ w.grownBy wr (some g)) := ⟨hOw, hTx, hgr⟩
      clear hOw hTx hgr
      have HE : Hid (V.2.1 = false ∧ B = V.2.2 + 1) := ⟨hV1, hV2⟩
      clear hV1 hV2
      go_wp2
      go_ret
      exact ⟨_, acc, K, rfl, HX.out.1, hal, hK, HX.out.2.2, .inr ⟨HE.out.1, by rw [← HE.out.2]; exact HX.out.2.1⟩⟩
end Go.Proofs.YtkcgikgihbglnaaDoor
