/-
  The document's names of labels and metrics: the walks, the second part.
-/
import Derived.Test.YtmgbcmogdjhacaaDoorLbR
namespace Go.Proofs.YtmgbcmogdjhacaaDoor
open Go.RowKit

set_option maxRecDepth 8000 in
set_option maxHeartbeats 3200000 in
theorem refName_any (w : World) (l : List UInt8) (hl : l.length ≤ 1000000000000000000) :
    Calls Tryd.prog 49 #[.string (ByteArray.mk ⟨l⟩)] w fun e w' => e = .returned (.bool (bName l)) ∧ w.grownBy w' none := by
  have hz : (ByteArray.mk ⟨l⟩).size = l.length := rfl
  by_cases h0 : l = []
  · subst h0
    have H : Hid (bName [] = false) := rfl
    generalize bName [] = B at *
    go_enter Tryd.func49, Tryd.ntmps49
    go_wp2
    go_ret
    exact ⟨by rw [H.out]; rfl, gb_refl _ _⟩
  have hne : (ByteArray.mk ⟨l⟩).toList.isEmpty = false := by rw [ByteArray.toList_eq]; cases l with | nil => exact absurd rfl h0 | cons c t => rfl
  have hne2 : ¬ (ByteArray.mk ⟨l⟩).toList = [] := by rw [ByteArray.toList_eq]; exact h0
  have hne3 : l.isEmpty = false := by cases l with | nil => exact absurd rfl h0 | cons c t => rfl
  have hne4 : ¬ l = [] := h0
  by_cases h1 : mostName < l.length
  · have h1' : (mostName : Int) < (l.length : Int) := by omega
    have H : Hid (bName l = false) := longName l h1
    generalize bName l = B at *
    simp only [mostName] at h1'
    go_enter Tryd.func49, Tryd.ntmps49
    go_wp2
    go_ret
    exact ⟨by rw [H.out]; rfl, gb_refl _ _⟩
  have h1' : ¬ (mostName : Int) < (l.length : Int) := by omega
  simp only [mostName] at h1'
  have HT : Hid ((∀ j, j < l.length → okName l j = true) → bName l = true) := fun h => allName l h0 (by omega) h
  have HF : Hid (∀ j, j < l.length → okName l j = false → bName l = false) := fun j hj h => noneName l j hj h
  have HP : Hid (0 < l.length) := List.length_pos_iff.2 h0
  generalize bName l = B at *
  clear h0 h1
  go_enter Tryd.func49, Tryd.ntmps49
  go_wp2
  go_loopw [13] (fun i wr => ∃ z : Nat, z ≤ l.length ∧ i = .int .i64 z ∧ Hid (w.grownBy wr none ∧ ∀ j, j < z → okName l j = true)) (fun i _ => l.length - (intOf i).toNat)
  case atStart => exact ⟨0, by omega, rfl, gb_refl _ _, fun j hj => by omega⟩
  case round =>
    obtain ⟨z, hzN, rfl, hr⟩ := hrel
    by_cases hzl : z < l.length
    · have hbz : ∀ h, (ByteArray.mk ⟨l⟩)[z]'h = l.getD z 0 := fun h => by
        have : l.getD z 0 = l[z] := by simp [hzl]
        rw [this]
        rfl
      have HL : Hid (∀ W, Calls Tryd.prog 58 #[.int .u8 ((l.getD z 0).toNat : Int)] W fun e w' => e = .returned (.bool (pLetter (l.getD z 0))) ∧ w' = W) := fun W => refLetter_any _ W
      have HD : Hid (∀ W, Calls Tryd.prog 59 #[.int .u8 ((l.getD z 0).toNat : Int)] W fun e w' => e = .returned (.bool (pDigit (l.getD z 0))) ∧ w' = W) := fun W => refDigit_any _ W
      have HO : Hid (okName l z = okcName (decide (z ≠ 0)) (l.getD z 0)) := rfl
      have HGo : Hid (okName l z = true → ∀ j, j < z + 1 → okName l j = true) := fun h j hj => by
        by_cases e : j = z
        · rw [e]; exact h
        · exact hr.out.2 j (by omega)
      have HNo : Hid (okName l z = false → B = false) := HF.out z hzl
      have HG : Hid (w.grownBy wr none) := hr.out.1
      clear hr HF HT
      generalize okName l z = k at *
      generalize l.getD z 0 = c at *
      obtain ⟨zb, hzb⟩ : ∃ zb, decide (z ≠ 0) = zb := ⟨_, rfl⟩
      rw [hzb] at HO
      unfold okcName at HO
      by_cases hz0 : z = 0
      · subst hz0
        obtain rfl : zb = false := hzb.symm
        clear hzb
        cases hl1 : pLetter c with
        | true =>
          rw [hl1] at HL HO
          have hk : k = true := by rw [HO.out]; simp
          have H' := HGo.out hk
          have H2 : Hid (∀ j, j < 0 + 1 → okName l j = true) := H'
          clear H' HGo HNo HO HD hl1 hk
          go_wp2_with (go_at_call 58; with_reducible refine (HL.out _).mono ?_; rintro e w' ⟨rfl, rfl⟩)
          go_roundw
          case rel => exact ⟨0 + 1, by omega, by go_num, HG.out, H2.out⟩
          case measure => simp [intOf]; omega
        | false =>
          rw [hl1] at HL HO
          have hB : B = false := HNo.out (by rw [HO.out]; simp)
          subst hB
          clear HGo HNo HO hl1
          go_wp2_with (first | (go_at_call 58; with_reducible refine (HL.out _).mono ?_; rintro e w' ⟨rfl, rfl⟩) | (go_at_call 59; with_reducible refine (HD.out _).mono ?_; rintro e w' ⟨rfl, rfl⟩))
          go_ret
          exact ⟨rfl, HG.out⟩

      · have hzi : ((z : Int) == 0) = false := by rw [beq_eq_false_iff_ne]; omega
        have hzi2 : ¬ (z : Int) = 0 := by omega
        obtain rfl : zb = true := by rw [← hzb]; exact decide_eq_true hz0
        clear hzb
        cases hl1 : pLetter c with
        | true =>
          rw [hl1] at HL HO
          have hk : k = true := by rw [HO.out]; simp
          have H' := HGo.out hk
          have H2 : Hid (∀ j, j < z + 1 → okName l j = true) := H'
          clear H' HGo HNo HO HD hl1 hk
          go_wp2_with (go_at_call 58; with_reducible refine (HL.out _).mono ?_; rintro e w' ⟨rfl, rfl⟩)
          go_roundw
          case rel => exact ⟨z + 1, by omega, by go_num, HG.out, H2.out⟩
          case measure => simp [intOf]; omega
        | false =>
          rw [hl1] at HL HO
          cases hd1 : pDigit c with
          | true =>
            rw [hd1] at HD HO
            have hk : k = true := by rw [HO.out]; simp
            have H' := HGo.out hk
            have H2 : Hid (∀ j, j < z + 1 → okName l j = true) := H'
            clear H' HGo HNo HO hl1 hk
            go_wp2_with (first | (go_at_call 58; with_reducible refine (HL.out _).mono ?_; rintro e w' ⟨rfl, rfl⟩) | (go_at_call 59; with_reducible refine (HD.out _).mono ?_; rintro e w' ⟨rfl, rfl⟩))
            go_roundw
            case rel => exact ⟨z + 1, by omega, by go_num, HG.out, H2.out⟩
            case measure => simp [intOf]; omega

          | false =>
            rw [hd1] at HD HO
            have hB : B = false := HNo.out (by rw [HO.out]; simp)
            subst hB
            clear HGo HNo HO hl1
            go_wp2_with (first | (go_at_call 58; with_reducible refine (HL.out _).mono ?_; rintro e w' ⟨rfl, rfl⟩) | (go_at_call 59; with_reducible refine (HD.out _).mono ?_; rintro e w' ⟨rfl, rfl⟩))
            go_ret
            exact ⟨rfl, HG.out⟩

    · have hzz : z = l.length := by omega
      have hB : B = true := HT.out (fun j hj => hr.out.2 j (by omega))
      subst hB
      have HG : Hid (w.grownBy wr none) := hr.out.1
      clear hr HT HF
      go_wp2
      go_ret
      exact ⟨rfl, HG.out⟩


end Go.Proofs.YtmgbcmogdjhacaaDoor
