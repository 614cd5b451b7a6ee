/-
  U8Ref, U8Ref2, U8Rq, in one text.
-/
import Derived.Test.YtifjdfmmafbhkaaGreatDoorU8Facts
import Derived.Test.YtifjdfmmafbhkaaGreatDoorLaws
import Derived.Deep.QuietTactic
import Derived.BigQuiet
/- U8Ref -/
namespace Go.Proofs.YtifjdfmmafbhkaaGreatDoor
open Go.RowKit Go.Lib

/-- the rune that the first bytes behind a lead make -/
def rr (l : List UInt8) (k r0 : Nat) : Nat → Nat
  | 0 => r0
  | j + 1 => rr l k r0 j * 64 + (l.getD (k + 1 + j) 0).toNat % 64
theorem getD_drop (l : List UInt8) (k j : Nat) : (l.drop k).getD j 0 = l.getD (k + j) 0 := by simp [List.getD, List.getElem?_drop]
theorem drop_ne {l : List UInt8} {k : Nat} (h : k < l.length) : l.drop k ≠ [] := fun e => by
  have := congrArg List.length e
  simp at this
  omega
def Cont (l : List UInt8) (k t : Nat) : Prop := k + 1 + t < l.length ∧ 128 ≤ (l.getD (k + 1 + t) 0).toNat ∧ (l.getD (k + 1 + t) 0).toNat ≤ 191
def BadR (least R : Nat) : Prop := R < least ∨ 1114111 < R ∨ (55296 ≤ R ∧ R < 57344)
/-- a lead with so many bytes behind it -/
structure Lead (l : List UInt8) (k nn least r0 : Nat) (ANS : Bool) : Prop where
  bad : ∀ t, t < nn → ¬ Cont l k t → ANS = false
  fin : (∀ t, t < nn → Cont l k t) → (BadR least (rr l k r0 nn) → ANS = false) ∧ (¬ BadR least (rr l k r0 nn) → validD (l.drop (k + nn + 1)) = ANS)
  low : rr l k r0 nn ≤ 2097151
theorem lead1 {l : List UInt8} {k b0 : Nat} {ANS : Bool} (hk : k < l.length) (h0 : (l.getD k 0).toNat = b0) (hA : validD (l.drop k) = ANS) (hb : 194 ≤ b0 ∧ b0 < 224) : Lead l k 1 128 (b0 % 32) ANS := by
  have h := u8_two (drop_ne hk) (by rw [getD_drop]; exact h0) rfl hb
  rw [getD_drop, hA, List.length_drop, List.drop_drop] at h
  have l1 := (l.getD (k + 1) 0).toNat_lt
  refine ⟨fun t ht hc => ?_, fun hg => ?_, ?_⟩
  · have e : t = 0 := by omega
    subst e
    rw [h, if_neg (fun hh => hc ⟨by omega, hh.2⟩)]
  · have h1 := hg 0 (by omega)
    unfold Cont at h1
    simp only [Nat.add_zero] at h1
    have hR : rr l k (b0 % 32) 1 = b0 % 32 * 64 + (l.getD (k + 1) 0).toNat % 64 := rfl
    rw [if_pos ⟨by omega, h1.2⟩] at h
    rw [hR]
    refine ⟨fun hbad => ?_, fun _ => by rw [h]⟩
    unfold BadR at hbad
    omega
  · show b0 % 32 * 64 + (l.getD (k + 1 + 0) 0).toNat % 64 ≤ 2097151
    omega
theorem lead2 {l : List UInt8} {k b0 : Nat} {ANS : Bool} (hk : k < l.length) (h0 : (l.getD k 0).toNat = b0) (hA : validD (l.drop k) = ANS) (hb : 224 ≤ b0 ∧ b0 < 240) : Lead l k 2 2048 (b0 % 16) ANS := by
  have h := u8_three (drop_ne hk) (by rw [getD_drop]; exact h0) rfl rfl hb rfl
  rw [getD_drop, getD_drop, hA, List.length_drop, List.drop_drop] at h
  refine ⟨fun t ht hc => ?_, fun hg => ?_, ?_⟩
  · rw [h, if_neg]
    rintro ⟨g1, g2, g3, -⟩
    rcases (show t = 0 ∨ t = 1 by omega) with rfl | rfl
    · exact hc ⟨by omega, g2⟩
    · exact hc ⟨by omega, g3⟩
  · have h1 := hg 0 (by omega)
    have h2 := hg 1 (by omega)
    unfold Cont at h1 h2
    simp only [Nat.add_zero] at h1
    have hR : rr l k (b0 % 16) 2 = (b0 % 16 * 64 + (l.getD (k + 1) 0).toNat % 64) * 64 + (l.getD (k + 2) 0).toNat % 64 := rfl
    rw [← hR] at h
    have hlt : rr l k (b0 % 16) 2 ≤ 1114111 := by rw [hR]; omega
    refine ⟨fun hbad => ?_, fun hnb => ?_⟩
    · rw [h, if_neg]
      rintro ⟨-, -, -, g4, g5⟩
      unfold BadR at hbad
      omega
    · unfold BadR at hnb
      rw [h, if_pos ⟨by omega, h1.2, h2.2, by omega, by omega⟩]
  · have hR : rr l k (b0 % 16) 2 = (b0 % 16 * 64 + (l.getD (k + 1) 0).toNat % 64) * 64 + (l.getD (k + 2) 0).toNat % 64 := rfl
    rw [hR]
    omega
theorem lead3 {l : List UInt8} {k b0 : Nat} {ANS : Bool} (hk : k < l.length) (h0 : (l.getD k 0).toNat = b0) (hA : validD (l.drop k) = ANS) (hb : 240 ≤ b0 ∧ b0 < 245) : Lead l k 3 65536 (b0 % 8) ANS := by
  have h := u8_four (drop_ne hk) (by rw [getD_drop]; exact h0) rfl rfl rfl hb rfl
  rw [getD_drop, getD_drop, getD_drop, hA, List.length_drop, List.drop_drop] at h
  refine ⟨fun t ht hc => ?_, fun hg => ?_, ?_⟩
  · rw [h, if_neg]
    rintro ⟨g1, g2, g3, g4, -⟩
    rcases (show t = 0 ∨ t = 1 ∨ t = 2 by omega) with rfl | rfl | rfl
    · exact hc ⟨by omega, g2⟩
    · exact hc ⟨by omega, g3⟩
    · exact hc ⟨by omega, g4⟩
  · have h1 := hg 0 (by omega)
    have h2 := hg 1 (by omega)
    have h3 := hg 2 (by omega)
    unfold Cont at h1 h2 h3
    simp only [Nat.add_zero] at h1
    have hR : rr l k (b0 % 8) 3 = ((b0 % 8 * 64 + (l.getD (k + 1) 0).toNat % 64) * 64 + (l.getD (k + 2) 0).toNat % 64) * 64 + (l.getD (k + 3) 0).toNat % 64 := rfl
    rw [← hR] at h
    refine ⟨fun hbad => ?_, fun hnb => ?_⟩
    · rw [h, if_neg]
      rintro ⟨-, -, -, -, g4, g5⟩
      unfold BadR at hbad
      omega
    · unfold BadR at hnb
      rw [h, if_pos ⟨by omega, h1.2, h2.2, h3.2, by omega, by omega⟩]
  · have hR : rr l k (b0 % 8) 3 = ((b0 % 8 * 64 + (l.getD (k + 1) 0).toNat % 64) * 64 + (l.getD (k + 2) 0).toNat % 64) * 64 + (l.getD (k + 3) 0).toNat % 64 := rfl
    rw [hR]
    omega
theorem drop_stepU {l : List UInt8} {k : Nat} (h : k < l.length) : l.drop k = l.getD k 0 :: l.drop (k + 1) := by
  rw [List.drop_eq_getElem_cons h]
  simp [h]

end Go.Proofs.YtifjdfmmafbhkaaGreatDoor

/- U8Ref2 -/
namespace Go.Proofs.YtifjdfmmafbhkaaGreatDoor
open Go.RowKit Go.Lib

theorem hid_mkU {p : Prop} (h : p) : Hid p := h
set_option maxRecDepth 100000 in
theorem and192 : ∀ X : Fin 256, bits .and .u8 ((X.val : Nat) : Int) 192 = ((X.val / 64 * 64 : Nat) : Int) := by decide
set_option maxRecDepth 100000 in
theorem and63 : ∀ X : Fin 256, bits .and .u8 ((X.val : Nat) : Int) 63 = ((X.val % 64 : Nat) : Int) := by decide
set_option maxRecDepth 100000 in
theorem and31 : ∀ X : Fin 256, bits .and .i64 ((X.val : Nat) : Int) 31 = ((X.val % 32 : Nat) : Int) := by decide
set_option maxRecDepth 100000 in
theorem and15 : ∀ X : Fin 256, bits .and .i64 ((X.val : Nat) : Int) 15 = ((X.val % 16 : Nat) : Int) := by decide
set_option maxRecDepth 100000 in
theorem and7i : ∀ X : Fin 256, bits .and .i64 ((X.val : Nat) : Int) 7 = ((X.val % 8 : Nat) : Int) := by decide

set_option maxRecDepth 100000 in
set_option maxHeartbeats 16000000 in
theorem utf8_walk (w : World) (l : List UInt8) (hl : l.length ≤ 1000000000000000000) :
    Calls Tryz.prog 19 #[.string (ByteArray.mk ⟨l⟩)] w fun e w' => e = .returned (.bool (validD l)) ∧ w.grownBy w' none := by
  have hz : (ByteArray.mk ⟨l⟩).size = l.length := rfl
  obtain ⟨ANS, hA⟩ : ∃ ANS, validD l = ANS := ⟨_, rfl⟩
  rw [hA]
  have HA0 : Hid (validD (l.drop 0) = ANS) := hA
  clear hA
  go_enter Tryz.func19, Tryz.ntmps19
  go_wp2
  go_loopw [3] (fun i wr => ∃ k : Nat, k ≤ l.length ∧ i = .int .i64 (k : Int) ∧ Hid (validD (l.drop k) = ANS ∧ w.grownBy wr none)) (fun i _ => l.length - (intOf i).toNat)
  case atStart => exact ⟨0, by omega, rfl, HA0.out, gb_refl _ _⟩
  case round =>
    obtain ⟨k, hk, rfl, HK⟩ := hrel
    by_cases hkl : k < l.length
    · have hkl2 : (k : Int) < (l.length : Int) := by omega
      obtain ⟨x0, hX, hbe⟩ : ∃ b : UInt8, (∀ h, (ByteArray.mk ⟨l⟩)[k]'h = b) ∧ Hid (l.getD k 0 = b) := by
        refine ⟨l.getD k 0, fun h => ?_, rfl⟩
        simp only [List.getD, List.getElem?_eq_getElem hkl, Option.getD_some]
        rfl
      have hx0lt : x0.toNat < 256 := x0.toNat_lt
      by_cases hasc : x0.toNat < 128
      · have hascz : (x0.toNat : Int) < 128 := by omega
        have HD : Hid (validD (l.drop (k + 1)) = ANS) := by
          show validD (l.drop (k + 1)) = ANS
          have h0 : l.drop k = l.getD k 0 :: l.drop (k + 1) := drop_stepU hkl
          have := HK.out.1
          rw [h0, validD_cons _ _ (by rw [hbe.out]; exact hasc)] at this
          exact this
        go_wp2
        exact ⟨⟨k + 1, by omega, by simp, HD.out, HK.out.2⟩, by simp [intOf]; omega⟩
      · have hascz : ¬ (x0.toNat : Int) < 128 := by omega
        by_cases k1 : 194 ≤ x0.toNat ∧ x0.toNat < 224
        · have k1a : (194 : Int) ≤ (x0.toNat : Int) := by omega
          have k1b : (x0.toNat : Int) < 224 := by omega
          have HL := hid_mkU (lead1 hkl (by rw [hbe.out]) HK.out.1 k1)
          have hb1 := and31 ⟨x0.toNat, hx0lt⟩
          simp only at hb1
          generalize hr0 : x0.toNat % 32 = r0 at HL hb1
          have hr0b : (r0 : Int) ≤ 31 := by omega
          clear hr0
          go_wp2
          go_loopw [7, 8] (fun r kk wx => ∃ j R : Nat, j ≤ 1 ∧ kk = .int .i64 ((j : Int) + 1) ∧ r = .int .i64 (R : Int) ∧ (j = 0 → R ≤ 31) ∧ (j = 1 → R ≤ 2047) ∧ (j = 2 → R ≤ 131071) ∧ R ≤ 8388607 ∧ Hid (R = rr l k r0 j ∧ (∀ t, t < j → Cont l k t) ∧ w.grownBy wx none)) (fun _ kk _ => 1 + 1 - (intOf kk).toNat)
          case atStart => exact ⟨0, r0, by omega, by simp, rfl, by omega, by omega, by omega, by omega, rfl, fun t ht => by omega, HK.out.2⟩
          case round =>
            obtain ⟨j, R, hj, rfl, rfl, b0', b1', b2', b3', HJ⟩ := hrel
            by_cases hjn : j < 1
            · have hjz : (j : Int) + 1 ≤ 1 := by omega
              have hRb : (R : Int) ≤ 131071 := by omega
              obtain ⟨q, hq⟩ : ∃ q, q = k + 1 + j := ⟨_, rfl⟩
              have hqe : (k : Int) + ((j : Int) + 1) = (q : Int) := by omega
              have hqb : (q : Int) ≤ 9223372036854775807 := by omega
              by_cases hin : q < l.length
              · have hinz : (q : Int) < (l.length : Int) := by omega
                have hinz2 : ¬ (l.length : Int) ≤ (q : Int) := by omega
                obtain ⟨y, hY, hye⟩ : ∃ b : UInt8, (∀ h, (ByteArray.mk ⟨l⟩)[q]'h = b) ∧ Hid (l.getD q 0 = b) := by
                  refine ⟨l.getD q 0, fun h => ?_, rfl⟩
                  simp only [List.getD, List.getElem?_eq_getElem hin, Option.getD_some]
                  rfl
                have hylt : y.toNat < 256 := y.toNat_lt
                have h192 := and192 ⟨y.toNat, hylt⟩
                have h63 := and63 ⟨y.toNat, hylt⟩
                simp only at h192 h63
                by_cases hct : 128 ≤ y.toNat ∧ y.toNat ≤ 191
                · rw [show y.toNat / 64 * 64 = 128 by omega] at h192
                  have HN : Hid (R * 64 + y.toNat % 64 = rr l k r0 (j + 1) ∧ (∀ t, t < j + 1 → Cont l k t) ∧ w.grownBy wr none) := by
                    refine ⟨?_, fun t ht => ?_, HJ.out.2.2⟩
                    · show R * 64 + y.toNat % 64 = rr l k r0 j * 64 + (l.getD (k + 1 + j) 0).toNat % 64
                      rw [← HJ.out.1, ← hq, hye.out]
                    · by_cases e : t = j
                      · subst e
                        unfold Cont
                        rw [← hq, hye.out]
                        exact ⟨hin, hct⟩
                      · exact HJ.out.2.1 t (by omega)
                  obtain ⟨d, hd⟩ : ∃ d, y.toNat % 64 = d := ⟨_, rfl⟩
                  rw [hd] at h63 HN
                  have hdb : (d : Int) ≤ 63 := by omega
                  clear hd hct hq
                  go_wp2
                  go_roundw
                  case rel => exact ⟨j + 1, R * 64 + d, by omega, by simp, by simp, by omega, by omega, by omega, by omega, HN⟩
                  case measure => simp [intOf]; omega
                · have HF : Hid (ANS = false) := HL.out.bad j hjn (fun hc => hct (by unfold Cont at hc; rw [← hq, hye.out] at hc; exact hc.2))
                  obtain ⟨C, hC⟩ : ∃ C, y.toNat / 64 * 64 = C := ⟨_, rfl⟩
                  have hCb : ((C : Int) != 128) = true := by simp; omega
                  rw [hC] at h192
                  clear hC hct hq
                  go_wp2
                  go_ret
                  exact ⟨by rw [HF.out]; rfl, HJ.out.2.2⟩
              · have hinz : (l.length : Int) ≤ (q : Int) := by omega
                have HF : Hid (ANS = false) := HL.out.bad j hjn (fun hc => hin (by unfold Cont at hc; rw [← hq] at hc; exact hc.1))
                clear hq
                go_wp2
                go_ret
                exact ⟨by rw [HF.out]; rfl, HJ.out.2.2⟩
            · have hje : j = 1 := by omega
              subst hje
              have hF := HL.out.fin HJ.out.2.1
              rw [← HJ.out.1] at hF
              have HF := hid_mkU hF
              have HW : Hid (w.grownBy wr none) := HJ.out.2.2
              have HLe : Hid (¬ BadR 128 R → k + 1 + 1 ≤ l.length) := fun _ => by
                have := HJ.out.2.1 (1 - 1) (by omega)
                unfold Cont at this
                omega
              clear hF HJ
              by_cases g1 : R < 128
              · have g1z : (R : Int) < 128 := by omega
                have HX := hid_mkU (HF.out.1 (.inl g1))
                go_wp2
                go_ret
                exact ⟨by rw [HX.out]; rfl, HW.out⟩
              · have g1z : ¬ (R : Int) < 128 := by omega
                by_cases g2 : 1114111 < R
                · have g2z : (1114111 : Int) < (R : Int) := by omega
                  have HX := hid_mkU (HF.out.1 (.inr (.inl g2)))
                  go_wp2
                  go_ret
                  exact ⟨by rw [HX.out]; rfl, HW.out⟩
                · have g2z : ¬ (1114111 : Int) < (R : Int) := by omega
                  by_cases g3 : 55296 ≤ R
                  · have g3z : (55296 : Int) ≤ (R : Int) := by omega
                    by_cases g4 : R < 57344
                    · have g4z : (R : Int) < 57344 := by omega
                      have HX := hid_mkU (HF.out.1 (.inr (.inr ⟨g3, g4⟩)))
                      go_wp2
                      go_ret
                      exact ⟨by rw [HX.out]; rfl, HW.out⟩
                    · have g4z : ¬ (R : Int) < 57344 := by omega
                      have HB := hid_mkU (show ¬ BadR 128 R by unfold BadR; omega)
                      have hkn : (k : Int) + 1 + 1 ≤ 9223372036854775807 := by have := HLe.out HB.out; omega
                      go_wp2
                      exact ⟨⟨k + 1 + 1, HLe.out HB.out, by simp <;> omega, HF.out.2 HB.out, HW.out⟩, by simp [intOf] <;> omega⟩
                  · have g3z : ¬ (55296 : Int) ≤ (R : Int) := by omega
                    have HB := hid_mkU (show ¬ BadR 128 R by unfold BadR; omega)
                    have hkn : (k : Int) + 1 + 1 ≤ 9223372036854775807 := by have := HLe.out HB.out; omega
                    go_wp2
                    exact ⟨⟨k + 1 + 1, HLe.out HB.out, by simp <;> omega, HF.out.2 HB.out, HW.out⟩, by simp [intOf] <;> omega⟩

        by_cases k2 : 224 ≤ x0.toNat ∧ x0.toNat < 240
        · have k2a : (194 : Int) ≤ (x0.toNat : Int) := by omega
          have k2b : ¬ (x0.toNat : Int) < 224 := by omega
          have k2c : (224 : Int) ≤ (x0.toNat : Int) := by omega
          have k2d : (x0.toNat : Int) < 240 := by omega
          have HL := hid_mkU (lead2 hkl (by rw [hbe.out]) HK.out.1 k2)
          have hb2 := and15 ⟨x0.toNat, hx0lt⟩
          simp only at hb2
          generalize hr0 : x0.toNat % 16 = r0 at HL hb2
          have hr0b : (r0 : Int) ≤ 31 := by omega
          clear hr0
          go_wp2
          go_loopw [7, 8] (fun r kk wx => ∃ j R : Nat, j ≤ 2 ∧ kk = .int .i64 ((j : Int) + 1) ∧ r = .int .i64 (R : Int) ∧ (j = 0 → R ≤ 31) ∧ (j = 1 → R ≤ 2047) ∧ (j = 2 → R ≤ 131071) ∧ R ≤ 8388607 ∧ Hid (R = rr l k r0 j ∧ (∀ t, t < j → Cont l k t) ∧ w.grownBy wx none)) (fun _ kk _ => 2 + 1 - (intOf kk).toNat)
          case atStart => exact ⟨0, r0, by omega, by simp, rfl, by omega, by omega, by omega, by omega, rfl, fun t ht => by omega, HK.out.2⟩
          case round =>
            obtain ⟨j, R, hj, rfl, rfl, b0', b1', b2', b3', HJ⟩ := hrel
            by_cases hjn : j < 2
            · have hjz : (j : Int) + 1 ≤ 2 := by omega
              have hRb : (R : Int) ≤ 131071 := by omega
              obtain ⟨q, hq⟩ : ∃ q, q = k + 1 + j := ⟨_, rfl⟩
              have hqe : (k : Int) + ((j : Int) + 1) = (q : Int) := by omega
              have hqb : (q : Int) ≤ 9223372036854775807 := by omega
              by_cases hin : q < l.length
              · have hinz : (q : Int) < (l.length : Int) := by omega
                have hinz2 : ¬ (l.length : Int) ≤ (q : Int) := by omega
                obtain ⟨y, hY, hye⟩ : ∃ b : UInt8, (∀ h, (ByteArray.mk ⟨l⟩)[q]'h = b) ∧ Hid (l.getD q 0 = b) := by
                  refine ⟨l.getD q 0, fun h => ?_, rfl⟩
                  simp only [List.getD, List.getElem?_eq_getElem hin, Option.getD_some]
                  rfl
                have hylt : y.toNat < 256 := y.toNat_lt
                have h192 := and192 ⟨y.toNat, hylt⟩
                have h63 := and63 ⟨y.toNat, hylt⟩
                simp only at h192 h63
                by_cases hct : 128 ≤ y.toNat ∧ y.toNat ≤ 191
                · rw [show y.toNat / 64 * 64 = 128 by omega] at h192
                  have HN : Hid (R * 64 + y.toNat % 64 = rr l k r0 (j + 1) ∧ (∀ t, t < j + 1 → Cont l k t) ∧ w.grownBy wr none) := by
                    refine ⟨?_, fun t ht => ?_, HJ.out.2.2⟩
                    · show R * 64 + y.toNat % 64 = rr l k r0 j * 64 + (l.getD (k + 1 + j) 0).toNat % 64
                      rw [← HJ.out.1, ← hq, hye.out]
                    · by_cases e : t = j
                      · subst e
                        unfold Cont
                        rw [← hq, hye.out]
                        exact ⟨hin, hct⟩
                      · exact HJ.out.2.1 t (by omega)
                  obtain ⟨d, hd⟩ : ∃ d, y.toNat % 64 = d := ⟨_, rfl⟩
                  rw [hd] at h63 HN
                  have hdb : (d : Int) ≤ 63 := by omega
                  clear hd hct hq
                  go_wp2
                  go_roundw
                  case rel => exact ⟨j + 1, R * 64 + d, by omega, by simp, by simp, by omega, by omega, by omega, by omega, HN⟩
                  case measure => simp [intOf]; omega
                · have HF : Hid (ANS = false) := HL.out.bad j hjn (fun hc => hct (by unfold Cont at hc; rw [← hq, hye.out] at hc; exact hc.2))
                  obtain ⟨C, hC⟩ : ∃ C, y.toNat / 64 * 64 = C := ⟨_, rfl⟩
                  have hCb : ((C : Int) != 128) = true := by simp; omega
                  rw [hC] at h192
                  clear hC hct hq
                  go_wp2
                  go_ret
                  exact ⟨by rw [HF.out]; rfl, HJ.out.2.2⟩
              · have hinz : (l.length : Int) ≤ (q : Int) := by omega
                have HF : Hid (ANS = false) := HL.out.bad j hjn (fun hc => hin (by unfold Cont at hc; rw [← hq] at hc; exact hc.1))
                clear hq
                go_wp2
                go_ret
                exact ⟨by rw [HF.out]; rfl, HJ.out.2.2⟩
            · have hje : j = 2 := by omega
              subst hje
              have hF := HL.out.fin HJ.out.2.1
              rw [← HJ.out.1] at hF
              have HF := hid_mkU hF
              have HW : Hid (w.grownBy wr none) := HJ.out.2.2
              have HLe : Hid (¬ BadR 2048 R → k + 2 + 1 ≤ l.length) := fun _ => by
                have := HJ.out.2.1 (2 - 1) (by omega)
                unfold Cont at this
                omega
              clear hF HJ
              by_cases g1 : R < 2048
              · have g1z : (R : Int) < 2048 := by omega
                have HX := hid_mkU (HF.out.1 (.inl g1))
                go_wp2
                go_ret
                exact ⟨by rw [HX.out]; rfl, HW.out⟩
              · have g1z : ¬ (R : Int) < 2048 := by omega
                by_cases g2 : 1114111 < R
                · have g2z : (1114111 : Int) < (R : Int) := by omega
                  have HX := hid_mkU (HF.out.1 (.inr (.inl g2)))
                  go_wp2
                  go_ret
                  exact ⟨by rw [HX.out]; rfl, HW.out⟩
                · have g2z : ¬ (1114111 : Int) < (R : Int) := by omega
                  by_cases g3 : 55296 ≤ R
                  · have g3z : (55296 : Int) ≤ (R : Int) := by omega
                    by_cases g4 : R < 57344
                    · have g4z : (R : Int) < 57344 := by omega
                      have HX := hid_mkU (HF.out.1 (.inr (.inr ⟨g3, g4⟩)))
                      go_wp2
                      go_ret
                      exact ⟨by rw [HX.out]; rfl, HW.out⟩
                    · have g4z : ¬ (R : Int) < 57344 := by omega
                      have HB := hid_mkU (show ¬ BadR 2048 R by unfold BadR; omega)
                      have hkn : (k : Int) + 2 + 1 ≤ 9223372036854775807 := by have := HLe.out HB.out; omega
                      go_wp2
                      exact ⟨⟨k + 2 + 1, HLe.out HB.out, by simp <;> omega, HF.out.2 HB.out, HW.out⟩, by simp [intOf] <;> omega⟩
                  · have g3z : ¬ (55296 : Int) ≤ (R : Int) := by omega
                    have HB := hid_mkU (show ¬ BadR 2048 R by unfold BadR; omega)
                    have hkn : (k : Int) + 2 + 1 ≤ 9223372036854775807 := by have := HLe.out HB.out; omega
                    go_wp2
                    exact ⟨⟨k + 2 + 1, HLe.out HB.out, by simp <;> omega, HF.out.2 HB.out, HW.out⟩, by simp [intOf] <;> omega⟩

        by_cases k3 : 240 ≤ x0.toNat ∧ x0.toNat < 245
        · have k3a : (194 : Int) ≤ (x0.toNat : Int) := by omega
          have k3b : ¬ (x0.toNat : Int) < 224 := by omega
          have k3c : (224 : Int) ≤ (x0.toNat : Int) := by omega
          have k3d : ¬ (x0.toNat : Int) < 240 := by omega
          have k3e : (240 : Int) ≤ (x0.toNat : Int) := by omega
          have k3f : (x0.toNat : Int) < 245 := by omega
          have HL := hid_mkU (lead3 hkl (by rw [hbe.out]) HK.out.1 k3)
          have hb3 := and7i ⟨x0.toNat, hx0lt⟩
          simp only at hb3
          generalize hr0 : x0.toNat % 8 = r0 at HL hb3
          have hr0b : (r0 : Int) ≤ 31 := by omega
          clear hr0
          go_wp2
          go_loopw [7, 8] (fun r kk wx => ∃ j R : Nat, j ≤ 3 ∧ kk = .int .i64 ((j : Int) + 1) ∧ r = .int .i64 (R : Int) ∧ (j = 0 → R ≤ 31) ∧ (j = 1 → R ≤ 2047) ∧ (j = 2 → R ≤ 131071) ∧ R ≤ 8388607 ∧ Hid (R = rr l k r0 j ∧ (∀ t, t < j → Cont l k t) ∧ w.grownBy wx none)) (fun _ kk _ => 3 + 1 - (intOf kk).toNat)
          case atStart => exact ⟨0, r0, by omega, by simp, rfl, by omega, by omega, by omega, by omega, rfl, fun t ht => by omega, HK.out.2⟩
          case round =>
            obtain ⟨j, R, hj, rfl, rfl, b0', b1', b2', b3', HJ⟩ := hrel
            by_cases hjn : j < 3
            · have hjz : (j : Int) + 1 ≤ 3 := by omega
              have hRb : (R : Int) ≤ 131071 := by omega
              obtain ⟨q, hq⟩ : ∃ q, q = k + 1 + j := ⟨_, rfl⟩
              have hqe : (k : Int) + ((j : Int) + 1) = (q : Int) := by omega
              have hqb : (q : Int) ≤ 9223372036854775807 := by omega
              by_cases hin : q < l.length
              · have hinz : (q : Int) < (l.length : Int) := by omega
                have hinz2 : ¬ (l.length : Int) ≤ (q : Int) := by omega
                obtain ⟨y, hY, hye⟩ : ∃ b : UInt8, (∀ h, (ByteArray.mk ⟨l⟩)[q]'h = b) ∧ Hid (l.getD q 0 = b) := by
                  refine ⟨l.getD q 0, fun h => ?_, rfl⟩
                  simp only [List.getD, List.getElem?_eq_getElem hin, Option.getD_some]
                  rfl
                have hylt : y.toNat < 256 := y.toNat_lt
                have h192 := and192 ⟨y.toNat, hylt⟩
                have h63 := and63 ⟨y.toNat, hylt⟩
                simp only at h192 h63
                by_cases hct : 128 ≤ y.toNat ∧ y.toNat ≤ 191
                · rw [show y.toNat / 64 * 64 = 128 by omega] at h192
                  have HN : Hid (R * 64 + y.toNat % 64 = rr l k r0 (j + 1) ∧ (∀ t, t < j + 1 → Cont l k t) ∧ w.grownBy wr none) := by
                    refine ⟨?_, fun t ht => ?_, HJ.out.2.2⟩
                    · show R * 64 + y.toNat % 64 = rr l k r0 j * 64 + (l.getD (k + 1 + j) 0).toNat % 64
                      rw [← HJ.out.1, ← hq, hye.out]
                    · by_cases e : t = j
                      · subst e
                        unfold Cont
                        rw [← hq, hye.out]
                        exact ⟨hin, hct⟩
                      · exact HJ.out.2.1 t (by omega)
                  obtain ⟨d, hd⟩ : ∃ d, y.toNat % 64 = d := ⟨_, rfl⟩
                  rw [hd] at h63 HN
                  have hdb : (d : Int) ≤ 63 := by omega
                  clear hd hct hq
                  go_wp2
                  go_roundw
                  case rel => exact ⟨j + 1, R * 64 + d, by omega, by simp, by simp, by omega, by omega, by omega, by omega, HN⟩
                  case measure => simp [intOf]; omega
                · have HF : Hid (ANS = false) := HL.out.bad j hjn (fun hc => hct (by unfold Cont at hc; rw [← hq, hye.out] at hc; exact hc.2))
                  obtain ⟨C, hC⟩ : ∃ C, y.toNat / 64 * 64 = C := ⟨_, rfl⟩
                  have hCb : ((C : Int) != 128) = true := by simp; omega
                  rw [hC] at h192
                  clear hC hct hq
                  go_wp2
                  go_ret
                  exact ⟨by rw [HF.out]; rfl, HJ.out.2.2⟩
              · have hinz : (l.length : Int) ≤ (q : Int) := by omega
                have HF : Hid (ANS = false) := HL.out.bad j hjn (fun hc => hin (by unfold Cont at hc; rw [← hq] at hc; exact hc.1))
                clear hq
                go_wp2
                go_ret
                exact ⟨by rw [HF.out]; rfl, HJ.out.2.2⟩
            · have hje : j = 3 := by omega
              subst hje
              have hF := HL.out.fin HJ.out.2.1
              rw [← HJ.out.1] at hF
              have HF := hid_mkU hF
              have HW : Hid (w.grownBy wr none) := HJ.out.2.2
              have HLe : Hid (¬ BadR 65536 R → k + 3 + 1 ≤ l.length) := fun _ => by
                have := HJ.out.2.1 (3 - 1) (by omega)
                unfold Cont at this
                omega
              clear hF HJ
              by_cases g1 : R < 65536
              · have g1z : (R : Int) < 65536 := by omega
                have HX := hid_mkU (HF.out.1 (.inl g1))
                go_wp2
                go_ret
                exact ⟨by rw [HX.out]; rfl, HW.out⟩
              · have g1z : ¬ (R : Int) < 65536 := by omega
                by_cases g2 : 1114111 < R
                · have g2z : (1114111 : Int) < (R : Int) := by omega
                  have HX := hid_mkU (HF.out.1 (.inr (.inl g2)))
                  go_wp2
                  go_ret
                  exact ⟨by rw [HX.out]; rfl, HW.out⟩
                · have g2z : ¬ (1114111 : Int) < (R : Int) := by omega
                  by_cases g3 : 55296 ≤ R
                  · have g3z : (55296 : Int) ≤ (R : Int) := by omega
                    by_cases g4 : R < 57344
                    · have g4z : (R : Int) < 57344 := by omega
                      have HX := hid_mkU (HF.out.1 (.inr (.inr ⟨g3, g4⟩)))
                      go_wp2
                      go_ret
                      exact ⟨by rw [HX.out]; rfl, HW.out⟩
                    · have g4z : ¬ (R : Int) < 57344 := by omega
                      have HB := hid_mkU (show ¬ BadR 65536 R by unfold BadR; omega)
                      have hkn : (k : Int) + 3 + 1 ≤ 9223372036854775807 := by have := HLe.out HB.out; omega
                      go_wp2
                      exact ⟨⟨k + 3 + 1, HLe.out HB.out, by simp <;> omega, HF.out.2 HB.out, HW.out⟩, by simp [intOf] <;> omega⟩
                  · have g3z : ¬ (55296 : Int) ≤ (R : Int) := by omega
                    have HB := hid_mkU (show ¬ BadR 65536 R by unfold BadR; omega)
                    have hkn : (k : Int) + 3 + 1 ≤ 9223372036854775807 := by have := HLe.out HB.out; omega
                    go_wp2
                    exact ⟨⟨k + 3 + 1, HLe.out HB.out, by simp <;> omega, HF.out.2 HB.out, HW.out⟩, by simp [intOf] <;> omega⟩

        have HF : Hid (ANS = false ∧ w.grownBy wr none) := ⟨by rw [← HK.out.1]; exact u8_bad (b0 := x0.toNat) (drop_ne hkl) (by rw [getD_drop, Nat.add_zero, hbe.out]) (by omega), HK.out.2⟩
        by_cases k4 : x0.toNat < 194
        · have k4a : ¬ (194 : Int) ≤ (x0.toNat : Int) := by omega
          have k4b : ¬ (224 : Int) ≤ (x0.toNat : Int) := by omega
          have k4c : ¬ (240 : Int) ≤ (x0.toNat : Int) := by omega
          go_wp2
          go_ret
          exact ⟨by rw [HF.out.1]; rfl, HF.out.2⟩
        · have k4a : (194 : Int) ≤ (x0.toNat : Int) := by omega
          have k4b : ¬ (x0.toNat : Int) < 224 := by omega
          have k4c : (224 : Int) ≤ (x0.toNat : Int) := by omega
          have k4d : ¬ (x0.toNat : Int) < 240 := by omega
          have k4e : (240 : Int) ≤ (x0.toNat : Int) := by omega
          have k4f : ¬ (x0.toNat : Int) < 245 := by omega
          go_wp2
          go_ret
          exact ⟨by rw [HF.out.1]; rfl, HF.out.2⟩
    · have hkl2 : ¬ (k : Int) < (l.length : Int) := by omega
      have HE : Hid (ANS = true ∧ w.grownBy wr none) := by
        refine ⟨?_, HK.out.2⟩
        have := HK.out.1
        rw [List.drop_eq_nil_of_le (by omega)] at this
        rw [← this]
        rfl
      go_wp2
      go_ret
      exact ⟨by rw [HE.out.1]; rfl, HE.out.2⟩
end Go.Proofs.YtifjdfmmafbhkaaGreatDoor

/- U8Rq -/
namespace Go.Proofs.YtifjdfmmafbhkaaGreatDoor
open Go.RowKit Go.Lib

set_option maxRecDepth 100000 in
set_option maxHeartbeats 16000000 in
theorem utf8_same (w : World) (l : List UInt8) (hl : l.length ≤ 1000000000000000000) :
    Calls Tryz.prog 19 #[.string (ByteArray.mk ⟨l⟩)] w fun e w' => e = .returned (.bool (validD l)) ∧ w' = w := by
  have hz : (ByteArray.mk ⟨l⟩).size = l.length := rfl
  obtain ⟨ANS, hA⟩ : ∃ ANS, validD l = ANS := ⟨_, rfl⟩
  rw [hA]
  have HA0 : Hid (validD (l.drop 0) = ANS) := hA
  clear hA
  go_enter Tryz.func19, Tryz.ntmps19
  go_wp2
  go_loopw [3] (fun i wr => ∃ k : Nat, k ≤ l.length ∧ i = .int .i64 (k : Int) ∧ Hid (validD (l.drop k) = ANS ∧ wr = w)) (fun i _ => l.length - (intOf i).toNat)
  case atStart => exact ⟨0, by omega, rfl, HA0.out, rfl⟩
  case round =>
    obtain ⟨k, hk, rfl, HK⟩ := hrel
    by_cases hkl : k < l.length
    · have hkl2 : (k : Int) < (l.length : Int) := by omega
      obtain ⟨x0, hX, hbe⟩ : ∃ b : UInt8, (∀ h, (ByteArray.mk ⟨l⟩)[k]'h = b) ∧ Hid (l.getD k 0 = b) := by
        refine ⟨l.getD k 0, fun h => ?_, rfl⟩
        simp only [List.getD, List.getElem?_eq_getElem hkl, Option.getD_some]
        rfl
      have hx0lt : x0.toNat < 256 := x0.toNat_lt
      by_cases hasc : x0.toNat < 128
      · have hascz : (x0.toNat : Int) < 128 := by omega
        have HD : Hid (validD (l.drop (k + 1)) = ANS) := by
          show validD (l.drop (k + 1)) = ANS
          have h0 : l.drop k = l.getD k 0 :: l.drop (k + 1) := drop_stepU hkl
          have := HK.out.1
          rw [h0, validD_cons _ _ (by rw [hbe.out]; exact hasc)] at this
          exact this
        go_wp2
        exact ⟨⟨k + 1, by omega, by simp, HD.out, HK.out.2⟩, by simp [intOf]; omega⟩
      · have hascz : ¬ (x0.toNat : Int) < 128 := by omega
        by_cases k1 : 194 ≤ x0.toNat ∧ x0.toNat < 224
        · have k1a : (194 : Int) ≤ (x0.toNat : Int) := by omega
          have k1b : (x0.toNat : Int) < 224 := by omega
          have HL := hid_mkU (lead1 hkl (by rw [hbe.out]) HK.out.1 k1)
          have hb1 := and31 ⟨x0.toNat, hx0lt⟩
          simp only at hb1
          generalize hr0 : x0.toNat % 32 = r0 at HL hb1
          have hr0b : (r0 : Int) ≤ 31 := by omega
          clear hr0
          go_wp2
          go_loopw [7, 8] (fun r kk wx => ∃ j R : Nat, j ≤ 1 ∧ kk = .int .i64 ((j : Int) + 1) ∧ r = .int .i64 (R : Int) ∧ (j = 0 → R ≤ 31) ∧ (j = 1 → R ≤ 2047) ∧ (j = 2 → R ≤ 131071) ∧ R ≤ 8388607 ∧ Hid (R = rr l k r0 j ∧ (∀ t, t < j → Cont l k t) ∧ wx = w)) (fun _ kk _ => 1 + 1 - (intOf kk).toNat)
          case atStart => exact ⟨0, r0, by omega, by simp, rfl, by omega, by omega, by omega, by omega, rfl, fun t ht => by omega, HK.out.2⟩
          case round =>
            obtain ⟨j, R, hj, rfl, rfl, b0', b1', b2', b3', HJ⟩ := hrel
            by_cases hjn : j < 1
            · have hjz : (j : Int) + 1 ≤ 1 := by omega
              have hRb : (R : Int) ≤ 131071 := by omega
              obtain ⟨q, hq⟩ : ∃ q, q = k + 1 + j := ⟨_, rfl⟩
              have hqe : (k : Int) + ((j : Int) + 1) = (q : Int) := by omega
              have hqb : (q : Int) ≤ 9223372036854775807 := by omega
              by_cases hin : q < l.length
              · have hinz : (q : Int) < (l.length : Int) := by omega
                have hinz2 : ¬ (l.length : Int) ≤ (q : Int) := by omega
                obtain ⟨y, hY, hye⟩ : ∃ b : UInt8, (∀ h, (ByteArray.mk ⟨l⟩)[q]'h = b) ∧ Hid (l.getD q 0 = b) := by
                  refine ⟨l.getD q 0, fun h => ?_, rfl⟩
                  simp only [List.getD, List.getElem?_eq_getElem hin, Option.getD_some]
                  rfl
                have hylt : y.toNat < 256 := y.toNat_lt
                have h192 := and192 ⟨y.toNat, hylt⟩
                have h63 := and63 ⟨y.toNat, hylt⟩
                simp only at h192 h63
                by_cases hct : 128 ≤ y.toNat ∧ y.toNat ≤ 191
                · rw [show y.toNat / 64 * 64 = 128 by omega] at h192
                  have HN : Hid (R * 64 + y.toNat % 64 = rr l k r0 (j + 1) ∧ (∀ t, t < j + 1 → Cont l k t) ∧ wr = w) := by
                    refine ⟨?_, fun t ht => ?_, HJ.out.2.2⟩
                    · show R * 64 + y.toNat % 64 = rr l k r0 j * 64 + (l.getD (k + 1 + j) 0).toNat % 64
                      rw [← HJ.out.1, ← hq, hye.out]
                    · by_cases e : t = j
                      · subst e
                        unfold Cont
                        rw [← hq, hye.out]
                        exact ⟨hin, hct⟩
                      · exact HJ.out.2.1 t (by omega)
                  obtain ⟨d, hd⟩ : ∃ d, y.toNat % 64 = d := ⟨_, rfl⟩
                  rw [hd] at h63 HN
                  have hdb : (d : Int) ≤ 63 := by omega
                  clear hd hct hq
                  go_wp2
                  go_roundw
                  case rel => exact ⟨j + 1, R * 64 + d, by omega, by simp, by simp, by omega, by omega, by omega, by omega, HN⟩
                  case measure => simp [intOf]; omega
                · have HF : Hid (ANS = false) := HL.out.bad j hjn (fun hc => hct (by unfold Cont at hc; rw [← hq, hye.out] at hc; exact hc.2))
                  obtain ⟨C, hC⟩ : ∃ C, y.toNat / 64 * 64 = C := ⟨_, rfl⟩
                  have hCb : ((C : Int) != 128) = true := by simp; omega
                  rw [hC] at h192
                  clear hC hct hq
                  go_wp2
                  go_ret
                  exact ⟨by rw [HF.out]; rfl, HJ.out.2.2⟩
              · have hinz : (l.length : Int) ≤ (q : Int) := by omega
                have HF : Hid (ANS = false) := HL.out.bad j hjn (fun hc => hin (by unfold Cont at hc; rw [← hq] at hc; exact hc.1))
                clear hq
                go_wp2
                go_ret
                exact ⟨by rw [HF.out]; rfl, HJ.out.2.2⟩
            · have hje : j = 1 := by omega
              subst hje
              have hF := HL.out.fin HJ.out.2.1
              rw [← HJ.out.1] at hF
              have HF := hid_mkU hF
              have HW : Hid (wr = w) := HJ.out.2.2
              have HLe : Hid (¬ BadR 128 R → k + 1 + 1 ≤ l.length) := fun _ => by
                have := HJ.out.2.1 (1 - 1) (by omega)
                unfold Cont at this
                omega
              clear hF HJ
              by_cases g1 : R < 128
              · have g1z : (R : Int) < 128 := by omega
                have HX := hid_mkU (HF.out.1 (.inl g1))
                go_wp2
                go_ret
                exact ⟨by rw [HX.out]; rfl, HW.out⟩
              · have g1z : ¬ (R : Int) < 128 := by omega
                by_cases g2 : 1114111 < R
                · have g2z : (1114111 : Int) < (R : Int) := by omega
                  have HX := hid_mkU (HF.out.1 (.inr (.inl g2)))
                  go_wp2
                  go_ret
                  exact ⟨by rw [HX.out]; rfl, HW.out⟩
                · have g2z : ¬ (1114111 : Int) < (R : Int) := by omega
                  by_cases g3 : 55296 ≤ R
                  · have g3z : (55296 : Int) ≤ (R : Int) := by omega
                    by_cases g4 : R < 57344
                    · have g4z : (R : Int) < 57344 := by omega
                      have HX := hid_mkU (HF.out.1 (.inr (.inr ⟨g3, g4⟩)))
                      go_wp2
                      go_ret
                      exact ⟨by rw [HX.out]; rfl, HW.out⟩
                    · have g4z : ¬ (R : Int) < 57344 := by omega
                      have HB := hid_mkU (show ¬ BadR 128 R by unfold BadR; omega)
                      have hkn : (k : Int) + 1 + 1 ≤ 9223372036854775807 := by have := HLe.out HB.out; omega
                      go_wp2
                      exact ⟨⟨k + 1 + 1, HLe.out HB.out, by simp <;> omega, HF.out.2 HB.out, HW.out⟩, by simp [intOf] <;> omega⟩
                  · have g3z : ¬ (55296 : Int) ≤ (R : Int) := by omega
                    have HB := hid_mkU (show ¬ BadR 128 R by unfold BadR; omega)
                    have hkn : (k : Int) + 1 + 1 ≤ 9223372036854775807 := by have := HLe.out HB.out; omega
                    go_wp2
                    exact ⟨⟨k + 1 + 1, HLe.out HB.out, by simp <;> omega, HF.out.2 HB.out, HW.out⟩, by simp [intOf] <;> omega⟩

        by_cases k2 : 224 ≤ x0.toNat ∧ x0.toNat < 240
        · have k2a : (194 : Int) ≤ (x0.toNat : Int) := by omega
          have k2b : ¬ (x0.toNat : Int) < 224 := by omega
          have k2c : (224 : Int) ≤ (x0.toNat : Int) := by omega
          have k2d : (x0.toNat : Int) < 240 := by omega
          have HL := hid_mkU (lead2 hkl (by rw [hbe.out]) HK.out.1 k2)
          have hb2 := and15 ⟨x0.toNat, hx0lt⟩
          simp only at hb2
          generalize hr0 : x0.toNat % 16 = r0 at HL hb2
          have hr0b : (r0 : Int) ≤ 31 := by omega
          clear hr0
          go_wp2
          go_loopw [7, 8] (fun r kk wx => ∃ j R : Nat, j ≤ 2 ∧ kk = .int .i64 ((j : Int) + 1) ∧ r = .int .i64 (R : Int) ∧ (j = 0 → R ≤ 31) ∧ (j = 1 → R ≤ 2047) ∧ (j = 2 → R ≤ 131071) ∧ R ≤ 8388607 ∧ Hid (R = rr l k r0 j ∧ (∀ t, t < j → Cont l k t) ∧ wx = w)) (fun _ kk _ => 2 + 1 - (intOf kk).toNat)
          case atStart => exact ⟨0, r0, by omega, by simp, rfl, by omega, by omega, by omega, by omega, rfl, fun t ht => by omega, HK.out.2⟩
          case round =>
            obtain ⟨j, R, hj, rfl, rfl, b0', b1', b2', b3', HJ⟩ := hrel
            by_cases hjn : j < 2
            · have hjz : (j : Int) + 1 ≤ 2 := by omega
              have hRb : (R : Int) ≤ 131071 := by omega
              obtain ⟨q, hq⟩ : ∃ q, q = k + 1 + j := ⟨_, rfl⟩
              have hqe : (k : Int) + ((j : Int) + 1) = (q : Int) := by omega
              have hqb : (q : Int) ≤ 9223372036854775807 := by omega
              by_cases hin : q < l.length
              · have hinz : (q : Int) < (l.length : Int) := by omega
                have hinz2 : ¬ (l.length : Int) ≤ (q : Int) := by omega
                obtain ⟨y, hY, hye⟩ : ∃ b : UInt8, (∀ h, (ByteArray.mk ⟨l⟩)[q]'h = b) ∧ Hid (l.getD q 0 = b) := by
                  refine ⟨l.getD q 0, fun h => ?_, rfl⟩
                  simp only [List.getD, List.getElem?_eq_getElem hin, Option.getD_some]
                  rfl
                have hylt : y.toNat < 256 := y.toNat_lt
                have h192 := and192 ⟨y.toNat, hylt⟩
                have h63 := and63 ⟨y.toNat, hylt⟩
                simp only at h192 h63
                by_cases hct : 128 ≤ y.toNat ∧ y.toNat ≤ 191
                · rw [show y.toNat / 64 * 64 = 128 by omega] at h192
                  have HN : Hid (R * 64 + y.toNat % 64 = rr l k r0 (j + 1) ∧ (∀ t, t < j + 1 → Cont l k t) ∧ wr = w) := by
                    refine ⟨?_, fun t ht => ?_, HJ.out.2.2⟩
                    · show R * 64 + y.toNat % 64 = rr l k r0 j * 64 + (l.getD (k + 1 + j) 0).toNat % 64
                      rw [← HJ.out.1, ← hq, hye.out]
                    · by_cases e : t = j
                      · subst e
                        unfold Cont
                        rw [← hq, hye.out]
                        exact ⟨hin, hct⟩
                      · exact HJ.out.2.1 t (by omega)
                  obtain ⟨d, hd⟩ : ∃ d, y.toNat % 64 = d := ⟨_, rfl⟩
                  rw [hd] at h63 HN
                  have hdb : (d : Int) ≤ 63 := by omega
                  clear hd hct hq
                  go_wp2
                  go_roundw
                  case rel => exact ⟨j + 1, R * 64 + d, by omega, by simp, by simp, by omega, by omega, by omega, by omega, HN⟩
                  case measure => simp [intOf]; omega
                · have HF : Hid (ANS = false) := HL.out.bad j hjn (fun hc => hct (by unfold Cont at hc; rw [← hq, hye.out] at hc; exact hc.2))
                  obtain ⟨C, hC⟩ : ∃ C, y.toNat / 64 * 64 = C := ⟨_, rfl⟩
                  have hCb : ((C : Int) != 128) = true := by simp; omega
                  rw [hC] at h192
                  clear hC hct hq
                  go_wp2
                  go_ret
                  exact ⟨by rw [HF.out]; rfl, HJ.out.2.2⟩
              · have hinz : (l.length : Int) ≤ (q : Int) := by omega
                have HF : Hid (ANS = false) := HL.out.bad j hjn (fun hc => hin (by unfold Cont at hc; rw [← hq] at hc; exact hc.1))
                clear hq
                go_wp2
                go_ret
                exact ⟨by rw [HF.out]; rfl, HJ.out.2.2⟩
            · have hje : j = 2 := by omega
              subst hje
              have hF := HL.out.fin HJ.out.2.1
              rw [← HJ.out.1] at hF
              have HF := hid_mkU hF
              have HW : Hid (wr = w) := HJ.out.2.2
              have HLe : Hid (¬ BadR 2048 R → k + 2 + 1 ≤ l.length) := fun _ => by
                have := HJ.out.2.1 (2 - 1) (by omega)
                unfold Cont at this
                omega
              clear hF HJ
              by_cases g1 : R < 2048
              · have g1z : (R : Int) < 2048 := by omega
                have HX := hid_mkU (HF.out.1 (.inl g1))
                go_wp2
                go_ret
                exact ⟨by rw [HX.out]; rfl, HW.out⟩
              · have g1z : ¬ (R : Int) < 2048 := by omega
                by_cases g2 : 1114111 < R
                · have g2z : (1114111 : Int) < (R : Int) := by omega
                  have HX := hid_mkU (HF.out.1 (.inr (.inl g2)))
                  go_wp2
                  go_ret
                  exact ⟨by rw [HX.out]; rfl, HW.out⟩
                · have g2z : ¬ (1114111 : Int) < (R : Int) := by omega
                  by_cases g3 : 55296 ≤ R
                  · have g3z : (55296 : Int) ≤ (R : Int) := by omega
                    by_cases g4 : R < 57344
                    · have g4z : (R : Int) < 57344 := by omega
                      have HX := hid_mkU (HF.out.1 (.inr (.inr ⟨g3, g4⟩)))
                      go_wp2
                      go_ret
                      exact ⟨by rw [HX.out]; rfl, HW.out⟩
                    · have g4z : ¬ (R : Int) < 57344 := by omega
                      have HB := hid_mkU (show ¬ BadR 2048 R by unfold BadR; omega)
                      have hkn : (k : Int) + 2 + 1 ≤ 9223372036854775807 := by have := HLe.out HB.out; omega
                      go_wp2
                      exact ⟨⟨k + 2 + 1, HLe.out HB.out, by simp <;> omega, HF.out.2 HB.out, HW.out⟩, by simp [intOf] <;> omega⟩
                  · have g3z : ¬ (55296 : Int) ≤ (R : Int) := by omega
                    have HB := hid_mkU (show ¬ BadR 2048 R by unfold BadR; omega)
                    have hkn : (k : Int) + 2 + 1 ≤ 9223372036854775807 := by have := HLe.out HB.out; omega
                    go_wp2
                    exact ⟨⟨k + 2 + 1, HLe.out HB.out, by simp <;> omega, HF.out.2 HB.out, HW.out⟩, by simp [intOf] <;> omega⟩

        by_cases k3 : 240 ≤ x0.toNat ∧ x0.toNat < 245
        · have k3a : (194 : Int) ≤ (x0.toNat : Int) := by omega
          have k3b : ¬ (x0.toNat : Int) < 224 := by omega
          have k3c : (224 : Int) ≤ (x0.toNat : Int) := by omega
          have k3d : ¬ (x0.toNat : Int) < 240 := by omega
          have k3e : (240 : Int) ≤ (x0.toNat : Int) := by omega
          have k3f : (x0.toNat : Int) < 245 := by omega
          have HL := hid_mkU (lead3 hkl (by rw [hbe.out]) HK.out.1 k3)
          have hb3 := and7i ⟨x0.toNat, hx0lt⟩
          simp only at hb3
          generalize hr0 : x0.toNat % 8 = r0 at HL hb3
          have hr0b : (r0 : Int) ≤ 31 := by omega
          clear hr0
          go_wp2
          go_loopw [7, 8] (fun r kk wx => ∃ j R : Nat, j ≤ 3 ∧ kk = .int .i64 ((j : Int) + 1) ∧ r = .int .i64 (R : Int) ∧ (j = 0 → R ≤ 31) ∧ (j = 1 → R ≤ 2047) ∧ (j = 2 → R ≤ 131071) ∧ R ≤ 8388607 ∧ Hid (R = rr l k r0 j ∧ (∀ t, t < j → Cont l k t) ∧ wx = w)) (fun _ kk _ => 3 + 1 - (intOf kk).toNat)
          case atStart => exact ⟨0, r0, by omega, by simp, rfl, by omega, by omega, by omega, by omega, rfl, fun t ht => by omega, HK.out.2⟩
          case round =>
            obtain ⟨j, R, hj, rfl, rfl, b0', b1', b2', b3', HJ⟩ := hrel
            by_cases hjn : j < 3
            · have hjz : (j : Int) + 1 ≤ 3 := by omega
              have hRb : (R : Int) ≤ 131071 := by omega
              obtain ⟨q, hq⟩ : ∃ q, q = k + 1 + j := ⟨_, rfl⟩
              have hqe : (k : Int) + ((j : Int) + 1) = (q : Int) := by omega
              have hqb : (q : Int) ≤ 9223372036854775807 := by omega
              by_cases hin : q < l.length
              · have hinz : (q : Int) < (l.length : Int) := by omega
                have hinz2 : ¬ (l.length : Int) ≤ (q : Int) := by omega
                obtain ⟨y, hY, hye⟩ : ∃ b : UInt8, (∀ h, (ByteArray.mk ⟨l⟩)[q]'h = b) ∧ Hid (l.getD q 0 = b) := by
                  refine ⟨l.getD q 0, fun h => ?_, rfl⟩
                  simp only [List.getD, List.getElem?_eq_getElem hin, Option.getD_some]
                  rfl
                have hylt : y.toNat < 256 := y.toNat_lt
                have h192 := and192 ⟨y.toNat, hylt⟩
                have h63 := and63 ⟨y.toNat, hylt⟩
                simp only at h192 h63
                by_cases hct : 128 ≤ y.toNat ∧ y.toNat ≤ 191
                · rw [show y.toNat / 64 * 64 = 128 by omega] at h192
                  have HN : Hid (R * 64 + y.toNat % 64 = rr l k r0 (j + 1) ∧ (∀ t, t < j + 1 → Cont l k t) ∧ wr = w) := by
                    refine ⟨?_, fun t ht => ?_, HJ.out.2.2⟩
                    · show R * 64 + y.toNat % 64 = rr l k r0 j * 64 + (l.getD (k + 1 + j) 0).toNat % 64
                      rw [← HJ.out.1, ← hq, hye.out]
                    · by_cases e : t = j
                      · subst e
                        unfold Cont
                        rw [← hq, hye.out]
                        exact ⟨hin, hct⟩
                      · exact HJ.out.2.1 t (by omega)
                  obtain ⟨d, hd⟩ : ∃ d, y.toNat % 64 = d := ⟨_, rfl⟩
                  rw [hd] at h63 HN
                  have hdb : (d : Int) ≤ 63 := by omega
                  clear hd hct hq
                  go_wp2
                  go_roundw
                  case rel => exact ⟨j + 1, R * 64 + d, by omega, by simp, by simp, by omega, by omega, by omega, by omega, HN⟩
                  case measure => simp [intOf]; omega
                · have HF : Hid (ANS = false) := HL.out.bad j hjn (fun hc => hct (by unfold Cont at hc; rw [← hq, hye.out] at hc; exact hc.2))
                  obtain ⟨C, hC⟩ : ∃ C, y.toNat / 64 * 64 = C := ⟨_, rfl⟩
                  have hCb : ((C : Int) != 128) = true := by simp; omega
                  rw [hC] at h192
                  clear hC hct hq
                  go_wp2
                  go_ret
                  exact ⟨by rw [HF.out]; rfl, HJ.out.2.2⟩
              · have hinz : (l.length : Int) ≤ (q : Int) := by omega
                have HF : Hid (ANS = false) := HL.out.bad j hjn (fun hc => hin (by unfold Cont at hc; rw [← hq] at hc; exact hc.1))
                clear hq
                go_wp2
                go_ret
                exact ⟨by rw [HF.out]; rfl, HJ.out.2.2⟩
            · have hje : j = 3 := by omega
              subst hje
              have hF := HL.out.fin HJ.out.2.1
              rw [← HJ.out.1] at hF
              have HF := hid_mkU hF
              have HW : Hid (wr = w) := HJ.out.2.2
              have HLe : Hid (¬ BadR 65536 R → k + 3 + 1 ≤ l.length) := fun _ => by
                have := HJ.out.2.1 (3 - 1) (by omega)
                unfold Cont at this
                omega
              clear hF HJ
              by_cases g1 : R < 65536
              · have g1z : (R : Int) < 65536 := by omega
                have HX := hid_mkU (HF.out.1 (.inl g1))
                go_wp2
                go_ret
                exact ⟨by rw [HX.out]; rfl, HW.out⟩
              · have g1z : ¬ (R : Int) < 65536 := by omega
                by_cases g2 : 1114111 < R
                · have g2z : (1114111 : Int) < (R : Int) := by omega
                  have HX := hid_mkU (HF.out.1 (.inr (.inl g2)))
                  go_wp2
                  go_ret
                  exact ⟨by rw [HX.out]; rfl, HW.out⟩
                · have g2z : ¬ (1114111 : Int) < (R : Int) := by omega
                  by_cases g3 : 55296 ≤ R
                  · have g3z : (55296 : Int) ≤ (R : Int) := by omega
                    by_cases g4 : R < 57344
                    · have g4z : (R : Int) < 57344 := by omega
                      have HX := hid_mkU (HF.out.1 (.inr (.inr ⟨g3, g4⟩)))
                      go_wp2
                      go_ret
                      exact ⟨by rw [HX.out]; rfl, HW.out⟩
                    · have g4z : ¬ (R : Int) < 57344 := by omega
                      have HB := hid_mkU (show ¬ BadR 65536 R by unfold BadR; omega)
                      have hkn : (k : Int) + 3 + 1 ≤ 9223372036854775807 := by have := HLe.out HB.out; omega
                      go_wp2
                      exact ⟨⟨k + 3 + 1, HLe.out HB.out, by simp <;> omega, HF.out.2 HB.out, HW.out⟩, by simp [intOf] <;> omega⟩
                  · have g3z : ¬ (55296 : Int) ≤ (R : Int) := by omega
                    have HB := hid_mkU (show ¬ BadR 65536 R by unfold BadR; omega)
                    have hkn : (k : Int) + 3 + 1 ≤ 9223372036854775807 := by have := HLe.out HB.out; omega
                    go_wp2
                    exact ⟨⟨k + 3 + 1, HLe.out HB.out, by simp <;> omega, HF.out.2 HB.out, HW.out⟩, by simp [intOf] <;> omega⟩

        have HF : Hid (ANS = false ∧ wr = w) := ⟨by rw [← HK.out.1]; exact u8_bad (b0 := x0.toNat) (drop_ne hkl) (by rw [getD_drop, Nat.add_zero, hbe.out]) (by omega), HK.out.2⟩
        by_cases k4 : x0.toNat < 194
        · have k4a : ¬ (194 : Int) ≤ (x0.toNat : Int) := by omega
          have k4b : ¬ (224 : Int) ≤ (x0.toNat : Int) := by omega
          have k4c : ¬ (240 : Int) ≤ (x0.toNat : Int) := by omega
          go_wp2
          go_ret
          exact ⟨by rw [HF.out.1]; rfl, HF.out.2⟩
        · have k4a : (194 : Int) ≤ (x0.toNat : Int) := by omega
          have k4b : ¬ (x0.toNat : Int) < 224 := by omega
          have k4c : (224 : Int) ≤ (x0.toNat : Int) := by omega
          have k4d : ¬ (x0.toNat : Int) < 240 := by omega
          have k4e : (240 : Int) ≤ (x0.toNat : Int) := by omega
          have k4f : ¬ (x0.toNat : Int) < 245 := by omega
          go_wp2
          go_ret
          exact ⟨by rw [HF.out.1]; rfl, HF.out.2⟩
    · have hkl2 : ¬ (k : Int) < (l.length : Int) := by omega
      have HE : Hid (ANS = true ∧ wr = w) := by
        refine ⟨?_, HK.out.2⟩
        have := HK.out.1
        rw [List.drop_eq_nil_of_le (by omega)] at this
        rw [← this]
        rfl
      go_wp2
      go_ret
      exact ⟨by rw [HE.out.1]; rfl, HE.out.2⟩
end Go.Proofs.YtifjdfmmafbhkaaGreatDoor
