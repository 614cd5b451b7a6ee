/-
  U8Facts, U8Ref, U8Ref2, LbO, in one text.
-/
import Derived.Test.YtpglhdnepmcahaaGreatDoorBsA
import Derived.Lib.ValidLaws
import Derived.Deep.QuietTactic
import Derived.BigQuiet
import Derived.Test.YtpglhdnepmcahaaGreatDoorMgA
/- U8Facts -/
namespace Go.Proofs.YtpglhdnepmcahaaGreatDoor
open Go.Lib

theorem u8_lead {m : List UInt8} (hne : m ≠ []) {b0 b1 b2 b3 sz lo hi : Nat} (e0 : (m.getD 0 0).toNat = b0) (e1 : (m.getD 1 0).toNat = b1) (e2 : (m.getD 2 0).toNat = b2) (e3 : (m.getD 3 0).toNat = b3) (h0 : 128 ≤ b0)
    (hs : firstT b0 % 8 = sz) (hl : accLo (firstT b0 / 16) = lo) (hh : accHi (firstT b0 / 16) = hi) :
    validD m = match checkN m.length b1 b2 b3 sz lo hi with | none => false | some k => validD (m.drop k) := by
  subst e0 e1 e2 e3 hs hl hh
  exact validD_lead m hne h0
theorem u8_bad {m : List UInt8} (hne : m ≠ []) {b0 : Nat} (e0 : (m.getD 0 0).toNat = b0) (h : (128 ≤ b0 ∧ b0 < 194) ∨ 245 ≤ b0) : validD m = false := by
  have hf : firstT b0 = 241 := by
    unfold firstT
    repeat' split
    all_goals first | rfl | (exfalso; omega)
  rw [u8_lead hne e0 rfl rfl rfl (by omega) (sz := 1) (by rw [hf]) rfl rfl]
  simp [checkN]
theorem u8_two {m : List UInt8} (hne : m ≠ []) {b0 b1 : Nat} (e0 : (m.getD 0 0).toNat = b0) (e1 : (m.getD 1 0).toNat = b1) (h : 194 ≤ b0 ∧ b0 < 224) :
    validD m = if 2 ≤ m.length ∧ 128 ≤ b1 ∧ b1 ≤ 191 then validD (m.drop 2) else false := by
  have hf : firstT b0 = 2 := by
    unfold firstT
    repeat' split
    all_goals first | rfl | (exfalso; omega)
  rw [u8_lead hne e0 e1 rfl rfl (by omega) (sz := 2) (lo := 128) (hi := 191) (by rw [hf]) (by rw [hf]; rfl) (by rw [hf]; rfl)]
  simp only [checkN, if_true]
  by_cases c : m.length < 2 ∨ b1 < 128 ∨ 191 < b1
  · rw [if_pos c, if_neg (by omega)]
  · rw [if_neg c, if_pos (by omega)]
theorem u8_three {m : List UInt8} (hne : m ≠ []) {b0 b1 b2 R : Nat} (e0 : (m.getD 0 0).toNat = b0) (e1 : (m.getD 1 0).toNat = b1) (e2 : (m.getD 2 0).toNat = b2) (h : 224 ≤ b0 ∧ b0 < 240) (hR : R = (b0 % 16 * 64 + b1 % 64) * 64 + b2 % 64) :
    validD m = if 3 ≤ m.length ∧ (128 ≤ b1 ∧ b1 ≤ 191) ∧ (128 ≤ b2 ∧ b2 ≤ 191) ∧ 2048 ≤ R ∧ ¬ (55296 ≤ R ∧ R < 57344) then validD (m.drop 3) else false := by
  have key : ∀ lo hi, firstT b0 % 8 = 3 → accLo (firstT b0 / 16) = lo → accHi (firstT b0 / 16) = hi → (((128 ≤ b1 ∧ b1 ≤ 191) ∧ (128 ≤ b2 ∧ b2 ≤ 191) ∧ 2048 ≤ R ∧ ¬ (55296 ≤ R ∧ R < 57344)) ↔ (lo ≤ b1 ∧ b1 ≤ hi ∧ 128 ≤ b2 ∧ b2 ≤ 191)) →
      validD m = if 3 ≤ m.length ∧ (128 ≤ b1 ∧ b1 ≤ 191) ∧ (128 ≤ b2 ∧ b2 ≤ 191) ∧ 2048 ≤ R ∧ ¬ (55296 ≤ R ∧ R < 57344) then validD (m.drop 3) else false := fun lo hi k1 k2 k3 k4 => by
    rw [u8_lead hne e0 e1 e2 rfl (by omega) k1 k2 k3]
    simp only [checkN, if_true, Nat.reduceEqDiff, if_false]
    by_cases c : m.length < 3 ∨ b1 < lo ∨ hi < b1 ∨ b2 < 128 ∨ 191 < b2
    · rw [if_pos c, if_neg (fun hh => by have := k4.1 hh.2; omega)]
    · rw [if_neg c, if_pos ⟨by omega, k4.2 (by omega)⟩]
  by_cases c2 : b0 = 224
  · subst c2; exact key 160 191 (by decide) (by decide) (by decide) (by omega)
  by_cases c4 : b0 = 237
  · subst c4; exact key 128 159 (by decide) (by decide) (by decide) (by omega)
  · have hf : firstT b0 = 3 := by
      unfold firstT
      repeat' split
      all_goals first | rfl | (exfalso; omega)
    exact key 128 191 (by rw [hf]) (by rw [hf]; rfl) (by rw [hf]; rfl) (by omega)
theorem u8_four {m : List UInt8} (hne : m ≠ []) {b0 b1 b2 b3 R : Nat} (e0 : (m.getD 0 0).toNat = b0) (e1 : (m.getD 1 0).toNat = b1) (e2 : (m.getD 2 0).toNat = b2) (e3 : (m.getD 3 0).toNat = b3) (h : 240 ≤ b0 ∧ b0 < 245) (hR : R = ((b0 % 8 * 64 + b1 % 64) * 64 + b2 % 64) * 64 + b3 % 64) :
    validD m = if 4 ≤ m.length ∧ (128 ≤ b1 ∧ b1 ≤ 191) ∧ (128 ≤ b2 ∧ b2 ≤ 191) ∧ (128 ≤ b3 ∧ b3 ≤ 191) ∧ 65536 ≤ R ∧ R ≤ 1114111 then validD (m.drop 4) else false := by
  have key : ∀ lo hi, firstT b0 % 8 = 4 → accLo (firstT b0 / 16) = lo → accHi (firstT b0 / 16) = hi → (((128 ≤ b1 ∧ b1 ≤ 191) ∧ (128 ≤ b2 ∧ b2 ≤ 191) ∧ (128 ≤ b3 ∧ b3 ≤ 191) ∧ 65536 ≤ R ∧ R ≤ 1114111) ↔ (lo ≤ b1 ∧ b1 ≤ hi ∧ 128 ≤ b2 ∧ b2 ≤ 191 ∧ 128 ≤ b3 ∧ b3 ≤ 191)) →
      validD m = if 4 ≤ m.length ∧ (128 ≤ b1 ∧ b1 ≤ 191) ∧ (128 ≤ b2 ∧ b2 ≤ 191) ∧ (128 ≤ b3 ∧ b3 ≤ 191) ∧ 65536 ≤ R ∧ R ≤ 1114111 then validD (m.drop 4) else false := fun lo hi k1 k2 k3 k4 => by
    rw [u8_lead hne e0 e1 e2 e3 (by omega) k1 k2 k3]
    simp only [checkN, if_true, Nat.reduceEqDiff, if_false]
    by_cases c : m.length < 4 ∨ b1 < lo ∨ hi < b1 ∨ b2 < 128 ∨ 191 < b2 ∨ b3 < 128 ∨ 191 < b3
    · rw [if_pos c, if_neg (fun hh => by have := k4.1 hh.2; omega)]
    · rw [if_neg c, if_pos ⟨by omega, k4.2 (by omega)⟩]
  by_cases c2 : b0 = 240
  · subst c2; exact key 144 191 (by decide) (by decide) (by decide) (by omega)
  by_cases c4 : b0 = 244
  · subst c4; exact key 128 143 (by decide) (by decide) (by decide) (by omega)
  · have hf : firstT b0 = 4 := by
      unfold firstT
      repeat' split
      all_goals first | rfl | (exfalso; omega)
    exact key 128 191 (by rw [hf]) (by rw [hf]; rfl) (by rw [hf]; rfl) (by omega)
end Go.Proofs.YtpglhdnepmcahaaGreatDoor

/- U8Ref -/
namespace Go.Proofs.YtpglhdnepmcahaaGreatDoor
open Go.RowKit Go.Lib

/-- the rune that the first bytes behind a lead make -/
def rr (l : List UInt8) (k r0 : Nat) : Nat → Nat
  | 0 => r0
  | j + 1 => rr l k r0 j * 64 + (l.getD (k + 1 + j) 0).toNat % 64
theorem getD_drop (l : List UInt8) (k j : Nat) : (l.drop k).getD j 0 = l.getD (k + j) 0 := by simp [List.getD, List.getElem?_drop]
theorem drop_ne {l : List UInt8} {k : Nat} (h : k < l.length) : l.drop k ≠ [] := fun e => by
  have := congrArg List.length e
  simp at this
  omega
def Cont (l : List UInt8) (k t : Nat) : Prop := k + 1 + t < l.length ∧ 128 ≤ (l.getD (k + 1 + t) 0).toNat ∧ (l.getD (k + 1 + t) 0).toNat ≤ 191
def BadR (least R : Nat) : Prop := R < least ∨ 1114111 < R ∨ (55296 ≤ R ∧ R < 57344)
/-- a lead with so many bytes behind it -/
structure Lead (l : List UInt8) (k nn least r0 : Nat) (ANS : Bool) : Prop where
  bad : ∀ t, t < nn → ¬ Cont l k t → ANS = false
  fin : (∀ t, t < nn → Cont l k t) → (BadR least (rr l k r0 nn) → ANS = false) ∧ (¬ BadR least (rr l k r0 nn) → validD (l.drop (k + nn + 1)) = ANS)
  low : rr l k r0 nn ≤ 2097151
theorem lead1 {l : List UInt8} {k b0 : Nat} {ANS : Bool} (hk : k < l.length) (h0 : (l.getD k 0).toNat = b0) (hA : validD (l.drop k) = ANS) (hb : 194 ≤ b0 ∧ b0 < 224) : Lead l k 1 128 (b0 % 32) ANS := by
  have h := u8_two (drop_ne hk) (by rw [getD_drop]; exact h0) rfl hb
  rw [getD_drop, hA, List.length_drop, List.drop_drop] at h
  have l1 := (l.getD (k + 1) 0).toNat_lt
  refine ⟨fun t ht hc => ?_, fun hg => ?_, ?_⟩
  · have e : t = 0 := by omega
    subst e
    rw [h, if_neg (fun hh => hc ⟨by omega, hh.2⟩)]
  · have h1 := hg 0 (by omega)
    unfold Cont at h1
    simp only [Nat.add_zero] at h1
    have hR : rr l k (b0 % 32) 1 = b0 % 32 * 64 + (l.getD (k + 1) 0).toNat % 64 := rfl
    rw [if_pos ⟨by omega, h1.2⟩] at h
    rw [hR]
    refine ⟨fun hbad => ?_, fun _ => by rw [h]⟩
    unfold BadR at hbad
    omega
  · show b0 % 32 * 64 + (l.getD (k + 1 + 0) 0).toNat % 64 ≤ 2097151
    omega
theorem lead2 {l : List UInt8} {k b0 : Nat} {ANS : Bool} (hk : k < l.length) (h0 : (l.getD k 0).toNat = b0) (hA : validD (l.drop k) = ANS) (hb : 224 ≤ b0 ∧ b0 < 240) : Lead l k 2 2048 (b0 % 16) ANS := by
  have h := u8_three (drop_ne hk) (by rw [getD_drop]; exact h0) rfl rfl hb rfl
  rw [getD_drop, getD_drop, hA, List.length_drop, List.drop_drop] at h
  refine ⟨fun t ht hc => ?_, fun hg => ?_, ?_⟩
  · rw [h, if_neg]
    rintro ⟨g1, g2, g3, -⟩
    rcases (show t = 0 ∨ t = 1 by omega) with rfl | rfl
    · exact hc ⟨by omega, g2⟩
    · exact hc ⟨by omega, g3⟩
  · have h1 := hg 0 (by omega)
    have h2 := hg 1 (by omega)
    unfold Cont at h1 h2
    simp only [Nat.add_zero] at h1
    have hR : rr l k (b0 % 16) 2 = (b0 % 16 * 64 + (l.getD (k + 1) 0).toNat % 64) * 64 + (l.getD (k + 2) 0).toNat % 64 := rfl
    rw [← hR] at h
    have hlt : rr l k (b0 % 16) 2 ≤ 1114111 := by rw [hR]; omega
    refine ⟨fun hbad => ?_, fun hnb => ?_⟩
    · rw [h, if_neg]
      rintro ⟨-, -, -, g4, g5⟩
      unfold BadR at hbad
      omega
    · unfold BadR at hnb
      rw [h, if_pos ⟨by omega, h1.2, h2.2, by omega, by omega⟩]
  · have hR : rr l k (b0 % 16) 2 = (b0 % 16 * 64 + (l.getD (k + 1) 0).toNat % 64) * 64 + (l.getD (k + 2) 0).toNat % 64 := rfl
    rw [hR]
    omega
theorem lead3 {l : List UInt8} {k b0 : Nat} {ANS : Bool} (hk : k < l.length) (h0 : (l.getD k 0).toNat = b0) (hA : validD (l.drop k) = ANS) (hb : 240 ≤ b0 ∧ b0 < 245) : Lead l k 3 65536 (b0 % 8) ANS := by
  have h := u8_four (drop_ne hk) (by rw [getD_drop]; exact h0) rfl rfl rfl hb rfl
  rw [getD_drop, getD_drop, getD_drop, hA, List.length_drop, List.drop_drop] at h
  refine ⟨fun t ht hc => ?_, fun hg => ?_, ?_⟩
  · rw [h, if_neg]
    rintro ⟨g1, g2, g3, g4, -⟩
    rcases (show t = 0 ∨ t = 1 ∨ t = 2 by omega) with rfl | rfl | rfl
    · exact hc ⟨by omega, g2⟩
    · exact hc ⟨by omega, g3⟩
    · exact hc ⟨by omega, g4⟩
  · have h1 := hg 0 (by omega)
    have h2 := hg 1 (by omega)
    have h3 := hg 2 (by omega)
    unfold Cont at h1 h2 h3
    simp only [Nat.add_zero] at h1
    have hR : rr l k (b0 % 8) 3 = ((b0 % 8 * 64 + (l.getD (k + 1) 0).toNat % 64) * 64 + (l.getD (k + 2) 0).toNat % 64) * 64 + (l.getD (k + 3) 0).toNat % 64 := rfl
    rw [← hR] at h
    refine ⟨fun hbad => ?_, fun hnb => ?_⟩
    · rw [h, if_neg]
      rintro ⟨-, -, -, -, g4, g5⟩
      unfold BadR at hbad
      omega
    · unfold BadR at hnb
      rw [h, if_pos ⟨by omega, h1.2, h2.2, h3.2, by omega, by omega⟩]
  · have hR : rr l k (b0 % 8) 3 = ((b0 % 8 * 64 + (l.getD (k + 1) 0).toNat % 64) * 64 + (l.getD (k + 2) 0).toNat % 64) * 64 + (l.getD (k + 3) 0).toNat % 64 := rfl
    rw [hR]
    omega
theorem drop_stepU {l : List UInt8} {k : Nat} (h : k < l.length) : l.drop k = l.getD k 0 :: l.drop (k + 1) := by
  rw [List.drop_eq_getElem_cons h]
  simp [h]

end Go.Proofs.YtpglhdnepmcahaaGreatDoor

/- U8Ref2 -/
namespace Go.Proofs.YtpglhdnepmcahaaGreatDoor
open Go.RowKit Go.Lib

theorem hid_mkU {p : Prop} (h : p) : Hid p := h
set_option maxRecDepth 100000 in
theorem and192 : ∀ X : Fin 256, bits .and .u8 ((X.val : Nat) : Int) 192 = ((X.val / 64 * 64 : Nat) : Int) := by decide
set_option maxRecDepth 100000 in
theorem and63 : ∀ X : Fin 256, bits .and .u8 ((X.val : Nat) : Int) 63 = ((X.val % 64 : Nat) : Int) := by decide
set_option maxRecDepth 100000 in
theorem and31 : ∀ X : Fin 256, bits .and .i64 ((X.val : Nat) : Int) 31 = ((X.val % 32 : Nat) : Int) := by decide
set_option maxRecDepth 100000 in
theorem and15 : ∀ X : Fin 256, bits .and .i64 ((X.val : Nat) : Int) 15 = ((X.val % 16 : Nat) : Int) := by decide
set_option maxRecDepth 100000 in
theorem and7i : ∀ X : Fin 256, bits .and .i64 ((X.val : Nat) : Int) 7 = ((X.val % 8 : Nat) : Int) := by decide

set_option maxRecDepth 100000 in
set_option maxHeartbeats 16000000 in
theorem utf8_walk (w : World) (l : List UInt8) (hl : l.length ≤ 1000000000000000000) :
    Calls Tryz.prog 75 #[.string (ByteArray.mk ⟨l⟩)] w fun e w' => e = .returned (.bool (validD l)) ∧ w.grownBy w' none := by
  have hz : (ByteArray.mk ⟨l⟩).size = l.length := rfl
  obtain ⟨ANS, hA⟩ : ∃ ANS, validD l = ANS := ⟨_, rfl⟩
  rw [hA]
  have HA0 : Hid (validD (l.drop 0) = ANS) := hA
  clear hA
  go_enter Tryz.func75, Tryz.ntmps75
  go_wp2
  go_loopw [3] (fun i wr => ∃ k : Nat, k ≤ l.length ∧ i = .int .i64 (k : Int) ∧ Hid (validD (l.drop k) = ANS ∧ w.grownBy wr none)) (fun i _ => l.length - (intOf i).toNat)
  case atStart => exact ⟨0, by omega, rfl, HA0.out, gb_refl _ _⟩
  case round =>
    obtain ⟨k, hk, rfl, HK⟩ := hrel
    by_cases hkl : k < l.length
    · have hkl2 : (k : Int) < (l.length : Int) := by omega
      obtain ⟨x0, hX, hbe⟩ : ∃ b : UInt8, (∀ h, (ByteArray.mk ⟨l⟩)[k]'h = b) ∧ Hid (l.getD k 0 = b) := by
        refine ⟨l.getD k 0, fun h => ?_, rfl⟩
        simp only [List.getD, List.getElem?_eq_getElem hkl, Option.getD_some]
        rfl
      have hx0lt : x0.toNat < 256 := x0.toNat_lt
      by_cases hasc : x0.toNat < 128
      · have hascz : (x0.toNat : Int) < 128 := by omega
        have HD : Hid (validD (l.drop (k + 1)) = ANS) := by
          show validD (l.drop (k + 1)) = ANS
          have h0 : l.drop k = l.getD k 0 :: l.drop (k + 1) := drop_stepU hkl
          have := HK.out.1
          rw [h0, validD_cons _ _ (by rw [hbe.out]; exact hasc)] at this
          exact this
        go_wp2
        exact ⟨⟨k + 1, by omega, by simp, HD.out, HK.out.2⟩, by simp [intOf]; omega⟩
      · have hascz : ¬ (x0.toNat : Int) < 128 := by omega
        by_cases k1 : 194 ≤ x0.toNat ∧ x0.toNat < 224
        · have k1a : (194 : Int) ≤ (x0.toNat : Int) := by omega
          have k1b : (x0.toNat : Int) < 224 := by omega
          have HL := hid_mkU (lead1 hkl (by rw [hbe.out]) HK.out.1 k1)
          have hb1 := and31 ⟨x0.toNat, hx0lt⟩
          simp only at hb1
          generalize hr0 : x0.toNat % 32 = r0 at HL hb1
          have hr0b : (r0 : Int) ≤ 31 := by omega
          clear hr0
          go_wp2
          go_loopw [7, 8] (fun r kk wx => ∃ j R : Nat, j ≤ 1 ∧ kk = .int .i64 ((j : Int) + 1) ∧ r = .int .i64 (R : Int) ∧ (j = 0 → R ≤ 31) ∧ (j = 1 → R ≤ 2047) ∧ (j = 2 → R ≤ 131071) ∧ R ≤ 8388607 ∧ Hid (R = rr l k r0 j ∧ (∀ t, t < j → Cont l k t) ∧ w.grownBy wx none)) (fun _ kk _ => 1 + 1 - (intOf kk).toNat)
          case atStart => exact ⟨0, r0, by omega, by simp, rfl, by omega, by omega, by omega, by omega, rfl, fun t ht => by omega, HK.out.2⟩
          case round =>
            obtain ⟨j, R, hj, rfl, rfl, b0', b1', b2', b3', HJ⟩ := hrel
            by_cases hjn : j < 1
            · have hjz : (j : Int) + 1 ≤ 1 := by omega
              have hRb : (R : Int) ≤ 131071 := by omega
              obtain ⟨q, hq⟩ : ∃ q, q = k + 1 + j := ⟨_, rfl⟩
              have hqe : (k : Int) + ((j : Int) + 1) = (q : Int) := by omega
              have hqb : (q : Int) ≤ 9223372036854775807 := by omega
              by_cases hin : q < l.length
              · have hinz : (q : Int) < (l.length : Int) := by omega
                have hinz2 : ¬ (l.length : Int) ≤ (q : Int) := by omega
                obtain ⟨y, hY, hye⟩ : ∃ b : UInt8, (∀ h, (ByteArray.mk ⟨l⟩)[q]'h = b) ∧ Hid (l.getD q 0 = b) := by
                  refine ⟨l.getD q 0, fun h => ?_, rfl⟩
                  simp only [List.getD, List.getElem?_eq_getElem hin, Option.getD_some]
                  rfl
                have hylt : y.toNat < 256 := y.toNat_lt
                have h192 := and192 ⟨y.toNat, hylt⟩
                have h63 := and63 ⟨y.toNat, hylt⟩
                simp only at h192 h63
                by_cases hct : 128 ≤ y.toNat ∧ y.toNat ≤ 191
                · rw [show y.toNat / 64 * 64 = 128 by omega] at h192
                  have HN : Hid (R * 64 + y.toNat % 64 = rr l k r0 (j + 1) ∧ (∀ t, t < j + 1 → Cont l k t) ∧ w.grownBy wr none) := by
                    refine ⟨?_, fun t ht => ?_, HJ.out.2.2⟩
                    · show R * 64 + y.toNat % 64 = rr l k r0 j * 64 + (l.getD (k + 1 + j) 0).toNat % 64
                      rw [← HJ.out.1, ← hq, hye.out]
                    · by_cases e : t = j
                      · subst e
                        unfold Cont
                        rw [← hq, hye.out]
                        exact ⟨hin, hct⟩
                      · exact HJ.out.2.1 t (by omega)
                  obtain ⟨d, hd⟩ : ∃ d, y.toNat % 64 = d := ⟨_, rfl⟩
                  rw [hd] at h63 HN
                  have hdb : (d : Int) ≤ 63 := by omega
                  clear hd hct hq
                  go_wp2
                  go_roundw
                  case rel => exact ⟨j + 1, R * 64 + d, by omega, by simp, by simp, by omega, by omega, by omega, by omega, HN⟩
                  case measure => simp [intOf]; omega
                · have HF : Hid (ANS = false) := HL.out.bad j hjn (fun hc => hct (by unfold Cont at hc; rw [← hq, hye.out] at hc; exact hc.2))
                  obtain ⟨C, hC⟩ : ∃ C, y.toNat / 64 * 64 = C := ⟨_, rfl⟩
                  have hCb : ((C : Int) != 128) = true := by simp; omega
                  rw [hC] at h192
                  clear hC hct hq
                  go_wp2
                  go_ret
                  exact ⟨by rw [HF.out]; rfl, HJ.out.2.2⟩
              · have hinz : (l.length : Int) ≤ (q : Int) := by omega
                have HF : Hid (ANS = false) := HL.out.bad j hjn (fun hc => hin (by unfold Cont at hc; rw [← hq] at hc; exact hc.1))
                clear hq
                go_wp2
                go_ret
                exact ⟨by rw [HF.out]; rfl, HJ.out.2.2⟩
            · have hje : j = 1 := by omega
              subst hje
              have hF := HL.out.fin HJ.out.2.1
              rw [← HJ.out.1] at hF
              have HF := hid_mkU hF
              have HW : Hid (w.grownBy wr none) := HJ.out.2.2
              have HLe : Hid (¬ BadR 128 R → k + 1 + 1 ≤ l.length) := fun _ => by
                have := HJ.out.2.1 (1 - 1) (by omega)
                unfold Cont at this
                omega
              clear hF HJ
              by_cases g1 : R < 128
              · have g1z : (R : Int) < 128 := by omega
                have HX := hid_mkU (HF.out.1 (.inl g1))
                go_wp2
                go_ret
                exact ⟨by rw [HX.out]; rfl, HW.out⟩
              · have g1z : ¬ (R : Int) < 128 := by omega
                by_cases g2 : 1114111 < R
                · have g2z : (1114111 : Int) < (R : Int) := by omega
                  have HX := hid_mkU (HF.out.1 (.inr (.inl g2)))
                  go_wp2
                  go_ret
                  exact ⟨by rw [HX.out]; rfl, HW.out⟩
                · have g2z : ¬ (1114111 : Int) < (R : Int) := by omega
                  by_cases g3 : 55296 ≤ R
                  · have g3z : (55296 : Int) ≤ (R : Int) := by omega
                    by_cases g4 : R < 57344
                    · have g4z : (R : Int) < 57344 := by omega
                      have HX := hid_mkU (HF.out.1 (.inr (.inr ⟨g3, g4⟩)))
                      go_wp2
                      go_ret
                      exact ⟨by rw [HX.out]; rfl, HW.out⟩
                    · have g4z : ¬ (R : Int) < 57344 := by omega
                      have HB := hid_mkU (show ¬ BadR 128 R by unfold BadR; omega)
                      have hkn : (k : Int) + 1 + 1 ≤ 9223372036854775807 := by have := HLe.out HB.out; omega
                      go_wp2
                      exact ⟨⟨k + 1 + 1, HLe.out HB.out, by simp <;> omega, HF.out.2 HB.out, HW.out⟩, by simp [intOf] <;> omega⟩
                  · have g3z : ¬ (55296 : Int) ≤ (R : Int) := by omega
                    have HB := hid_mkU (show ¬ BadR 128 R by unfold BadR; omega)
                    have hkn : (k : Int) + 1 + 1 ≤ 9223372036854775807 := by have := HLe.out HB.out; omega
                    go_wp2
                    exact ⟨⟨k + 1 + 1, HLe.out HB.out, by simp <;> omega, HF.out.2 HB.out, HW.out⟩, by simp [intOf] <;> omega⟩

        by_cases k2 : 224 ≤ x0.toNat ∧ x0.toNat < 240
        · have k2a : (194 : Int) ≤ (x0.toNat : Int) := by omega
          have k2b : ¬ (x0.toNat : Int) < 224 := by omega
          have k2c : (224 : Int) ≤ (x0.toNat : Int) := by omega
          have k2d : (x0.toNat : Int) < 240 := by omega
          have HL := hid_mkU (lead2 hkl (by rw [hbe.out]) HK.out.1 k2)
          have hb2 := and15 ⟨x0.toNat, hx0lt⟩
          simp only at hb2
          generalize hr0 : x0.toNat % 16 = r0 at HL hb2
          have hr0b : (r0 : Int) ≤ 31 := by omega
          clear hr0
          go_wp2
          go_loopw [7, 8] (fun r kk wx => ∃ j R : Nat, j ≤ 2 ∧ kk = .int .i64 ((j : Int) + 1) ∧ r = .int .i64 (R : Int) ∧ (j = 0 → R ≤ 31) ∧ (j = 1 → R ≤ 2047) ∧ (j = 2 → R ≤ 131071) ∧ R ≤ 8388607 ∧ Hid (R = rr l k r0 j ∧ (∀ t, t < j → Cont l k t) ∧ w.grownBy wx none)) (fun _ kk _ => 2 + 1 - (intOf kk).toNat)
          case atStart => exact ⟨0, r0, by omega, by simp, rfl, by omega, by omega, by omega, by omega, rfl, fun t ht => by omega, HK.out.2⟩
          case round =>
            obtain ⟨j, R, hj, rfl, rfl, b0', b1', b2', b3', HJ⟩ := hrel
            by_cases hjn : j < 2
            · have hjz : (j : Int) + 1 ≤ 2 := by omega
              have hRb : (R : Int) ≤ 131071 := by omega
              obtain ⟨q, hq⟩ : ∃ q, q = k + 1 + j := ⟨_, rfl⟩
              have hqe : (k : Int) + ((j : Int) + 1) = (q : Int) := by omega
              have hqb : (q : Int) ≤ 9223372036854775807 := by omega
              by_cases hin : q < l.length
              · have hinz : (q : Int) < (l.length : Int) := by omega
                have hinz2 : ¬ (l.length : Int) ≤ (q : Int) := by omega
                obtain ⟨y, hY, hye⟩ : ∃ b : UInt8, (∀ h, (ByteArray.mk ⟨l⟩)[q]'h = b) ∧ Hid (l.getD q 0 = b) := by
                  refine ⟨l.getD q 0, fun h => ?_, rfl⟩
                  simp only [List.getD, List.getElem?_eq_getElem hin, Option.getD_some]
                  rfl
                have hylt : y.toNat < 256 := y.toNat_lt
                have h192 := and192 ⟨y.toNat, hylt⟩
                have h63 := and63 ⟨y.toNat, hylt⟩
                simp only at h192 h63
                by_cases hct : 128 ≤ y.toNat ∧ y.toNat ≤ 191
                · rw [show y.toNat / 64 * 64 = 128 by omega] at h192
                  have HN : Hid (R * 64 + y.toNat % 64 = rr l k r0 (j + 1) ∧ (∀ t, t < j + 1 → Cont l k t) ∧ w.grownBy wr none) := by
                    refine ⟨?_, fun t ht => ?_, HJ.out.2.2⟩
                    · show R * 64 + y.toNat % 64 = rr l k r0 j * 64 + (l.getD (k + 1 + j) 0).toNat % 64
                      rw [← HJ.out.1, ← hq, hye.out]
                    · by_cases e : t = j
                      · subst e
                        unfold Cont
                        rw [← hq, hye.out]
                        exact ⟨hin, hct⟩
                      · exact HJ.out.2.1 t (by omega)
                  obtain ⟨d, hd⟩ : ∃ d, y.toNat % 64 = d := ⟨_, rfl⟩
                  rw [hd] at h63 HN
                  have hdb : (d : Int) ≤ 63 := by omega
                  clear hd hct hq
                  go_wp2
                  go_roundw
                  case rel => exact ⟨j + 1, R * 64 + d, by omega, by simp, by simp, by omega, by omega, by omega, by omega, HN⟩
                  case measure => simp [intOf]; omega
                · have HF : Hid (ANS = false) := HL.out.bad j hjn (fun hc => hct (by unfold Cont at hc; rw [← hq, hye.out] at hc; exact hc.2))
                  obtain ⟨C, hC⟩ : ∃ C, y.toNat / 64 * 64 = C := ⟨_, rfl⟩
                  have hCb : ((C : Int) != 128) = true := by simp; omega
                  rw [hC] at h192
                  clear hC hct hq
                  go_wp2
                  go_ret
                  exact ⟨by rw [HF.out]; rfl, HJ.out.2.2⟩
              · have hinz : (l.length : Int) ≤ (q : Int) := by omega
                have HF : Hid (ANS = false) := HL.out.bad j hjn (fun hc => hin (by unfold Cont at hc; rw [← hq] at hc; exact hc.1))
                clear hq
                go_wp2
                go_ret
                exact ⟨by rw [HF.out]; rfl, HJ.out.2.2⟩
            · have hje : j = 2 := by omega
              subst hje
              have hF := HL.out.fin HJ.out.2.1
              rw [← HJ.out.1] at hF
              have HF := hid_mkU hF
              have HW : Hid (w.grownBy wr none) := HJ.out.2.2
              have HLe : Hid (¬ BadR 2048 R → k + 2 + 1 ≤ l.length) := fun _ => by
                have := HJ.out.2.1 (2 - 1) (by omega)
                unfold Cont at this
                omega
              clear hF HJ
              by_cases g1 : R < 2048
              · have g1z : (R : Int) < 2048 := by omega
                have HX := hid_mkU (HF.out.1 (.inl g1))
                go_wp2
                go_ret
                exact ⟨by rw [HX.out]; rfl, HW.out⟩
              · have g1z : ¬ (R : Int) < 2048 := by omega
                by_cases g2 : 1114111 < R
                · have g2z : (1114111 : Int) < (R : Int) := by omega
                  have HX := hid_mkU (HF.out.1 (.inr (.inl g2)))
                  go_wp2
                  go_ret
                  exact ⟨by rw [HX.out]; rfl, HW.out⟩
                · have g2z : ¬ (1114111 : Int) < (R : Int) := by omega
                  by_cases g3 : 55296 ≤ R
                  · have g3z : (55296 : Int) ≤ (R : Int) := by omega
                    by_cases g4 : R < 57344
                    · have g4z : (R : Int) < 57344 := by omega
                      have HX := hid_mkU (HF.out.1 (.inr (.inr ⟨g3, g4⟩)))
                      go_wp2
                      go_ret
                      exact ⟨by rw [HX.out]; rfl, HW.out⟩
                    · have g4z : ¬ (R : Int) < 57344 := by omega
                      have HB := hid_mkU (show ¬ BadR 2048 R by unfold BadR; omega)
                      have hkn : (k : Int) + 2 + 1 ≤ 9223372036854775807 := by have := HLe.out HB.out; omega
                      go_wp2
                      exact ⟨⟨k + 2 + 1, HLe.out HB.out, by simp <;> omega, HF.out.2 HB.out, HW.out⟩, by simp [intOf] <;> omega⟩
                  · have g3z : ¬ (55296 : Int) ≤ (R : Int) := by omega
                    have HB := hid_mkU (show ¬ BadR 2048 R by unfold BadR; omega)
                    have hkn : (k : Int) + 2 + 1 ≤ 9223372036854775807 := by have := HLe.out HB.out; omega
                    go_wp2
                    exact ⟨⟨k + 2 + 1, HLe.out HB.out, by simp <;> omega, HF.out.2 HB.out, HW.out⟩, by simp [intOf] <;> omega⟩

        by_cases k3 : 240 ≤ x0.toNat ∧ x0.toNat < 245
        · have k3a : (194 : Int) ≤ (x0.toNat : Int) := by omega
          have k3b : ¬ (x0.toNat : Int) < 224 := by omega
          have k3c : (224 : Int) ≤ (x0.toNat : Int) := by omega
          have k3d : ¬ (x0.toNat : Int) < 240 := by omega
          have k3e : (240 : Int) ≤ (x0.toNat : Int) := by omega
          have k3f : (x0.toNat : Int) < 245 := by omega
          have HL := hid_mkU (lead3 hkl (by rw [hbe.out]) HK.out.1 k3)
          have hb3 := and7i ⟨x0.toNat, hx0lt⟩
          simp only at hb3
          generalize hr0 : x0.toNat % 8 = r0 at HL hb3
          have hr0b : (r0 : Int) ≤ 31 := by omega
          clear hr0
          go_wp2
          go_loopw [7, 8] (fun r kk wx => ∃ j R : Nat, j ≤ 3 ∧ kk = .int .i64 ((j : Int) + 1) ∧ r = .int .i64 (R : Int) ∧ (j = 0 → R ≤ 31) ∧ (j = 1 → R ≤ 2047) ∧ (j = 2 → R ≤ 131071) ∧ R ≤ 8388607 ∧ Hid (R = rr l k r0 j ∧ (∀ t, t < j → Cont l k t) ∧ w.grownBy wx none)) (fun _ kk _ => 3 + 1 - (intOf kk).toNat)
          case atStart => exact ⟨0, r0, by omega, by simp, rfl, by omega, by omega, by omega, by omega, rfl, fun t ht => by omega, HK.out.2⟩
          case round =>
            obtain ⟨j, R, hj, rfl, rfl, b0', b1', b2', b3', HJ⟩ := hrel
            by_cases hjn : j < 3
            · have hjz : (j : Int) + 1 ≤ 3 := by omega
              have hRb : (R : Int) ≤ 131071 := by omega
              obtain ⟨q, hq⟩ : ∃ q, q = k + 1 + j := ⟨_, rfl⟩
              have hqe : (k : Int) + ((j : Int) + 1) = (q : Int) := by omega
              have hqb : (q : Int) ≤ 9223372036854775807 := by omega
              by_cases hin : q < l.length
              · have hinz : (q : Int) < (l.length : Int) := by omega
                have hinz2 : ¬ (l.length : Int) ≤ (q : Int) := by omega
                obtain ⟨y, hY, hye⟩ : ∃ b : UInt8, (∀ h, (ByteArray.mk ⟨l⟩)[q]'h = b) ∧ Hid (l.getD q 0 = b) := by
                  refine ⟨l.getD q 0, fun h => ?_, rfl⟩
                  simp only [List.getD, List.getElem?_eq_getElem hin, Option.getD_some]
                  rfl
                have hylt : y.toNat < 256 := y.toNat_lt
                have h192 := and192 ⟨y.toNat, hylt⟩
                have h63 := and63 ⟨y.toNat, hylt⟩
                simp only at h192 h63
                by_cases hct : 128 ≤ y.toNat ∧ y.toNat ≤ 191
                · rw [show y.toNat / 64 * 64 = 128 by omega] at h192
                  have HN : Hid (R * 64 + y.toNat % 64 = rr l k r0 (j + 1) ∧ (∀ t, t < j + 1 → Cont l k t) ∧ w.grownBy wr none) := by
                    refine ⟨?_, fun t ht => ?_, HJ.out.2.2⟩
                    · show R * 64 + y.toNat % 64 = rr l k r0 j * 64 + (l.getD (k + 1 + j) 0).toNat % 64
                      rw [← HJ.out.1, ← hq, hye.out]
                    · by_cases e : t = j
                      · subst e
                        unfold Cont
                        rw [← hq, hye.out]
                        exact ⟨hin, hct⟩
                      · exact HJ.out.2.1 t (by omega)
                  obtain ⟨d, hd⟩ : ∃ d, y.toNat % 64 = d := ⟨_, rfl⟩
                  rw [hd] at h63 HN
                  have hdb : (d : Int) ≤ 63 := by omega
                  clear hd hct hq
                  go_wp2
                  go_roundw
                  case rel => exact ⟨j + 1, R * 64 + d, by omega, by simp, by simp, by omega, by omega, by omega, by omega, HN⟩
                  case measure => simp [intOf]; omega
                · have HF : Hid (ANS = false) := HL.out.bad j hjn (fun hc => hct (by unfold Cont at hc; rw [← hq, hye.out] at hc; exact hc.2))
                  obtain ⟨C, hC⟩ : ∃ C, y.toNat / 64 * 64 = C := ⟨_, rfl⟩
                  have hCb : ((C : Int) != 128) = true := by simp; omega
                  rw [hC] at h192
                  clear hC hct hq
                  go_wp2
                  go_ret
                  exact ⟨by rw [HF.out]; rfl, HJ.out.2.2⟩
              · have hinz : (l.length : Int) ≤ (q : Int) := by omega
                have HF : Hid (ANS = false) := HL.out.bad j hjn (fun hc => hin (by unfold Cont at hc; rw [← hq] at hc; exact hc.1))
                clear hq
                go_wp2
                go_ret
                exact ⟨by rw [HF.out]; rfl, HJ.out.2.2⟩
            · have hje : j = 3 := by omega
              subst hje
              have hF := HL.out.fin HJ.out.2.1
              rw [← HJ.out.1] at hF
              have HF := hid_mkU hF
              have HW : Hid (w.grownBy wr none) := HJ.out.2.2
              have HLe : Hid (¬ BadR 65536 R → k + 3 + 1 ≤ l.length) := fun _ => by
                have := HJ.out.2.1 (3 - 1) (by omega)
                unfold Cont at this
                omega
              clear hF HJ
              by_cases g1 : R < 65536
              · have g1z : (R : Int) < 65536 := by omega
                have HX := hid_mkU (HF.out.1 (.inl g1))
                go_wp2
                go_ret
                exact ⟨by rw [HX.out]; rfl, HW.out⟩
              · have g1z : ¬ (R : Int) < 65536 := by omega
                by_cases g2 : 1114111 < R
                · have g2z : (1114111 : Int) < (R : Int) := by omega
                  have HX := hid_mkU (HF.out.1 (.inr (.inl g2)))
                  go_wp2
                  go_ret
                  exact ⟨by rw [HX.out]; rfl, HW.out⟩
                · have g2z : ¬ (1114111 : Int) < (R : Int) := by omega
                  by_cases g3 : 55296 ≤ R
                  · have g3z : (55296 : Int) ≤ (R : Int) := by omega
                    by_cases g4 : R < 57344
                    · have g4z : (R : Int) < 57344 := by omega
                      have HX := hid_mkU (HF.out.1 (.inr (.inr ⟨g3, g4⟩)))
                      go_wp2
                      go_ret
                      exact ⟨by rw [HX.out]; rfl, HW.out⟩
                    · have g4z : ¬ (R : Int) < 57344 := by omega
                      have HB := hid_mkU (show ¬ BadR 65536 R by unfold BadR; omega)
                      have hkn : (k : Int) + 3 + 1 ≤ 9223372036854775807 := by have := HLe.out HB.out; omega
                      go_wp2
                      exact ⟨⟨k + 3 + 1, HLe.out HB.out, by simp <;> omega, HF.out.2 HB.out, HW.out⟩, by simp [intOf] <;> omega⟩
                  · have g3z : ¬ (55296 : Int) ≤ (R : Int) := by omega
                    have HB := hid_mkU (show ¬ BadR 65536 R by unfold BadR; omega)
                    have hkn : (k : Int) + 3 + 1 ≤ 9223372036854775807 := by have := HLe.out HB.out; omega
                    go_wp2
                    exact ⟨⟨k + 3 + 1, HLe.out HB.out, by simp <;> omega, HF.out.2 HB.out, HW.out⟩, by simp [intOf] <;> omega⟩

        have HF : Hid (ANS = false ∧ w.grownBy wr none) := ⟨by rw [← HK.out.1]; exact u8_bad (b0 := x0.toNat) (drop_ne hkl) (by rw [getD_drop, Nat.add_zero, hbe.out]) (by omega), HK.out.2⟩
        by_cases k4 : x0.toNat < 194
        · have k4a : ¬ (194 : Int) ≤ (x0.toNat : Int) := by omega
          have k4b : ¬ (224 : Int) ≤ (x0.toNat : Int) := by omega
          have k4c : ¬ (240 : Int) ≤ (x0.toNat : Int) := by omega
          go_wp2
          go_ret
          exact ⟨by rw [HF.out.1]; rfl, HF.out.2⟩
        · have k4a : (194 : Int) ≤ (x0.toNat : Int) := by omega
          have k4b : ¬ (x0.toNat : Int) < 224 := by omega
          have k4c : (224 : Int) ≤ (x0.toNat : Int) := by omega
          have k4d : ¬ (x0.toNat : Int) < 240 := by omega
          have k4e : (240 : Int) ≤ (x0.toNat : Int) := by omega
          have k4f : ¬ (x0.toNat : Int) < 245 := by omega
          go_wp2
          go_ret
          exact ⟨by rw [HF.out.1]; rfl, HF.out.2⟩
    · have hkl2 : ¬ (k : Int) < (l.length : Int) := by omega
      have HE : Hid (ANS = true ∧ w.grownBy wr none) := by
        refine ⟨?_, HK.out.2⟩
        have := HK.out.1
        rw [List.drop_eq_nil_of_le (by omega)] at this
        rw [← this]
        rfl
      go_wp2
      go_ret
      exact ⟨by rw [HE.out.1]; rfl, HE.out.2⟩
end Go.Proofs.YtpglhdnepmcahaaGreatDoor

/- LbO -/
namespace Go.Proofs.YtpglhdnepmcahaaGreatDoor
open Go.RowKit Go.Lib

/-- what is wrong of a label -/
def oneE (n v : List UInt8) : Int := if nameB n = false then 40 else if v = [] then 41 else if 256 < v.length then 4 else if validD v = false then 12 else 0

theorem empty_facts {v : List UInt8} (h : ¬ v = []) : (ByteArray.mk ⟨v⟩).toList.isEmpty = false ∧ ¬ (ByteArray.mk ⟨v⟩).toList = [] ∧ v.isEmpty = false := by
  refine ⟨?_, ?_, ?_⟩
  · rw [ByteArray.toList_eq]; cases v with | nil => exact absurd rfl h | cons c t => rfl
  · rw [ByteArray.toList_eq]; exact h
  · cases v with | nil => exact absurd rfl h | cons c t => rfl

/-- the label's own box -/
def Bx (w : World) (b0 : Nat) (sn sv : ByteArray) (W : World) : Prop := W.heap[b0]? = some (.cells #[.string sn, .string sv] 51 (0, 0)) ∧ w.grownBy W none
theorem Bx.cells {w W : World} {b0 : Nat} {sn sv : ByteArray} (h : Bx w b0 sn sv W) : W.cell? ⟨b0, 0, none⟩ = some (.string sn) ∧ W.cell? ⟨b0, 1, none⟩ = some (.string sv) := ⟨by simp [World.cell?, h.1], by simp [World.cell?, h.1]⟩
theorem Bx.keep {w W W' : World} {b0 : Nat} {sn sv : ByteArray} (h : Bx w b0 sn sv W) (hg : W.grownBy W' none) : Bx w b0 sn sv W' :=
  ⟨(hg.block b0 (Array.getElem?_eq_some_iff.1 h.1).1 (by simp)).trans h.1, gb_none h.2 hg⟩

set_option maxHeartbeats 3200000 in
theorem refOne_any (w : World) (n v : List UInt8) (hn : n.length ≤ 1000000000000000000) (hv : v.length ≤ 1000000000000000000) :
    Calls Tryz.prog 111 #[.agg #[.string (ByteArray.mk ⟨n⟩), .string (ByteArray.mk ⟨v⟩)]] w fun e w' => e = .returned (.int .i64 (oneE n v)) ∧ w.grownBy w' none := by
  have hz : (ByteArray.mk ⟨v⟩).size = v.length := rfl
  have HE : Hid (oneE n v = if nameB n = false then 40 else if v = [] then 41 else if 256 < v.length then 4 else if validD v = false then 12 else 0) := rfl
  have HN : Hid (∀ W, Bx w w.heap.size (ByteArray.mk ⟨n⟩) (ByteArray.mk ⟨v⟩) W → Calls Tryz.prog 124 #[.string (ByteArray.mk ⟨n⟩)] W fun e w' => e = .returned (.bool (nameB n)) ∧ (w'.cell? ⟨w.heap.size, 0, none⟩ = some (.string (ByteArray.mk ⟨n⟩)) ∧ w'.cell? ⟨w.heap.size, 1, none⟩ = some (.string (ByteArray.mk ⟨v⟩))) ∧ Hid (Bx w w.heap.size (ByteArray.mk ⟨n⟩) (ByteArray.mk ⟨v⟩) w')) := fun W hW =>
    (refName_any W n hn).mono fun e w' ⟨h1, h2⟩ => ⟨h1, (hW.keep h2).cells, hW.keep h2⟩
  have HU : Hid (∀ W, Bx w w.heap.size (ByteArray.mk ⟨n⟩) (ByteArray.mk ⟨v⟩) W → Calls Tryz.prog 75 #[.string (ByteArray.mk ⟨v⟩)] W fun e w' => e = .returned (.bool (validD v)) ∧ Hid (w.grownBy w' none)) := fun W hW =>
    (utf8_walk W v hv).mono fun e w' ⟨h1, h2⟩ => ⟨h1, gb_none hW.2 h2⟩
  have H0 : Hid (Bx w w.heap.size (ByteArray.mk ⟨n⟩) (ByteArray.mk ⟨v⟩) (w.alloc (.cells #[.string (ByteArray.mk ⟨n⟩), .string (ByteArray.mk ⟨v⟩)] 51))) := ⟨Go.heap_alloc_new w _, World.grownBy_alloc _ _ none⟩
  generalize oneE n v = E at *
  generalize nameB n = bn at *
  generalize validD v = bv' at *
  generalize hsn : ByteArray.mk ⟨n⟩ = sn at *
  cases bn with
  | false =>
    have hE : E = 40 := by rw [HE.out]; rfl
    subst hE
    clear HE
    go_enter Tryz.func111, Tryz.ntmps111
    go_wp2_with fail
    refine (HN.out _ H0.out).mono ?_
    rintro e w1 ⟨rfl, -, H1⟩
    go_wp2
    go_ret
    exact ⟨rfl, H1.out.2⟩
  | true =>
    by_cases hv0 : v = []
    · subst hv0
      have hE : E = 41 := by rw [HE.out]; rfl
      subst hE
      clear HE
      go_enter Tryz.func111, Tryz.ntmps111
      go_wp2_with fail
      refine (HN.out _ H0.out).mono ?_
      rintro e w1 ⟨rfl, ⟨c0, c1⟩, H1⟩
      go_wp2
      go_ret
      exact ⟨rfl, H1.out.2⟩
    · obtain ⟨e1, e2, e3⟩ := empty_facts hv0
      by_cases hb : 256 < v.length
      · have hbi : (256 : Int) < (v.length : Int) := by omega
        have hE : E = 4 := by rw [HE.out, if_neg (by simp), if_neg hv0, if_pos hb]
        subst hE
        clear HE
        go_enter Tryz.func111, Tryz.ntmps111
        go_wp2_with fail
        refine (HN.out _ H0.out).mono ?_
        rintro e w1 ⟨rfl, ⟨c0, c1⟩, H1⟩
        go_wp2
        go_ret
        exact ⟨rfl, H1.out.2⟩
      · have hbi : ¬ (256 : Int) < (v.length : Int) := by omega
        cases bv' with
        | false =>
          have hE : E = 12 := by rw [HE.out, if_neg (by simp), if_neg hv0, if_neg hb]; rfl
          subst hE
          clear HE
          go_enter Tryz.func111, Tryz.ntmps111
          go_wp2_with fail
          refine (HN.out _ H0.out).mono ?_
          rintro e w1 ⟨rfl, ⟨c0, c1⟩, H1⟩
          go_wp2_with fail
          refine (HU.out _ H1.out).mono ?_
          rintro e w2 ⟨rfl, H2⟩
          go_wp2
          go_ret
          exact ⟨rfl, H2.out⟩
        | true =>
          have hE : E = 0 := by rw [HE.out, if_neg (by simp), if_neg hv0, if_neg hb]; rfl
          subst hE
          clear HE
          go_enter Tryz.func111, Tryz.ntmps111
          go_wp2_with fail
          refine (HN.out _ H0.out).mono ?_
          rintro e w1 ⟨rfl, ⟨c0, c1⟩, H1⟩
          go_wp2_with fail
          refine (HU.out _ H1.out).mono ?_
          rintro e w2 ⟨rfl, H2⟩
          go_wp2
          go_ret
          exact ⟨rfl, H2.out⟩
end Go.Proofs.YtpglhdnepmcahaaGreatDoor
