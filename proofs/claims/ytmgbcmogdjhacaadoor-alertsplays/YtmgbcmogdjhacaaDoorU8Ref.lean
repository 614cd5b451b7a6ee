/-
  Is a text right UTF-8: the document's own function: the walk.
-/
import Derived.Test.YtmgbcmogdjhacaaDoorU8Facts
import Derived.Test.YtmgbcmogdjhacaaDoorLaws
namespace Go.Proofs.YtmgbcmogdjhacaaDoor
open Go.RowKit Go.Lib

/-- the rune that the first bytes behind a lead make -/
def rr (l : List UInt8) (k r0 : Nat) : Nat → Nat
  | 0 => r0
  | j + 1 => rr l k r0 j * 64 + (l.getD (k + 1 + j) 0).toNat % 64
theorem getD_drop (l : List UInt8) (k j : Nat) : (l.drop k).getD j 0 = l.getD (k + j) 0 := by simp [List.getD, List.getElem?_drop]
theorem drop_ne {l : List UInt8} {k : Nat} (h : k < l.length) : l.drop k ≠ [] := fun e => by
  have := congrArg List.length e
  simp at this
  omega
def Cont (l : List UInt8) (k t : Nat) : Prop := k + 1 + t < l.length ∧ 128 ≤ (l.getD (k + 1 + t) 0).toNat ∧ (l.getD (k + 1 + t) 0).toNat ≤ 191
def BadR (least R : Nat) : Prop := R < least ∨ 1114111 < R ∨ (55296 ≤ R ∧ R < 57344)
/-- a lead with so many bytes behind it -/
structure Lead (l : List UInt8) (k nn least r0 : Nat) (ANS : Bool) : Prop where
  bad : ∀ t, t < nn → ¬ Cont l k t → ANS = false
  fin : (∀ t, t < nn → Cont l k t) → (BadR least (rr l k r0 nn) → ANS = false) ∧ (¬ BadR least (rr l k r0 nn) → validD (l.drop (k + nn + 1)) = ANS)
  low : rr l k r0 nn ≤ 2097151
theorem lead1 {l : List UInt8} {k b0 : Nat} {ANS : Bool} (hk : k < l.length) (h0 : (l.getD k 0).toNat = b0) (hA : validD (l.drop k) = ANS) (hb : 194 ≤ b0 ∧ b0 < 224) : Lead l k 1 128 (b0 % 32) ANS := by
  have h := u8_two (drop_ne hk) (by rw [getD_drop]; exact h0) rfl hb
  rw [getD_drop, hA, List.length_drop, List.drop_drop] at h
  have l1 := (l.getD (k + 1) 0).toNat_lt
  refine ⟨fun t ht hc => ?_, fun hg => ?_, ?_⟩
  · have e : t = 0 := by omega
    subst e
    rw [h, if_neg (fun hh => hc ⟨by omega, hh.2⟩)]
  · have h1 := hg 0 (by omega)
    unfold Cont at h1
    simp only [Nat.add_zero] at h1
    have hR : rr l k (b0 % 32) 1 = b0 % 32 * 64 + (l.getD (k + 1) 0).toNat % 64 := rfl
    rw [if_pos ⟨by omega, h1.2⟩] at h
    rw [hR]
    refine ⟨fun hbad => ?_, fun _ => by rw [h]⟩
    unfold BadR at hbad
    omega
  · show b0 % 32 * 64 + (l.getD (k + 1 + 0) 0).toNat % 64 ≤ 2097151
    omega
theorem lead2 {l : List UInt8} {k b0 : Nat} {ANS : Bool} (hk : k < l.length) (h0 : (l.getD k 0).toNat = b0) (hA : validD (l.drop k) = ANS) (hb : 224 ≤ b0 ∧ b0 < 240) : Lead l k 2 2048 (b0 % 16) ANS := by
  have h := u8_three (drop_ne hk) (by rw [getD_drop]; exact h0) rfl rfl hb rfl
  rw [getD_drop, getD_drop, hA, List.length_drop, List.drop_drop] at h
  refine ⟨fun t ht hc => ?_, fun hg => ?_, ?_⟩
  · rw [h, if_neg]
    rintro ⟨g1, g2, g3, -⟩
    rcases (show t = 0 ∨ t = 1 by omega) with rfl | rfl
    · exact hc ⟨by omega, g2⟩
    · exact hc ⟨by omega, g3⟩
  · have h1 := hg 0 (by omega)
    have h2 := hg 1 (by omega)
    unfold Cont at h1 h2
    simp only [Nat.add_zero] at h1
    have hR : rr l k (b0 % 16) 2 = (b0 % 16 * 64 + (l.getD (k + 1) 0).toNat % 64) * 64 + (l.getD (k + 2) 0).toNat % 64 := rfl
    rw [← hR] at h
    have hlt : rr l k (b0 % 16) 2 ≤ 1114111 := by rw [hR]; omega
    refine ⟨fun hbad => ?_, fun hnb => ?_⟩
    · rw [h, if_neg]
      rintro ⟨-, -, -, g4, g5⟩
      unfold BadR at hbad
      omega
    · unfold BadR at hnb
      rw [h, if_pos ⟨by omega, h1.2, h2.2, by omega, by omega⟩]
  · have hR : rr l k (b0 % 16) 2 = (b0 % 16 * 64 + (l.getD (k + 1) 0).toNat % 64) * 64 + (l.getD (k + 2) 0).toNat % 64 := rfl
    rw [hR]
    omega
theorem lead3 {l : List UInt8} {k b0 : Nat} {ANS : Bool} (hk : k < l.length) (h0 : (l.getD k 0).toNat = b0) (hA : validD (l.drop k) = ANS) (hb : 240 ≤ b0 ∧ b0 < 245) : Lead l k 3 65536 (b0 % 8) ANS := by
  have h := u8_four (drop_ne hk) (by rw [getD_drop]; exact h0) rfl rfl rfl hb rfl
  rw [getD_drop, getD_drop, getD_drop, hA, List.length_drop, List.drop_drop] at h
  refine ⟨fun t ht hc => ?_, fun hg => ?_, ?_⟩
  · rw [h, if_neg]
    rintro ⟨g1, g2, g3, g4, -⟩
    rcases (show t = 0 ∨ t = 1 ∨ t = 2 by omega) with rfl | rfl | rfl
    · exact hc ⟨by omega, g2⟩
    · exact hc ⟨by omega, g3⟩
    · exact hc ⟨by omega, g4⟩
  · have h1 := hg 0 (by omega)
    have h2 := hg 1 (by omega)
    have h3 := hg 2 (by omega)
    unfold Cont at h1 h2 h3
    simp only [Nat.add_zero] at h1
    have hR : rr l k (b0 % 8) 3 = ((b0 % 8 * 64 + (l.getD (k + 1) 0).toNat % 64) * 64 + (l.getD (k + 2) 0).toNat % 64) * 64 + (l.getD (k + 3) 0).toNat % 64 := rfl
    rw [← hR] at h
    refine ⟨fun hbad => ?_, fun hnb => ?_⟩
    · rw [h, if_neg]
      rintro ⟨-, -, -, -, g4, g5⟩
      unfold BadR at hbad
      omega
    · unfold BadR at hnb
      rw [h, if_pos ⟨by omega, h1.2, h2.2, h3.2, by omega, by omega⟩]
  · have hR : rr l k (b0 % 8) 3 = ((b0 % 8 * 64 + (l.getD (k + 1) 0).toNat % 64) * 64 + (l.getD (k + 2) 0).toNat % 64) * 64 + (l.getD (k + 3) 0).toNat % 64 := rfl
    rw [hR]
    omega
theorem drop_stepU {l : List UInt8} {k : Nat} (h : k < l.length) : l.drop k = l.getD k 0 :: l.drop (k + 1) := by
  rw [List.drop_eq_getElem_cons h]
  simp [h]

end Go.Proofs.YtmgbcmogdjhacaaDoor
