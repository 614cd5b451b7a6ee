/-
  Right UTF-8, rune by rune: what the document's function looks at comes to what the tables say.
-/
import Derived.Test.YtifjdfmmafbhkaaGreatDoorBase
import Derived.Lib.ValidLaws
namespace Go.Proofs.YtifjdfmmafbhkaaGreatDoor
open Go.Lib

theorem u8_lead {m : List UInt8} (hne : m ≠ []) {b0 b1 b2 b3 sz lo hi : Nat} (e0 : (m.getD 0 0).toNat = b0) (e1 : (m.getD 1 0).toNat = b1) (e2 : (m.getD 2 0).toNat = b2) (e3 : (m.getD 3 0).toNat = b3) (h0 : 128 ≤ b0)
    (hs : firstT b0 % 8 = sz) (hl : accLo (firstT b0 / 16) = lo) (hh : accHi (firstT b0 / 16) = hi) :
    validD m = match checkN m.length b1 b2 b3 sz lo hi with | none => false | some k => validD (m.drop k) := by
  subst e0 e1 e2 e3 hs hl hh
  exact validD_lead m hne h0
theorem u8_bad {m : List UInt8} (hne : m ≠ []) {b0 : Nat} (e0 : (m.getD 0 0).toNat = b0) (h : (128 ≤ b0 ∧ b0 < 194) ∨ 245 ≤ b0) : validD m = false := by
  have hf : firstT b0 = 241 := by
    unfold firstT
    repeat' split
    all_goals first | rfl | (exfalso; omega)
  rw [u8_lead hne e0 rfl rfl rfl (by omega) (sz := 1) (by rw [hf]) rfl rfl]
  simp [checkN]
theorem u8_two {m : List UInt8} (hne : m ≠ []) {b0 b1 : Nat} (e0 : (m.getD 0 0).toNat = b0) (e1 : (m.getD 1 0).toNat = b1) (h : 194 ≤ b0 ∧ b0 < 224) :
    validD m = if 2 ≤ m.length ∧ 128 ≤ b1 ∧ b1 ≤ 191 then validD (m.drop 2) else false := by
  have hf : firstT b0 = 2 := by
    unfold firstT
    repeat' split
    all_goals first | rfl | (exfalso; omega)
  rw [u8_lead hne e0 e1 rfl rfl (by omega) (sz := 2) (lo := 128) (hi := 191) (by rw [hf]) (by rw [hf]; rfl) (by rw [hf]; rfl)]
  simp only [checkN, if_true]
  by_cases c : m.length < 2 ∨ b1 < 128 ∨ 191 < b1
  · rw [if_pos c, if_neg (by omega)]
  · rw [if_neg c, if_pos (by omega)]
theorem u8_three {m : List UInt8} (hne : m ≠ []) {b0 b1 b2 R : Nat} (e0 : (m.getD 0 0).toNat = b0) (e1 : (m.getD 1 0).toNat = b1) (e2 : (m.getD 2 0).toNat = b2) (h : 224 ≤ b0 ∧ b0 < 240) (hR : R = (b0 % 16 * 64 + b1 % 64) * 64 + b2 % 64) :
    validD m = if 3 ≤ m.length ∧ (128 ≤ b1 ∧ b1 ≤ 191) ∧ (128 ≤ b2 ∧ b2 ≤ 191) ∧ 2048 ≤ R ∧ ¬ (55296 ≤ R ∧ R < 57344) then validD (m.drop 3) else false := by
  have key : ∀ lo hi, firstT b0 % 8 = 3 → accLo (firstT b0 / 16) = lo → accHi (firstT b0 / 16) = hi → (((128 ≤ b1 ∧ b1 ≤ 191) ∧ (128 ≤ b2 ∧ b2 ≤ 191) ∧ 2048 ≤ R ∧ ¬ (55296 ≤ R ∧ R < 57344)) ↔ (lo ≤ b1 ∧ b1 ≤ hi ∧ 128 ≤ b2 ∧ b2 ≤ 191)) →
      validD m = if 3 ≤ m.length ∧ (128 ≤ b1 ∧ b1 ≤ 191) ∧ (128 ≤ b2 ∧ b2 ≤ 191) ∧ 2048 ≤ R ∧ ¬ (55296 ≤ R ∧ R < 57344) then validD (m.drop 3) else false := fun lo hi k1 k2 k3 k4 => by
    rw [u8_lead hne e0 e1 e2 rfl (by omega) k1 k2 k3]
    simp only [checkN, if_true, Nat.reduceEqDiff, if_false]
    by_cases c : m.length < 3 ∨ b1 < lo ∨ hi < b1 ∨ b2 < 128 ∨ 191 < b2
    · rw [if_pos c, if_neg (fun hh => by have := k4.1 hh.2; omega)]
    · rw [if_neg c, if_pos ⟨by omega, k4.2 (by omega)⟩]
  by_cases c2 : b0 = 224
  · subst c2; exact key 160 191 (by decide) (by decide) (by decide) (by omega)
  by_cases c4 : b0 = 237
  · subst c4; exact key 128 159 (by decide) (by decide) (by decide) (by omega)
  · have hf : firstT b0 = 3 := by
      unfold firstT
      repeat' split
      all_goals first | rfl | (exfalso; omega)
    exact key 128 191 (by rw [hf]) (by rw [hf]; rfl) (by rw [hf]; rfl) (by omega)
theorem u8_four {m : List UInt8} (hne : m ≠ []) {b0 b1 b2 b3 R : Nat} (e0 : (m.getD 0 0).toNat = b0) (e1 : (m.getD 1 0).toNat = b1) (e2 : (m.getD 2 0).toNat = b2) (e3 : (m.getD 3 0).toNat = b3) (h : 240 ≤ b0 ∧ b0 < 245) (hR : R = ((b0 % 8 * 64 + b1 % 64) * 64 + b2 % 64) * 64 + b3 % 64) :
    validD m = if 4 ≤ m.length ∧ (128 ≤ b1 ∧ b1 ≤ 191) ∧ (128 ≤ b2 ∧ b2 ≤ 191) ∧ (128 ≤ b3 ∧ b3 ≤ 191) ∧ 65536 ≤ R ∧ R ≤ 1114111 then validD (m.drop 4) else false := by
  have key : ∀ lo hi, firstT b0 % 8 = 4 → accLo (firstT b0 / 16) = lo → accHi (firstT b0 / 16) = hi → (((128 ≤ b1 ∧ b1 ≤ 191) ∧ (128 ≤ b2 ∧ b2 ≤ 191) ∧ (128 ≤ b3 ∧ b3 ≤ 191) ∧ 65536 ≤ R ∧ R ≤ 1114111) ↔ (lo ≤ b1 ∧ b1 ≤ hi ∧ 128 ≤ b2 ∧ b2 ≤ 191 ∧ 128 ≤ b3 ∧ b3 ≤ 191)) →
      validD m = if 4 ≤ m.length ∧ (128 ≤ b1 ∧ b1 ≤ 191) ∧ (128 ≤ b2 ∧ b2 ≤ 191) ∧ (128 ≤ b3 ∧ b3 ≤ 191) ∧ 65536 ≤ R ∧ R ≤ 1114111 then validD (m.drop 4) else false := fun lo hi k1 k2 k3 k4 => by
    rw [u8_lead hne e0 e1 e2 e3 (by omega) k1 k2 k3]
    simp only [checkN, if_true, Nat.reduceEqDiff, if_false]
    by_cases c : m.length < 4 ∨ b1 < lo ∨ hi < b1 ∨ b2 < 128 ∨ 191 < b2 ∨ b3 < 128 ∨ 191 < b3
    · rw [if_pos c, if_neg (fun hh => by have := k4.1 hh.2; omega)]
    · rw [if_neg c, if_pos ⟨by omega, k4.2 (by omega)⟩]
  by_cases c2 : b0 = 240
  · subst c2; exact key 144 191 (by decide) (by decide) (by decide) (by omega)
  by_cases c4 : b0 = 244
  · subst c4; exact key 128 143 (by decide) (by decide) (by decide) (by omega)
  · have hf : firstT b0 = 4 := by
      unfold firstT
      repeat' split
      all_goals first | rfl | (exfalso; omega)
    exact key 128 191 (by rw [hf]) (by rw [hf]; rfl) (by rw [hf]; rfl) (by omega)
end Go.Proofs.YtifjdfmmafbhkaaGreatDoor
