/-
  U8Facts, U8Ref, U8Ref2, LbO, in one text.
-/
import Derived.Test.YtkcgikgihbglnabDoorBase
import Derived.Lib.ValidLaws
import Derived.Test.YtkcgikgihbglnabDoorLaws
import Derived.Deep.QuietTactic
import Derived.BigQuiet
import Derived.Test.YtkcgikgihbglnabDoorMgA
/- U8Facts -/
namespace Go.Proofs.YtkcgikgihbglnabDoor
open Go.Lib

theorem u8_lead {m : List UInt8} (hne : m ≠ []) {b0 b1 b2 b3 sz lo hi : Nat} (e0 : (m.getD 0 0).toNat = b0) (e1 : (m.getD 1 0).toNat = b1) (e2 : (m.getD 2 0).toNat = b2) (e3 : (m.getD 3 0).toNat = b3) (h0 : 128 ≤ b0)
    (hs : firstT b0 % 8 = sz) (hl : accLo (firstT b0 / 16) = lo) (hh : accHi (firstT b0 / 16) = hi) :
    validD m = match checkN m.length b1 b2 b3 sz lo hi with | none => false | some k => validD (m.drop k) := by
  subst e0 e1 e2 e3 hs hl hh
  exact validD_lead m hne h0
theorem u8_bad {m : List UInt8} (hne : m ≠ []) {b0 : Nat} (e0 : (m.getD 0 0).toNat = b0) (h : (128 ≤ b0 ∧ b0 < 194) ∨ 245 ≤ b0) : validD m = false := by
  have hf : firstT b0 = 241 := by
    unfold firstT
    repeat' split
    all_goals first | rfl | (exfalso; omega)
  rw [u8_lead hne e0 rfl rfl rfl (by omega) (sz := 1) (by rw [hf]) rfl rfl]
  simp [checkN]
theorem u8_two {m : List UInt8} (hne : m ≠ []) {b0 b1 : Nat} (e0 : (m.getD 0 0).toNat = b0) (e1 : (m.getD 1 0).toNat = b1) (h : 194 ≤ b0 ∧ b0 < 224) :
    validD m = if 2 ≤ m.length ∧ 128 ≤ b1 ∧ b1 ≤ 191 then validD (m.drop 2) else false := by
  have hf : firstT b0 = 2 := by
    unfold firstT
    repeat' split
    all_goals first | rfl | (exfalso; omega)
  rw [u8_lead hne e0 e1 rfl rfl (by omega) (sz := 2) (lo := 128) (hi := 191) (by rw [hf]) (by rw [hf]; rfl) (by rw [hf]; rfl)]
  simp only [checkN, if_true]
  by_cases c : m.length < 2 ∨ b1 < 128 ∨ 191 < b1
  · rw [if_pos c, if_neg (by omega)]
  · rw [if_neg c, if_pos (by omega)]
theorem u8_three {m : List UInt8} (hne : m ≠ []) {b0 b1 b2 R : Nat} (e0 : (m.getD 0 0).toNat = b0) (e1 : (m.getD 1 0).toNat = b1) (e2 : (m.getD 2 0).toNat = b2) (h : 224 ≤ b0 ∧ b0 < 240) (hR : R = (b0 % 16 * 64 + b1 % 64) * 64 + b2 % 64) :
    validD m = if 3 ≤ m.length ∧ (128 ≤ b1 ∧ b1 ≤ 191) ∧ (128 ≤ b2 ∧ b2 ≤ 191) ∧ 2048 ≤ R ∧ ¬ (55296 ≤ R ∧ R < 57344) then validD (m.drop 3) else false := by
  have key : ∀ lo hi, firstT b0 % 8 = 3 → accLo (firstT b0 / 16) = lo → accHi (firstT b0 / 16) = hi → (((128 ≤ b1 ∧ b1 ≤ 191) ∧ (128 ≤ b2 ∧ b2 ≤ 191) ∧ 2048 ≤ R ∧ ¬ (55296 ≤ R ∧ R < 57344)) ↔ (lo ≤ b1 ∧ b1 ≤ hi ∧ 128 ≤ b2 ∧ b2 ≤ 191)) →
      validD m = if 3 ≤ m.length ∧ (128 ≤ b1 ∧ b1 ≤ 191) ∧ (128 ≤ b2 ∧ b2 ≤ 191) ∧ 2048 ≤ R ∧ ¬ (55296 ≤ R ∧ R < 57344) then validD (m.drop 3) else false := fun lo hi k1 k2 k3 k4 => by
    rw [u8_lead hne e0 e1 e2 rfl (by omega) k1 k2 k3]
    simp only [checkN, if_true, Nat.reduceEqDiff, if_false]
    by_cases c : m.length < 3 ∨ b1 < lo ∨ hi < b1 ∨ b2 < 128 ∨ 191 < b2
    · rw [if_pos c, if_neg (fun hh => by have := k4.1 hh.2; omega)]
    · rw [if_neg c, if_pos ⟨by omega, k4.2 (by omega)⟩]
  by_cases c2 : b0 = 224
  · subst c2; exact key 160 191 (by decide) (by decide) (by decide) (by omega)
  by_cases c4 : b0 = 237
  · subst c4; exact key 128 159 (by decide) (by decide) (by decide) (by omega)
  · have hf : firstT b0 = 3 := by
      unfold firstT
      repeat' split
      all_goals first | rfl | (exfalso; omega)
    exact key 128 191 (by rw [hf]) (by rw [hf]; rfl) (by rw [hf]; rfl) (by omega)
theorem u8_four {m : List UInt8} (hne : m ≠ []) {b0 b1 b2 b3 R : Nat} (e0 : (m.getD 0 0).toNat = b0) (e1 : (m.getD 1 0).toNat = b1) (e2 : (m.getD 2 0).toNat = b2) (e3 : (m.getD 3 0).toNat = b3) (h : 240 ≤ b0 ∧ b0 < 245) (hR : R = ((b0 % 8 * 64 + b1 % 64) * 64 + b2 % 64) * 64 + b3 % 64) :
    validD m = if 4 ≤ m.length ∧ (128 ≤ b1 ∧ b1 ≤ 191) ∧ (128 ≤ b2 ∧ b2 ≤ 191) ∧ (128 ≤ b3 ∧ b3 ≤ 191) ∧ 65536 ≤ R ∧ R ≤ 1114111 then validD (m.drop 4) else false := by
  have key : ∀ lo hi, firstT b0 % 8 = 4 → accLo (firstT b0 / 16) = lo → accHi (firstT b0 / 16) = hi → (((128 ≤ b1 ∧ b1 ≤ 191) ∧ (128 ≤ b2 ∧ b2 ≤ 191) ∧ (128 ≤ b3 ∧ b3 ≤ 191) ∧ 65536 ≤ R ∧ R ≤ 1114111) ↔ (lo ≤ b1 ∧ b1 ≤ hi ∧ 128 ≤ b2 ∧ b2 ≤ 191 ∧ 128 ≤ b3 ∧ b3 ≤ 191)) →
      validD m = if 4 ≤ m.length ∧ (128 ≤ b1 ∧ b1 ≤ 191) ∧ (128 ≤ b2 ∧ b2 ≤ 191) ∧ (128 ≤ b3 ∧ b3 ≤ 191) ∧ 65536 ≤ R ∧ R ≤ 1114111 then validD (m.drop 4) else false := fun lo hi k1 k2 k3 k4 => by
    rw [u8_lead hne e0 e1 e2 e3 (by omega) k1 k2 k3]
    simp only [checkN, if_true, Nat.reduceEqDiff, if_false]
    by_cases c : m.length < 4 ∨ b1 < lo ∨ hi < b1 ∨ b2 < 128 ∨ 191 < b2 ∨ b3 < 128 ∨ 191 < b3
    · rw [if_pos c, if_neg (fun hh => by have := k4.1 hh.2; omega)]
    · rw [if_neg c, if_pos ⟨by omega, k4.2 (by omega)⟩]
  by_cases c2 : b0 = 240
  · subst c2; exact key 144 191 (by decide) (by decide) (by decide) (by omega)
  by_cases c4 : b0 = 244
  · subst c4; exact key 128 143 (by decide) (by decide) (by decide) (by omega)
  · have hf : firstT b0 = 4 := by
      unfold firstT
      repeat' split
      all_goals first | rfl | (exfalso; omega)
    exact key 128 191 (by rw [hf]) (by rw [hf]; rfl) (by rw [hf]; rfl) (by omega)
end Go.Proofs.YtkcgikgihbglnabDoor

/- U8Ref -/
namespace Go.Proofs.YtkcgikgihbglnabDoor
open Go.RowKit Go.Lib

/-- the rune that the first bytes behind a lead make -/
def rr (l : List UInt8) (k r0 : Nat) : Nat → Nat
  | 0 => r0
  | j + 1 => rr l k r0 j * 64 + (l.getD (k + 1 + j) 0).toNat % 64
theorem getD_drop (l : List UInt8) (k j : Nat) : (l.drop k).getD j 0 = l.getD (k + j) 0 := by simp [List.getD, List.getElem?_drop]
theorem drop_ne {l : List UInt8} {k : Nat} (h : k < l.length) : l.drop k ≠ [] := fun e => by
  have := congrArg List.length e
  simp at this
  omega
def Cont (l : List UInt8) (k t : Nat) : Prop := k + 1 + t < l.length ∧ 128 ≤ (l.getD (k + 1 + t) 0).toNat ∧ (l.getD (k + 1 + t) 0).toNat ≤ 191
def BadR (least R : Nat) : Prop := R < least ∨ 1114111 < R ∨ (55296 ≤ R ∧ R < 57344)
/-- a lead with so many bytes behind it -/
structure Lead (l : List UInt8) (k nn least r0 : Nat) (ANS : Bool) : Prop where
  bad : ∀ t, t < nn → ¬ Cont l k t → ANS = false
  fin : (∀ t, t < nn → Cont l k t) → (BadR least (rr l k r0 nn) → ANS = false) ∧ (¬ BadR least (rr l k r0 nn) → validD (l.drop (k + nn + 1)) = ANS)
  low : rr l k r0 nn ≤ 2097151
theorem lead1 {l : List UInt8} {k b0 : Nat} {ANS : Bool} (hk : k < l.length) (h0 : (l.getD k 0).toNat = b0) (hA : validD (l.drop k) = ANS) (hb : 194 ≤ b0 ∧ b0 < 224) : Lead l k 1 128 (b0 % 32) ANS := by
  have h := u8_two (drop_ne hk) (by rw [getD_drop]; exact h0) rfl hb
  rw [getD_drop, hA, List.length_drop, List.drop_drop] at h
  have l1 := (l.getD (k + 1) 0).toNat_lt
  refine ⟨fun t ht hc => ?_, fun hg => ?_, ?_⟩
  · have e : t = 0 := by omega
    subst e
    rw [h, if_neg (fun hh => hc ⟨by omega, hh.2⟩)]
  · have h1 := hg 0 (by omega)
    unfold Cont at h1
    simp only [Nat.add_zero] at h1
    have hR : rr l k (b0 % 32) 1 = b0 % 32 * 64 + (l.getD (k + 1) 0).toNat % 64 := rfl
    rw [if_pos ⟨by omega, h1.2⟩] at h
    rw [hR]
    refine ⟨fun hbad => ?_, fun _ => by rw [h]⟩
    unfold BadR at hbad
    omega
  · show b0 % 32 * 64 + (l.getD (k + 1 + 0) 0).toNat % 64 ≤ 2097151
    omega
theorem lead2 {l : List UInt8} {k b0 : Nat} {ANS : Bool} (hk : k < l.length) (h0 : (l.getD k 0).toNat = b0) (hA : validD (l.drop k) = ANS) (hb : 224 ≤ b0 ∧ b0 < 240) : Lead l k 2 2048 (b0 % 16) ANS := by
  have h := u8_three (drop_ne hk) (by rw [getD_drop]; exact h0) rfl rfl hb rfl
  rw [getD_drop, getD_drop, hA, List.length_drop, List.drop_drop] at h
  refine ⟨fun t ht hc => ?_, fun hg => ?_, ?_⟩
  · rw [h, if_neg]
    rintro ⟨g1, g2, g3, -⟩
    rcases (show t = 0 ∨ t = 1 by omega) with rfl | rfl
    · exact hc ⟨by omega, g2⟩
    · exact hc ⟨by omega, g3⟩
  · have h1 := hg 0 (by omega)
    have h2 := hg 1 (by omega)
    unfold Cont at h1 h2
    simp only [Nat.add_zero] at h1
    have hR : rr l k (b0 % 16) 2 = (b0 % 16 * 64 + (l.getD (k + 1) 0).toNat % 64) * 64 + (l.getD (k + 2) 0).toNat % 64 := rfl
    rw [← hR] at h
    have hlt : rr l k (b0 % 16) 2 ≤ 1114111 := by rw [hR]; omega
    refine ⟨fun hbad => ?_, fun hnb => ?_⟩
    · rw [h, if_neg]
      rintro ⟨-, -, -, g4, g5⟩
      unfold BadR at hbad
      omega
    · unfold BadR at hnb
      rw [h, if_pos ⟨by omega, h1.2, h2.2, by omega, by omega⟩]
  · have hR : rr l k (b0 % 16) 2 = (b0 % 16 * 64 + (l.getD (k + 1) 0).toNat % 64) * 64 + (l.getD (k + 2) 0).toNat % 64 := rfl
    rw [hR]
    omega
theorem lead3 {l : List UInt8} {k b0 : Nat} {ANS : Bool} (hk : k < l.length) (h0 : (l.getD k 0).toNat = b0) (hA : validD (l.drop k) = ANS) (hb : 240 ≤ b0 ∧ b0 < 245) : Lead l k 3 65536 (b0 % 8) ANS := by
  have h := u8_four (drop_ne hk) (by rw [getD_drop]; exact h0) rfl rfl rfl hb rfl
  rw [getD_drop, getD_drop, getD_drop, hA, List.length_drop, List.drop_drop] at h
  refine ⟨fun t ht hc => ?_, fun hg => ?_, ?_⟩
  · rw [h, if_neg]
    rintro ⟨g1, g2, g3, g4, -⟩
    rcases (show t = 0 ∨ t = 1 ∨ t = 2 by omega) with rfl | rfl | rfl
    · exact hc ⟨by omega, g2⟩
    · exact hc ⟨by omega, g3⟩
    · exact hc ⟨by omega, g4⟩
  · have h1 := hg 0 (by omega)
    have h2 := hg 1 (by omega)
    have h3 := hg 2 (by omega)
    unfold Cont at h1 h2 h3
    simp only [Nat.add_zero] at h1
    have hR : rr l k (b0 % 8) 3 = ((b0 % 8 * 64 + (l.getD (k + 1) 0).toNat % 64) * 64 + (l.getD (k + 2) 0).toNat % 64) * 64 + (l.getD (k + 3) 0).toNat % 64 := rfl
    rw [← hR] at h
    refine ⟨fun hbad => ?_, fun hnb => ?_⟩
    · rw [h, if_neg]
      rintro ⟨-, -, -, -, g4, g5⟩
      unfold BadR at hbad
      omega
    · unfold BadR at hnb
      rw [h, if_pos ⟨by omega, h1.2, h2.2, h3.2, by omega, by omega⟩]
  · have hR : rr l k (b0 % 8) 3 = ((b0 % 8 * 64 + (l.getD (k + 1) 0).toNat % 64) * 64 + (l.getD (k + 2) 0).toNat % 64) * 64 + (l.getD (k + 3) 0).toNat % 64 := rfl
    rw [hR]
    omega
theorem drop_stepU {l : List UInt8} {k : Nat} (h : k < l.length) : l.drop k = l.getD k 0 :: l.drop (k + 1) := by
  rw [List.drop_eq_getElem_cons h]
  simp [h]

end Go.Proofs.YtkcgikgihbglnabDoor

/- U8Ref2 -/
namespace Go.Proofs.YtkcgikgihbglnabDoor
open Go.RowKit Go.Lib

theorem hid_mkU {p : Prop} (h : p) : Hid p := h
set_option maxRecDepth 100000 in
theorem and192 : ∀ X : Fin 256, bits .and .u8 ((X.val : Nat) : Int) 192 = ((X.val / 64 * 64 : Nat) : Int) := by decide
set_option maxRecDepth 100000 in
theorem and63 : ∀ X : Fin 256, bits .and .u8 ((X.val : Nat) : Int) 63 = ((X.val % 64 : Nat) : Int) := by decide
set_option maxRecDepth 100000 in
theorem and31 : ∀ X : Fin 256, bits .and .i64 ((X.val : Nat) : Int) 31 = ((X.val % 32 : Nat) : Int) := by decide
set_option maxRecDepth 100000 in
theorem and15 : ∀ X : Fin 256, bits .and .i64 ((X.val : Nat) : Int) 15 = ((X.val % 16 : Nat) : Int) := by decide
set_option maxRecDepth 100000 in
theorem and7i : ∀ X : Fin 256, bits .and .i64 ((X.val : Nat) : Int) 7 = ((X.val % 8 : Nat) : Int) := by decide

end Go.Proofs.YtkcgikgihbglnabDoor

/- LbO -/
namespace Go.Proofs.YtkcgikgihbglnabDoor
open Go.RowKit Go.Lib

/-- what is wrong of a label -/
def oneE (n v : List UInt8) : Int := if nameB n = false then 40 else if v = [] then 41 else if 256 < v.length then 4 else if validD v = false then 12 else 0

theorem empty_facts {v : List UInt8} (h : ¬ v = []) : (ByteArray.mk ⟨v⟩).toList.isEmpty = false ∧ ¬ (ByteArray.mk ⟨v⟩).toList = [] ∧ v.isEmpty = false := by
  refine ⟨?_, ?_, ?_⟩
  · rw [ByteArray.toList_eq]; cases v with | nil => exact absurd rfl h | cons c t => rfl
  · rw [ByteArray.toList_eq]; exact h
  · cases v with | nil => exact absurd rfl h | cons c t => rfl

/-- the label's own box -/
def Bx (w : World) (b0 : Nat) (sn sv : ByteArray) (W : World) : Prop := W.heap[b0]? = some (.cells #[.string sn, .string sv] 42 (0, 0)) ∧ w.grownBy W none
theorem Bx.cells {w W : World} {b0 : Nat} {sn sv : ByteArray} (h : Bx w b0 sn sv W) : W.cell? ⟨b0, 0, none⟩ = some (.string sn) ∧ W.cell? ⟨b0, 1, none⟩ = some (.string sv) := ⟨by simp [World.cell?, h.1], by simp [World.cell?, h.1]⟩
theorem Bx.keep {w W W' : World} {b0 : Nat} {sn sv : ByteArray} (h : Bx w b0 sn sv W) (hg : W.grownBy W' none) : Bx w b0 sn sv W' :=
  ⟨(hg.block b0 (Array.getElem?_eq_some_iff.1 h.1).1 (by simp)).trans h.1, gb_none h.2 hg⟩

end Go.Proofs.YtkcgikgihbglnabDoor
