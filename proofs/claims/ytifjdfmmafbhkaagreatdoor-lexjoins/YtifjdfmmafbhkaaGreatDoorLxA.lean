/-
  Runes of a text by its bytes; how far blanks and remarks, and a word, go; nothing of the program is in it.
-/
import Derived.WalkKit
import Derived.Lib.TrimUEq
import Derived.Laws.RangeAny
namespace Go.Proofs.YtifjdfmmafbhkaaGreatDoor
open Go.RowKit

abbrev LxS := List UInt8
/-- a byte as a number; 0 behind the end -/
def byN (l : LxS) (k : Nat) : Nat := (l.getD k 0).toNat
theorem dec_lo {l : LxS} {p : Nat} (hc : byN l p < 128) : Utf8.decode (ByteArray.mk ⟨l⟩) p = (byN l p, 1) := by
  rw [Go.Lib.decode_N]
  show Go.Lib.decodeN (l.length - p) (byN l p) _ _ _ = _
  unfold Go.Lib.decodeN
  rw [if_pos hc]
theorem dec_hi {l : LxS} {p : Nat} (hp : p < l.length) (hc : 128 ≤ byN l p) : 128 ≤ (Utf8.decode (ByteArray.mk ⟨l⟩) p).1 ∧ 1 ≤ (Utf8.decode (ByteArray.mk ⟨l⟩) p).2 ∧ p + (Utf8.decode (ByteArray.mk ⟨l⟩) p).2 ≤ l.length ∧ ∀ j, j < (Utf8.decode (ByteArray.mk ⟨l⟩) p).2 → 128 ≤ byN l (p + j) := by
  rw [Go.Lib.decode_N]
  show 128 ≤ (Go.Lib.decodeN (l.length - p) (byN l p) (byN l (p + 1)) (byN l (p + 2)) (byN l (p + 3))).1 ∧ 1 ≤ (Go.Lib.decodeN (l.length - p) (byN l p) (byN l (p + 1)) (byN l (p + 2)) (byN l (p + 3))).2 ∧ p + (Go.Lib.decodeN (l.length - p) (byN l p) (byN l (p + 1)) (byN l (p + 2)) (byN l (p + 3))).2 ≤ l.length ∧ ∀ j, j < (Go.Lib.decodeN (l.length - p) (byN l p) (byN l (p + 1)) (byN l (p + 2)) (byN l (p + 3))).2 → 128 ≤ byN l (p + j)
  have h0 : byN l (p + 0) = byN l p := rfl
  generalize e1 : byN l (p + 1) = b1 at *
  generalize e2 : byN l (p + 2) = b2 at *
  generalize e3 : byN l (p + 3) = b3 at *
  have step : ∀ (j : Nat), 128 ≤ (if j = 0 then byN l p else if j = 1 then b1 else if j = 2 then b2 else if j = 3 then b3 else byN l (p + j)) → 128 ≤ byN l (p + j) := fun j h => by
    by_cases j0 : j = 0
    · subst j0; simpa using h
    · by_cases j1 : j = 1
      · subst j1; rw [e1]; simpa using h
      · by_cases j2 : j = 2
        · subst j2; rw [e2]; simpa using h
        · by_cases j3 : j = 3
          · subst j3; rw [e3]; simpa using h
          · simpa [j0, j1, j2, j3] using h
  generalize byN l p = b0 at *
  clear h0 e1 e2 e3
  unfold Go.Lib.decodeN
  rw [if_neg (by omega)]
  repeat' split
  all_goals
    refine ⟨by simp <;> omega, by simp, by simp <;> omega, fun j hj => step j ?_⟩
    simp at hj
    (repeat' split) <;> omega
/-- may it stand in a word? -/
def wdB (c : Nat) : Bool := (decide (97 ≤ c) && decide (c ≤ 122)) || (decide (65 ≤ c) && decide (c ≤ 90)) || (decide (48 ≤ c) && decide (c ≤ 57)) || c == 95 || c == 58
/-- from p on: how many bytes of a word -/
def wdN (l : LxS) (p : Nat) : Nat := ((l.drop p).takeWhile fun c => wdB c.toNat).length
/-- blanks and remarks, by bytes: how many -/
def blN : Bool → LxS → Nat
  | _, [] => 0
  | r, c :: t => if c = 10 then 1 + blN false t else if r = true then 1 + blN r t else if c = 32 ∨ c = 9 ∨ c = 13 then 1 + blN false t else if c = 35 then 1 + blN true t else 0
theorem blN_le (r : Bool) (l : LxS) : blN r l ≤ l.length := by
  induction l generalizing r with
  | nil => exact Nat.le_refl _
  | cons c t ih =>
    have h1 := ih false
    have h2 := ih true
    have h3 := ih r
    unfold blN
    simp only [List.length_cons]
    (repeat' split) <;> omega
theorem u8_eq {c : UInt8} {n : Nat} (hn : n < 256) : c = UInt8.ofNat n ↔ c.toNat = n := by
  constructor
  · rintro rfl
    rw [UInt8.toNat_ofNat']
    omega
  · intro h
    rw [← UInt8.toNat_inj, UInt8.toNat_ofNat', h]
    omega
/-- in a remark a rune of more bytes is gone over whole -/
theorem blN_high (l : LxS) (k : Nat) (hk : k ≤ l.length) (h : ∀ j, j < k → 128 ≤ byN l j) : blN true l = k + blN true (l.drop k) := by
  induction k generalizing l with
  | zero => simp
  | succ k ih =>
    cases l with
    | nil => simp at hk
    | cons c t =>
      have h0 := h 0 (by omega)
      have hc : 128 ≤ c.toNat := h0
      have hne : ¬ c = 10 := fun e => by
        subst e
        exact absurd hc (by decide)
      have := ih t (by simpa using hk) (fun j hj => h (j + 1) (by omega))
      show (if c = 10 then 1 + blN false t else if true = true then 1 + blN true t else _) = _
      rw [if_neg hne, if_pos rfl, this, List.drop_succ_cons]
      omega
end Go.Proofs.YtifjdfmmafbhkaaGreatDoor
