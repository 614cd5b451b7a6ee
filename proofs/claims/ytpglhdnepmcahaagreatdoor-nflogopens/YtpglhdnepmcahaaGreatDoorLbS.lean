/-
  Labels sorted: what slices.SortFunc by compareOne comes to, at whatever length.
-/
import Derived.Test.YtpglhdnepmcahaaGreatDoorLcA
namespace Go.Proofs.YtpglhdnepmcahaaGreatDoor
open Go.RowKit Go.Shelf Go.Sort

theorem cmpS_lt (a b : List UInt8) : (cmpS a b < 0) = (a < b) := by
  unfold cmpS
  by_cases h : a < b
  · simp [h]
  · by_cases h2 : b < a <;> simp [h, h2]
theorem cmpS_ne (a b : List UInt8) : (cmpS a b ≠ 0) = (a ≠ b) := by
  unfold cmpS
  by_cases h : a < b
  · have : a ≠ b := by intro e; subst e; exact List.lt_irrefl _ h
    simp [h, this]
  · by_cases h2 : b < a
    · have : a ≠ b := by intro e; subst e; exact List.lt_irrefl _ h2
      simp [h, h2, this]
    · have : a = b := by
        rcases List.le_total a b with h' | h'
        · exact List.le_antisymm h' (List.not_lt.1 h)
        · exact List.le_antisymm (List.not_lt.1 h2) h'
      subst this
      simp [h]
/-- one label comes ahead of another -/
theorem ltL (x y : LbT) : ltOf cmpL x y = decide (x.1 < y.1 ∨ (x.1 = y.1 ∧ x.2 < y.2)) := by
  unfold ltOf cmpL
  by_cases h : x.1 = y.1
  · have hn : ¬ cmpS x.1 y.1 ≠ 0 := by rw [cmpS_ne]; simpa using h
    rw [if_neg hn]
    simp only [cmpS_lt, h, List.lt_irrefl, false_or, true_and]
  · have hn : cmpS x.1 y.1 ≠ 0 := by rw [cmpS_ne]; exact h
    rw [if_pos hn]
    simp only [cmpS_lt, h, false_and, or_false]
theorem tri (a b : List UInt8) : a < b ∨ a = b ∨ b < a := by
  by_cases h : a < b
  · exact .inl h
  · by_cases h2 : b < a
    · exact .inr (.inr h2)
    · right; left
      rcases List.le_total a b with h' | h'
      · exact List.le_antisymm h' (List.not_lt.1 h)
      · exact List.le_antisymm (List.not_lt.1 h2) h'
theorem swoL : SWO (ltOf cmpL) where
  irrefl x := by rw [ltL, decide_eq_false_iff_not]; rintro (h | ⟨-, h⟩) <;> exact List.lt_irrefl _ h
  trans x y z h1 h2 := by
    rw [ltL, decide_eq_true_eq] at *
    rcases h1 with h1 | ⟨e1, h1⟩ <;> rcases h2 with h2 | ⟨e2, h2⟩
    · exact .inl (List.lt_trans h1 h2)
    · exact .inl (e2 ▸ h1)
    · exact .inl (e1 ▸ h2)
    · exact .inr ⟨e1.trans e2, List.lt_trans h1 h2⟩
  ntrans x y z h1 h2 := by
    rw [ltL, decide_eq_false_iff_not] at *
    intro h3
    rcases tri x.1 y.1 with a1 | a1 | a1
    · exact h1 (.inl a1)
    · rcases h3 with h3 | ⟨e3, h3⟩
      · exact h2 (.inl (a1 ▸ h3))
      · rcases tri x.2 y.2 with b1 | b1 | b1
        · exact h1 (.inr ⟨a1, b1⟩)
        · exact h2 (.inr ⟨a1 ▸ e3, b1 ▸ h3⟩)
        · exact h2 (.inr ⟨a1 ▸ e3, List.lt_trans b1 h3⟩)
    · rcases h3 with h3 | ⟨e3, h3⟩
      · exact h2 (.inl (List.lt_trans a1 h3))
      · exact h2 (.inl (e3 ▸ a1))
/-- a label's two cells -/
def encL (x : LbT) : List Value := [.string (ByteArray.mk ⟨x.1⟩), .string (ByteArray.mk ⟨x.2⟩)]
end Go.Proofs.YtpglhdnepmcahaaGreatDoor
