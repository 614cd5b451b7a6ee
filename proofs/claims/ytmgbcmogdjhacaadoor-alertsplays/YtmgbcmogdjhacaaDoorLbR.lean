/-
  The document's names of labels and metrics: the walks.
-/
import Derived.Test.YtmgbcmogdjhacaaDoorLbN2
namespace Go.Proofs.YtmgbcmogdjhacaaDoor
open Go.RowKit

theorem span_all (p : UInt8 → Bool) : ∀ (l : List UInt8), (∀ j, j < l.length → p (l.getD j 0) = true) → span p l = l.length := by
  intro l h
  by_cases hs : span p l < l.length
  · have h1 := span_out p l hs
    rw [h _ hs] at h1
    cases h1
  · have := span_le p l
    omega

def bName (l : List UInt8) : Bool := nameB l
def bMetric (l : List UInt8) : Bool := metricB l
abbrev mostName : Nat := 64
abbrev mostMetric : Nat := 256
def okName (l : List UInt8) (j : Nat) : Bool := pLetter (l.getD j 0) || (decide (j ≠ 0) && pDigit (l.getD j 0))
def okMetric (l : List UInt8) (j : Nat) : Bool := pLetter (l.getD j 0) || decide ((l.getD j 0).toNat = 58) || (decide (j ≠ 0) && pDigit (l.getD j 0))
def okcName (z : Bool) (c : UInt8) : Bool := pLetter c || (z && pDigit c)
def okcMetric (z : Bool) (c : UInt8) : Bool := pLetter c || decide (c.toNat = 58) || (z && pDigit c)
theorem longName (l : List UInt8) (h : 64 < l.length) : bName l = false := by unfold bName nameB; rw [decide_eq_false (by omega)]; rfl
theorem longMetric (l : List UInt8) (h : 256 < l.length) : bMetric l = false := by unfold bMetric metricB; rw [decide_eq_false (by omega)]; rfl
theorem letter_no_digit {c : UInt8} (h : pLetter c = true) : pDigit c = false := by
  unfold pLetter at h
  unfold pDigit
  rw [decide_eq_true_eq] at h
  exact decide_eq_false (by omega)
theorem allName (l : List UInt8) (h0 : l ≠ []) (h1 : l.length ≤ 64) (h : ∀ j, j < l.length → okName l j = true) : bName l = true := by
  unfold bName nameB
  rw [decide_eq_true h1]
  cases l with
  | nil => exact absurd rfl h0
  | cons c t =>
    have hd := h 0 (by simp)
    simp only [okName, List.getD_cons_zero, ne_eq, not_true_eq_false, decide_false, Bool.false_and, Bool.or_false] at hd
    have hs : span pinName (c :: t) = (c :: t).length := span_all _ _ (fun j hj => by
      have := h j hj
      unfold okName at this
      rw [letter_name]
      rw [Bool.or_eq_true] at this ⊢
      rcases this with h | h
      · exact .inl h
      · exact .inr (by rw [Bool.and_eq_true] at h; exact h.2))
    simp only [isN, letter_no_digit hd, hs, List.length_cons]
    simp
theorem noneName (l : List UInt8) (j : Nat) (hj : j < l.length) (h : okName l j = false) : bName l = false := by
  unfold bName nameB
  cases l with
  | nil => simp at hj
  | cons c t =>
    unfold okName at h
    rw [Bool.or_eq_false_iff, Bool.and_eq_false_iff] at h
    by_cases hd : pDigit c = true
    · simp [isN, hd]
    · have hs : span pinName (c :: t) ≠ t.length + 1 := fun e => by
        have hp := span_in pinName (c :: t) j (by rw [e]; simpa using hj)
        rw [letter_name, h.1, Bool.false_or] at hp
        rcases h.2 with h2 | h2
        · have : j = 0 := by simpa using h2
          subst this
          exact hd hp
        · rw [h2] at hp
          cases hp
      simp [isN, hs]
theorem allMetric (l : List UInt8) (h0 : l ≠ []) (h1 : l.length ≤ 256) (h : ∀ j, j < l.length → okMetric l j = true) : bMetric l = true := by
  unfold bMetric metricB
  rw [decide_eq_true h1]
  cases l with
  | nil => exact absurd rfl h0
  | cons c t =>
    have hd := h 0 (by simp)
    simp only [okMetric, List.getD_cons_zero, ne_eq, not_true_eq_false, decide_false, Bool.false_and, Bool.or_false] at hd
    have hnd : pDigit c = false := by
      rw [Bool.or_eq_true] at hd
      rcases hd with hd | hd
      · exact letter_no_digit hd
      · unfold pDigit
        rw [decide_eq_true_eq] at hd
        exact decide_eq_false (by omega)
    have hs : span pinMetric (c :: t) = (c :: t).length := span_all _ _ (fun j hj => by
      have := h j hj
      unfold okMetric at this
      rw [name_metric, letter_name]
      simp only [Bool.or_eq_true] at this ⊢
      rcases this with (h | h) | h
      · exact .inl (.inl h)
      · exact .inr h
      · exact .inl (.inr (by rw [Bool.and_eq_true] at h; exact h.2)))
    simp only [isN, hnd, hs, List.length_cons]
    simp
theorem noneMetric (l : List UInt8) (j : Nat) (hj : j < l.length) (h : okMetric l j = false) : bMetric l = false := by
  unfold bMetric metricB
  cases l with
  | nil => simp at hj
  | cons c t =>
    unfold okMetric at h
    rw [Bool.or_eq_false_iff, Bool.or_eq_false_iff, Bool.and_eq_false_iff] at h
    by_cases hd : pDigit c = true
    · simp [isN, hd]
    · have hs : span pinMetric (c :: t) ≠ t.length + 1 := fun e => by
        have hp := span_in pinMetric (c :: t) j (by rw [e]; simpa using hj)
        rw [name_metric, letter_name, h.1.1, h.1.2, Bool.false_or, Bool.or_false] at hp
        rcases h.2 with h2 | h2
        · have : j = 0 := by simpa using h2
          subst this
          exact hd hp
        · rw [h2] at hp
          cases hp
      simp [isN, hs]

theorem refDigit_any (c : UInt8) (w : World) : Calls Tryd.prog 59 #[.int .u8 (c.toNat : Int)] w fun e w' => e = .returned (.bool (pDigit c)) ∧ w' = w := by
  unfold pDigit
  have hn : c.toNat < 256 := c.toNat_lt
  generalize c.toNat = n at *
  obtain ⟨B, hB⟩ : ∃ B, decide (48 ≤ n ∧ n ≤ 57) = B := ⟨_, rfl⟩
  rw [hB]
  have HB : Hid (decide (48 ≤ n ∧ n ≤ 57) = B) := hB
  clear hB
  go_enter Tryd.func59, Tryd.ntmps59
  go_wp2
  all_goals go_ret
  all_goals refine ⟨ret_bool ?_, rfl⟩
  all_goals (rw [← HB.out, Bool.eq_iff_iff]; first | (simp; omega) | (simp; done))
theorem refLetter_any (c : UInt8) (w : World) : Calls Tryd.prog 58 #[.int .u8 (c.toNat : Int)] w fun e w' => e = .returned (.bool (pLetter c)) ∧ w' = w := by
  unfold pLetter
  have hn : c.toNat < 256 := c.toNat_lt
  generalize c.toNat = n at *
  obtain ⟨B, hB⟩ : ∃ B, decide ((97 ≤ n ∧ n ≤ 122) ∨ (65 ≤ n ∧ n ≤ 90) ∨ n = 95) = B := ⟨_, rfl⟩
  rw [hB]
  have HB : Hid (decide ((97 ≤ n ∧ n ≤ 122) ∨ (65 ≤ n ∧ n ≤ 90) ∨ n = 95) = B) := hB
  clear hB
  go_enter Tryd.func58, Tryd.ntmps58
  go_wp2
  all_goals go_ret
  all_goals refine ⟨ret_bool ?_, rfl⟩
  all_goals (rw [← HB.out, Bool.eq_iff_iff]; first | (simp; omega) | (simp; done))
end Go.Proofs.YtmgbcmogdjhacaaDoor
