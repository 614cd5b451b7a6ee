/-
  A label of a text that is read, by the document, in words: what it is beside the project's.
-/
import Derived.Test.YtkcgikgihbglnaaDoorLbDr
import Derived.Test.YtkcgikgihbglnaaDoorLbDv
namespace Go.Proofs.YtkcgikgihbglnaaDoor
open Go.RowKit

theorem skp_out (s : List UInt8) (k : Nat) (h : skp s k < s.length) : pisBlank (s.getD (skp s k) 0) = false := by
  unfold skp at h ⊢
  have h1 := span_out pisBlank (s.drop k) (by rw [List.length_drop]; omega)
  have e : s.getD (k + span pisBlank (s.drop k)) 0 = (s.drop k).getD (span pisBlank (s.drop k)) 0 := by
    simp [List.getD, List.getElem?_drop]
  rw [e]
  exact h1
theorem skp_idem (s : List UInt8) (k : Nat) : skp s (skp s k) = skp s k := skp_no (fun h => skp_out s k h)
theorem tkK_no {s : List UInt8} {k : Nat} {c : UInt8} (h : tkB s k c = false) : tkK s k c = skp s k := by
  unfold tkK
  rw [if_neg (by rw [h]; simp)]
theorem tkB_skp (s : List UInt8) (k : Nat) (c : UInt8) : tkB s (skp s k) c = tkB s k c := by
  unfold tkB
  rw [skp_idem]
theorem tkK_skp (s : List UInt8) (k : Nat) (c : UInt8) : tkK s (skp s k) c = tkK s k c := by
  unfold tkK
  rw [tkB_skp, skp_idem]
/-- behind a label: what the labels come to -/
def tailS (f : Nat) (s : List UInt8) (k : Nat) (acc : List LbT) : List LbT × Bool × Nat :=
  if tkB s k 44 = false then (acc, tkB s (tkK s k 44) 125, tkK s (tkK s k 44) 125) else labsS f s (tkK s k 44) acc
theorem labsS_tail (f : Nat) (s : List UInt8) (k : Nat) (acc : List LbT) : labsS (f + 1) s k acc = if tkB s k 125 = true then (acc, true, tkK s k 125)
    else if (labS s (tkK s k 125)).2.2.1 = false then ([], false, (labS s (tkK s k 125)).2.2.2)
    else tailS f s (labS s (tkK s k 125)).2.2.2 (acc ++ [((labS s (tkK s k 125)).1, (labS s (tkK s k 125)).2.1)]) := by
  rw [labsS_step]
  rfl
/-- the sign that ends them, behind a label -/
theorem tail_end {f : Nat} {s : List UInt8} {k : Nat} {acc : List LbT} (h : tkB s k 125 = true) : tailS f s k acc = (acc, true, tkK s k 125) := by
  have h1 : tkB s k 44 = false := by
    unfold tkB at h ⊢
    rw [Bool.and_eq_true] at h
    have := of_decide_eq_true h.2
    rw [this]
    simp
  unfold tailS
  rw [if_pos h1, tkK_no h1, tkB_skp, tkK_skp, h]
/-- neither it nor a comma, behind a label -/
theorem tail_bad {f : Nat} {s : List UInt8} {k : Nat} {acc : List LbT} (h : tkB s k 125 = false) (h1 : tkB s (tkK s k 125) 44 = false) : (tailS f s k acc).2.1 = false ∧ (tailS f s k acc).2.2 = tkK s (tkK s k 125) 44 := by
  rw [tkK_no h, tkB_skp] at h1
  unfold tailS
  rw [if_pos h1, tkK_no h1, tkB_skp, tkK_skp, h, tkK_no h, tkK_skp, tkK_no h1]
  exact ⟨rfl, rfl⟩
/-- a comma, behind a label -/
theorem tail_go {f : Nat} {s : List UInt8} {k : Nat} {acc : List LbT} (h : tkB s k 125 = false) (h1 : tkB s (tkK s k 125) 44 = true) : tailS f s k acc = labsS f s (tkK s (tkK s k 125) 44) acc := by
  rw [tkK_no h, tkB_skp] at h1
  unfold tailS
  rw [if_neg (by rw [h1]; simp), tkK_no h, tkK_skp]
/-- the fault behind a name -/
def nmB (s : List UInt8) (k : Nat) : Nat := if nameB (nmS s k) = true then 0 else k + 1
/-- a label that is read -/
theorem lab_words (s : List UInt8) (k k4 b4 : Nat) (h4 : (k4, b4) = wantS s (k + (nmS s k).length) (nmB s k) 61) :
    ((rvS s k4 b4).2 = 0 → labS s k = (nmS s k, (rvS s k4 b4).1, true, (valS (s.length + 1) s (wantS s k4 b4 34).1 []).2.2)) ∧ ((rvS s k4 b4).2 ≠ 0 → (labS s k).2.2.1 = false ∧ (rvS s k4 b4).2 = (labS s k).2.2.2 + 1) := by
  by_cases hn : nameB (nmS s k) = true
  · have hb : nmB s k = 0 := if_pos hn
    rw [hb] at h4
    unfold wantS at h4
    rw [if_pos rfl] at h4
    by_cases h5 : tkB s (k + (nmS s k).length) 61 = true
    · rw [if_pos h5, Prod.mk.injEq] at h4
      obtain ⟨rfl, rfl⟩ := h4
      by_cases h6 : tkB s (tkK s (k + (nmS s k).length) 61) 34 = true
      · have hw : wantS s (tkK s (k + (nmS s k).length) 61) 0 34 = (tkK s (tkK s (k + (nmS s k).length) 61) 34, 0) := by
          unfold wantS
          rw [if_pos rfl, if_pos h6]
        have hl : labS s k = (nmS s k, (valS (s.length + 1) s (tkK s (tkK s (k + (nmS s k).length) 61) 34) []).1, (valS (s.length + 1) s (tkK s (tkK s (k + (nmS s k).length) 61) 34) []).2.1, (valS (s.length + 1) s (tkK s (tkK s (k + (nmS s k).length) 61) 34) []).2.2) := by
          unfold labS
          rw [if_neg (by rw [hn]; simp), if_neg (by rw [h5]; simp), if_neg (by rw [h6]; simp)]
        rw [hl]
        unfold rvS
        rw [hw]
        rw [if_pos rfl]
        by_cases h7 : (valS (s.length + 1) s (tkK s (tkK s (k + (nmS s k).length) 61) 34) []).2.1 = true
        · rw [if_pos h7]
          refine ⟨fun _ => ?_, fun h => absurd rfl h⟩
          rw [h7]
        · rw [if_neg h7]
          refine ⟨fun h => absurd h (by simp), fun _ => ⟨by simpa using h7, rfl⟩⟩
      · have h6' : tkB s (tkK s (k + (nmS s k).length) 61) 34 = false := by simpa using h6
        have hw : wantS s (tkK s (k + (nmS s k).length) 61) 0 34 = (tkK s (tkK s (k + (nmS s k).length) 61) 34, tkK s (tkK s (k + (nmS s k).length) 61) 34 + 1) := by
          unfold wantS
          rw [if_pos rfl, if_neg h6]
        have hl : labS s k = ([], [], false, tkK s (tkK s (k + (nmS s k).length) 61) 34) := by
          unfold labS
          rw [if_neg (by rw [hn]; simp), if_neg (by rw [h5]; simp), if_pos h6']
        rw [hl]
        unfold rvS
        rw [hw]
        rw [if_neg (by simp)]
        exact ⟨fun h => absurd h (by simp), fun _ => ⟨rfl, rfl⟩⟩
    · have h5' : tkB s (k + (nmS s k).length) 61 = false := by simpa using h5
      rw [if_neg h5, Prod.mk.injEq] at h4
      obtain ⟨rfl, rfl⟩ := h4
      have hl : labS s k = ([], [], false, tkK s (k + (nmS s k).length) 61) := by
        unfold labS
        rw [if_neg (by rw [hn]; simp), if_pos h5']
      have hw : ∀ q, wantS s q (tkK s (k + (nmS s k).length) 61 + 1) 34 = (q, tkK s (k + (nmS s k).length) 61 + 1) := fun q => by
        unfold wantS
        rw [if_neg (by simp)]
      rw [hl]
      unfold rvS
      rw [hw]
      rw [if_neg (by simp)]
      exact ⟨fun h => absurd h (by simp), fun _ => ⟨rfl, rfl⟩⟩
  · have hn' : nameB (nmS s k) = false := by simpa using hn
    have hb : nmB s k = k + 1 := if_neg hn
    rw [hb] at h4
    unfold wantS at h4
    rw [if_neg (by simp), Prod.mk.injEq] at h4
    obtain ⟨rfl, rfl⟩ := h4
    have hl : labS s k = ([], [], false, k) := by
      unfold labS
      rw [if_pos hn']
    have hw : ∀ q, wantS s q (k + 1) 34 = (q, k + 1) := fun q => by
      unfold wantS
      rw [if_neg (by simp)]
    rw [hl]
    unfold rvS
    rw [hw]
    rw [if_neg (by simp)]
    exact ⟨fun h => absurd h (by simp), fun _ => ⟨rfl, rfl⟩⟩
theorem wantS_le {s : List UInt8} {k b : Nat} {c : UInt8} (hk : k ≤ s.length) : (wantS s k b c).1 ≤ s.length := by
  have := tkK_len s k c hk
  unfold wantS
  split
  · split
    · exact this
    · exact this
  · exact hk
theorem rvS_bad {s : List UInt8} {k b : Nat} (hb : b ≠ 0) : rvS s k b = ([], b) := by
  unfold rvS wantS
  rw [if_neg hb]
  rw [if_neg hb]
theorem wantS_bad {s : List UInt8} {k b : Nat} {c : UInt8} (hb : b ≠ 0) : wantS s k b c = (k, b) := by
  unfold wantS
  rw [if_neg hb]
end Go.Proofs.YtkcgikgihbglnaaDoor
