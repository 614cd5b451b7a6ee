/-
  Names of labels and metrics, of the project and of the document: the walks.
-/
import Derived.Test.YtmgbcmogdjhacaaDoorLaws
import Derived.WalkMore
import Derived.Deep.RegionHeld3
namespace Go.Proofs.YtmgbcmogdjhacaaDoor
open Go.RowKit

def pDigit (c : UInt8) : Bool := decide (48 ≤ c.toNat ∧ c.toNat ≤ 57)
def pLetter (c : UInt8) : Bool := decide ((97 ≤ c.toNat ∧ c.toNat ≤ 122) ∨ (65 ≤ c.toNat ∧ c.toNat ≤ 90) ∨ c.toNat = 95)
def pinName (c : UInt8) : Bool := decide ((97 ≤ c.toNat ∧ c.toNat ≤ 122) ∨ (65 ≤ c.toNat ∧ c.toNat ≤ 90) ∨ c.toNat = 95 ∨ (48 ≤ c.toNat ∧ c.toNat ≤ 57))
def pinMetric (c : UInt8) : Bool := decide ((97 ≤ c.toNat ∧ c.toNat ≤ 122) ∨ (65 ≤ c.toNat ∧ c.toNat ≤ 90) ∨ c.toNat = 95 ∨ (48 ≤ c.toNat ∧ c.toNat ≤ 57) ∨ c.toNat = 58)
def pisBlank (c : UInt8) : Bool := decide (c.toNat = 32 ∨ c.toNat = 9)
theorem name_metric (c : UInt8) : pinMetric c = (pinName c || decide (c.toNat = 58)) := by
  unfold pinMetric pinName
  rw [Bool.eq_iff_iff, Bool.or_eq_true]
  simp only [decide_eq_true_eq]
  omega
theorem letter_name (c : UInt8) : pinName c = (pLetter c || pDigit c) := by
  unfold pinName pLetter pDigit
  rw [Bool.eq_iff_iff, Bool.or_eq_true]
  simp only [decide_eq_true_eq]
  omega
theorem ret_bool {a b : Bool} (h : a = b) : Ending.returned (.bool a) = .returned (.bool b) := by rw [h]
def span (p : UInt8 → Bool) (l : List UInt8) : Nat := (l.takeWhile p).length
theorem span_le (p : UInt8 → Bool) (l : List UInt8) : span p l ≤ l.length := by
  unfold span
  exact (List.takeWhile_sublist p).length_le
theorem span_in (p : UInt8 → Bool) : ∀ (l : List UInt8) (z : Nat), z < span p l → p (l.getD z 0) = true := by
  intro l
  induction l with
  | nil => intro z hz; simp [span] at hz
  | cons c l ih =>
    intro z hz
    unfold span at hz ih
    rw [List.takeWhile_cons] at hz
    split at hz
    · rename_i hc
      cases z with
      | zero => simpa using hc
      | succ z =>
        simp only [List.length_cons] at hz
        have := ih z (by omega)
        simpa using this
    · simp at hz
theorem span_out (p : UInt8 → Bool) : ∀ (l : List UInt8), span p l < l.length → p (l.getD (span p l) 0) = false := by
  intro l
  induction l with
  | nil => intro h; simp [span] at h
  | cons c l ih =>
    intro h
    unfold span at h ih ⊢
    rw [List.takeWhile_cons] at h ⊢
    split at h
    · rename_i hc
      rw [if_pos hc]
      simp only [List.length_cons] at h ⊢
      have := ih (by omega)
      simpa using this
    · rename_i hc
      rw [if_neg hc]
      simpa using hc

theorem isDigit_any (c : UInt8) (w : World) : Calls Tryd.prog 86 #[.int .u8 (c.toNat : Int)] w fun e w' => e = .returned (.bool (pDigit c)) ∧ w' = w := by
  unfold pDigit
  have hn : c.toNat < 256 := c.toNat_lt
  generalize c.toNat = n at *
  obtain ⟨B, hB⟩ : ∃ B, decide (48 ≤ n ∧ n ≤ 57) = B := ⟨_, rfl⟩
  rw [hB]
  have HB : Hid (decide (48 ≤ n ∧ n ≤ 57) = B) := hB
  clear hB
  go_enter Tryd.func86, Tryd.ntmps86
  go_wp2
  all_goals go_ret
  all_goals refine ⟨ret_bool ?_, rfl⟩
  all_goals (rw [← HB.out, Bool.eq_iff_iff]; first | (simp; omega) | (simp; done))
theorem inName_any (c : UInt8) (w : World) : Calls Tryd.prog 83 #[.int .u8 (c.toNat : Int)] w fun e w' => e = .returned (.bool (pinName c)) ∧ w' = w := by
  have HD : Hid (Calls Tryd.prog 86 #[.int .u8 (c.toNat : Int)] w fun e w' => e = .returned (.bool (decide (48 ≤ c.toNat ∧ c.toNat ≤ 57))) ∧ w' = w) := isDigit_any c w
  unfold pinName
  have hn : c.toNat < 256 := c.toNat_lt
  generalize c.toNat = n at *
  obtain ⟨B, hB⟩ : ∃ B, decide ((97 ≤ n ∧ n ≤ 122) ∨ (65 ≤ n ∧ n ≤ 90) ∨ n = 95 ∨ (48 ≤ n ∧ n ≤ 57)) = B := ⟨_, rfl⟩
  rw [hB]
  have HB : Hid (decide ((97 ≤ n ∧ n ≤ 122) ∨ (65 ≤ n ∧ n ≤ 90) ∨ n = 95 ∨ (48 ≤ n ∧ n ≤ 57)) = B) := hB
  obtain ⟨E, hE⟩ : ∃ E, decide (48 ≤ n ∧ n ≤ 57) = E := ⟨_, rfl⟩
  rw [hE] at HD
  have HE : Hid (decide (48 ≤ n ∧ n ≤ 57) = E) := hE
  clear hB hE
  go_enter Tryd.func83, Tryd.ntmps83
  go_wp2_with (go_at_call 86; refine HD.out.mono ?_; rintro e w' ⟨rfl, rfl⟩)
  all_goals go_ret
  all_goals refine ⟨ret_bool ?_, rfl⟩
  all_goals (rw [← HB.out, Bool.eq_iff_iff]; try rw [← HE.out])
  all_goals (first | (simp; omega) | (simp; done))
set_option maxHeartbeats 1600000 in
theorem spanOf_inName (w : World) (l : List UInt8) (hl : l.length ≤ 1000000000000000000) :
    Calls Tryd.prog 87 #[.string (ByteArray.mk ⟨l⟩), .func (.func 83) #[] #[]] w fun e w' => e = .returned (.int .i64 ((span pinName l : Nat) : Int)) ∧ w.grownBy w' none := by
  have hz : (ByteArray.mk ⟨l⟩).size = l.length := rfl
  have hle : span pinName l ≤ l.length := span_le _ _
  obtain ⟨N, hN⟩ : ∃ N, span pinName l = N := ⟨_, rfl⟩
  rw [hN] at hle ⊢
  have HN : Hid (span pinName l = N) := hN
  clear hN
  have hlen : ((l.length : Nat) : Int) ≤ 1000000000000000000 := by omega
  go_enter Tryd.func87, Tryd.ntmps87
  go_wp2
  go_loopw [5] (fun i wr => ∃ z : Nat, z ≤ N ∧ i = .int .i64 z ∧ Hid (w.grownBy wr none)) (fun i _ => N - (intOf i).toNat)
  case atStart => exact ⟨0, by omega, rfl, gb_refl _ _⟩
  case round =>
    obtain ⟨z, hzN, rfl, hr⟩ := hrel
    by_cases hzl : z < l.length
    · have hbz : ∀ h, (ByteArray.mk ⟨l⟩)[z]'h = l.getD z 0 := fun h => by
        have : l.getD z 0 = l[z] := by simp [hzl]
        rw [this]
        rfl
      have HC : Hid (∀ W, Calls Tryd.prog 83 #[.int .u8 ((l.getD z 0).toNat : Int)] W fun e w' => e = .returned (.bool (pinName (l.getD z 0))) ∧ w' = W) := fun W => inName_any _ W
      by_cases hlt : z < N
      · have hp : pinName (l.getD z 0) = true := span_in _ _ _ (by rw [HN.out]; exact hlt)
        rw [hp] at HC
        clear hp
        generalize l.getD z 0 = c at *
        go_wp2_with (go_at_call 83; refine (HC.out _).mono ?_; rintro e w' ⟨rfl, rfl⟩)
        go_roundw
        case rel => exact ⟨z + 1, by omega, by go_num, hr⟩
        case measure => simp [intOf]; omega
      · obtain rfl : z = N := by omega
        have hp : pinName (l.getD z 0) = false := by have := span_out pinName l (by rw [HN.out]; exact hzl); rw [HN.out] at this; exact this
        rw [hp] at HC
        clear hp
        generalize l.getD z 0 = c at *
        go_wp2_with (go_at_call 83; refine (HC.out _).mono ?_; rintro e w' ⟨rfl, rfl⟩)
        go_ret
        exact ⟨rfl, hr.out⟩
    · obtain rfl : z = N := by omega
      go_wp2
      go_ret
      exact ⟨rfl, hr.out⟩

end Go.Proofs.YtmgbcmogdjhacaaDoor
