/-
  The document's letters, digits, blanks; digits in a row: the walks.
-/
import Derived.Test.YtifjdfmmafbhkaaGreatDoorLxW
namespace Go.Proofs.YtifjdfmmafbhkaaGreatDoor
open Go.RowKit

def ltB (c : Nat) : Bool := (decide (97 ≤ c) && decide (c ≤ 122)) || (decide (65 ≤ c) && decide (c ≤ 90)) || c == 95 || c == 58
theorem ltB_iff {c : Nat} : ltB c = true ↔ (97 ≤ c ∧ c ≤ 122) ∨ (65 ≤ c ∧ c ≤ 90) ∨ c = 95 ∨ c = 58 := by simp [ltB, or_assoc]
theorem wdB_lt (c : Nat) : wdB c = (ltB c || dgB c) := by
  rw [Bool.eq_iff_iff, Bool.or_eq_true, wdB_iff, ltB_iff, dgB_iff]
  omega
def bkB (c : Nat) : Bool := c == 32 || c == 9 || c == 10 || c == 13
theorem bkB_iff {c : Nat} : bkB c = true ↔ c = 32 ∨ c = 9 ∨ c = 10 ∨ c = 13 := by simp [bkB, or_assoc]
theorem refDigit_any (c : Nat) (hc : c ≤ 255) (w : World) : Calls Tryz.prog 38 #[.int .u8 (c : Int)] w fun e w' => e = .returned (.bool (dgB c)) ∧ w' = w := by
  obtain ⟨B, hB⟩ : ∃ B, dgB c = B := ⟨_, rfl⟩
  rw [hB]
  have HB : Hid (dgB c = B) := hB
  clear hB
  go_enter Tryz.func38, Tryz.ntmps38
  go_wp2
  all_goals go_ret
  all_goals refine ⟨ret_bool ?_, rfl⟩
  all_goals (rw [← HB.out, Bool.eq_iff_iff, dgB_iff]; first | (simp; omega) | (simp; done))
theorem refLetter_any (c : Nat) (hc : c ≤ 255) (w : World) : Calls Tryz.prog 37 #[.int .u8 (c : Int)] w fun e w' => e = .returned (.bool (ltB c)) ∧ w' = w := by
  obtain ⟨B, hB⟩ : ∃ B, ltB c = B := ⟨_, rfl⟩
  rw [hB]
  have HB : Hid (ltB c = B) := hB
  clear hB
  go_enter Tryz.func37, Tryz.ntmps37
  go_wp2
  all_goals go_ret
  all_goals refine ⟨ret_bool ?_, rfl⟩
  all_goals (rw [← HB.out, Bool.eq_iff_iff, ltB_iff]; first | (simp; omega) | (simp; done))
theorem refHex_any (c : Nat) (hc : c ≤ 255) (w : World) : Calls Tryz.prog 57 #[.int .u8 (c : Int)] w fun e w' => e = .returned (.bool (hxB c)) ∧ w' = w := by
  have HD : Hid (Calls Tryz.prog 38 #[.int .u8 (c : Int)] w fun e w' => e = .returned (.bool (dgB c)) ∧ w' = w) := refDigit_any c hc w
  obtain ⟨B, hB⟩ : ∃ B, hxB c = B := ⟨_, rfl⟩
  rw [hB]
  have HB : Hid (hxB c = B) := hB
  obtain ⟨E, hE⟩ : ∃ E, dgB c = E := ⟨_, rfl⟩
  rw [hE] at HD
  have HE : Hid (dgB c = E) := hE
  clear hB hE
  cases E with
  | true =>
    have hp := dgB_iff.1 HE.out
    go_enter Tryz.func57, Tryz.ntmps57
    go_wp2_with (go_at_call 38; refine HD.out.mono ?_; rintro e w' ⟨rfl, rfl⟩)
    all_goals go_ret
    all_goals refine ⟨ret_bool ?_, rfl⟩
    all_goals (rw [← HB.out, Bool.eq_iff_iff, hxB_iff]; first | (simp; omega) | (simp; done))
  | false =>
    have hp : ¬ (48 ≤ c ∧ c ≤ 57) := fun h => by have := HE.out; rw [dgB_iff.2 h] at this; cases this
    go_enter Tryz.func57, Tryz.ntmps57
    go_wp2_with (go_at_call 38; refine HD.out.mono ?_; rintro e w' ⟨rfl, rfl⟩)
    all_goals go_ret
    all_goals refine ⟨ret_bool ?_, rfl⟩
    all_goals (rw [← HB.out, Bool.eq_iff_iff, hxB_iff]; first | (simp; omega) | (simp; done))
theorem byte_at (l : LxS) (i : Nat) (hi : i < l.length) : ∃ x : UInt8, x.toNat = byN l i ∧ ∀ h, (ByteArray.mk ⟨l⟩)[i]'h = x :=
  ⟨l[i], by unfold byN; simp [List.getD, List.getElem?_eq_getElem hi], fun _ => rfl⟩
set_option maxHeartbeats 1600000 in
/-- digits in a row: the place behind them -/
theorem refRun_any (w : World) (l : LxS) (p : Nat) (hl : l.length ≤ 1000000000000000000) (hp : p ≤ l.length) :
    Calls Tryz.prog 59 #[.string (ByteArray.mk ⟨l⟩), .int .i64 (p : Int)] w fun e w' => e = .returned (.int .i64 ((p + tkN dgB (l.drop p) : Nat) : Int)) ∧ w' = w := by
  have hz : (ByteArray.mk ⟨l⟩).size = l.length := rfl
  have hle : p + tkN dgB (l.drop p) ≤ l.length := by have := tkN_le dgB (l.drop p); rw [List.length_drop] at this; omega
  have hIn := hidJ (fun j => tkN_in dgB (l.drop p) j)
  have hOut := hidJ (tkN_out dgB dgB_zero (l.drop p))
  obtain ⟨N, hN⟩ : ∃ N, p + tkN dgB (l.drop p) = N := ⟨_, rfl⟩
  have HI : Hid (∀ j, p ≤ j → j < N → dgB (byN l j) = true) := fun j h1 h2 => by
    have := hIn.out (j - p) (by omega)
    rwa [byN_drop, show p + (j - p) = j by omega] at this
  have HO : Hid (dgB (byN l N) = false) := by
    have := hOut.out
    rwa [byN_drop, hN] at this
  have hpN : p ≤ N := by omega
  rw [hN] at hle ⊢
  clear hN hIn hOut
  go_enter Tryz.func59, Tryz.ntmps59
  go_wp2_with fail
  go_loopg [1] (l.length + 1) (fun gk v1 wr => ∃ i : Nat, v1 = .int .i64 (i : Int) ∧ l.length < i + gk ∧ p ≤ i ∧ i ≤ N ∧ wr = w)
  case atStart => exact ⟨p, rfl, by omega, Nat.le_refl _, by omega, rfl⟩
  case round =>
    obtain ⟨i, rfl, hg, hpi, hiN, rfl⟩ := hrel
    by_cases hlt : i < l.length
    · obtain ⟨k, rfl⟩ : ∃ k, gk = k + 1 := ⟨gk - 1, by omega⟩
      have hli : (i : Int) < (l.length : Int) := by omega
      obtain ⟨x, hx, hxi⟩ := byte_at l i hlt
      have HC := hidJ (refDigit_any x.toNat (by have := x.toNat_lt; omega) wr)
      by_cases hiN2 : i < N
      · have hd := HI.out i hpi hiN2
        rw [← hx] at hd
        rw [hd] at HC
        clear hd hx
        go_wp2_with fail
        refine HC.out.mono ?_
        rintro e w' ⟨rfl, rfl⟩
        go_wp2
        go_roundg k
        case measure => omega
        case rel => exact ⟨i + 1, by go_num, by omega, by omega, by omega, rfl⟩
      · obtain rfl : i = N := by omega
        have hd := HO.out
        rw [← hx] at hd
        rw [hd] at HC
        clear hd hx
        go_wp2_with fail
        refine HC.out.mono ?_
        rintro e w' ⟨rfl, rfl⟩
        go_wp2
        go_ret
        exact ⟨rfl, rfl⟩
    · obtain rfl : i = N := by omega
      have hli : ¬ (i : Int) < (l.length : Int) := by omega
      go_wp2
      go_ret
      exact ⟨rfl, rfl⟩
end Go.Proofs.YtifjdfmmafbhkaaGreatDoor
