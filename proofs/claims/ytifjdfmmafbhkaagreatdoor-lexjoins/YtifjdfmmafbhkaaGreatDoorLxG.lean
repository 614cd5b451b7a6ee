/-
  Numbers: hexadecimal digits, exponents, how many bytes a number has: the walks.
-/
import Derived.Test.YtifjdfmmafbhkaaGreatDoorLxF
namespace Go.Proofs.YtifjdfmmafbhkaaGreatDoor
open Go.RowKit

theorem ext_mk (s : LxS) (a b : Nat) : (ByteArray.mk ⟨s⟩).extract a b = ByteArray.mk ⟨(s.drop a).take (b - a)⟩ := by
  apply ByteArray.ext
  rw [ByteArray.data_extract]
  apply Array.toList_inj.1
  simp
theorem ext_drop (s : LxS) (a : Nat) : (ByteArray.mk ⟨s⟩).extract a s.length = ByteArray.mk ⟨s.drop a⟩ := by
  rw [ext_mk, List.take_of_length_le (by rw [List.length_drop]; omega)]
theorem ext_take (s : LxS) (b : Nat) : (ByteArray.mk ⟨s⟩).extract 0 b = ByteArray.mk ⟨s.take b⟩ := by
  rw [ext_mk, List.drop_zero, Nat.sub_zero]
theorem mk_toList (l : LxS) : (ByteArray.mk ⟨l⟩).toList = l := by rw [ByteArray.toList_eq]

set_option maxHeartbeats 1000000 in
theorem litPrefix_any (w : World) (l p : LxS) (_hl : l.length ≤ 1000000000000000000) (_hp : p.length ≤ 1000000000000000000) :
    Calls Tryz.prog 69 #[.string (ByteArray.mk ⟨l⟩), .string (ByteArray.mk ⟨p⟩)] w fun e w' => e = .returned (.bool (decide (l.take p.length = p))) ∧ w' = w := by
  have hz : (ByteArray.mk ⟨l⟩).size = l.length := rfl
  have hz2 : (ByteArray.mk ⟨p⟩).size = p.length := rfl
  by_cases h : p.length ≤ l.length
  · have h' : (p.length : Int) ≤ (l.length : Int) := by omega
    have hx := ext_take l p.length
    go_enter Tryz.func69, Tryz.ntmps69
    go_wp2
    go_ret
    refine ⟨ret_bool ?_, rfl⟩
    rw [Bool.eq_iff_iff]
    simp
  · have h' : ¬ (p.length : Int) ≤ (l.length : Int) := by omega
    have hf : decide (l.take p.length = p) = false := by
      rw [decide_eq_false_iff_not]
      intro e
      have := congrArg List.length e
      rw [List.length_take] at this
      omega
    rw [hf]
    go_enter Tryz.func69, Tryz.ntmps69
    go_wp2
    go_ret
    exact ⟨rfl, rfl⟩
theorem hasPrefix_any (w : World) (l p : LxS) (hl : l.length ≤ 1000000000000000000) (hp : p.length ≤ 1000000000000000000) :
    Calls Tryz.prog 53 #[.string (ByteArray.mk ⟨l⟩), .string (ByteArray.mk ⟨p⟩)] w fun e w' => e = .returned (.bool (decide (l.take p.length = p))) ∧ w' = w := by
  have HC := hidJ (fun W => litPrefix_any W l p hl hp)
  generalize decide (l.take p.length = p) = B at *
  go_enter Tryz.func53, Tryz.ntmps53
  go_wp2_with fail
  refine (HC.out _).mono ?_
  rintro e w' ⟨rfl, rfl⟩
  go_wp2
  go_ret
  exact ⟨rfl, rfl⟩
theorem pre1 (l : LxS) (n : Nat) (hn : n < 256) (h0 : n ≠ 0) : decide (l.take 1 = [UInt8.ofNat n]) = decide (byN l 0 = n) := by
  rw [Bool.eq_iff_iff, decide_eq_true_eq, decide_eq_true_eq]
  cases l with
  | nil => exact ⟨(fun h => by cases h), (fun h => by have h : 0 = n := h; omega)⟩
  | cons c t =>
    show [c] = [UInt8.ofNat n] ↔ c.toNat = n
    rw [← u8_eq hn]
    exact ⟨(fun h => by cases h; rfl), (fun h => by rw [h])⟩
theorem pre2 (l : LxS) (n m : Nat) (hn : n < 256) (h0 : n ≠ 0) (hm : m < 256) (h1 : m ≠ 0) : decide (l.take 2 = [UInt8.ofNat n, UInt8.ofNat m]) = (decide (byN l 0 = n) && decide (byN l 1 = m)) := by
  rw [Bool.eq_iff_iff, Bool.and_eq_true, decide_eq_true_eq, decide_eq_true_eq, decide_eq_true_eq]
  cases l with
  | nil => exact ⟨(fun h => by cases h), (fun h => by have h : 0 = n := h.1; omega)⟩
  | cons c t =>
    cases t with
    | nil => exact ⟨(fun h => by cases h), (fun h => by have h : 0 = m := h.2; omega)⟩
    | cons d t =>
      show [c, d] = [UInt8.ofNat n, UInt8.ofNat m] ↔ c.toNat = n ∧ d.toNat = m
      rw [← u8_eq hn, ← u8_eq hm]
      exact ⟨(fun h => by cases h; exact ⟨rfl, rfl⟩), (fun h => by rw [h.1, h.2])⟩
/-- does the text begin with this byte? with these two? -/
theorem prefix1 (l : LxS) (hl : l.length ≤ 1000000000000000000) (n : Nat) (hn : n < 256) (h0 : n ≠ 0) (w : World) :
    Calls Tryz.prog 53 #[.string (ByteArray.mk ⟨l⟩), .string (ByteArray.mk ⟨[UInt8.ofNat n]⟩)] w fun e w' => e = .returned (.bool (decide (byN l 0 = n))) ∧ w' = w := by
  have := hasPrefix_any w l [UInt8.ofNat n] hl (by simp)
  rw [show [UInt8.ofNat n].length = 1 from rfl, pre1 l n hn h0] at this
  exact this
theorem prefix2 (l : LxS) (hl : l.length ≤ 1000000000000000000) (n m : Nat) (hn : n < 256) (h0 : n ≠ 0) (hm : m < 256) (h1 : m ≠ 0) (w : World) :
    Calls Tryz.prog 53 #[.string (ByteArray.mk ⟨l⟩), .string (ByteArray.mk ⟨[UInt8.ofNat n, UInt8.ofNat m]⟩)] w fun e w' => e = .returned (.bool (decide (byN l 0 = n) && decide (byN l 1 = m))) ∧ w' = w := by
  have := hasPrefix_any w l [UInt8.ofNat n, UInt8.ofNat m] hl (by simp)
  rw [show [UInt8.ofNat n, UInt8.ofNat m].length = 2 from rfl, pre2 l n m hn h0 hm h1] at this
  exact this
/-- a hexadecimal digit's value -/
def hxV (c : Nat) : Nat := if 48 ≤ c ∧ c ≤ 57 then c - 48 else if 97 ≤ c ∧ c ≤ 102 then c - 87 else if 65 ≤ c ∧ c ≤ 70 then c - 55 else 0
set_option maxHeartbeats 1000000 in
theorem hexDigit_any (c : Nat) (hc : c ≤ 2147483647) (w : World) : Calls Tryz.prog 92 #[.int .i32 (c : Int)] w fun e w' => e = .returned (.tuple #[.int .u64 (hxV c : Int), .bool (hxB c)]) ∧ w' = w := by
  have HD := hidJ (isDigit_any c hc w)
  obtain ⟨R, hR⟩ : ∃ R : Value, Value.tuple #[.int .u64 (hxV c : Int), .bool (hxB c)] = R := ⟨_, rfl⟩
  rw [hR]
  have HR := hidJ hR
  clear hR
  by_cases c1 : 48 ≤ c ∧ c ≤ 57
  · have e1 : dgB c = true := dgB_iff.2 c1
    have e2 : hxB c = true := hxB_iff.2 (Or.inl c1)
    have e3 : hxV c = c - 48 := by unfold hxV; rw [if_pos c1]
    rw [e1] at HD
    rw [e2, e3] at HR
    have e4 : ((c - 48 : Nat) : Int) = (c : Int) - 48 := by omega
    rw [e4] at HR
    go_enter Tryz.func92, Tryz.ntmps92
    go_wp2_with (go_at_call 47; refine HD.out.mono ?_; rintro e w' ⟨rfl, rfl⟩)
    go_ret2
    exact ⟨by rw [← HR.out]; rfl, rfl⟩
  · have e1 : dgB c = false := Bool.eq_false_iff.2 (fun h => c1 (dgB_iff.1 h))
    rw [e1] at HD
    by_cases c2 : 97 ≤ c ∧ c ≤ 102
    · have e2 : hxB c = true := hxB_iff.2 (Or.inr (Or.inl c2))
      have e3 : hxV c = c - 87 := by unfold hxV; rw [if_neg c1, if_pos c2]
      rw [e2, e3] at HR
      have e4 : ((c - 87 : Nat) : Int) = (c : Int) - 97 + 10 := by omega
      rw [e4] at HR
      go_enter Tryz.func92, Tryz.ntmps92
      go_wp2_with (go_at_call 47; refine HD.out.mono ?_; rintro e w' ⟨rfl, rfl⟩)
      go_ret2
      exact ⟨by rw [← HR.out]; rfl, rfl⟩
    · by_cases c3 : 65 ≤ c ∧ c ≤ 70
      · have e2 : hxB c = true := hxB_iff.2 (Or.inr (Or.inr c3))
        have e3 : hxV c = c - 55 := by unfold hxV; rw [if_neg c1, if_neg c2, if_pos c3]
        rw [e2, e3] at HR
        have e4 : ((c - 55 : Nat) : Int) = (c : Int) - 65 + 10 := by omega
        rw [e4] at HR
        go_enter Tryz.func92, Tryz.ntmps92
        go_wp2_with (go_at_call 47; refine HD.out.mono ?_; rintro e w' ⟨rfl, rfl⟩)
        go_ret2
        exact ⟨by rw [← HR.out]; rfl, rfl⟩
      · have e2 : hxB c = false := Bool.eq_false_iff.2 (fun h => by rw [hxB_iff] at h; omega)
        have e3 : hxV c = 0 := by unfold hxV; rw [if_neg c1, if_neg c2, if_neg c3]
        rw [e2, e3] at HR
        go_enter Tryz.func92, Tryz.ntmps92
        go_wp2_with (go_at_call 47; refine HD.out.mono ?_; rintro e w' ⟨rfl, rfl⟩)
        all_goals first | (exfalso; omega) | skip
        all_goals go_ret2
        all_goals exact ⟨by rw [← HR.out]; rfl, rfl⟩
theorem behindX_any (n : Nat) (hn : n ≤ 1000000000000000000) (w : World) : Calls Tryz.prog 93 #[.int .i64 (n : Int)] w fun e w' => e = .returned (.int .i64 ((if n = 0 then 0 else 2 + n : Nat) : Int)) ∧ w' = w := by
  by_cases h : n = 0
  · subst h
    go_enter Tryz.func93, Tryz.ntmps93
    go_wp2
    go_ret
    exact ⟨rfl, rfl⟩
  · have h' : ¬ (n : Int) = 0 := by omega
    rw [if_neg h]
    go_enter Tryz.func93, Tryz.ntmps93
    go_wp2
    go_ret
    exact ⟨ret_int (by omega), rfl⟩
end Go.Proofs.YtifjdfmmafbhkaaGreatDoor
