/-
  Which bytes may stand in a file's name, and which names are right: the walks.
-/
import Derived.Test.YtgafmplmngbbfaaDiskN
namespace Go.Proofs.Ytgafmplmngbbfaa
open Go.RowKit

/-- may a byte stand in a file's name? -/
def nameP (c : Int) : Prop := (97 ≤ c ∧ c ≤ 122) ∨ (65 ≤ c ∧ c ≤ 90) ∨ (48 ≤ c ∧ c ≤ 57) ∨ c = 46 ∨ c = 95 ∨ c = 45 ∨ c = 47
instance (c : Int) : Decidable (nameP c) := by unfold nameP; infer_instance
theorem ret_bool {a b : Bool} (h : a = b) : Ending.returned (.bool a) = .returned (.bool b) := by rw [h]

set_option maxHeartbeats 1600000 in
theorem inName_any (c : Int) (w : World) : Calls Try.prog 57 #[.int .u8 c] w fun e w' => e = .returned (.bool (decide (nameP c))) ∧ w' = w := by
  by_cases h47 : c = 47
  · subst h47
    go_enter Try.func57, Try.ntmps57
    go_wp2
    go_ret
    exact ⟨ret_bool (decide_eq_true (by unfold nameP; omega)).symm, rfl⟩
  · go_enter Try.func57, Try.ntmps57
    go_wp2
    all_goals go_ret
    all_goals refine ⟨ret_bool ?_, rfl⟩
    all_goals first
      | exact (decide_eq_true (by unfold nameP; omega)).symm
      | exact (decide_eq_false (by unfold nameP; omega)).symm
      | (rw [Bool.eq_iff_iff]; simp only [Bool.or_eq_true, beq_iff_eq, decide_eq_true_eq]; unfold nameP; omega)

/-- is it a file's name? -/
def nameOk (l : List UInt8) : Bool := decide (1 ≤ l.length ∧ l.length ≤ 64 ∧ ∀ i, i < l.length → nameP ((l.getD i 0).toNat : Int))

set_option maxHeartbeats 1600000 in
theorem isName_any (l : List UInt8) (w : World) (hs : l.length ≤ 9223372036854775807) : Calls Try.prog 52 #[.string (ByteArray.mk ⟨l⟩)] w fun e w' => e = .returned (.bool (nameOk l)) ∧ w' = w := by
  have hz : (ByteArray.mk ⟨l⟩).size = l.length := rfl
  by_cases h1 : (l.length : Int) < 1
  · have HN : Hid (nameOk l = false) := decide_eq_false (fun h => by omega)
    go_enter Try.func52, Try.ntmps52
    go_wp2
    go_ret
    exact ⟨ret_bool HN.out.symm, rfl⟩
  · by_cases h2 : (64 : Int) < (l.length : Int)
    · have HN : Hid (nameOk l = false) := decide_eq_false (fun h => by omega)
      go_enter Try.func52, Try.ntmps52
      go_wp2
      go_ret
      exact ⟨ret_bool HN.out.symm, rfl⟩
    · go_enter Try.func52, Try.ntmps52
      go_wp2
      go_loop [14] (fun i => ∃ k : Nat, k ≤ l.length ∧ i = .int .i64 (k : Int) ∧ Hid (∀ i, i < k → nameP ((l.getD i 0).toNat : Int))) (fun i => l.length - (intOf i).toNat)
      case atStart => exact ⟨0, by omega, rfl, fun i hi => by omega⟩
      case round =>
        obtain ⟨k, hk, rfl, hr⟩ := hrel
        by_cases hkl : k < l.length
        · have hkl2 : (k : Int) < (l.length : Int) := by omega
          have hX : ∀ h, (ByteArray.mk ⟨l⟩)[k]'h = l.getD k 0 := by
            intro h
            simp only [List.getD, List.getElem?_eq_getElem hkl, Option.getD_some]
            rfl
          have HX : Hid (∀ h, (ByteArray.mk ⟨l⟩)[k]'h = l.getD k 0) := hX
          clear hX
          by_cases hp : nameP ((l.getD k 0).toNat : Int)
          · have HP : Hid (∀ i, i < k + 1 → nameP ((l.getD i 0).toNat : Int)) := fun i hi => by
              by_cases e : i = k
              · rw [e]; exact hp
              · exact hr.out i (by omega)
            have HD : Hid (∀ h, decide (nameP (((ByteArray.mk ⟨l⟩)[k]'h).toNat : Int)) = true) := fun h => by rw [HX.out h]; exact decide_eq_true hp
            clear hr hp
            go_wp2_with fail
            refine (inName_any _ _).mono ?_
            rintro e w1 ⟨rfl, hw1⟩
            rw [hw1, HD.out]
            clear hw1 w1
            go_wp2
            go_round
            case rel => exact ⟨k + 1, by omega, by go_num, HP⟩
            case measure => simp [intOf]; omega
          · have HN : Hid (nameOk l = false) := decide_eq_false (fun h => hp (h.2.2 k hkl))
            have HD : Hid (∀ h, decide (nameP (((ByteArray.mk ⟨l⟩)[k]'h).toNat : Int)) = false) := fun h => by rw [HX.out h]; exact decide_eq_false hp
            clear hr hp
            go_wp2_with fail
            refine (inName_any _ _).mono ?_
            rintro e w1 ⟨rfl, hw1⟩
            rw [hw1, HD.out]
            clear hw1 w1
            go_wp2
            go_ret
            exact ⟨ret_bool HN.out.symm, rfl⟩
        · have HN : Hid (nameOk l = true) := decide_eq_true ⟨by omega, by omega, fun i hi => hr.out i (by omega)⟩
          go_wp2
          go_ret
          exact ⟨ret_bool HN.out.symm, rfl⟩
end Go.Proofs.Ytgafmplmngbbfaa
