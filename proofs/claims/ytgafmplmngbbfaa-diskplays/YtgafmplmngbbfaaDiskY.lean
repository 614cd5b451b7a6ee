/-
  Which names the document calls right; whether two lists of bytes are alike: the walks.
-/
import Derived.Test.YtgafmplmngbbfaaDiskZ
namespace Go.Proofs.Ytgafmplmngbbfaa
open Go.RowKit

theorem beq_take {a b : List UInt8} {k : Nat} (ha : k < a.length) (hb : k < b.length) (h : a.take k = b.take k) (he : a.getD k 0 = b.getD k 0) : a.take (k + 1) = b.take (k + 1) := by
  rw [List.take_succ_eq_append_getElem ha, List.take_succ_eq_append_getElem hb, h]
  simp [ha, hb] at he
  rw [he]

set_option maxHeartbeats 1600000 in
theorem same_quiet (v u : Value) (a b : List UInt8) (w : World) (hv : Rd w v a) (hu : Rd w u b) :
    Calls Try.prog 23 #[v, u] w fun e w' => e = .returned (.bool (decide (a = b))) ∧ ∃ m, w' = w.drewN m := by
  obtain ⟨pa, ca, rfl, hna, hma, hba, -⟩ := hv
  obtain ⟨pb, cb, rfl, hnb, hmb, hbb, -⟩ := hu
  unfold maxLen at hma hmb
  unfold RdA at hba hbb
  have hla : a.length ≤ 9223372036854775807 := by omega
  have hlb : b.length ≤ 9223372036854775807 := by omega
  clear hna hma hnb hmb
  by_cases hlen : a.length = b.length
  · have H : Hid (a.length = b.length) := hlen
    rw [← hlen] at hbb hlb ⊢
    generalize hN : a.length = n at *
    have HN : Hid (a.length = n) := hN
    clear hN hlen
    go_enter Try.func23, Try.ntmps23
    go_wp2
    go_loopw [5] (fun i wr => ∃ k : Nat, k ≤ n ∧ i = .int .i64 k ∧ Hid (a.take k = b.take k) ∧ Hid (∃ m, wr = w.drewN m)) (fun i _ => n - (intOf i).toNat)
    case atStart => exact ⟨0, by omega, rfl, by simp [Hid], 0, rfl⟩
    case round =>
      obtain ⟨k, hk, rfl, heq, hd⟩ := hrel
      obtain ⟨m, rfl⟩ := hd.out
      clear hd
      by_cases hlt : k < n
      · obtain ⟨ba, oa, rfl, ha⟩ := hba k hlt
        obtain ⟨bb, ob, rfl, hb⟩ := hbb k hlt
        clear hba hbb
        by_cases he : a.getD k 0 = b.getD k 0
        · have hst : Hid (a.take (k + 1) = b.take (k + 1)) := beq_take (by rw [HN.out]; exact hlt) (by rw [← H.out]; exact hlt) heq.out he
          rw [he] at ha
          clear he
          generalize (b.getD k 0).toNat = y at *
          go_wp2
          go_region
          all_goals (try go_wp2)
          all_goals go_roundw
          case rel => exact ⟨k + 1, by omega, by go_num, hst, m + 1, rfl⟩
          case measure => simp [intOf]; omega
        · have hf : Hid (decide (a = b) = false) := by
            show decide (a = b) = false
            apply decide_eq_false
            intro hab
            subst hab
            exact he rfl
          have hne : ((a.getD k 0).toNat : Int) ≠ ((b.getD k 0).toNat : Int) := fun h => he (UInt8.toNat_inj.1 (by omega))
          clear he
          generalize (a.getD k 0).toNat = y1 at *
          generalize (b.getD k 0).toNat = y2 at *
          have hne' : ((y1 : Int) != (y2 : Int)) = true := by rw [bne_iff_ne]; exact hne
          clear hne
          go_wp2
          go_region
          all_goals (try go_wp2)
          all_goals go_ret
          all_goals exact ⟨ret_bool hf.out.symm, m + 1, rfl⟩
      · have hf : Hid (decide (a = b) = true) := by
          show decide (a = b) = true
          apply decide_eq_true
          have h1 := heq.out
          rwa [List.take_of_length_le (by rw [HN.out]; omega), List.take_of_length_le (by rw [← H.out]; omega)] at h1
        clear hba hbb
        go_wp2
        go_ret
        exact ⟨ret_bool hf.out.symm, m, rfl⟩
  · have hf : Hid (decide (a = b) = false) := by
      show decide (a = b) = false
      apply decide_eq_false
      intro hab
      exact hlen (by rw [hab])
    have hne' : ((a.length : Int) != (b.length : Int)) = true := by rw [bne_iff_ne]; omega
    clear hba hbb
    go_enter Try.func23, Try.ntmps23
    go_wp2
    go_ret
    exact ⟨ret_bool hf.out.symm, 0, rfl⟩
theorem gb_drewN (w : World) (m : Nat) (g : Option Nat) : w.grownBy (w.drewN m) g := ⟨rfl, rfl, rfl, Nat.le_refl _, fun _ _ _ => rfl⟩
theorem same_any (v u : Value) (a b : List UInt8) (w : World) (hv : Rd w v a) (hu : Rd w u b) :
    Calls Try.prog 23 #[v, u] w fun e w' => e = .returned (.bool (decide (a = b))) ∧ w.grownBy w' none :=
  (same_quiet v u a b w hv hu).mono fun e w' ⟨he, m, hm⟩ => ⟨he, by rw [hm]; exact gb_drewN _ _ _⟩

set_option maxRecDepth 8000 in
set_option maxHeartbeats 3200000 in
theorem refName_any (l : List UInt8) (w : World) (hs : l.length ≤ 9223372036854775807) : Calls Try.prog 24 #[.string (ByteArray.mk ⟨l⟩)] w fun e w' => e = .returned (.bool (nameOk l)) ∧ w' = w := by
  have hz : (ByteArray.mk ⟨l⟩).size = l.length := rfl
  by_cases h1 : (l.length : Int) < 1
  · have HN : Hid (nameOk l = false) := decide_eq_false (fun h => by omega)
    go_enter Try.func24, Try.ntmps24
    go_wp2
    go_ret
    exact ⟨ret_bool HN.out.symm, rfl⟩
  · by_cases h2 : (64 : Int) < (l.length : Int)
    · have HN : Hid (nameOk l = false) := decide_eq_false (fun h => by omega)
      go_enter Try.func24, Try.ntmps24
      go_wp2
      go_ret
      exact ⟨ret_bool HN.out.symm, rfl⟩
    · go_enter Try.func24, Try.ntmps24
      go_wp2
      go_loop [3, 4] (fun i _ => ∃ k : Nat, k ≤ l.length ∧ i = .int .i64 (k : Int) ∧ Hid (∀ i, i < k → nameP ((l.getD i 0).toNat : Int))) (fun i _ => l.length - (intOf i).toNat)
      case atStart => exact ⟨0, by omega, rfl, fun i hi => by omega⟩
      case round =>
        obtain ⟨k, hk, rfl, hr⟩ := hrel
        by_cases hkl : k < l.length
        · have hkl2 : (k : Int) < (l.length : Int) := by omega
          obtain ⟨b, hX, hbe⟩ : ∃ b : UInt8, (∀ h, (ByteArray.mk ⟨l⟩)[k]'h = b) ∧ Hid (l.getD k 0 = b) := by
            refine ⟨l.getD k 0, fun h => ?_, rfl⟩
            simp only [List.getD, List.getElem?_eq_getElem hkl, Option.getD_some]
            rfl
          have HP : Hid (nameP (b.toNat : Int) → ∀ i, i < k + 1 → nameP ((l.getD i 0).toNat : Int)) := fun hp i hi => by
            by_cases e : i = k
            · rw [e, hbe.out]; exact hp
            · exact hr.out i (by omega)
          have HN : Hid (¬ nameP (b.toNat : Int) → nameOk l = false) := fun hp => decide_eq_false (fun h => hp (by have := h.2.2 k hkl; rw [hbe.out] at this; exact this))
          clear hr hbe
          by_cases hp : nameP (b.toNat : Int)
          · have HP2 : Hid (∀ i, i < k + 1 → nameP ((l.getD i 0).toNat : Int)) := HP.out hp
            clear HP HN
            rcases hp with ⟨a1, a2⟩ | ⟨a1, a2⟩ | ⟨a1, a2⟩ | a1 | a1 | a1 | a1
            · go_wp2
              go_round
              case rel => exact ⟨k + 1, by omega, by go_num, HP2⟩
              case measure => simp [intOf]; omega
            · have a3 : (b.toNat : Int) < 97 := by omega
              go_wp2
              go_round
              case rel => exact ⟨k + 1, by omega, by go_num, HP2⟩
              case measure => simp [intOf]; omega
            · have a3 : (b.toNat : Int) < 65 := by omega
              have a4 : (b.toNat : Int) < 97 := by omega
              go_wp2
              go_round
              case rel => exact ⟨k + 1, by omega, by go_num, HP2⟩
              case measure => simp [intOf]; omega
            · go_wp2
              go_round
              case rel => exact ⟨k + 1, by omega, by go_num, HP2⟩
              case measure => simp [intOf]; omega
            · have a3 : (90 : Int) < (b.toNat : Int) := by omega
              have a4 : (b.toNat : Int) < 97 := by omega
              have a5 : (57 : Int) < (b.toNat : Int) := by omega
              go_wp2
              go_round
              case rel => exact ⟨k + 1, by omega, by go_num, HP2⟩
              case measure => simp [intOf]; omega
            · go_wp2
              go_round
              case rel => exact ⟨k + 1, by omega, by go_num, HP2⟩
              case measure => simp [intOf]; omega
            · go_wp2
              go_round
              case rel => exact ⟨k + 1, by omega, by go_num, HP2⟩
              case measure => simp [intOf]; omega
          · have HN2 : Hid (nameOk l = false) := HN.out hp
            have n1 : ((b.toNat : Int) == 46) = false := by rw [beq_eq_false_iff_ne]; intro e; exact hp (by unfold nameP; omega)
            have n2 : ((b.toNat : Int) == 95) = false := by rw [beq_eq_false_iff_ne]; intro e; exact hp (by unfold nameP; omega)
            have n3 : ((b.toNat : Int) == 45) = false := by rw [beq_eq_false_iff_ne]; intro e; exact hp (by unfold nameP; omega)
            have n4 : ((b.toNat : Int) == 47) = false := by rw [beq_eq_false_iff_ne]; intro e; exact hp (by unfold nameP; omega)
            obtain hc | ⟨hc1, hc2⟩ | ⟨hc1, hc2⟩ | hc : (b.toNat : Int) < 48 ∨ (57 < (b.toNat : Int) ∧ (b.toNat : Int) < 65) ∨ (90 < (b.toNat : Int) ∧ (b.toNat : Int) < 97) ∨ 122 < (b.toNat : Int) := by
              by_cases h1 : (b.toNat : Int) < 48
              · exact .inl h1
              · by_cases h2 : (b.toNat : Int) < 65
                · exact .inr (.inl ⟨by by_cases h : 57 < (b.toNat : Int); exact h; exact absurd (by unfold nameP; omega) hp, h2⟩)
                · by_cases h3 : (b.toNat : Int) < 97
                  · exact .inr (.inr (.inl ⟨by by_cases h : 90 < (b.toNat : Int); exact h; exact absurd (by unfold nameP; omega) hp, h3⟩))
                  · exact .inr (.inr (.inr (by by_cases h : 122 < (b.toNat : Int); exact h; exact absurd (by unfold nameP; omega) hp)))
            all_goals clear HP HN hp
            · have b1 : (b.toNat : Int) < 65 := by omega
              have b2 : (b.toNat : Int) < 97 := by omega
              go_wp2
              go_ret
              exact ⟨ret_bool HN2.out.symm, rfl⟩
            · have b2 : (b.toNat : Int) < 97 := by omega
              have b3 : (48 : Int) ≤ (b.toNat : Int) := by omega
              have d57 : decide ((b.toNat : Int) ≤ 57) = false := by simp; omega
              go_wp2
              go_ret
              exact ⟨ret_bool HN2.out.symm, rfl⟩
            · have b2 : (57 : Int) < (b.toNat : Int) := by omega
              have b3 : (48 : Int) ≤ (b.toNat : Int) := by omega
              have b4 : (65 : Int) ≤ (b.toNat : Int) := by omega
              have d57 : decide ((b.toNat : Int) ≤ 57) = false := by simp; omega
              have d90 : decide ((b.toNat : Int) ≤ 90) = false := by simp; omega
              go_wp2
              go_ret
              exact ⟨ret_bool HN2.out.symm, rfl⟩
            · have b1 : (57 : Int) < (b.toNat : Int) := by omega
              have b2 : (90 : Int) < (b.toNat : Int) := by omega
              have b3 : (48 : Int) ≤ (b.toNat : Int) := by omega
              have b4 : (65 : Int) ≤ (b.toNat : Int) := by omega
              have b5 : (97 : Int) ≤ (b.toNat : Int) := by omega
              have d57 : decide ((b.toNat : Int) ≤ 57) = false := by simp; omega
              have d90 : decide ((b.toNat : Int) ≤ 90) = false := by simp; omega
              have d122 : decide ((b.toNat : Int) ≤ 122) = false := by simp; omega
              go_wp2
              go_ret
              exact ⟨ret_bool HN2.out.symm, rfl⟩
        · have HN : Hid (nameOk l = true) := decide_eq_true ⟨by omega, by omega, fun i hi => hr.out i (by omega)⟩
          go_wp2
          go_ret
          exact ⟨ret_bool HN.out.symm, rfl⟩
end Go.Proofs.Ytgafmplmngbbfaa
