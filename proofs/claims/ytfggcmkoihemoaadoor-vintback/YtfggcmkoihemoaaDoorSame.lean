/-
  What the document's Same comes to, and vint.PutFrame: the walks.
-/
import Derived.Test.YtfggcmkoihemoaaDoorPuts
namespace Go.Proofs.YtfggcmkoihemoaaDoor
open Go.RowKit

theorem ret_bool {a b : Bool} (h : a = b) : Ending.returned (.bool a) = .returned (.bool b) := by rw [h]
theorem beq_take {a b : List UInt8} {k : Nat} (ha : k < a.length) (hb : k < b.length) (h : a.take k = b.take k) (he : a.getD k 0 = b.getD k 0) : a.take (k + 1) = b.take (k + 1) := by
  rw [List.take_succ_eq_append_getElem ha, List.take_succ_eq_append_getElem hb, h]
  simp [ha, hb] at he
  rw [he]

set_option maxHeartbeats 1600000 in
theorem same_quiet (v u : Value) (a b : List UInt8) (w : World) (hv : Rd w v a) (hu : Rd w u b) :
    Calls Tryd.prog 12 #[v, u] w fun e w' => e = .returned (.bool (decide (a = b))) ∧ ∃ m, w' = w.drewN m := by
  obtain ⟨pa, ca, rfl, hna, hma, hba, -⟩ := hv
  obtain ⟨pb, cb, rfl, hnb, hmb, hbb, -⟩ := hu
  unfold maxLen at hma hmb
  unfold RdA at hba hbb
  have hla : a.length ≤ 9223372036854775807 := by omega
  have hlb : b.length ≤ 9223372036854775807 := by omega
  clear hna hma hnb hmb
  by_cases hlen : a.length = b.length
  · have H : Hid (a.length = b.length) := hlen
    rw [← hlen] at hbb hlb ⊢
    generalize hN : a.length = n at *
    have HN : Hid (a.length = n) := hN
    clear hN hlen
    go_enter Tryd.func12, Tryd.ntmps12
    go_wp2
    go_loopw [5] (fun i wr => ∃ k : Nat, k ≤ n ∧ i = .int .i64 k ∧ Hid (a.take k = b.take k) ∧ Hid (∃ m, wr = w.drewN m)) (fun i _ => n - (intOf i).toNat)
    case atStart => exact ⟨0, by omega, rfl, by simp [Hid], 0, rfl⟩
    case round =>
      obtain ⟨k, hk, rfl, heq, hd⟩ := hrel
      obtain ⟨m, rfl⟩ := hd.out
      clear hd
      by_cases hlt : k < n
      · obtain ⟨ba, oa, rfl, ha⟩ := hba k hlt
        obtain ⟨bb, ob, rfl, hb⟩ := hbb k hlt
        clear hba hbb
        by_cases he : a.getD k 0 = b.getD k 0
        · have hst : Hid (a.take (k + 1) = b.take (k + 1)) := beq_take (by rw [HN.out]; exact hlt) (by rw [← H.out]; exact hlt) heq.out he
          rw [he] at ha
          clear he
          generalize (b.getD k 0).toNat = y at *
          go_wp2
          go_region
          all_goals (try go_wp2)
          all_goals go_roundw
          case rel => exact ⟨k + 1, by omega, by go_num, hst, m + 1, rfl⟩
          case measure => simp [intOf]; omega
        · have hf : Hid (decide (a = b) = false) := by
            show decide (a = b) = false
            apply decide_eq_false
            intro hab
            subst hab
            exact he rfl
          have hne : ((a.getD k 0).toNat : Int) ≠ ((b.getD k 0).toNat : Int) := fun h => he (UInt8.toNat_inj.1 (by omega))
          clear he
          generalize (a.getD k 0).toNat = y1 at *
          generalize (b.getD k 0).toNat = y2 at *
          have hne' : ((y1 : Int) != (y2 : Int)) = true := by rw [bne_iff_ne]; exact hne
          clear hne
          go_wp2
          go_region
          all_goals (try go_wp2)
          all_goals go_ret
          all_goals exact ⟨ret_bool hf.out.symm, m + 1, rfl⟩
      · have hf : Hid (decide (a = b) = true) := by
          show decide (a = b) = true
          apply decide_eq_true
          have h1 := heq.out
          rwa [List.take_of_length_le (by rw [HN.out]; omega), List.take_of_length_le (by rw [← H.out]; omega)] at h1
        clear hba hbb
        go_wp2
        go_ret
        exact ⟨ret_bool hf.out.symm, m, rfl⟩
  · have hf : Hid (decide (a = b) = false) := by
      show decide (a = b) = false
      apply decide_eq_false
      intro hab
      exact hlen (by rw [hab])
    have hne' : ((a.length : Int) != (b.length : Int)) = true := by rw [bne_iff_ne]; omega
    clear hba hbb
    go_enter Tryd.func12, Tryd.ntmps12
    go_wp2
    go_ret
    exact ⟨ret_bool hf.out.symm, 0, rfl⟩
theorem gb_drewN (w : World) (m : Nat) (g : Option Nat) : w.grownBy (w.drewN m) g := ⟨rfl, rfl, rfl, Nat.le_refl _, fun _ _ _ => rfl⟩
theorem same_any (v u : Value) (a b : List UInt8) (w : World) (hv : Rd w v a) (hu : Rd w u b) :
    Calls Tryd.prog 12 #[v, u] w fun e w' => e = .returned (.bool (decide (a = b))) ∧ w.grownBy w' none :=
  (same_quiet v u a b w hv hu).mono fun e w' ⟨he, m, hm⟩ => ⟨he, by rw [hm]; exact gb_drewN _ _ _⟩
end Go.Proofs.YtfggcmkoihemoaaDoor
