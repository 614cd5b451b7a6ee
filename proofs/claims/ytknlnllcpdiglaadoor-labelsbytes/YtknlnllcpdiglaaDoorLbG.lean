/-
  A label looked up; the hash of no labels: what Get, Hash come to: the walks.
-/
import Derived.Test.YtknlnllcpdiglaaDoorLbL
namespace Go.Proofs.YtknlnllcpdiglaaDoor
open Go.RowKit

theorem hash_nil (w : World) : Calls Tryd.prog 31 #[.slice none 0 0] w fun e w' => e = .returned (.int .u64 14695981039346656037) ∧ w.grownBy w' none := by
  go_enter Tryd.func31, Tryd.ntmps31
  go_wp2
  go_loopw [3, 8] (fun h i wr => Hid (wr = w) ∧ h = .int .u64 14695981039346656037 ∧ i = .int .i64 0) (fun _ _ _ => 0)
  case atStart => exact ⟨rfl, rfl, rfl⟩
  case round =>
    obtain ⟨hw, rfl, rfl⟩ := hrel
    have hw := hw.out
    subst hw
    go_wp2
    go_ret
    exact ⟨rfl, gb_refl _ _⟩

set_option maxRecDepth 8000 in
set_option maxHeartbeats 3200000 in
theorem get_at (w : World) (v : Value) (ls : List LbT) (nm : List UInt8) (k : Nat) (hv : RdL w v ls) (hk : k < ls.length) (hK : (ls.getD k ([], [])).1 = nm) (hb : ∀ j, j < k → (ls.getD j ([], [])).1 ≠ nm) :
    Calls Tryd.prog 21 #[v, .string (ByteArray.mk ⟨nm⟩)] w fun e w' => e = .returned (.string (ByteArray.mk ⟨(ls.getD k ([], [])).2⟩)) ∧ w.grownBy w' none := by
  have HV : Hid (RdL w v ls ∧ (ls.getD k ([], [])).1 = nm ∧ ∀ j, j < k → (ls.getD j ([], [])).1 ≠ nm) := ⟨hv, hK, hb⟩
  obtain ⟨a, c, rfl, hc1, hc2, hc3, hc4⟩ := hv
  unfold maxLen at hc2
  clear hc3 hc4 hK hb
  go_enter Tryd.func21, Tryd.ntmps21
  go_wp2
  go_loopw [9] (fun i wr => ∃ z : Nat, z ≤ k ∧ i = .int .i64 z ∧ Hid (w.grownBy wr none)) (fun i _ => ls.length - (intOf i).toNat)
  case atStart => exact ⟨0, by omega, rfl, gb_refl _ _⟩
  case round =>
    obtain ⟨z, hzN, rfl, hr⟩ := hrel
    have hzl : z < ls.length := by omega
    obtain ⟨a', c', he, -, -, h3, -⟩ := HV.out.1.keep hr.out
    simp only [Value.slice.injEq] at he
    obtain ⟨rfl, -, rfl⟩ := he
    obtain ⟨b, o, rfl, c0, c1⟩ := h3 z hzl
    have hzi : (z : Int) < (ls.length : Int) := by omega
    have hbl : ¬ b = wr.heap.size := by have := block_lt c0; omega
    have hbl2 : ¬ wr.heap.size = b := by omega
    clear h3
    by_cases hzk : z = k
    · subst hzk
      have hn := HV.out.2.1
      rw [hn] at c0
      have HE : Hid (∀ C, w.grownBy (wr.alloc C) none) := fun C => gb_none hr.out (World.grownBy_alloc _ _ none)
      clear HV hr hn
      generalize ByteArray.mk ⟨nm⟩ = sn at *
      have HW : Hid (∃ sv, sv = ByteArray.mk ⟨(ls.getD z ([], [])).2⟩) := ⟨_, rfl⟩
      obtain ⟨sv, hsv⟩ := HW.out
      rw [← hsv] at c1
      have HSV : Hid (sv = ByteArray.mk ⟨(ls.getD z ([], [])).2⟩) := hsv
      clear hsv HW
      go_wp2
      go_ret
      exact ⟨by rw [← HSV.out]; rfl, HE.out _⟩
    · have hn := HV.out.2.2 z (by omega)
      have hes : ((ByteArray.mk ⟨(ls.getD z ([], [])).1⟩).toList == (ByteArray.mk ⟨nm⟩).toList) = false := by
        rw [ByteArray.toList_eq, ByteArray.toList_eq, beq_eq_false_iff_ne]
        exact hn
      have hes2 : ¬ (ByteArray.mk ⟨(ls.getD z ([], [])).1⟩).toList = (ByteArray.mk ⟨nm⟩).toList := by simpa using hes
      have HE : Hid (∀ C, w.grownBy (wr.alloc C) none) := fun C => gb_none hr.out (World.grownBy_alloc _ _ none)
      clear hr hn
      generalize ByteArray.mk ⟨nm⟩ = sn at *
      generalize ByteArray.mk ⟨(ls.getD z ([], [])).1⟩ = sz at *
      generalize ByteArray.mk ⟨(ls.getD z ([], [])).2⟩ = sv at *
      go_wp2
      go_roundw
      case rel => exact ⟨z + 1, by omega, by simp, HE.out _⟩
      case measure => simp [intOf]; omega
end Go.Proofs.YtknlnllcpdiglaaDoor
