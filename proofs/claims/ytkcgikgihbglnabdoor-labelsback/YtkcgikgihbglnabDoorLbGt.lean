/-
  A label looked up, by the project and by the document: the walks.
-/
import Derived.Test.YtkcgikgihbglnabDoorLbMd
namespace Go.Proofs.YtkcgikgihbglnabDoor
open Go.RowKit

set_option maxRecDepth 8000 in
set_option maxHeartbeats 3200000 in
theorem get_labels (w : World) (v : Value) (ls : List LbT) (nm : List UInt8) (hv : RdL w v ls) :
    Calls Tryd.prog 14 #[v, .string (ByteArray.mk ⟨nm⟩)] w fun e w' => e = .returned (.string (ByteArray.mk ⟨getL ls nm⟩)) ∧ w.grownBy w' none := by
  have HV : Hid (RdL w v ls) := hv
  obtain ⟨a, c, rfl, hc1, hc2, hc3, hc4⟩ := hv
  unfold maxLen at hc2
  clear hc3 hc4
  have HH : Hid (∀ k, k < ls.length → (ls.getD k ([], [])).1 = nm → (∀ j, j < k → (ls.getD j ([], [])).1 ≠ nm) → getL ls nm = (ls.getD k ([], [])).2) := getL_hit ls nm
  have HN : Hid ((∀ j, j < ls.length → (ls.getD j ([], [])).1 ≠ nm) → getL ls nm = []) := getL_none ls nm
  generalize getL ls nm = G at *
  go_enter Tryd.func14, Tryd.ntmps14
  go_wp2
  go_loopw [9] (fun i wr => ∃ z : Nat, z ≤ ls.length ∧ i = .int .i64 z ∧ Hid (w.grownBy wr none ∧ ∀ j, j < z → (ls.getD j ([], [])).1 ≠ nm)) (fun i _ => ls.length - (intOf i).toNat)
  case atStart => exact ⟨0, by omega, rfl, gb_refl _ _, fun j hj => by omega⟩
  case round =>
    obtain ⟨z, hzN, rfl, hr⟩ := hrel
    by_cases hzl : z < ls.length
    · obtain ⟨a', c', he, -, -, h3, -⟩ := HV.out.keep hr.out.1
      simp only [Value.slice.injEq] at he
      obtain ⟨rfl, -, rfl⟩ := he
      obtain ⟨b, o, rfl, c0, c1⟩ := h3 z hzl
      have hzi : (z : Int) < (ls.length : Int) := by omega
      have hbl : ¬ b = wr.heap.size := by have := block_lt c0; omega
      have hbl2 : ¬ wr.heap.size = b := by omega
      have HE : Hid (∀ C, w.grownBy (wr.alloc C) none) := fun C => gb_none hr.out.1 (World.grownBy_alloc _ _ none)
      clear h3
      by_cases hn : (ls.getD z ([], [])).1 = nm
      · have hG : G = (ls.getD z ([], [])).2 := HH.out z hzl hn hr.out.2
        rw [← hG] at c1
        rw [hn] at c0
        clear hr hG hn HH HN
        generalize ByteArray.mk ⟨nm⟩ = sn at *
        go_wp2
        go_ret
        exact ⟨rfl, HE.out _⟩
      · have hes : ((ByteArray.mk ⟨(ls.getD z ([], [])).1⟩).toList == (ByteArray.mk ⟨nm⟩).toList) = false := by
          rw [ByteArray.toList_eq, ByteArray.toList_eq, beq_eq_false_iff_ne]
          exact hn
        have hes2 : ¬ (ByteArray.mk ⟨(ls.getD z ([], [])).1⟩).toList = (ByteArray.mk ⟨nm⟩).toList := by simpa using hes
        have HE2 : Hid (∀ j, j < z + 1 → (ls.getD j ([], [])).1 ≠ nm) := fun j hj => by
          by_cases e : j = z
          · rw [e]; exact hn
          · exact hr.out.2 j (by omega)
        clear hr hn HH HN
        generalize ByteArray.mk ⟨nm⟩ = sn at *
        generalize ByteArray.mk ⟨(ls.getD z ([], [])).1⟩ = sz at *
        generalize ByteArray.mk ⟨(ls.getD z ([], [])).2⟩ = sv at *
        go_wp2
        go_roundw
        case rel => exact ⟨z + 1, by omega, by simp, HE.out _, HE2.out⟩
        case measure => simp [intOf]; omega
    · have hzi : ¬ (z : Int) < (ls.length : Int) := by omega
      have hG : G = [] := HN.out (fun j hj => hr.out.2 j (by omega))
      subst hG
      have HE : Hid (w.grownBy wr none) := hr.out.1
      clear hr HH HN
      go_wp2
      go_ret
      exact ⟨rfl, HE.out⟩

end Go.Proofs.YtkcgikgihbglnabDoor
