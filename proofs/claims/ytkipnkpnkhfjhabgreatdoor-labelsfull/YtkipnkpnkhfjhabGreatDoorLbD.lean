/-
  Labels of which none is empty: what slices.IndexFunc, slices.DeleteFunc come to: the walks.
-/
import Derived.Test.YtkipnkpnkhfjhabGreatDoorLbL
namespace Go.Proofs.YtkipnkpnkhfjhabGreatDoor
open Go.RowKit

theorem empty_any (W : World) (a b : List UInt8) (hb : b ≠ []) :
    Calls Tryz.prog 60 #[.agg #[.string (ByteArray.mk ⟨a⟩), .string (ByteArray.mk ⟨b⟩)]] W fun e w' => e = .returned (.bool false) ∧ W.grownBy w' none := by
  have hne : (ByteArray.mk ⟨b⟩).toList.isEmpty = false := by rw [ByteArray.toList_eq]; cases b with | nil => exact absurd rfl hb | cons _ _ => rfl
  have hne2 : ¬ (ByteArray.mk ⟨b⟩).toList = [] := by rw [ByteArray.toList_eq]; exact hb
  generalize ByteArray.mk ⟨b⟩ = sb at *
  go_enter Tryz.func60, Tryz.ntmps60
  go_wp2
  go_ret
  exact ⟨rfl, World.grownBy_alloc _ _ none⟩

set_option maxRecDepth 8000 in
set_option maxHeartbeats 3200000 in
theorem indexFunc_none (w : World) (v : Value) (ls : List LbT) (hv : RdL w v ls) (hl : ls.length ≤ 1000000000000000000) (hn : ∀ j, j < ls.length → (ls.getD j ([], [])).2 ≠ []) :
    Calls Tryz.prog 80 #[v, .func (.func 60) #[] #[]] w fun e w' => e = .returned (.int .i64 (-1)) ∧ w.grownBy w' none := by
  have HV : Hid (RdL w v ls ∧ ∀ j, j < ls.length → (ls.getD j ([], [])).2 ≠ []) := ⟨hv, hn⟩
  obtain ⟨a, c, rfl, hc1, hc2, hc3, hc4⟩ := hv
  unfold maxLen at hc2
  clear hc3 hc4 hn
  go_enter Tryz.func80, Tryz.ntmps80
  go_wp2
  go_loopw [8] (fun i wr => ∃ z : Nat, z ≤ ls.length ∧ i = .int .i64 z ∧ Hid (w.grownBy wr none)) (fun i _ => ls.length - (intOf i).toNat)
  case atStart => exact ⟨0, by omega, rfl, gb_refl _ _⟩
  case round =>
    obtain ⟨z, hzN, rfl, hr⟩ := hrel
    by_cases hzl : z < ls.length
    · obtain ⟨a', c', he, -, -, h3, -⟩ := HV.out.1.keep hr.out
      simp only [Value.slice.injEq] at he
      obtain ⟨rfl, -, rfl⟩ := he
      obtain ⟨b, o, rfl, c0, c1⟩ := h3 z hzl
      have HO : Hid (∀ W, Calls Tryz.prog 60 #[.agg #[.string (ByteArray.mk ⟨(ls.getD z ([], [])).1⟩), .string (ByteArray.mk ⟨(ls.getD z ([], [])).2⟩)]] W fun e w' => e = .returned (.bool false) ∧ W.grownBy w' none) := fun W => empty_any W _ _ (HV.out.2 z hzl)
      clear h3
      generalize ByteArray.mk ⟨(ls.getD z ([], [])).1⟩ = sn at *
      generalize ByteArray.mk ⟨(ls.getD z ([], [])).2⟩ = sv at *
      have hzi : (z : Int) < (ls.length : Int) := by omega
      go_wp2_with fail
      refine (HO.out _).mono ?_
      rintro e w1 ⟨rfl, hg1⟩
      have H1 : Hid (w.grownBy w1 none) := gb_none hr.out hg1
      clear HO hg1 hr c0 c1
      go_wp2
      go_roundw
      case rel => exact ⟨z + 1, by omega, by simp, H1.out⟩
      case measure => simp [intOf]; omega
    · have hzi : ¬ (z : Int) < (ls.length : Int) := by omega
      go_wp2
      go_ret
      exact ⟨rfl, hr.out⟩

set_option maxHeartbeats 1600000 in
theorem deleteFunc_none (w : World) (v : Value) (ls : List LbT) (hv : RdL w v ls) (hl : ls.length ≤ 1000000000000000000) (hn : ∀ j, j < ls.length → (ls.getD j ([], [])).2 ≠ []) :
    Calls Tryz.prog 59 #[v, .func (.func 60) #[] #[]] w fun e w' => e = .returned v ∧ w.grownBy w' none := by
  have HI : Hid (Calls Tryz.prog 80 #[v, .func (.func 60) #[] #[]] w fun e w' => e = .returned (.int .i64 (-1)) ∧ Hid (w.grownBy w' none)) := indexFunc_none w v ls hv hl hn
  clear hv hn
  go_enter Tryz.func59, Tryz.ntmps59
  go_wp2_with fail
  refine HI.out.mono ?_
  rintro e w1 ⟨rfl, H1⟩
  clear HI
  go_wp2
  go_ret
  exact ⟨rfl, H1.out⟩
end Go.Proofs.YtkipnkpnkhfjhabGreatDoor
