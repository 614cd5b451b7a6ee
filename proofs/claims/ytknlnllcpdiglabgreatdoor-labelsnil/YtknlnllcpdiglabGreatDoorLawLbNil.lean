/-
  LabelsNil: a numbering that is not there answers ErrNil, or nothing: the walk.
-/
import Derived.Test.YtknlnllcpdiglabGreatDoorLbI2
namespace Go.Proofs.YtknlnllcpdiglabGreatDoor
open Go.RowKit

theorem told_nil (w : World) (rb : Nat) (hrb : w.heap[rb]? = some (.cells #[.slice none 0 0, .int .i64 0] 28 (0, 0))) : Calls Tryz.prog 8 #[.pointer none, .pointer (some ⟨rb, 0, none⟩)] w fun e w' => e = .returned (.bool true) ∧ Below w.heap.size w w' := (callsIn_wide (n := 12)).1 (told_in 12 (Nat.le_refl _) w rb hrb)

set_option maxRecDepth 8000 in
set_option maxHeartbeats 1600000 in
theorem lbNil_walk (v : Value) (ls : List LbT) (n : Int) (w : World) (hv : RdL w v ls) (hT : U8S w) :
    Calls Tryz.prog 5 #[v, .int .i64 n] w fun e w' => e = .returned (.bool true) ∧ Below w.heap.size w w' := by
  have HT : Hid (U8S w) := hT
  obtain ⟨a, c, rfl⟩ : ∃ a c, v = .slice a ls.length c := by obtain ⟨a, c, h, _⟩ := hv; exact ⟨a, c, h⟩
  clear hv hT
  go_enter Tryz.func5, Tryz.ntmps5
  go_wp2_with fail
  refine (nilPut_any _ _).mono ?_
  rintro e w1 ⟨rfl, rfl⟩
  go_wp2_with fail
  refine (nilFind_any _ _).mono ?_
  rintro e w2 ⟨rfl, rfl⟩
  go_wp2_with fail
  refine (nilLabels_any _ _).mono ?_
  rintro e w3 ⟨rfl, rfl⟩
  go_wp2_with fail
  refine (nilDrop_any _ _).mono ?_
  rintro e w4 ⟨rfl, hg4⟩
  go_wp2_with fail
  have hb := Go.heap_alloc_new w4 (.cells #[.slice none 0 0, .int .i64 0] 28)
  refine (told_nil _ w4.heap.size hb).mono ?_
  rintro e w5 ⟨rfl, hg5⟩
  have H5 : Hid (w3.grownBy w5 none) := gb_none hg4 (gb_none (World.grownBy_alloc _ _ none) (gb_of_below hg5))
  clear hg4 hg5 hb
  go_wp2_with fail
  refine (awakeL_any _ (HT.out.keep H5.out)).mono ?_
  rintro e w6 ⟨rfl, hg6⟩
  have H6 : Hid (Below w3.heap.size w3 w6) := gb_below (gb_none H5.out hg6)
  clear hg6 H5
  go_wp2
  go_ret
  exact ⟨rfl, H6.out⟩
end Go.Proofs.YtknlnllcpdiglabGreatDoor
