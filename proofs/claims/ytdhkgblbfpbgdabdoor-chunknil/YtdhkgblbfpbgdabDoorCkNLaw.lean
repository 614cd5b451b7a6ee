/-
  ChunkNil: a chunk that is not there takes nothing and tells nothing: the walk.
-/
import Derived.Test.YtdhkgblbfpbgdabDoorCkN1
namespace Go.Proofs.YtdhkgblbfpbgdabDoor
open Go.RowKit

theorem every_nil (w : World) : Calls Tryd.prog 8 #[.pointer none, .int .i64 1] w fun e w' => e = .returned (.slice none 0 0) ∧ Below w.heap.size w w' := (callsIn_wide (n := 12)).1 (every_in 12 (Nat.le_refl _) w)

set_option maxRecDepth 8000 in
set_option maxHeartbeats 1600000 in
theorem ckNil_walk (t : Int) (f : Nat) (w : World) :
    Calls Tryd.prog 3 #[.int .i64 t, .float .f64 f] w fun e w' => e = .returned (.bool true) ∧ Below w.heap.size w w' := by
  go_enter Tryd.func3, Tryd.ntmps3
  go_wp2_with fail
  refine (nilLast_any _).mono ?_
  rintro e w1 ⟨rfl, hg1⟩
  have H1 : Hid (w.grownBy w1 none) := hg1
  clear hg1
  have hsf := store_float
  have hfe : ∀ W : World, (Op.equalIn 9999 22 (.float .f64 0) (.float .f64 0)).run Tryd.prog W = .ok true W := fun W => by kernel_rfl
  go_wp2_with (first | (go_at_call 5; refine (nilAppend_any _ _ _).mono ?_; rintro e w2 ⟨rfl, rfl⟩) | (go_at_call 6; refine (nilLen_any _).mono ?_; rintro e w2 ⟨rfl, rfl⟩) | (go_at_call 7; refine (nilBytes_any _).mono ?_; rintro e w2 ⟨rfl, rfl⟩))
  have H2 : Hid (w.grownBy (w1.alloc (.cells #[.int .i64 0, .float .f64 0] 25)) none) := gb_none H1.out (alloc_gb _ _)
  generalize w1.alloc (.cells #[.int .i64 0, .float .f64 0] 25) = W2 at *
  refine (every_nil _).mono ?_
  rintro e w3 ⟨rfl, hg3⟩
  have H3 : Hid (w.grownBy w3 none) := gb_none H2.out (gb_of_below hg3)
  clear hg3 H2 H1
  go_wp2_with fail
  refine (awake_any _).mono ?_
  rintro e w4 ⟨rfl, hg4⟩
  have H4 : Hid (Below w.heap.size w w4) := gb_below (gb_none H3.out hg4)
  clear hg4 H3
  go_wp2
  go_ret
  exact ⟨rfl, H4.out⟩
end Go.Proofs.YtdhkgblbfpbgdabDoor
