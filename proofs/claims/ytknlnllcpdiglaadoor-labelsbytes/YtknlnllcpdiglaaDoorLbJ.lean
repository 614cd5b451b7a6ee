/-
  One text joined: what strings.Join comes to: the walk.
-/
import Derived.Test.YtknlnllcpdiglaaDoorLbL
namespace Go.Proofs.YtknlnllcpdiglaaDoor
open Go.RowKit

set_option maxHeartbeats 1600000 in
theorem join_one (w : World) (b c : Nat) (x sep : ByteArray) (hc : w.cell? ⟨b, 0, none⟩ = some (.string x)) :
    Calls Tryd.prog 65 #[.slice (some ⟨b, 0, none⟩) 1 c, .string sep] w fun e w' => e = .returned (.string x) ∧ w.grownBy w' none := by
  go_enter Tryd.func65, Tryd.ntmps65
  go_wp2
  go_ret
  exact ⟨rfl, by first | exact gb_refl _ _ | exact World.grownBy_alloc _ _ none⟩
end Go.Proofs.YtknlnllcpdiglaaDoor
