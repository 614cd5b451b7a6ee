/-
  The text that awake reads: the closed case.
-/
import Derived.Test.YtknlnllcpdiglaaDoorLbA3
namespace Go.Proofs.YtknlnllcpdiglaaDoor
open Go.RowKit

/-- up { job = "x" , } -/
def awT : List UInt8 := [117, 112, 32, 123, 32, 106, 111, 98, 32, 61, 32, 34, 120, 34, 32, 44, 32, 125]
def upB : List UInt8 := [117, 112]
def jobB : List UInt8 := [106, 111, 98]
def xB : List UInt8 := [120]
theorem set_awake (w : World) (g : Nat) (h : Tx w g awT 0) :
    Calls Tryd.prog 67 #[.pointer (some ⟨g, 0, none⟩)] w fun e w' => ∃ v, e = .returned (.tuple #[v, .bool true]) ∧ OwnL w' w.heap.size v [(mnB, upB), (jobB, xB)] ∧ w.grownBy w' (some g) := by
  refine set_one w g awT upB jobB xB 0 2 4 18 18 h (by decide) (by decide) (by decide) rfl (by decide) (by decide) (by decide) (by decide) (by decide) (fun W hW => ?_) (by decide) (by decide) (by decide)
  refine labels_one W g awT jobB xB 4 5 14 16 18 hW (by decide) (by decide) (by decide) (by decide) (fun W hW => ?_) (by decide) (by decide) (by decide) (by decide) (by decide) (by decide) (by decide)
  exact label_ok W g awT jobB xB 5 3 10 12 1 hW (by decide) (by decide) (by decide) rfl (by decide) (by decide) (by decide) (by decide) (by decide) (by decide) (by decide) (by decide) (by decide) (by decide) (by decide)
end Go.Proofs.YtknlnllcpdiglaaDoor
