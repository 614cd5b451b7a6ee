/-
  Is a text right UTF-8: the document's own function: the walk.
-/
import Derived.Test.YtknlnllcpdiglabDoorU8Ref
import Derived.Deep.QuietTactic
import Derived.BigQuiet
namespace Go.Proofs.YtknlnllcpdiglabDoor
open Go.RowKit Go.Lib

theorem hid_mkU {p : Prop} (h : p) : Hid p := h
set_option maxRecDepth 100000 in
theorem and192 : ∀ X : Fin 256, bits .and .u8 ((X.val : Nat) : Int) 192 = ((X.val / 64 * 64 : Nat) : Int) := by decide
set_option maxRecDepth 100000 in
theorem and63 : ∀ X : Fin 256, bits .and .u8 ((X.val : Nat) : Int) 63 = ((X.val % 64 : Nat) : Int) := by decide
set_option maxRecDepth 100000 in
theorem and31 : ∀ X : Fin 256, bits .and .i64 ((X.val : Nat) : Int) 31 = ((X.val % 32 : Nat) : Int) := by decide
set_option maxRecDepth 100000 in
theorem and15 : ∀ X : Fin 256, bits .and .i64 ((X.val : Nat) : Int) 15 = ((X.val % 16 : Nat) : Int) := by decide
set_option maxRecDepth 100000 in
theorem and7i : ∀ X : Fin 256, bits .and .i64 ((X.val : Nat) : Int) 7 = ((X.val % 8 : Nat) : Int) := by decide

end Go.Proofs.YtknlnllcpdiglabDoor
