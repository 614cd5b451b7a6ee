/-
  Lists of labels in memory; the first fault of one; the document's Right: the walk.
-/
import Derived.Test.YtkcgikgihbglnabDoorMgB
import Derived.Sort.Walk0
namespace Go.Proofs.YtkcgikgihbglnabDoor
open Go.RowKit

abbrev LbT := List UInt8 × List UInt8
/-- the value is a slice that reads as these labels -/
def RdL (w : World) (v : Value) (ls : List LbT) : Prop :=
  ∃ a c, v = .slice a ls.length c ∧ ls.length ≤ c ∧ c ≤ maxLen ∧ (∀ j, j < ls.length → ∃ b o, a = some ⟨b, o, none⟩ ∧ w.cell? ⟨b, o + j * 2, none⟩ = some (.string (ByteArray.mk ⟨(ls.getD j ([], [])).1⟩)) ∧ w.cell? ⟨b, o + j * 2 + 1, none⟩ = some (.string (ByteArray.mk ⟨(ls.getD j ([], [])).2⟩))) ∧ (a = none → c = 0)
theorem RdL.keep {w w' : World} {v : Value} {ls : List LbT} (h : RdL w v ls) (hg : w.grownBy w' none) : RdL w' v ls := by
  obtain ⟨a, c, h1, h2, h3, h4, h5⟩ := h
  refine ⟨a, c, h1, h2, h3, fun j hj => ?_, h5⟩
  obtain ⟨b, o, e, c0, c1⟩ := h4 j hj
  have hb := hg.block b (block_lt c0) (by simp)
  exact ⟨b, o, e, (World.cell?_of_block hb).trans c0, (World.cell?_of_block hb).trans c1⟩
/-- all of its texts can be -/
def LbIn (ls : List LbT) : Prop := ls.length ≤ 1000000000000000000 ∧ ∀ j, (ls.getD j ([], [])).1.length ≤ 1000000000000000000 ∧ (ls.getD j ([], [])).2.length ≤ 1000000000000000000

/-- what is wrong at a label -/
def errAt (ls : List LbT) (i : Nat) : Int :=
  if oneE (ls.getD i ([], [])).1 (ls.getD i ([], [])).2 ≠ 0 then oneE (ls.getD i ([], [])).1 (ls.getD i ([], [])).2
  else if 0 < i ∧ ¬ (ls.getD (i - 1) ([], [])).1 < (ls.getD i ([], [])).1 then 3 else 0
def firstAt (ls : List LbT) : Nat → Nat → Int × Nat
  | 0, _ => (0, 0)
  | f + 1, i => if errAt ls i ≠ 0 then (errAt ls i, i) else firstAt ls f (i + 1)
def rightS (ls : List LbT) : Int × Nat := if 16 < ls.length then (8, 0) else firstAt ls ls.length 0
theorem firstAt_step (ls : List LbT) (f i : Nat) (h : errAt ls i = 0) : firstAt ls (f + 1) i = firstAt ls f (i + 1) := by rw [firstAt, if_neg (by simpa using h)]
theorem firstAt_hit (ls : List LbT) (f i : Nat) (h : errAt ls i ≠ 0) : firstAt ls (f + 1) i = (errAt ls i, i) := by rw [firstAt, if_pos h]

end Go.Proofs.YtkcgikgihbglnabDoor
