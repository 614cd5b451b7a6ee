/-
  The document's full, twice: the walks.
-/
import Derived.Test.YtbnieljkadcaoaaGreatDoorLbSp
namespace Go.Proofs.YtbnieljkadcaoaaGreatDoor
open Go.RowKit

/-- one label in a new box, to be appended -/
theorem box_rdc (w : World) (x y : ByteArray) : RdC (w.alloc (.cells #[.string x, .string y] 75)) (some ⟨w.heap.size, 0, none⟩) [.string x, .string y] := by
  intro j u hj
  refine ⟨_, rfl, ?_⟩
  rw [Go.WideShapes.add_plain]
  have ha := Go.heap_alloc_new w (.cells #[.string x, .string y] 75)
  simp only [World.cell?, ha]
  simpa using hj
theorem box_rdc1 (w : World) (C : Obj) (x y : ByteArray) : RdC ((w.alloc C).alloc (.cells #[.string x, .string y] 75)) (some ⟨w.heap.size + 1, 0, none⟩) [.string x, .string y] := by
  have h := box_rdc (w.alloc C) x y
  rwa [World.size_alloc] at h
theorem two_one (x y : ByteArray) : ∀ u ∈ [Value.string x, Value.string y], u.oneCell' = true := by
  intro u hu
  simp only [List.mem_cons, List.not_mem_nil, or_false] at hu
  rcases hu with rfl | rfl <;> rfl
theorem OwnL.snoc {w : World} {base : Nat} {v : Value} {ls : List LbT} {x y : List UInt8} (h : w.ownsRow base 75 2 v (ls.length + 1) (lbf ls ++ [.string (ByteArray.mk ⟨x⟩), .string (ByteArray.mk ⟨y⟩)])) : OwnL w base v (ls ++ [(x, y)]) := by
  unfold OwnL
  rw [List.length_append, lbf_append]
  exact h
theorem OwnL.nil (w : World) (base : Nat) : OwnL w base (.slice none 0 0) [] := World.ownsRow_nil w base _ _

end Go.Proofs.YtbnieljkadcaoaaGreatDoor
