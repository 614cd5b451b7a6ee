/-
  append, make and copy of bytes onto memory of the call's own, as laws for the walk over this seat's program.
-/
import Derived.Test.YtgpednikianneaaProg
import Derived.Test.YtgpednikianneaaBase
import Derived.Laws.CopyOwn
namespace Go.Proofs.Ytgpednikianneaa
open Go.RowKit

theorem infoB : (Try.prog.info? 5).map (fun i => (i.zero, i.size, i.bytes)) = some (some (.int .u8 0), 1, 1) := by kernel_rfl
theorem sizeB : (Try.prog.info? 5).map (·.size) = some 1 := by kernel_rfl

/-- what a call that may write and move one row of its own leaves of the rest -/
def Fr (w w' : World) (v v' : Value) : Prop := w.grownBy w' v.ownBlock ∧ ∀ k, v'.ownBlock = some k → some k = v.ownBlock ∨ w.heap.size ≤ k
theorem Fr.refl (w : World) (v : Value) : Fr w w v v := ⟨gb_refl _ _, fun _ h => .inl h.symm⟩
theorem Fr.trans {w w1 w2 : World} {v v1 v2 : Value} (h1 : Fr w w1 v v1) (h2 : Fr w1 w2 v1 v2) : Fr w w2 v v2 := by
  refine ⟨gb_trans h1.1 h2.1 (fun k hk hlt => ?_), fun k hk => ?_⟩
  · rcases h1.2 k hk with h | h
    · exact h
    · omega
  · rcases h2.2 k hk with h | h
    · exact h1.2 k h.symm
    · exact .inr (Nat.le_trans h1.1.size h)
/-- a row that is new at the call -/
theorem Fr.new {w w1 w2 : World} {v v' : Value} (h1 : w.grownBy w1 none) (h2 : Fr w1 w2 v v') (hv : ∀ k, v.ownBlock = some k → w.heap.size ≤ k) : w.grownBy w2 none := gb_new h1 h2.1 hv
/-- in between new blocks came -/
theorem Fr.pre {w w1 w2 : World} {v v' : Value} (h1 : w.grownBy w1 none) (h2 : Fr w1 w2 v v') : Fr w w2 v v' :=
  ⟨gb_trans (g := v.ownBlock) ⟨h1.os, h1.tape, h1.output, h1.size, fun k hk _ => h1.block k hk (by simp)⟩ h2.1 (fun _ hk _ => hk.symm), fun k hk => (h2.2 k hk).imp id (fun h => Nat.le_trans h1.size h)⟩
theorem gb_any {w w1 : World} (h1 : w.grownBy w1 none) (g : Option Nat) : w.grownBy w1 g := ⟨h1.os, h1.tape, h1.output, h1.size, fun k hk _ => h1.block k hk (by simp)⟩

theorem made_zeros (n c : Nat) (h : n ≤ c) : (madeCells #[Value.int .u8 0] c).toList.take n = (List.replicate n (0 : UInt8)).map bv := by
  rw [toList_madeCells_one, List.take_replicate, List.map_replicate]
  have : min n c = n := by omega
  rw [this]
  rfl

/-- a literal's bytes, marked or not -/
theorem Rd_lit (w : World) (cs : List UInt8) (n : Nat) (hn : n = cs.length) (hm : cs.length ≤ 175921860444160) (A : Array Value) (hA : A = (cs.map bv).toArray) {fr : Nat × Nat} : Rd (w.alloc (.cells A 5 fr)) (.slice (some ⟨w.heap.size, 0, none⟩) n n) cs := by
  subst hn
  subst hA
  refine ⟨_, _, rfl, Nat.le_refl _, by unfold maxLen; omega, ?_, fun h => by cases h⟩
  intro j hj
  refine ⟨_, _, rfl, ?_⟩
  have hh := Go.heap_alloc_new w (.cells (cs.map bv).toArray 5 fr)
  have := getD_map_bv hj
  simp only [World.cell?, hh, Nat.zero_add]
  simpa using this
end Go.Proofs.Ytgpednikianneaa
