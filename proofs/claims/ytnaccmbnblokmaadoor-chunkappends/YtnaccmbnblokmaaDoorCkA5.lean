/-
  Slices of samples: the last one, the first one.
-/
import Derived.Test.YtnaccmbnblokmaaDoorCkA4
import Derived.Deep.Slices
namespace Go.Proofs.YtnaccmbnblokmaaDoor
open Go.RowKit

theorem run_lastS (W : World) (b M c : Nat) (hc : M + 1 ≤ c) : (Instr.slice 22 (.slice (some ⟨b, 0, none⟩) (M + 1) c) (some (.int .i64 (M : Int))) none none).run Tryd.prog W = .ok (.slice (some ⟨b, M * 2, none⟩) 1 (c - M)) W := by
  have ht' : Tryd.prog.underlying 22 = some (.slice (Tryd.prog.elem 22)) := by simp [Program.elem, Tryd.underlying22]
  have he : Tryd.prog.elem 22 = 27 := by simp [Program.elem, Tryd.underlying22]
  rw [run_slice_l W _ _ _ _ ht' .i64 _ (by omega) (by omega), he, Tryd.sizeOf27]
  have h1 : ¬ c - M = 0 := by omega
  have h2 : ¬ c = M := by omega
  have h3 : M + 1 - M = 1 := by omega
  simp [Result.andThen, sliced, Addr.add, h2, h3]
  intro h
  omega
theorem run_firstS (W : World) (a : Option Addr) (n c : Nat) (hn : 1 ≤ n) (hc : n ≤ c) : (Instr.slice 22 (.slice a n c) none (some (.int .i64 1)) none).run Tryd.prog W = .ok (.slice a 1 c) W := by
  have ht' : Tryd.prog.underlying 22 = some (.slice (Tryd.prog.elem 22)) := by simp [Program.elem, Tryd.underlying22]
  have he : Tryd.prog.elem 22 = 27 := by simp [Program.elem, Tryd.underlying22]
  rw [run_slice_h W _ _ _ _ ht' .i64 _ (by omega) (by omega), he, Tryd.sizeOf27]
  have hm : (Option.map (fun x => Addr.add x (0 * 2)) a) = a := by cases a <;> simp [Addr.add]
  simp [Result.andThen, sliced]
  intro _
  simpa using hm
theorem RdP.one (W : World) (t : Int) (f : Nat) : RdP (W.alloc (.cells #[.int .i64 t, .float .f64 f] 27)) (.slice (some ⟨W.heap.size, 0, none⟩) 1 1) [(t, f)] := by
  have hb := Go.heap_alloc_new W (.cells #[.int .i64 t, .float .f64 f] 27)
  refine ⟨some ⟨W.heap.size, 0, none⟩, 1, rfl, Nat.le_refl _, by simp [maxLen], fun j hj => ?_⟩
  obtain rfl : j = 0 := by simp at hj; omega
  exact ⟨_, _, rfl, by simp only [World.cell?, hb]; rfl, by simp only [World.cell?, hb]; rfl⟩
theorem RdP.lastOne {W : World} {b M c : Nat} {m : List SmpT} (h : RdP W (.slice (some ⟨b, 0, none⟩) (M + 1) c) m) (hm : m.length = M + 1) : RdP W (.slice (some ⟨b, M * 2, none⟩) 1 (c - M)) [lastS m] := by
  obtain ⟨a', c', e, h1, h2, h3⟩ := h
  simp only [Value.slice.injEq] at e
  obtain ⟨rfl, -, rfl⟩ := e
  obtain ⟨b', o', e', c0, c1⟩ := h3 M (by omega)
  simp only [Option.some.injEq, Addr.mk.injEq, and_true] at e'
  obtain ⟨rfl, rfl⟩ := e'
  have hl : lastS m = m.getD M smZ := by unfold lastS; rw [hm]; rfl
  refine ⟨some ⟨b, M * 2, none⟩, c - M, rfl, by simp; omega, by omega, fun j hj => ?_⟩
  obtain rfl : j = 0 := by simp at hj; omega
  refine ⟨_, _, rfl, ?_, ?_⟩
  · rw [show ([lastS m].getD 0 smZ) = lastS m from rfl, hl]; simpa using c0
  · rw [show ([lastS m].getD 0 smZ) = lastS m from rfl, hl]; simpa using c1
theorem RdP.head {w : World} {a : Option Addr} {c N : Nat} {l : List SmpT} (h : RdP w (.slice a N c) l) (n : Nat) (hn : n ≤ l.length) : RdP w (.slice a n c) (l.take n) := by
  obtain ⟨a', c', e, h1, h2, h3⟩ := h
  simp only [Value.slice.injEq] at e
  obtain ⟨rfl, -, rfl⟩ := e
  have hl : (l.take n).length = n := by rw [List.length_take]; omega
  refine ⟨a, c, by rw [hl], by omega, h2, fun j hj => ?_⟩
  rw [hl] at hj
  obtain ⟨b, o, q, c0, c1⟩ := h3 j (by omega)
  have hg : (l.take n).getD j smZ = l.getD j smZ := by simp [List.getD, hj]
  rw [hg]
  exact ⟨b, o, q, c0, c1⟩
end Go.Proofs.YtnaccmbnblokmaaDoor
