/-
  A new disk, and a file laid into a disk's map: the walks.
-/
import Derived.Test.YtgafmplmngbbfaaDiskM
namespace Go.Proofs.Ytgafmplmngbbfaa
open Go.RowKit Go.Maps Go.WideMaps

theorem litC (w : World) (u : Value) (t : TypeId) : (w.alloc (.cells #[u] t)).cell? ⟨w.heap.size, 0, none⟩ = some u := by
  rw [World.cell?_alloc_at _ _ _ _ rfl]; rfl
set_option maxHeartbeats 1600000 in
theorem new_any (w : World) : Calls Try.prog 9 #[] w fun e w' => ∃ gd gm, e = .returned (.pointer (some ⟨gd, 0, none⟩)) ∧ w'.cell? ⟨gd, 0, none⟩ = some (.map (some gm)) ∧ w'.ownsMap Try.prog 9 ptrElem gm 0 (.map []) ∧ w.heap.size ≤ gd ∧ w.heap.size ≤ gm ∧ gd ≠ gm ∧ w.grownBy w' none := by
  have hmm := @run_makeMap Try.prog
  go_enter Try.func9, Try.ntmps9
  go_wp2
  go_ret
  refine ⟨w.heap.size + 1, w.heap.size, rfl, ?_, (World.ownsMap_made _ _ _ _).alloc _, by omega, by omega, by omega, gb_none (World.grownBy_alloc _ _ none) (World.grownBy_alloc _ _ none)⟩
  simp

theorem map_nil_eq (gm : Nat) (w : World) : (binOp .eql 64 (.map (some gm)) (.map none)).run Try.prog w = .ok (.bool false) w := by
  first | kernel_rfl | rfl | simp [binOp]
set_option maxRecDepth 8000 in
set_option maxHeartbeats 1600000 in
theorem put_any (gd gm n gf : Nat) (D : DataW Unit) (l : List UInt8) (w : World) (hl : l.length ≤ 9223372036854775807) (hn : n < maxLen) (hc : w.cell? ⟨gd, 0, none⟩ = some (.map (some gm)))
    (hown : w.ownsMap Try.prog 9 ptrElem gm n D) :
    Calls Try.prog 45 #[.pointer (some ⟨gd, 0, none⟩), .string (ByteArray.mk ⟨l⟩), .pointer (some ⟨gf, 0, none⟩)] w fun e w' => e = .returned (.tuple #[]) ∧ w'.ownsMap Try.prog 9 ptrElem gm (n + 1) (D.put (.string l) (.lit (.int .i64 (gf : Int)))) ∧ w.grownBy w' (some gm) := by
  obtain ⟨w1, hrun, ho1, hg1⟩ := hown.update lawS Try.underlying64 hn (keyS l (by unfold maxLen; omega)) (ptrElem_mk gf)
  have H : Hid (w1.ownsMap Try.prog 9 ptrElem gm (n + 1) (D.put (.string l) (.lit (.int .i64 (gf : Int)))) ∧ w.grownBy w1 (some gm)) := ⟨ho1, hg1⟩
  clear hown hn hl ho1 hg1
  generalize ByteArray.mk ⟨l⟩ = s at *
  have hnl := map_nil_eq gm
  go_enter Try.func45, Try.ntmps45
  go_wp2
  go_end0
  exact ⟨rfl, H.out⟩
end Go.Proofs.Ytgafmplmngbbfaa
