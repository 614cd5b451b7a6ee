/-
  Labels compared: what compareOne comes to: the walk.
-/
import Derived.Test.YtmgbcmogdjhacaaDoorLbC
import Derived.Shelf.SlSortCmp.Kit1
import Derived.Deep.QuietTactic
import Derived.BigQuiet
import Derived.Deep.RegionHeld3
namespace Go.Proofs.YtmgbcmogdjhacaaDoor
open Go.RowKit Go.Shelf Go.Sort
set_option maxRecDepth 8000 in
set_option maxHeartbeats 3200000 in
theorem compareOne_any (W : World) (x y : LbT) :
    Calls Tryd.prog 54 #[.agg #[.string (ByteArray.mk ⟨x.1⟩), .string (ByteArray.mk ⟨x.2⟩)], .agg #[.string (ByteArray.mk ⟨y.1⟩), .string (ByteArray.mk ⟨y.2⟩)]] W fun e w' => e = .returned (.int .i64 (cmpL x y)) ∧ ∃ q os', w' = grow (W.drewN q) os' := by
  have HR : Hid (cmpL x y = if cmpS x.1 y.1 ≠ 0 then cmpS x.1 y.1 else cmpS x.2 y.2) := rfl
  have HA : Hid (∀ w, Calls Tryd.prog 71 #[.string (ByteArray.mk ⟨x.1⟩), .string (ByteArray.mk ⟨y.1⟩)] w fun e w' => e = .returned (.int .i64 (cmpS x.1 y.1)) ∧ w' = w) := fun w => compareS_any w _ _
  have HB : Hid (∀ w, Calls Tryd.prog 71 #[.string (ByteArray.mk ⟨x.2⟩), .string (ByteArray.mk ⟨y.2⟩)] w fun e w' => e = .returned (.int .i64 (cmpS x.2 y.2)) ∧ w' = w) := fun w => compareS_any w _ _
  generalize cmpL x y = r at *
  generalize cmpS x.1 y.1 = r1 at *
  generalize cmpS x.2 y.2 = r2 at *
  go_enter Tryd.func54, Tryd.ntmps54
  go_wp2_with fail
  have HO : Hid (∀ w : World, Calls Tryd.prog 70 #[.slice (some ⟨w.heap.size, 0, none⟩) 2 2] (w.alloc (.cells #[.int .i64 r1, .int .i64 r2] 3)).drew fun e w' => e = .returned (.int .i64 r) ∧ w' = (w.alloc (.cells #[.int .i64 r1, .int .i64 r2] 3)).drew) := fun w => by
    have hb := Go.heap_alloc_new w (.cells #[.int .i64 r1, .int .i64 r2] 3)
    rw [HR.out]
    refine or_any _ _ r1 r2 ?_ ?_
    · show (w.alloc (.cells #[.int .i64 r1, .int .i64 r2] 3)).cell? _ = _
      rw [World.cell?, hb]; rfl
    · show (w.alloc (.cells #[.int .i64 r1, .int .i64 r2] 3)).cell? _ = _
      rw [World.cell?, hb]; rfl
  have hb1 := Go.heap_alloc_new (W.alloc (.cells #[.string (ByteArray.mk ⟨x.1⟩), .string (ByteArray.mk ⟨x.2⟩)] 63)) (.cells #[.string (ByteArray.mk ⟨y.1⟩), .string (ByteArray.mk ⟨y.2⟩)] 63)
  have hb0 : ((W.alloc (.cells #[.string (ByteArray.mk ⟨x.1⟩), .string (ByteArray.mk ⟨x.2⟩)] 63)).alloc (.cells #[.string (ByteArray.mk ⟨y.1⟩), .string (ByteArray.mk ⟨y.2⟩)] 63)).heap[W.heap.size]? = some (.cells #[.string (ByteArray.mk ⟨x.1⟩), .string (ByteArray.mk ⟨x.2⟩)] 63) :=
    ((World.grownBy_alloc _ _ none).block _ (Array.getElem?_eq_some_iff.1 (Go.heap_alloc_new W _)).1 (by simp)).trans (Go.heap_alloc_new W _)
  have hgr : Hid (∀ C, ∃ os', (((W.alloc (.cells #[.string (ByteArray.mk ⟨x.1⟩), .string (ByteArray.mk ⟨x.2⟩)] 63)).alloc (.cells #[.string (ByteArray.mk ⟨y.1⟩), .string (ByteArray.mk ⟨y.2⟩)] 63)).alloc C).drew = grow (W.drewN 1) os') := fun C => ⟨_, by rw [alloc_eq_grow, alloc_eq_grow, alloc_eq_grow, grow_grow, grow_grow]; rfl⟩
  have hsz : (W.alloc (.cells #[.string (ByteArray.mk ⟨x.1⟩), .string (ByteArray.mk ⟨x.2⟩)] 63)).heap.size = W.heap.size + 1 := by simp
  rw [hsz] at hb1
  generalize (W.alloc (.cells #[.string (ByteArray.mk ⟨x.1⟩), .string (ByteArray.mk ⟨x.2⟩)] 63)).alloc (.cells #[.string (ByteArray.mk ⟨y.1⟩), .string (ByteArray.mk ⟨y.2⟩)] 63) = W1 at *
  clear hsz
  have q0 : W1.cell? ⟨W.heap.size, 0, none⟩ = some (.string (ByteArray.mk ⟨x.1⟩)) := by rw [World.cell?, hb0]; rfl
  have q1 : W1.cell? ⟨W.heap.size, 1, none⟩ = some (.string (ByteArray.mk ⟨x.2⟩)) := by rw [World.cell?, hb0]; rfl
  have q2 : W1.cell? ⟨W.heap.size + 1, 0, none⟩ = some (.string (ByteArray.mk ⟨y.1⟩)) := by rw [World.cell?, hb1]; rfl
  have q3 : W1.cell? ⟨W.heap.size + 1, 1, none⟩ = some (.string (ByteArray.mk ⟨y.2⟩)) := by rw [World.cell?, hb1]; rfl
  clear hb0 hb1
  generalize ByteArray.mk ⟨x.1⟩ = x1 at *
  generalize ByteArray.mk ⟨x.2⟩ = x2 at *
  generalize ByteArray.mk ⟨y.1⟩ = y1 at *
  generalize ByteArray.mk ⟨y.2⟩ = y2 at *
  generalize hbe : W.heap.size = b0 at *
  clear hbe
  generalize hbf : b0 + 1 = b1 at *
  clear hbf
  go_region_held3 (fun w' => w'.cell? ⟨b0, 0, none⟩ = some (.string x1) ∧ w'.cell? ⟨b0, 1, none⟩ = some (.string x2) ∧ w'.cell? ⟨b1, 0, none⟩ = some (.string y1) ∧ w'.cell? ⟨b1, 1, none⟩ = some (.string y2)) (go_keep)
    (first
      | (go_at_call_of 71 x1; with_reducible refine (HA.out _).mono ?_; rintro e w' ⟨rfl, rfl⟩)
      | (go_at_call_of 71 x2; with_reducible refine (HB.out _).mono ?_; rintro e w' ⟨rfl, rfl⟩)
      | (go_at_call 70; with_reducible refine (HO.out _).mono ?_; rintro e w' ⟨rfl, rfl⟩))
  go_wp2
  go_ret
  exact ⟨rfl, 1, hgr.out _⟩
end Go.Proofs.YtmgbcmogdjhacaaDoor
