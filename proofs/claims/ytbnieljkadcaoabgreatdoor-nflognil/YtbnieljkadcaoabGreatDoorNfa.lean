/-
  Addresses compared; an entry's place found: the walks.
-/
import Derived.Test.YtbnieljkadcaoabGreatDoorNf9
import Derived.Deep.QuietTactic
import Derived.BigQuiet
namespace Go.Proofs.YtbnieljkadcaoabGreatDoor
open Go.RowKit Go.Shelf Go.Sort

set_option maxRecDepth 8000 in
set_option maxHeartbeats 3200000 in
theorem compareA_any (W : World) (x y : LbT) :
    Calls Tryz.prog 152 #[.agg #[.string (ByteArray.mk ⟨x.1⟩), .string (ByteArray.mk ⟨x.2⟩)], .agg #[.string (ByteArray.mk ⟨y.1⟩), .string (ByteArray.mk ⟨y.2⟩)]] W fun e w' => e = .returned (.int .i64 (cmpL x y)) ∧ ∃ q os', w' = grow (W.drewN q) os' := by
  have HR : Hid (cmpL x y = if cmpS x.1 y.1 ≠ 0 then cmpS x.1 y.1 else cmpS x.2 y.2) := rfl
  have HA : Hid (∀ w, Calls Tryz.prog 103 #[.string (ByteArray.mk ⟨x.1⟩), .string (ByteArray.mk ⟨y.1⟩)] w fun e w' => e = .returned (.int .i64 (cmpS x.1 y.1)) ∧ w' = w) := fun w => compareS_any w _ _
  have HB : Hid (∀ w, Calls Tryz.prog 103 #[.string (ByteArray.mk ⟨x.2⟩), .string (ByteArray.mk ⟨y.2⟩)] w fun e w' => e = .returned (.int .i64 (cmpS x.2 y.2)) ∧ w' = w) := fun w => compareS_any w _ _
  generalize cmpL x y = r at *
  generalize cmpS x.1 y.1 = r1 at *
  generalize cmpS x.2 y.2 = r2 at *
  go_enter Tryz.func152, Tryz.ntmps152
  go_wp2_with fail
  have HO : Hid (∀ w : World, Calls Tryz.prog 102 #[.slice (some ⟨w.heap.size, 0, none⟩) 2 2] (w.alloc (.cells #[.int .i64 r1, .int .i64 r2] 3)).drew fun e w' => e = .returned (.int .i64 r) ∧ w' = (w.alloc (.cells #[.int .i64 r1, .int .i64 r2] 3)).drew) := fun w => by
    have hb := Go.heap_alloc_new w (.cells #[.int .i64 r1, .int .i64 r2] 3)
    rw [HR.out]
    refine or_any _ _ r1 r2 ?_ ?_
    · show (w.alloc (.cells #[.int .i64 r1, .int .i64 r2] 3)).cell? _ = _
      rw [World.cell?, hb]; rfl
    · show (w.alloc (.cells #[.int .i64 r1, .int .i64 r2] 3)).cell? _ = _
      rw [World.cell?, hb]; rfl
  have hb1 := Go.heap_alloc_new (W.alloc (.cells #[.string (ByteArray.mk ⟨x.1⟩), .string (ByteArray.mk ⟨x.2⟩)] 69)) (.cells #[.string (ByteArray.mk ⟨y.1⟩), .string (ByteArray.mk ⟨y.2⟩)] 69)
  have hb0 : ((W.alloc (.cells #[.string (ByteArray.mk ⟨x.1⟩), .string (ByteArray.mk ⟨x.2⟩)] 69)).alloc (.cells #[.string (ByteArray.mk ⟨y.1⟩), .string (ByteArray.mk ⟨y.2⟩)] 69)).heap[W.heap.size]? = some (.cells #[.string (ByteArray.mk ⟨x.1⟩), .string (ByteArray.mk ⟨x.2⟩)] 69) :=
    ((World.grownBy_alloc _ _ none).block _ (Array.getElem?_eq_some_iff.1 (Go.heap_alloc_new W _)).1 (by simp)).trans (Go.heap_alloc_new W _)
  have hgr : Hid (∀ C, ∃ os', (((W.alloc (.cells #[.string (ByteArray.mk ⟨x.1⟩), .string (ByteArray.mk ⟨x.2⟩)] 69)).alloc (.cells #[.string (ByteArray.mk ⟨y.1⟩), .string (ByteArray.mk ⟨y.2⟩)] 69)).alloc C).drew = grow (W.drewN 1) os') := fun C => ⟨_, by rw [alloc_eq_grow, alloc_eq_grow, alloc_eq_grow, grow_grow, grow_grow]; rfl⟩
  have hsz : (W.alloc (.cells #[.string (ByteArray.mk ⟨x.1⟩), .string (ByteArray.mk ⟨x.2⟩)] 69)).heap.size = W.heap.size + 1 := by simp
  rw [hsz] at hb1
  generalize (W.alloc (.cells #[.string (ByteArray.mk ⟨x.1⟩), .string (ByteArray.mk ⟨x.2⟩)] 69)).alloc (.cells #[.string (ByteArray.mk ⟨y.1⟩), .string (ByteArray.mk ⟨y.2⟩)] 69) = W1 at *
  clear hsz
  have q0 : W1.cell? ⟨W.heap.size, 0, none⟩ = some (.string (ByteArray.mk ⟨x.1⟩)) := by rw [World.cell?, hb0]; rfl
  have q1 : W1.cell? ⟨W.heap.size, 1, none⟩ = some (.string (ByteArray.mk ⟨x.2⟩)) := by rw [World.cell?, hb0]; rfl
  have q2 : W1.cell? ⟨W.heap.size + 1, 0, none⟩ = some (.string (ByteArray.mk ⟨y.1⟩)) := by rw [World.cell?, hb1]; rfl
  have q3 : W1.cell? ⟨W.heap.size + 1, 1, none⟩ = some (.string (ByteArray.mk ⟨y.2⟩)) := by rw [World.cell?, hb1]; rfl
  clear hb0 hb1
  generalize ByteArray.mk ⟨x.1⟩ = x1 at *
  generalize ByteArray.mk ⟨x.2⟩ = x2 at *
  generalize ByteArray.mk ⟨y.1⟩ = y1 at *
  generalize ByteArray.mk ⟨y.2⟩ = y2 at *
  generalize hbe : W.heap.size = b0 at *
  clear hbe
  generalize hbf : b0 + 1 = b1 at *
  clear hbf
  go_region_held3 (fun w' => w'.cell? ⟨b0, 0, none⟩ = some (.string x1) ∧ w'.cell? ⟨b0, 1, none⟩ = some (.string x2) ∧ w'.cell? ⟨b1, 0, none⟩ = some (.string y1) ∧ w'.cell? ⟨b1, 1, none⟩ = some (.string y2)) (go_keep)
    (first
      | (go_at_call_of 103 x1; with_reducible refine (HA.out _).mono ?_; rintro e w' ⟨rfl, rfl⟩)
      | (go_at_call_of 103 x2; with_reducible refine (HB.out _).mono ?_; rintro e w' ⟨rfl, rfl⟩)
      | (go_at_call 102; with_reducible refine (HO.out _).mono ?_; rintro e w' ⟨rfl, rfl⟩))
  go_wp2
  go_ret
  exact ⟨rfl, 1, hgr.out _⟩

/-- a mark with the slices of its lists -/
abbrev MkX := MkR × Value × Value
def keyX (x : MkX) : LbT := (x.1.rcv, x.1.key)
def addV (a : LbT) : Value := .agg #[.string (ByteArray.mk ⟨a.1⟩), .string (ByteArray.mk ⟨a.2⟩)]
def markX (x : MkX) : Value := markV x.1 x.2.1 x.2.2
def entV (x : MkX) : Value := .agg #[.string (ByteArray.mk ⟨x.1.rcv⟩), .string (ByteArray.mk ⟨x.1.key⟩), .string (ByteArray.mk ⟨x.1.rcv⟩), .string (ByteArray.mk ⟨x.1.key⟩), .int .i64 x.1.tim, x.2.1, x.2.2]
set_option maxRecDepth 8000 in
set_option maxHeartbeats 1600000 in
theorem find1_any (w : World) (x : MkX) (a : LbT) (hs : (∃ a n c, x.2.1 = .slice a n c) ∧ ∃ a n c, x.2.2 = .slice a n c) :
    Calls Tryz.prog 74 #[entV x, addV a] w fun e w' => e = .returned (.int .i64 (cmpL (keyX x) a)) ∧ w.grownBy w' none := by
  have HC : Hid (∀ W, w.grownBy W none → Calls Tryz.prog 152 #[addV (keyX x), addV a] W fun e w' => e = .returned (.int .i64 (cmpL (keyX x) a)) ∧ Hid (w.grownBy w' none)) := fun W hW => (compareA_any W (keyX x) a).mono fun e w' ⟨h1, q, os', h2⟩ => ⟨h1, by rw [h2]; exact gb_none hW (grow_gb _ _ _)⟩
  have HE : Hid (∀ C D, w.grownBy ((w.alloc C).alloc D) none) := fun C D => gb_none (World.grownBy_alloc _ _ none) (World.grownBy_alloc _ _ none)
  obtain ⟨⟨fa, fn, fc, hf⟩, sa, sn, sc, hs⟩ := hs
  generalize cmpL (keyX x) a = r at *
  unfold entV
  rw [hf, hs]
  clear hf hs
  unfold addV keyX at HC
  unfold addV
  dsimp only at HC
  generalize ByteArray.mk ⟨x.1.rcv⟩ = br at *
  generalize ByteArray.mk ⟨x.1.key⟩ = bk at *
  generalize ByteArray.mk ⟨a.1⟩ = ar at *
  generalize ByteArray.mk ⟨a.2⟩ = ak at *
  have hm : ∀ w : World, (method 282 69 (.agg #[.string br, .string bk]) "tocsin/nflog.compare").run Tryz.prog w = .ok (152, .agg #[.string br, .string bk]) w := fun _ => by kernel_rfl
  have hna : ∀ w : World, (nilAhead 282 69 (.agg #[.string br, .string bk]) "tocsin/nflog.compare").run Tryz.prog w = .ok (some false) w := fun _ => by kernel_rfl
  go_enter Tryz.func74, Tryz.ntmps74
  go_wp2_with fail
  refine (HC.out _ (HE.out _ _)).mono ?_
  rintro e w1 ⟨rfl, H1⟩
  clear HC HE
  go_wp2
  go_ret
  exact ⟨rfl, H1.out⟩
end Go.Proofs.YtbnieljkadcaoabGreatDoor
