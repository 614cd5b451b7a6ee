/-
  nflog's list: find, get: the walks.
-/
import Derived.Test.YtbnieljkadcaoabGreatDoorNfb
namespace Go.Proofs.YtbnieljkadcaoabGreatDoor
open Go.RowKit Go.Shelf Go.Sort

theorem addr_eql (x y : LbT) (w : World) : (binOp .eql 69 (.agg #[.string (ByteArray.mk ⟨x.1⟩), .string (ByteArray.mk ⟨x.2⟩)]) (.agg #[.string (ByteArray.mk ⟨y.1⟩), .string (ByteArray.mk ⟨y.2⟩)])).run Tryz.prog w = .ok (.bool (decide (x = y))) w := by
  simp [go_sem]
  by_cases h1 : x.1 = y.1
  · by_cases h2 : x.2 = y.2
    · have : x = y := Prod.ext h1 h2
      simp [this]
    · have : x ≠ y := fun e => h2 (by rw [e])
      simp [h1, h2, this]
  · have : x ≠ y := fun e => h1 (by rw [e])
    simp [h1, this]
set_option maxRecDepth 8000 in
set_option maxHeartbeats 6400000 in
theorem findL_any (w : World) (gx : Nat) (l : List MkX) (a : LbT) (h : LgM w gx l) :
    Calls Tryz.prog 47 #[.pointer (some ⟨gx, 0, none⟩), addV a] w fun e w' => ∃ p : Nat, e = .returned (.tuple #[.int .i64 (p : Int), .bool (hasM l a)]) ∧ AtE l a p ∧ w.grownBy w' none := by
  obtain ⟨v, hbx, hrow⟩ := h.row
  have hsh : ∀ x ∈ l, (∃ a n c, x.2.1 = .slice a n c) ∧ ∃ a n c, x.2.2 = .slice a n c := fun x hx => by
    obtain ⟨a1, c1, e1, -⟩ := (h.each x hx).1.fir.shape
    obtain ⟨a2, c2, e2, -⟩ := (h.each x hx).1.res.shape
    exact ⟨⟨_, _, _, e1⟩, _, _, _, e2⟩
  have HL := hidJ h
  have hl5 := h.len
  have hgl : gx < w.heap.size := block_lt hbx.cell
  have HW := hidJ (World.grownBy_alloc w (.cells #[.string (ByteArray.mk ⟨a.1⟩), .string (ByteArray.mk ⟨a.2⟩)] 69) none)
  have HN := hidJ (Go.heap_alloc_new w (.cells #[.string (ByteArray.mk ⟨a.1⟩), .string (ByteArray.mk ⟨a.2⟩)] 69))
  have hE := fun W (hW : w.grownBy W none) => bsearchE_any W v l a (hrow.keep hW) h.ris h.len hsh
  obtain ⟨va, vc, rfl⟩ := hrow.shape
  have HBX := hidJ hbx
  have HRow := hidJ hrow
  clear h hrow hsh hbx
  unfold addV at hE
  unfold addV
  obtain ⟨HB, hHB⟩ : ∃ HB : Bool, HB = hasM l a := ⟨_, rfl⟩
  rw [← hHB]
  have HBB := hidJ hHB
  clear hHB
  have HC : Hid (∀ W, (w.alloc (.cells #[.string (ByteArray.mk ⟨a.1⟩), .string (ByteArray.mk ⟨a.2⟩)] 69)).grownBy W none → Calls Tryz.prog 73 #[.slice va l.length vc, .agg #[.string (ByteArray.mk ⟨a.1⟩), .string (ByteArray.mk ⟨a.2⟩)], .func (.func 74) #[] #[]] W fun e w' => ∃ (p : Nat) (b : Bool), e = .returned (.tuple #[.int .i64 (p : Int), .bool b]) ∧ (w'.cell? ⟨gx, 0, none⟩ = some (.slice va l.length vc) ∧ w'.cell? ⟨w.heap.size, 0, none⟩ = some (.string (ByteArray.mk ⟨a.1⟩)) ∧ w'.cell? ⟨w.heap.size, 1, none⟩ = some (.string (ByteArray.mk ⟨a.2⟩))) ∧ Hid (AtE l a p ∧ w.grownBy w' none)) := fun W hW => by
    refine (hE W (gb_none HW.out hW)).mono ?_
    rintro e w' ⟨p, b, q1, q2, q3⟩
    have hk := gb_none (gb_none HW.out hW) q3
    have hk2 := (gb_none hW q3).block w.heap.size (by simp) (by simp)
    refine ⟨p, b, q1, ⟨(World.cell?_of_block (hk.block gx hgl (by simp))).trans HBX.out.cell, ?_, ?_⟩, q2, hk⟩
    · rw [World.cell?, hk2, HN.out]; rfl
    · rw [World.cell?, hk2, HN.out]; rfl
  have HQ : Hid (∀ x : LbT, ∀ W, (binOp .eql 69 (.agg #[.string (ByteArray.mk ⟨x.1⟩), .string (ByteArray.mk ⟨x.2⟩)]) (.agg #[.string (ByteArray.mk ⟨a.1⟩), .string (ByteArray.mk ⟨a.2⟩)])).run Tryz.prog W = .ok (.bool (decide (x = a))) W) := fun x W => addr_eql x a W
  obtain ⟨N, hN⟩ : ∃ N, l.length = N := ⟨_, rfl⟩
  have HNN := hidJ hN
  rw [hN] at HC HBX HRow hl5
  clear hE hN
  have x0 : ∀ C, (w.alloc C).cell? ⟨gx, 0, none⟩ = some (.slice va N vc) := fun C => (World.cell?_of_block ((World.grownBy_alloc w C none).block gx hgl (by simp))).trans HBX.out.cell
  generalize ByteArray.mk ⟨a.1⟩ = ar at *
  generalize ByteArray.mk ⟨a.2⟩ = ak at *
  have y0 : (w.alloc (.cells #[.string ar, .string ak] 69)).cell? ⟨w.heap.size, 0, none⟩ = some (.string ar) := by rw [World.cell?, HN.out]; rfl
  have y1 : (w.alloc (.cells #[.string ar, .string ak] 69)).cell? ⟨w.heap.size, 1, none⟩ = some (.string ak) := by rw [World.cell?, HN.out]; rfl
  have z0 := x0 (.cells #[.string ar, .string ak] 69)
  clear x0
  go_enter Tryz.func47, Tryz.ntmps47
  go_wp2
  generalize w.alloc (.cells #[.string ar, .string ak] 69) = W0 at *
  obtain ⟨b0, hb0⟩ : ∃ b0, b0 = w.heap.size := ⟨_, rfl⟩
  rw [← hb0] at HC y0 y1 ⊢
  clear hb0
  have HD : Hid (W0.grownBy W0.drew none) := gb_drew _ _
  go_region_held3 (fun w' => w'.cell? ⟨gx, 0, none⟩ = some (.slice va N vc) ∧ w'.cell? ⟨b0, 0, none⟩ = some (.string ar) ∧ w'.cell? ⟨b0, 1, none⟩ = some (.string ak)) (go_keep)
    (first | (go_at_call 73; with_reducible refine (HC.out _ HD.out).mono ?_; rintro e w2 ⟨p, b, rfl, ⟨k0, k1, k2⟩, H2⟩))
  clear HC HD y0 y1 z0
  by_cases hp : p < N
  · have hpi : (p : Int) < (N : Int) := by omega
    have hgd : decide (p < N) = true := decide_eq_true hp
    have hgd2 : decide ((p : Int) < (N : Int)) = true := decide_eq_true hpi
    have hpl : p < l.length := by have := HNN.out; omega
    obtain ⟨g, c, e0, -, -, -, d0, d1, -⟩ := (HRow.out.keep H2.out.2).cells (j := p) hpl
    simp only [Value.slice.injEq] at e0
    obtain ⟨rfl, -, rfl⟩ := e0
    have hqq := HQ.out (keyX (l.getD p xZ))
    have HH : Hid (HB = decide (keyX (l.getD p xZ) = a)) := by
      show _ = _
      rw [HBB.out, H2.out.1.has HL.out.ris, decide_eq_true hpl, Bool.true_and]
    clear HQ HBB
    unfold keyX at hqq HH
    dsimp only at hqq
    generalize decide (((l.getD p xZ).1.rcv, (l.getD p xZ).1.key) = a) = q at *
    generalize ByteArray.mk ⟨(l.getD p xZ).1.rcv⟩ = br at *
    generalize ByteArray.mk ⟨(l.getD p xZ).1.key⟩ = bk at *
    go_wp2
    go_region
    go_wp2
    go_ret2
    exact ⟨p, by rw [HH.out]; rfl, H2.out.1, gb_none H2.out.2 (gb_drew _ none)⟩
  · have hpi : ¬ (p : Int) < (N : Int) := by omega
    have hgd : decide (p < N) = false := decide_eq_false hp
    have hgd2 : decide ((p : Int) < (N : Int)) = false := decide_eq_false hpi
    have HH : Hid (HB = false) := by
      show _ = _
      rw [HBB.out, H2.out.1.has HL.out.ris, decide_eq_false (by have := HNN.out; omega), Bool.false_and]
    clear HQ HBB
    go_wp2
    go_region
    go_wp2
    go_ret2
    exact ⟨p, by rw [HH.out]; rfl, H2.out.1, gb_none H2.out.2 (gb_drew _ none)⟩
end Go.Proofs.YtbnieljkadcaoabGreatDoor
