/-
  Nfc, Nfd, in one text.
-/
import Derived.Test.YtpglhdnepmcahaaGreatDoorNmE
/- Nfc -/
namespace Go.Proofs.YtpglhdnepmcahaaGreatDoor
open Go.RowKit Go.Shelf Go.Sort

theorem addr_eql (x y : LbT) (w : World) : (binOp .eql 81 (.agg #[.string (ByteArray.mk ⟨x.1⟩), .string (ByteArray.mk ⟨x.2⟩)]) (.agg #[.string (ByteArray.mk ⟨y.1⟩), .string (ByteArray.mk ⟨y.2⟩)])).run Tryz.prog w = .ok (.bool (decide (x = y))) w := by
  simp [go_sem]
  by_cases h1 : x.1 = y.1
  · by_cases h2 : x.2 = y.2
    · have : x = y := Prod.ext h1 h2
      simp [this]
    · have : x ≠ y := fun e => h2 (by rw [e])
      simp [h1, h2, this]
  · have : x ≠ y := fun e => h1 (by rw [e])
    simp [h1, this]
set_option maxRecDepth 8000 in
set_option maxHeartbeats 6400000 in
theorem findL_any (w : World) (gx : Nat) (l : List MkX) (a : LbT) (h : LgM w gx l) :
    Calls Tryz.prog 72 #[.pointer (some ⟨gx, 0, none⟩), addV a] w fun e w' => ∃ p : Nat, e = .returned (.tuple #[.int .i64 (p : Int), .bool (hasM l a)]) ∧ AtE l a p ∧ w.grownBy w' none := by
  obtain ⟨v, hbx, hrow⟩ := h.row
  have hsh : ∀ x ∈ l, (∃ a n c, x.2.1 = .slice a n c) ∧ ∃ a n c, x.2.2 = .slice a n c := fun x hx => by
    obtain ⟨a1, c1, e1, -⟩ := (h.each x hx).1.fir.shape
    obtain ⟨a2, c2, e2, -⟩ := (h.each x hx).1.res.shape
    exact ⟨⟨_, _, _, e1⟩, _, _, _, e2⟩
  have HL := hidJ h
  have hl5 := h.len
  have hgl : gx < w.heap.size := block_lt hbx.cell
  have HW := hidJ (World.grownBy_alloc w (.cells #[.string (ByteArray.mk ⟨a.1⟩), .string (ByteArray.mk ⟨a.2⟩)] 81) none)
  have HN := hidJ (Go.heap_alloc_new w (.cells #[.string (ByteArray.mk ⟨a.1⟩), .string (ByteArray.mk ⟨a.2⟩)] 81))
  have hE := fun W (hW : w.grownBy W none) => bsearchE_any W v l a (hrow.keep hW) h.ris h.len hsh
  obtain ⟨va, vc, rfl⟩ := hrow.shape
  have HBX := hidJ hbx
  have HRow := hidJ hrow
  clear h hrow hsh hbx
  unfold addV at hE
  unfold addV
  obtain ⟨HB, hHB⟩ : ∃ HB : Bool, HB = hasM l a := ⟨_, rfl⟩
  rw [← hHB]
  have HBB := hidJ hHB
  clear hHB
  have HC : Hid (∀ W, (w.alloc (.cells #[.string (ByteArray.mk ⟨a.1⟩), .string (ByteArray.mk ⟨a.2⟩)] 81)).grownBy W none → Calls Tryz.prog 105 #[.slice va l.length vc, .agg #[.string (ByteArray.mk ⟨a.1⟩), .string (ByteArray.mk ⟨a.2⟩)], .func (.func 106) #[] #[]] W fun e w' => ∃ (p : Nat) (b : Bool), e = .returned (.tuple #[.int .i64 (p : Int), .bool b]) ∧ (w'.cell? ⟨gx, 0, none⟩ = some (.slice va l.length vc) ∧ w'.cell? ⟨w.heap.size, 0, none⟩ = some (.string (ByteArray.mk ⟨a.1⟩)) ∧ w'.cell? ⟨w.heap.size, 1, none⟩ = some (.string (ByteArray.mk ⟨a.2⟩))) ∧ Hid (AtE l a p ∧ w.grownBy w' none)) := fun W hW => by
    refine (hE W (gb_none HW.out hW)).mono ?_
    rintro e w' ⟨p, b, q1, q2, q3⟩
    have hk := gb_none (gb_none HW.out hW) q3
    have hk2 := (gb_none hW q3).block w.heap.size (by simp) (by simp)
    refine ⟨p, b, q1, ⟨(World.cell?_of_block (hk.block gx hgl (by simp))).trans HBX.out.cell, ?_, ?_⟩, q2, hk⟩
    · rw [World.cell?, hk2, HN.out]; rfl
    · rw [World.cell?, hk2, HN.out]; rfl
  have HQ : Hid (∀ x : LbT, ∀ W, (binOp .eql 81 (.agg #[.string (ByteArray.mk ⟨x.1⟩), .string (ByteArray.mk ⟨x.2⟩)]) (.agg #[.string (ByteArray.mk ⟨a.1⟩), .string (ByteArray.mk ⟨a.2⟩)])).run Tryz.prog W = .ok (.bool (decide (x = a))) W) := fun x W => addr_eql x a W
  obtain ⟨N, hN⟩ : ∃ N, l.length = N := ⟨_, rfl⟩
  have HNN := hidJ hN
  rw [hN] at HC HBX HRow hl5
  clear hE hN
  have x0 : ∀ C, (w.alloc C).cell? ⟨gx, 0, none⟩ = some (.slice va N vc) := fun C => (World.cell?_of_block ((World.grownBy_alloc w C none).block gx hgl (by simp))).trans HBX.out.cell
  generalize ByteArray.mk ⟨a.1⟩ = ar at *
  generalize ByteArray.mk ⟨a.2⟩ = ak at *
  have y0 : (w.alloc (.cells #[.string ar, .string ak] 81)).cell? ⟨w.heap.size, 0, none⟩ = some (.string ar) := by rw [World.cell?, HN.out]; rfl
  have y1 : (w.alloc (.cells #[.string ar, .string ak] 81)).cell? ⟨w.heap.size, 1, none⟩ = some (.string ak) := by rw [World.cell?, HN.out]; rfl
  have z0 := x0 (.cells #[.string ar, .string ak] 81)
  clear x0
  go_enter Tryz.func72, Tryz.ntmps72
  go_wp2
  generalize w.alloc (.cells #[.string ar, .string ak] 81) = W0 at *
  obtain ⟨b0, hb0⟩ : ∃ b0, b0 = w.heap.size := ⟨_, rfl⟩
  rw [← hb0] at HC y0 y1 ⊢
  clear hb0
  have HD : Hid (W0.grownBy W0.drew none) := gb_drew _ _
  go_region_held3 (fun w' => w'.cell? ⟨gx, 0, none⟩ = some (.slice va N vc) ∧ w'.cell? ⟨b0, 0, none⟩ = some (.string ar) ∧ w'.cell? ⟨b0, 1, none⟩ = some (.string ak)) (go_keep)
    (first | (go_at_call 105; with_reducible refine (HC.out _ HD.out).mono ?_; rintro e w2 ⟨p, b, rfl, ⟨k0, k1, k2⟩, H2⟩))
  clear HC HD y0 y1 z0
  by_cases hp : p < N
  · have hpi : (p : Int) < (N : Int) := by omega
    have hgd : decide (p < N) = true := decide_eq_true hp
    have hgd2 : decide ((p : Int) < (N : Int)) = true := decide_eq_true hpi
    have hpl : p < l.length := by have := HNN.out; omega
    obtain ⟨g, c, e0, -, -, -, d0, d1, -⟩ := (HRow.out.keep H2.out.2).cells (j := p) hpl
    simp only [Value.slice.injEq] at e0
    obtain ⟨rfl, -, rfl⟩ := e0
    have hqq := HQ.out (keyX (l.getD p xZ))
    have HH : Hid (HB = decide (keyX (l.getD p xZ) = a)) := by
      show _ = _
      rw [HBB.out, H2.out.1.has HL.out.ris, decide_eq_true hpl, Bool.true_and]
    clear HQ HBB
    unfold keyX at hqq HH
    dsimp only at hqq
    generalize decide (((l.getD p xZ).1.rcv, (l.getD p xZ).1.key) = a) = q at *
    generalize ByteArray.mk ⟨(l.getD p xZ).1.rcv⟩ = br at *
    generalize ByteArray.mk ⟨(l.getD p xZ).1.key⟩ = bk at *
    go_wp2
    go_region
    go_wp2
    go_ret2
    exact ⟨p, by rw [HH.out]; rfl, H2.out.1, gb_none H2.out.2 (gb_drew _ none)⟩
  · have hpi : ¬ (p : Int) < (N : Int) := by omega
    have hgd : decide (p < N) = false := decide_eq_false hp
    have hgd2 : decide ((p : Int) < (N : Int)) = false := decide_eq_false hpi
    have HH : Hid (HB = false) := by
      show _ = _
      rw [HBB.out, H2.out.1.has HL.out.ris, decide_eq_false (by have := HNN.out; omega), Bool.false_and]
    clear HQ HBB
    go_wp2
    go_region
    go_wp2
    go_ret2
    exact ⟨p, by rw [HH.out]; rfl, H2.out.1, gb_none H2.out.2 (gb_drew _ none)⟩
end Go.Proofs.YtpglhdnepmcahaaGreatDoor

/- Nfd -/
namespace Go.Proofs.YtpglhdnepmcahaaGreatDoor
open Go.RowKit Go.Shelf Go.Sort

theorem set5_cells {W : World} {g : Nat} {t : TypeId} {a b c d e x y z u v : Value} (h : B5 W g t a b c d e) : B5 (set5 W g x y z u v) g t x y z u v := set5_at h
set_option maxRecDepth 8000 in
set_option maxHeartbeats 12800000 in
theorem getL_any (w : World) (gx : Nat) (l : List MkX) (a : LbT) (h : LgM w gx l) :
    Calls Tryz.prog 40 #[.pointer (some ⟨gx, 0, none⟩), addV a] w fun e w' => e = .returned (.tuple #[markX (getM l a), .bool (hasM l a)]) ∧ w.grownBy w' none := by
  obtain ⟨v, hbx, hrow⟩ := h.row
  have hgl : gx < w.heap.size := block_lt hbx.cell
  have HL := hidJ h
  obtain ⟨va, vc, rfl⟩ := hrow.shape
  have HBX := hidJ (And.intro hbx hrow)
  have hl5 := h.len
  clear hbx hrow h
  unfold addV
  have HC : Hid (Calls Tryz.prog 72 #[.pointer (some ⟨gx, 0, none⟩), .agg #[.string (ByteArray.mk ⟨a.1⟩), .string (ByteArray.mk ⟨a.2⟩)]] ((w.alloc (.cells #[.string (ByteArray.mk ⟨a.1⟩), .string (ByteArray.mk ⟨a.2⟩)] 81)).alloc (.cells #[.string ⟨#[]⟩, .string ⟨#[]⟩, .int .i64 0, .slice none 0 0, .slice none 0 0] 34)) fun e w' => ∃ p : Nat, e = .returned (.tuple #[.int .i64 (p : Int), .bool (hasM l a)]) ∧ w'.cell? ⟨gx, 0, none⟩ = some (.slice va l.length vc) ∧ Hid (AtE l a p ∧ w.grownBy w' none ∧ w.heap.size + 2 ≤ w'.heap.size ∧ B5 w' (w.heap.size + 1) 34 (.string ⟨#[]⟩) (.string ⟨#[]⟩) (.int .i64 0) (.slice none 0 0) (.slice none 0 0))) := by
    have k1 := World.grownBy_alloc w (.cells #[.string (ByteArray.mk ⟨a.1⟩), .string (ByteArray.mk ⟨a.2⟩)] 81) none
    have k2 := World.grownBy_alloc (w.alloc (.cells #[.string (ByteArray.mk ⟨a.1⟩), .string (ByteArray.mk ⟨a.2⟩)] 81)) (.cells #[.string ⟨#[]⟩, .string ⟨#[]⟩, .int .i64 0, .slice none 0 0, .slice none 0 0] 34) none
    have hc := findL_any _ gx l a (HL.out.keep (gb_none k1 k2))
    unfold addV at hc
    refine hc.mono ?_
    rintro e w' ⟨p, q1, q2, q3⟩
    have x1 := (B5.new (w.alloc (.cells #[.string (ByteArray.mk ⟨a.1⟩), .string (ByteArray.mk ⟨a.2⟩)] 81)) 34 (.string ⟨#[]⟩) (.string ⟨#[]⟩) (.int .i64 0) (.slice none 0 0) (.slice none 0 0)).keep q3
    have z2 := q3.size
    rw [World.size_alloc] at x1
    rw [World.size_alloc, World.size_alloc] at z2
    have hk := gb_none (gb_none k1 k2) q3
    exact ⟨p, q1, (World.cell?_of_block (hk.block gx hgl (by simp))).trans HBX.out.1.cell, q2, hk, z2, x1⟩
  obtain ⟨HB, hHB⟩ : ∃ HB : Bool, HB = hasM l a := ⟨_, rfl⟩
  rw [← hHB] at HC
  rw [← hHB]
  have HBB := hidJ hHB
  clear hHB
  obtain ⟨N, hN⟩ : ∃ N, l.length = N := ⟨_, rfl⟩
  have HNN := hidJ hN
  rw [hN] at HC HBX hl5
  clear hN
  obtain ⟨RV, hRV⟩ : ∃ RV : Value, RV = markX (getM l a) := ⟨_, rfl⟩
  rw [← hRV]
  have HRV := hidJ hRV
  clear hRV
  generalize ByteArray.mk ⟨a.1⟩ = ar at *
  generalize ByteArray.mk ⟨a.2⟩ = ak at *
  go_enter Tryz.func40, Tryz.ntmps40
  go_wp2_with fail
  refine HC.out.mono ?_
  rintro e w2 ⟨p, rfl, x0, H2⟩
  clear HC
  obtain ⟨i0, i1, i2, i3, i4⟩ := H2.out.2.2.2.cells
  obtain ⟨j0, j1, j2, j3, j4⟩ := H2.out.2.2.2.froz
  cases HB
  · have HR : Hid (RV = .agg #[.string ⟨#[]⟩, .string ⟨#[]⟩, .int .i64 0, .slice none 0 0, .slice none 0 0]) := by
      show RV = _
      rw [HRV.out, getM_none HBB.out.symm]
      rfl
    have hne : ¬ w.heap.size + 1 = w2.heap.size := by have := H2.out.2.2.1; omega
    have hne2 : ¬ w2.heap.size = w.heap.size + 1 := by have := H2.out.2.2.1; omega
    clear HRV HBB
    have HB6 := hidJ (And.intro (H2.out.2.2.2.keep (World.grownBy_alloc w2 (.cells #[.string ⟨#[]⟩, .string ⟨#[]⟩, .int .i64 0, .slice none 0 0, .slice none 0 0] 34) none)) (World.grownBy_alloc w2 (.cells #[.string ⟨#[]⟩, .string ⟨#[]⟩, .int .i64 0, .slice none 0 0, .slice none 0 0] 34) none))
    have HX : Hid (∀ C, B5 (w2.alloc C) (w.heap.size + 1) 34 (.string ⟨#[]⟩) (.string ⟨#[]⟩) (.int .i64 0) (.slice none 0 0) (.slice none 0 0)) := fun C => H2.out.2.2.2.keep (World.grownBy_alloc w2 C none)
    have a0 := fun C => (HX.out C).cells.1
    have a1 := fun C => (HX.out C).cells.2.1
    have a2 := fun C => (HX.out C).cells.2.2.1
    have a3 := fun C => (HX.out C).cells.2.2.2.1
    have a4 := fun C => (HX.out C).cells.2.2.2.2
    have f0 := fun C => (HX.out C).froz.1
    have f1 := fun C => (HX.out C).froz.2.1
    have f2 := fun C => (HX.out C).froz.2.2.1
    have f3 := fun C => (HX.out C).froz.2.2.2.1
    have f4 := fun C => (HX.out C).froz.2.2.2.2
    go_wp2
    have hB := set5_cells (x := .string ⟨#[]⟩) (y := .string ⟨#[]⟩) (z := .int .i64 0) (u := .slice none 0 0) (v := .slice none 0 0) HB6.out.1
    obtain ⟨d0, d1, d2, d3, d4⟩ := hB.cells
    unfold set5 at d0 d1 d2 d3 d4
    refine bodyPost_ret (v := .tuple #[.agg #[.string ⟨#[]⟩, .string ⟨#[]⟩, .int .i64 0, .slice none 0 0, .slice none 0 0], .bool false]) ?_ rfl ?_
    · simp [results, Tryz.f40, go_sem, d0, d1, d2, d3, d4]
    · exact ⟨by rw [HR.out], gb_ch (gb_none H2.out.2.1 HB6.out.2) (set5_ch _ _ _ _ _ _ _) (fun k e => by omega)⟩
  · have hpl : p < l.length ∧ keyX (l.getD p xZ) = a := by
      have := H2.out.1.has HL.out.ris
      rw [← HBB.out] at this
      have := this.symm
      rw [Bool.and_eq_true] at this
      exact ⟨of_decide_eq_true this.1, of_decide_eq_true this.2⟩
    have hpN : p < N := by have := HNN.out; omega
    have hpi : (p : Int) < (N : Int) := by omega
    obtain ⟨g, c, e0, -, -, hgw, -, -, d2, d3, d4, d5, d6⟩ := (HBX.out.2.keep H2.out.2.1).cells (j := p) hpl.1
    simp only [Value.slice.injEq] at e0
    obtain ⟨rfl, -, rfl⟩ := e0
    have hmem : l.getD p xZ ∈ l := by simp [List.getD, hpl.1]
    obtain ⟨fa, fc, ef, -⟩ := (HL.out.each _ hmem).1.fir.shape
    obtain ⟨sa, sc, es, -⟩ := (HL.out.each _ hmem).1.res.shape
    rw [ef] at d5
    rw [es] at d6
    have HR : Hid (RV = .agg #[.string (ByteArray.mk ⟨(l.getD p xZ).1.rcv⟩), .string (ByteArray.mk ⟨(l.getD p xZ).1.key⟩), .int .i64 (l.getD p xZ).1.tim, .slice fa (l.getD p xZ).1.fir.length fc, .slice sa (l.getD p xZ).1.res.length sc]) := by
      show RV = _
      rw [HRV.out, AtE.get HL.out.ris hpl.1 hpl.2]
      unfold markX markV
      rw [ef, es]
    clear HRV HBB ef es hmem
    generalize ByteArray.mk ⟨(l.getD p xZ).1.rcv⟩ = br at *
    generalize ByteArray.mk ⟨(l.getD p xZ).1.key⟩ = bk at *
    generalize (l.getD p xZ).1.tim = tm at *
    generalize (l.getD p xZ).1.fir.length = nf at *
    generalize (l.getD p xZ).1.res.length = ns at *
    go_wp2
    have hB := set5_cells (x := .string br) (y := .string bk) (z := .int .i64 tm) (u := .slice fa nf fc) (v := .slice sa ns sc) H2.out.2.2.2
    obtain ⟨m0, m1, m2, m3, m4⟩ := hB.cells
    unfold set5 at m0 m1 m2 m3 m4
    refine bodyPost_ret (v := .tuple #[.agg #[.string br, .string bk, .int .i64 tm, .slice fa nf fc, .slice sa ns sc], .bool true]) ?_ rfl ?_
    · simp [results, Tryz.f40, go_sem, m0, m1, m2, m3, m4]
    · exact ⟨by rw [HR.out], gb_ch H2.out.2.1 (set5_ch _ _ _ _ _ _ _) (fun k e => by omega)⟩
end Go.Proofs.YtpglhdnepmcahaaGreatDoor
