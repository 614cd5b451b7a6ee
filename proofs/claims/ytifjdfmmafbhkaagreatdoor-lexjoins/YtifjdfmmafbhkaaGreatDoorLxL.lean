/-
  A number or a duration at the head of a text: the walk.
-/
import Derived.Test.YtifjdfmmafbhkaaGreatDoorLxK
namespace Go.Proofs.YtifjdfmmafbhkaaGreatDoor
open Go.RowKit

/-- a token as a value -/
def tkV (t : Tok) : Value := .agg #[.int .i64 t.1, .string (ByteArray.mk ⟨t.2.1⟩), .int .i64 t.2.2]
theorem tkN_pos (p : Nat → Bool) (hp : p 0 = false) (l : LxS) : decide (0 < tkN p l) = p (byN l 0) := by
  cases l with
  | nil => rw [tkN_nil]; exact hp.symm
  | cons c t =>
    rw [tkN_cons]
    show decide (0 < if p c.toNat = true then 1 + tkN p t else 0) = p c.toNat
    cases p c.toNat with
    | false => rfl
    | true => exact decide_eq_true (by rw [if_pos rfl]; omega)
theorem alloc_at (w : World) (o : Obj) : (w.alloc o).heap[w.heap.size]? = some o := heap_alloc_new w o
theorem blk_keep {w w' : World} {b : Nat} {o : Obj} (h : w.heap[b]? = some o) (hg : w.grownBy w' none) : w'.heap[b]? = some o :=
  (hg.block b (Array.getElem?_eq_some_iff.1 h).1 (by simp)).trans h
theorem blk_cells {w : World} {b : Nat} {v0 v1 v2 : Value} {t : TypeId} (h : w.heap[b]? = some (.cells #[v0, v1, v2] t (0, 0))) :
    w.cell? ⟨b, 0, none⟩ = some v0 ∧ w.cell? ⟨b, 1, none⟩ = some v1 ∧ w.cell? ⟨b, 2, none⟩ = some v2 ∧ w.frozen? ⟨b, 0, none⟩ = false ∧ w.frozen? ⟨b, 1, none⟩ = false ∧ w.frozen? ⟨b, 2, none⟩ = false :=
  ⟨by rw [Lib.cell_of_heap h]; rfl, by rw [Lib.cell_of_heap h]; rfl, by rw [Lib.cell_of_heap h]; rfl, Lib.frozen_of_heap h 0, Lib.frozen_of_heap h 1, Lib.frozen_of_heap h 2⟩
/-- the three cells of a token, written -/
theorem tok_set (w w0 : World) (b : Nat) (v0 v1 v2 : Value) (t : TypeId) (h : w.heap[b]? = some (.cells #[v0, v1, v2] t (0, 0))) (hb : w0.heap.size ≤ b) (hg : w0.grownBy w none) (x0 x1 x2 : Value) :
    (((w.setCell ⟨b, 0, none⟩ x0).setCell ⟨b, 1, none⟩ x1).setCell ⟨b, 2, none⟩ x2).heap[b]? = some (.cells #[x0, x1, x2] t (0, 0)) ∧ w0.grownBy (((w.setCell ⟨b, 0, none⟩ x0).setCell ⟨b, 1, none⟩ x1).setCell ⟨b, 2, none⟩ x2) none := by
  have h1 := heap_setCell_same w b 0 _ _ x0 h
  have h2 := heap_setCell_same _ b 1 _ _ x1 h1
  have h3 := heap_setCell_same _ b 2 _ _ x2 h2
  refine ⟨h3, ?_⟩
  have hk : ∀ j, j ≠ b → (((w.setCell ⟨b, 0, none⟩ x0).setCell ⟨b, 1, none⟩ x1).setCell ⟨b, 2, none⟩ x2).heap[j]? = w.heap[j]? := fun j hj => ((Below.heap_setCell _ _ _ _ hj).trans (Below.heap_setCell _ _ _ _ hj)).trans (Below.heap_setCell _ _ _ _ hj)
  exact ⟨hg.os, hg.tape, hg.output, by have := hg.size; simpa using this, fun k hk' hn => (hk k (by omega)).trans (hg.block k hk' hn)⟩
set_option maxRecDepth 8000 in
set_option maxHeartbeats 3200000 in
theorem cutNumber_any (w : World) (l : LxS) (hl : l.length ≤ 1000000000000000000) (hU : UnT w) :
    Calls Tryz.prog 49 #[.string (ByteArray.mk ⟨l⟩)] w fun e w' => e = .returned (if nubB l = true then .tuple #[tkV (0, [], 0), .int .i64 0] else .tuple #[tkV (nukW l, l.take (nucW l), 0), .int .i64 ((nucW l : Nat) : Int)]) ∧ w.grownBy w' none := by
  have hz : (ByteArray.mk ⟨l⟩).size = l.length := rfl
  have hU := hidJ hU
  have HN := hidJ (fun W => numberWidth_any W l hl)
  have HS := hidJ (fun W (h : w.grownBy W none) => cutSpan_any W l hl (hU.out.keep h))
  have HC := hidJ (show nucW l = (if numW l < (spW l).2 then (spW l).2 else numW l) ∧ nukW l = (if numW l < (spW l).2 then 3 else 2) from ⟨rfl, rfl⟩)
  have hnl := numW_le l
  have hsl := spW_le l
  generalize spW l = md at *
  obtain ⟨ms, d⟩ := md
  dsimp only at *
  generalize numW l = n at *
  by_cases c : n < d
  · have ci : (n : Int) < (d : Int) := by omega
    have e1 := HC.out.1
    have e2 := HC.out.2
    rw [if_pos c] at e1 e2
    clear HC c
    obtain ⟨wd, hwd⟩ : ∃ wd, wd = d := ⟨_, rfl⟩
    subst hwd
    have hwl : wd ≤ l.length := by omega
    have hxw := ext_drop l wd
    have hxt := ext_take l wd
    have hlw : (l.drop wd).length ≤ l.length := by rw [List.length_drop]; omega
    have hb0 : byN (l.drop wd) 0 = byN l wd := byN_drop l wd 0
    have hwc : decide (0 < tkN wdB (l.drop wd)) = wdB (byN l wd) := by rw [tkN_pos wdB wdB_zero, hb0]
    have HW := hidJ (fun W => wordWidth_any W (l.drop wd) (by omega))
    have HP : Hid (∀ W, Calls Tryz.prog 53 #[.string (ByteArray.mk ⟨l.drop wd⟩), .string (ByteArray.mk ⟨[46]⟩)] W fun e w' => e = .returned (.bool (decide (byN l wd = 46))) ∧ w' = W) := fun W => by rw [← hb0]; exact prefix1 (l.drop wd) (by omega) 46 (by decide) (by decide) W
    have HB : Hid (nubB l = (decide (0 < tkN wdB (l.drop wd)) || decide (byN l wd = 46))) := by
      show nubB l = _
      rw [hwc]
      unfold nubB
      rw [e1]
    have hlt : (l.take wd).length = wd := by rw [List.length_take]; omega
    clear hb0 hwc
    rw [e1, e2]
    clear e1 e2
    generalize nubB l = B at *
    generalize decide (byN l wd = 46) = D at *
    generalize l.take wd = tt at *
    generalize l.drop wd = tw at *
    generalize tkN wdB tw = ww at *
    go_enter Tryz.func49, Tryz.ntmps49
    go_wp2_with fail
    have H0 := hidJ (World.grownBy_alloc w (.cells #[.int .i64 0, .string ⟨#[]⟩, .int .i64 0] 24) none)
    have c0 : (w.alloc (.cells #[.int .i64 0, .string ⟨#[]⟩, .int .i64 0] 24)).heap[w.heap.size]? = some (.cells #[.int .i64 0, .string ⟨#[]⟩, .int .i64 0] 24 (0, 0)) := alloc_at _ _
    generalize w.alloc (.cells #[.int .i64 0, .string ⟨#[]⟩, .int .i64 0] 24) = W0 at *
    obtain ⟨b, hb⟩ : ∃ b, w.heap.size = b := ⟨_, rfl⟩
    have HBs := hidJ (Nat.le_of_eq hb)
    rw [hb] at c0
    simp only [hb]
    clear hb
    refine (HN.out _).mono ?_
    rintro e w1 ⟨rfl, hg1⟩
    have H1 := hidJ (gb_none H0.out hg1)
    have k1 := hidJ (blk_keep c0 hg1)
    clear hg1 c0 H0 HN
    go_wp2_with fail
    refine (HS.out _ H1.out).mono ?_
    rintro e w2 ⟨rfl, hg2⟩
    have H2 := hidJ (gb_none H1.out hg2)
    have k2 := hidJ (blk_keep k1.out hg2)
    clear hg2 k1 H1 HS
    go_wp2_with fail
    refine (HW.out _).mono ?_
    rintro e w3 ⟨rfl, hg3⟩
    have H3 := hidJ (gb_none H2.out hg3)
    have k3 := hidJ (blk_keep k2.out hg3)
    have hS := hidJ (fun x0 x1 x2 => tok_set w3 w b _ _ _ _ k3.out HBs.out H3.out x0 x1 x2)
    obtain ⟨p0, p1, p2, f0, f1, f2⟩ := blk_cells k3.out
    clear hg3 k2 H2 HW k3 H3
    cases D with
    | false =>
      by_cases c2 : 0 < ww
      · have c2i : (0 : Int) < (ww : Int) := by omega
        have hB : B = true := by rw [HB.out, decide_eq_true c2]; rfl
        subst hB
        have hs := hS.out (.int .i64 0) (.string ⟨#[]⟩) (.int .i64 0)
        go_wp2_with (go_at_call 53; refine (HP.out _).mono ?_; rintro e w' ⟨rfl, rfl⟩)
        obtain ⟨hs1, hs2⟩ := hs
        have d0 := (blk_cells hs1).1
        have d1 := (blk_cells hs1).2.1
        have d2 := (blk_cells hs1).2.2.1
        clear hs1
        generalize World.setCell _ _ _ = W1 at *
        refine bodyPost_ret (v := .tuple #[tkV (0, [], 0), .int .i64 0]) ?_ rfl ?_
        · simp [results, Tryz.f49, go_sem, d0, d1, d2, tkV]
        · exact ⟨rfl, hs2⟩
      · obtain rfl : ww = 0 := by omega
        have hB : B = false := HB.out
        subst hB
        have hs := hS.out (.int .i64 3) (.string (ByteArray.mk ⟨tt⟩)) (.int .i64 0)
        go_wp2_with (go_at_call 53; refine (HP.out _).mono ?_; rintro e w' ⟨rfl, rfl⟩)
        obtain ⟨hs1, hs2⟩ := hs
        have d0 := (blk_cells hs1).1
        have d1 := (blk_cells hs1).2.1
        have d2 := (blk_cells hs1).2.2.1
        clear hs1
        generalize World.setCell _ _ _ = W1 at *
        refine bodyPost_ret (v := .tuple #[tkV (3, tt, 0), .int .i64 (wd : Int)]) ?_ rfl ?_
        · simp [results, Tryz.f49, go_sem, d0, d1, d2, tkV]
        · exact ⟨rfl, hs2⟩
    | true =>
      by_cases c2 : 0 < ww
      · have c2i : (0 : Int) < (ww : Int) := by omega
        have hB : B = true := by rw [HB.out, decide_eq_true c2]; rfl
        subst hB
        have hs := hS.out (.int .i64 0) (.string ⟨#[]⟩) (.int .i64 0)
        go_wp2_with (go_at_call 53; refine (HP.out _).mono ?_; rintro e w' ⟨rfl, rfl⟩)
        obtain ⟨hs1, hs2⟩ := hs
        have d0 := (blk_cells hs1).1
        have d1 := (blk_cells hs1).2.1
        have d2 := (blk_cells hs1).2.2.1
        clear hs1
        generalize World.setCell _ _ _ = W1 at *
        refine bodyPost_ret (v := .tuple #[tkV (0, [], 0), .int .i64 0]) ?_ rfl ?_
        · simp [results, Tryz.f49, go_sem, d0, d1, d2, tkV]
        · exact ⟨rfl, hs2⟩
      · obtain rfl : ww = 0 := by omega
        have hB : B = true := HB.out
        subst hB
        have hs := hS.out (.int .i64 0) (.string ⟨#[]⟩) (.int .i64 0)
        go_wp2_with (go_at_call 53; refine (HP.out _).mono ?_; rintro e w' ⟨rfl, rfl⟩)
        obtain ⟨hs1, hs2⟩ := hs
        have d0 := (blk_cells hs1).1
        have d1 := (blk_cells hs1).2.1
        have d2 := (blk_cells hs1).2.2.1
        clear hs1
        generalize World.setCell _ _ _ = W1 at *
        refine bodyPost_ret (v := .tuple #[tkV (0, [], 0), .int .i64 0]) ?_ rfl ?_
        · simp [results, Tryz.f49, go_sem, d0, d1, d2, tkV]
        · exact ⟨rfl, hs2⟩
  · have ci : ¬ (n : Int) < (d : Int) := by omega
    have e1 := HC.out.1
    have e2 := HC.out.2
    rw [if_neg c] at e1 e2
    clear HC c
    obtain ⟨wd, hwd⟩ : ∃ wd, wd = n := ⟨_, rfl⟩
    subst hwd
    have hwl : wd ≤ l.length := by omega
    have hxw := ext_drop l wd
    have hxt := ext_take l wd
    have hlw : (l.drop wd).length ≤ l.length := by rw [List.length_drop]; omega
    have hb0 : byN (l.drop wd) 0 = byN l wd := byN_drop l wd 0
    have hwc : decide (0 < tkN wdB (l.drop wd)) = wdB (byN l wd) := by rw [tkN_pos wdB wdB_zero, hb0]
    have HW := hidJ (fun W => wordWidth_any W (l.drop wd) (by omega))
    have HP : Hid (∀ W, Calls Tryz.prog 53 #[.string (ByteArray.mk ⟨l.drop wd⟩), .string (ByteArray.mk ⟨[46]⟩)] W fun e w' => e = .returned (.bool (decide (byN l wd = 46))) ∧ w' = W) := fun W => by rw [← hb0]; exact prefix1 (l.drop wd) (by omega) 46 (by decide) (by decide) W
    have HB : Hid (nubB l = (decide (0 < tkN wdB (l.drop wd)) || decide (byN l wd = 46))) := by
      show nubB l = _
      rw [hwc]
      unfold nubB
      rw [e1]
    have hlt : (l.take wd).length = wd := by rw [List.length_take]; omega
    clear hb0 hwc
    rw [e1, e2]
    clear e1 e2
    generalize nubB l = B at *
    generalize decide (byN l wd = 46) = D at *
    generalize l.take wd = tt at *
    generalize l.drop wd = tw at *
    generalize tkN wdB tw = ww at *
    go_enter Tryz.func49, Tryz.ntmps49
    go_wp2_with fail
    have H0 := hidJ (World.grownBy_alloc w (.cells #[.int .i64 0, .string ⟨#[]⟩, .int .i64 0] 24) none)
    have c0 : (w.alloc (.cells #[.int .i64 0, .string ⟨#[]⟩, .int .i64 0] 24)).heap[w.heap.size]? = some (.cells #[.int .i64 0, .string ⟨#[]⟩, .int .i64 0] 24 (0, 0)) := alloc_at _ _
    generalize w.alloc (.cells #[.int .i64 0, .string ⟨#[]⟩, .int .i64 0] 24) = W0 at *
    obtain ⟨b, hb⟩ : ∃ b, w.heap.size = b := ⟨_, rfl⟩
    have HBs := hidJ (Nat.le_of_eq hb)
    rw [hb] at c0
    simp only [hb]
    clear hb
    refine (HN.out _).mono ?_
    rintro e w1 ⟨rfl, hg1⟩
    have H1 := hidJ (gb_none H0.out hg1)
    have k1 := hidJ (blk_keep c0 hg1)
    clear hg1 c0 H0 HN
    go_wp2_with fail
    refine (HS.out _ H1.out).mono ?_
    rintro e w2 ⟨rfl, hg2⟩
    have H2 := hidJ (gb_none H1.out hg2)
    have k2 := hidJ (blk_keep k1.out hg2)
    clear hg2 k1 H1 HS
    go_wp2_with fail
    refine (HW.out _).mono ?_
    rintro e w3 ⟨rfl, hg3⟩
    have H3 := hidJ (gb_none H2.out hg3)
    have k3 := hidJ (blk_keep k2.out hg3)
    have hS := hidJ (fun x0 x1 x2 => tok_set w3 w b _ _ _ _ k3.out HBs.out H3.out x0 x1 x2)
    obtain ⟨p0, p1, p2, f0, f1, f2⟩ := blk_cells k3.out
    clear hg3 k2 H2 HW k3 H3
    cases D with
    | false =>
      by_cases c2 : 0 < ww
      · have c2i : (0 : Int) < (ww : Int) := by omega
        have hB : B = true := by rw [HB.out, decide_eq_true c2]; rfl
        subst hB
        have hs := hS.out (.int .i64 0) (.string ⟨#[]⟩) (.int .i64 0)
        go_wp2_with (go_at_call 53; refine (HP.out _).mono ?_; rintro e w' ⟨rfl, rfl⟩)
        obtain ⟨hs1, hs2⟩ := hs
        have d0 := (blk_cells hs1).1
        have d1 := (blk_cells hs1).2.1
        have d2 := (blk_cells hs1).2.2.1
        clear hs1
        generalize World.setCell _ _ _ = W1 at *
        refine bodyPost_ret (v := .tuple #[tkV (0, [], 0), .int .i64 0]) ?_ rfl ?_
        · simp [results, Tryz.f49, go_sem, d0, d1, d2, tkV]
        · exact ⟨rfl, hs2⟩
      · obtain rfl : ww = 0 := by omega
        have hB : B = false := HB.out
        subst hB
        have hs := hS.out (.int .i64 2) (.string (ByteArray.mk ⟨tt⟩)) (.int .i64 0)
        go_wp2_with (go_at_call 53; refine (HP.out _).mono ?_; rintro e w' ⟨rfl, rfl⟩)
        obtain ⟨hs1, hs2⟩ := hs
        have d0 := (blk_cells hs1).1
        have d1 := (blk_cells hs1).2.1
        have d2 := (blk_cells hs1).2.2.1
        clear hs1
        generalize World.setCell _ _ _ = W1 at *
        refine bodyPost_ret (v := .tuple #[tkV (2, tt, 0), .int .i64 (wd : Int)]) ?_ rfl ?_
        · simp [results, Tryz.f49, go_sem, d0, d1, d2, tkV]
        · exact ⟨rfl, hs2⟩
    | true =>
      by_cases c2 : 0 < ww
      · have c2i : (0 : Int) < (ww : Int) := by omega
        have hB : B = true := by rw [HB.out, decide_eq_true c2]; rfl
        subst hB
        have hs := hS.out (.int .i64 0) (.string ⟨#[]⟩) (.int .i64 0)
        go_wp2_with (go_at_call 53; refine (HP.out _).mono ?_; rintro e w' ⟨rfl, rfl⟩)
        obtain ⟨hs1, hs2⟩ := hs
        have d0 := (blk_cells hs1).1
        have d1 := (blk_cells hs1).2.1
        have d2 := (blk_cells hs1).2.2.1
        clear hs1
        generalize World.setCell _ _ _ = W1 at *
        refine bodyPost_ret (v := .tuple #[tkV (0, [], 0), .int .i64 0]) ?_ rfl ?_
        · simp [results, Tryz.f49, go_sem, d0, d1, d2, tkV]
        · exact ⟨rfl, hs2⟩
      · obtain rfl : ww = 0 := by omega
        have hB : B = true := HB.out
        subst hB
        have hs := hS.out (.int .i64 0) (.string ⟨#[]⟩) (.int .i64 0)
        go_wp2_with (go_at_call 53; refine (HP.out _).mono ?_; rintro e w' ⟨rfl, rfl⟩)
        obtain ⟨hs1, hs2⟩ := hs
        have d0 := (blk_cells hs1).1
        have d1 := (blk_cells hs1).2.1
        have d2 := (blk_cells hs1).2.2.1
        clear hs1
        generalize World.setCell _ _ _ = W1 at *
        refine bodyPost_ret (v := .tuple #[tkV (0, [], 0), .int .i64 0]) ?_ rfl ?_
        · simp [results, Tryz.f49, go_sem, d0, d1, d2, tkV]
        · exact ⟨rfl, hs2⟩
end Go.Proofs.YtifjdfmmafbhkaaGreatDoor
