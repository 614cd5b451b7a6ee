/-
  The longest token at the head of a text: the walk.
-/
import Derived.Test.YtifjdfmmafbhkaaGreatDoorLxR
namespace Go.Proofs.YtifjdfmmafbhkaaGreatDoor
open Go.RowKit

theorem rune_wd (l : LxS) : wdB (dcG l).1 = wdB (byN l 0) ∧ dgB (dcG l).1 = dgB (byN l 0) ∧ ((dcG l).1 = 46 ↔ byN l 0 = 46) ∧ ((dcG l).1 = 34 ↔ byN l 0 = 34) ∧ ((dcG l).1 = 39 ↔ byN l 0 = 39) := by
  rcases rune_byte l with ⟨h1, h2⟩ | ⟨h1, h2⟩
  · rw [h2]
    exact ⟨rfl, rfl, Iff.rfl, Iff.rfl, Iff.rfl⟩
  · refine ⟨?_, ?_, by omega, by omega, by omega⟩
    · rw [Bool.eq_iff_iff, wdB_iff, wdB_iff]; omega
    · rw [Bool.eq_iff_iff, dgB_iff, dgB_iff]; omega
/-- a token and its bytes, as the project answers -/
def cuV (c : Int × LxS × Nat) : Value := .tuple #[tkV (c.1, c.2.1, 0), .int .i64 (c.2.2 : Int)]
set_option maxRecDepth 8000 in
set_option maxHeartbeats 6400000 in
theorem cut_any (w : World) (l : LxS) (hl : l.length ≤ 140737488351232) (hT : U8S w) (hU : UnT w) :
    Calls Tryz.prog 33 #[.string (ByteArray.mk ⟨l⟩)] w fun e w' => e = .returned (cuV (cutW l)) ∧ w.grownBy w' none := by
  have hz : (ByteArray.mk ⟨l⟩).size = l.length := rfl
  have HT := hidJ hT
  have HU := hidJ hU
  have HD := hidJ (fun W h => decodeRune_any W l h)
  have hr := dcG_rune l
  obtain ⟨e1, e2, e3, e4, e5⟩ := rune_wd l
  have HIW : Hid (∀ W, Calls Tryz.prog 46 #[.int .i32 ((dcG l).1 : Int)] W fun e w' => e = .returned (.bool (wdB (byN l 0))) ∧ w' = W) := fun W => by rw [← e1]; exact inWord_any _ (by omega) W
  have HID : Hid (∀ W, Calls Tryz.prog 47 #[.int .i32 ((dcG l).1 : Int)] W fun e w' => e = .returned (.bool (dgB (byN l 0))) ∧ w' = W) := fun W => by rw [← e2]; exact isDigit_any _ (by omega) W
  clear hT hU e1 e2
  have HC := hidJ (show cutW l = if wdB (byN l 0) = true ∧ dgB (byN l 0) = false then (1, l.take (tkN wdB l), tkN wdB l) else if dgB (byN l 0) = true ∨ byN l 0 = 46 then (if nubB l = true then (0, [], 0) else (nukW l, l.take (nucW l), nucW l)) else if byN l 0 = 34 ∨ byN l 0 = 39 then (4, ((strW l).map (·.1)).getD [], ((strW l).map (·.2)).getD 0) else (5, l.take (sgnW l), sgnW l) from rfl)
  generalize cutW l = C at *
  by_cases c1 : wdB (byN l 0) = true ∧ dgB (byN l 0) = false
  · have hC := HC.out
    rw [if_pos c1] at hC
    subst hC
    rw [c1.1] at HIW
    rw [c1.2] at HID
    have HW := hidJ (fun W => wordWidth_any W l (by omega))
    have hn := tkN_le wdB l
    have hx := ext_take l (tkN wdB l)
    generalize l.take (tkN wdB l) = tt at *
    generalize tkN wdB l = n at *
    generalize dcG l = d at *
    obtain ⟨r, wd⟩ := d
    dsimp only at *
    clear e3 e4 e5 HC c1 HU
    go_enter Tryz.func33, Tryz.ntmps33
    go_wp2_with fail
    have H0 := hidJ (World.grownBy_alloc w (.cells #[.int .i64 0, .string ⟨#[]⟩, .int .i64 0] 24) none)
    have c0 : (w.alloc (.cells #[.int .i64 0, .string ⟨#[]⟩, .int .i64 0] 24)).heap[w.heap.size]? = some (.cells #[.int .i64 0, .string ⟨#[]⟩, .int .i64 0] 24 (0, 0)) := alloc_at _ _
    generalize w.alloc (.cells #[.int .i64 0, .string ⟨#[]⟩, .int .i64 0] 24) = W0 at *
    obtain ⟨b, hb⟩ : ∃ b, w.heap.size = b := ⟨_, rfl⟩
    have HBs := hidJ (Nat.le_of_eq hb)
    rw [hb] at c0
    simp only [hb]
    clear hb
    refine (HD.out _ (HT.out.keep H0.out)).mono ?_
    rintro e w1 ⟨rfl, hg1⟩
    have H1 := hidJ (gb_none H0.out hg1)
    have k1 := hidJ (blk_keep c0 hg1)
    clear hg1 c0 H0 HD
    go_wp2_with (first | (go_at_call 46; refine (HIW.out _).mono ?_; rintro e w' ⟨rfl, rfl⟩) | (go_at_call 47; refine (HID.out _).mono ?_; rintro e w' ⟨rfl, rfl⟩))
    refine (HW.out _).mono ?_
    rintro e w2 ⟨rfl, hg2⟩
    have H2 := hidJ (gb_none H1.out hg2)
    have k2 := hidJ (blk_keep k1.out hg2)
    have hS := hidJ (fun x0 x1 x2 => tok_set w2 w b _ _ _ _ k2.out HBs.out H2.out x0 x1 x2)
    obtain ⟨p0, p1, p2, f0, f1, f2⟩ := blk_cells k2.out
    clear hg2 k1 k2 H1 H2
    have hs := hS.out (.int .i64 1) (.string (ByteArray.mk ⟨tt⟩)) (.int .i64 0)
    go_wp2
    obtain ⟨hs1, hs2⟩ := hs
    have d0 := (blk_cells hs1).1
    have d1 := (blk_cells hs1).2.1
    have d2 := (blk_cells hs1).2.2.1
    clear hs1
    generalize World.setCell _ _ _ = W1 at *
    refine bodyPost_ret (v := .tuple #[tkV (1, tt, 0), .int .i64 (n : Int)]) ?_ rfl ?_
    · simp [results, Tryz.f33, go_sem, d0, d1, d2, tkV]
    · exact ⟨rfl, hs2⟩
  · have HC2 := hidJ (HC.out.trans (if_neg c1))
    clear HC
    by_cases c2 : dgB (byN l 0) = true ∨ byN l 0 = 46
    · have hC := HC2.out
      rw [if_pos c2] at hC
      have HNm : Hid (∀ W, UnT W → Calls Tryz.prog 49 #[.string (ByteArray.mk ⟨l⟩)] W fun e w' => e = .returned (.tuple #[.agg #[.int .i64 C.1, .string (ByteArray.mk ⟨C.2.1⟩), .int .i64 0], .int .i64 (C.2.2 : Int)]) ∧ W.grownBy w' none) := fun W h => by
        refine (cutNumber_any W l (by omega) h).mono ?_
        rintro e w' ⟨h1, h2⟩
        refine ⟨?_, h2⟩
        rw [h1, hC]
        by_cases q : nubB l = true
        · rw [if_pos q, if_pos q]; rfl
        · rw [if_neg q, if_neg q]; rfl
      clear hC HC2
      obtain ⟨kn, tt, n⟩ := C
      dsimp only at *
      by_cases c3 : dgB (byN l 0) = true
      · rw [c3] at HID
        rw [dgB_wdB c3] at HIW
        generalize dcG l = d at *
        obtain ⟨r, wd⟩ := d
        dsimp only at *
        clear e3 e4 e5 c1 c2 c3
        go_enter Tryz.func33, Tryz.ntmps33
        go_wp2_with fail
        have H0 := hidJ (World.grownBy_alloc w (.cells #[.int .i64 0, .string ⟨#[]⟩, .int .i64 0] 24) none)
        have c0 : (w.alloc (.cells #[.int .i64 0, .string ⟨#[]⟩, .int .i64 0] 24)).heap[w.heap.size]? = some (.cells #[.int .i64 0, .string ⟨#[]⟩, .int .i64 0] 24 (0, 0)) := alloc_at _ _
        generalize w.alloc (.cells #[.int .i64 0, .string ⟨#[]⟩, .int .i64 0] 24) = W0 at *
        obtain ⟨b, hb⟩ : ∃ b, w.heap.size = b := ⟨_, rfl⟩
        have HBs := hidJ (Nat.le_of_eq hb)
        rw [hb] at c0
        simp only [hb]
        clear hb
        refine (HD.out _ (HT.out.keep H0.out)).mono ?_
        rintro e w1 ⟨rfl, hg1⟩
        have H1 := hidJ (gb_none H0.out hg1)
        have k1 := hidJ (blk_keep c0 hg1)
        clear hg1 c0 H0 HD
        go_wp2_with (first | (go_at_call 46; refine (HIW.out _).mono ?_; rintro e w' ⟨rfl, rfl⟩) | (go_at_call 47; refine (HID.out _).mono ?_; rintro e w' ⟨rfl, rfl⟩))
        refine (HNm.out _ (HU.out.keep H1.out)).mono ?_
        rintro e w2 ⟨rfl, hg2⟩
        have H2 := hidJ (gb_none H1.out hg2)
        have k2 := hidJ (blk_keep k1.out hg2)
        have hS := hidJ (fun x0 x1 x2 => tok_set w2 w b _ _ _ _ k2.out HBs.out H2.out x0 x1 x2)
        obtain ⟨p0, p1, p2, f0, f1, f2⟩ := blk_cells k2.out
        clear hg2 k1 k2 H1 H2
        have hs := hS.out (.int .i64 kn) (.string (ByteArray.mk ⟨tt⟩)) (.int .i64 0)
        go_wp2
        obtain ⟨hs1, hs2⟩ := hs
        have d0 := (blk_cells hs1).1
        have d1 := (blk_cells hs1).2.1
        have d2 := (blk_cells hs1).2.2.1
        clear hs1
        generalize World.setCell _ _ _ = W1 at *
        refine bodyPost_ret (v := .tuple #[tkV (kn, tt, 0), .int .i64 (n : Int)]) ?_ rfl ?_
        · simp [results, Tryz.f33, go_sem, d0, d1, d2, tkV]
        · exact ⟨rfl, hs2⟩
      · have c4 : byN l 0 = 46 := c2.resolve_left c3
        have hr46 : (dcG l).1 = 46 := e3.2 c4
        rw [c4] at HID HIW
        rw [show dgB 46 = false by decide, hr46] at HID
        rw [show wdB 46 = false by decide, hr46] at HIW
        generalize dcG l = d at *
        obtain ⟨r, wd⟩ := d
        dsimp only at *
        subst hr46
        clear e3 e4 e5 c1 c2 c3 c4
        go_enter Tryz.func33, Tryz.ntmps33
        go_wp2_with fail
        have H0 := hidJ (World.grownBy_alloc w (.cells #[.int .i64 0, .string ⟨#[]⟩, .int .i64 0] 24) none)
        have c0 : (w.alloc (.cells #[.int .i64 0, .string ⟨#[]⟩, .int .i64 0] 24)).heap[w.heap.size]? = some (.cells #[.int .i64 0, .string ⟨#[]⟩, .int .i64 0] 24 (0, 0)) := alloc_at _ _
        generalize w.alloc (.cells #[.int .i64 0, .string ⟨#[]⟩, .int .i64 0] 24) = W0 at *
        obtain ⟨b, hb⟩ : ∃ b, w.heap.size = b := ⟨_, rfl⟩
        have HBs := hidJ (Nat.le_of_eq hb)
        rw [hb] at c0
        simp only [hb]
        clear hb
        refine (HD.out _ (HT.out.keep H0.out)).mono ?_
        rintro e w1 ⟨rfl, hg1⟩
        have H1 := hidJ (gb_none H0.out hg1)
        have k1 := hidJ (blk_keep c0 hg1)
        clear hg1 c0 H0 HD
        go_wp2_with (first | (go_at_call 46; refine (HIW.out _).mono ?_; rintro e w' ⟨rfl, rfl⟩) | (go_at_call 47; refine (HID.out _).mono ?_; rintro e w' ⟨rfl, rfl⟩))
        refine (HNm.out _ (HU.out.keep H1.out)).mono ?_
        rintro e w2 ⟨rfl, hg2⟩
        have H2 := hidJ (gb_none H1.out hg2)
        have k2 := hidJ (blk_keep k1.out hg2)
        have hS := hidJ (fun x0 x1 x2 => tok_set w2 w b _ _ _ _ k2.out HBs.out H2.out x0 x1 x2)
        obtain ⟨p0, p1, p2, f0, f1, f2⟩ := blk_cells k2.out
        clear hg2 k1 k2 H1 H2
        have hs := hS.out (.int .i64 kn) (.string (ByteArray.mk ⟨tt⟩)) (.int .i64 0)
        go_wp2
        obtain ⟨hs1, hs2⟩ := hs
        have d0 := (blk_cells hs1).1
        have d1 := (blk_cells hs1).2.1
        have d2 := (blk_cells hs1).2.2.1
        clear hs1
        generalize World.setCell _ _ _ = W1 at *
        refine bodyPost_ret (v := .tuple #[tkV (kn, tt, 0), .int .i64 (n : Int)]) ?_ rfl ?_
        · simp [results, Tryz.f33, go_sem, d0, d1, d2, tkV]
        · exact ⟨rfl, hs2⟩
    · have HC3 := hidJ (HC2.out.trans (if_neg c2))
      have d1 : dgB (byN l 0) = false := Bool.eq_false_iff.2 (fun h => c2 (Or.inl h))
      have d2 : wdB (byN l 0) = false := Bool.eq_false_iff.2 (fun h => c1 ⟨h, d1⟩)
      have d3 : ¬ ((dcG l).1 : Int) = 46 := by have := fun h => c2 (Or.inr (e3.1 h)); omega
      rw [d1] at HID
      rw [d2] at HIW
      clear HC2 e3
      by_cases c3 : byN l 0 = 34 ∨ byN l 0 = 39
      · have hC := HC3.out
        rw [if_pos c3] at hC
        have HSt : Hid (∀ W, U8S W → Calls Tryz.prog 50 #[.string (ByteArray.mk ⟨l⟩)] W fun e w' => e = .returned (.tuple #[.string (ByteArray.mk ⟨C.2.1⟩), .int .i64 (C.2.2 : Int)]) ∧ W.grownBy w' none) := fun W h => by
          rw [hC]
          exact cutString_any W l hl c3 h
        have hC1 : C.1 = 4 := by rw [hC]
        clear hC HC3 d1 d2
        obtain ⟨kn, tt, n⟩ := C
        dsimp only at *
        subst hC1
        have hr2 : (dcG l).1 = 34 ∨ (dcG l).1 = 39 := c3.imp e4.2 e5.2
        generalize dcG l = d at *
        obtain ⟨r, wd⟩ := d
        dsimp only at *
        clear e4 e5 c1 c2 c3
        rcases hr2 with rfl | rfl
        · have h34 : True := trivial
          go_enter Tryz.func33, Tryz.ntmps33
          go_wp2_with fail
          have H0 := hidJ (World.grownBy_alloc w (.cells #[.int .i64 0, .string ⟨#[]⟩, .int .i64 0] 24) none)
          have c0 : (w.alloc (.cells #[.int .i64 0, .string ⟨#[]⟩, .int .i64 0] 24)).heap[w.heap.size]? = some (.cells #[.int .i64 0, .string ⟨#[]⟩, .int .i64 0] 24 (0, 0)) := alloc_at _ _
          generalize w.alloc (.cells #[.int .i64 0, .string ⟨#[]⟩, .int .i64 0] 24) = W0 at *
          obtain ⟨b, hb⟩ : ∃ b, w.heap.size = b := ⟨_, rfl⟩
          have HBs := hidJ (Nat.le_of_eq hb)
          rw [hb] at c0
          simp only [hb]
          clear hb
          refine (HD.out _ (HT.out.keep H0.out)).mono ?_
          rintro e w1 ⟨rfl, hg1⟩
          have H1 := hidJ (gb_none H0.out hg1)
          have k1 := hidJ (blk_keep c0 hg1)
          clear hg1 c0 H0 HD
          go_wp2_with (first | (go_at_call 46; refine (HIW.out _).mono ?_; rintro e w' ⟨rfl, rfl⟩) | (go_at_call 47; refine (HID.out _).mono ?_; rintro e w' ⟨rfl, rfl⟩))
          refine (HSt.out _ (HT.out.keep H1.out)).mono ?_
          rintro e w2 ⟨rfl, hg2⟩
          have H2 := hidJ (gb_none H1.out hg2)
          have k2 := hidJ (blk_keep k1.out hg2)
          have hS := hidJ (fun x0 x1 x2 => tok_set w2 w b _ _ _ _ k2.out HBs.out H2.out x0 x1 x2)
          obtain ⟨p0, p1, p2, f0, f1, f2⟩ := blk_cells k2.out
          clear hg2 k1 k2 H1 H2
          have hs := hS.out (.int .i64 4) (.string (ByteArray.mk ⟨tt⟩)) (.int .i64 0)
          go_wp2
          obtain ⟨hs1, hs2⟩ := hs
          have d0 := (blk_cells hs1).1
          have d1 := (blk_cells hs1).2.1
          have d2 := (blk_cells hs1).2.2.1
          clear hs1
          generalize World.setCell _ _ _ = W1 at *
          refine bodyPost_ret (v := .tuple #[tkV (4, tt, 0), .int .i64 (n : Int)]) ?_ rfl ?_
          · simp [results, Tryz.f33, go_sem, d0, d1, d2, tkV]
          · exact ⟨rfl, hs2⟩
        · have h34 : True := trivial
          go_enter Tryz.func33, Tryz.ntmps33
          go_wp2_with fail
          have H0 := hidJ (World.grownBy_alloc w (.cells #[.int .i64 0, .string ⟨#[]⟩, .int .i64 0] 24) none)
          have c0 : (w.alloc (.cells #[.int .i64 0, .string ⟨#[]⟩, .int .i64 0] 24)).heap[w.heap.size]? = some (.cells #[.int .i64 0, .string ⟨#[]⟩, .int .i64 0] 24 (0, 0)) := alloc_at _ _
          generalize w.alloc (.cells #[.int .i64 0, .string ⟨#[]⟩, .int .i64 0] 24) = W0 at *
          obtain ⟨b, hb⟩ : ∃ b, w.heap.size = b := ⟨_, rfl⟩
          have HBs := hidJ (Nat.le_of_eq hb)
          rw [hb] at c0
          simp only [hb]
          clear hb
          refine (HD.out _ (HT.out.keep H0.out)).mono ?_
          rintro e w1 ⟨rfl, hg1⟩
          have H1 := hidJ (gb_none H0.out hg1)
          have k1 := hidJ (blk_keep c0 hg1)
          clear hg1 c0 H0 HD
          go_wp2_with (first | (go_at_call 46; refine (HIW.out _).mono ?_; rintro e w' ⟨rfl, rfl⟩) | (go_at_call 47; refine (HID.out _).mono ?_; rintro e w' ⟨rfl, rfl⟩))
          refine (HSt.out _ (HT.out.keep H1.out)).mono ?_
          rintro e w2 ⟨rfl, hg2⟩
          have H2 := hidJ (gb_none H1.out hg2)
          have k2 := hidJ (blk_keep k1.out hg2)
          have hS := hidJ (fun x0 x1 x2 => tok_set w2 w b _ _ _ _ k2.out HBs.out H2.out x0 x1 x2)
          obtain ⟨p0, p1, p2, f0, f1, f2⟩ := blk_cells k2.out
          clear hg2 k1 k2 H1 H2
          have hs := hS.out (.int .i64 4) (.string (ByteArray.mk ⟨tt⟩)) (.int .i64 0)
          go_wp2
          obtain ⟨hs1, hs2⟩ := hs
          have d0 := (blk_cells hs1).1
          have d1 := (blk_cells hs1).2.1
          have d2 := (blk_cells hs1).2.2.1
          clear hs1
          generalize World.setCell _ _ _ = W1 at *
          refine bodyPost_ret (v := .tuple #[tkV (4, tt, 0), .int .i64 (n : Int)]) ?_ rfl ?_
          · simp [results, Tryz.f33, go_sem, d0, d1, d2, tkV]
          · exact ⟨rfl, hs2⟩
      · have hC := HC3.out
        rw [if_neg c3] at hC
        subst hC
        have d4 : ¬ ((dcG l).1 : Int) = 34 := by have := fun h => c3 (Or.inl (e4.1 h)); omega
        have d5 : ¬ ((dcG l).1 : Int) = 39 := by have := fun h => c3 (Or.inr (e5.1 h)); omega
        have HSg := hidJ (fun W h => signWidth_any W l (by omega) h)
        have hn := sgnW_le l
        have hx := ext_take l (sgnW l)
        generalize l.take (sgnW l) = tt at *
        generalize sgnW l = n at *
        generalize dcG l = d at *
        obtain ⟨r, wd⟩ := d
        dsimp only at *
        clear e4 e5 c1 c2 c3 d1 d2 HC3
        go_enter Tryz.func33, Tryz.ntmps33
        go_wp2_with fail
        have H0 := hidJ (World.grownBy_alloc w (.cells #[.int .i64 0, .string ⟨#[]⟩, .int .i64 0] 24) none)
        have c0 : (w.alloc (.cells #[.int .i64 0, .string ⟨#[]⟩, .int .i64 0] 24)).heap[w.heap.size]? = some (.cells #[.int .i64 0, .string ⟨#[]⟩, .int .i64 0] 24 (0, 0)) := alloc_at _ _
        generalize w.alloc (.cells #[.int .i64 0, .string ⟨#[]⟩, .int .i64 0] 24) = W0 at *
        obtain ⟨b, hb⟩ : ∃ b, w.heap.size = b := ⟨_, rfl⟩
        have HBs := hidJ (Nat.le_of_eq hb)
        rw [hb] at c0
        simp only [hb]
        clear hb
        refine (HD.out _ (HT.out.keep H0.out)).mono ?_
        rintro e w1 ⟨rfl, hg1⟩
        have H1 := hidJ (gb_none H0.out hg1)
        have k1 := hidJ (blk_keep c0 hg1)
        clear hg1 c0 H0 HD
        go_wp2_with (first | (go_at_call 46; refine (HIW.out _).mono ?_; rintro e w' ⟨rfl, rfl⟩) | (go_at_call 47; refine (HID.out _).mono ?_; rintro e w' ⟨rfl, rfl⟩))
        refine (HSg.out _ (HT.out.keep H1.out)).mono ?_
        rintro e w2 ⟨rfl, hg2⟩
        have H2 := hidJ (gb_none H1.out hg2)
        have k2 := hidJ (blk_keep k1.out hg2)
        have hS := hidJ (fun x0 x1 x2 => tok_set w2 w b _ _ _ _ k2.out HBs.out H2.out x0 x1 x2)
        obtain ⟨p0, p1, p2, f0, f1, f2⟩ := blk_cells k2.out
        clear hg2 k1 k2 H1 H2
        have hs := hS.out (.int .i64 5) (.string (ByteArray.mk ⟨tt⟩)) (.int .i64 0)
        go_wp2
        obtain ⟨hs1, hs2⟩ := hs
        have d0 := (blk_cells hs1).1
        have d1 := (blk_cells hs1).2.1
        have d2 := (blk_cells hs1).2.2.1
        clear hs1
        generalize World.setCell _ _ _ = W1 at *
        refine bodyPost_ret (v := .tuple #[tkV (5, tt, 0), .int .i64 (n : Int)]) ?_ rfl ?_
        · simp [results, Tryz.f33, go_sem, d0, d1, d2, tkV]
        · exact ⟨rfl, hs2⟩
end Go.Proofs.YtifjdfmmafbhkaaGreatDoor
