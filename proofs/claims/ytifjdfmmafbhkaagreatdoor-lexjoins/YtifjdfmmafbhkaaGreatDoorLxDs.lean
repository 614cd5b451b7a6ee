/-
  The document's token at a place that is a number or a duration: the walk.
-/
import Derived.Test.YtifjdfmmafbhkaaGreatDoorLxGH
namespace Go.Proofs.YtifjdfmmafbhkaaGreatDoor
open Go.RowKit

/-- a number at p: its end, its kind, whether what stands behind is out of place -/
theorem nb_words (l : LxS) (p : Nat) (h : dgB (byN l p) = true ∨ byN l p = 46) : (nubB (l.drop p) = true ↔ (p + nucW (l.drop p) = p ∨ wdB (byN l (p + nucW (l.drop p))) = true ∨ byN l (p + nucW (l.drop p)) = 46)) := by
  unfold nubB
  rw [byN_drop, Bool.or_eq_true, decide_eq_true_iff]
  constructor
  · rintro (h | h)
    · exact .inr (.inl h)
    · exact .inr (.inr h)
  · rintro (h1 | h1 | h1)
    · rw [h1]
      rcases h with h | h
      · exact .inl (dgB_wdB h)
      · exact .inr h
    · exact .inl h1
    · exact .inr h1
set_option maxRecDepth 8000 in
set_option maxHeartbeats 12800000 in
theorem refOne_nb (w : World) (l : LxS) (p : Nat) (hl : l.length ≤ 140737488351232) (hp : p < l.length) (hd : dgB (byN l p) = true ∨ byN l p = 46) :
    Calls Tryz.prog 28 #[.string (ByteArray.mk ⟨l⟩), .int .i64 (p : Int)] w fun e w' => OneA (if nubB (l.drop p) = true then (0, [], 0) else (nukW (l.drop p), (l.drop p).take (nucW (l.drop p)), nucW (l.drop p))) p e ∧ w.grownBy w' none := by
  have hz : (ByteArray.mk ⟨l⟩).size = l.length := rfl
  have hpi : (p : Int) < (l.length : Int) := by omega
  obtain ⟨x, hx, hxi⟩ := byte_at l p hp
  have HW := hidJ (nb_words l p hd)
  have HNm := hidJ (fun W => refNumber_any W l p (by omega) (by omega))
  have HSp := hidJ (fun W => refSpan_any W l p (by omega) (by omega))
  have hle := nucW_le (l.drop p)
  rw [List.length_drop] at hle
  have hN1 : nucW (l.drop p) = if numW (l.drop p) < (spW (l.drop p)).2 then (spW (l.drop p)).2 else numW (l.drop p) := rfl
  have hK1 : nukW (l.drop p) = if numW (l.drop p) < (spW (l.drop p)).2 then 3 else 2 := rfl
  obtain ⟨N, hN⟩ : ∃ N, p + nucW (l.drop p) = N := ⟨_, rfl⟩
  have hxt : (ByteArray.mk ⟨l⟩).extract p N = ByteArray.mk ⟨(l.drop p).take (nucW (l.drop p))⟩ := by rw [ext_mk, ← hN, Nat.add_sub_cancel_left]
  rw [hN] at HW
  obtain ⟨N1, hN1e⟩ : ∃ N1, p + numW (l.drop p) = N1 := ⟨_, rfl⟩
  obtain ⟨N2, hN2e⟩ : ∃ N2, p + (spW (l.drop p)).2 = N2 := ⟨_, rfl⟩
  rw [hN1e] at HNm
  rw [hN2e] at HSp
  generalize numW (l.drop p) = nA at *
  generalize (spW (l.drop p)).2 = nB at *
  generalize nukW (l.drop p) = K at *
  generalize hnu : nubB (l.drop p) = NB at *
  clear hnu
  generalize (l.drop p).take (nucW (l.drop p)) = tt at *
  generalize nucW (l.drop p) = n at *
  have hNl : N ≤ l.length := by omega
  have hpN : p ≤ N := by omega
  have hpNi : (p : Int) ≤ (N : Int) := by omega
  have hNli : (N : Int) ≤ (l.length : Int) := by omega
  have HNn := hidJ hN
  have HCs : Hid ((N2 = N ∧ K = 3 ∧ N1 < N2) ∨ (N1 = N ∧ K = 2 ∧ N2 ≤ N1)) := by
    by_cases c : nA < nB
    · rw [if_pos c] at hN1 hK1
      exact .inl ⟨by omega, hK1, by omega⟩
    · rw [if_neg c] at hN1 hK1
      exact .inr ⟨by omega, hK1, by omega⟩
  have hNlt := byN_out l N
  clear hN1 hK1 hN hN1e hN2e hle
  obtain ⟨C, hC⟩ : ∃ C : Int × LxS × Nat, (if NB = true then (0, [], 0) else (K, tt, n)) = C := ⟨_, rfl⟩
  rw [hC]
  have HBad : Hid (NB = true → ∀ (T : Tok) (k : Int), OneA C p (.returned (.tuple #[tkV T, .int .i64 k, .bool false]))) := fun h T k => by rw [← hC, if_pos h]; exact OneA.bad 0 [] p T k
  have HGood : Hid (NB = false → n ≠ 0 → OneA C p (.returned (.tuple #[tkV (K, tt, (p : Int)), .int .i64 (N : Int), .bool true]))) := fun h h0 => by rw [← hC, h, if_neg (by decide)]; exact OneA.good K tt n p _ h0 (by rw [HNn.out])
  clear hC
  rcases hd with hd | hd
  · have HL := hidJ (fun W => refLetter_any x.toNat (by have := x.toNat_lt; omega) W)
    have HD := hidJ (fun W => refDigit_any x.toNat (by have := x.toNat_lt; omega) W)
    rw [show ltB x.toNat = false by rw [hx]; exact lt_dg hd] at HL
    rw [show dgB x.toNat = true by rw [hx]; exact hd] at HD
    have a4 : ¬ (x.toNat : Int) = 34 := by rw [dgB_iff] at hd; omega
    have a5 : ¬ (x.toNat : Int) = 39 := by rw [dgB_iff] at hd; omega
    have b4 : ((x.toNat : Int) == 34) = false := by rw [beq_eq_false_iff_ne]; exact a4
    have b5 : ((x.toNat : Int) == 39) = false := by rw [beq_eq_false_iff_ne]; exact a5
    clear hx hd
    go_enter Tryz.func28, Tryz.ntmps28
    go_wp2_with fail
    have H0 := hidJ (World.grownBy_alloc w (.cells #[.int .i64 0, .string ⟨#[]⟩, .int .i64 0] 24) none)
    have c0 := hidJ (show (w.alloc (.cells #[.int .i64 0, .string ⟨#[]⟩, .int .i64 0] 24)).heap[w.heap.size]? = some (.cells #[.int .i64 0, .string ⟨#[]⟩, .int .i64 0] 24 (0, 0)) from alloc_at _ _)
    generalize w.alloc (.cells #[.int .i64 0, .string ⟨#[]⟩, .int .i64 0] 24) = W0 at *
    obtain ⟨b, hb⟩ : ∃ b, w.heap.size = b := ⟨_, rfl⟩
    have HBs := hidJ (Nat.le_of_eq hb)
    rw [hb] at c0
    simp only [hb]
    clear hb
    refine (HL.out _).mono ?_
    rintro e w1 ⟨rfl, rfl⟩
    go_wp2_with fail
    refine (HD.out _).mono ?_
    rintro e w2 ⟨rfl, hw⟩
    have hw := hw.symm
    subst hw
    clear HD HL
    go_wp2_with fail
    refine (HNm.out _).mono ?_
    rintro e w3 ⟨rfl, hw⟩
    have hw := hw.symm
    subst hw
    clear HNm
    go_wp2_with fail
    refine (HSp.out _).mono ?_
    rintro e w3 ⟨rfl, hg3⟩
    have H2 := hidJ (gb_none H0.out hg3)
    have k2 := hidJ (blk_keep c0.out hg3)
    clear hg3 H0 c0 HSp
    rcases HCs.out with ⟨hc1, hc2, hc3⟩ | ⟨hc1, hc2, hc3⟩
    · subst hc1
      subst hc2
      have hc3i : (N1 : Int) < (N2 : Int) := by omega
      clear hc3 HCs
      by_cases e0 : N2 = p
      · have HF := hidJ (HBad.out (HW.out.2 (.inl e0)))
        have e0i : (N2 : Int) = (p : Int) := by omega
        have e0j : ((N2 : Int) == (p : Int)) = true := by rw [beq_iff_eq]; exact e0i
        clear HBad HGood HW
        as_aux_lemma =>
          have hS := hidJ (fun x0 x1 x2 => tok_set w3 w b _ _ _ _ k2.out HBs.out H2.out x0 x1 x2)
          obtain ⟨p0, p1, p2, f0, f1, f2⟩ := blk_cells k2.out
          clear k2 H2
          have hs := hS.out (.int .i64 0) (.string ⟨#[]⟩) (.int .i64 0)
          go_wp2
          obtain ⟨hs1, hs2⟩ := hs
          have d0 := (blk_cells hs1).1
          have d1 := (blk_cells hs1).2.1
          have d2 := (blk_cells hs1).2.2.1
          clear hs1
          generalize World.setCell _ _ _ = W9 at *
          refine bodyPost_ret (v := .tuple #[tkV (0, [], 0), .int .i64 0, .bool false]) ?_ rfl ?_
          · simp [results, Tryz.f28, go_sem, d0, d1, d2, tkV]
          · exact ⟨HF.out (0, [], 0) 0, hs2⟩
      · have e0i : ¬ (N2 : Int) = (p : Int) := by omega
        have e0j : ((N2 : Int) == (p : Int)) = false := by rw [beq_eq_false_iff_ne]; exact e0i
        have hn0 : n ≠ 0 := by have := HNn.out; omega
        by_cases hlN : N2 < l.length
        · have hlNi : (N2 : Int) < (l.length : Int) := by omega
          obtain ⟨y, hy, hyi⟩ := byte_at l N2 hlN
          have HLy := hidJ (fun W => refLetter_any y.toNat (by have := y.toNat_lt; omega) W)
          have HDy := hidJ (fun W => refDigit_any y.toNat (by have := y.toNat_lt; omega) W)
          cases hc1 : ltB y.toNat with
          | true =>
            have HF := hidJ (HBad.out (HW.out.2 (.inr (.inl (by rw [wdB_lt, ← hy, hc1]; rfl)))))
            rw [hc1] at HLy
            clear HBad HGood HW hy hc1 HDy hNlt
            as_aux_lemma =>
              go_wp2_with fail
              refine (HLy.out _).mono ?_
              rintro e w4 ⟨rfl, hw⟩
              have hw := hw.symm
              subst hw
              have hS := hidJ (fun x0 x1 x2 => tok_set w3 w b _ _ _ _ k2.out HBs.out H2.out x0 x1 x2)
              obtain ⟨p0, p1, p2, f0, f1, f2⟩ := blk_cells k2.out
              clear k2 H2
              have hs := hS.out (.int .i64 0) (.string ⟨#[]⟩) (.int .i64 0)
              go_wp2
              obtain ⟨hs1, hs2⟩ := hs
              have d0 := (blk_cells hs1).1
              have d1 := (blk_cells hs1).2.1
              have d2 := (blk_cells hs1).2.2.1
              clear hs1
              generalize World.setCell _ _ _ = W9 at *
              refine bodyPost_ret (v := .tuple #[tkV (0, [], 0), .int .i64 0, .bool false]) ?_ rfl ?_
              · simp [results, Tryz.f28, go_sem, d0, d1, d2, tkV]
              · exact ⟨HF.out (0, [], 0) 0, hs2⟩
          | false =>
            rw [hc1] at HLy
            cases hc2 : dgB y.toNat with
            | true =>
              have HF := hidJ (HBad.out (HW.out.2 (.inr (.inl (by rw [wdB_lt, ← hy, hc1, hc2]; rfl)))))
              rw [hc2] at HDy
              clear HBad HGood HW hy hc1 hc2 hNlt
              as_aux_lemma =>
                go_wp2_with fail
                refine (HLy.out _).mono ?_
                rintro e w4 ⟨rfl, hw⟩
                have hw := hw.symm
                subst hw
                go_wp2_with fail
                refine (HDy.out _).mono ?_
                rintro e w4 ⟨rfl, hw⟩
                have hw := hw.symm
                subst hw
                have hS := hidJ (fun x0 x1 x2 => tok_set w3 w b _ _ _ _ k2.out HBs.out H2.out x0 x1 x2)
                obtain ⟨p0, p1, p2, f0, f1, f2⟩ := blk_cells k2.out
                clear k2 H2
                have hs := hS.out (.int .i64 0) (.string ⟨#[]⟩) (.int .i64 0)
                go_wp2
                obtain ⟨hs1, hs2⟩ := hs
                have d0 := (blk_cells hs1).1
                have d1 := (blk_cells hs1).2.1
                have d2 := (blk_cells hs1).2.2.1
                clear hs1
                generalize World.setCell _ _ _ = W9 at *
                refine bodyPost_ret (v := .tuple #[tkV (0, [], 0), .int .i64 0, .bool false]) ?_ rfl ?_
                · simp [results, Tryz.f28, go_sem, d0, d1, d2, tkV]
                · exact ⟨HF.out (0, [], 0) 0, hs2⟩
            | false =>
              rw [hc2] at HDy
              by_cases hc3 : y.toNat = 46
              · have HF := hidJ (HBad.out (HW.out.2 (.inr (.inr (by rw [← hy, hc3])))))
                have HLz := hidJ (fun W => show Calls Tryz.prog 37 #[.int .u8 (46 : Int)] W fun e w' => e = .returned (.bool false) ∧ w' = W from refLetter_any 46 (by decide) W)
                have HDz := hidJ (fun W => show Calls Tryz.prog 38 #[.int .u8 (46 : Int)] W fun e w' => e = .returned (.bool false) ∧ w' = W from refDigit_any 46 (by decide) W)
                have hyj : (y.toNat : Int) = 46 := by omega
                clear HBad HGood HW hy hc1 hc2 hNlt HLy HDy hc3
                as_aux_lemma =>
                  go_wp2_with fail
                  refine (HLz.out _).mono ?_
                  rintro e w4 ⟨rfl, hw⟩
                  have hw := hw.symm
                  subst hw
                  go_wp2_with fail
                  refine (HDz.out _).mono ?_
                  rintro e w4 ⟨rfl, hw⟩
                  have hw := hw.symm
                  subst hw
                  have hS := hidJ (fun x0 x1 x2 => tok_set w3 w b _ _ _ _ k2.out HBs.out H2.out x0 x1 x2)
                  obtain ⟨p0, p1, p2, f0, f1, f2⟩ := blk_cells k2.out
                  clear k2 H2
                  have hs := hS.out (.int .i64 0) (.string ⟨#[]⟩) (.int .i64 0)
                  go_wp2
                  obtain ⟨hs1, hs2⟩ := hs
                  have d0 := (blk_cells hs1).1
                  have d1 := (blk_cells hs1).2.1
                  have d2 := (blk_cells hs1).2.2.1
                  clear hs1
                  generalize World.setCell _ _ _ = W9 at *
                  refine bodyPost_ret (v := .tuple #[tkV (0, [], 0), .int .i64 0, .bool false]) ?_ rfl ?_
                  · simp [results, Tryz.f28, go_sem, d0, d1, d2, tkV]
                  · exact ⟨HF.out (0, [], 0) 0, hs2⟩
              · have HF := hidJ (HGood.out (by
                  rw [Bool.eq_false_iff]
                  intro e
                  rcases HW.out.1 e with h | h | h
                  · exact e0 h
                  · rw [wdB_lt, ← hy, hc1, hc2] at h; cases h
                  · exact hc3 (by rw [hy, h])) hn0)
                have hyj : ¬ (y.toNat : Int) = 46 := by omega
                have hyk : ((y.toNat : Int) == 46) = false := by rw [beq_eq_false_iff_ne]; exact hyj
                clear HBad HGood HW hy hc1 hc2 hNlt hc3 hn0
                as_aux_lemma =>
                  go_wp2_with fail
                  refine (HLy.out _).mono ?_
                  rintro e w4 ⟨rfl, hw⟩
                  have hw := hw.symm
                  subst hw
                  go_wp2_with fail
                  refine (HDy.out _).mono ?_
                  rintro e w4 ⟨rfl, hw⟩
                  have hw := hw.symm
                  subst hw
                  have hS := hidJ (fun x0 x1 x2 => tok_set w3 w b _ _ _ _ k2.out HBs.out H2.out x0 x1 x2)
                  obtain ⟨p0, p1, p2, f0, f1, f2⟩ := blk_cells k2.out
                  clear k2 H2
                  have hs := hS.out (.int .i64 3) (.string (ByteArray.mk ⟨tt⟩)) (.int .i64 (p : Int))
                  go_wp2
                  obtain ⟨hs1, hs2⟩ := hs
                  have d0 := (blk_cells hs1).1
                  have d1 := (blk_cells hs1).2.1
                  have d2 := (blk_cells hs1).2.2.1
                  clear hs1
                  generalize World.setCell _ _ _ = W9 at *
                  refine bodyPost_ret (v := .tuple #[tkV (3, tt, (p : Int)), .int .i64 (N2 : Int), .bool true]) ?_ rfl ?_
                  · simp [results, Tryz.f28, go_sem, d0, d1, d2, tkV]
                  · exact ⟨HF.out, hs2⟩
        · have hlNi : ¬ (N2 : Int) < (l.length : Int) := by omega
          have HF := hidJ (HGood.out (by
            rw [Bool.eq_false_iff]
            intro e
            have hb := hNlt (by omega)
            rcases HW.out.1 e with h | h | h
            · exact e0 h
            · rw [hb] at h; cases h
            · rw [hb] at h; cases h) hn0)
          clear HBad HGood HW hNlt hn0
          as_aux_lemma =>
            have hS := hidJ (fun x0 x1 x2 => tok_set w3 w b _ _ _ _ k2.out HBs.out H2.out x0 x1 x2)
            obtain ⟨p0, p1, p2, f0, f1, f2⟩ := blk_cells k2.out
            clear k2 H2
            have hs := hS.out (.int .i64 3) (.string (ByteArray.mk ⟨tt⟩)) (.int .i64 (p : Int))
            go_wp2
            obtain ⟨hs1, hs2⟩ := hs
            have d0 := (blk_cells hs1).1
            have d1 := (blk_cells hs1).2.1
            have d2 := (blk_cells hs1).2.2.1
            clear hs1
            generalize World.setCell _ _ _ = W9 at *
            refine bodyPost_ret (v := .tuple #[tkV (3, tt, (p : Int)), .int .i64 (N2 : Int), .bool true]) ?_ rfl ?_
            · simp [results, Tryz.f28, go_sem, d0, d1, d2, tkV]
            · exact ⟨HF.out, hs2⟩
    · subst hc1
      subst hc2
      have hc3i : ¬ (N1 : Int) < (N2 : Int) := by omega
      clear hc3 HCs
      by_cases e0 : N1 = p
      · have HF := hidJ (HBad.out (HW.out.2 (.inl e0)))
        have e0i : (N1 : Int) = (p : Int) := by omega
        have e0j : ((N1 : Int) == (p : Int)) = true := by rw [beq_iff_eq]; exact e0i
        clear HBad HGood HW
        as_aux_lemma =>
          have hS := hidJ (fun x0 x1 x2 => tok_set w3 w b _ _ _ _ k2.out HBs.out H2.out x0 x1 x2)
          obtain ⟨p0, p1, p2, f0, f1, f2⟩ := blk_cells k2.out
          clear k2 H2
          have hs := hS.out (.int .i64 0) (.string ⟨#[]⟩) (.int .i64 0)
          go_wp2
          obtain ⟨hs1, hs2⟩ := hs
          have d0 := (blk_cells hs1).1
          have d1 := (blk_cells hs1).2.1
          have d2 := (blk_cells hs1).2.2.1
          clear hs1
          generalize World.setCell _ _ _ = W9 at *
          refine bodyPost_ret (v := .tuple #[tkV (0, [], 0), .int .i64 0, .bool false]) ?_ rfl ?_
          · simp [results, Tryz.f28, go_sem, d0, d1, d2, tkV]
          · exact ⟨HF.out (0, [], 0) 0, hs2⟩
      · have e0i : ¬ (N1 : Int) = (p : Int) := by omega
        have e0j : ((N1 : Int) == (p : Int)) = false := by rw [beq_eq_false_iff_ne]; exact e0i
        have hn0 : n ≠ 0 := by have := HNn.out; omega
        by_cases hlN : N1 < l.length
        · have hlNi : (N1 : Int) < (l.length : Int) := by omega
          obtain ⟨y, hy, hyi⟩ := byte_at l N1 hlN
          have HLy := hidJ (fun W => refLetter_any y.toNat (by have := y.toNat_lt; omega) W)
          have HDy := hidJ (fun W => refDigit_any y.toNat (by have := y.toNat_lt; omega) W)
          cases hc1 : ltB y.toNat with
          | true =>
            have HF := hidJ (HBad.out (HW.out.2 (.inr (.inl (by rw [wdB_lt, ← hy, hc1]; rfl)))))
            rw [hc1] at HLy
            clear HBad HGood HW hy hc1 HDy hNlt
            as_aux_lemma =>
              go_wp2_with fail
              refine (HLy.out _).mono ?_
              rintro e w4 ⟨rfl, hw⟩
              have hw := hw.symm
              subst hw
              have hS := hidJ (fun x0 x1 x2 => tok_set w3 w b _ _ _ _ k2.out HBs.out H2.out x0 x1 x2)
              obtain ⟨p0, p1, p2, f0, f1, f2⟩ := blk_cells k2.out
              clear k2 H2
              have hs := hS.out (.int .i64 0) (.string ⟨#[]⟩) (.int .i64 0)
              go_wp2
              obtain ⟨hs1, hs2⟩ := hs
              have d0 := (blk_cells hs1).1
              have d1 := (blk_cells hs1).2.1
              have d2 := (blk_cells hs1).2.2.1
              clear hs1
              generalize World.setCell _ _ _ = W9 at *
              refine bodyPost_ret (v := .tuple #[tkV (0, [], 0), .int .i64 0, .bool false]) ?_ rfl ?_
              · simp [results, Tryz.f28, go_sem, d0, d1, d2, tkV]
              · exact ⟨HF.out (0, [], 0) 0, hs2⟩
          | false =>
            rw [hc1] at HLy
            cases hc2 : dgB y.toNat with
            | true =>
              have HF := hidJ (HBad.out (HW.out.2 (.inr (.inl (by rw [wdB_lt, ← hy, hc1, hc2]; rfl)))))
              rw [hc2] at HDy
              clear HBad HGood HW hy hc1 hc2 hNlt
              as_aux_lemma =>
                go_wp2_with fail
                refine (HLy.out _).mono ?_
                rintro e w4 ⟨rfl, hw⟩
                have hw := hw.symm
                subst hw
                go_wp2_with fail
                refine (HDy.out _).mono ?_
                rintro e w4 ⟨rfl, hw⟩
                have hw := hw.symm
                subst hw
                have hS := hidJ (fun x0 x1 x2 => tok_set w3 w b _ _ _ _ k2.out HBs.out H2.out x0 x1 x2)
                obtain ⟨p0, p1, p2, f0, f1, f2⟩ := blk_cells k2.out
                clear k2 H2
                have hs := hS.out (.int .i64 0) (.string ⟨#[]⟩) (.int .i64 0)
                go_wp2
                obtain ⟨hs1, hs2⟩ := hs
                have d0 := (blk_cells hs1).1
                have d1 := (blk_cells hs1).2.1
                have d2 := (blk_cells hs1).2.2.1
                clear hs1
                generalize World.setCell _ _ _ = W9 at *
                refine bodyPost_ret (v := .tuple #[tkV (0, [], 0), .int .i64 0, .bool false]) ?_ rfl ?_
                · simp [results, Tryz.f28, go_sem, d0, d1, d2, tkV]
                · exact ⟨HF.out (0, [], 0) 0, hs2⟩
            | false =>
              rw [hc2] at HDy
              by_cases hc3 : y.toNat = 46
              · have HF := hidJ (HBad.out (HW.out.2 (.inr (.inr (by rw [← hy, hc3])))))
                have HLz := hidJ (fun W => show Calls Tryz.prog 37 #[.int .u8 (46 : Int)] W fun e w' => e = .returned (.bool false) ∧ w' = W from refLetter_any 46 (by decide) W)
                have HDz := hidJ (fun W => show Calls Tryz.prog 38 #[.int .u8 (46 : Int)] W fun e w' => e = .returned (.bool false) ∧ w' = W from refDigit_any 46 (by decide) W)
                have hyj : (y.toNat : Int) = 46 := by omega
                clear HBad HGood HW hy hc1 hc2 hNlt HLy HDy hc3
                as_aux_lemma =>
                  go_wp2_with fail
                  refine (HLz.out _).mono ?_
                  rintro e w4 ⟨rfl, hw⟩
                  have hw := hw.symm
                  subst hw
                  go_wp2_with fail
                  refine (HDz.out _).mono ?_
                  rintro e w4 ⟨rfl, hw⟩
                  have hw := hw.symm
                  subst hw
                  have hS := hidJ (fun x0 x1 x2 => tok_set w3 w b _ _ _ _ k2.out HBs.out H2.out x0 x1 x2)
                  obtain ⟨p0, p1, p2, f0, f1, f2⟩ := blk_cells k2.out
                  clear k2 H2
                  have hs := hS.out (.int .i64 0) (.string ⟨#[]⟩) (.int .i64 0)
                  go_wp2
                  obtain ⟨hs1, hs2⟩ := hs
                  have d0 := (blk_cells hs1).1
                  have d1 := (blk_cells hs1).2.1
                  have d2 := (blk_cells hs1).2.2.1
                  clear hs1
                  generalize World.setCell _ _ _ = W9 at *
                  refine bodyPost_ret (v := .tuple #[tkV (0, [], 0), .int .i64 0, .bool false]) ?_ rfl ?_
                  · simp [results, Tryz.f28, go_sem, d0, d1, d2, tkV]
                  · exact ⟨HF.out (0, [], 0) 0, hs2⟩
              · have HF := hidJ (HGood.out (by
                  rw [Bool.eq_false_iff]
                  intro e
                  rcases HW.out.1 e with h | h | h
                  · exact e0 h
                  · rw [wdB_lt, ← hy, hc1, hc2] at h; cases h
                  · exact hc3 (by rw [hy, h])) hn0)
                have hyj : ¬ (y.toNat : Int) = 46 := by omega
                have hyk : ((y.toNat : Int) == 46) = false := by rw [beq_eq_false_iff_ne]; exact hyj
                clear HBad HGood HW hy hc1 hc2 hNlt hc3 hn0
                as_aux_lemma =>
                  go_wp2_with fail
                  refine (HLy.out _).mono ?_
                  rintro e w4 ⟨rfl, hw⟩
                  have hw := hw.symm
                  subst hw
                  go_wp2_with fail
                  refine (HDy.out _).mono ?_
                  rintro e w4 ⟨rfl, hw⟩
                  have hw := hw.symm
                  subst hw
                  have hS := hidJ (fun x0 x1 x2 => tok_set w3 w b _ _ _ _ k2.out HBs.out H2.out x0 x1 x2)
                  obtain ⟨p0, p1, p2, f0, f1, f2⟩ := blk_cells k2.out
                  clear k2 H2
                  have hs := hS.out (.int .i64 2) (.string (ByteArray.mk ⟨tt⟩)) (.int .i64 (p : Int))
                  go_wp2
                  obtain ⟨hs1, hs2⟩ := hs
                  have d0 := (blk_cells hs1).1
                  have d1 := (blk_cells hs1).2.1
                  have d2 := (blk_cells hs1).2.2.1
                  clear hs1
                  generalize World.setCell _ _ _ = W9 at *
                  refine bodyPost_ret (v := .tuple #[tkV (2, tt, (p : Int)), .int .i64 (N1 : Int), .bool true]) ?_ rfl ?_
                  · simp [results, Tryz.f28, go_sem, d0, d1, d2, tkV]
                  · exact ⟨HF.out, hs2⟩
        · have hlNi : ¬ (N1 : Int) < (l.length : Int) := by omega
          have HF := hidJ (HGood.out (by
            rw [Bool.eq_false_iff]
            intro e
            have hb := hNlt (by omega)
            rcases HW.out.1 e with h | h | h
            · exact e0 h
            · rw [hb] at h; cases h
            · rw [hb] at h; cases h) hn0)
          clear HBad HGood HW hNlt hn0
          as_aux_lemma =>
            have hS := hidJ (fun x0 x1 x2 => tok_set w3 w b _ _ _ _ k2.out HBs.out H2.out x0 x1 x2)
            obtain ⟨p0, p1, p2, f0, f1, f2⟩ := blk_cells k2.out
            clear k2 H2
            have hs := hS.out (.int .i64 2) (.string (ByteArray.mk ⟨tt⟩)) (.int .i64 (p : Int))
            go_wp2
            obtain ⟨hs1, hs2⟩ := hs
            have d0 := (blk_cells hs1).1
            have d1 := (blk_cells hs1).2.1
            have d2 := (blk_cells hs1).2.2.1
            clear hs1
            generalize World.setCell _ _ _ = W9 at *
            refine bodyPost_ret (v := .tuple #[tkV (2, tt, (p : Int)), .int .i64 (N1 : Int), .bool true]) ?_ rfl ?_
            · simp [results, Tryz.f28, go_sem, d0, d1, d2, tkV]
            · exact ⟨HF.out, hs2⟩
  · have HL := hidJ (fun W => show Calls Tryz.prog 37 #[.int .u8 (46 : Int)] W fun e w' => e = .returned (.bool false) ∧ w' = W from refLetter_any 46 (by decide) W)
    have HD := hidJ (fun W => show Calls Tryz.prog 38 #[.int .u8 (46 : Int)] W fun e w' => e = .returned (.bool false) ∧ w' = W from refDigit_any 46 (by decide) W)
    have hxj : (x.toNat : Int) = 46 := by omega
    clear hx hd
    go_enter Tryz.func28, Tryz.ntmps28
    go_wp2_with fail
    have H0 := hidJ (World.grownBy_alloc w (.cells #[.int .i64 0, .string ⟨#[]⟩, .int .i64 0] 24) none)
    have c0 := hidJ (show (w.alloc (.cells #[.int .i64 0, .string ⟨#[]⟩, .int .i64 0] 24)).heap[w.heap.size]? = some (.cells #[.int .i64 0, .string ⟨#[]⟩, .int .i64 0] 24 (0, 0)) from alloc_at _ _)
    generalize w.alloc (.cells #[.int .i64 0, .string ⟨#[]⟩, .int .i64 0] 24) = W0 at *
    obtain ⟨b, hb⟩ : ∃ b, w.heap.size = b := ⟨_, rfl⟩
    have HBs := hidJ (Nat.le_of_eq hb)
    rw [hb] at c0
    simp only [hb]
    clear hb
    refine (HL.out _).mono ?_
    rintro e w1 ⟨rfl, rfl⟩
    go_wp2_with fail
    refine (HD.out _).mono ?_
    rintro e w2 ⟨rfl, hw⟩
    have hw := hw.symm
    subst hw
    clear HD HL
    go_wp2_with fail
    refine (HNm.out _).mono ?_
    rintro e w3 ⟨rfl, hw⟩
    have hw := hw.symm
    subst hw
    clear HNm
    go_wp2_with fail
    refine (HSp.out _).mono ?_
    rintro e w3 ⟨rfl, hg3⟩
    have H2 := hidJ (gb_none H0.out hg3)
    have k2 := hidJ (blk_keep c0.out hg3)
    clear hg3 H0 c0 HSp
    rcases HCs.out with ⟨hc1, hc2, hc3⟩ | ⟨hc1, hc2, hc3⟩
    · subst hc1
      subst hc2
      have hc3i : (N1 : Int) < (N2 : Int) := by omega
      clear hc3 HCs
      by_cases e0 : N2 = p
      · have HF := hidJ (HBad.out (HW.out.2 (.inl e0)))
        have e0i : (N2 : Int) = (p : Int) := by omega
        have e0j : ((N2 : Int) == (p : Int)) = true := by rw [beq_iff_eq]; exact e0i
        clear HBad HGood HW
        as_aux_lemma =>
          have hS := hidJ (fun x0 x1 x2 => tok_set w3 w b _ _ _ _ k2.out HBs.out H2.out x0 x1 x2)
          obtain ⟨p0, p1, p2, f0, f1, f2⟩ := blk_cells k2.out
          clear k2 H2
          have hs := hS.out (.int .i64 0) (.string ⟨#[]⟩) (.int .i64 0)
          go_wp2
          obtain ⟨hs1, hs2⟩ := hs
          have d0 := (blk_cells hs1).1
          have d1 := (blk_cells hs1).2.1
          have d2 := (blk_cells hs1).2.2.1
          clear hs1
          generalize World.setCell _ _ _ = W9 at *
          refine bodyPost_ret (v := .tuple #[tkV (0, [], 0), .int .i64 0, .bool false]) ?_ rfl ?_
          · simp [results, Tryz.f28, go_sem, d0, d1, d2, tkV]
          · exact ⟨HF.out (0, [], 0) 0, hs2⟩
      · have e0i : ¬ (N2 : Int) = (p : Int) := by omega
        have e0j : ((N2 : Int) == (p : Int)) = false := by rw [beq_eq_false_iff_ne]; exact e0i
        have hn0 : n ≠ 0 := by have := HNn.out; omega
        by_cases hlN : N2 < l.length
        · have hlNi : (N2 : Int) < (l.length : Int) := by omega
          obtain ⟨y, hy, hyi⟩ := byte_at l N2 hlN
          have HLy := hidJ (fun W => refLetter_any y.toNat (by have := y.toNat_lt; omega) W)
          have HDy := hidJ (fun W => refDigit_any y.toNat (by have := y.toNat_lt; omega) W)
          cases hc1 : ltB y.toNat with
          | true =>
            have HF := hidJ (HBad.out (HW.out.2 (.inr (.inl (by rw [wdB_lt, ← hy, hc1]; rfl)))))
            rw [hc1] at HLy
            clear HBad HGood HW hy hc1 HDy hNlt
            as_aux_lemma =>
              go_wp2_with fail
              refine (HLy.out _).mono ?_
              rintro e w4 ⟨rfl, hw⟩
              have hw := hw.symm
              subst hw
              have hS := hidJ (fun x0 x1 x2 => tok_set w3 w b _ _ _ _ k2.out HBs.out H2.out x0 x1 x2)
              obtain ⟨p0, p1, p2, f0, f1, f2⟩ := blk_cells k2.out
              clear k2 H2
              have hs := hS.out (.int .i64 0) (.string ⟨#[]⟩) (.int .i64 0)
              go_wp2
              obtain ⟨hs1, hs2⟩ := hs
              have d0 := (blk_cells hs1).1
              have d1 := (blk_cells hs1).2.1
              have d2 := (blk_cells hs1).2.2.1
              clear hs1
              generalize World.setCell _ _ _ = W9 at *
              refine bodyPost_ret (v := .tuple #[tkV (0, [], 0), .int .i64 0, .bool false]) ?_ rfl ?_
              · simp [results, Tryz.f28, go_sem, d0, d1, d2, tkV]
              · exact ⟨HF.out (0, [], 0) 0, hs2⟩
          | false =>
            rw [hc1] at HLy
            cases hc2 : dgB y.toNat with
            | true =>
              have HF := hidJ (HBad.out (HW.out.2 (.inr (.inl (by rw [wdB_lt, ← hy, hc1, hc2]; rfl)))))
              rw [hc2] at HDy
              clear HBad HGood HW hy hc1 hc2 hNlt
              as_aux_lemma =>
                go_wp2_with fail
                refine (HLy.out _).mono ?_
                rintro e w4 ⟨rfl, hw⟩
                have hw := hw.symm
                subst hw
                go_wp2_with fail
                refine (HDy.out _).mono ?_
                rintro e w4 ⟨rfl, hw⟩
                have hw := hw.symm
                subst hw
                have hS := hidJ (fun x0 x1 x2 => tok_set w3 w b _ _ _ _ k2.out HBs.out H2.out x0 x1 x2)
                obtain ⟨p0, p1, p2, f0, f1, f2⟩ := blk_cells k2.out
                clear k2 H2
                have hs := hS.out (.int .i64 0) (.string ⟨#[]⟩) (.int .i64 0)
                go_wp2
                obtain ⟨hs1, hs2⟩ := hs
                have d0 := (blk_cells hs1).1
                have d1 := (blk_cells hs1).2.1
                have d2 := (blk_cells hs1).2.2.1
                clear hs1
                generalize World.setCell _ _ _ = W9 at *
                refine bodyPost_ret (v := .tuple #[tkV (0, [], 0), .int .i64 0, .bool false]) ?_ rfl ?_
                · simp [results, Tryz.f28, go_sem, d0, d1, d2, tkV]
                · exact ⟨HF.out (0, [], 0) 0, hs2⟩
            | false =>
              rw [hc2] at HDy
              by_cases hc3 : y.toNat = 46
              · have HF := hidJ (HBad.out (HW.out.2 (.inr (.inr (by rw [← hy, hc3])))))
                have HLz := hidJ (fun W => show Calls Tryz.prog 37 #[.int .u8 (46 : Int)] W fun e w' => e = .returned (.bool false) ∧ w' = W from refLetter_any 46 (by decide) W)
                have HDz := hidJ (fun W => show Calls Tryz.prog 38 #[.int .u8 (46 : Int)] W fun e w' => e = .returned (.bool false) ∧ w' = W from refDigit_any 46 (by decide) W)
                have hyj : (y.toNat : Int) = 46 := by omega
                clear HBad HGood HW hy hc1 hc2 hNlt HLy HDy hc3
                as_aux_lemma =>
                  go_wp2_with fail
                  refine (HLz.out _).mono ?_
                  rintro e w4 ⟨rfl, hw⟩
                  have hw := hw.symm
                  subst hw
                  go_wp2_with fail
                  refine (HDz.out _).mono ?_
                  rintro e w4 ⟨rfl, hw⟩
                  have hw := hw.symm
                  subst hw
                  have hS := hidJ (fun x0 x1 x2 => tok_set w3 w b _ _ _ _ k2.out HBs.out H2.out x0 x1 x2)
                  obtain ⟨p0, p1, p2, f0, f1, f2⟩ := blk_cells k2.out
                  clear k2 H2
                  have hs := hS.out (.int .i64 0) (.string ⟨#[]⟩) (.int .i64 0)
                  go_wp2
                  obtain ⟨hs1, hs2⟩ := hs
                  have d0 := (blk_cells hs1).1
                  have d1 := (blk_cells hs1).2.1
                  have d2 := (blk_cells hs1).2.2.1
                  clear hs1
                  generalize World.setCell _ _ _ = W9 at *
                  refine bodyPost_ret (v := .tuple #[tkV (0, [], 0), .int .i64 0, .bool false]) ?_ rfl ?_
                  · simp [results, Tryz.f28, go_sem, d0, d1, d2, tkV]
                  · exact ⟨HF.out (0, [], 0) 0, hs2⟩
              · have HF := hidJ (HGood.out (by
                  rw [Bool.eq_false_iff]
                  intro e
                  rcases HW.out.1 e with h | h | h
                  · exact e0 h
                  · rw [wdB_lt, ← hy, hc1, hc2] at h; cases h
                  · exact hc3 (by rw [hy, h])) hn0)
                have hyj : ¬ (y.toNat : Int) = 46 := by omega
                have hyk : ((y.toNat : Int) == 46) = false := by rw [beq_eq_false_iff_ne]; exact hyj
                clear HBad HGood HW hy hc1 hc2 hNlt hc3 hn0
                as_aux_lemma =>
                  go_wp2_with fail
                  refine (HLy.out _).mono ?_
                  rintro e w4 ⟨rfl, hw⟩
                  have hw := hw.symm
                  subst hw
                  go_wp2_with fail
                  refine (HDy.out _).mono ?_
                  rintro e w4 ⟨rfl, hw⟩
                  have hw := hw.symm
                  subst hw
                  have hS := hidJ (fun x0 x1 x2 => tok_set w3 w b _ _ _ _ k2.out HBs.out H2.out x0 x1 x2)
                  obtain ⟨p0, p1, p2, f0, f1, f2⟩ := blk_cells k2.out
                  clear k2 H2
                  have hs := hS.out (.int .i64 3) (.string (ByteArray.mk ⟨tt⟩)) (.int .i64 (p : Int))
                  go_wp2
                  obtain ⟨hs1, hs2⟩ := hs
                  have d0 := (blk_cells hs1).1
                  have d1 := (blk_cells hs1).2.1
                  have d2 := (blk_cells hs1).2.2.1
                  clear hs1
                  generalize World.setCell _ _ _ = W9 at *
                  refine bodyPost_ret (v := .tuple #[tkV (3, tt, (p : Int)), .int .i64 (N2 : Int), .bool true]) ?_ rfl ?_
                  · simp [results, Tryz.f28, go_sem, d0, d1, d2, tkV]
                  · exact ⟨HF.out, hs2⟩
        · have hlNi : ¬ (N2 : Int) < (l.length : Int) := by omega
          have HF := hidJ (HGood.out (by
            rw [Bool.eq_false_iff]
            intro e
            have hb := hNlt (by omega)
            rcases HW.out.1 e with h | h | h
            · exact e0 h
            · rw [hb] at h; cases h
            · rw [hb] at h; cases h) hn0)
          clear HBad HGood HW hNlt hn0
          as_aux_lemma =>
            have hS := hidJ (fun x0 x1 x2 => tok_set w3 w b _ _ _ _ k2.out HBs.out H2.out x0 x1 x2)
            obtain ⟨p0, p1, p2, f0, f1, f2⟩ := blk_cells k2.out
            clear k2 H2
            have hs := hS.out (.int .i64 3) (.string (ByteArray.mk ⟨tt⟩)) (.int .i64 (p : Int))
            go_wp2
            obtain ⟨hs1, hs2⟩ := hs
            have d0 := (blk_cells hs1).1
            have d1 := (blk_cells hs1).2.1
            have d2 := (blk_cells hs1).2.2.1
            clear hs1
            generalize World.setCell _ _ _ = W9 at *
            refine bodyPost_ret (v := .tuple #[tkV (3, tt, (p : Int)), .int .i64 (N2 : Int), .bool true]) ?_ rfl ?_
            · simp [results, Tryz.f28, go_sem, d0, d1, d2, tkV]
            · exact ⟨HF.out, hs2⟩
    · subst hc1
      subst hc2
      have hc3i : ¬ (N1 : Int) < (N2 : Int) := by omega
      clear hc3 HCs
      by_cases e0 : N1 = p
      · have HF := hidJ (HBad.out (HW.out.2 (.inl e0)))
        have e0i : (N1 : Int) = (p : Int) := by omega
        have e0j : ((N1 : Int) == (p : Int)) = true := by rw [beq_iff_eq]; exact e0i
        clear HBad HGood HW
        as_aux_lemma =>
          have hS := hidJ (fun x0 x1 x2 => tok_set w3 w b _ _ _ _ k2.out HBs.out H2.out x0 x1 x2)
          obtain ⟨p0, p1, p2, f0, f1, f2⟩ := blk_cells k2.out
          clear k2 H2
          have hs := hS.out (.int .i64 0) (.string ⟨#[]⟩) (.int .i64 0)
          go_wp2
          obtain ⟨hs1, hs2⟩ := hs
          have d0 := (blk_cells hs1).1
          have d1 := (blk_cells hs1).2.1
          have d2 := (blk_cells hs1).2.2.1
          clear hs1
          generalize World.setCell _ _ _ = W9 at *
          refine bodyPost_ret (v := .tuple #[tkV (0, [], 0), .int .i64 0, .bool false]) ?_ rfl ?_
          · simp [results, Tryz.f28, go_sem, d0, d1, d2, tkV]
          · exact ⟨HF.out (0, [], 0) 0, hs2⟩
      · have e0i : ¬ (N1 : Int) = (p : Int) := by omega
        have e0j : ((N1 : Int) == (p : Int)) = false := by rw [beq_eq_false_iff_ne]; exact e0i
        have hn0 : n ≠ 0 := by have := HNn.out; omega
        by_cases hlN : N1 < l.length
        · have hlNi : (N1 : Int) < (l.length : Int) := by omega
          obtain ⟨y, hy, hyi⟩ := byte_at l N1 hlN
          have HLy := hidJ (fun W => refLetter_any y.toNat (by have := y.toNat_lt; omega) W)
          have HDy := hidJ (fun W => refDigit_any y.toNat (by have := y.toNat_lt; omega) W)
          cases hc1 : ltB y.toNat with
          | true =>
            have HF := hidJ (HBad.out (HW.out.2 (.inr (.inl (by rw [wdB_lt, ← hy, hc1]; rfl)))))
            rw [hc1] at HLy
            clear HBad HGood HW hy hc1 HDy hNlt
            as_aux_lemma =>
              go_wp2_with fail
              refine (HLy.out _).mono ?_
              rintro e w4 ⟨rfl, hw⟩
              have hw := hw.symm
              subst hw
              have hS := hidJ (fun x0 x1 x2 => tok_set w3 w b _ _ _ _ k2.out HBs.out H2.out x0 x1 x2)
              obtain ⟨p0, p1, p2, f0, f1, f2⟩ := blk_cells k2.out
              clear k2 H2
              have hs := hS.out (.int .i64 0) (.string ⟨#[]⟩) (.int .i64 0)
              go_wp2
              obtain ⟨hs1, hs2⟩ := hs
              have d0 := (blk_cells hs1).1
              have d1 := (blk_cells hs1).2.1
              have d2 := (blk_cells hs1).2.2.1
              clear hs1
              generalize World.setCell _ _ _ = W9 at *
              refine bodyPost_ret (v := .tuple #[tkV (0, [], 0), .int .i64 0, .bool false]) ?_ rfl ?_
              · simp [results, Tryz.f28, go_sem, d0, d1, d2, tkV]
              · exact ⟨HF.out (0, [], 0) 0, hs2⟩
          | false =>
            rw [hc1] at HLy
            cases hc2 : dgB y.toNat with
            | true =>
              have HF := hidJ (HBad.out (HW.out.2 (.inr (.inl (by rw [wdB_lt, ← hy, hc1, hc2]; rfl)))))
              rw [hc2] at HDy
              clear HBad HGood HW hy hc1 hc2 hNlt
              as_aux_lemma =>
                go_wp2_with fail
                refine (HLy.out _).mono ?_
                rintro e w4 ⟨rfl, hw⟩
                have hw := hw.symm
                subst hw
                go_wp2_with fail
                refine (HDy.out _).mono ?_
                rintro e w4 ⟨rfl, hw⟩
                have hw := hw.symm
                subst hw
                have hS := hidJ (fun x0 x1 x2 => tok_set w3 w b _ _ _ _ k2.out HBs.out H2.out x0 x1 x2)
                obtain ⟨p0, p1, p2, f0, f1, f2⟩ := blk_cells k2.out
                clear k2 H2
                have hs := hS.out (.int .i64 0) (.string ⟨#[]⟩) (.int .i64 0)
                go_wp2
                obtain ⟨hs1, hs2⟩ := hs
                have d0 := (blk_cells hs1).1
                have d1 := (blk_cells hs1).2.1
                have d2 := (blk_cells hs1).2.2.1
                clear hs1
                generalize World.setCell _ _ _ = W9 at *
                refine bodyPost_ret (v := .tuple #[tkV (0, [], 0), .int .i64 0, .bool false]) ?_ rfl ?_
                · simp [results, Tryz.f28, go_sem, d0, d1, d2, tkV]
                · exact ⟨HF.out (0, [], 0) 0, hs2⟩
            | false =>
              rw [hc2] at HDy
              by_cases hc3 : y.toNat = 46
              · have HF := hidJ (HBad.out (HW.out.2 (.inr (.inr (by rw [← hy, hc3])))))
                have HLz := hidJ (fun W => show Calls Tryz.prog 37 #[.int .u8 (46 : Int)] W fun e w' => e = .returned (.bool false) ∧ w' = W from refLetter_any 46 (by decide) W)
                have HDz := hidJ (fun W => show Calls Tryz.prog 38 #[.int .u8 (46 : Int)] W fun e w' => e = .returned (.bool false) ∧ w' = W from refDigit_any 46 (by decide) W)
                have hyj : (y.toNat : Int) = 46 := by omega
                clear HBad HGood HW hy hc1 hc2 hNlt HLy HDy hc3
                as_aux_lemma =>
                  go_wp2_with fail
                  refine (HLz.out _).mono ?_
                  rintro e w4 ⟨rfl, hw⟩
                  have hw := hw.symm
                  subst hw
                  go_wp2_with fail
                  refine (HDz.out _).mono ?_
                  rintro e w4 ⟨rfl, hw⟩
                  have hw := hw.symm
                  subst hw
                  have hS := hidJ (fun x0 x1 x2 => tok_set w3 w b _ _ _ _ k2.out HBs.out H2.out x0 x1 x2)
                  obtain ⟨p0, p1, p2, f0, f1, f2⟩ := blk_cells k2.out
                  clear k2 H2
                  have hs := hS.out (.int .i64 0) (.string ⟨#[]⟩) (.int .i64 0)
                  go_wp2
                  obtain ⟨hs1, hs2⟩ := hs
                  have d0 := (blk_cells hs1).1
                  have d1 := (blk_cells hs1).2.1
                  have d2 := (blk_cells hs1).2.2.1
                  clear hs1
                  generalize World.setCell _ _ _ = W9 at *
                  refine bodyPost_ret (v := .tuple #[tkV (0, [], 0), .int .i64 0, .bool false]) ?_ rfl ?_
                  · simp [results, Tryz.f28, go_sem, d0, d1, d2, tkV]
                  · exact ⟨HF.out (0, [], 0) 0, hs2⟩
              · have HF := hidJ (HGood.out (by
                  rw [Bool.eq_false_iff]
                  intro e
                  rcases HW.out.1 e with h | h | h
                  · exact e0 h
                  · rw [wdB_lt, ← hy, hc1, hc2] at h; cases h
                  · exact hc3 (by rw [hy, h])) hn0)
                have hyj : ¬ (y.toNat : Int) = 46 := by omega
                have hyk : ((y.toNat : Int) == 46) = false := by rw [beq_eq_false_iff_ne]; exact hyj
                clear HBad HGood HW hy hc1 hc2 hNlt hc3 hn0
                as_aux_lemma =>
                  go_wp2_with fail
                  refine (HLy.out _).mono ?_
                  rintro e w4 ⟨rfl, hw⟩
                  have hw := hw.symm
                  subst hw
                  go_wp2_with fail
                  refine (HDy.out _).mono ?_
                  rintro e w4 ⟨rfl, hw⟩
                  have hw := hw.symm
                  subst hw
                  have hS := hidJ (fun x0 x1 x2 => tok_set w3 w b _ _ _ _ k2.out HBs.out H2.out x0 x1 x2)
                  obtain ⟨p0, p1, p2, f0, f1, f2⟩ := blk_cells k2.out
                  clear k2 H2
                  have hs := hS.out (.int .i64 2) (.string (ByteArray.mk ⟨tt⟩)) (.int .i64 (p : Int))
                  go_wp2
                  obtain ⟨hs1, hs2⟩ := hs
                  have d0 := (blk_cells hs1).1
                  have d1 := (blk_cells hs1).2.1
                  have d2 := (blk_cells hs1).2.2.1
                  clear hs1
                  generalize World.setCell _ _ _ = W9 at *
                  refine bodyPost_ret (v := .tuple #[tkV (2, tt, (p : Int)), .int .i64 (N1 : Int), .bool true]) ?_ rfl ?_
                  · simp [results, Tryz.f28, go_sem, d0, d1, d2, tkV]
                  · exact ⟨HF.out, hs2⟩
        · have hlNi : ¬ (N1 : Int) < (l.length : Int) := by omega
          have HF := hidJ (HGood.out (by
            rw [Bool.eq_false_iff]
            intro e
            have hb := hNlt (by omega)
            rcases HW.out.1 e with h | h | h
            · exact e0 h
            · rw [hb] at h; cases h
            · rw [hb] at h; cases h) hn0)
          clear HBad HGood HW hNlt hn0
          as_aux_lemma =>
            have hS := hidJ (fun x0 x1 x2 => tok_set w3 w b _ _ _ _ k2.out HBs.out H2.out x0 x1 x2)
            obtain ⟨p0, p1, p2, f0, f1, f2⟩ := blk_cells k2.out
            clear k2 H2
            have hs := hS.out (.int .i64 2) (.string (ByteArray.mk ⟨tt⟩)) (.int .i64 (p : Int))
            go_wp2
            obtain ⟨hs1, hs2⟩ := hs
            have d0 := (blk_cells hs1).1
            have d1 := (blk_cells hs1).2.1
            have d2 := (blk_cells hs1).2.2.1
            clear hs1
            generalize World.setCell _ _ _ = W9 at *
            refine bodyPost_ret (v := .tuple #[tkV (2, tt, (p : Int)), .int .i64 (N1 : Int), .bool true]) ?_ rfl ?_
            · simp [results, Tryz.f28, go_sem, d0, d1, d2, tkV]
            · exact ⟨HF.out, hs2⟩
theorem wd_lt {c : Nat} (h1 : wdB c = true) (h2 : dgB c = false) : ltB c = true := by
  rw [wdB_lt, h2, Bool.or_false] at h1
  exact h1
/-- the token at a place -/
theorem refOne_any (w : World) (l : LxS) (p : Nat) (hl : l.length ≤ 140737488351232) (hp : p < l.length) :
    Calls Tryz.prog 28 #[.string (ByteArray.mk ⟨l⟩), .int .i64 (p : Int)] w fun e w' => OneA (cutW (l.drop p)) p e ∧ w.grownBy w' none := by
  have hb : byN (l.drop p) 0 = byN l p := by rw [byN_drop, Nat.add_zero]
  unfold cutW
  rw [hb]
  by_cases c1 : wdB (byN l p) = true ∧ dgB (byN l p) = false
  · rw [if_pos c1]
    exact refOne_wd w l p hl hp (wd_lt c1.1 c1.2)
  · rw [if_neg c1]
    by_cases c2 : dgB (byN l p) = true ∨ byN l p = 46
    · rw [if_pos c2]
      exact refOne_nb w l p hl hp c2
    · rw [if_neg c2]
      have d2 : dgB (byN l p) = false := Bool.eq_false_iff.2 (fun h => c2 (.inl h))
      have d1 : ltB (byN l p) = false := by
        rw [Bool.eq_false_iff]
        intro h
        exact c1 ⟨by rw [wdB_lt, h]; rfl, d2⟩
      by_cases c3 : byN l p = 34 ∨ byN l p = 39
      · rw [if_pos c3]
        exact refOne_qt w l p hl hp c3
      · rw [if_neg c3]
        exact refOne_sg w l p hl hp d1 d2 (fun h => c2 (.inr h)) (fun h => c3 (.inl h)) (fun h => c3 (.inr h))
end Go.Proofs.YtifjdfmmafbhkaaGreatDoor
