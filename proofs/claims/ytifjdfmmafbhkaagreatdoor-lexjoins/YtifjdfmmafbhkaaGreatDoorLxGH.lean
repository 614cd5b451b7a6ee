/-
  LxDq, LxDr, in one text.
-/
import Derived.Test.YtifjdfmmafbhkaaGreatDoorLxDo
import Derived.Test.YtifjdfmmafbhkaaGreatDoorLxGF
/- LxDq -/
namespace Go.Proofs.YtifjdfmmafbhkaaGreatDoor
open Go.RowKit

theorem lt_dg {c : Nat} (h : dgB c = true) : ltB c = false := by
  rw [dgB_iff] at h
  rw [Bool.eq_false_iff]
  intro e
  rw [ltB_iff] at e
  omega
/-- what is answered of the token at p -/
def OneA (C : Int × LxS × Nat) (p : Nat) (e : Ending) : Prop := ∃ (T : Tok) (k : Int), e = .returned (.tuple #[tkV T, .int .i64 k, .bool (decide (C.2.2 ≠ 0))]) ∧ (C.2.2 ≠ 0 → T = (C.1, C.2.1, (p : Int)) ∧ k = ((p + C.2.2 : Nat) : Int))
theorem OneA.good (K : Int) (tt : LxS) (n p : Nat) (k : Int) (hn : n ≠ 0) (hk : k = ((p + n : Nat) : Int)) : OneA (K, tt, n) p (.returned (.tuple #[tkV (K, tt, (p : Int)), .int .i64 k, .bool true])) :=
  ⟨(K, tt, (p : Int)), k, by show _ = Ending.returned (.tuple #[tkV (K, tt, (p : Int)), .int .i64 k, .bool (decide (n ≠ 0))]); rw [decide_eq_true hn], fun _ => ⟨rfl, hk⟩⟩
theorem OneA.bad (K : Int) (tt : LxS) (p : Nat) (T : Tok) (k : Int) : OneA (K, tt, 0) p (.returned (.tuple #[tkV T, .int .i64 k, .bool false])) :=
  ⟨T, k, rfl, fun h => absurd rfl h⟩
set_option maxRecDepth 8000 in
set_option maxHeartbeats 6400000 in
theorem refOne_wd (w : World) (l : LxS) (p : Nat) (hl : l.length ≤ 140737488351232) (hp : p < l.length) (hlt : ltB (byN l p) = true) :
    Calls Tryz.prog 28 #[.string (ByteArray.mk ⟨l⟩), .int .i64 (p : Int)] w fun e w' => OneA (1, (l.drop p).take (tkN wdB (l.drop p)), tkN wdB (l.drop p)) p e ∧ w.grownBy w' none := by
  have hz : (ByteArray.mk ⟨l⟩).size = l.length := rfl
  have hpi : (p : Int) < (l.length : Int) := by omega
  obtain ⟨x, hx, hxi⟩ := byte_at l p hp
  have HL := hidJ (fun W => refLetter_any x.toNat (by have := x.toNat_lt; omega) W)
  rw [show ltB x.toNat = true by rw [hx]; exact hlt] at HL
  have hle := tkN_le wdB (l.drop p)
  rw [List.length_drop] at hle
  have hIn := hidJ (fun j => tkN_in wdB (l.drop p) j)
  have hOut := hidJ (tkN_out wdB (by decide) (l.drop p))
  have hn0 : tkN wdB (l.drop p) ≠ 0 := by
    intro e
    have := hOut.out
    rw [e, byN_drop, Nat.add_zero, wdB_lt, hlt] at this
    cases this
  obtain ⟨N, hN⟩ : ∃ N, p + tkN wdB (l.drop p) = N := ⟨_, rfl⟩
  have HI : Hid (∀ j, p ≤ j → j < N → wdB (byN l j) = true) := fun j h1 h2 => by
    have := hIn.out (j - p) (by omega)
    rwa [byN_drop, show p + (j - p) = j by omega] at this
  have HO : Hid (wdB (byN l N) = false) := by
    have := hOut.out
    rwa [byN_drop, hN] at this
  have hxt : (ByteArray.mk ⟨l⟩).extract p N = ByteArray.mk ⟨(l.drop p).take (tkN wdB (l.drop p))⟩ := by rw [ext_mk, ← hN, Nat.add_sub_cancel_left]
  generalize (l.drop p).take (tkN wdB (l.drop p)) = tt at *
  generalize tkN wdB (l.drop p) = n at *
  have hpN : p ≤ N := by omega
  have hNl : N ≤ l.length := by omega
  have hpNi : (p : Int) ≤ (N : Int) := by omega
  have hNli : (N : Int) ≤ (l.length : Int) := by omega
  have HN := hidJ hN
  have Hn0 := hidJ hn0
  clear hIn hOut hlt hx hN hn0 hle
  go_enter Tryz.func28, Tryz.ntmps28
  go_wp2_with fail
  have H0 := hidJ (World.grownBy_alloc w (.cells #[.int .i64 0, .string ⟨#[]⟩, .int .i64 0] 24) none)
  have c0 := hidJ (show (w.alloc (.cells #[.int .i64 0, .string ⟨#[]⟩, .int .i64 0] 24)).heap[w.heap.size]? = some (.cells #[.int .i64 0, .string ⟨#[]⟩, .int .i64 0] 24 (0, 0)) from alloc_at _ _)
  generalize w.alloc (.cells #[.int .i64 0, .string ⟨#[]⟩, .int .i64 0] 24) = W0 at *
  obtain ⟨b, hb⟩ : ∃ b, w.heap.size = b := ⟨_, rfl⟩
  have HBs := hidJ (Nat.le_of_eq hb)
  rw [hb] at c0
  simp only [hb]
  clear hb
  refine (HL.out _).mono ?_
  rintro e w1 ⟨rfl, rfl⟩
  go_wp2_with fail
  go_loopg [8] (l.length + 1) (fun gk v8 wr => ∃ i : Nat, v8 = .int .i64 (i : Int) ∧ l.length < i + gk ∧ p ≤ i ∧ i ≤ N ∧ wr = w1)
  case atStart => exact ⟨p, rfl, by omega, Nat.le_refl _, by omega, rfl⟩
  case round =>
    obtain ⟨i, rfl, hg, hpi, hiN, hwr⟩ := hrel
    have hwr := hwr.symm
    subst hwr
    by_cases hiN2 : i < N
    · obtain ⟨k, rfl⟩ : ∃ k, gk = k + 1 := ⟨gk - 1, by omega⟩
      have hlt : i < l.length := by omega
      have hli : (i : Int) < (l.length : Int) := by omega
      obtain ⟨y, hy, hyi⟩ := byte_at l i hlt
      have HC := hidJ (fun W => refLetter_any y.toNat (by have := y.toNat_lt; omega) W)
      have HD := hidJ (fun W => refDigit_any y.toNat (by have := y.toNat_lt; omega) W)
      have hd := HI.out i hpi hiN2
      rw [wdB_lt, ← hy] at hd
      clear hy
      cases hc : ltB y.toNat with
      | true =>
        rw [hc] at HC
        clear hc hd HD
        go_wp2_with fail
        refine (HC.out _).mono ?_
        rintro e w' ⟨rfl, rfl⟩
        go_wp2
        go_roundg k
        case measure => omega
        case rel => exact ⟨i + 1, by go_num, by omega, by omega, by omega, rfl⟩
      | false =>
        rw [hc, Bool.false_or] at hd
        rw [hc] at HC
        rw [hd] at HD
        clear hc hd
        go_wp2_with fail
        refine (HC.out _).mono ?_
        rintro e w' ⟨rfl, rfl⟩
        go_wp2_with fail
        refine (HD.out _).mono ?_
        rintro e w' ⟨rfl, rfl⟩
        go_wp2
        go_roundg k
        case measure => omega
        case rel => exact ⟨i + 1, by go_num, by omega, by omega, by omega, rfl⟩
    · obtain rfl : i = N := by omega
      have k2 := c0
      have H2 := H0
      clear c0 H0
      by_cases hlt : i < l.length
      · have hli : (i : Int) < (l.length : Int) := by omega
        obtain ⟨y, hy, hyi⟩ := byte_at l i hlt
        have HC := hidJ (fun W => refLetter_any y.toNat (by have := y.toNat_lt; omega) W)
        have HD := hidJ (fun W => refDigit_any y.toNat (by have := y.toNat_lt; omega) W)
        have hd := HO.out
        rw [wdB_lt, ← hy, Bool.or_eq_false_iff] at hd
        rw [hd.1] at HC
        rw [hd.2] at HD
        clear hd hy
        go_wp2_with fail
        refine (HC.out _).mono ?_
        rintro e w' ⟨rfl, hw⟩
        have hw := hw.symm
        subst hw
        go_wp2_with fail
        refine (HD.out _).mono ?_
        rintro e w' ⟨rfl, hw⟩
        have hw := hw.symm
        subst hw
        have hS := hidJ (fun x0 x1 x2 => tok_set w1 w b _ _ _ _ k2.out HBs.out H2.out x0 x1 x2)
        obtain ⟨p0, p1, p2, f0, f1, f2⟩ := blk_cells k2.out
        clear k2 H2
        have hs := hS.out (.int .i64 1) (.string (ByteArray.mk ⟨tt⟩)) (.int .i64 (p : Int))
        go_wp2
        obtain ⟨hs1, hs2⟩ := hs
        have d0 := (blk_cells hs1).1
        have d1 := (blk_cells hs1).2.1
        have d2 := (blk_cells hs1).2.2.1
        clear hs1
        generalize World.setCell _ _ _ = W1 at *
        refine bodyPost_ret (v := .tuple #[tkV (1, tt, (p : Int)), .int .i64 (i : Int), .bool true]) ?_ rfl ?_
        · simp [results, Tryz.f28, go_sem, d0, d1, d2, tkV]
        · exact ⟨OneA.good 1 tt n p _ Hn0.out (by rw [HN.out]), hs2⟩
      · have hli : ¬ (i : Int) < (l.length : Int) := by omega
        have hS := hidJ (fun x0 x1 x2 => tok_set w1 w b _ _ _ _ k2.out HBs.out H2.out x0 x1 x2)
        obtain ⟨p0, p1, p2, f0, f1, f2⟩ := blk_cells k2.out
        clear k2 H2
        have hs := hS.out (.int .i64 1) (.string (ByteArray.mk ⟨tt⟩)) (.int .i64 (p : Int))
        go_wp2
        obtain ⟨hs1, hs2⟩ := hs
        have d0 := (blk_cells hs1).1
        have d1 := (blk_cells hs1).2.1
        have d2 := (blk_cells hs1).2.2.1
        clear hs1
        generalize World.setCell _ _ _ = W1 at *
        refine bodyPost_ret (v := .tuple #[tkV (1, tt, (p : Int)), .int .i64 (i : Int), .bool true]) ?_ rfl ?_
        · simp [results, Tryz.f28, go_sem, d0, d1, d2, tkV]
        · exact ⟨OneA.good 1 tt n p _ Hn0.out (by rw [HN.out]), hs2⟩
end Go.Proofs.YtifjdfmmafbhkaaGreatDoor

/- LxDr -/
namespace Go.Proofs.YtifjdfmmafbhkaaGreatDoor
open Go.RowKit

set_option maxRecDepth 8000 in
set_option maxHeartbeats 6400000 in
theorem refOne_qt (w : World) (l : LxS) (p : Nat) (hl : l.length ≤ 140737488351232) (hp : p < l.length) (hq : byN l p = 34 ∨ byN l p = 39) :
    Calls Tryz.prog 28 #[.string (ByteArray.mk ⟨l⟩), .int .i64 (p : Int)] w fun e w' => OneA (4, ((strW (l.drop p)).map (·.1)).getD [], ((strW (l.drop p)).map (·.2)).getD 0) p e ∧ w.grownBy w' none := by
  have hz : (ByteArray.mk ⟨l⟩).size = l.length := rfl
  have hpi : (p : Int) < (l.length : Int) := by omega
  obtain ⟨x, hx, hxi⟩ := byte_at l p hp
  have hq8 : byN (l.drop p) 0 < 65533 := by have := byN_lt (l.drop p) 0; omega
  have HTx := hidJ (fun W => refText_any W l p hl hp hq)
  have HLe := hidJ (fun x h => strW_le (l.drop p) hq8 x h)
  generalize strW (l.drop p) = S at *
  have HOn : Hid (∀ (tx : LxS) (k : Int), (∀ x, S = some x → tx = x.1 ∧ k = ((p + x.2 : Nat) : Int)) → OneA (4, (S.map (·.1)).getD [], (S.map (·.2)).getD 0) p (.returned (.tuple #[tkV (4, tx, (p : Int)), .int .i64 k, .bool S.isSome]))) := fun tx k h => by
    cases S with
    | none => exact OneA.bad 4 [] p _ k
    | some x =>
      obtain ⟨rfl, rfl⟩ := h x rfl
      have h2 := HLe.out x rfl
      exact OneA.good 4 x.1 x.2 p _ (by omega) rfl
  clear HLe hq8
  rcases hq with hq | hq
  · have hx34 : x.toNat = 34 := by omega
    have hxj : (x.toNat : Int) = 34 := by omega
    have HL := hidJ (fun W => show Calls Tryz.prog 37 #[.int .u8 (34 : Int)] W fun e w' => e = .returned (.bool false) ∧ w' = W from refLetter_any 34 (by decide) W)
    clear hx hx34 hq
    go_enter Tryz.func28, Tryz.ntmps28
    go_wp2_with fail
    have H0 := hidJ (World.grownBy_alloc w (.cells #[.int .i64 0, .string ⟨#[]⟩, .int .i64 0] 24) none)
    have c0 := hidJ (show (w.alloc (.cells #[.int .i64 0, .string ⟨#[]⟩, .int .i64 0] 24)).heap[w.heap.size]? = some (.cells #[.int .i64 0, .string ⟨#[]⟩, .int .i64 0] 24 (0, 0)) from alloc_at _ _)
    generalize w.alloc (.cells #[.int .i64 0, .string ⟨#[]⟩, .int .i64 0] 24) = W0 at *
    obtain ⟨b, hb⟩ : ∃ b, w.heap.size = b := ⟨_, rfl⟩
    have HBs := hidJ (Nat.le_of_eq hb)
    rw [hb] at c0
    simp only [hb]
    clear hb
    refine (HL.out _).mono ?_
    rintro e w1 ⟨rfl, rfl⟩
    go_wp2_with fail
    refine (HTx.out _).mono ?_
    rintro e w3 ⟨⟨tx, k, rfl, hS0⟩, hg3⟩
    have HF := hidJ (HOn.out tx k hS0)
    have H2 := hidJ (gb_none H0.out hg3)
    have k2 := hidJ (blk_keep c0.out hg3)
    clear hS0 hg3 H0 c0 HL HTx HOn
    have hS := hidJ (fun x0 x1 x2 => tok_set w3 w b _ _ _ _ k2.out HBs.out H2.out x0 x1 x2)
    obtain ⟨p0, p1, p2, f0, f1, f2⟩ := blk_cells k2.out
    clear k2 H2
    have hs := hS.out (.int .i64 4) (.string (ByteArray.mk ⟨tx⟩)) (.int .i64 (p : Int))
    go_wp2
    obtain ⟨hs1, hs2⟩ := hs
    have d0 := (blk_cells hs1).1
    have d1 := (blk_cells hs1).2.1
    have d2 := (blk_cells hs1).2.2.1
    clear hs1
    generalize World.setCell _ _ _ = W9 at *
    refine bodyPost_ret (v := .tuple #[tkV (4, tx, (p : Int)), .int .i64 k, .bool S.isSome]) ?_ rfl ?_
    · simp [results, Tryz.f28, go_sem, d0, d1, d2, tkV]
    · exact ⟨HF.out, hs2⟩
  · have hx39 : x.toNat = 39 := by omega
    have hxj : (x.toNat : Int) = 39 := by omega
    have HL := hidJ (fun W => show Calls Tryz.prog 37 #[.int .u8 (39 : Int)] W fun e w' => e = .returned (.bool false) ∧ w' = W from refLetter_any 39 (by decide) W)
    clear hx hx39 hq
    go_enter Tryz.func28, Tryz.ntmps28
    go_wp2_with fail
    have H0 := hidJ (World.grownBy_alloc w (.cells #[.int .i64 0, .string ⟨#[]⟩, .int .i64 0] 24) none)
    have c0 := hidJ (show (w.alloc (.cells #[.int .i64 0, .string ⟨#[]⟩, .int .i64 0] 24)).heap[w.heap.size]? = some (.cells #[.int .i64 0, .string ⟨#[]⟩, .int .i64 0] 24 (0, 0)) from alloc_at _ _)
    generalize w.alloc (.cells #[.int .i64 0, .string ⟨#[]⟩, .int .i64 0] 24) = W0 at *
    obtain ⟨b, hb⟩ : ∃ b, w.heap.size = b := ⟨_, rfl⟩
    have HBs := hidJ (Nat.le_of_eq hb)
    rw [hb] at c0
    simp only [hb]
    clear hb
    refine (HL.out _).mono ?_
    rintro e w1 ⟨rfl, rfl⟩
    go_wp2_with fail
    refine (HTx.out _).mono ?_
    rintro e w3 ⟨⟨tx, k, rfl, hS0⟩, hg3⟩
    have HF := hidJ (HOn.out tx k hS0)
    have H2 := hidJ (gb_none H0.out hg3)
    have k2 := hidJ (blk_keep c0.out hg3)
    clear hS0 hg3 H0 c0 HL HTx HOn
    have hS := hidJ (fun x0 x1 x2 => tok_set w3 w b _ _ _ _ k2.out HBs.out H2.out x0 x1 x2)
    obtain ⟨p0, p1, p2, f0, f1, f2⟩ := blk_cells k2.out
    clear k2 H2
    have hs := hS.out (.int .i64 4) (.string (ByteArray.mk ⟨tx⟩)) (.int .i64 (p : Int))
    go_wp2
    obtain ⟨hs1, hs2⟩ := hs
    have d0 := (blk_cells hs1).1
    have d1 := (blk_cells hs1).2.1
    have d2 := (blk_cells hs1).2.2.1
    clear hs1
    generalize World.setCell _ _ _ = W9 at *
    refine bodyPost_ret (v := .tuple #[tkV (4, tx, (p : Int)), .int .i64 k, .bool S.isSome]) ?_ rfl ?_
    · simp [results, Tryz.f28, go_sem, d0, d1, d2, tkV]
    · exact ⟨HF.out, hs2⟩
set_option maxRecDepth 8000 in
set_option maxHeartbeats 6400000 in
theorem refOne_sg (w : World) (l : LxS) (p : Nat) (hl : l.length ≤ 140737488351232) (hp : p < l.length) (h1 : ltB (byN l p) = false) (h2 : dgB (byN l p) = false) (h3 : ¬ byN l p = 46) (h4 : ¬ byN l p = 34) (h5 : ¬ byN l p = 39) :
    Calls Tryz.prog 28 #[.string (ByteArray.mk ⟨l⟩), .int .i64 (p : Int)] w fun e w' => OneA (5, (l.drop p).take (sgnW (l.drop p)), sgnW (l.drop p)) p e ∧ w.grownBy w' none := by
  have hz : (ByteArray.mk ⟨l⟩).size = l.length := rfl
  have hpi : (p : Int) < (l.length : Int) := by omega
  obtain ⟨x, hx, hxi⟩ := byte_at l p hp
  have HSi := hidJ (fun W => refSign_any W l p (by omega) (by omega))
  rw [siW_eq] at HSi
  have hle := sgnW_le (l.drop p)
  have htl : ((l.drop p).take (sgnW (l.drop p))).length = sgnW (l.drop p) := by rw [List.length_take]; omega
  rw [List.length_drop] at hle
  generalize (l.drop p).take (sgnW (l.drop p)) = tt at *
  generalize sgnW (l.drop p) = n at *
  have hzt : (ByteArray.mk ⟨tt⟩).size = n := htl
  have hnl : p + n ≤ l.length := by omega
  have HL := hidJ (fun W => refLetter_any x.toNat (by have := x.toNat_lt; omega) W)
  have HD := hidJ (fun W => refDigit_any x.toNat (by have := x.toNat_lt; omega) W)
  rw [show ltB x.toNat = false by rw [hx]; exact h1] at HL
  rw [show dgB x.toNat = false by rw [hx]; exact h2] at HD
  have a3 : ¬ (x.toNat : Int) = 46 := by omega
  have a4 : ¬ (x.toNat : Int) = 34 := by omega
  have a5 : ¬ (x.toNat : Int) = 39 := by omega
  have b3 : ((x.toNat : Int) == 46) = false := by rw [beq_eq_false_iff_ne]; exact a3
  have b4 : ((x.toNat : Int) == 34) = false := by rw [beq_eq_false_iff_ne]; exact a4
  have b5 : ((x.toNat : Int) == 39) = false := by rw [beq_eq_false_iff_ne]; exact a5
  clear hx h1 h2 h3 h4 h5 hle
  by_cases hn : n = 0
  · have ht0 : tt = [] := List.eq_nil_of_length_eq_zero (by omega)
    subst ht0
    subst hn
    go_enter Tryz.func28, Tryz.ntmps28
    go_wp2_with fail
    have H0 := hidJ (World.grownBy_alloc w (.cells #[.int .i64 0, .string ⟨#[]⟩, .int .i64 0] 24) none)
    have c0 := hidJ (show (w.alloc (.cells #[.int .i64 0, .string ⟨#[]⟩, .int .i64 0] 24)).heap[w.heap.size]? = some (.cells #[.int .i64 0, .string ⟨#[]⟩, .int .i64 0] 24 (0, 0)) from alloc_at _ _)
    generalize w.alloc (.cells #[.int .i64 0, .string ⟨#[]⟩, .int .i64 0] 24) = W0 at *
    obtain ⟨b, hb⟩ : ∃ b, w.heap.size = b := ⟨_, rfl⟩
    have HBs := hidJ (Nat.le_of_eq hb)
    rw [hb] at c0
    simp only [hb]
    clear hb
    refine (HL.out _).mono ?_
    rintro e w1 ⟨rfl, rfl⟩
    go_wp2_with fail
    refine (HD.out _).mono ?_
    rintro e w2 ⟨rfl, hw⟩
    have hw := hw.symm
    subst hw
    clear HD HL
    go_wp2_with fail
    refine (HSi.out _).mono ?_
    rintro e w3 ⟨rfl, hg3⟩
    have H2 := hidJ (gb_none H0.out hg3)
    have k2 := hidJ (blk_keep c0.out hg3)
    clear hg3 H0 c0 HSi
    have hS := hidJ (fun x0 x1 x2 => tok_set w3 w b _ _ _ _ k2.out HBs.out H2.out x0 x1 x2)
    obtain ⟨p0, p1, p2, f0, f1, f2⟩ := blk_cells k2.out
    clear k2 H2
    have hs := hS.out (.int .i64 5) (.string ⟨#[]⟩) (.int .i64 (p : Int))
    go_wp2
    obtain ⟨hs1, hs2⟩ := hs
    have d0 := (blk_cells hs1).1
    have d1 := (blk_cells hs1).2.1
    have d2 := (blk_cells hs1).2.2.1
    clear hs1
    generalize World.setCell _ _ _ = W9 at *
    refine bodyPost_ret (v := .tuple #[tkV (5, [], (p : Int)), .int .i64 (p : Int), .bool false]) ?_ rfl ?_
    · simp [results, Tryz.f28, go_sem, d0, d1, d2, tkV]
    · exact ⟨OneA.bad 5 [] p _ _, hs2⟩
  · have hn1 : ¬ tt = [] := fun e => by rw [e] at htl; exact hn htl.symm
    have hn2 : (tt == []) = false := by rw [beq_eq_false_iff_ne]; exact hn1
    have hn3 : ((ByteArray.mk ⟨tt⟩).toList == []) = false := by rw [mk_toList]; exact hn2
    have hn4 : ¬ (ByteArray.mk ⟨tt⟩ = ByteArray.mk #[]) := fun e => hn1 (by injection e with e; injection e)
    have Hn := hidJ hn
    clear hn htl
    go_enter Tryz.func28, Tryz.ntmps28
    go_wp2_with fail
    have H0 := hidJ (World.grownBy_alloc w (.cells #[.int .i64 0, .string ⟨#[]⟩, .int .i64 0] 24) none)
    have c0 := hidJ (show (w.alloc (.cells #[.int .i64 0, .string ⟨#[]⟩, .int .i64 0] 24)).heap[w.heap.size]? = some (.cells #[.int .i64 0, .string ⟨#[]⟩, .int .i64 0] 24 (0, 0)) from alloc_at _ _)
    generalize w.alloc (.cells #[.int .i64 0, .string ⟨#[]⟩, .int .i64 0] 24) = W0 at *
    obtain ⟨b, hb⟩ : ∃ b, w.heap.size = b := ⟨_, rfl⟩
    have HBs := hidJ (Nat.le_of_eq hb)
    rw [hb] at c0
    simp only [hb]
    clear hb
    refine (HL.out _).mono ?_
    rintro e w1 ⟨rfl, rfl⟩
    go_wp2_with fail
    refine (HD.out _).mono ?_
    rintro e w2 ⟨rfl, hw⟩
    have hw := hw.symm
    subst hw
    clear HD HL
    go_wp2_with fail
    refine (HSi.out _).mono ?_
    rintro e w3 ⟨rfl, hg3⟩
    have H2 := hidJ (gb_none H0.out hg3)
    have k2 := hidJ (blk_keep c0.out hg3)
    clear hg3 H0 c0 HSi
    have hS := hidJ (fun x0 x1 x2 => tok_set w3 w b _ _ _ _ k2.out HBs.out H2.out x0 x1 x2)
    obtain ⟨p0, p1, p2, f0, f1, f2⟩ := blk_cells k2.out
    clear k2 H2
    have hs := hS.out (.int .i64 5) (.string (ByteArray.mk ⟨tt⟩)) (.int .i64 (p : Int))
    go_wp2
    obtain ⟨hs1, hs2⟩ := hs
    have d0 := (blk_cells hs1).1
    have d1 := (blk_cells hs1).2.1
    have d2 := (blk_cells hs1).2.2.1
    clear hs1
    generalize World.setCell _ _ _ = W9 at *
    refine bodyPost_ret (v := .tuple #[tkV (5, tt, (p : Int)), .int .i64 ((p : Int) + (n : Int)), .bool true]) ?_ rfl ?_
    · simp [results, Tryz.f28, go_sem, d0, d1, d2, tkV]
    · exact ⟨OneA.good 5 tt n p _ Hn.out (by omega), hs2⟩
end Go.Proofs.YtifjdfmmafbhkaaGreatDoor
