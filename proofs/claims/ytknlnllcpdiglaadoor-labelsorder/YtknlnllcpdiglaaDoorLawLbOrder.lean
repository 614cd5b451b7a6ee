/-
  LabelsOrder: label sets have one order, and a hash: the walk.
-/
import Derived.Test.YtknlnllcpdiglaaDoorLbCr
import Derived.Test.YtknlnllcpdiglaaDoorLbHr
import Derived.Test.YtknlnllcpdiglaaDoorLbA7
namespace Go.Proofs.YtknlnllcpdiglaaDoor
open Go.RowKit

set_option maxRecDepth 8000 in
set_option maxHeartbeats 6400000 in
theorem lbOrder_walk (w : World) (va vb vc : Value) (a b c : List LbT) (ha : RdL w va a) (hb : RdL w vb b) (hc : RdL w vc c) (hl : LbIn a) (hT : U8S w) :
    Calls Tryd.prog 6 #[va, vb, vc] w fun e w' => e = .returned (.bool true) ∧ Below w.heap.size w w' := by
  have HT : Hid (U8S w) := hT
  have H1 : Hid (∀ W, w.grownBy W none → Calls Tryd.prog 29 #[va, vb] W fun e w' => e = .returned (.int .i64 (cmpLs a b)) ∧ W.grownBy w' none) := fun W h => compare_any W va vb a b (ha.keep h) (hb.keep h)
  have H2 : Hid (∀ W, w.grownBy W none → Calls Tryd.prog 29 #[vb, vc] W fun e w' => e = .returned (.int .i64 (cmpLs b c)) ∧ W.grownBy w' none) := fun W h => compare_any W vb vc b c (hb.keep h) (hc.keep h)
  have H3 : Hid (∀ W, w.grownBy W none → Calls Tryd.prog 29 #[va, vc] W fun e w' => e = .returned (.int .i64 (cmpLs a c)) ∧ W.grownBy w' none) := fun W h => compare_any W va vc a c (ha.keep h) (hc.keep h)
  have H4 : Hid (∀ W, w.grownBy W none → Calls Tryd.prog 29 #[vb, va] W fun e w' => e = .returned (.int .i64 (-cmpLs a b)) ∧ W.grownBy w' none) := fun W h => by
    have := compare_any W vb va b a (hb.keep h) (ha.keep h)
    rwa [cmpLs_neg a b] at this
  have H5 : Hid (∀ W, w.grownBy W none → Calls Tryd.prog 30 #[va, vb] W fun e w' => e = .returned (.int .i64 (cmpLs a b)) ∧ W.grownBy w' none) := fun W h => refCompare_any W va vb a b (ha.keep h) (hb.keep h)
  have H6 : Hid (∀ W, w.grownBy W none → Calls Tryd.prog 20 #[va, vb] W fun e w' => e = .returned (.bool (cmpLs a b == 0)) ∧ W.grownBy w' none) := fun W h => by
    have := sameL_any W va vb a b (ha.keep h) (hb.keep h)
    have e : decide (a = b) = (cmpLs a b == 0) := by
      rw [Bool.eq_iff_iff, decide_eq_true_eq, beq_iff_eq, cmpLs_zero]
    rwa [e] at this
  have H7 : Hid (∀ W, w.grownBy W none → Calls Tryd.prog 31 #[va] W fun e w' => e = .returned (.int .u64 (I64 (hashB fnv0 a))) ∧ W.grownBy w' none) := fun W h => hash_any W va a (ha.keep h) hl
  have H8 : Hid (∀ W, w.grownBy W none → Calls Tryd.prog 32 #[va] W fun e w' => e = .returned (.int .u64 (I64 (hashB fnv0 a))) ∧ W.grownBy w' none) := fun W h => refHash_any W va a (ha.keep h) hl
  have hw := cmpLs_ways a b c
  have hi := cmpLs_in a b
  obtain ⟨hi1, hi2⟩ := hi
  clear ha hb hc hl hT
  generalize cmpLs a b = X at *
  generalize cmpLs b c = Y at *
  generalize cmpLs a c = Z at *
  generalize I64 (hashB fnv0 a) = HH at *
  have HW : Hid (0 < X ∨ (X ≤ 0 ∧ 0 < Y) ∨ (X = 0 ∧ Y ≤ 0 ∧ Z ≤ 0) ∨ (X < 0 ∧ Y ≤ 0 ∧ Z < 0)) := hw
  clear hw
  go_enter Tryd.func6, Tryd.ntmps6
  go_wp2_with fail
  refine (H1.out _ (gb_refl _ _)).mono ?_
  rintro e w1 ⟨rfl, hg1⟩
  have G1 : Hid (w.grownBy w1 none) := hg1
  clear hg1 H1
  go_wp2_with fail
  refine (H2.out _ G1.out).mono ?_
  rintro e w2 ⟨rfl, hg2⟩
  have G2 : Hid (w.grownBy w2 none) := gb_none G1.out hg2
  clear hg2 H2 G1
  go_wp2_with fail
  refine (H3.out _ G2.out).mono ?_
  rintro e w3 ⟨rfl, hg3⟩
  have G3 : Hid (w.grownBy w3 none) := gb_none G2.out hg3
  clear hg3 H3 G2
  go_wp2_with fail
  refine (H5.out _ G3.out).mono ?_
  rintro e w4 ⟨rfl, hg4⟩
  have G4 : Hid (w.grownBy w4 none) := gb_none G3.out hg4
  clear hg4 H5 G3
  go_wp2_with fail
  refine (H4.out _ G4.out).mono ?_
  rintro e w5 ⟨rfl, hg5⟩
  have G5 : Hid (w.grownBy w5 none) := gb_none G4.out hg5
  clear hg5 H4 G4
  go_wp2_with fail
  refine (H6.out _ G5.out).mono ?_
  rintro e w6 ⟨rfl, hg6⟩
  have G6 : Hid (w.grownBy w6 none) := gb_none G5.out hg6
  clear hg6 H6 G5
  have qb : ((X == 0) == (X == 0)) = true := by simp
  go_wp2_with fail
  refine (H7.out _ G6.out).mono ?_
  rintro e w7 ⟨rfl, hg7⟩
  have G7 : Hid (w.grownBy w7 none) := gb_none G6.out hg7
  clear hg7 H7 G6
  go_wp2_with fail
  refine (H8.out _ G7.out).mono ?_
  rintro e w8 ⟨rfl, hg8⟩
  have G8 : Hid (w.grownBy w8 none) := gb_none G7.out hg8
  clear hg8 H8 G7 qb
  rcases HW.out with h | ⟨h, h2⟩ | ⟨h, h2, h3⟩ | ⟨h, h2, h3⟩
  · have q1 : ¬ X ≤ 0 := by omega
    have q2 : ¬ X < 0 := by omega
    go_wp2_with fail
    refine (awakeL_any _ (HT.out.keep G8.out)).mono ?_
    rintro e w9 ⟨rfl, hg9⟩
    have G9 : Hid (Below w.heap.size w w9) := gb_below (gb_none G8.out hg9)
    clear hg9 G8
    go_wp2
    go_ret
    exact ⟨rfl, G9.out⟩
  · have q1 : ¬ Y ≤ 0 := by omega
    by_cases hx : X < 0
    · clear h
      have h : X ≤ 0 := by omega
      go_wp2_with fail
      refine (awakeL_any _ (HT.out.keep G8.out)).mono ?_
      rintro e w9 ⟨rfl, hg9⟩
      have G9 : Hid (Below w.heap.size w w9) := gb_below (gb_none G8.out hg9)
      clear hg9 G8
      go_wp2
      go_ret
      exact ⟨rfl, G9.out⟩
    · obtain rfl : X = 0 := by omega
      clear h hx
      go_wp2_with fail
      refine (awakeL_any _ (HT.out.keep G8.out)).mono ?_
      rintro e w9 ⟨rfl, hg9⟩
      have G9 : Hid (Below w.heap.size w w9) := gb_below (gb_none G8.out hg9)
      clear hg9 G8
      go_wp2
      go_ret
      exact ⟨rfl, G9.out⟩
  · subst h
    have q1 : ¬ 0 < Z := by omega
    go_wp2_with fail
    refine (awakeL_any _ (HT.out.keep G8.out)).mono ?_
    rintro e w9 ⟨rfl, hg9⟩
    have G9 : Hid (Below w.heap.size w w9) := gb_below (gb_none G8.out hg9)
    clear hg9 G8
    go_wp2
    go_ret
    exact ⟨rfl, G9.out⟩
  · have q1 : ¬ 0 < Z := by omega
    have q2 : ¬ 0 ≤ Z := by omega
    have q3 : X ≤ 0 := by omega
    go_wp2_with fail
    refine (awakeL_any _ (HT.out.keep G8.out)).mono ?_
    rintro e w9 ⟨rfl, hg9⟩
    have G9 : Hid (Below w.heap.size w w9) := gb_below (gb_none G8.out hg9)
    clear hg9 G8
    go_wp2
    go_ret
    exact ⟨rfl, G9.out⟩
end Go.Proofs.YtknlnllcpdiglaaDoor
