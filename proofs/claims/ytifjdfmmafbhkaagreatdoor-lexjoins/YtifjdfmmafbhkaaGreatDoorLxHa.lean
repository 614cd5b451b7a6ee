/-
  Is a text one token of a kind: the document's alone: the walk.
-/
import Derived.Test.YtifjdfmmafbhkaaGreatDoorLxDs
import Derived.Test.YtifjdfmmafbhkaaGreatDoorLxV
namespace Go.Proofs.YtifjdfmmafbhkaaGreatDoor
open Go.RowKit

set_option maxRecDepth 8000 in
set_option maxHeartbeats 3200000 in
theorem refAlone_any (w : World) (l : LxS) (kind : Int) (hl : l.length ≤ 140737488351232) :
    Calls Tryz.prog 14 #[.string (ByteArray.mk ⟨l⟩), .int .i64 kind] w fun e w' => e = .returned (.bool (jusB kind l)) ∧ w.grownBy w' none := by
  have hz : (ByteArray.mk ⟨l⟩).size = l.length := rfl
  by_cases hne : l = []
  · subst hne
    have hj : jusB kind [] = false := by
      unfold jusB
      have : (cutW ([] : LxS)).2.2 = 0 := by have := cutW_le []; simpa using this
      rw [this]
      rfl
    rw [hj]
    clear hj
    go_enter Tryz.func14, Tryz.ntmps14
    go_wp2
    go_ret
    exact ⟨rfl, gb_refl _ _⟩
  · have hp : 0 < l.length := List.length_pos_iff.2 hne
    have HO := hidJ (refOne_any w l 0 hl hp)
    rw [List.drop_zero] at HO
    have hn2 : (l == []) = false := by rw [beq_eq_false_iff_ne]; exact hne
    have hn3 : ((ByteArray.mk ⟨l⟩).toList == []) = false := by rw [mk_toList]; exact hn2
    have hn4 : ¬ (ByteArray.mk ⟨l⟩ = ByteArray.mk #[]) := fun e => hne (by injection e with e; injection e)
    have HJ : Hid (jusB kind l = (decide (0 < (cutW l).2.2) && decide ((cutW l).2.2 = l.length) && decide ((cutW l).1 = kind))) := rfl
    generalize jusB kind l = B at *
    have hcl := cutW_le l
    generalize cutW l = C at *
    obtain ⟨K, tt, N⟩ := C
    dsimp only at *
    by_cases c1 : N = 0
    · subst c1
      have hB : B = false := HJ.out
      subst hB
      clear HJ
      go_enter Tryz.func14, Tryz.ntmps14
      go_wp2_with fail
      refine HO.out.mono ?_
      rintro e w2 ⟨⟨T, k, rfl, -⟩, hg2⟩
      have hd0 : decide ((0 : Nat) ≠ 0) = false := rfl
      simp only [hd0]
      obtain ⟨ka, ta, na⟩ := T
      dsimp only [tkV]
      have H3 := hidJ (gb_none hg2 (World.grownBy_alloc w2 (.cells #[.int .i64 ka, .string (ByteArray.mk ⟨ta⟩), .int .i64 na] 24) none))
      clear hg2 HO
      go_wp2
      go_ret
      exact ⟨rfl, H3.out⟩
    · have HO1 : Hid (Calls Tryz.prog 28 #[.string (ByteArray.mk ⟨l⟩), .int .i64 0] w fun e w' => e = .returned (.tuple #[.agg #[.int .i64 K, .string (ByteArray.mk ⟨tt⟩), .int .i64 0], .int .i64 (N : Int), .bool true]) ∧ w.grownBy w' none) := by
        refine HO.out.mono ?_
        rintro e w2 ⟨⟨T, k, rfl, hT⟩, hg2⟩
        obtain ⟨rfl, rfl⟩ := hT c1
        have hd0 : decide (N ≠ 0) = true := decide_eq_true c1
        refine ⟨?_, hg2⟩
        rw [show (((K, tt, N) : Int × LxS × Nat).2.2 : Nat) = N from rfl, hd0, Nat.zero_add]
        rfl
      rw [decide_eq_true (show 0 < N by omega), Bool.true_and] at HJ
      clear HO
      go_enter Tryz.func14, Tryz.ntmps14
      go_wp2_with fail
      refine HO1.out.mono ?_
      rintro e w2 ⟨rfl, hg2⟩
      have hk3 := alloc_at w2 (.cells #[.int .i64 K, .string (ByteArray.mk ⟨tt⟩), .int .i64 0] 24)
      have d0 := (blk_cells hk3).1
      have H3 := hidJ (gb_none hg2 (World.grownBy_alloc w2 (.cells #[.int .i64 K, .string (ByteArray.mk ⟨tt⟩), .int .i64 0] 24) none))
      clear hg2 HO1 hk3
      by_cases c2 : N = l.length
      · rw [decide_eq_true c2, Bool.true_and] at HJ
        have c2i : ((N : Int) == (l.length : Int)) = true := by rw [beq_iff_eq]; omega
        have c2j : (N : Int) = (l.length : Int) := by omega
        by_cases c3 : K = kind
        · rw [decide_eq_true c3] at HJ
          have hB := HJ.out
          subst hB
          have c3i : (K == kind) = true := by rw [beq_iff_eq]; exact c3
          subst c3
          clear HJ
          go_wp2
          go_ret
          exact ⟨rfl, H3.out⟩
        · rw [decide_eq_false c3] at HJ
          have hB := HJ.out
          subst hB
          have c3i : (K == kind) = false := by rw [beq_eq_false_iff_ne]; exact c3
          clear HJ
          go_wp2
          go_ret
          exact ⟨rfl, H3.out⟩
      · rw [decide_eq_false c2, Bool.false_and] at HJ
        have hB := HJ.out
        subst hB
        have c2i : ((N : Int) == (l.length : Int)) = false := by rw [beq_eq_false_iff_ne]; omega
        have c2j : ¬ (N : Int) = (l.length : Int) := by omega
        clear HJ
        go_wp2
        go_ret
        exact ⟨rfl, H3.out⟩
end Go.Proofs.YtifjdfmmafbhkaaGreatDoor
