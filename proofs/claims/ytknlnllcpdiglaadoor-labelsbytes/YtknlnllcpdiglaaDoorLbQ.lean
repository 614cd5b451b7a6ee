/-
  A value in quotes: what quoted comes to where no sign is escaped: the walk.
-/
import Derived.Test.YtknlnllcpdiglaaDoorLbV
namespace Go.Proofs.YtknlnllcpdiglaaDoor
open Go.RowKit

set_option maxRecDepth 8000 in
set_option maxHeartbeats 3200000 in
theorem quoted_plain (w : World) (s : List UInt8) (hs : s.length ≤ 1000000) (hp : ∀ j, j < s.length → (s.getD j 0).toNat ≠ 34 ∧ (s.getD j 0).toNat ≠ 92 ∧ (s.getD j 0).toNat ≠ 10) :
    Calls Tryd.prog 64 #[.string (ByteArray.mk ⟨s⟩)] w fun e w' => e = .returned (.string (ByteArray.mk ⟨34 :: s ++ [34]⟩)) ∧ w.grownBy w' none := by
  have hz : (ByteArray.mk ⟨s⟩).size = s.length := rfl
  have HP : Hid (∀ j, j < s.length → (s.getD j 0).toNat ≠ 34 ∧ (s.getD j 0).toNat ≠ 92 ∧ (s.getD j 0).toNat ≠ 10) := hp
  clear hp
  go_enter Tryd.func64, Tryd.ntmps64
  go_wp2_with fail
  have HB0 : Hid (Bld (w.alloc (.cells #[.pointer none, .slice none 0 0] 103)) w.heap.size w.heap.size [] ∧ w.grownBy (w.alloc (.cells #[.pointer none, .slice none 0 0] 103)) none) :=
    ⟨Lib.fresh_isBuilder 103 5 w, World.grownBy_alloc _ _ _⟩
  generalize w.alloc (.cells #[.pointer none, .slice none 0 0] 103) = W0 at *
  refine (bWriteByte W0 _ _ _ 34 HB0.out.1 (by simp) HB0.out.2.size).mono ?_
  rintro e w1 ⟨rfl, hb1, hl1⟩
  have H1 : Hid (Bld w1 w.heap.size w.heap.size [34] ∧ Below w.heap.size w w1) := ⟨hb1, (gb_below HB0.out.2).trans hl1⟩
  clear hb1 hl1 HB0
  go_wp2
  go_loopw [9] (fun i wr => ∃ j : Nat, j ≤ s.length ∧ i = .int .i64 j ∧ Hid (Bld wr w.heap.size w.heap.size (34 :: s.take j) ∧ Below w.heap.size w wr)) (fun i _ => s.length - (intOf i).toNat)
  case atStart => exact ⟨0, by omega, rfl, by simpa using H1.out.1, H1.out.2⟩
  case round =>
    obtain ⟨j, hj, rfl, hr⟩ := hrel
    by_cases hjl : j < s.length
    · have hbn := byte_at hjl
      have hji : (j : Int) < (s.length : Int) := by omega
      have hc := HP.out j hjl
      have e1 : (((s.getD j 0).toNat : Int) == 34) = false := by rw [beq_eq_false_iff_ne]; omega
      have e2 : (((s.getD j 0).toNat : Int) == 92) = false := by rw [beq_eq_false_iff_ne]; omega
      have e3 : (((s.getD j 0).toNat : Int) == 10) = false := by rw [beq_eq_false_iff_ne]; omega
      have e1' : ¬ ((s.getD j 0).toNat : Int) = 34 := by omega
      have e2' : ¬ ((s.getD j 0).toNat : Int) = 92 := by omega
      have e3' : ¬ ((s.getD j 0).toNat : Int) = 10 := by omega
      have HX : Hid ((34 :: s.take j) ++ [s.getD j 0] = 34 :: s.take (j + 1)) := by
        show (34 :: s.take j) ++ [s.getD j 0] = 34 :: s.take (j + 1)
        rw [List.take_succ_eq_append_getElem hjl]
        have : s.getD j 0 = s[j] := by simp [hjl]
        rw [this]
        rfl
      clear hc
      generalize s.getD j 0 = x at *
      go_wp2_with fail
      refine (bWriteByte wr _ _ _ x hr.out.1 (by simp; omega) hr.out.2.size).mono ?_
      rintro e w2 ⟨rfl, hb2, hl2⟩
      rw [HX.out] at hb2
      have H2 : Hid (Bld w2 w.heap.size w.heap.size (34 :: s.take (j + 1)) ∧ Below w.heap.size w w2) := ⟨hb2, hr.out.2.trans hl2⟩
      clear hb2 hl2 hr
      go_wp2
      go_roundw
      case rel => exact ⟨j + 1, by omega, by simp, H2.out⟩
      case measure => simp [intOf]; omega
    · have hji : ¬ (j : Int) < (s.length : Int) := by omega
      have hjs : s.take j = s := List.take_of_length_le (by omega)
      rw [hjs] at hr
      have HL : Hid (s.length ≤ 1000000) := hs
      clear hjs
      go_wp2_with fail
      refine (bWriteByte wr _ _ _ 34 hr.out.1 (by simp; omega) hr.out.2.size).mono ?_
      rintro e w2 ⟨rfl, hb2, hl2⟩
      have H2 : Hid (Bld w2 w.heap.size w.heap.size (34 :: s ++ [34]) ∧ Below w.heap.size w w2) := ⟨hb2, hr.out.2.trans hl2⟩
      clear hb2 hl2 hr
      go_wp2_with fail
      refine (bString w2 _ _ _ H2.out.1 H2.out.2.size).mono ?_
      rintro e w3 ⟨rfl, hl3⟩
      have H3 : Hid (Below w.heap.size w w3) := H2.out.2.trans hl3
      clear H2 hl3
      go_wp2
      go_ret
      exact ⟨rfl, gb_of_below H3.out⟩
end Go.Proofs.YtknlnllcpdiglaaDoor
