/-
  The statements' fixed calls ('known') come to true: the walk.
-/
import Derived.Test.YtfggcmkoihemoaaDoorFrame1
import Derived.Lib.SlBytesConst
namespace Go.Proofs.YtfggcmkoihemoaaDoor
open Go.RowKit

theorem uv300 : uv 300 = [172, 2] := by
  rw [uv_big (by decide), uv_small (by decide)]
  decide
theorem uv1 : uv 1 = [1] := by
  rw [uv_small (by decide)]
  decide
theorem frame_a : frame [97] = [1, 48, 67, 208, 193, 97] := by
  unfold frame
  rw [show ([97] : List UInt8).length = 1 from rfl, uv1, show le4 (crc [97]) = [48, 67, 208, 193] from by decide +kernel]
  rfl
theorem crc_nine : I32 (crc [49, 50, 51, 52, 53, 54, 55, 56, 57]) = 3808858755 := by decide +kernel
theorem u300 : tup3 (uSpec [172, 2] 0) = .tuple #[.int .u64 300, .int .i64 2, .int .i64 0] := by
  have h : uSpec [172, 2] 0 = (300, 2, 0) := by decide +kernel
  rw [h]
  have e : I64 (BitVec.ofNat 64 300) = 300 := by decide
  simp only [tup3, e]
theorem I64_300 : (300 : Int) = I64 (300#64) := by decide
theorem nat300 : (300#64).toNat = 300 := by decide

theorem putU_eq (v : Value) (l : List UInt8) (x : BitVec 64) (X : Int) (hX : X = I64 x) (w : World) (hv : Rd w v l) (hsz : l.length ≤ 175921850000000) :
    Calls Tryd.prog 10 #[v, .int .u64 X] w fun e w' => ∃ v', e = .returned v' ∧ Own w' w.heap.size v' (l ++ uv x.toNat) ∧ w.grownBy w' none := by
  subst hX
  exact putU_any v l x w hv hsz

theorem cell_keep {w w' : World} {g j : Nat} {u : Value} (h : w.cell? ⟨g, j, none⟩ = some u) (hg : w.grownBy w' none) : w'.cell? ⟨g, j, none⟩ = some u := by
  rw [← h]
  exact World.cell?_of_block (hg.block g (block_lt h) (by simp))

theorem conv_const (w : World) (C : Array Value) (n c : Nat) : (convert 22 22 (.slice (some ⟨w.heap.size, 0, none⟩) n c)).run Tryd.prog (w.alloc (.cells C 5)) = .ok (.slice (some ⟨w.heap.size, 0, none⟩) n c) (w.alloc (.cells C 5 (C.size, C.size + 1))) :=
  Go.Lib.run_convert_bytes_const w 22 5 C n c Tryd.underlying22 Tryd.underlying5

set_option maxHeartbeats 1600000 in
theorem known_any (w : World) (hT : TabIn w) : Calls Tryd.prog 21 #[] w fun e w' => e = .returned (.bool true) ∧ w.grownBy w' none := by
  have hT2 : Hid (TabIn w) := hT
  clear hT
  have hcv := conv_const
  go_enter Tryd.func21, Tryd.ntmps21
  go_wp2_with fail
  refine (putU_eq (.slice none 0 0) [] (300#64) _ I64_300 _ (Rd.nil _) (by simp)).mono ?_
  rintro e w1 ⟨v1, rfl, ho1, hg1⟩
  rw [nat300, uv300, List.nil_append] at ho1
  have H1 : Hid (Own w1 w.heap.size v1 [172, 2] ∧ w.grownBy w1 none) := ⟨ho1, hg1⟩
  clear ho1 hg1
  go_wp2_with fail
  refine (u_any v1 [172, 2] _ _ H1.out.1.rd).mono ?_
  rintro e w1' ⟨he, rfl⟩
  rw [u300] at he
  subst he
  go_wp2_with fail
  refine (putFrame_ok (.slice none 0 0) _ [] [97] _ (Rd.nil _) (Rd_lit _ [97] 1 rfl (by simp) _ rfl) (hT2.out.keep0 (gb_none H1.out.2 (alloc_gb _ _))) (by simp) (by simp)).mono ?_
  rintro e w2 ⟨v2, rfl, ho2, hg2⟩
  rw [List.nil_append, frame_a] at ho2
  have G2 : w1'.grownBy w2 none := gb_none (alloc_gb _ _) hg2
  obtain ⟨g, cap, rfl, hg0, hg1, hcap, hcm, hcell⟩ := H1.out.1.form (by simp)
  have c0 : w2.cell? ⟨g, 0, none⟩ = some (.int .u8 172) := cell_keep (hcell 0 (by simp)) G2
  have c1 : w2.cell? ⟨g, 1, none⟩ = some (.int .u8 2) := cell_keep (hcell 1 (by simp)) G2
  have H2 : Hid (w.grownBy w2 none ∧ Rd w2 v2 [1, 48, 67, 208, 193, 97]) := ⟨gb_none H1.out.2 G2, ho2.rd⟩
  clear ho2 hg2 G2 H1 hcell hg0 hg1 hcap hcm
  go_wp2_with fail
  refine (same_any v2 _ [1, 48, 67, 208, 193, 97] [1, 48, 67, 208, 193, 97] _ (H2.out.2.keep (alloc_gb _ _)) (Rd_lit _ [1, 48, 67, 208, 193, 97] 6 rfl (by simp) _ rfl)).mono ?_
  rintro e w3 ⟨he, hg3⟩
  have hd : decide (([1, 48, 67, 208, 193, 97] : List UInt8) = [1, 48, 67, 208, 193, 97]) = true := by decide
  rw [hd] at he
  subst he
  have H3 : Hid (w.grownBy w3 none) := gb_none H2.out.1 (gb_none (alloc_gb _ _) hg3)
  clear hg3 H2 c0 c1 hd
  go_wp2_with fail
  refine (sum_any _ [49, 50, 51, 52, 53, 54, 55, 56, 57] _ (Rd_lit _ [49, 50, 51, 52, 53, 54, 55, 56, 57] 9 rfl (by simp) _ rfl) (hT2.out.keep0 (gb_none H3.out (alloc_gb _ _)))).mono ?_
  rintro e w4 ⟨he, hw4⟩
  rw [crc_nine] at he
  subst he
  have H4 : Hid (w.grownBy w4 none) := by rw [hw4]; exact gb_none H3.out (alloc_gb _ _)
  clear H3 hw4
  go_wp2
  go_ret
  exact ⟨rfl, H4.out⟩
end Go.Proofs.YtfggcmkoihemoaaDoor
