/-
  BitsFull is true for every input: a stream takes bits until it has MaxBits of them, and no more.
-/
import Derived.Test.YtgbpnkamamafjabDoorLiftT
import Derived.Test.YtgbpnkamamafjabDoorBitsN
import Derived.Test.YtgbpnkamamafjabDoorBitsR3
import Derived.Deep.CutRange
namespace Go.Proofs.YtgbpnkamamafjabDoor
open Go.ChangeShapes Go.WideShapes Go.ChangeAt Go.RowKit

theorem form_pos (n : Int) (x : BitVec 64) : 1 ≤ (form n x).length := by
  rw [form_len]
  have : 1 ≤ hb (rowN n) := by unfold hb; split <;> omega
  omega
theorem form_le (n : Int) (x : BitVec 64) : (form n x).length ≤ 72 := by
  rw [form_len]
  have := hb_le (rowN n)
  have := wd_le (rowN n)
  omega

set_option maxRecDepth 8000 in
set_option maxHeartbeats 12800000 in
theorem full_walk (times : Int) (x : BitVec 64) (n i : Int) (y : BitVec 64) (w : World) (hT : TabW w) (hy : IntKind.u64.wrap i = I64 y) :
    Calls Tryd.prog 7 #[.int .i64 times, .int .u64 (I64 x), .int .i64 n, .int .i64 i] w fun e w' => e = .returned (.bool true) ∧ Below w.heap.size w w' := by
  have HT : Hid (TabW w) := hT
  have HY : Hid (IntKind.u64.wrap i = I64 y) := hy
  have hf1 := form_pos i y
  have hf2 := form_le i y
  have HFM : Hid (∀ w, Calls Tryd.prog 25 #[.int .i64 i] w fun e w' => ∃ v', e = .returned v' ∧ OwnB w' v' (form i y) ∧ w.grownBy w' none ∧ ∀ k, v'.ownBlock = some k → w.heap.size ≤ k) := fun w => form_any i y w hy
  clear hT hy
  generalize hFL : form i y = FM at *
  have HFL : Hid (form i y = FM) := hFL
  clear hFL
  go_enter Tryd.func7, Tryd.ntmps7
  go_wp2_with fail
  refine (newN w _ (gb_refl _ _)).mono ?_
  rintro e w1 ⟨g, rfl, hw1, -⟩
  have H1 : Hid (WN w w1 g []) := hw1
  clear hw1
  go_upto_if 19 with fail
  go_cut [0] from 15 (fun t wx => ∃ T : Int, 0 ≤ T ∧ t = .int .i64 T ∧ wx = w1)
  case first =>
    by_cases c : times < 0
    · go_wp2_with fail
      go_meet
      exact ⟨0, by omega, rfl, rfl⟩
    · go_wp2_with fail
      go_meet
      exact ⟨times, by omega, rfl, rfl⟩
  case rest =>
  obtain ⟨T0, hT0, rfl, rfl⟩ := hcut
  go_upto_if 21 with fail
  go_cut [0] from 15 (fun t wx => ∃ T : Nat, T ≤ 131072 ∧ t = .int .i64 (T : Int) ∧ wx = wc)
  case first =>
    by_cases c : 131072 < T0
    · go_wp2_with fail
      go_meet
      exact ⟨131072, by omega, rfl, rfl⟩
    · obtain ⟨T1, rfl⟩ := Int.eq_ofNat_of_zero_le hT0
      go_wp2_with fail
      go_meet
      exact ⟨T1, by omega, rfl, rfl⟩
  case rest =>
  obtain ⟨T, hTT, rfl, rfl⟩ := hcut
  clear hT0
  go_wp2
  go_loopw [10] (fun k wr => ∃ m : Nat, m ≤ T ∧ k = .int .i64 (m : Int) ∧ Hid (∃ cur, WN w wr g cur ∧ cur.length = 64 * m)) (fun k _ => T - (intOf k).toNat)
  case atStart => exact ⟨0, by omega, rfl, [], H1.out, by simp⟩
  case round =>
    obtain ⟨m, hm, rfl, hr⟩ := hrel
    obtain ⟨cur, hwn, hcl⟩ := hr.out
    have H : Hid (WN w wr g cur ∧ cur.length = 64 * m) := ⟨hwn, hcl⟩
    clear hr hwn hcl
    by_cases hmT : m < T
    · have hcd : Hid (bCode x 64 cur.length = 0) := by
        have hc := H.out.2
        have hx := x.isLt
        show bCode x 64 cur.length = 0
        unfold bCode
        rw [if_neg, if_neg]
        · show ¬ 8388608 < cur.length + 64
          omega
        · rintro (h | h | ⟨-, -, h⟩)
          · omega
          · omega
          · exact h hx
      go_wp2_with fail
      refine (wbitsN w _ g cur x 64 H.out.1 (by have := H.out.2; omega)).mono ?_
      rintro e w2 ⟨he, hw2⟩
      rw [hcd.out] at he
      subst he
      have H2 : Hid (∃ cur, WN w w2 g cur ∧ cur.length = 64 * (m + 1)) := by
        refine ⟨_, hw2, ?_⟩
        unfold bNew
        rw [if_pos hcd.out, List.length_append, bitsOf_len, H.out.2]
        show 64 * m + 64 = 64 * (m + 1)
        omega
      clear hw2 H hcd
      go_wp2
      go_roundw
      case rel => exact ⟨m + 1, by omega, by go_num, H2⟩
      case measure => simp [intOf]; omega
    · obtain rfl : m = T := by omega
      have hcl := H.out.2
      have HCL : Hid (cur.length = 64 * m) := hcl
      clear H1
      by_cases hb : bBad x n
      · have hsh : Hid (0 ≤ n ∧ n ≤ 64 → (n < 64 ∧ (I64 x / 2 ^ n.toNat != 0) = true)) := by
          rintro ⟨h1, h2⟩
          rcases hb with h | h | ⟨_, _, h3⟩
          · omega
          · omega
          · refine ⟨?_, by rw [bne_iff_ne]; exact shr_some h3⟩
            by_cases he : n = 64
            · subst he
              exact absurd x.isLt h3
            · omega
        have HE : Hid (bCode x n cur.length = 1) := if_pos hb
        have HN : Hid (bNew x n cur = cur) := by show bNew x n cur = cur; unfold bNew; rw [HE.out]; rfl
        have hD : (cur.length : Int) = 64 * (m : Int) := by omega
        by_cases c1 : n < 0
        · clear hb hsh
          go_wp2_with fail
          refine (wbitsN w _ g cur x n H.out.1 (by omega)).mono ?_
          rintro e w2 ⟨he, hw2⟩
          rw [HE.out] at he
          subst he
          rw [HN.out] at hw2
          have H2 : Hid (WN w w2 g cur) := hw2
          clear hw2 H
          go_wp2_with fail
          refine (wlenN w _ g _ H2.out).mono ?_
          rintro e w3 ⟨he, rfl⟩
          rw [hD] at he
          subst he
          clear HE HN
          have hD0 : 0 ≤ 64 * (m : Int) ∧ 64 * (m : Int) ≤ 8388608 := by omega
          have hD1 := hD0.1
          have hD2 := hD0.2
          clear hcl hTT hm hmT HCL hD0
          generalize cur = cur2 at *
          generalize 64 * (m : Int) = D at *
          by_cases hfu : (8388608 : Int) ≤ D
          · have hL : 8388608 < cur2.length + (form i y).length := by rw [HFL.out]; omega
            have hL2 : cur2.length ≤ 8388608 := by omega
            have HC : Hid (oCode cur2.length = 8 ∧ oNew true cur2 = cur2 ∧ iCode i y cur2.length = 8 ∧ iNew i y cur2 = cur2) := ⟨if_pos (by omega), if_pos (by omega), if_pos hL, if_pos hL⟩
            have hgt : (8388608 : Int) < D + (FM.length : Int) := by omega
            have hnl : ¬ (D : Int) < 8388608 := by omega
            have HD : Hid ((cur2.length : Int) = D) := hD
            clear hL
            go_wp2_with fail
            refine (HFM.out _).mono ?_
            rintro e w4 ⟨v4, rfl, ho4, hg4, -⟩
            obtain ⟨a4, c4, hv4⟩ := ho4.shape
            subst hv4
            have H4 : Hid (WN w w4 g cur2) := H2.out.keep hg4
            clear ho4 hg4 H2
            go_wp2_with fail
            refine (wbitN w _ g cur2 true H4.out hL2).mono ?_
            rintro e w5 ⟨he, hw5⟩
            rw [HC.out.1] at he
            subst he
            rw [HC.out.2.1] at hw5
            have H5 : Hid (WN w w5 g cur2) := hw5
            clear hw5 H4
            go_wp2_with fail
            refine (wintN w _ g cur2 i y H5.out HT.out HY.out hL2).mono ?_
            rintro e w6 ⟨he, hw6⟩
            rw [HC.out.2.2.1] at he
            subst he
            rw [HC.out.2.2.2] at hw6
            have H6 : Hid (WN w w6 g cur2) := hw6
            clear hw6 H5
            go_wp2_with fail
            refine (wlenN w _ g _ H6.out).mono ?_
            rintro e w7 ⟨he, rfl⟩
            rw [HD.out] at he
            subst he
            go_wp2_with fail
            refine (awake_any _).mono ?_
            rintro e w8 ⟨rfl, hg8⟩
            have H8 : Hid (Below w.heap.size w w8) := gb_below (gb_none H6.out.2.1 hg8)
            clear hg8 H6
            go_wp2
            go_ret
            exact ⟨rfl, H8.out⟩
          · by_cases hgu : (8388608 : Int) < D + 1 + (FM.length : Int)
            · have hL2 : cur2.length ≤ 8388608 := by omega
              have hl1 : (cur2 ++ [true]).length = cur2.length + 1 := by rw [List.length_append]; rfl
              have hL : 8388608 < (cur2 ++ [true]).length + (form i y).length := by rw [HFL.out, hl1]; omega
              have HC : Hid (oCode cur2.length = 0 ∧ oNew true cur2 = cur2 ++ [true] ∧ iCode i y (cur2 ++ [true]).length = 8 ∧ iNew i y (cur2 ++ [true]) = cur2 ++ [true]) := ⟨if_neg (by omega), if_neg (by omega), if_pos hL, if_pos hL⟩
              have hL3 : (cur2 ++ [true]).length ≤ 8388608 := by rw [hl1]; omega
              have HD : Hid (((cur2 ++ [true]).length : Int) = D + 1) := by show ((cur2 ++ [true]).length : Int) = D + 1; rw [hl1]; omega
              have hnl : (D : Int) < 8388608 := by omega
              clear hL hl1
              generalize cur2 ++ [true] = cur3 at *
              go_wp2_with fail
              refine (HFM.out _).mono ?_
              rintro e w4 ⟨v4, rfl, ho4, hg4, -⟩
              obtain ⟨a4, c4, hv4⟩ := ho4.shape
              subst hv4
              have H4 : Hid (WN w w4 g cur2) := H2.out.keep hg4
              clear ho4 hg4 H2
              go_wp2_with fail
              refine (wbitN w _ g cur2 true H4.out hL2).mono ?_
              rintro e w5 ⟨he, hw5⟩
              rw [HC.out.1] at he
              subst he
              rw [HC.out.2.1] at hw5
              have H5 : Hid (WN w w5 g cur3) := hw5
              clear hw5 H4
              go_wp2_with fail
              refine (wintN w _ g cur3 i y H5.out HT.out HY.out hL3).mono ?_
              rintro e w6 ⟨he, hw6⟩
              rw [HC.out.2.2.1] at he
              subst he
              rw [HC.out.2.2.2] at hw6
              have H6 : Hid (WN w w6 g cur3) := hw6
              clear hw6 H5
              go_wp2_with fail
              refine (wlenN w _ g _ H6.out).mono ?_
              rintro e w7 ⟨he, rfl⟩
              rw [HD.out] at he
              subst he
              go_wp2_with fail
              refine (awake_any _).mono ?_
              rintro e w8 ⟨rfl, hg8⟩
              have H8 : Hid (Below w.heap.size w w8) := gb_below (gb_none H6.out.2.1 hg8)
              clear hg8 H6
              go_wp2
              go_ret
              exact ⟨rfl, H8.out⟩
            · have hL2 : cur2.length ≤ 8388608 := by omega
              have hl1 : (cur2 ++ [true]).length = cur2.length + 1 := by rw [List.length_append]; rfl
              have hl2 : (cur2 ++ [true] ++ form i y).length = cur2.length + 1 + FM.length := by rw [List.length_append, hl1, HFL.out]
              have hL : ¬ 8388608 < (cur2 ++ [true]).length + (form i y).length := by rw [HFL.out, hl1]; omega
              have HC : Hid (oCode cur2.length = 0 ∧ oNew true cur2 = cur2 ++ [true] ∧ iCode i y (cur2 ++ [true]).length = 0 ∧ iNew i y (cur2 ++ [true]) = cur2 ++ [true] ++ form i y) := ⟨if_neg (by omega), if_neg (by omega), if_neg hL, if_neg hL⟩
              have hL3 : (cur2 ++ [true]).length ≤ 8388608 := by rw [hl1]; omega
              have HD : Hid (((cur2 ++ [true] ++ form i y).length : Int) = D + 1 + (FM.length : Int)) := by show ((cur2 ++ [true] ++ form i y).length : Int) = D + 1 + (FM.length : Int); rw [hl2]; omega
              have hnl : (D : Int) < 8388608 := by omega
              clear hL hl1 hl2
              generalize cur2 ++ [true] ++ form i y = cur4 at *
              generalize cur2 ++ [true] = cur3 at *
              go_wp2_with fail
              refine (HFM.out _).mono ?_
              rintro e w4 ⟨v4, rfl, ho4, hg4, -⟩
              obtain ⟨a4, c4, hv4⟩ := ho4.shape
              subst hv4
              have H4 : Hid (WN w w4 g cur2) := H2.out.keep hg4
              clear ho4 hg4 H2
              go_wp2_with fail
              refine (HFM.out _).mono ?_
              rintro e w5 ⟨v5, rfl, ho5, hg5, -⟩
              obtain ⟨a5, c5, hv5⟩ := ho5.shape
              subst hv5
              have H5 : Hid (WN w w5 g cur2) := H4.out.keep hg5
              clear ho5 hg5 H4
              go_wp2_with fail
              refine (wbitN w _ g cur2 true H5.out hL2).mono ?_
              rintro e w6 ⟨he, hw6⟩
              rw [HC.out.1] at he
              subst he
              rw [HC.out.2.1] at hw6
              have H6 : Hid (WN w w6 g cur3) := hw6
              clear hw6 H5
              go_wp2_with fail
              refine (wintN w _ g cur3 i y H6.out HT.out HY.out hL3).mono ?_
              rintro e w7 ⟨he, hw7⟩
              rw [HC.out.2.2.1] at he
              subst he
              rw [HC.out.2.2.2] at hw7
              have H7 : Hid (WN w w7 g cur4) := hw7
              clear hw7 H6
              go_wp2_with fail
              refine (wlenN w _ g _ H7.out).mono ?_
              rintro e w8 ⟨he, rfl⟩
              rw [HD.out] at he
              subst he
              go_wp2_with fail
              refine (awake_any _).mono ?_
              rintro e w9 ⟨rfl, hg9⟩
              have H9 : Hid (Below w.heap.size w w9) := gb_below (gb_none H7.out.2.1 hg9)
              clear hg9 H7
              go_wp2
              go_ret
              exact ⟨rfl, H9.out⟩
        · by_cases c2 : 64 < n
          · clear hb hsh
            go_wp2_with fail
            refine (wbitsN w _ g cur x n H.out.1 (by omega)).mono ?_
            rintro e w2 ⟨he, hw2⟩
            rw [HE.out] at he
            subst he
            rw [HN.out] at hw2
            have H2 : Hid (WN w w2 g cur) := hw2
            clear hw2 H
            go_wp2_with fail
            refine (wlenN w _ g _ H2.out).mono ?_
            rintro e w3 ⟨he, rfl⟩
            rw [hD] at he
            subst he
            clear HE HN
            have hD0 : 0 ≤ 64 * (m : Int) ∧ 64 * (m : Int) ≤ 8388608 := by omega
            have hD1 := hD0.1
            have hD2 := hD0.2
            clear hcl hTT hm hmT HCL hD0
            generalize cur = cur2 at *
            generalize 64 * (m : Int) = D at *
            by_cases hfu : (8388608 : Int) ≤ D
            · have hL : 8388608 < cur2.length + (form i y).length := by rw [HFL.out]; omega
              have hL2 : cur2.length ≤ 8388608 := by omega
              have HC : Hid (oCode cur2.length = 8 ∧ oNew true cur2 = cur2 ∧ iCode i y cur2.length = 8 ∧ iNew i y cur2 = cur2) := ⟨if_pos (by omega), if_pos (by omega), if_pos hL, if_pos hL⟩
              have hgt : (8388608 : Int) < D + (FM.length : Int) := by omega
              have hnl : ¬ (D : Int) < 8388608 := by omega
              have HD : Hid ((cur2.length : Int) = D) := hD
              clear hL
              go_wp2_with fail
              refine (HFM.out _).mono ?_
              rintro e w4 ⟨v4, rfl, ho4, hg4, -⟩
              obtain ⟨a4, c4, hv4⟩ := ho4.shape
              subst hv4
              have H4 : Hid (WN w w4 g cur2) := H2.out.keep hg4
              clear ho4 hg4 H2
              go_wp2_with fail
              refine (wbitN w _ g cur2 true H4.out hL2).mono ?_
              rintro e w5 ⟨he, hw5⟩
              rw [HC.out.1] at he
              subst he
              rw [HC.out.2.1] at hw5
              have H5 : Hid (WN w w5 g cur2) := hw5
              clear hw5 H4
              go_wp2_with fail
              refine (wintN w _ g cur2 i y H5.out HT.out HY.out hL2).mono ?_
              rintro e w6 ⟨he, hw6⟩
              rw [HC.out.2.2.1] at he
              subst he
              rw [HC.out.2.2.2] at hw6
              have H6 : Hid (WN w w6 g cur2) := hw6
              clear hw6 H5
              go_wp2_with fail
              refine (wlenN w _ g _ H6.out).mono ?_
              rintro e w7 ⟨he, rfl⟩
              rw [HD.out] at he
              subst he
              go_wp2_with fail
              refine (awake_any _).mono ?_
              rintro e w8 ⟨rfl, hg8⟩
              have H8 : Hid (Below w.heap.size w w8) := gb_below (gb_none H6.out.2.1 hg8)
              clear hg8 H6
              go_wp2
              go_ret
              exact ⟨rfl, H8.out⟩
            · by_cases hgu : (8388608 : Int) < D + 1 + (FM.length : Int)
              · have hL2 : cur2.length ≤ 8388608 := by omega
                have hl1 : (cur2 ++ [true]).length = cur2.length + 1 := by rw [List.length_append]; rfl
                have hL : 8388608 < (cur2 ++ [true]).length + (form i y).length := by rw [HFL.out, hl1]; omega
                have HC : Hid (oCode cur2.length = 0 ∧ oNew true cur2 = cur2 ++ [true] ∧ iCode i y (cur2 ++ [true]).length = 8 ∧ iNew i y (cur2 ++ [true]) = cur2 ++ [true]) := ⟨if_neg (by omega), if_neg (by omega), if_pos hL, if_pos hL⟩
                have hL3 : (cur2 ++ [true]).length ≤ 8388608 := by rw [hl1]; omega
                have HD : Hid (((cur2 ++ [true]).length : Int) = D + 1) := by show ((cur2 ++ [true]).length : Int) = D + 1; rw [hl1]; omega
                have hnl : (D : Int) < 8388608 := by omega
                clear hL hl1
                generalize cur2 ++ [true] = cur3 at *
                go_wp2_with fail
                refine (HFM.out _).mono ?_
                rintro e w4 ⟨v4, rfl, ho4, hg4, -⟩
                obtain ⟨a4, c4, hv4⟩ := ho4.shape
                subst hv4
                have H4 : Hid (WN w w4 g cur2) := H2.out.keep hg4
                clear ho4 hg4 H2
                go_wp2_with fail
                refine (wbitN w _ g cur2 true H4.out hL2).mono ?_
                rintro e w5 ⟨he, hw5⟩
                rw [HC.out.1] at he
                subst he
                rw [HC.out.2.1] at hw5
                have H5 : Hid (WN w w5 g cur3) := hw5
                clear hw5 H4
                go_wp2_with fail
                refine (wintN w _ g cur3 i y H5.out HT.out HY.out hL3).mono ?_
                rintro e w6 ⟨he, hw6⟩
                rw [HC.out.2.2.1] at he
                subst he
                rw [HC.out.2.2.2] at hw6
                have H6 : Hid (WN w w6 g cur3) := hw6
                clear hw6 H5
                go_wp2_with fail
                refine (wlenN w _ g _ H6.out).mono ?_
                rintro e w7 ⟨he, rfl⟩
                rw [HD.out] at he
                subst he
                go_wp2_with fail
                refine (awake_any _).mono ?_
                rintro e w8 ⟨rfl, hg8⟩
                have H8 : Hid (Below w.heap.size w w8) := gb_below (gb_none H6.out.2.1 hg8)
                clear hg8 H6
                go_wp2
                go_ret
                exact ⟨rfl, H8.out⟩
              · have hL2 : cur2.length ≤ 8388608 := by omega
                have hl1 : (cur2 ++ [true]).length = cur2.length + 1 := by rw [List.length_append]; rfl
                have hl2 : (cur2 ++ [true] ++ form i y).length = cur2.length + 1 + FM.length := by rw [List.length_append, hl1, HFL.out]
                have hL : ¬ 8388608 < (cur2 ++ [true]).length + (form i y).length := by rw [HFL.out, hl1]; omega
                have HC : Hid (oCode cur2.length = 0 ∧ oNew true cur2 = cur2 ++ [true] ∧ iCode i y (cur2 ++ [true]).length = 0 ∧ iNew i y (cur2 ++ [true]) = cur2 ++ [true] ++ form i y) := ⟨if_neg (by omega), if_neg (by omega), if_neg hL, if_neg hL⟩
                have hL3 : (cur2 ++ [true]).length ≤ 8388608 := by rw [hl1]; omega
                have HD : Hid (((cur2 ++ [true] ++ form i y).length : Int) = D + 1 + (FM.length : Int)) := by show ((cur2 ++ [true] ++ form i y).length : Int) = D + 1 + (FM.length : Int); rw [hl2]; omega
                have hnl : (D : Int) < 8388608 := by omega
                clear hL hl1 hl2
                generalize cur2 ++ [true] ++ form i y = cur4 at *
                generalize cur2 ++ [true] = cur3 at *
                go_wp2_with fail
                refine (HFM.out _).mono ?_
                rintro e w4 ⟨v4, rfl, ho4, hg4, -⟩
                obtain ⟨a4, c4, hv4⟩ := ho4.shape
                subst hv4
                have H4 : Hid (WN w w4 g cur2) := H2.out.keep hg4
                clear ho4 hg4 H2
                go_wp2_with fail
                refine (HFM.out _).mono ?_
                rintro e w5 ⟨v5, rfl, ho5, hg5, -⟩
                obtain ⟨a5, c5, hv5⟩ := ho5.shape
                subst hv5
                have H5 : Hid (WN w w5 g cur2) := H4.out.keep hg5
                clear ho5 hg5 H4
                go_wp2_with fail
                refine (wbitN w _ g cur2 true H5.out hL2).mono ?_
                rintro e w6 ⟨he, hw6⟩
                rw [HC.out.1] at he
                subst he
                rw [HC.out.2.1] at hw6
                have H6 : Hid (WN w w6 g cur3) := hw6
                clear hw6 H5
                go_wp2_with fail
                refine (wintN w _ g cur3 i y H6.out HT.out HY.out hL3).mono ?_
                rintro e w7 ⟨he, hw7⟩
                rw [HC.out.2.2.1] at he
                subst he
                rw [HC.out.2.2.2] at hw7
                have H7 : Hid (WN w w7 g cur4) := hw7
                clear hw7 H6
                go_wp2_with fail
                refine (wlenN w _ g _ H7.out).mono ?_
                rintro e w8 ⟨he, rfl⟩
                rw [HD.out] at he
                subst he
                go_wp2_with fail
                refine (awake_any _).mono ?_
                rintro e w9 ⟨rfl, hg9⟩
                have H9 : Hid (Below w.heap.size w w9) := gb_below (gb_none H7.out.2.1 hg9)
                clear hg9 H7
                go_wp2
                go_ret
                exact ⟨rfl, H9.out⟩
          · obtain ⟨q, rfl⟩ := Int.eq_ofNat_of_zero_le (show 0 ≤ n by omega)
            have hs1 := hsh.out ⟨by omega, by omega⟩
            rw [Int.toNat_natCast] at hs1
            have hs2 := hs1.1
            have hs3 := hs1.2
            clear hb hsh hs1
            go_wp2_with fail
            refine (wbitsN w _ g cur x (q : Int) H.out.1 (by omega)).mono ?_
            rintro e w2 ⟨he, hw2⟩
            rw [HE.out] at he
            subst he
            rw [HN.out] at hw2
            have H2 : Hid (WN w w2 g cur) := hw2
            clear hw2 H
            go_wp2_with fail
            refine (wlenN w _ g _ H2.out).mono ?_
            rintro e w3 ⟨he, rfl⟩
            rw [hD] at he
            subst he
            clear HE HN
            have hD0 : 0 ≤ 64 * (m : Int) ∧ 64 * (m : Int) ≤ 8388608 := by omega
            have hD1 := hD0.1
            have hD2 := hD0.2
            clear hcl hTT hm hmT HCL hD0
            generalize cur = cur2 at *
            generalize 64 * (m : Int) = D at *
            by_cases hfu : (8388608 : Int) ≤ D
            · have hL : 8388608 < cur2.length + (form i y).length := by rw [HFL.out]; omega
              have hL2 : cur2.length ≤ 8388608 := by omega
              have HC : Hid (oCode cur2.length = 8 ∧ oNew true cur2 = cur2 ∧ iCode i y cur2.length = 8 ∧ iNew i y cur2 = cur2) := ⟨if_pos (by omega), if_pos (by omega), if_pos hL, if_pos hL⟩
              have hgt : (8388608 : Int) < D + (FM.length : Int) := by omega
              have hnl : ¬ (D : Int) < 8388608 := by omega
              have HD : Hid ((cur2.length : Int) = D) := hD
              clear hL
              go_wp2_with fail
              refine (HFM.out _).mono ?_
              rintro e w4 ⟨v4, rfl, ho4, hg4, -⟩
              obtain ⟨a4, c4, hv4⟩ := ho4.shape
              subst hv4
              have H4 : Hid (WN w w4 g cur2) := H2.out.keep hg4
              clear ho4 hg4 H2
              go_wp2_with fail
              refine (wbitN w _ g cur2 true H4.out hL2).mono ?_
              rintro e w5 ⟨he, hw5⟩
              rw [HC.out.1] at he
              subst he
              rw [HC.out.2.1] at hw5
              have H5 : Hid (WN w w5 g cur2) := hw5
              clear hw5 H4
              go_wp2_with fail
              refine (wintN w _ g cur2 i y H5.out HT.out HY.out hL2).mono ?_
              rintro e w6 ⟨he, hw6⟩
              rw [HC.out.2.2.1] at he
              subst he
              rw [HC.out.2.2.2] at hw6
              have H6 : Hid (WN w w6 g cur2) := hw6
              clear hw6 H5
              go_wp2_with fail
              refine (wlenN w _ g _ H6.out).mono ?_
              rintro e w7 ⟨he, rfl⟩
              rw [HD.out] at he
              subst he
              go_wp2_with fail
              refine (awake_any _).mono ?_
              rintro e w8 ⟨rfl, hg8⟩
              have H8 : Hid (Below w.heap.size w w8) := gb_below (gb_none H6.out.2.1 hg8)
              clear hg8 H6
              go_wp2
              go_ret
              exact ⟨rfl, H8.out⟩
            · by_cases hgu : (8388608 : Int) < D + 1 + (FM.length : Int)
              · have hL2 : cur2.length ≤ 8388608 := by omega
                have hl1 : (cur2 ++ [true]).length = cur2.length + 1 := by rw [List.length_append]; rfl
                have hL : 8388608 < (cur2 ++ [true]).length + (form i y).length := by rw [HFL.out, hl1]; omega
                have HC : Hid (oCode cur2.length = 0 ∧ oNew true cur2 = cur2 ++ [true] ∧ iCode i y (cur2 ++ [true]).length = 8 ∧ iNew i y (cur2 ++ [true]) = cur2 ++ [true]) := ⟨if_neg (by omega), if_neg (by omega), if_pos hL, if_pos hL⟩
                have hL3 : (cur2 ++ [true]).length ≤ 8388608 := by rw [hl1]; omega
                have HD : Hid (((cur2 ++ [true]).length : Int) = D + 1) := by show ((cur2 ++ [true]).length : Int) = D + 1; rw [hl1]; omega
                have hnl : (D : Int) < 8388608 := by omega
                clear hL hl1
                generalize cur2 ++ [true] = cur3 at *
                go_wp2_with fail
                refine (HFM.out _).mono ?_
                rintro e w4 ⟨v4, rfl, ho4, hg4, -⟩
                obtain ⟨a4, c4, hv4⟩ := ho4.shape
                subst hv4
                have H4 : Hid (WN w w4 g cur2) := H2.out.keep hg4
                clear ho4 hg4 H2
                go_wp2_with fail
                refine (wbitN w _ g cur2 true H4.out hL2).mono ?_
                rintro e w5 ⟨he, hw5⟩
                rw [HC.out.1] at he
                subst he
                rw [HC.out.2.1] at hw5
                have H5 : Hid (WN w w5 g cur3) := hw5
                clear hw5 H4
                go_wp2_with fail
                refine (wintN w _ g cur3 i y H5.out HT.out HY.out hL3).mono ?_
                rintro e w6 ⟨he, hw6⟩
                rw [HC.out.2.2.1] at he
                subst he
                rw [HC.out.2.2.2] at hw6
                have H6 : Hid (WN w w6 g cur3) := hw6
                clear hw6 H5
                go_wp2_with fail
                refine (wlenN w _ g _ H6.out).mono ?_
                rintro e w7 ⟨he, rfl⟩
                rw [HD.out] at he
                subst he
                go_wp2_with fail
                refine (awake_any _).mono ?_
                rintro e w8 ⟨rfl, hg8⟩
                have H8 : Hid (Below w.heap.size w w8) := gb_below (gb_none H6.out.2.1 hg8)
                clear hg8 H6
                go_wp2
                go_ret
                exact ⟨rfl, H8.out⟩
              · have hL2 : cur2.length ≤ 8388608 := by omega
                have hl1 : (cur2 ++ [true]).length = cur2.length + 1 := by rw [List.length_append]; rfl
                have hl2 : (cur2 ++ [true] ++ form i y).length = cur2.length + 1 + FM.length := by rw [List.length_append, hl1, HFL.out]
                have hL : ¬ 8388608 < (cur2 ++ [true]).length + (form i y).length := by rw [HFL.out, hl1]; omega
                have HC : Hid (oCode cur2.length = 0 ∧ oNew true cur2 = cur2 ++ [true] ∧ iCode i y (cur2 ++ [true]).length = 0 ∧ iNew i y (cur2 ++ [true]) = cur2 ++ [true] ++ form i y) := ⟨if_neg (by omega), if_neg (by omega), if_neg hL, if_neg hL⟩
                have hL3 : (cur2 ++ [true]).length ≤ 8388608 := by rw [hl1]; omega
                have HD : Hid (((cur2 ++ [true] ++ form i y).length : Int) = D + 1 + (FM.length : Int)) := by show ((cur2 ++ [true] ++ form i y).length : Int) = D + 1 + (FM.length : Int); rw [hl2]; omega
                have hnl : (D : Int) < 8388608 := by omega
                clear hL hl1 hl2
                generalize cur2 ++ [true] ++ form i y = cur4 at *
                generalize cur2 ++ [true] = cur3 at *
                go_wp2_with fail
                refine (HFM.out _).mono ?_
                rintro e w4 ⟨v4, rfl, ho4, hg4, -⟩
                obtain ⟨a4, c4, hv4⟩ := ho4.shape
                subst hv4
                have H4 : Hid (WN w w4 g cur2) := H2.out.keep hg4
                clear ho4 hg4 H2
                go_wp2_with fail
                refine (HFM.out _).mono ?_
                rintro e w5 ⟨v5, rfl, ho5, hg5, -⟩
                obtain ⟨a5, c5, hv5⟩ := ho5.shape
                subst hv5
                have H5 : Hid (WN w w5 g cur2) := H4.out.keep hg5
                clear ho5 hg5 H4
                go_wp2_with fail
                refine (wbitN w _ g cur2 true H5.out hL2).mono ?_
                rintro e w6 ⟨he, hw6⟩
                rw [HC.out.1] at he
                subst he
                rw [HC.out.2.1] at hw6
                have H6 : Hid (WN w w6 g cur3) := hw6
                clear hw6 H5
                go_wp2_with fail
                refine (wintN w _ g cur3 i y H6.out HT.out HY.out hL3).mono ?_
                rintro e w7 ⟨he, hw7⟩
                rw [HC.out.2.2.1] at he
                subst he
                rw [HC.out.2.2.2] at hw7
                have H7 : Hid (WN w w7 g cur4) := hw7
                clear hw7 H6
                go_wp2_with fail
                refine (wlenN w _ g _ H7.out).mono ?_
                rintro e w8 ⟨he, rfl⟩
                rw [HD.out] at he
                subst he
                go_wp2_with fail
                refine (awake_any _).mono ?_
                rintro e w9 ⟨rfl, hg9⟩
                have H9 : Hid (Below w.heap.size w w9) := gb_below (gb_none H7.out.2.1 hg9)
                clear hg9 H7
                go_wp2
                go_ret
                exact ⟨rfl, H9.out⟩
      · have hb2 := hb
        unfold bBad at hb2
        obtain ⟨q, rfl⟩ := Int.eq_ofNat_of_zero_le (show 0 ≤ n by omega)
        rw [Int.toNat_natCast] at hb2
        have hq : q ≤ 64 := by omega
        have hx : x.toNat < 2 ^ q := by
          by_cases hx : x.toNat < 2 ^ q
          · exact hx
          · exact absurd (.inr (.inr ⟨by omega, by omega, hx⟩)) hb2
        have hz := shr_zero hx
        have c1 : ¬ (q : Int) < 0 := by omega
        have c2 : ¬ (64 : Int) < (q : Int) := by omega
        clear hb2 hx
        by_cases hfl : (8388608 : Int) < 64 * (m : Int) + (q : Int)
        · have HE : Hid (bCode x (q : Int) cur.length = 8) := by show bCode x (q : Int) cur.length = 8; unfold bCode; rw [if_neg hb, Int.toNat_natCast, if_pos (by omega)]
          have HN : Hid (bNew x (q : Int) cur = cur) := by show bNew x (q : Int) cur = cur; unfold bNew; rw [HE.out]; rfl
          have hD : (cur.length : Int) = 64 * (m : Int) := by omega
          clear hb
          by_cases c64 : (q : Int) < 64
          · skip
            go_wp2_with fail
            refine (wbitsN w _ g cur x (q : Int) H.out.1 (by omega)).mono ?_
            rintro e w2 ⟨he, hw2⟩
            rw [HE.out] at he
            subst he
            rw [HN.out] at hw2
            have H2 : Hid (WN w w2 g cur) := hw2
            clear hw2 H
            go_wp2_with fail
            refine (wlenN w _ g _ H2.out).mono ?_
            rintro e w3 ⟨he, rfl⟩
            rw [hD] at he
            subst he
            clear HE HN
            have hD0 : 0 ≤ 64 * (m : Int) ∧ 64 * (m : Int) ≤ 8388608 := by omega
            have hD1 := hD0.1
            have hD2 := hD0.2
            clear hcl hTT hm hmT HCL hD0
            generalize cur = cur2 at *
            generalize 64 * (m : Int) = D at *
            by_cases hfu : (8388608 : Int) ≤ D
            · have hL : 8388608 < cur2.length + (form i y).length := by rw [HFL.out]; omega
              have hL2 : cur2.length ≤ 8388608 := by omega
              have HC : Hid (oCode cur2.length = 8 ∧ oNew true cur2 = cur2 ∧ iCode i y cur2.length = 8 ∧ iNew i y cur2 = cur2) := ⟨if_pos (by omega), if_pos (by omega), if_pos hL, if_pos hL⟩
              have hgt : (8388608 : Int) < D + (FM.length : Int) := by omega
              have hnl : ¬ (D : Int) < 8388608 := by omega
              have HD : Hid ((cur2.length : Int) = D) := hD
              clear hL
              go_wp2_with fail
              refine (HFM.out _).mono ?_
              rintro e w4 ⟨v4, rfl, ho4, hg4, -⟩
              obtain ⟨a4, c4, hv4⟩ := ho4.shape
              subst hv4
              have H4 : Hid (WN w w4 g cur2) := H2.out.keep hg4
              clear ho4 hg4 H2
              go_wp2_with fail
              refine (wbitN w _ g cur2 true H4.out hL2).mono ?_
              rintro e w5 ⟨he, hw5⟩
              rw [HC.out.1] at he
              subst he
              rw [HC.out.2.1] at hw5
              have H5 : Hid (WN w w5 g cur2) := hw5
              clear hw5 H4
              go_wp2_with fail
              refine (wintN w _ g cur2 i y H5.out HT.out HY.out hL2).mono ?_
              rintro e w6 ⟨he, hw6⟩
              rw [HC.out.2.2.1] at he
              subst he
              rw [HC.out.2.2.2] at hw6
              have H6 : Hid (WN w w6 g cur2) := hw6
              clear hw6 H5
              go_wp2_with fail
              refine (wlenN w _ g _ H6.out).mono ?_
              rintro e w7 ⟨he, rfl⟩
              rw [HD.out] at he
              subst he
              go_wp2_with fail
              refine (awake_any _).mono ?_
              rintro e w8 ⟨rfl, hg8⟩
              have H8 : Hid (Below w.heap.size w w8) := gb_below (gb_none H6.out.2.1 hg8)
              clear hg8 H6
              go_wp2
              go_ret
              exact ⟨rfl, H8.out⟩
            · by_cases hgu : (8388608 : Int) < D + 1 + (FM.length : Int)
              · have hL2 : cur2.length ≤ 8388608 := by omega
                have hl1 : (cur2 ++ [true]).length = cur2.length + 1 := by rw [List.length_append]; rfl
                have hL : 8388608 < (cur2 ++ [true]).length + (form i y).length := by rw [HFL.out, hl1]; omega
                have HC : Hid (oCode cur2.length = 0 ∧ oNew true cur2 = cur2 ++ [true] ∧ iCode i y (cur2 ++ [true]).length = 8 ∧ iNew i y (cur2 ++ [true]) = cur2 ++ [true]) := ⟨if_neg (by omega), if_neg (by omega), if_pos hL, if_pos hL⟩
                have hL3 : (cur2 ++ [true]).length ≤ 8388608 := by rw [hl1]; omega
                have HD : Hid (((cur2 ++ [true]).length : Int) = D + 1) := by show ((cur2 ++ [true]).length : Int) = D + 1; rw [hl1]; omega
                have hnl : (D : Int) < 8388608 := by omega
                clear hL hl1
                generalize cur2 ++ [true] = cur3 at *
                go_wp2_with fail
                refine (HFM.out _).mono ?_
                rintro e w4 ⟨v4, rfl, ho4, hg4, -⟩
                obtain ⟨a4, c4, hv4⟩ := ho4.shape
                subst hv4
                have H4 : Hid (WN w w4 g cur2) := H2.out.keep hg4
                clear ho4 hg4 H2
                go_wp2_with fail
                refine (wbitN w _ g cur2 true H4.out hL2).mono ?_
                rintro e w5 ⟨he, hw5⟩
                rw [HC.out.1] at he
                subst he
                rw [HC.out.2.1] at hw5
                have H5 : Hid (WN w w5 g cur3) := hw5
                clear hw5 H4
                go_wp2_with fail
                refine (wintN w _ g cur3 i y H5.out HT.out HY.out hL3).mono ?_
                rintro e w6 ⟨he, hw6⟩
                rw [HC.out.2.2.1] at he
                subst he
                rw [HC.out.2.2.2] at hw6
                have H6 : Hid (WN w w6 g cur3) := hw6
                clear hw6 H5
                go_wp2_with fail
                refine (wlenN w _ g _ H6.out).mono ?_
                rintro e w7 ⟨he, rfl⟩
                rw [HD.out] at he
                subst he
                go_wp2_with fail
                refine (awake_any _).mono ?_
                rintro e w8 ⟨rfl, hg8⟩
                have H8 : Hid (Below w.heap.size w w8) := gb_below (gb_none H6.out.2.1 hg8)
                clear hg8 H6
                go_wp2
                go_ret
                exact ⟨rfl, H8.out⟩
              · have hL2 : cur2.length ≤ 8388608 := by omega
                have hl1 : (cur2 ++ [true]).length = cur2.length + 1 := by rw [List.length_append]; rfl
                have hl2 : (cur2 ++ [true] ++ form i y).length = cur2.length + 1 + FM.length := by rw [List.length_append, hl1, HFL.out]
                have hL : ¬ 8388608 < (cur2 ++ [true]).length + (form i y).length := by rw [HFL.out, hl1]; omega
                have HC : Hid (oCode cur2.length = 0 ∧ oNew true cur2 = cur2 ++ [true] ∧ iCode i y (cur2 ++ [true]).length = 0 ∧ iNew i y (cur2 ++ [true]) = cur2 ++ [true] ++ form i y) := ⟨if_neg (by omega), if_neg (by omega), if_neg hL, if_neg hL⟩
                have hL3 : (cur2 ++ [true]).length ≤ 8388608 := by rw [hl1]; omega
                have HD : Hid (((cur2 ++ [true] ++ form i y).length : Int) = D + 1 + (FM.length : Int)) := by show ((cur2 ++ [true] ++ form i y).length : Int) = D + 1 + (FM.length : Int); rw [hl2]; omega
                have hnl : (D : Int) < 8388608 := by omega
                clear hL hl1 hl2
                generalize cur2 ++ [true] ++ form i y = cur4 at *
                generalize cur2 ++ [true] = cur3 at *
                go_wp2_with fail
                refine (HFM.out _).mono ?_
                rintro e w4 ⟨v4, rfl, ho4, hg4, -⟩
                obtain ⟨a4, c4, hv4⟩ := ho4.shape
                subst hv4
                have H4 : Hid (WN w w4 g cur2) := H2.out.keep hg4
                clear ho4 hg4 H2
                go_wp2_with fail
                refine (HFM.out _).mono ?_
                rintro e w5 ⟨v5, rfl, ho5, hg5, -⟩
                obtain ⟨a5, c5, hv5⟩ := ho5.shape
                subst hv5
                have H5 : Hid (WN w w5 g cur2) := H4.out.keep hg5
                clear ho5 hg5 H4
                go_wp2_with fail
                refine (wbitN w _ g cur2 true H5.out hL2).mono ?_
                rintro e w6 ⟨he, hw6⟩
                rw [HC.out.1] at he
                subst he
                rw [HC.out.2.1] at hw6
                have H6 : Hid (WN w w6 g cur3) := hw6
                clear hw6 H5
                go_wp2_with fail
                refine (wintN w _ g cur3 i y H6.out HT.out HY.out hL3).mono ?_
                rintro e w7 ⟨he, hw7⟩
                rw [HC.out.2.2.1] at he
                subst he
                rw [HC.out.2.2.2] at hw7
                have H7 : Hid (WN w w7 g cur4) := hw7
                clear hw7 H6
                go_wp2_with fail
                refine (wlenN w _ g _ H7.out).mono ?_
                rintro e w8 ⟨he, rfl⟩
                rw [HD.out] at he
                subst he
                go_wp2_with fail
                refine (awake_any _).mono ?_
                rintro e w9 ⟨rfl, hg9⟩
                have H9 : Hid (Below w.heap.size w w9) := gb_below (gb_none H7.out.2.1 hg9)
                clear hg9 H7
                go_wp2
                go_ret
                exact ⟨rfl, H9.out⟩
          · skip
            go_wp2_with fail
            refine (wbitsN w _ g cur x (q : Int) H.out.1 (by omega)).mono ?_
            rintro e w2 ⟨he, hw2⟩
            rw [HE.out] at he
            subst he
            rw [HN.out] at hw2
            have H2 : Hid (WN w w2 g cur) := hw2
            clear hw2 H
            go_wp2_with fail
            refine (wlenN w _ g _ H2.out).mono ?_
            rintro e w3 ⟨he, rfl⟩
            rw [hD] at he
            subst he
            clear HE HN
            have hD0 : 0 ≤ 64 * (m : Int) ∧ 64 * (m : Int) ≤ 8388608 := by omega
            have hD1 := hD0.1
            have hD2 := hD0.2
            clear hcl hTT hm hmT HCL hD0
            generalize cur = cur2 at *
            generalize 64 * (m : Int) = D at *
            by_cases hfu : (8388608 : Int) ≤ D
            · have hL : 8388608 < cur2.length + (form i y).length := by rw [HFL.out]; omega
              have hL2 : cur2.length ≤ 8388608 := by omega
              have HC : Hid (oCode cur2.length = 8 ∧ oNew true cur2 = cur2 ∧ iCode i y cur2.length = 8 ∧ iNew i y cur2 = cur2) := ⟨if_pos (by omega), if_pos (by omega), if_pos hL, if_pos hL⟩
              have hgt : (8388608 : Int) < D + (FM.length : Int) := by omega
              have hnl : ¬ (D : Int) < 8388608 := by omega
              have HD : Hid ((cur2.length : Int) = D) := hD
              clear hL
              go_wp2_with fail
              refine (HFM.out _).mono ?_
              rintro e w4 ⟨v4, rfl, ho4, hg4, -⟩
              obtain ⟨a4, c4, hv4⟩ := ho4.shape
              subst hv4
              have H4 : Hid (WN w w4 g cur2) := H2.out.keep hg4
              clear ho4 hg4 H2
              go_wp2_with fail
              refine (wbitN w _ g cur2 true H4.out hL2).mono ?_
              rintro e w5 ⟨he, hw5⟩
              rw [HC.out.1] at he
              subst he
              rw [HC.out.2.1] at hw5
              have H5 : Hid (WN w w5 g cur2) := hw5
              clear hw5 H4
              go_wp2_with fail
              refine (wintN w _ g cur2 i y H5.out HT.out HY.out hL2).mono ?_
              rintro e w6 ⟨he, hw6⟩
              rw [HC.out.2.2.1] at he
              subst he
              rw [HC.out.2.2.2] at hw6
              have H6 : Hid (WN w w6 g cur2) := hw6
              clear hw6 H5
              go_wp2_with fail
              refine (wlenN w _ g _ H6.out).mono ?_
              rintro e w7 ⟨he, rfl⟩
              rw [HD.out] at he
              subst he
              go_wp2_with fail
              refine (awake_any _).mono ?_
              rintro e w8 ⟨rfl, hg8⟩
              have H8 : Hid (Below w.heap.size w w8) := gb_below (gb_none H6.out.2.1 hg8)
              clear hg8 H6
              go_wp2
              go_ret
              exact ⟨rfl, H8.out⟩
            · by_cases hgu : (8388608 : Int) < D + 1 + (FM.length : Int)
              · have hL2 : cur2.length ≤ 8388608 := by omega
                have hl1 : (cur2 ++ [true]).length = cur2.length + 1 := by rw [List.length_append]; rfl
                have hL : 8388608 < (cur2 ++ [true]).length + (form i y).length := by rw [HFL.out, hl1]; omega
                have HC : Hid (oCode cur2.length = 0 ∧ oNew true cur2 = cur2 ++ [true] ∧ iCode i y (cur2 ++ [true]).length = 8 ∧ iNew i y (cur2 ++ [true]) = cur2 ++ [true]) := ⟨if_neg (by omega), if_neg (by omega), if_pos hL, if_pos hL⟩
                have hL3 : (cur2 ++ [true]).length ≤ 8388608 := by rw [hl1]; omega
                have HD : Hid (((cur2 ++ [true]).length : Int) = D + 1) := by show ((cur2 ++ [true]).length : Int) = D + 1; rw [hl1]; omega
                have hnl : (D : Int) < 8388608 := by omega
                clear hL hl1
                generalize cur2 ++ [true] = cur3 at *
                go_wp2_with fail
                refine (HFM.out _).mono ?_
                rintro e w4 ⟨v4, rfl, ho4, hg4, -⟩
                obtain ⟨a4, c4, hv4⟩ := ho4.shape
                subst hv4
                have H4 : Hid (WN w w4 g cur2) := H2.out.keep hg4
                clear ho4 hg4 H2
                go_wp2_with fail
                refine (wbitN w _ g cur2 true H4.out hL2).mono ?_
                rintro e w5 ⟨he, hw5⟩
                rw [HC.out.1] at he
                subst he
                rw [HC.out.2.1] at hw5
                have H5 : Hid (WN w w5 g cur3) := hw5
                clear hw5 H4
                go_wp2_with fail
                refine (wintN w _ g cur3 i y H5.out HT.out HY.out hL3).mono ?_
                rintro e w6 ⟨he, hw6⟩
                rw [HC.out.2.2.1] at he
                subst he
                rw [HC.out.2.2.2] at hw6
                have H6 : Hid (WN w w6 g cur3) := hw6
                clear hw6 H5
                go_wp2_with fail
                refine (wlenN w _ g _ H6.out).mono ?_
                rintro e w7 ⟨he, rfl⟩
                rw [HD.out] at he
                subst he
                go_wp2_with fail
                refine (awake_any _).mono ?_
                rintro e w8 ⟨rfl, hg8⟩
                have H8 : Hid (Below w.heap.size w w8) := gb_below (gb_none H6.out.2.1 hg8)
                clear hg8 H6
                go_wp2
                go_ret
                exact ⟨rfl, H8.out⟩
              · have hL2 : cur2.length ≤ 8388608 := by omega
                have hl1 : (cur2 ++ [true]).length = cur2.length + 1 := by rw [List.length_append]; rfl
                have hl2 : (cur2 ++ [true] ++ form i y).length = cur2.length + 1 + FM.length := by rw [List.length_append, hl1, HFL.out]
                have hL : ¬ 8388608 < (cur2 ++ [true]).length + (form i y).length := by rw [HFL.out, hl1]; omega
                have HC : Hid (oCode cur2.length = 0 ∧ oNew true cur2 = cur2 ++ [true] ∧ iCode i y (cur2 ++ [true]).length = 0 ∧ iNew i y (cur2 ++ [true]) = cur2 ++ [true] ++ form i y) := ⟨if_neg (by omega), if_neg (by omega), if_neg hL, if_neg hL⟩
                have hL3 : (cur2 ++ [true]).length ≤ 8388608 := by rw [hl1]; omega
                have HD : Hid (((cur2 ++ [true] ++ form i y).length : Int) = D + 1 + (FM.length : Int)) := by show ((cur2 ++ [true] ++ form i y).length : Int) = D + 1 + (FM.length : Int); rw [hl2]; omega
                have hnl : (D : Int) < 8388608 := by omega
                clear hL hl1 hl2
                generalize cur2 ++ [true] ++ form i y = cur4 at *
                generalize cur2 ++ [true] = cur3 at *
                go_wp2_with fail
                refine (HFM.out _).mono ?_
                rintro e w4 ⟨v4, rfl, ho4, hg4, -⟩
                obtain ⟨a4, c4, hv4⟩ := ho4.shape
                subst hv4
                have H4 : Hid (WN w w4 g cur2) := H2.out.keep hg4
                clear ho4 hg4 H2
                go_wp2_with fail
                refine (HFM.out _).mono ?_
                rintro e w5 ⟨v5, rfl, ho5, hg5, -⟩
                obtain ⟨a5, c5, hv5⟩ := ho5.shape
                subst hv5
                have H5 : Hid (WN w w5 g cur2) := H4.out.keep hg5
                clear ho5 hg5 H4
                go_wp2_with fail
                refine (wbitN w _ g cur2 true H5.out hL2).mono ?_
                rintro e w6 ⟨he, hw6⟩
                rw [HC.out.1] at he
                subst he
                rw [HC.out.2.1] at hw6
                have H6 : Hid (WN w w6 g cur3) := hw6
                clear hw6 H5
                go_wp2_with fail
                refine (wintN w _ g cur3 i y H6.out HT.out HY.out hL3).mono ?_
                rintro e w7 ⟨he, hw7⟩
                rw [HC.out.2.2.1] at he
                subst he
                rw [HC.out.2.2.2] at hw7
                have H7 : Hid (WN w w7 g cur4) := hw7
                clear hw7 H6
                go_wp2_with fail
                refine (wlenN w _ g _ H7.out).mono ?_
                rintro e w8 ⟨he, rfl⟩
                rw [HD.out] at he
                subst he
                go_wp2_with fail
                refine (awake_any _).mono ?_
                rintro e w9 ⟨rfl, hg9⟩
                have H9 : Hid (Below w.heap.size w w9) := gb_below (gb_none H7.out.2.1 hg9)
                clear hg9 H7
                go_wp2
                go_ret
                exact ⟨rfl, H9.out⟩
        · have HE : Hid (bCode x (q : Int) cur.length = 0) := by show bCode x (q : Int) cur.length = 0; unfold bCode; rw [if_neg hb, Int.toNat_natCast, if_neg (by omega)]
          have HN : Hid (bNew x (q : Int) cur = cur ++ bitsOf x.toNat q) := by show bNew x (q : Int) cur = _; unfold bNew; rw [HE.out, if_pos rfl, Int.toNat_natCast]
          have hD : ((cur ++ bitsOf x.toNat q).length : Int) = 64 * (m : Int) + (q : Int) := by rw [List.length_append, bitsOf_len]; omega
          clear hb
          by_cases c64 : (q : Int) < 64
          · skip
            go_wp2_with fail
            refine (wbitsN w _ g cur x (q : Int) H.out.1 (by omega)).mono ?_
            rintro e w2 ⟨he, hw2⟩
            rw [HE.out] at he
            subst he
            rw [HN.out] at hw2
            have H2 : Hid (WN w w2 g (cur ++ bitsOf x.toNat q)) := hw2
            clear hw2 H
            go_wp2_with fail
            refine (wlenN w _ g _ H2.out).mono ?_
            rintro e w3 ⟨he, rfl⟩
            rw [hD] at he
            subst he
            clear HE HN
            have hD0 : 0 ≤ (64 * (m : Int) + (q : Int)) ∧ (64 * (m : Int) + (q : Int)) ≤ 8388608 := by omega
            have hD1 := hD0.1
            have hD2 := hD0.2
            clear hcl hTT hm hmT HCL hD0
            generalize (cur ++ bitsOf x.toNat q) = cur2 at *
            generalize (64 * (m : Int) + (q : Int)) = D at *
            by_cases hfu : (8388608 : Int) ≤ D
            · have hL : 8388608 < cur2.length + (form i y).length := by rw [HFL.out]; omega
              have hL2 : cur2.length ≤ 8388608 := by omega
              have HC : Hid (oCode cur2.length = 8 ∧ oNew true cur2 = cur2 ∧ iCode i y cur2.length = 8 ∧ iNew i y cur2 = cur2) := ⟨if_pos (by omega), if_pos (by omega), if_pos hL, if_pos hL⟩
              have hgt : (8388608 : Int) < D + (FM.length : Int) := by omega
              have hnl : ¬ (D : Int) < 8388608 := by omega
              have HD : Hid ((cur2.length : Int) = D) := hD
              clear hL
              go_wp2_with fail
              refine (HFM.out _).mono ?_
              rintro e w4 ⟨v4, rfl, ho4, hg4, -⟩
              obtain ⟨a4, c4, hv4⟩ := ho4.shape
              subst hv4
              have H4 : Hid (WN w w4 g cur2) := H2.out.keep hg4
              clear ho4 hg4 H2
              go_wp2_with fail
              refine (wbitN w _ g cur2 true H4.out hL2).mono ?_
              rintro e w5 ⟨he, hw5⟩
              rw [HC.out.1] at he
              subst he
              rw [HC.out.2.1] at hw5
              have H5 : Hid (WN w w5 g cur2) := hw5
              clear hw5 H4
              go_wp2_with fail
              refine (wintN w _ g cur2 i y H5.out HT.out HY.out hL2).mono ?_
              rintro e w6 ⟨he, hw6⟩
              rw [HC.out.2.2.1] at he
              subst he
              rw [HC.out.2.2.2] at hw6
              have H6 : Hid (WN w w6 g cur2) := hw6
              clear hw6 H5
              go_wp2_with fail
              refine (wlenN w _ g _ H6.out).mono ?_
              rintro e w7 ⟨he, rfl⟩
              rw [HD.out] at he
              subst he
              go_wp2_with fail
              refine (awake_any _).mono ?_
              rintro e w8 ⟨rfl, hg8⟩
              have H8 : Hid (Below w.heap.size w w8) := gb_below (gb_none H6.out.2.1 hg8)
              clear hg8 H6
              go_wp2
              go_ret
              exact ⟨rfl, H8.out⟩
            · by_cases hgu : (8388608 : Int) < D + 1 + (FM.length : Int)
              · have hL2 : cur2.length ≤ 8388608 := by omega
                have hl1 : (cur2 ++ [true]).length = cur2.length + 1 := by rw [List.length_append]; rfl
                have hL : 8388608 < (cur2 ++ [true]).length + (form i y).length := by rw [HFL.out, hl1]; omega
                have HC : Hid (oCode cur2.length = 0 ∧ oNew true cur2 = cur2 ++ [true] ∧ iCode i y (cur2 ++ [true]).length = 8 ∧ iNew i y (cur2 ++ [true]) = cur2 ++ [true]) := ⟨if_neg (by omega), if_neg (by omega), if_pos hL, if_pos hL⟩
                have hL3 : (cur2 ++ [true]).length ≤ 8388608 := by rw [hl1]; omega
                have HD : Hid (((cur2 ++ [true]).length : Int) = D + 1) := by show ((cur2 ++ [true]).length : Int) = D + 1; rw [hl1]; omega
                have hnl : (D : Int) < 8388608 := by omega
                clear hL hl1
                generalize cur2 ++ [true] = cur3 at *
                go_wp2_with fail
                refine (HFM.out _).mono ?_
                rintro e w4 ⟨v4, rfl, ho4, hg4, -⟩
                obtain ⟨a4, c4, hv4⟩ := ho4.shape
                subst hv4
                have H4 : Hid (WN w w4 g cur2) := H2.out.keep hg4
                clear ho4 hg4 H2
                go_wp2_with fail
                refine (wbitN w _ g cur2 true H4.out hL2).mono ?_
                rintro e w5 ⟨he, hw5⟩
                rw [HC.out.1] at he
                subst he
                rw [HC.out.2.1] at hw5
                have H5 : Hid (WN w w5 g cur3) := hw5
                clear hw5 H4
                go_wp2_with fail
                refine (wintN w _ g cur3 i y H5.out HT.out HY.out hL3).mono ?_
                rintro e w6 ⟨he, hw6⟩
                rw [HC.out.2.2.1] at he
                subst he
                rw [HC.out.2.2.2] at hw6
                have H6 : Hid (WN w w6 g cur3) := hw6
                clear hw6 H5
                go_wp2_with fail
                refine (wlenN w _ g _ H6.out).mono ?_
                rintro e w7 ⟨he, rfl⟩
                rw [HD.out] at he
                subst he
                go_wp2_with fail
                refine (awake_any _).mono ?_
                rintro e w8 ⟨rfl, hg8⟩
                have H8 : Hid (Below w.heap.size w w8) := gb_below (gb_none H6.out.2.1 hg8)
                clear hg8 H6
                go_wp2
                go_ret
                exact ⟨rfl, H8.out⟩
              · have hL2 : cur2.length ≤ 8388608 := by omega
                have hl1 : (cur2 ++ [true]).length = cur2.length + 1 := by rw [List.length_append]; rfl
                have hl2 : (cur2 ++ [true] ++ form i y).length = cur2.length + 1 + FM.length := by rw [List.length_append, hl1, HFL.out]
                have hL : ¬ 8388608 < (cur2 ++ [true]).length + (form i y).length := by rw [HFL.out, hl1]; omega
                have HC : Hid (oCode cur2.length = 0 ∧ oNew true cur2 = cur2 ++ [true] ∧ iCode i y (cur2 ++ [true]).length = 0 ∧ iNew i y (cur2 ++ [true]) = cur2 ++ [true] ++ form i y) := ⟨if_neg (by omega), if_neg (by omega), if_neg hL, if_neg hL⟩
                have hL3 : (cur2 ++ [true]).length ≤ 8388608 := by rw [hl1]; omega
                have HD : Hid (((cur2 ++ [true] ++ form i y).length : Int) = D + 1 + (FM.length : Int)) := by show ((cur2 ++ [true] ++ form i y).length : Int) = D + 1 + (FM.length : Int); rw [hl2]; omega
                have hnl : (D : Int) < 8388608 := by omega
                clear hL hl1 hl2
                generalize cur2 ++ [true] ++ form i y = cur4 at *
                generalize cur2 ++ [true] = cur3 at *
                go_wp2_with fail
                refine (HFM.out _).mono ?_
                rintro e w4 ⟨v4, rfl, ho4, hg4, -⟩
                obtain ⟨a4, c4, hv4⟩ := ho4.shape
                subst hv4
                have H4 : Hid (WN w w4 g cur2) := H2.out.keep hg4
                clear ho4 hg4 H2
                go_wp2_with fail
                refine (HFM.out _).mono ?_
                rintro e w5 ⟨v5, rfl, ho5, hg5, -⟩
                obtain ⟨a5, c5, hv5⟩ := ho5.shape
                subst hv5
                have H5 : Hid (WN w w5 g cur2) := H4.out.keep hg5
                clear ho5 hg5 H4
                go_wp2_with fail
                refine (wbitN w _ g cur2 true H5.out hL2).mono ?_
                rintro e w6 ⟨he, hw6⟩
                rw [HC.out.1] at he
                subst he
                rw [HC.out.2.1] at hw6
                have H6 : Hid (WN w w6 g cur3) := hw6
                clear hw6 H5
                go_wp2_with fail
                refine (wintN w _ g cur3 i y H6.out HT.out HY.out hL3).mono ?_
                rintro e w7 ⟨he, hw7⟩
                rw [HC.out.2.2.1] at he
                subst he
                rw [HC.out.2.2.2] at hw7
                have H7 : Hid (WN w w7 g cur4) := hw7
                clear hw7 H6
                go_wp2_with fail
                refine (wlenN w _ g _ H7.out).mono ?_
                rintro e w8 ⟨he, rfl⟩
                rw [HD.out] at he
                subst he
                go_wp2_with fail
                refine (awake_any _).mono ?_
                rintro e w9 ⟨rfl, hg9⟩
                have H9 : Hid (Below w.heap.size w w9) := gb_below (gb_none H7.out.2.1 hg9)
                clear hg9 H7
                go_wp2
                go_ret
                exact ⟨rfl, H9.out⟩
          · skip
            go_wp2_with fail
            refine (wbitsN w _ g cur x (q : Int) H.out.1 (by omega)).mono ?_
            rintro e w2 ⟨he, hw2⟩
            rw [HE.out] at he
            subst he
            rw [HN.out] at hw2
            have H2 : Hid (WN w w2 g (cur ++ bitsOf x.toNat q)) := hw2
            clear hw2 H
            go_wp2_with fail
            refine (wlenN w _ g _ H2.out).mono ?_
            rintro e w3 ⟨he, rfl⟩
            rw [hD] at he
            subst he
            clear HE HN
            have hD0 : 0 ≤ (64 * (m : Int) + (q : Int)) ∧ (64 * (m : Int) + (q : Int)) ≤ 8388608 := by omega
            have hD1 := hD0.1
            have hD2 := hD0.2
            clear hcl hTT hm hmT HCL hD0
            generalize (cur ++ bitsOf x.toNat q) = cur2 at *
            generalize (64 * (m : Int) + (q : Int)) = D at *
            by_cases hfu : (8388608 : Int) ≤ D
            · have hL : 8388608 < cur2.length + (form i y).length := by rw [HFL.out]; omega
              have hL2 : cur2.length ≤ 8388608 := by omega
              have HC : Hid (oCode cur2.length = 8 ∧ oNew true cur2 = cur2 ∧ iCode i y cur2.length = 8 ∧ iNew i y cur2 = cur2) := ⟨if_pos (by omega), if_pos (by omega), if_pos hL, if_pos hL⟩
              have hgt : (8388608 : Int) < D + (FM.length : Int) := by omega
              have hnl : ¬ (D : Int) < 8388608 := by omega
              have HD : Hid ((cur2.length : Int) = D) := hD
              clear hL
              go_wp2_with fail
              refine (HFM.out _).mono ?_
              rintro e w4 ⟨v4, rfl, ho4, hg4, -⟩
              obtain ⟨a4, c4, hv4⟩ := ho4.shape
              subst hv4
              have H4 : Hid (WN w w4 g cur2) := H2.out.keep hg4
              clear ho4 hg4 H2
              go_wp2_with fail
              refine (wbitN w _ g cur2 true H4.out hL2).mono ?_
              rintro e w5 ⟨he, hw5⟩
              rw [HC.out.1] at he
              subst he
              rw [HC.out.2.1] at hw5
              have H5 : Hid (WN w w5 g cur2) := hw5
              clear hw5 H4
              go_wp2_with fail
              refine (wintN w _ g cur2 i y H5.out HT.out HY.out hL2).mono ?_
              rintro e w6 ⟨he, hw6⟩
              rw [HC.out.2.2.1] at he
              subst he
              rw [HC.out.2.2.2] at hw6
              have H6 : Hid (WN w w6 g cur2) := hw6
              clear hw6 H5
              go_wp2_with fail
              refine (wlenN w _ g _ H6.out).mono ?_
              rintro e w7 ⟨he, rfl⟩
              rw [HD.out] at he
              subst he
              go_wp2_with fail
              refine (awake_any _).mono ?_
              rintro e w8 ⟨rfl, hg8⟩
              have H8 : Hid (Below w.heap.size w w8) := gb_below (gb_none H6.out.2.1 hg8)
              clear hg8 H6
              go_wp2
              go_ret
              exact ⟨rfl, H8.out⟩
            · by_cases hgu : (8388608 : Int) < D + 1 + (FM.length : Int)
              · have hL2 : cur2.length ≤ 8388608 := by omega
                have hl1 : (cur2 ++ [true]).length = cur2.length + 1 := by rw [List.length_append]; rfl
                have hL : 8388608 < (cur2 ++ [true]).length + (form i y).length := by rw [HFL.out, hl1]; omega
                have HC : Hid (oCode cur2.length = 0 ∧ oNew true cur2 = cur2 ++ [true] ∧ iCode i y (cur2 ++ [true]).length = 8 ∧ iNew i y (cur2 ++ [true]) = cur2 ++ [true]) := ⟨if_neg (by omega), if_neg (by omega), if_pos hL, if_pos hL⟩
                have hL3 : (cur2 ++ [true]).length ≤ 8388608 := by rw [hl1]; omega
                have HD : Hid (((cur2 ++ [true]).length : Int) = D + 1) := by show ((cur2 ++ [true]).length : Int) = D + 1; rw [hl1]; omega
                have hnl : (D : Int) < 8388608 := by omega
                clear hL hl1
                generalize cur2 ++ [true] = cur3 at *
                go_wp2_with fail
                refine (HFM.out _).mono ?_
                rintro e w4 ⟨v4, rfl, ho4, hg4, -⟩
                obtain ⟨a4, c4, hv4⟩ := ho4.shape
                subst hv4
                have H4 : Hid (WN w w4 g cur2) := H2.out.keep hg4
                clear ho4 hg4 H2
                go_wp2_with fail
                refine (wbitN w _ g cur2 true H4.out hL2).mono ?_
                rintro e w5 ⟨he, hw5⟩
                rw [HC.out.1] at he
                subst he
                rw [HC.out.2.1] at hw5
                have H5 : Hid (WN w w5 g cur3) := hw5
                clear hw5 H4
                go_wp2_with fail
                refine (wintN w _ g cur3 i y H5.out HT.out HY.out hL3).mono ?_
                rintro e w6 ⟨he, hw6⟩
                rw [HC.out.2.2.1] at he
                subst he
                rw [HC.out.2.2.2] at hw6
                have H6 : Hid (WN w w6 g cur3) := hw6
                clear hw6 H5
                go_wp2_with fail
                refine (wlenN w _ g _ H6.out).mono ?_
                rintro e w7 ⟨he, rfl⟩
                rw [HD.out] at he
                subst he
                go_wp2_with fail
                refine (awake_any _).mono ?_
                rintro e w8 ⟨rfl, hg8⟩
                have H8 : Hid (Below w.heap.size w w8) := gb_below (gb_none H6.out.2.1 hg8)
                clear hg8 H6
                go_wp2
                go_ret
                exact ⟨rfl, H8.out⟩
              · have hL2 : cur2.length ≤ 8388608 := by omega
                have hl1 : (cur2 ++ [true]).length = cur2.length + 1 := by rw [List.length_append]; rfl
                have hl2 : (cur2 ++ [true] ++ form i y).length = cur2.length + 1 + FM.length := by rw [List.length_append, hl1, HFL.out]
                have hL : ¬ 8388608 < (cur2 ++ [true]).length + (form i y).length := by rw [HFL.out, hl1]; omega
                have HC : Hid (oCode cur2.length = 0 ∧ oNew true cur2 = cur2 ++ [true] ∧ iCode i y (cur2 ++ [true]).length = 0 ∧ iNew i y (cur2 ++ [true]) = cur2 ++ [true] ++ form i y) := ⟨if_neg (by omega), if_neg (by omega), if_neg hL, if_neg hL⟩
                have hL3 : (cur2 ++ [true]).length ≤ 8388608 := by rw [hl1]; omega
                have HD : Hid (((cur2 ++ [true] ++ form i y).length : Int) = D + 1 + (FM.length : Int)) := by show ((cur2 ++ [true] ++ form i y).length : Int) = D + 1 + (FM.length : Int); rw [hl2]; omega
                have hnl : (D : Int) < 8388608 := by omega
                clear hL hl1 hl2
                generalize cur2 ++ [true] ++ form i y = cur4 at *
                generalize cur2 ++ [true] = cur3 at *
                go_wp2_with fail
                refine (HFM.out _).mono ?_
                rintro e w4 ⟨v4, rfl, ho4, hg4, -⟩
                obtain ⟨a4, c4, hv4⟩ := ho4.shape
                subst hv4
                have H4 : Hid (WN w w4 g cur2) := H2.out.keep hg4
                clear ho4 hg4 H2
                go_wp2_with fail
                refine (HFM.out _).mono ?_
                rintro e w5 ⟨v5, rfl, ho5, hg5, -⟩
                obtain ⟨a5, c5, hv5⟩ := ho5.shape
                subst hv5
                have H5 : Hid (WN w w5 g cur2) := H4.out.keep hg5
                clear ho5 hg5 H4
                go_wp2_with fail
                refine (wbitN w _ g cur2 true H5.out hL2).mono ?_
                rintro e w6 ⟨he, hw6⟩
                rw [HC.out.1] at he
                subst he
                rw [HC.out.2.1] at hw6
                have H6 : Hid (WN w w6 g cur3) := hw6
                clear hw6 H5
                go_wp2_with fail
                refine (wintN w _ g cur3 i y H6.out HT.out HY.out hL3).mono ?_
                rintro e w7 ⟨he, hw7⟩
                rw [HC.out.2.2.1] at he
                subst he
                rw [HC.out.2.2.2] at hw7
                have H7 : Hid (WN w w7 g cur4) := hw7
                clear hw7 H6
                go_wp2_with fail
                refine (wlenN w _ g _ H7.out).mono ?_
                rintro e w8 ⟨he, rfl⟩
                rw [HD.out] at he
                subst he
                go_wp2_with fail
                refine (awake_any _).mono ?_
                rintro e w9 ⟨rfl, hg9⟩
                have H9 : Hid (Below w.heap.size w w9) := gb_below (gb_none H7.out.2.1 hg9)
                clear hg9 H7
                go_wp2
                go_ret
                exact ⟨rfl, H9.out⟩
theorem full_contract (H : Type) (enc : TypeId × Value → H) (W : World) (base : Nat) (args : Array Value) (ds gs : List (DataW H)) (before : List MemPlace)
    (hval : ∀ (j : Nat) t v, Tryd.f7.params[j]? = some t → args[j]? = some v → Value.okWide Tryd.prog W .any base t v)
    (hW : DataW.Whole enc Tryd.prog Tryd.f7.params.toList Rows.bitsFullSpec.vars false W args.toList ds gs before) (hL : laidMetH Tryd.prog Rows.bitsFullRow.laid W) (hk : (DataW.weightsEach Tryd.prog (Tryd.f7.params.toList ++ (OpenSpec.ofChange Rows.bitsFullSpec).bare.plain.varTypes Tryd.prog) (ds ++ gs)).all (· ≤ reachBytes) = true) :
    Calls Tryd.prog 7 args W fun e W' => ∃ v, e = .returned v ∧ Rows.bitsFullSpec.post enc Tryd.prog Tryd.f7 false true false false W args v W' := by
  have hW' := hW
  obtain ⟨p, q, hA0, hV, rfl, hfz, hnd⟩ := hW
  have hA : DataW.TrodAll enc Tryd.prog W 0 (fun _ => true) true Tryd.f7.params.toList args.toList ds p := hA0
  rw [Tryd.params7] at hA hval hk
  obtain ⟨v0, vs0, d0, ds0, p0, q0, hargs, rfl, rfl, h0, r0⟩ := trodAll_cons hA
  obtain ⟨v1, vs1, d1, ds1, p1, q1, rfl, rfl, rfl, h1, r1⟩ := trodAll_cons r0
  obtain ⟨v2, vs2, d2, ds2, p2, q2, rfl, rfl, rfl, h2, r2⟩ := trodAll_cons r1
  obtain ⟨v3, vs3, d3, ds3, p3, q3, rfl, rfl, rfl, h3, r3⟩ := trodAll_cons r2
  obtain ⟨rfl, rfl, rfl⟩ := trodAll_nil r3
  obtain rfl : args = #[v0, v1, v2, v3] := by cases args; simp_all
  obtain ⟨rfl, rfl⟩ := trodVars_none hV
  obtain ⟨z0, rfl, rfl, rfl, wz0⟩ := open_int Tryd.underlying3 (hval 0 3 v0 rfl rfl) h0
  obtain ⟨z1, rfl, rfl, rfl, wz1⟩ := open_int Tryd.underlying29 (hval 1 29 v1 rfl rfl) h1
  obtain ⟨s1, rfl⟩ := u64_of wz1
  obtain ⟨z2, rfl, rfl, rfl, wz2⟩ := open_int Tryd.underlying3 (hval 2 3 v2 rfl rfl) h2
  obtain ⟨z3, rfl, rfl, rfl, wz3⟩ := open_int Tryd.underlying2 (hval 3 2 v3 rfl rfl) h3
  clear hA0
  have hT := tabw_of hL
  refine (full_walk z0 s1 z2 z3 (BitVec.ofInt 64 z3) W hT (wrap_u64 z3)).mono fun e W' ⟨he, bel⟩ => ?_
  subst he
  exact ⟨_, rfl, _, _, _, [], _, [], hW', trodAll_mk1 (shut_bool Tryd.underlying4 _), (trodAll_cons_mk (shut_int Tryd.underlying3 wz0) (trodAll_cons_mk (shut_int Tryd.underlying29 wz1) (trodAll_cons_mk (shut_int Tryd.underlying3 wz2) (trodAll_cons_mk (shut_int Tryd.underlying2 wz3) trodAll_mk0)))), rfl, bel.frame _, fun h => by cases h⟩

theorem full_met (os : Os) : laidMet Tryd.prog Rows.bitsFullRow.laid ((laidWorld os).forCall (fun _ _ => 0) ⟨#[], #[.int .i64 0, .int .u64 0, .int .i64 0, .int .i64 0], []⟩).memory :=
  laidMet_of_run' 8 (by kernel_rfl) (by kernel_rfl)
theorem full_reads (os : Os) {H : Type} (enc : TypeId × Value → H) : ∃ places, DataW.whole enc Tryd.prog ((laidWorld os).forCall (fun _ _ => 0) ⟨#[], #[.int .i64 0, .int .u64 0, .int .i64 0, .int .i64 0], []⟩).memory Tryd.f7.params.toList Rows.bitsFullSpec.vars false #[Value.int .i64 0, Value.int .u64 0, Value.int .i64 0, Value.int .i64 0].toList 8 = some ([.lit (.int .i64 0), .lit (.int .u64 0), .lit (.int .i64 0), .lit (.int .i64 0)], [], places) :=
  ⟨[], by kernel_rfl⟩

set_option maxRecDepth 100000 in
theorem full_lifted (os : Os) (started : os.Started) (H : Type) (enc : TypeId × Value → H) (F : Stop.Interp) :
    ReturnsInHanded {} Tryd.checked os 7 .any ((OpenSpec.ofChange Rows.bitsFullSpec).preRow enc Tryd.prog Tryd.f7 Rows.bitsFullRow.domain false Rows.bitsFullRow.laid) (((OpenSpec.ofChange Rows.bitsFullSpec).at F).post enc Tryd.prog Tryd.f7 false true false false) := by
  obtain ⟨places, hx⟩ := full_reads os enc
  refine returnsInHanded_of_row (C := Tryd.checked) (s := (OpenSpec.ofChange Rows.bitsFullSpec)) own started (by kernel_rfl) Tryd.func7
    (witness_row_at (enc := enc) (C := Tryd.checked) false (laidWorld os) #[.int .i64 0, .int .u64 0, .int .i64 0, .int .i64 0] rfl (by kernel_rfl) (by kernel_rfl) (by kernel_rfl)
      (OpenSpec.preRow_of_cond 8 hx (by kernel_rfl) (fun k hk => by cases hk) (by kernel_rfl) (full_met os))) ?_
  intro W base args ds gs before hval hW _ _ hsz hL _ _
  exact full_contract H enc W base args ds gs before hval hW hL hsz

theorem full_said : Rows.BitsFullSaid :=
  OpenClaim.holds_of_cond 7 Tryd.f7 rfl rfl rfl rfl rfl rfl rfl ⟨rfl, rfl, rfl, rfl, rfl⟩ rfl rfl rfl rfl rfl (by kernel_rfl) Tryd.func7 (by kernel_rfl)
    (of_decide_eq_true (by kernel_rfl)) (by unfold Func.isWrapper; first | (rw [if_pos (by decide +kernel)]; kernel_rfl) | (rw [if_neg (by decide +kernel)]; exact ⟨rfl, rfl⟩))
    (fun os started H enc _ F => by rw [OpenClaim.pre_eq_preRow]; exact full_lifted os started H enc F)

theorem full_inint : Tryd.prog.wantsStandIn 3 = false := by kernel_rfl
theorem full_inint64 : Tryd.prog.wantsStandIn 2 = false := by kernel_rfl
theorem full_inuint64 : Tryd.prog.wantsStandIn 29 = false := by kernel_rfl
theorem full_plain (f : FuncId) (fn : Func) (hf : Tryd.pinned.checked.prog.funcNamed "tocsin/tocsinlaw02.BitsFull" = some f) (hfn : Tryd.pinned.checked.prog.funcs[f]? = some fn) :
    false = Tryd.pinned.checked.prog.looks [] ∧ ∀ (j : Nat) t, fn.params[j]? = some t → Tryd.pinned.checked.prog.wantsStandIn t = false := by
  obtain rfl : f = 7 := Option.some.inj ((show Tryd.prog.funcNamed "tocsin/tocsinlaw02.BitsFull" = some 7 by kernel_rfl).symm.trans hf) |>.symm
  obtain rfl : fn = Tryd.f7 := (Option.some.inj (Tryd.func7.symm.trans hfn)).symm
  refine ⟨by kernel_rfl, fun j t ht => ?_⟩
  rw [Tryd.params7] at ht
  have hm := Array.mem_of_getElem? ht
  simp only [List.mem_toArray, List.mem_cons, List.not_mem_nil, or_false] at hm
  rcases hm with rfl | rfl | rfl | rfl
  · exact full_inint
  · exact full_inuint64
  · exact full_inint
  · exact full_inint64

/-- THE STATEMENT -/
theorem bitsFull_holds : Rows.BitsFullCardSaid :=
  Claim7.holds_tied_plain_at .later [] _ _ _ _ full_said (fun _ h => by cases h) (by kernel_rfl) (fun _ h => by cases h) bitsFull_row_tie rfl ⟨rfl, rfl⟩ (by kernel_rfl) rfl full_plain (by kernel_rfl)
end Go.Proofs.YtgbpnkamamafjabDoor
