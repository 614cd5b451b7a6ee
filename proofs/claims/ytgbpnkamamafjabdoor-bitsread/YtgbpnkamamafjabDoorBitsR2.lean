/-
  What the document's In, Row, Low, Write and Form come to: the walks.
-/
import Derived.Test.YtgbpnkamamafjabDoorBitsR
namespace Go.Proofs.YtgbpnkamamafjabDoor
open Go.RowKit

theorem in_any (n : Int) (r : Nat) (w : World) (h0 : 1 ≤ r) (hr : r < 8) :
    Calls Tryd.prog 48 #[.int .i64 n, .int .i64 (wd r : Int)] w fun e w' => e = .returned (.bool (fitsR n r)) ∧ w' = w := by
  have hr0 : ¬ r = 0 := by omega
  by_cases h1 : -(half r) < n
  · by_cases h2 : n ≤ half r
    · have H : Hid (fitsR n r = true) := by show fitsR n r = true; unfold fitsR; rw [if_neg hr0]; exact decide_eq_true ⟨h1, h2⟩
      generalize fitsR n r = b at *
      rcases (show r = 1 ∨ r = 2 ∨ r = 3 ∨ r = 4 ∨ r = 5 ∨ r = 6 ∨ r = 7 by omega) with rfl | rfl | rfl | rfl | rfl | rfl | rfl
      all_goals simp only [half, wd, List.getD_cons_succ, List.getD_cons_zero] at h1 h2 ⊢
      all_goals go_enter Tryd.func48, Tryd.ntmps48
      all_goals go_wp2
      all_goals go_ret
      all_goals exact ⟨ret_bool H.out.symm, rfl⟩
    · have H : Hid (fitsR n r = false) := by show fitsR n r = false; unfold fitsR; rw [if_neg hr0]; exact decide_eq_false (fun h => h2 h.2)
      generalize fitsR n r = b at *
      rcases (show r = 1 ∨ r = 2 ∨ r = 3 ∨ r = 4 ∨ r = 5 ∨ r = 6 ∨ r = 7 by omega) with rfl | rfl | rfl | rfl | rfl | rfl | rfl
      all_goals simp only [half, wd, List.getD_cons_succ, List.getD_cons_zero] at h1 h2 ⊢
      all_goals go_enter Tryd.func48, Tryd.ntmps48
      all_goals go_wp2
      all_goals go_ret
      all_goals exact ⟨ret_bool H.out.symm, rfl⟩
  · have H : Hid (fitsR n r = false) := by show fitsR n r = false; unfold fitsR; rw [if_neg hr0]; exact decide_eq_false (fun h => h1 h.1)
    generalize fitsR n r = b at *
    rcases (show r = 1 ∨ r = 2 ∨ r = 3 ∨ r = 4 ∨ r = 5 ∨ r = 6 ∨ r = 7 by omega) with rfl | rfl | rfl | rfl | rfl | rfl | rfl
    all_goals simp only [half, wd, List.getD_cons_succ, List.getD_cons_zero] at h1 ⊢
    all_goals go_enter Tryd.func48, Tryd.ntmps48
    all_goals go_wp2
    all_goals go_ret
    all_goals exact ⟨ret_bool H.out.symm, rfl⟩

theorem rowFrom_step (n : Int) (r : Nat) (h : r < 8) : rowFrom n (8 - r) r = if fitsR n r = true then r else rowFrom n (8 - (r + 1)) (r + 1) := by
  obtain ⟨f, hf⟩ : ∃ f, 8 - r = f + 1 := ⟨8 - r - 1, by omega⟩
  have hf2 : 8 - (r + 1) = f := by omega
  rw [hf, hf2, rowFrom]

theorem rowN_zero : rowN 0 = 0 := by
  unfold rowN
  rw [rowFrom]
  simp [fitsR]
theorem rowN_pos {n : Int} (h : n ≠ 0) : rowN n = rowFrom n 7 1 := by
  unfold rowN
  rw [rowFrom]
  simp [fitsR, h]
theorem rowFrom_end (n : Int) (r : Nat) : rowFrom n 0 r = r := by rw [rowFrom]

set_option maxHeartbeats 1600000 in
theorem row_any (n : Int) (w : World) : Calls Tryd.prog 41 #[.int .i64 n] w fun e w' => e = .returned (.int .i64 (rowN n : Int)) ∧ w.grownBy w' none := by
  by_cases hn : n = 0
  · subst hn
    have HE : Hid ((0 : Int) = (rowN 0 : Int)) := by show (0 : Int) = (rowN 0 : Int); rw [rowN_zero]; rfl
    generalize rowN 0 = R at *
    go_enter Tryd.func41, Tryd.ntmps41
    go_wp2
    go_ret
    exact ⟨ret_int HE.out, gb_refl _ _⟩
  · have hb0 : (n == 0) = false := by simpa using hn
    have HN : Hid (rowN n = rowFrom n (8 - 1) 1) := rowN_pos hn
    clear hn
    generalize rowN n = R at *
    go_enter Tryd.func41, Tryd.ntmps41
    go_wp2
    go_loopw [3] (fun i wr => ∃ r : Nat, 1 ≤ r ∧ r ≤ 8 ∧ i = .int .i64 r ∧ Hid (R = rowFrom n (8 - r) r ∧ w.grownBy wr none)) (fun i _ => 8 - (intOf i).toNat)
    case atStart => exact ⟨1, by omega, by omega, rfl, HN.out, gb_refl _ _⟩
    case round =>
      obtain ⟨r, hr1, hr, rfl, hR⟩ := hrel
      by_cases h8 : r < 8
      · have he : Hid (rowFrom n (8 - r) r = if fitsR n r = true then r else rowFrom n (8 - (r + 1)) (r + 1)) := rowFrom_step n r h8
        have HI : Hid (∀ w', Calls Tryd.prog 48 #[.int .i64 n, .int .i64 (wd r : Int)] w' fun e w'' => e = .returned (.bool (fitsR n r)) ∧ w'' = w') := fun w' => in_any n r w' hr1 h8
        have HWd : Hid (∀ w', Calls Tryd.prog 42 #[.int .i64 (r : Int)] w' fun e w'' => e = .returned (.int .i64 (wd r : Int)) ∧ w'.grownBy w'' none) := fun w' => width_any r w' (by omega)
        generalize wd r = q at *
        cases hf : fitsR n r with
        | true =>
          rw [hf] at he HI
          have HE : Hid ((r : Int) = (R : Int)) := by show (r : Int) = (R : Int); rw [hR.out.1, he.out, if_pos rfl]
          have HG : Hid (w.grownBy wr none) := hR.out.2
          clear he hR HN hf
          go_wp2_with fail
          refine (HWd.out _).mono ?_
          rintro e w1 ⟨rfl, hg1⟩
          have HG1 : Hid (w.grownBy w1 none) := gb_none HG.out hg1
          clear hg1 HG
          go_wp2_with fail
          refine (HI.out _).mono ?_
          rintro e w2 ⟨rfl, rfl⟩
          go_wp2
          go_ret
          exact ⟨ret_int HE.out, HG1.out⟩
        | false =>
          rw [hf] at he HI
          have HE : Hid (R = rowFrom n (8 - (r + 1)) (r + 1)) := by show R = _; rw [hR.out.1, he.out, if_neg (by simp)]
          have HG : Hid (w.grownBy wr none) := hR.out.2
          clear he hR HN hf
          go_wp2_with fail
          refine (HWd.out _).mono ?_
          rintro e w1 ⟨rfl, hg1⟩
          have HG1 : Hid (w.grownBy w1 none) := gb_none HG.out hg1
          clear hg1 HG
          go_wp2_with fail
          refine (HI.out _).mono ?_
          rintro e w2 ⟨rfl, rfl⟩
          go_wp2
          go_roundw
          case rel => exact ⟨r + 1, by omega, by omega, by go_num, HE.out, HG1.out⟩
          case measure => simp [intOf]; omega
      · obtain rfl : r = 8 := by omega
        have HE : Hid ((8 : Int) = (R : Int)) := by show (8 : Int) = (R : Int); rw [hR.out.1, rowFrom_end]; rfl
        have HG : Hid (w.grownBy wr none) := hR.out.2
        clear hR HN
        go_wp2
        go_ret
        exact ⟨ret_int HE.out, HG.out⟩

theorem I64_inj {x y : BitVec 64} (h : I64 x = I64 y) : x = y := by
  apply BitVec.eq_of_toNat_eq
  simp only [I64] at h
  omega
theorem and_mask (x : BitVec 64) (k m : Nat) (hm : m = 2 ^ k - 1) (hk : k < 64) : bits .and .u64 (I64 x) (m : Int) = I64 (BitVec.ofNat 64 (x.toNat % 2 ^ k)) := by
  have hx := x.isLt
  have h2 : (2 : Nat) ^ k ≤ 2 ^ 63 := Nat.pow_le_pow_right (by decide) (by omega)
  have e63 : (2 : Nat) ^ 63 = 9223372036854775808 := by decide
  have h := u64_and_nat x.toNat m hx (by omega)
  rw [hm, Nat.and_two_pow_sub_one_eq_mod] at h
  unfold I64
  rw [hm]
  refine Eq.trans h ?_
  have : x.toNat % 2 ^ k < 2 ^ k := Nat.mod_lt _ (Nat.pow_pos (by decide))
  rw [BitVec.toNat_ofNat]
  omega
theorem bitsOf_mod (x k : Nat) : ∀ j, j ≤ k → bitsOf (x % 2 ^ k) j = bitsOf x j := by
  intro j
  induction j with
  | zero => intro _; rfl
  | succ j ih =>
    intro h
    simp only [bitsOf]
    rw [ih (by omega), Nat.testBit_mod_two_pow]
    simp only [List.cons.injEq, and_true]
    have : j < k := by omega
    simp [this]

theorem low_any (n : Int) (x : BitVec 64) (r : Nat) (w : World) (hx : IntKind.u64.wrap n = I64 x) (hr : r ≤ 8) :
    Calls Tryd.prog 44 #[.int .i64 n, .int .i64 (wd r : Int)] w fun e w' => (∃ y : BitVec 64, e = .returned (.int .u64 (I64 y)) ∧ bitsOf y.toNat (wd r) = bitsOf x.toNat (wd r)) ∧ w' = w := by
  have hm : ∀ k, k < 64 → bitsOf (BitVec.ofNat 64 (x.toNat % 2 ^ k)).toNat k = bitsOf x.toNat k := fun k hk => by
    have hlt : x.toNat % 2 ^ k < 2 ^ k := Nat.mod_lt _ (Nat.pow_pos (by decide))
    have h2 : (2 : Nat) ^ k ≤ 2 ^ 63 := Nat.pow_le_pow_right (by decide) (by omega)
    have e63 : (2 : Nat) ^ 63 = 9223372036854775808 := by decide
    have e : (BitVec.ofNat 64 (x.toNat % 2 ^ k)).toNat = x.toNat % 2 ^ k := by rw [BitVec.toNat_ofNat]; omega
    rw [e, bitsOf_mod _ _ _ (Nat.le_refl _)]
  rcases (show r = 0 ∨ r = 1 ∨ r = 2 ∨ r = 3 ∨ r = 4 ∨ r = 5 ∨ r = 6 ∨ r = 7 ∨ r = 8 by omega) with rfl | rfl | rfl | rfl | rfl | rfl | rfl | rfl | rfl
  · have HM : Hid (bitsOf (BitVec.ofNat 64 (x.toNat % 2 ^ 0)).toNat 0 = bitsOf x.toNat 0) := hm 0 (by omega)
    have HA : Hid (bits .and .u64 (I64 x) 0 = I64 (BitVec.ofNat 64 (x.toNat % 2 ^ 0))) := and_mask x 0 0 (by decide) (by omega)
    clear hm
    generalize BitVec.ofNat 64 (x.toNat % 2 ^ 0) = y at *
    show Calls Tryd.prog 44 #[.int .i64 n, .int .i64 0] w fun e w' => (∃ y : BitVec 64, e = .returned (.int .u64 (I64 y)) ∧ bitsOf y.toNat 0 = bitsOf x.toNat 0) ∧ w' = w
    go_enter Tryd.func44, Tryd.ntmps44
    go_wp2
    go_ret
    exact ⟨⟨y, ret_int HA.out, HM.out⟩, rfl⟩
  · have HM : Hid (bitsOf (BitVec.ofNat 64 (x.toNat % 2 ^ 3)).toNat 3 = bitsOf x.toNat 3) := hm 3 (by omega)
    have HA : Hid (bits .and .u64 (I64 x) 7 = I64 (BitVec.ofNat 64 (x.toNat % 2 ^ 3))) := and_mask x 3 7 (by decide) (by omega)
    clear hm
    generalize BitVec.ofNat 64 (x.toNat % 2 ^ 3) = y at *
    show Calls Tryd.prog 44 #[.int .i64 n, .int .i64 3] w fun e w' => (∃ y : BitVec 64, e = .returned (.int .u64 (I64 y)) ∧ bitsOf y.toNat 3 = bitsOf x.toNat 3) ∧ w' = w
    go_enter Tryd.func44, Tryd.ntmps44
    go_wp2
    go_ret
    exact ⟨⟨y, ret_int HA.out, HM.out⟩, rfl⟩
  · have HM : Hid (bitsOf (BitVec.ofNat 64 (x.toNat % 2 ^ 6)).toNat 6 = bitsOf x.toNat 6) := hm 6 (by omega)
    have HA : Hid (bits .and .u64 (I64 x) 63 = I64 (BitVec.ofNat 64 (x.toNat % 2 ^ 6))) := and_mask x 6 63 (by decide) (by omega)
    clear hm
    generalize BitVec.ofNat 64 (x.toNat % 2 ^ 6) = y at *
    show Calls Tryd.prog 44 #[.int .i64 n, .int .i64 6] w fun e w' => (∃ y : BitVec 64, e = .returned (.int .u64 (I64 y)) ∧ bitsOf y.toNat 6 = bitsOf x.toNat 6) ∧ w' = w
    go_enter Tryd.func44, Tryd.ntmps44
    go_wp2
    go_ret
    exact ⟨⟨y, ret_int HA.out, HM.out⟩, rfl⟩
  · have HM : Hid (bitsOf (BitVec.ofNat 64 (x.toNat % 2 ^ 9)).toNat 9 = bitsOf x.toNat 9) := hm 9 (by omega)
    have HA : Hid (bits .and .u64 (I64 x) 511 = I64 (BitVec.ofNat 64 (x.toNat % 2 ^ 9))) := and_mask x 9 511 (by decide) (by omega)
    clear hm
    generalize BitVec.ofNat 64 (x.toNat % 2 ^ 9) = y at *
    show Calls Tryd.prog 44 #[.int .i64 n, .int .i64 9] w fun e w' => (∃ y : BitVec 64, e = .returned (.int .u64 (I64 y)) ∧ bitsOf y.toNat 9 = bitsOf x.toNat 9) ∧ w' = w
    go_enter Tryd.func44, Tryd.ntmps44
    go_wp2
    go_ret
    exact ⟨⟨y, ret_int HA.out, HM.out⟩, rfl⟩
  · have HM : Hid (bitsOf (BitVec.ofNat 64 (x.toNat % 2 ^ 12)).toNat 12 = bitsOf x.toNat 12) := hm 12 (by omega)
    have HA : Hid (bits .and .u64 (I64 x) 4095 = I64 (BitVec.ofNat 64 (x.toNat % 2 ^ 12))) := and_mask x 12 4095 (by decide) (by omega)
    clear hm
    generalize BitVec.ofNat 64 (x.toNat % 2 ^ 12) = y at *
    show Calls Tryd.prog 44 #[.int .i64 n, .int .i64 12] w fun e w' => (∃ y : BitVec 64, e = .returned (.int .u64 (I64 y)) ∧ bitsOf y.toNat 12 = bitsOf x.toNat 12) ∧ w' = w
    go_enter Tryd.func44, Tryd.ntmps44
    go_wp2
    go_ret
    exact ⟨⟨y, ret_int HA.out, HM.out⟩, rfl⟩
  · have HM : Hid (bitsOf (BitVec.ofNat 64 (x.toNat % 2 ^ 18)).toNat 18 = bitsOf x.toNat 18) := hm 18 (by omega)
    have HA : Hid (bits .and .u64 (I64 x) 262143 = I64 (BitVec.ofNat 64 (x.toNat % 2 ^ 18))) := and_mask x 18 262143 (by decide) (by omega)
    clear hm
    generalize BitVec.ofNat 64 (x.toNat % 2 ^ 18) = y at *
    show Calls Tryd.prog 44 #[.int .i64 n, .int .i64 18] w fun e w' => (∃ y : BitVec 64, e = .returned (.int .u64 (I64 y)) ∧ bitsOf y.toNat 18 = bitsOf x.toNat 18) ∧ w' = w
    go_enter Tryd.func44, Tryd.ntmps44
    go_wp2
    go_ret
    exact ⟨⟨y, ret_int HA.out, HM.out⟩, rfl⟩
  · have HM : Hid (bitsOf (BitVec.ofNat 64 (x.toNat % 2 ^ 25)).toNat 25 = bitsOf x.toNat 25) := hm 25 (by omega)
    have HA : Hid (bits .and .u64 (I64 x) 33554431 = I64 (BitVec.ofNat 64 (x.toNat % 2 ^ 25))) := and_mask x 25 33554431 (by decide) (by omega)
    clear hm
    generalize BitVec.ofNat 64 (x.toNat % 2 ^ 25) = y at *
    show Calls Tryd.prog 44 #[.int .i64 n, .int .i64 25] w fun e w' => (∃ y : BitVec 64, e = .returned (.int .u64 (I64 y)) ∧ bitsOf y.toNat 25 = bitsOf x.toNat 25) ∧ w' = w
    go_enter Tryd.func44, Tryd.ntmps44
    go_wp2
    go_ret
    exact ⟨⟨y, ret_int HA.out, HM.out⟩, rfl⟩
  · have HM : Hid (bitsOf (BitVec.ofNat 64 (x.toNat % 2 ^ 56)).toNat 56 = bitsOf x.toNat 56) := hm 56 (by omega)
    have HA : Hid (bits .and .u64 (I64 x) 72057594037927935 = I64 (BitVec.ofNat 64 (x.toNat % 2 ^ 56))) := and_mask x 56 72057594037927935 (by decide) (by omega)
    clear hm
    generalize BitVec.ofNat 64 (x.toNat % 2 ^ 56) = y at *
    show Calls Tryd.prog 44 #[.int .i64 n, .int .i64 56] w fun e w' => (∃ y : BitVec 64, e = .returned (.int .u64 (I64 y)) ∧ bitsOf y.toNat 56 = bitsOf x.toNat 56) ∧ w' = w
    go_enter Tryd.func44, Tryd.ntmps44
    go_wp2
    go_ret
    exact ⟨⟨y, ret_int HA.out, HM.out⟩, rfl⟩
  · clear hm
    show Calls Tryd.prog 44 #[.int .i64 n, .int .i64 64] w fun e w' => (∃ y : BitVec 64, e = .returned (.int .u64 (I64 y)) ∧ bitsOf y.toNat 64 = bitsOf x.toNat 64) ∧ w' = w
    go_enter Tryd.func44, Tryd.ntmps44
    go_wp2
    go_ret
    exact ⟨⟨x, rfl, rfl⟩, rfl⟩
end Go.Proofs.YtgbpnkamamafjabDoor
