/-
  The rows of a number's form: what fits, rowOf, headBits, head and (*Writer).Int come to: the walks.
-/
import Derived.Test.YtgbpnkamamafjabDoorBitsW2
import Derived.WalkMore
namespace Go.Proofs.YtgbpnkamamafjabDoor
open Go.RowKit

def wd (r : Nat) : Nat := [0, 3, 6, 9, 12, 18, 25, 56, 64].getD r 64
def TabW (w : World) : Prop := ∀ j, j < 9 → w.cell? ⟨0, j, none⟩ = some (.int .i64 (wd j : Int))
theorem TabW.keep {w w' : World} (h : TabW w) (hg : w.grownBy w' none) : TabW w' := fun j hj => by
  rw [← h j hj]
  exact World.cell?_of_block (hg.block _ (block_lt (h j hj)) (by simp))
def half (r : Nat) : Int := [0, 4, 32, 256, 2048, 131072, 16777216, 36028797018963968].getD r 0
/-- does a number stand in this row? -/
def fitsR (n : Int) (r : Nat) : Bool := if r = 0 then n == 0 else decide (-(half r) < n ∧ n ≤ half r)
def rowFrom (n : Int) : Nat → Nat → Nat
  | 0, r => r
  | f + 1, r => if fitsR n r = true then r else rowFrom n f (r + 1)
def rowN (n : Int) : Nat := rowFrom n 8 0
theorem rowFrom_le (n : Int) : ∀ f r, rowFrom n f r ≤ r + f := by
  intro f
  induction f with
  | zero => intro r; simp [rowFrom]
  | succ f ih =>
    intro r
    rw [rowFrom]
    split
    · omega
    · have := ih (r + 1)
      omega
theorem rowN_le (n : Int) : rowN n ≤ 8 := rowFrom_le n 8 0
def hb (r : Nat) : Nat := if r < 8 then r + 1 else 8

theorem fits_any (n : Int) (r : Nat) (w : World) (hr : r < 8) :
    Calls Tryd.prog 47 #[.int .i64 n, .int .i64 (wd r : Int)] w fun e w' => e = .returned (.bool (fitsR n r)) ∧ w' = w := by
  by_cases h0 : r = 0
  · subst h0
    have H : Hid (fitsR n 0 = (n == 0)) := rfl
    generalize fitsR n 0 = b at *
    show Calls Tryd.prog 47 #[.int .i64 n, .int .i64 0] w _
    go_enter Tryd.func47, Tryd.ntmps47
    go_wp2
    go_ret
    exact ⟨ret_bool H.out.symm, rfl⟩
  · by_cases h1 : -(half r) < n
    · by_cases h2 : n ≤ half r
      · have H : Hid (fitsR n r = true) := by show fitsR n r = true; unfold fitsR; rw [if_neg h0]; exact decide_eq_true ⟨h1, h2⟩
        generalize fitsR n r = b at *
        rcases (show r = 1 ∨ r = 2 ∨ r = 3 ∨ r = 4 ∨ r = 5 ∨ r = 6 ∨ r = 7 by omega) with rfl | rfl | rfl | rfl | rfl | rfl | rfl
        all_goals simp only [half, wd, List.getD_cons_succ, List.getD_cons_zero] at h1 h2 ⊢
        all_goals go_enter Tryd.func47, Tryd.ntmps47
        all_goals go_wp2
        all_goals go_ret
        all_goals exact ⟨ret_bool H.out.symm, rfl⟩
      · have H : Hid (fitsR n r = false) := by show fitsR n r = false; unfold fitsR; rw [if_neg h0]; exact decide_eq_false (fun h => h2 h.2)
        generalize fitsR n r = b at *
        rcases (show r = 1 ∨ r = 2 ∨ r = 3 ∨ r = 4 ∨ r = 5 ∨ r = 6 ∨ r = 7 by omega) with rfl | rfl | rfl | rfl | rfl | rfl | rfl
        all_goals simp only [half, wd, List.getD_cons_succ, List.getD_cons_zero] at h1 h2 ⊢
        all_goals go_enter Tryd.func47, Tryd.ntmps47
        all_goals go_wp2
        all_goals go_ret
        all_goals exact ⟨ret_bool (by rw [H.out]), rfl⟩
    · have H : Hid (fitsR n r = false) := by show fitsR n r = false; unfold fitsR; rw [if_neg h0]; exact decide_eq_false (fun h => h1 h.1)
      generalize fitsR n r = b at *
      rcases (show r = 1 ∨ r = 2 ∨ r = 3 ∨ r = 4 ∨ r = 5 ∨ r = 6 ∨ r = 7 by omega) with rfl | rfl | rfl | rfl | rfl | rfl | rfl
      all_goals simp only [half, wd, List.getD_cons_succ, List.getD_cons_zero] at h1 ⊢
      all_goals go_enter Tryd.func47, Tryd.ntmps47
      all_goals go_wp2
      all_goals go_ret
      all_goals exact ⟨ret_bool H.out.symm, rfl⟩

theorem headBits_any (r : Nat) (w : World) (hr : r ≤ 8) : Calls Tryd.prog 35 #[.int .i64 (r : Int)] w fun e w' => e = .returned (.int .i64 (hb r : Int)) ∧ w' = w := by
  by_cases h : r < 8
  · have H : Hid ((hb r : Int) = (r : Int) + 1) := by show (hb r : Int) = (r : Int) + 1; unfold hb; rw [if_pos h]; omega
    have h1 : ¬ (8 : Int) < (r : Int) + 1 := by omega
    generalize hb r = q at *
    go_enter Tryd.func35, Tryd.ntmps35
    go_wp2
    go_ret
    exact ⟨ret_int H.out.symm, rfl⟩
  · have H : Hid ((hb r : Int) = 8) := by show (hb r : Int) = 8; unfold hb; rw [if_neg h]; rfl
    have h1 : (8 : Int) < (r : Int) + 1 := by omega
    generalize hb r = q at *
    go_enter Tryd.func35, Tryd.ntmps35
    go_wp2
    go_ret
    exact ⟨ret_int H.out.symm, rfl⟩

set_option maxHeartbeats 1600000 in
theorem rowOf_any (n : Int) (w : World) (hT : TabW w) : Calls Tryd.prog 37 #[.int .i64 n] w fun e w' => e = .returned (.int .i64 (rowN n : Int)) ∧ w' = w := by
  have HT : Hid (TabW w) := hT
  have HN : Hid (rowN n = rowFrom n 8 0) := rfl
  clear hT
  generalize rowN n = R at *
  go_enter Tryd.func37, Tryd.ntmps37
  go_wp2
  go_step3
  go_wp2
  go_step3
  go_wp2
  go_loop [3] (fun i => ∃ r : Nat, r ≤ 8 ∧ i = .int .i64 r ∧ Hid (R = rowFrom n (8 - r) r)) (fun i => 8 - (intOf i).toNat)
  case atStart => exact ⟨0, by omega, rfl, HN.out⟩
  case round =>
    obtain ⟨r, hr, rfl, hR⟩ := hrel
    by_cases h8 : r < 8
    · have hc := HT.out r (by omega)
      have he : Hid (rowFrom n (8 - r) r = if fitsR n r = true then r else rowFrom n (8 - (r + 1)) (r + 1)) := by
        obtain ⟨f, hf⟩ : ∃ f, 8 - r = f + 1 := ⟨8 - r - 1, by omega⟩
        have hf2 : 8 - (r + 1) = f := by omega
        show rowFrom n (8 - r) r = _
        rw [hf, hf2, rowFrom]
      have HC : Hid (Calls Tryd.prog 47 #[.int .i64 n, .int .i64 (wd r : Int)] w fun e w' => e = .returned (.bool (fitsR n r)) ∧ w' = w) := fits_any n r w h8
      generalize wd r = q at *
      cases hf : fitsR n r with
      | true =>
        rw [hf] at he HC
        have HE : Hid ((r : Int) = (R : Int)) := by show (r : Int) = (R : Int); rw [hR.out, he.out, if_pos rfl]
        clear he hR HT HN hf
        go_wp2_with (go_at_call 47; refine HC.out.mono ?_; rintro e w' ⟨rfl, rfl⟩)
        try rw [Exit.noGoto_ret]
        go_ret
        exact ⟨ret_int HE.out, rfl⟩
      | false =>
        rw [hf] at he HC
        have HE : Hid (R = rowFrom n (8 - (r + 1)) (r + 1)) := by show R = _; rw [hR.out, he.out, if_neg (by simp)]
        clear he hR HT HN hf
        go_wp2_with (go_at_call 47; refine HC.out.mono ?_; rintro e w' ⟨rfl, rfl⟩)
        go_round
        case rel => exact ⟨r + 1, by omega, by go_num, HE⟩
        case measure => simp [intOf]; omega
    · obtain rfl : r = 8 := by omega
      have HE : Hid ((8 : Int) = (R : Int)) := by show (8 : Int) = (R : Int); rw [hR.out]; rfl
      clear hR HT HN
      go_wp2
      try rw [Exit.noGoto_ret]
      go_ret
      exact ⟨ret_int HE.out, rfl⟩

theorem hasRoom_same (g : Nat) (v : Value) (bs : List Bool) (n : Int) (w : World) (hw : Wr w g v bs) (hsz : bs.length ≤ 8388608) :
    Calls Tryd.prog 38 #[.pointer (some ⟨g, 0, none⟩), .int .i64 n] w fun e w' => e = .returned (.bool (decide (n ≤ 8388608 - (bs.length : Int)))) ∧ w' = w := by
  have hc := hw.cells
  have c1 := hc.2.1
  clear hc hw
  generalize bs.length = s at *
  go_enter Tryd.func38, Tryd.ntmps38
  go_wp2
  go_ret
  exact ⟨rfl, rfl⟩

def hd (r : Nat) : Nat := [0, 2, 6, 14, 30, 62, 126, 254, 255].getD r 0
theorem headBits_eq (r : Nat) (R : Int) (hR : R = (r : Int)) (B : Int) (hB : B = (hb r : Int)) (w : World) (hr : r ≤ 8) : Calls Tryd.prog 35 #[.int .i64 R] w fun e w' => e = .returned (.int .i64 B) ∧ w' = w := by
  subst hR
  subst hB
  exact headBits_any r w hr

set_option maxHeartbeats 1600000 in
theorem head_any (r : Nat) (w : World) (hr : r ≤ 8) : Calls Tryd.prog 40 #[.int .i64 (r : Int)] w fun e w' => e = .returned (.int .u64 (hd r : Int)) ∧ ∃ m, w' = w.drewN m := by
  rcases (show r = 0 ∨ r = 1 ∨ r = 2 ∨ r = 3 ∨ r = 4 ∨ r = 5 ∨ r = 6 ∨ r = 7 ∨ r = 8 by omega) with rfl | rfl | rfl | rfl | rfl | rfl | rfl | rfl | rfl
  · go_enter Tryd.func40, Tryd.ntmps40
    go_wp2
    go_quiet ((go_at_call 35; exact Calls.quiet_of_same (headBits_eq 0 _ rfl 1 rfl _ (by omega))))
    go_wp2
    go_ret
    exact ⟨rfl, _, rfl⟩
  · go_enter Tryd.func40, Tryd.ntmps40
    go_wp2
    go_quiet ((go_at_call 35; exact Calls.quiet_of_same (headBits_eq 1 _ rfl 2 rfl _ (by omega))))
    go_wp2
    go_ret
    exact ⟨rfl, _, rfl⟩
  · go_enter Tryd.func40, Tryd.ntmps40
    go_wp2
    go_quiet ((go_at_call 35; exact Calls.quiet_of_same (headBits_eq 2 _ rfl 3 rfl _ (by omega))))
    go_wp2
    go_ret
    exact ⟨rfl, _, rfl⟩
  · go_enter Tryd.func40, Tryd.ntmps40
    go_wp2
    go_quiet ((go_at_call 35; exact Calls.quiet_of_same (headBits_eq 3 _ rfl 4 rfl _ (by omega))))
    go_wp2
    go_ret
    exact ⟨rfl, _, rfl⟩
  · go_enter Tryd.func40, Tryd.ntmps40
    go_wp2
    go_quiet ((go_at_call 35; exact Calls.quiet_of_same (headBits_eq 4 _ rfl 5 rfl _ (by omega))))
    go_wp2
    go_ret
    exact ⟨rfl, _, rfl⟩
  · go_enter Tryd.func40, Tryd.ntmps40
    go_wp2
    go_quiet ((go_at_call 35; exact Calls.quiet_of_same (headBits_eq 5 _ rfl 6 rfl _ (by omega))))
    go_wp2
    go_ret
    exact ⟨rfl, _, rfl⟩
  · go_enter Tryd.func40, Tryd.ntmps40
    go_wp2
    go_quiet ((go_at_call 35; exact Calls.quiet_of_same (headBits_eq 6 _ rfl 7 rfl _ (by omega))))
    go_wp2
    go_ret
    exact ⟨rfl, _, rfl⟩
  · go_enter Tryd.func40, Tryd.ntmps40
    go_wp2
    go_quiet ((go_at_call 35; exact Calls.quiet_of_same (headBits_eq 7 _ rfl 8 rfl _ (by omega))))
    go_wp2
    go_ret
    exact ⟨rfl, _, rfl⟩
  · go_enter Tryd.func40, Tryd.ntmps40
    go_wp2
    go_quiet ((go_at_call 35; exact Calls.quiet_of_same (headBits_eq 8 _ rfl 8 rfl _ (by omega))))
    go_wp2
    go_ret
    exact ⟨rfl, _, rfl⟩

/-- a number's form: the row's head, and its lowest bits -/
def form (n : Int) (x : BitVec 64) : List Bool := bitsOf (hd (rowN n)) (hb (rowN n)) ++ bitsOf x.toNat (wd (rowN n))
theorem hb_le (r : Nat) : hb r ≤ 8 := by unfold hb; split <;> omega
theorem wd_le (r : Nat) : wd r ≤ 64 := by
  unfold wd
  match r with
  | 0 => decide
  | 1 => decide
  | 2 => decide
  | 3 => decide
  | 4 => decide
  | 5 => decide
  | 6 => decide
  | 7 => decide
  | 8 => decide
  | r + 9 => simp
theorem form_len (n : Int) (x : BitVec 64) : (form n x).length = hb (rowN n) + wd (rowN n) := by
  unfold form
  rw [List.length_append, bitsOf_len, bitsOf_len]
theorem TabW.keptFw {w w' : World} {g : Nat} {v v' : Value} (h : TabW w) (hf : Fw w w' g v v') (h1 : g ≠ 0) (h2 : v.ownBlock ≠ some 0) : TabW w' := fun j hj => by
  rw [← h j hj]
  exact World.cell?_of_block (hf.block _ (block_lt (h j hj)) (fun e => h1 e.symm) (fun e => h2 e.symm))
theorem I64_hd (r : Nat) (hr : r ≤ 8) : (hd r : Int) = I64 (BitVec.ofNat 64 (hd r)) ∧ (BitVec.ofNat 64 (hd r)).toNat = hd r := by
  have : hd r < 256 := by
    rcases (show r = 0 ∨ r = 1 ∨ r = 2 ∨ r = 3 ∨ r = 4 ∨ r = 5 ∨ r = 6 ∨ r = 7 ∨ r = 8 by omega) with rfl | rfl | rfl | rfl | rfl | rfl | rfl | rfl | rfl <;> decide
  constructor
  · simp only [I64, BitVec.toNat_ofNat]; omega
  · simp only [BitVec.toNat_ofNat]; omega
theorem put_eq (g : Nat) (v : Value) (bs : List Bool) (x : BitVec 64) (n : Nat) (X N : Int) (hX : X = I64 x) (hN : N = (n : Int)) (w : World) (hw : Wr w g v bs) (hn : n ≤ 64) (hsz : bs.length ≤ 8388608) :
    Calls Tryd.prog 39 #[.pointer (some ⟨g, 0, none⟩), .int .u64 X, .int .i64 N] w fun e w' => e = .returned (.tuple #[]) ∧ ∃ v', Wr w' g v' (bs ++ bitsOf x.toNat n) ∧ Fw w w' g v v' := by
  subst hX
  subst hN
  exact put_any g v bs x n w hw hn hsz
theorem Wr.drewN {w : World} {g : Nat} {v : Value} {bs : List Bool} (h : Wr w g v bs) (m : Nat) : Wr (w.drewN m) g v bs := h

set_option maxHeartbeats 3200000 in
theorem wint_ok (g : Nat) (v : Value) (bs : List Bool) (n : Int) (x : BitVec 64) (w : World) (hw : Wr w g v bs) (hT : TabW w) (hx : IntKind.u64.wrap n = I64 x) (hg : g ≠ 0) (hv : v.ownBlock ≠ some 0) (hsz : bs.length + (form n x).length ≤ 8388608) :
    Calls Tryd.prog 23 #[.pointer (some ⟨g, 0, none⟩), .int .i64 n] w fun e w' => e = .returned (.int .i64 0) ∧ ∃ v', Wr w' g v' (bs ++ form n x) ∧ Fw w w' g v v' := by
  have hw2 : Hid (Wr w g v bs) := hw
  have HT : Hid (TabW w) := hT
  have HX : Hid (IntKind.u64.wrap n = I64 x) := hx
  have HR := rowN_le n
  have HF : Hid (form n x = bitsOf (hd (rowN n)) (hb (rowN n)) ++ bitsOf x.toNat (wd (rowN n))) := rfl
  have hfl := form_len n x
  have HRow : Hid (Calls Tryd.prog 37 #[.int .i64 n] w fun e w' => e = .returned (.int .i64 (rowN n : Int)) ∧ w' = w) := rowOf_any n w hT
  clear hw hT hx
  generalize rowN n = r at *
  have hc := HT.out r (by omega)
  have h1 := hb_le r
  have h2 := wd_le r
  have hhd : Hid ((hd r : Int) = I64 (BitVec.ofNat 64 (hd r)) ∧ (BitVec.ofNat 64 (hd r)).toNat = hd r) := I64_hd r HR
  have hle : Hid (decide ((hb r : Int) + (wd r : Int) ≤ 8388608 - (bs.length : Int)) = true) := decide_eq_true (by omega)
  have HHB : Hid (∀ w', Calls Tryd.prog 35 #[.int .i64 (r : Int)] w' fun e w'' => e = .returned (.int .i64 (hb r : Int)) ∧ w'' = w') := fun w' => headBits_any r w' HR
  have HHD : Hid (∀ w', Calls Tryd.prog 40 #[.int .i64 (r : Int)] w' fun e w'' => e = .returned (.int .u64 (hd r : Int)) ∧ ∃ m, w'' = w'.drewN m) := fun w' => head_any r w' HR
  have hbB : bs.length + (hb r + wd r) ≤ 8388608 := by omega
  clear hfl
  generalize hb r = B at *
  generalize hd r = D at *
  generalize hK : wd r = K at *
  have hwd : Hid (wd r = K) := hK
  clear hK
  go_enter Tryd.func23, Tryd.ntmps23
  go_wp2_with fail
  refine HRow.out.mono ?_
  rintro e w1 ⟨rfl, rfl⟩
  go_wp2_with fail
  go_quiet (first | (go_at_call 35; exact Calls.quiet_of_same (HHB.out _)) | (go_at_call 38; exact Calls.quiet_of_same (hasRoom_same g v bs _ _ (hw2.out.drewN _) (by omega))))
  rw [hle.out]
  generalize hW1 : w1.drewN nq = W1
  have HW1 : Hid (Wr W1 g v bs ∧ TabW W1 ∧ w1.grownBy W1 none ∧ w1.heap.size ≤ W1.heap.size) := by
    subst hW1
    have hgd : w1.grownBy (w1.drewN nq) none := ⟨rfl, rfl, rfl, Nat.le_refl _, fun _ _ _ => rfl⟩
    exact ⟨hw2.out.keep hgd, HT.out.keep hgd, hgd, Nat.le_refl _⟩
  clear hW1 HT hc hw2
  go_wp2_with fail
  refine (HHD.out _).mono ?_
  rintro e W2 ⟨rfl, m2, hW2⟩
  have HW2 : Hid (Wr W2 g v bs ∧ TabW W2 ∧ w1.grownBy W2 none) := by
    subst hW2
    have hgd : W1.grownBy (W1.drewN m2) none := ⟨rfl, rfl, rfl, Nat.le_refl _, fun _ _ _ => rfl⟩
    exact ⟨HW1.out.1.keep hgd, HW1.out.2.1.keep hgd, gb_none HW1.out.2.2.1 hgd⟩
  clear hW2 HW1
  go_wp2_with fail
  refine (HHB.out _).mono ?_
  rintro e W3 ⟨rfl, rfl⟩
  go_wp2_with fail
  refine (put_eq g v bs (BitVec.ofNat 64 D) B _ _ hhd.out.1 rfl _ HW2.out.1 (by omega) (by omega)).mono ?_
  rintro e W4 ⟨rfl, v4, hw4, hf4⟩
  rw [hhd.out.2] at hw4
  have HW4 : Hid (Wr W4 g v4 (bs ++ bitsOf D B) ∧ TabW W4 ∧ Fw w1 W4 g v v4) := ⟨hw4, HW2.out.2.1.keptFw hf4 hg hv, Fw.pre HW2.out.2.2 hf4⟩
  clear hw4 hf4 HW2 HHB HHD
  have hc4 := HW4.out.2.1 r (by omega)
  have hbl : (bs ++ bitsOf D B).length ≤ 8388608 := by rw [List.length_append, bitsOf_len]; omega
  rw [hwd.out] at hc4
  go_wp2_with fail
  refine (put_eq g v4 (bs ++ bitsOf D B) x K _ _ HX.out rfl _ HW4.out.1 (by omega) hbl).mono ?_
  rintro e W5 ⟨rfl, v5, hw5, hf5⟩
  have HW5 : Hid (∃ v', Wr W5 g v' (bs ++ form n x) ∧ Fw w1 W5 g v v') := ⟨v5, by rw [HF.out, ← List.append_assoc]; exact hw5, HW4.out.2.2.trans hf5⟩
  clear hw5 hf5 HW4
  go_wp2
  go_ret
  exact ⟨rfl, HW5.out⟩

set_option maxHeartbeats 3200000 in
theorem wint_full (g : Nat) (v : Value) (bs : List Bool) (n : Int) (x : BitVec 64) (w : World) (hw : Wr w g v bs) (hT : TabW w) (hs : bs.length ≤ 8388608) (hsz : 8388608 < bs.length + (form n x).length) :
    Calls Tryd.prog 23 #[.pointer (some ⟨g, 0, none⟩), .int .i64 n] w fun e w' => e = .returned (.int .i64 8) ∧ w.grownBy w' none := by
  have hw2 : Hid (Wr w g v bs) := hw
  have HT : Hid (TabW w) := hT
  have HR := rowN_le n
  have hfl := form_len n x
  have HRow : Hid (Calls Tryd.prog 37 #[.int .i64 n] w fun e w' => e = .returned (.int .i64 (rowN n : Int)) ∧ w' = w) := rowOf_any n w hT
  clear hw hT
  generalize rowN n = r at *
  have hc := HT.out r (by omega)
  have h1 := hb_le r
  have h2 := wd_le r
  have hle : Hid (decide ((hb r : Int) + (wd r : Int) ≤ 8388608 - (bs.length : Int)) = false) := decide_eq_false (by omega)
  have HHB : Hid (∀ w', Calls Tryd.prog 35 #[.int .i64 (r : Int)] w' fun e w'' => e = .returned (.int .i64 (hb r : Int)) ∧ w'' = w') := fun w' => headBits_any r w' HR
  clear hfl hsz
  generalize hb r = B at *
  generalize wd r = K at *
  go_enter Tryd.func23, Tryd.ntmps23
  go_wp2_with fail
  refine HRow.out.mono ?_
  rintro e w1 ⟨rfl, rfl⟩
  go_wp2_with fail
  go_quiet (first | (go_at_call 35; exact Calls.quiet_of_same (HHB.out _)) | (go_at_call 38; exact Calls.quiet_of_same (hasRoom_same g v bs _ _ (hw2.out.drewN _) (by omega))))
  rw [hle.out]
  go_wp2
  go_ret
  exact ⟨rfl, ⟨rfl, rfl, rfl, Nat.le_refl _, fun _ _ _ => rfl⟩⟩

set_option maxHeartbeats 1600000 in
theorem wbits_full (g : Nat) (v : Value) (bs : List Bool) (x : BitVec 64) (n : Nat) (w : World) (hw : Wr w g v bs) (hn : n ≤ 64) (hx : x.toNat < 2 ^ n) (hs : bs.length ≤ 8388608) (hsz : 8388608 < bs.length + n) :
    Calls Tryd.prog 24 #[.pointer (some ⟨g, 0, none⟩), .int .u64 (I64 x), .int .i64 (n : Int)] w fun e w' => e = .returned (.int .i64 8) ∧ w' = w := by
  have hw2 : Hid (Wr w g v bs) := hw
  have hz := shr_zero hx
  have n1 : ¬ (n : Int) < 0 := by omega
  have n2 : ¬ (64 : Int) < (n : Int) := by omega
  have hle : Hid (decide ((n : Int) ≤ 8388608 - (bs.length : Int)) = false) := decide_eq_false (by omega)
  clear hw hx
  go_enter Tryd.func24, Tryd.ntmps24
  go_wp2_with fail
  refine (hasRoom_same g v bs n _ hw2.out (by omega)).mono ?_
  rintro e w1 ⟨he, rfl⟩
  rw [hle.out] at he
  subst he
  go_wp2
  go_ret
  exact ⟨rfl, rfl⟩
theorem wbit_full (g : Nat) (v : Value) (bs : List Bool) (w : World) (hw : Wr w g v bs) (hs : bs.length = 8388608) :
    Calls Tryd.prog 26 #[.pointer (some ⟨g, 0, none⟩), .bool true] w fun e w' => e = .returned (.int .i64 8) ∧ w' = w := by
  have HC : Hid (Calls Tryd.prog 24 #[.pointer (some ⟨g, 0, none⟩), .int .u64 1, .int .i64 1] w fun e w' => e = .returned (.int .i64 8) ∧ w' = w) := wbits_full g v bs 1#64 1 w hw (by omega) (by decide) (by omega) (by omega)
  clear hw hs
  go_enter Tryd.func26, Tryd.ntmps26
  go_wp2_with fail
  refine HC.out.mono ?_
  rintro e w1 ⟨rfl, rfl⟩
  go_wp2
  go_ret
  exact ⟨rfl, rfl⟩
end Go.Proofs.YtgbpnkamamafjabDoor
