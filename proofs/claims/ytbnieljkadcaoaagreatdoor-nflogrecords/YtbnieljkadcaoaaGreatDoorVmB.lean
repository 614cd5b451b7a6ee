/-
  Nums, Nums2, RefU, FrameFacts, FrameR, Torn, in one text.
-/
import Derived.Test.YtbnieljkadcaoaaGreatDoorVmA
/- Nums -/
namespace Go.Proofs.YtbnieljkadcaoaaGreatDoor
open Go.RowKit

def zz (n : Int) : Nat := if n < 0 then (2 * (-(n + 1)) + 1).toNat else (2 * n).toNat
def uz (u : Nat) : Int := if u % 2 = 1 then -((u / 2 : Nat) : Int) - 1 else ((u / 2 : Nat) : Int)

theorem I64_xor (x y : BitVec 64) : bits .xor .u64 (I64 x) (I64 y) = I64 (x ^^^ y) := by
  have hx := x.isLt
  have hy := y.isLt
  simp only [I64]
  rw [u64_xor_nat _ _ hx hy, BitVec.toNat_xor]
theorem I64_not (x : BitVec 64) : bits .xor .u64 IntKind.u64.max (I64 x) = I64 (~~~ x) := by
  have h := I64_xor (BitVec.allOnes 64) x
  have e : I64 (BitVec.allOnes 64) = IntKind.u64.max := by decide
  rw [e, BitVec.allOnes_xor] at h
  exact h
theorem zz_neg_eq {n : Int} (h : n < 0) (hl : -9223372036854775808 ≤ n) : bits .xor .u64 IntKind.u64.max (IntKind.u64.wrap (IntKind.u64.wrap n * 2)) = I64 (BitVec.ofNat 64 (zz n)) := by
  have e : IntKind.u64.wrap (IntKind.u64.wrap n * 2) = I64 (BitVec.ofNat 64 (18446744073709551616 + 2 * n).toNat) := by
    rw [IntKind.wrap_u64, IntKind.wrap_u64, I64_of (by omega)]
    omega
  rw [e, I64_not]
  unfold zz
  rw [if_pos h]
  simp only [I64, BitVec.toNat_not, BitVec.toNat_ofNat]
  omega
theorem zz_pos_eq {n : Int} (h : ¬ n < 0) (hl : n ≤ 9223372036854775807) : n * 2 = I64 (BitVec.ofNat 64 (zz n)) := by
  unfold zz
  rw [if_neg h, I64_of (by omega)]
  omega
theorem turn_neg_eq {n : Int} (h : n < 0) (hl : -9223372036854775808 ≤ n) : 2 * -(n + 1) + 1 = I64 (BitVec.ofNat 64 (zz n)) := by
  unfold zz
  rw [if_pos h, I64_of (by omega)]
  omega
theorem bit0 (x : BitVec 64) : bits .and .u64 (I64 x) 1 = ((x.toNat % 2 : Nat) : Int) := by
  have h := u64_and_nat x.toNat 1 x.isLt (by decide)
  rw [Nat.and_one_is_mod] at h
  exact h
theorem wrap_half (x : BitVec 64) : wrap64 (I64 x / (2 : Int)) = ((x.toNat / 2 : Nat) : Int) := by
  have := x.isLt
  have h : I64 x / (2 : Int) = ((x.toNat / 2 : Nat) : Int) := by simp only [I64]; omega
  rw [h]
  unfold wrap64
  omega
theorem not_i64 (y : Nat) (h : y < 9223372036854775808) : bits .xor .i64 (-1) (y : Int) = -(y : Int) - 1 := by
  have e : BitVec.ofInt 64 (-1) = BitVec.allOnes 64 := by decide
  have e2 : BitVec.ofInt 64 (y : Int) = BitVec.ofNat 64 y := BitVec.ofInt_natCast 64 y
  show IntKind.i64.wrap ((BitVec.ofInt 64 (-1) ^^^ BitVec.ofInt 64 (y : Int)).toNat : Int) = _
  rw [e, e2, BitVec.allOnes_xor, IntKind.wrap_i64]
  simp only [BitVec.toNat_not, BitVec.toNat_ofNat]
  omega

theorem zigzag_any (n : Int) (w : World) (hl : -9223372036854775808 ≤ n) (hh : n ≤ 9223372036854775807) :
    Calls Tryz.prog 103 #[.int .i64 n] w fun e w' => e = .returned (.int .u64 (I64 (BitVec.ofNat 64 (zz n)))) ∧ w' = w := by
  by_cases h : n < 0
  · have H : Hid (bits .xor .u64 IntKind.u64.max (IntKind.u64.wrap (IntKind.u64.wrap n * 2)) = I64 (BitVec.ofNat 64 (zz n))) := zz_neg_eq h hl
    go_enter Tryz.func103, Tryz.ntmps103
    go_wp2
    go_ret
    exact ⟨ret_int H.out, rfl⟩
  · have H : Hid (n * 2 = I64 (BitVec.ofNat 64 (zz n))) := zz_pos_eq h hh
    go_enter Tryz.func103, Tryz.ntmps103
    go_wp2
    go_ret
    exact ⟨ret_int H.out, rfl⟩
theorem turn_any (n : Int) (w : World) (hl : -9223372036854775808 ≤ n) (hh : n ≤ 9223372036854775807) :
    Calls Tryz.prog 76 #[.int .i64 n] w fun e w' => e = .returned (.int .u64 (I64 (BitVec.ofNat 64 (zz n)))) ∧ w' = w := by
  by_cases h : n < 0
  · have H : Hid (2 * -(n + 1) + 1 = I64 (BitVec.ofNat 64 (zz n))) := turn_neg_eq h hl
    have h' : ¬ 0 ≤ n := by omega
    go_enter Tryz.func76, Tryz.ntmps76
    go_wp2
    go_ret
    exact ⟨ret_int H.out, rfl⟩
  · have H : Hid (2 * n = I64 (BitVec.ofNat 64 (zz n))) := (Int.mul_comm 2 n).trans (zz_pos_eq h hh)
    have h' : 0 ≤ n := by omega
    go_enter Tryz.func76, Tryz.ntmps76
    go_wp2
    go_ret
    exact ⟨ret_int H.out, rfl⟩
theorem unzigzag_any (x : BitVec 64) (w : World) : Calls Tryz.prog 109 #[.int .u64 (I64 x)] w fun e w' => e = .returned (.int .i64 (uz x.toNat)) ∧ w' = w := by
  have hx := x.isLt
  have e1 := wrap_half x
  have e2 := bit0 x
  have hlt : x.toNat / 2 < 9223372036854775808 := by omega
  have e3 := not_i64 (x.toNat / 2) hlt
  clear hx hlt
  by_cases h : x.toNat % 2 = 1
  · have H : Hid (uz x.toNat = -((x.toNat / 2 : Nat) : Int) - 1) := if_pos h
    rw [h] at e2
    clear h
    generalize x.toNat / 2 = y at *
    generalize uz x.toNat = z at *
    go_enter Tryz.func109, Tryz.ntmps109
    go_wp2
    go_ret
    exact ⟨ret_int H.out.symm, rfl⟩
  · have H : Hid (uz x.toNat = ((x.toNat / 2 : Nat) : Int)) := if_neg h
    have h0 : x.toNat % 2 = 0 := by omega
    rw [h0] at e2
    clear h h0 e3
    generalize x.toNat / 2 = y at *
    have E1 : Hid (wrap64 (I64 x / (2 : Int)) = (y : Int)) := e1
    clear e1
    generalize uz x.toNat = z at *
    go_enter Tryz.func109, Tryz.ntmps109
    go_wp2
    go_ret
    exact ⟨ret_int (E1.out.trans H.out.symm), rfl⟩
theorem back_t (x : BitVec 64) : (I64 x).tmod 2 = ((x.toNat % 2 : Nat) : Int) := by
  simp only [I64]
  rw [Int.tmod_eq_emod_of_nonneg (by omega)]
  omega
theorem back_d (x : BitVec 64) : (I64 x).tdiv 2 = ((x.toNat / 2 : Nat) : Int) := by
  simp only [I64]
  rw [Int.tdiv_eq_ediv_of_nonneg (by omega)]
  omega
theorem wrap_u64_nat {y : Nat} (h : y < 9223372036854775808) : IntKind.u64.wrap (y : Int) = (y : Int) := by
  rw [IntKind.wrap_u64]; omega
theorem wrap_i64_nat {y : Nat} (h : y < 9223372036854775808) : wrap64 (y : Int) = (y : Int) := by
  unfold wrap64; omega
theorem neg_half {y : Nat} (h : y < 9223372036854775808) : wrap64 (wrap64 (-(y : Int)) - 1) = -(y : Int) - 1 := by
  unfold wrap64; omega
end Go.Proofs.YtbnieljkadcaoaaGreatDoor

/- Nums2 -/
namespace Go.Proofs.YtbnieljkadcaoaaGreatDoor
open Go.RowKit

theorem back_any (x : BitVec 64) (w : World) : Calls Tryz.prog 82 #[.int .u64 (I64 x)] w fun e w' => e = .returned (.int .i64 (uz x.toNat)) ∧ w' = w := by
  have e1 := back_t x
  have e2 := back_d x
  have hx := x.isLt
  have hlt : x.toNat / 2 < 9223372036854775808 := by omega
  have e3 := wrap_u64_nat hlt
  have e4 : Hid (wrap64 ((x.toNat / 2 : Nat) : Int) = ((x.toNat / 2 : Nat) : Int)) := wrap_i64_nat hlt
  have e5 : Hid (wrap64 (wrap64 (-((x.toNat / 2 : Nat) : Int)) - 1) = -((x.toNat / 2 : Nat) : Int) - 1) := neg_half hlt
  clear hx hlt
  by_cases h : x.toNat % 2 = 1
  · have H : Hid (uz x.toNat = -((x.toNat / 2 : Nat) : Int) - 1) := if_pos h
    rw [h] at e1
    clear h
    generalize x.toNat / 2 = y at *
    generalize uz x.toNat = z at *
    go_enter Tryz.func82, Tryz.ntmps82
    go_wp2
    go_ret
    exact ⟨ret_int (by rw [e4.out, e5.out, H.out]), rfl⟩
  · have H : Hid (uz x.toNat = ((x.toNat / 2 : Nat) : Int)) := if_neg h
    have h0 : x.toNat % 2 = 0 := by omega
    rw [h0] at e1
    clear h h0
    generalize x.toNat / 2 = y at *
    generalize uz x.toNat = z at *
    go_enter Tryz.func82, Tryz.ntmps82
    go_wp2
    go_ret
    exact ⟨ret_int (e4.out.trans H.out.symm), rfl⟩

set_option maxHeartbeats 800000 in
theorem joined_any (v u : Value) (l m : List UInt8) (w : World) (hv : Rd w v l) (hu : Rd w u m) (hsz : l.length + m.length ≤ 175921860000000) :
    Calls Tryz.prog 75 #[v, u] w fun e w' => ∃ v', e = .returned v' ∧ Own w' w.heap.size v' (l ++ m) ∧ w.grownBy w' none := by
  have hv2 : Hid (Rd w v l) := hv
  have hu2 : Hid (Rd w u m) := hu
  clear hv hu
  go_enter Tryz.func75, Tryz.ntmps75
  go_wp2_with (at_builtin; refine wp_app rfl _ _ rfl w.heap.size _ _ [] l rfl rfl (Own.nil _ _) hv2.out ?c1 ?c2 ?_)
  case c1 => first | omega | (simp; omega)
  case c2 => omega
  intro v1 w1 ho1 hf1
  have H1 : Hid (Own w1 w.heap.size v1 l ∧ w.grownBy w1 none) := ⟨by simpa using ho1, hf1.1⟩
  clear ho1 hf1
  go_wp2_with (at_builtin; refine wp_app rfl _ _ rfl w.heap.size _ _ l m rfl rfl H1.out.1 (hu2.out.keep H1.out.2) ?c3 ?c4 ?_)
  case c3 => first | omega | (simp; omega)
  case c4 => exact H1.out.2.size
  intro v2 w2 ho2 hf2
  have H2 : Hid (Own w2 w.heap.size v2 (l ++ m) ∧ w.grownBy w2 none) := ⟨ho2, Fr.new H1.out.2 hf2 (fun k hk => (H1.out.1.lt k hk).1)⟩
  clear ho2 hf2 H1
  go_wp2
  go_ret
  exact ⟨_, rfl, H2.out.1, H2.out.2⟩

theorem low_mod (x : BitVec 64) : (I64 x).tmod 128 = ((x.toNat % 128 : Nat) : Int) := by
  simp only [I64]
  rw [Int.tmod_eq_emod_of_nonneg (by omega)]
  omega
theorem wrap_I64 (x : BitVec 64) : IntKind.u64.wrap (I64 x) = I64 x := by
  have := I64_lt x
  have := I64_nonneg x
  rw [IntKind.wrap_u64]; omega
theorem low_div (x : BitVec 64) : (I64 x).tdiv 128 = I64 (x >>> 7) := by
  rw [Int.tdiv_eq_ediv_of_nonneg (I64_nonneg x)]
  exact I64_shr7 x

set_option maxHeartbeats 1600000 in
theorem refPutU_any (v : Value) (l : List UInt8) (x : BitVec 64) (w : World) (hv : Rd w v l) (hsz : l.length ≤ 175921850000000) :
    Calls Tryz.prog 40 #[v, .int .u64 (I64 x)] w fun e w' => ∃ v', e = .returned v' ∧ Own w' w.heap.size v' (l ++ uv x.toNat) ∧ w.grownBy w' none := by
  have hv2 : Hid (Rd w v l) := hv
  have hlen := uv_len64 x
  clear hv
  go_enter Tryz.func40, Tryz.ntmps40
  go_wp2
  go_loopw [1, 5] (fun n s wr => ∃ (d : List UInt8) (y : BitVec 64), n = .int .u64 (I64 y) ∧ Hid (Own wr w.heap.size s d) ∧ Hid (uv x.toNat = d ++ uv y.toNat) ∧ Hid (w.grownBy wr none)) (fun n _ _ => (intOf n).toNat)
  case atStart => exact ⟨[], x, rfl, Own.nil _ _, rfl, gb_refl _ _⟩
  case round =>
    obtain ⟨d, y, rfl, ho, hu, hf⟩ := hrel
    have hdl : d.length + 1 ≤ 10 := by
      have h1 := congrArg List.length hu.out
      have := uv_pos y.toNat
      simp only [List.length_append] at h1
      omega
    by_cases h : 128 ≤ I64 y
    · obtain ⟨q, hq⟩ : ∃ q : Int, (I64 y).tmod 128 = q := ⟨_, rfl⟩
      have hq0 : 0 ≤ q := by rw [← hq, low_mod]; omega
      have hq1 : q < 128 := by rw [← hq, low_mod]; omega
      have e3 : q + 128 = ((lowB y.toNat).toNat : Int) := by rw [← hq, low_mod, lowB_nat]; omega
      have e2 := low_div y
      have hy : ¬ y.toNat < 128 := by simp only [I64] at h; omega
      have hst : Hid (uv x.toNat = (d ++ [lowB y.toNat]) ++ uv (y >>> 7).toNat) := by
        have := hu.out
        rw [uv_big hy] at this
        show uv x.toNat = _
        rw [this]
        simp [BitVec.toNat_ushiftRight, Nat.shiftRight_eq_div_pow]
      have hms : Hid ((I64 (y >>> 7)).toNat < (I64 y).toNat) := by
        show (I64 (y >>> 7)).toNat < (I64 y).toNat
        rw [← I64_shr7]; omega
      clear hu hy
      generalize y >>> 7 = y1 at *
      generalize lowB y.toNat = b1 at *
      go_wp2_with (at_builtin; refine wp_app rfl _ _ rfl w.heap.size _ _ d [b1] rfl rfl (ho.out.keep (alloc_gb _ _)) rd_one ?c1 ?c2 ?_)
      case c1 => first | omega | (simp; omega)
      case c2 => have := hf.out.size; first | omega | (simp; omega)
      intro v' w' ho' hf'
      have hf2 : Hid (w.grownBy w' none) := gb_new hf.out (Fr.pre (alloc_gb _ _) hf').1 (fun k hk => (ho.out.lt k hk).1)
      have ho2 : Hid (Own w' w.heap.size v' (d ++ [b1])) := ho'
      clear hf' ho' ho hf e3 hq hq0 hq1
      have e6 := wrap_I64 y1
      go_wp2
      go_roundw
      case rel => exact ⟨d ++ [b1], y1, rfl, ho2, hst, hf2⟩
      case measure => simp only [intOf]; exact hms.out
    · have hy : y.toNat < 128 := by simp only [I64] at h; omega
      have e1 := small256 y
      have hst : Hid (uv x.toNat = d ++ [UInt8.ofNat y.toNat]) := by
        have := hu.out
        rw [uv_small hy] at this
        exact this
      clear hu hy
      generalize UInt8.ofNat y.toNat = b1 at *
      go_wp2_with (at_builtin; refine wp_app rfl _ _ rfl w.heap.size _ _ d [b1] rfl rfl (ho.out.keep (alloc_gb _ _)) rd_one ?c3 ?c4 ?_)
      case c3 => first | omega | (simp; omega)
      case c4 => have := hf.out.size; first | omega | (simp; omega)
      intro v' w' ho' hf'
      have H2 : Hid (Rd w' v' (uv x.toNat) ∧ w.grownBy w' none) := ⟨by rw [hst.out]; exact ho'.rd, gb_new hf.out (Fr.pre (alloc_gb _ _) hf').1 (fun k hk => (ho.out.lt k hk).1)⟩
      clear hf' ho' ho hf hst e1
      go_wp2_with fail
      refine (joined_any v v' l (uv x.toNat) _ (hv2.out.keep H2.out.2) H2.out.1 (by omega)).mono ?_
      rintro e w3 ⟨v3, rfl, ho3, hg3⟩
      have H3 : Hid (Own w3 w.heap.size v3 (l ++ uv x.toNat) ∧ w.grownBy w3 none) := ⟨ho3.mono H2.out.2.size, gb_none H2.out.2 hg3⟩
      clear ho3 hg3 H2
      go_wp2
      go_ret
      exact ⟨_, rfl, H3.out.1, H3.out.2⟩

theorem ofNat_zz {n : Int} (hl : -9223372036854775808 ≤ n) (hh : n ≤ 9223372036854775807) : (BitVec.ofNat 64 (zz n)).toNat = zz n := by
  simp only [BitVec.toNat_ofNat]
  unfold zz
  split <;> omega

theorem putI_any (v : Value) (l : List UInt8) (n : Int) (w : World) (hv : Rd w v l) (hsz : l.length ≤ 175921850000000) (hl : -9223372036854775808 ≤ n) (hh : n ≤ 9223372036854775807) :
    Calls Tryz.prog 71 #[v, .int .i64 n] w fun e w' => ∃ v', e = .returned v' ∧ Own w' w.heap.size v' (l ++ uv (zz n)) ∧ w.grownBy w' none := by
  have hv2 : Hid (Rd w v l) := hv
  have hz : Hid ((BitVec.ofNat 64 (zz n)).toNat = zz n) := ofNat_zz hl hh
  clear hv
  go_enter Tryz.func71, Tryz.ntmps71
  go_wp2_with fail
  refine (zigzag_any n _ hl hh).mono ?_
  rintro e w1 ⟨rfl, rfl⟩
  go_wp2_with fail
  refine (putU_any v l _ _ hv2.out (by omega)).mono ?_
  rintro e w2 ⟨v2, rfl, ho, hg⟩
  rw [hz.out] at ho
  have H : Hid (Own w2 w1.heap.size v2 (l ++ uv (zz n)) ∧ w1.grownBy w2 none) := ⟨ho, hg⟩
  clear ho hg
  go_wp2
  go_ret
  exact ⟨_, rfl, H.out.1, H.out.2⟩
theorem refPutI_any (v : Value) (l : List UInt8) (n : Int) (w : World) (hv : Rd w v l) (hsz : l.length ≤ 175921850000000) (hl : -9223372036854775808 ≤ n) (hh : n ≤ 9223372036854775807) :
    Calls Tryz.prog 39 #[v, .int .i64 n] w fun e w' => ∃ v', e = .returned v' ∧ Own w' w.heap.size v' (l ++ uv (zz n)) ∧ w.grownBy w' none := by
  have hv2 : Hid (Rd w v l) := hv
  have hz : Hid ((BitVec.ofNat 64 (zz n)).toNat = zz n) := ofNat_zz hl hh
  clear hv
  go_enter Tryz.func39, Tryz.ntmps39
  go_wp2_with fail
  refine (turn_any n _ hl hh).mono ?_
  rintro e w1 ⟨rfl, rfl⟩
  go_wp2_with fail
  refine (refPutU_any v l _ _ hv2.out (by omega)).mono ?_
  rintro e w2 ⟨v2, rfl, ho, hg⟩
  rw [hz.out] at ho
  have H : Hid (Own w2 w1.heap.size v2 (l ++ uv (zz n)) ∧ w1.grownBy w2 none) := ⟨ho, hg⟩
  clear ho hg
  go_wp2
  go_ret
  exact ⟨_, rfl, H.out.1, H.out.2⟩

def tup3i (r : Nat × Int × Int) : Value := .tuple #[.int .i64 (uz (BitVec.ofNat 64 r.1).toNat), .int .i64 r.2.1, .int .i64 r.2.2]
theorem i_any (v : Value) (l : List UInt8) (p : Int) (w : World) (hv : Rd w v l) :
    Calls Tryz.prog 79 #[v, .int .i64 p] w fun e w' => e = .returned (tup3i (uSpec l p)) ∧ w' = w := by
  have H := u_any v l p w hv
  generalize uSpec l p = r at H ⊢
  obtain ⟨r1, r2, r3⟩ := r
  unfold tup3 at H
  unfold tup3i
  simp only [] at H ⊢
  generalize BitVec.ofNat 64 r1 = x at H ⊢
  have HC : Hid (Calls Tryz.prog 107 #[v, .int .i64 p] w fun e w' => e = .returned (.tuple #[.int .u64 (I64 x), .int .i64 r2, .int .i64 r3]) ∧ w' = w) := H
  clear H hv
  go_enter Tryz.func79, Tryz.ntmps79
  go_wp2_with fail
  refine HC.out.mono ?_
  rintro e w1 ⟨rfl, rfl⟩
  go_wp2_with fail
  refine (unzigzag_any x _).mono ?_
  rintro e w2 ⟨rfl, rfl⟩
  go_wp2
  go_ret3
  exact ⟨rfl, rfl⟩
end Go.Proofs.YtbnieljkadcaoaaGreatDoor

/- RefU -/
namespace Go.Proofs.YtbnieljkadcaoaaGreatDoor
open Go.RowKit

theorem step_ref {acc y k : Nat} (hk : k ≤ 9) (ha : acc < 128 ^ k) (h9 : k = 9 → y % 128 ≤ 1) :
    bits .or .u64 (I64 (BitVec.ofNat 64 acc)) (IntKind.u64.wrap ((y : Int) % 128 * 2 ^ (7 * k))) = I64 (BitVec.ofNat 64 (acc + y % 128 * 128 ^ k)) := by
  have hl := mul_lt (y := y % 128) hk (by omega) h9
  have e : ((y : Int) % 128) = ((y % 128 : Nat) : Int) := by omega
  rw [e, wrap_shl hl, or_step hk ha hl]

set_option maxRecDepth 4000 in
set_option maxHeartbeats 3200000 in
theorem refu_in (v : Value) (l : List UInt8) (p : Nat) (w : World) (hv : Rd w v l) (hp : p ≤ l.length) :
    Calls Tryz.prog 49 #[v, .int .i64 p] w fun e w' => e = .returned (tup3 (uSpec l p)) ∧ w' = w := by
  have Hp : Hid (∀ r, rdU (l.drop p) 0 0 = r → uSpec l (p : Int) = uRes r p) := fun r hr => uSpec_in hp hr
  obtain ⟨a, c, rfl, hn, hm, hb, hz⟩ := hv
  unfold maxLen at hm
  unfold RdA at hb
  have hlt' : l.length ≤ 9223372036854775807 := by omega
  clear hm hn hz
  generalize hN : l.length = n at *
  have HN : Hid (l.length = n) := hN
  clear hN
  have t0 : ¬ (p : Int) < 0 := by omega
  have t1 : ¬ (n : Int) < (p : Int) := by omega
  go_enter Tryz.func49, Tryz.ntmps49
  go_wp2
  go_loop [7, 8] (fun r i => ∃ k : Nat, k ≤ 9 ∧ p + k ≤ n ∧ i = .int .i64 k ∧ ∃ acc : Nat, r = .int .u64 (I64 (BitVec.ofNat 64 acc)) ∧ Hid (acc < 128 ^ k ∧ rdU (l.drop p) 0 0 = rdU (l.drop (p + k)) k acc)) (fun _ i => 10 - (intOf i).toNat)
  case atStart => exact ⟨0, by omega, by omega, rfl, 0, rfl, by decide, rfl⟩
  case round =>
    obtain ⟨k, hk, hkn, rfl, acc, rfl, hacc⟩ := hrel
    by_cases hlt : p + k < n
    · obtain ⟨b, o, rfl, hc⟩ := hb (p + k) hlt
      have hlen : Hid (p + k < l.length) := by show p + k < l.length; rw [HN.out]; exact hlt
      have hc8 : (l.getD (p + k) 0).toNat < 256 := (l.getD (p + k) 0).toNat_lt
      have r1 : Hid (k = 9 → 1 < (l.getD (p + k) 0).toNat → uSpec l (p : Int) = (0, 0, 7)) := fun h1 h2 => Hp.out _ (hacc.out.2.trans (rd_large hlen.out h1 h2))
      have r2 : Hid (0 < k → (l.getD (p + k) 0).toNat = 0 → uSpec l (p : Int) = (0, 0, 3)) := fun h1 h2 => Hp.out _ (hacc.out.2.trans (rd_form hlen.out h1 h2))
      have r3 : Hid ((k = 9 → (l.getD (p + k) 0).toNat ≤ 1) → (l.getD (p + k) 0).toNat < 128 → (0 < k → (l.getD (p + k) 0).toNat ≠ 0) → uSpec l (p : Int) = (acc + (l.getD (p + k) 0).toNat * 128 ^ k, (p : Int) + ((k + 1 : Nat) : Int), 0)) :=
        fun h1 h2 h3 => Hp.out _ (hacc.out.2.trans (rd_ok hlen.out h1 h2 h3))
      have r4 : Hid (k ≠ 9 → ¬ (l.getD (p + k) 0).toNat < 128 → rdU (l.drop p) 0 0 = rdU (l.drop (p + k + 1)) (k + 1) (acc + (l.getD (p + k) 0).toNat % 128 * 128 ^ k)) := fun h1 h2 => hacc.out.2.trans (rd_more hlen.out h1 h2)
      have hacc1 : Hid (acc < 128 ^ k) := hacc.out.1
      clear hacc Hp
      generalize (l.getD (p + k) 0).toNat = y at *
      clear hb
      by_cases hk9 : k = 9
      · have K9 : Hid (k = 9) := hk9
        have hk9' : ((k : Int) == 9) = true := by simp; omega
        have hkp : (0 : Int) < (k : Int) := by omega
        clear hk9
        by_cases hy1 : 1 < (y : Int)
        · have HY : Hid (1 < y) := by show 1 < y; omega
          go_wp2
          go_ret3
          exact ⟨by rw [r1.out K9.out HY.out]; exact ret3 I64_0.symm rfl rfl, rfl⟩
        · have hst : Hid (bits .or .u64 (I64 (BitVec.ofNat 64 acc)) (IntKind.u64.wrap ((y : Int) % 128 * 2 ^ (7 * k))) = I64 (BitVec.ofNat 64 (acc + y * 128 ^ k))) := by
            have := step_ref (acc := acc) (y := y) (k := k) (by omega) hacc1.out (by omega)
            rwa [Nat.mod_eq_of_lt (show y < 128 by omega)] at this
          by_cases hy0 : y = 0
          · have Y0 : Hid (y = 0) := hy0
            have hy0' : ((y : Int) == 0) = true := by simp; omega
            have hy8 : (y : Int) < 128 := by omega
            clear hy0
            go_wp2
            go_ret3
            exact ⟨by rw [r2.out (by have := K9.out; omega) Y0.out]; exact ret3 I64_0.symm rfl rfl, rfl⟩
          · have hy0' : ((y : Int) == 0) = false := by simp; omega
            have hy8 : (y : Int) < 128 := by omega
            have HY : Hid (y ≠ 0 ∧ y ≤ 1) := ⟨hy0, by omega⟩
            go_wp2
            go_ret3
            exact ⟨by rw [r3.out (fun _ => HY.out.2) (by have := HY.out.2; omega) (fun _ => HY.out.1)]; exact ret3 hst.out (show _ = (p : Int) + ((k + 1 : Nat) : Int) by omega) rfl, rfl⟩
      · have hk9' : ((k : Int) == 9) = false := by simp; omega
        by_cases hy8 : (y : Int) < 128
        · have hst : Hid (bits .or .u64 (I64 (BitVec.ofNat 64 acc)) (IntKind.u64.wrap ((y : Int) % 128 * 2 ^ (7 * k))) = I64 (BitVec.ofNat 64 (acc + y * 128 ^ k))) := by
            have := step_ref (acc := acc) (y := y) (k := k) (by omega) hacc1.out (by omega)
            rwa [Nat.mod_eq_of_lt (show y < 128 by omega)] at this
          by_cases hy0 : y = 0
          · have Y0 : Hid (y = 0) := hy0
            have hy0' : ((y : Int) == 0) = true := by simp; omega
            by_cases hk0 : k = 0
            · have K0 : Hid (k = 0) := hk0
              have hkp : ¬ (0 : Int) < (k : Int) := by omega
              clear hy0 hk0
              go_wp2
              go_ret3
              exact ⟨by rw [r3.out (by omega) (by omega) (fun h => by have := K0.out; omega)]; exact ret3 hst.out (show _ = (p : Int) + ((k + 1 : Nat) : Int) by omega) rfl, rfl⟩
            · have hkp : (0 : Int) < (k : Int) := by omega
              clear hy0
              go_wp2
              go_ret3
              exact ⟨by rw [r2.out (by omega) Y0.out]; exact ret3 I64_0.symm rfl rfl, rfl⟩
          · have hy0' : ((y : Int) == 0) = false := by simp; omega
            go_wp2
            go_ret3
            exact ⟨by rw [r3.out (by omega) (by omega) (by omega)]; exact ret3 hst.out (show _ = (p : Int) + ((k + 1 : Nat) : Int) by omega) rfl, rfl⟩
        · have HST : Hid (bits .or .u64 (I64 (BitVec.ofNat 64 acc)) (IntKind.u64.wrap ((y : Int) % 128 * 2 ^ (7 * k))) = I64 (BitVec.ofNat 64 (acc + y % 128 * 128 ^ k))) := step_ref (by omega) hacc1.out (by omega)
          go_wp2
          go_round
          case rel => exact ⟨k + 1, by omega, by omega, by go_num, acc + y % 128 * 128 ^ k, by rw [HST.out], acc_lt hacc1.out (by omega), r4.out hk9 (by omega)⟩
          case measure => simp [intOf]; omega
    · have hend : Hid (uSpec l (p : Int) = (0, 0, 9)) := Hp.out _ (hacc.out.2.trans (rd_end _ (by rw [HN.out]; omega)))
      clear hb
      go_wp2
      go_ret3
      exact ⟨by rw [hend.out]; exact ret3 I64_0.symm rfl rfl, rfl⟩

set_option maxHeartbeats 800000 in
theorem refu_out (v : Value) (l : List UInt8) (p : Int) (w : World) (hv : Rd w v l) (hp : p < 0 ∨ (l.length : Int) < p) :
    Calls Tryz.prog 49 #[v, .int .i64 p] w fun e w' => e = .returned (tup3 (uSpec l p)) ∧ w' = w := by
  have Hs : Hid (uSpec l p = (0, 0, 1)) := if_pos hp
  obtain ⟨a, c, rfl, -, -, -, -⟩ := hv
  by_cases h : p < 0
  · clear hp
    go_enter Tryz.func49, Tryz.ntmps49
    go_wp2
    go_ret3
    exact ⟨by rw [Hs.out]; exact ret3 I64_0.symm rfl rfl, rfl⟩
  · have h1 : (l.length : Int) < p := by omega
    clear hp
    go_enter Tryz.func49, Tryz.ntmps49
    go_wp2
    go_ret3
    exact ⟨by rw [Hs.out]; exact ret3 I64_0.symm rfl rfl, rfl⟩

theorem refu_any (v : Value) (l : List UInt8) (p : Int) (w : World) (hv : Rd w v l) :
    Calls Tryz.prog 49 #[v, .int .i64 p] w fun e w' => e = .returned (tup3 (uSpec l p)) ∧ w' = w := by
  by_cases hp : p < 0 ∨ (l.length : Int) < p
  · exact refu_out v l p w hv hp
  · obtain ⟨q, rfl⟩ := Int.eq_ofNat_of_zero_le (show 0 ≤ p by omega)
    exact refu_in v l q w hv (by omega)

theorem uRes_err {r : Except Int (Nat × Nat)} {a : Int} (h : (uRes r a).2.2 ≠ 0) : (uRes r a).1 = 0 ∧ (uRes r a).2.1 = 0 := by
  cases r with
  | error e => exact ⟨rfl, rfl⟩
  | ok x => exact absurd rfl h
theorem uSpec_err {l : List UInt8} {a : Int} (h : (uSpec l a).2.2 ≠ 0) : (uSpec l a).1 = 0 ∧ (uSpec l a).2.1 = 0 := by
  unfold uSpec at h ⊢
  split
  · exact ⟨rfl, rfl⟩
  · rename_i hn
    rw [if_neg hn] at h
    exact uRes_err h

theorem refi_any (v : Value) (l : List UInt8) (p : Int) (w : World) (hv : Rd w v l) :
    Calls Tryz.prog 48 #[v, .int .i64 p] w fun e w' => e = .returned (tup3i (uSpec l p)) ∧ w' = w := by
  have H := refu_any v l p w hv
  have HE : (uSpec l p).2.2 ≠ 0 → (uSpec l p).1 = 0 ∧ (uSpec l p).2.1 = 0 := uSpec_err
  generalize uSpec l p = r at H HE ⊢
  obtain ⟨r1, r2, r3⟩ := r
  unfold tup3 at H
  unfold tup3i
  simp only [] at H HE ⊢
  by_cases h3 : r3 = 0
  · subst h3
    clear HE
    generalize BitVec.ofNat 64 r1 = x at H ⊢
    have HC : Hid (Calls Tryz.prog 49 #[v, .int .i64 p] w fun e w' => e = .returned (.tuple #[.int .u64 (I64 x), .int .i64 r2, .int .i64 0]) ∧ w' = w) := H
    clear H hv
    go_enter Tryz.func48, Tryz.ntmps48
    go_wp2_with fail
    refine HC.out.mono ?_
    rintro e w1 ⟨rfl, rfl⟩
    go_wp2_with fail
    refine (back_any x _).mono ?_
    rintro e w2 ⟨rfl, rfl⟩
    go_wp2
    go_ret3
    exact ⟨rfl, rfl⟩
  · obtain ⟨rfl, rfl⟩ := HE h3
    have hz : Hid (uz (BitVec.ofNat 64 0).toNat = 0) := by show uz (BitVec.ofNat 64 0).toNat = 0; decide
    generalize BitVec.ofNat 64 0 = x at *
    have HC : Hid (Calls Tryz.prog 49 #[v, .int .i64 p] w fun e w' => e = .returned (.tuple #[.int .u64 (I64 x), .int .i64 0, .int .i64 r3]) ∧ w' = w) := H
    have hne : (r3 != 0) = true := by rw [bne_iff_ne]; exact h3
    clear H hv HE h3
    go_enter Tryz.func48, Tryz.ntmps48
    go_wp2_with fail
    refine HC.out.mono ?_
    rintro e w1 ⟨rfl, rfl⟩
    go_wp2
    go_ret3
    exact ⟨ret3 hz.out.symm rfl rfl, rfl⟩
end Go.Proofs.YtbnieljkadcaoaaGreatDoor

/- FrameFacts -/
namespace Go.Proofs.YtbnieljkadcaoaaGreatDoor
open Go.RowKit

theorem rdU_ok : ∀ (l : List UInt8) (i acc n k : Nat), i ≤ 9 → acc < 128 ^ i → rdU l i acc = .ok (n, k) → n < 18446744073709551616 ∧ i < k ∧ k ≤ i + l.length ∧ k ≤ 10 := by
  intro l
  induction l with
  | nil => intro i acc n k _ _ h; simp [rdU] at h
  | cons c t ih =>
    intro i acc n k hi ha h
    rw [rdU] at h
    by_cases h1 : i = 9 ∧ 1 < c.toNat
    · rw [if_pos h1] at h; simp at h
    · rw [if_neg h1] at h
      by_cases h2 : c.toNat < 128
      · rw [if_pos h2] at h
        by_cases h3 : c.toNat = 0 ∧ 0 < i
        · rw [if_pos h3] at h; simp at h
        · rw [if_neg h3] at h
          simp only [Except.ok.injEq, Prod.mk.injEq] at h
          obtain ⟨rfl, rfl⟩ := h
          have hl := mul_lt (y := c.toNat) hi h2 (by omega)
          have hp : (128 : Nat) ^ i ≤ 128 ^ 9 := Nat.pow_le_pow_right (by decide) hi
          have e : acc ||| c.toNat * 128 ^ i = acc + c.toNat * 128 ^ i := by
            rw [pow7] at ha ⊢
            rw [Nat.or_comm, Nat.mul_comm, ← Nat.two_pow_add_eq_or_of_lt ha]
            omega
          have h9 : (128 : Nat) ^ 9 = 9223372036854775808 := by decide
          refine ⟨?_, by omega, by simp, by omega⟩
          rw [← e]
          exact Nat.or_lt_two_pow (n := 64) (by omega) hl
      · rw [if_neg h2] at h
        have hi9 : i ≠ 9 := by omega
        have := ih (i + 1) _ n k (by omega) (acc_lt ha (by omega)) h
        simp only [List.length_cons]
        omega

/-- what a number that is read is within -/
theorem uSpec_ok {l : List UInt8} {a : Int} (h : (uSpec l a).2.2 = 0) : ∃ n k : Nat, uSpec l a = (n, (k : Int), 0) ∧ n < 18446744073709551616 ∧ 0 ≤ a ∧ a < (k : Int) ∧ k ≤ l.length := by
  unfold uSpec at h ⊢
  by_cases h1 : a < 0 ∨ (l.length : Int) < a
  · rw [if_pos h1] at h; simp at h
  · rw [if_neg h1] at h ⊢
    cases hr : rdU (l.drop a.toNat) 0 0 with
    | error e =>
      exfalso
      rw [hr] at h
      simp only [uRes] at h
      subst h
      have : ∀ (t : List UInt8) (i acc : Nat), rdU t i acc ≠ .error 0 := by
        intro t
        induction t with
        | nil => intro i acc h; simp [rdU] at h
        | cons c t ih =>
          intro i acc h
          rw [rdU] at h
          split at h
          · simp at h
          · split at h
            · split at h
              · simp at h
              · simp at h
            · exact ih _ _ h
      exact this _ _ _ hr
    | ok x =>
      obtain ⟨n, k⟩ := x
      have := rdU_ok _ 0 0 n k (by omega) (by decide) hr
      simp only [List.length_drop] at this
      refine ⟨n, a.toNat + k, ?_, this.1, by omega, by omega, by omega⟩
      simp only [uRes, Prod.mk.injEq, true_and, and_true]
      omega

/-- the sum that stands at a place -/
def s4 (l : List UInt8) (k : Nat) : Nat := (l.getD k 0).toNat + (l.getD (k + 1) 0).toNat * 256 + (l.getD (k + 2) 0).toNat * 65536 + (l.getD (k + 3) 0).toNat * 16777216
theorem or4 {b0 b1 b2 b3 : Nat} (h0 : b0 < 256) (h1 : b1 < 256) (h2 : b2 < 256) (h3 : b3 < 256) :
    bits .or .u32 (bits .or .u32 (bits .or .u32 (b0 : Int) ((b1 : Int) * 256)) ((b2 : Int) * 65536)) ((b3 : Int) * 16777216) = I32 (BitVec.ofNat 32 (b0 + b1 * 256 + b2 * 65536 + b3 * 16777216)) := by
  have e1 : ((b1 : Int) * 256) = ((b1 * 256 : Nat) : Int) := by omega
  have e2 : ((b2 : Int) * 65536) = ((b2 * 65536 : Nat) : Int) := by omega
  have e3 : ((b3 : Int) * 16777216) = ((b3 * 16777216 : Nat) : Int) := by omega
  have j1 : b0 ||| b1 * 256 = b0 + b1 * 256 := by rw [Nat.or_comm, nat_join 8 _ _ (by omega) (by omega)]; omega
  have j2 : (b0 + b1 * 256) ||| b2 * 65536 = b0 + b1 * 256 + b2 * 65536 := by rw [Nat.or_comm, nat_join 16 _ _ (by omega) (by omega)]; omega
  have j3 : (b0 + b1 * 256 + b2 * 65536) ||| b3 * 16777216 = b0 + b1 * 256 + b2 * 65536 + b3 * 16777216 := by rw [Nat.or_comm, nat_join 24 _ _ (by omega) (by omega)]; omega
  rw [e1, e2, e3, u32_or_nat _ _ (by omega) (by omega), j1, u32_or_nat _ _ (by omega) (by omega), j2, u32_or_nat _ _ (by omega) (by omega), j3]
  simp only [I32, BitVec.toNat_ofNat]
  omega

/-- a frame that is read -/
def fSpec (l : List UInt8) (a : Int) : Except Int (List UInt8 × Nat) :=
  if (uSpec l a).2.2 ≠ 0 then .error (uSpec l a).2.2
  else if 65536 < (uSpec l a).1 then .error 4
  else if l.length < (uSpec l a).2.1.toNat + ((uSpec l a).1 + 4) then .error 9
  else if crc ((l.drop ((uSpec l a).2.1.toNat + 4)).take (uSpec l a).1) ≠ BitVec.ofNat 32 (s4 l (uSpec l a).2.1.toNat) then .error 11
  else .ok ((l.drop ((uSpec l a).2.1.toNat + 4)).take (uSpec l a).1, (uSpec l a).2.1.toNat + 4 + (uSpec l a).1)

/-- its five ways -/
theorem fSpec_cases (l : List UInt8) (a : Int) :
    ((uSpec l a).2.2 ≠ 0 ∧ fSpec l a = .error (uSpec l a).2.2) ∨
    ∃ n k : Nat, uSpec l a = (n, (k : Int), 0) ∧ 0 ≤ a ∧ a < (k : Int) ∧ k ≤ l.length ∧ n < 18446744073709551616 ∧
      ((65536 < n ∧ fSpec l a = .error 4) ∨ (n ≤ 65536 ∧ l.length < k + (n + 4) ∧ fSpec l a = .error 9) ∨
       (n ≤ 65536 ∧ k + (n + 4) ≤ l.length ∧ crc ((l.drop (k + 4)).take n) ≠ BitVec.ofNat 32 (s4 l k) ∧ fSpec l a = .error 11) ∨
       (n ≤ 65536 ∧ k + (n + 4) ≤ l.length ∧ crc ((l.drop (k + 4)).take n) = BitVec.ofNat 32 (s4 l k) ∧ fSpec l a = .ok ((l.drop (k + 4)).take n, k + 4 + n))) := by
  by_cases h : (uSpec l a).2.2 = 0
  · obtain ⟨n, k, hu, hn, h0, h1, h2⟩ := uSpec_ok h
    refine .inr ⟨n, k, hu, h0, h1, h2, hn, ?_⟩
    unfold fSpec
    simp only [hu, Int.toNat_natCast, ne_eq, not_true_eq_false, if_false]
    by_cases c1 : 65536 < n
    · exact .inl ⟨c1, by rw [if_pos c1]⟩
    · by_cases c2 : l.length < k + (n + 4)
      · exact .inr (.inl ⟨by omega, c2, by rw [if_neg c1, if_pos c2]⟩)
      · by_cases c3 : crc ((l.drop (k + 4)).take n) = BitVec.ofNat 32 (s4 l k)
        · exact .inr (.inr (.inr ⟨by omega, by omega, c3, by rw [if_neg c1, if_neg c2, if_neg (by simpa using c3)]⟩))
        · exact .inr (.inr (.inl ⟨by omega, by omega, c3, by rw [if_neg c1, if_neg c2, if_pos c3]⟩))
  · exact .inl ⟨h, by unfold fSpec; rw [if_pos h]⟩
theorem fSpec_ok {l : List UInt8} {a : Int} {q : List UInt8} {k : Nat} (h : fSpec l a = .ok (q, k)) : 0 ≤ a ∧ a + 5 ≤ (k : Int) ∧ k ≤ l.length ∧ q.length ≤ 65536 ∧ q.length ≤ l.length := by
  rcases fSpec_cases l a with ⟨-, h1⟩ | ⟨n, m, hu, h0, h1, h2, hn, h3⟩
  · rw [h1] at h; cases h
  · rcases h3 with ⟨-, e⟩ | ⟨-, -, e⟩ | ⟨-, -, -, e⟩ | ⟨g1, g2, -, e⟩
    · rw [e] at h; cases h
    · rw [e] at h; cases h
    · rw [e] at h; cases h
    · rw [e] at h
      simp only [Except.ok.injEq, Prod.mk.injEq] at h
      obtain ⟨rfl, rfl⟩ := h
      simp only [List.length_take, List.length_drop]
      omega
theorem fSpec_err {l : List UInt8} {a e : Int} (h : fSpec l a = .error e) : e ≠ 0 := by
  rcases fSpec_cases l a with ⟨h0, h1⟩ | ⟨n, m, hu, h0, h1, h2, hn, h3⟩
  · rw [h1] at h; cases h; exact h0
  · rcases h3 with ⟨-, e'⟩ | ⟨-, -, e'⟩ | ⟨-, -, -, e'⟩ | ⟨-, -, -, e'⟩
    · rw [e'] at h; cases h; decide
    · rw [e'] at h; cases h; decide
    · rw [e'] at h; cases h; decide
    · rw [e'] at h; cases h

/-- frames one behind the other -/
def frs (l : List UInt8) : Nat → Nat → List (List UInt8) → List (List UInt8) × Nat × Int
  | 0, p, acc => (acc, p, 0)
  | f + 1, p, acc => if p < l.length then (match fSpec l (p : Int) with | .ok (q, k) => frs l f k (acc ++ [q]) | .error e => (acc, p, e)) else (acc, p, 0)
def frames (l : List UInt8) : List (List UInt8) × Nat × Int := frs l (l.length + 1) 0 []
theorem frs_end {l : List UInt8} {f p : Nat} {acc : List (List UInt8)} (h : ¬ p < l.length) : frs l f p acc = (acc, p, 0) := by
  cases f with
  | zero => rfl
  | succ f => rw [frs, if_neg h]
theorem frs_err {l : List UInt8} {f p : Nat} {acc : List (List UInt8)} {e : Int} (hf : l.length - p < f) (h : p < l.length) (he : fSpec l (p : Int) = .error e) : frs l f p acc = (acc, p, e) := by
  cases f with
  | zero => omega
  | succ f => rw [frs, if_pos h, he]
theorem frs_ok {l : List UInt8} {f p k : Nat} {acc : List (List UInt8)} {q : List UInt8} (hf : l.length - p < f) (h : p < l.length) (he : fSpec l (p : Int) = .ok (q, k)) : ∃ f', l.length - k < f' ∧ frs l f p acc = frs l f' k (acc ++ [q]) := by
  cases f with
  | zero => omega
  | succ f =>
    have := fSpec_ok he
    exact ⟨f, by omega, by rw [frs, if_pos h, he]⟩
end Go.Proofs.YtbnieljkadcaoaaGreatDoor

/- FrameR -/
namespace Go.Proofs.YtbnieljkadcaoaaGreatDoor
open Go.RowKit

theorem getD_lt (l : List UInt8) (k : Nat) : (l.getD k 0).toNat < 256 := (l.getD k 0).toNat_lt

/-- a part of bytes that are read -/
theorem RdA.cut {w : World} {g o : Nat} {l : List UInt8} (h : RdA w (some ⟨g, o, none⟩) l) (k n : Nat) (hk : k + n ≤ l.length) : RdA w (some ⟨g, o + k, none⟩) ((l.drop k).take n) := by
  intro j hj
  have hj' : j < n := by simp at hj; omega
  obtain ⟨b, q, hb, hc⟩ := h (k + j) (by omega)
  simp only [Option.some.injEq, Addr.mk.injEq, and_true] at hb
  obtain ⟨rfl, rfl⟩ := hb
  refine ⟨g, o + k, rfl, ?_⟩
  rw [Nat.add_assoc, hc]
  have e : ((l.drop k).take n).getD j 0 = l.getD (k + j) 0 := by
    simp only [List.getD, List.getElem?_take, hj', if_true, List.getElem?_drop]
  rw [e]
theorem cut_len (l : List UInt8) (k n : Nat) (hk : k + n ≤ l.length) : ((l.drop k).take n).length = n := by
  simp; omega
theorem Rd.cut {w : World} {g o c : Nat} {l : List UInt8} (h : Rd w (.slice (some ⟨g, o, none⟩) l.length c) l) (k n : Nat) (hk : k + n ≤ l.length) : Rd w (.slice (some ⟨g, o + k, none⟩) n (c - k)) ((l.drop k).take n) := by
  obtain ⟨a, c', hv, h1, h2, h3, h4⟩ := h
  simp only [Value.slice.injEq, true_and] at hv
  obtain ⟨rfl, rfl⟩ := hv
  refine ⟨_, _, by rw [cut_len l k n hk], by rw [cut_len l k n hk]; omega, by omega, h3.cut k n hk, fun h => by cases h⟩

theorem Rd.cut0 {w : World} {g o c : Nat} {l : List UInt8} (h : Rd w (.slice (some ⟨g, o, none⟩) l.length c) l) (k n : Nat) (hc : c ≤ k) (hk : k + n ≤ l.length) : Rd w (.slice (some ⟨g, o, none⟩) n 0) ((l.drop k).take n) := by
  obtain ⟨a, c', hv, h1, h2, h3, h4⟩ := h
  simp only [Value.slice.injEq, true_and] at hv
  obtain ⟨rfl, rfl⟩ := hv
  obtain rfl : n = 0 := by omega
  rw [List.take_zero]
  exact ⟨some ⟨g, o, none⟩, 0, rfl, Nat.le_refl _, by simp [maxLen], fun j hj => by simp at hj, fun h => by cases h⟩

theorem ret_fr {v : Value} {a b c d : Int} (h1 : a = c) (h2 : b = d) : Ending.returned (.tuple #[v, .int .i64 a, .int .i64 b]) = .returned (.tuple #[v, .int .i64 c, .int .i64 d]) := by rw [h1, h2]

end Go.Proofs.YtbnieljkadcaoaaGreatDoor

/- Torn -/
namespace Go.Proofs.YtbnieljkadcaoaaGreatDoor

/-! ### a number's form is read as it was written -/
theorem rdU_uv : ∀ (N n i acc : Nat) (rest : List UInt8), n < N → i ≤ 9 → n * 128 ^ i < 18446744073709551616 → (0 < i → n ≠ 0) → rdU (uv n ++ rest) i acc = .ok (acc + n * 128 ^ i, i + (uv n).length) := by
  intro N
  induction N with
  | zero => intro n i acc rest h; omega
  | succ N ih =>
    intro n i acc rest hN hi hlt h0
    by_cases hn : n < 128
    · rw [uv_small hn]
      have hc : (UInt8.ofNat n).toNat = n := by rw [UInt8.toNat_ofNat']; omega
      simp only [List.cons_append, List.nil_append, List.length_cons, List.length_nil, rdU, hc]
      have h9 : ¬ (i = 9 ∧ 1 < n) := by
        rintro ⟨rfl, h1⟩
        have : (128 : Nat) ^ 9 = 9223372036854775808 := by decide
        rw [this] at hlt
        omega
      rw [if_neg h9, if_pos hn, if_neg (by intro h; exact h0 h.2 h.1)]
    · rw [uv_big hn]
      have hc : (lowB n).toNat = n % 128 + 128 := lowB_nat n
      have h9 : i ≠ 9 := by
        rintro rfl
        have : (128 : Nat) ^ 9 = 9223372036854775808 := by decide
        rw [this] at hlt
        omega
      simp only [List.cons_append, rdU, hc]
      rw [if_neg (fun h => h9 h.1), if_neg (by omega)]
      have e1 : n / 128 * 128 ^ (i + 1) ≤ n * 128 ^ i := by
        rw [Nat.pow_succ, Nat.mul_comm (128 ^ i) 128, ← Nat.mul_assoc]
        exact Nat.mul_le_mul_right _ (Nat.div_mul_le_self n 128)
      rw [ih (n / 128) (i + 1) _ rest (by omega) (by omega) (by omega) (fun _ => by omega)]
      have e2 : (n % 128 + 128) % 128 = n % 128 := by omega
      have e3 : n * 128 ^ i = n % 128 * 128 ^ i + n / 128 * 128 ^ (i + 1) := by
        rw [Nat.pow_succ, Nat.mul_comm (128 ^ i) 128, ← Nat.mul_assoc, ← Nat.add_mul]
        congr 1
        omega
      rw [e2, e3]
      simp only [List.length_cons, Except.ok.injEq, Prod.mk.injEq]
      omega
theorem rdU_cut : ∀ (N n i acc m : Nat), n < N → i ≤ 9 → n * 128 ^ i < 18446744073709551616 → m < (uv n).length → rdU ((uv n).take m) i acc = .error 9 := by
  intro N
  induction N with
  | zero => intro n i acc m h; omega
  | succ N ih =>
    intro n i acc m hN hi hlt hm
    by_cases hn : n < 128
    · rw [uv_small hn] at hm ⊢
      have : m = 0 := by simpa using hm
      subst this
      rfl
    · rw [uv_big hn] at hm ⊢
      cases m with
      | zero => rfl
      | succ m =>
        have hc : (lowB n).toNat = n % 128 + 128 := lowB_nat n
        have h9 : i ≠ 9 := by
          rintro rfl
          have : (128 : Nat) ^ 9 = 9223372036854775808 := by decide
          rw [this] at hlt
          omega
        simp only [List.take_succ_cons, rdU, hc]
        rw [if_neg (fun h => h9 h.1), if_neg (by omega)]
        have e1 : n / 128 * 128 ^ (i + 1) ≤ n * 128 ^ i := by
          rw [Nat.pow_succ, Nat.mul_comm (128 ^ i) 128, ← Nat.mul_assoc]
          exact Nat.mul_le_mul_right _ (Nat.div_mul_le_self n 128)
        exact ih (n / 128) (i + 1) _ m (by omega) (by omega) (by omega) (by simpa using hm)

theorem uSpec_uv (pre rest : List UInt8) (n : Nat) (hn : n < 18446744073709551616) : uSpec (pre ++ (uv n ++ rest)) (pre.length : Int) = (n, ((pre.length + (uv n).length : Nat) : Int), 0) := by
  have h := rdU_uv (n + 1) n 0 0 rest (by omega) (by omega) (by omega) (by omega)
  rw [uSpec_in (by simp) (r := .ok (n, (uv n).length)) (by rw [List.drop_left]; simpa using h)]
  simp [uRes]
theorem uSpec_cut (pre : List UInt8) (n m : Nat) (hn : n < 18446744073709551616) (hm : m < (uv n).length) : uSpec (pre ++ (uv n).take m) (pre.length : Int) = (0, 0, 9) := by
  have h := rdU_cut (n + 1) n 0 0 m (by omega) (by omega) (by omega) hm
  rw [uSpec_in (by simp) (r := .error 9) (by rw [List.drop_left]; exact h)]
  rfl

theorem s4_le4 (pre rest : List UInt8) (x : BitVec 32) : s4 (pre ++ (le4 x ++ rest)) pre.length = x.toNat := by
  have hx := x.isLt
  have g : ∀ j, (pre ++ (le4 x ++ rest)).getD (pre.length + j) 0 = (le4 x ++ rest).getD j 0 := fun j => by
    simp only [List.getD]
    rw [List.getElem?_append_right (by omega)]
    congr 2
    omega
  have g0 := g 0
  have g1 := g 1
  have g2 := g 2
  have g3 := g 3
  simp only [Nat.add_zero] at g0
  unfold s4
  rw [g0, g1, g2, g3]
  simp only [le4, List.cons_append, List.nil_append, List.getD_cons_zero, List.getD_cons_succ, UInt8.toNat_ofNat']
  omega
theorem le4_len (x : BitVec 32) : (le4 x).length = 4 := rfl
theorem frame_len (p : List UInt8) : (frame p).length = (uv p.length).length + (4 + p.length) := by
  unfold frame
  rw [List.length_append, List.length_append, le4_len]

/-- a frame's bytes with some content of its length in the place of its own -/
theorem fSpec_at (pre p q rest : List UInt8) (hp : p.length ≤ 65536) (hq : q.length = p.length) :
    (crc q = crc p → fSpec (pre ++ (uv p.length ++ (le4 (crc p) ++ (q ++ rest)))) (pre.length : Int) = .ok (q, pre.length + (frame p).length)) ∧
    (crc q ≠ crc p → fSpec (pre ++ (uv p.length ++ (le4 (crc p) ++ (q ++ rest)))) (pre.length : Int) = .error 11) := by
  have hu := uSpec_uv pre (le4 (crc p) ++ (q ++ rest)) p.length (by omega)
  have hs : s4 (pre ++ (uv p.length ++ (le4 (crc p) ++ (q ++ rest)))) (pre.length + (uv p.length).length) = (crc p).toNat := by
    have := s4_le4 (pre ++ uv p.length) (q ++ rest) (crc p)
    rw [List.length_append, List.append_assoc] at this
    exact this
  have hd : ((pre ++ (uv p.length ++ (le4 (crc p) ++ (q ++ rest)))).drop (pre.length + (uv p.length).length + 4)).take p.length = q := by
    have e : pre ++ (uv p.length ++ (le4 (crc p) ++ (q ++ rest))) = (pre ++ uv p.length ++ le4 (crc p)) ++ (q ++ rest) := by simp only [List.append_assoc]
    have e2 : pre.length + (uv p.length).length + 4 = (pre ++ uv p.length ++ le4 (crc p)).length := by simp only [List.length_append, le4_len]
    rw [e, e2, List.drop_left, ← hq, List.take_left]
  have hl : (pre ++ (uv p.length ++ (le4 (crc p) ++ (q ++ rest)))).length = pre.length + ((uv p.length).length + (4 + (p.length + rest.length))) := by simp only [List.length_append, le4_len, hq]
  have hb : BitVec.ofNat 32 (crc p).toNat = crc p := by simp
  constructor
  · intro h
    unfold fSpec
    simp only [hu, Int.toNat_natCast, hs, hd, hl]
    rw [if_neg (by simp), if_neg (by omega), if_neg (by omega), if_neg (by rw [hb]; simpa using h), frame_len]
    simp only [Except.ok.injEq, Prod.mk.injEq, true_and]
    omega
  · intro h
    unfold fSpec
    simp only [hu, Int.toNat_natCast, hs, hd, hl]
    rw [if_neg (by simp), if_neg (by omega), if_neg (by omega), if_pos (by rw [hb]; exact h)]
theorem fSpec_frame (pre p rest : List UInt8) (hp : p.length ≤ 65536) : fSpec (pre ++ (frame p ++ rest)) (pre.length : Int) = .ok (p, pre.length + (frame p).length) := by
  have h := (fSpec_at pre p p rest hp rfl).1 rfl
  have e : frame p ++ rest = uv p.length ++ (le4 (crc p) ++ (p ++ rest)) := by unfold frame; simp only [List.append_assoc]
  rw [e]
  exact h
theorem fSpec_torn (pre p : List UInt8) (m : Nat) (hp : p.length ≤ 65536) (hm : m < (frame p).length) : fSpec (pre ++ (frame p).take m) (pre.length : Int) = .error 9 := by
  by_cases h : m < (uv p.length).length
  · have e : (frame p).take m = (uv p.length).take m := by unfold frame; rw [List.take_append_of_le_length (by omega)]
    have hu := uSpec_cut pre p.length m (by omega) h
    rw [e]
    unfold fSpec
    simp only [hu]
    rw [if_pos (by decide)]
  · obtain ⟨j, rfl⟩ : ∃ j, m = (uv p.length).length + j := ⟨m - (uv p.length).length, by omega⟩
    have e : (frame p).take ((uv p.length).length + j) = uv p.length ++ (le4 (crc p) ++ p).take j := by unfold frame; rw [List.take_append, List.take_of_length_le (by omega)]; congr 2; omega
    have hu := uSpec_uv pre ((le4 (crc p) ++ p).take j) p.length (by omega)
    have hl : (pre ++ (uv p.length ++ (le4 (crc p) ++ p).take j)).length < pre.length + (uv p.length).length + (p.length + 4) := by
      rw [frame_len] at hm
      simp only [List.length_append, List.length_take, le4_len]
      omega
    rw [e]
    unfold fSpec
    simp only [hu, Int.toNat_natCast]
    rw [if_neg (by simp), if_neg (by omega), if_pos hl]

/-! ### many -/
def cat (ps : List (List UInt8)) : List UInt8 := ps.flatMap frame
theorem cat_append (a b : List (List UInt8)) : cat (a ++ b) = cat a ++ cat b := by simp [cat]
theorem cat_split {ps : List (List UInt8)} {j : Nat} (h : j < ps.length) : cat ps = cat (ps.take j) ++ (frame (ps.getD j []) ++ cat (ps.drop (j + 1))) := by
  have e : ps = ps.take j ++ (ps.getD j [] :: ps.drop (j + 1)) := by
    have h1 : ps.getD j [] = ps[j] := by simp [List.getD, h]
    rw [h1, ← List.drop_eq_getElem_cons h, List.take_append_drop]
  conv => lhs; rw [e]
  rw [cat_append]
  simp [cat]
theorem take_snoc {ps : List (List UInt8)} {j : Nat} (h : j < ps.length) : ps.take (j + 1) = ps.take j ++ [ps.getD j []] := by
  have h1 : ps.getD j [] = ps[j] := by simp [List.getD, h]
  rw [h1, List.take_succ_eq_append_getElem h]
theorem cat_take {ps : List (List UInt8)} {j : Nat} (h : j < ps.length) : cat (ps.take (j + 1)) = cat (ps.take j) ++ frame (ps.getD j []) := by
  rw [take_snoc h, cat_append]
  simp [cat]
theorem frame_pos (p : List UInt8) : 5 ≤ (frame p).length := by
  rw [frame_len]
  have := uv_pos p.length
  omega

theorem frs_cat (ps : List (List UInt8)) (hps : ∀ p ∈ ps, p.length ≤ 65536) (n W : Nat) (hn : n ≤ (cat ps).length) (hW : W ≤ ps.length) (h1 : (cat (ps.take W)).length ≤ n) (h2 : W < ps.length → n < (cat (ps.take (W + 1))).length) :
    ∀ d j f, j + d = W → n - (cat (ps.take j)).length < f → ∃ e : Int, frs ((cat ps).take n) f (cat (ps.take j)).length (ps.take j) = (ps.take W, (cat (ps.take W)).length, e) ∧ (e = 0 ↔ (cat (ps.take W)).length = n) := by
  have hmem : ∀ j, j < ps.length → (ps.getD j []).length ≤ 65536 := fun j hj => hps _ (by simp [List.getD, hj])
  have hlen : ((cat ps).take n).length = n := by rw [List.length_take]; omega
  have hmono : ∀ d j, j + d ≤ ps.length → (cat (ps.take j)).length ≤ (cat (ps.take (j + d))).length := by
    intro d
    induction d with
    | zero => intro j _; exact Nat.le_refl _
    | succ d ih =>
      intro j hj
      have := ih j (by omega)
      rw [show j + (d + 1) = (j + d) + 1 from rfl, cat_take (by omega), List.length_append]
      omega
  intro d
  induction d with
  | zero =>
    intro j f hj hf
    obtain rfl : j = W := by omega
    by_cases he : (cat (ps.take j)).length = n
    · exact ⟨0, frs_end (by rw [hlen]; omega), by simp [he]⟩
    · have hjl : j < ps.length := by
        by_cases hc : j < ps.length
        · exact hc
        · exfalso
          have : ps.take j = ps := List.take_of_length_le (by omega)
          rw [this] at he h1
          omega
      have h3 := h2 hjl
      rw [cat_take hjl, List.length_append] at h3
      have e : (cat ps).take n = cat (ps.take j) ++ (frame (ps.getD j [])).take (n - (cat (ps.take j)).length) := by
        rw [cat_split hjl, List.take_append, List.take_of_length_le h1, List.take_append_of_le_length (by omega)]
      have hf9 := fSpec_torn (cat (ps.take j)) (ps.getD j []) (n - (cat (ps.take j)).length) (hmem j hjl) (by omega)
      rw [← e] at hf9
      refine ⟨9, frs_err (by rw [hlen]; omega) (by rw [hlen]; omega) hf9, ?_⟩
      constructor
      · intro h; cases h
      · intro h; exact absurd h he
  | succ d ih =>
    intro j f hj hf
    have hjl : j < ps.length := by omega
    have hle : (cat (ps.take (j + 1))).length ≤ n := by
      have := hmono d (j + 1) (by omega)
      rw [show j + 1 + d = W by omega] at this
      omega
    have hle2 := hle
    rw [cat_take hjl, List.length_append] at hle2
    have e : (cat ps).take n = cat (ps.take j) ++ (frame (ps.getD j []) ++ (cat (ps.drop (j + 1))).take (n - (cat (ps.take j)).length - (frame (ps.getD j [])).length)) := by
      rw [cat_split hjl, List.take_append, List.take_of_length_le (l := cat (ps.take j)) (by omega), List.take_append, List.take_of_length_le (l := frame (ps.getD j [])) (by omega)]
    have hok := fSpec_frame (cat (ps.take j)) (ps.getD j []) ((cat (ps.drop (j + 1))).take (n - (cat (ps.take j)).length - (frame (ps.getD j [])).length)) (hmem j hjl)
    rw [← e] at hok
    have hpos := frame_pos (ps.getD j [])
    obtain ⟨f', hf', hfr⟩ := frs_ok (acc := ps.take j) (f := f) (by rw [hlen]; omega) (by rw [hlen]; omega) hok
    rw [hfr, ← take_snoc hjl]
    have hc : (cat (ps.take j)).length + (frame (ps.getD j [])).length = (cat (ps.take (j + 1))).length := by rw [cat_take hjl, List.length_append]
    rw [hc] at hf' ⊢
    exact ih (j + 1) f' (by omega) (by rw [hlen] at hf'; omega)
theorem frames_cat (ps : List (List UInt8)) (hps : ∀ p ∈ ps, p.length ≤ 65536) (n W : Nat) (hn : n ≤ (cat ps).length) (hW : W ≤ ps.length) (h1 : (cat (ps.take W)).length ≤ n) (h2 : W < ps.length → n < (cat (ps.take (W + 1))).length) :
    ∃ e : Int, frames ((cat ps).take n) = (ps.take W, (cat (ps.take W)).length, e) ∧ (e = 0 ↔ (cat (ps.take W)).length = n) := by
  have h := frs_cat ps hps n W hn hW h1 h2 W 0 (((cat ps).take n).length + 1) (by omega) (by rw [List.length_take]; omega)
  have e0 : (cat (ps.take 0)).length = 0 := by simp [cat]
  rw [e0, List.take_zero] at h
  exact h

/-! ### a turned bit -/
theorem bit1_inj {x y : BitVec 32} (h : bit1 x = bit1 y) : x = y := by
  rw [bit1_eq, bit1_eq] at h
  have h31 : ∀ z : BitVec 32, ((z >>> 1) ^^^ mk (z.getLsbD 0)).getLsbD 31 = z.getLsbD 0 := by
    intro z
    rw [BitVec.getLsbD_xor, BitVec.getLsbD_ushiftRight]
    have e : z.getLsbD (1 + 31) = false := BitVec.getLsbD_of_ge _ _ (by decide)
    rw [e]
    cases z.getLsbD 0 <;> decide
  have h0 : x.getLsbD 0 = y.getLsbD 0 := by rw [← h31 x, ← h31 y, h]
  have hs : x >>> 1 = y >>> 1 := by
    rw [h0] at h
    have := congrArg (fun z => z ^^^ mk (y.getLsbD 0)) h
    simpa [BitVec.xor_assoc] using this
  apply BitVec.eq_of_getLsbD_eq
  intro i hi
  cases i with
  | zero => exact h0
  | succ i =>
    have := congrArg (fun z => z.getLsbD i) hs
    simp only [BitVec.getLsbD_ushiftRight] at this
    rw [Nat.add_comm i 1]
    exact this
theorem bitN_inj : ∀ (k : Nat) {x y : BitVec 32}, bitN k x = bitN k y → x = y := by
  intro k
  induction k with
  | zero => intro x y h; exact h
  | succ k ih =>
    intro x y h
    first
      | exact bit1_inj (ih h)
      | exact ih (bit1_inj h)
theorem crcB_inj {x y : BitVec 32} {b : UInt8} (h : crcB x b = crcB y b) : x = y := by
  rw [← crcB_eq, ← crcB_eq] at h
  have := bitN_inj 8 h
  have := congrArg (fun z => z ^^^ ofB b) this
  simpa [BitVec.xor_assoc] using this
theorem ofB_inj {a b : UInt8} (h : ofB a = ofB b) : a = b := by
  have := congrArg BitVec.toNat h
  have ha := a.toNat_lt
  have hb := b.toNat_lt
  simp only [ofB, BitVec.toNat_ofNat] at this
  apply UInt8.toNat.inj
  omega
theorem crcB_inj2 {x : BitVec 32} {a b : UInt8} (h : crcB x a = crcB x b) : a = b := by
  rw [← crcB_eq, ← crcB_eq] at h
  have := bitN_inj 8 h
  have := congrArg (fun z => x ^^^ z) this
  simp only [← BitVec.xor_assoc, BitVec.xor_self, BitVec.zero_xor] at this
  exact ofB_inj this
theorem fold_inj : ∀ (l : List UInt8) {x y : BitVec 32}, l.foldl crcB x = l.foldl crcB y → x = y := by
  intro l
  induction l with
  | nil => intro x y h; exact h
  | cons b l ih => intro x y h; exact crcB_inj (ih h)
theorem crc_set (p : List UInt8) (j : Nat) (hj : j < p.length) (b : UInt8) (hb : b ≠ p.getD j 0) : crc (p.set j b) ≠ crc p := by
  have hp : p = p.take j ++ (p.getD j 0 :: p.drop (j + 1)) := by
    have h1 : p.getD j 0 = p[j] := by simp [List.getD, hj]
    rw [h1, ← List.drop_eq_getElem_cons hj, List.take_append_drop]
  have hq : p.set j b = p.take j ++ (b :: p.drop (j + 1)) := List.set_eq_take_append_cons_drop .. |>.trans (by rw [if_pos hj])
  intro h
  unfold crc crcOn at h
  rw [hq] at h
  conv at h => rhs; rw [hp]
  rw [List.foldl_append, List.foldl_append, List.foldl_cons, List.foldl_cons] at h
  have h2 := congrArg (fun z => ~~~ z) h
  simp only [BitVec.not_not] at h2
  exact hb (crcB_inj2 (fold_inj _ h2))
theorem frames_turned (p q rest : List UInt8) (hp : p.length ≤ 65536) (hq : q.length = p.length) (hc : crc q ≠ crc p) : frames (uv p.length ++ (le4 (crc p) ++ (q ++ rest))) = ([], 0, 11) := by
  have h := (fSpec_at [] p q rest hp hq).2 hc
  simp only [List.nil_append, List.length_nil] at h
  unfold frames
  refine frs_err (by omega) ?_ h
  have := uv_pos p.length
  simp only [List.length_append]
  omega
end Go.Proofs.YtbnieljkadcaoaaGreatDoor
