/-
  Nums, Nums2, U8Put2, LbBy, in one text.
-/
import Derived.Test.YtpglhdnepmcahaaGreatDoorVmA
import Derived.Test.YtpglhdnepmcahaaGreatDoorVmC
import Derived.Lib.ConvBytes
import Derived.Test.YtpglhdnepmcahaaGreatDoorLpA
import Derived.Test.YtpglhdnepmcahaaGreatDoorLhA
import Derived.Deep.RegionHeld3
/- Nums -/
namespace Go.Proofs.YtpglhdnepmcahaaGreatDoor
open Go.RowKit

def zz (n : Int) : Nat := if n < 0 then (2 * (-(n + 1)) + 1).toNat else (2 * n).toNat
def uz (u : Nat) : Int := if u % 2 = 1 then -((u / 2 : Nat) : Int) - 1 else ((u / 2 : Nat) : Int)

theorem I64_xor (x y : BitVec 64) : bits .xor .u64 (I64 x) (I64 y) = I64 (x ^^^ y) := by
  have hx := x.isLt
  have hy := y.isLt
  simp only [I64]
  rw [u64_xor_nat _ _ hx hy, BitVec.toNat_xor]
theorem I64_not (x : BitVec 64) : bits .xor .u64 IntKind.u64.max (I64 x) = I64 (~~~ x) := by
  have h := I64_xor (BitVec.allOnes 64) x
  have e : I64 (BitVec.allOnes 64) = IntKind.u64.max := by decide
  rw [e, BitVec.allOnes_xor] at h
  exact h
theorem zz_neg_eq {n : Int} (h : n < 0) (hl : -9223372036854775808 ≤ n) : bits .xor .u64 IntKind.u64.max (IntKind.u64.wrap (IntKind.u64.wrap n * 2)) = I64 (BitVec.ofNat 64 (zz n)) := by
  have e : IntKind.u64.wrap (IntKind.u64.wrap n * 2) = I64 (BitVec.ofNat 64 (18446744073709551616 + 2 * n).toNat) := by
    rw [IntKind.wrap_u64, IntKind.wrap_u64, I64_of (by omega)]
    omega
  rw [e, I64_not]
  unfold zz
  rw [if_pos h]
  simp only [I64, BitVec.toNat_not, BitVec.toNat_ofNat]
  omega
theorem zz_pos_eq {n : Int} (h : ¬ n < 0) (hl : n ≤ 9223372036854775807) : n * 2 = I64 (BitVec.ofNat 64 (zz n)) := by
  unfold zz
  rw [if_neg h, I64_of (by omega)]
  omega
theorem turn_neg_eq {n : Int} (h : n < 0) (hl : -9223372036854775808 ≤ n) : 2 * -(n + 1) + 1 = I64 (BitVec.ofNat 64 (zz n)) := by
  unfold zz
  rw [if_pos h, I64_of (by omega)]
  omega
theorem bit0 (x : BitVec 64) : bits .and .u64 (I64 x) 1 = ((x.toNat % 2 : Nat) : Int) := by
  have h := u64_and_nat x.toNat 1 x.isLt (by decide)
  rw [Nat.and_one_is_mod] at h
  exact h
theorem wrap_half (x : BitVec 64) : wrap64 (I64 x / (2 : Int)) = ((x.toNat / 2 : Nat) : Int) := by
  have := x.isLt
  have h : I64 x / (2 : Int) = ((x.toNat / 2 : Nat) : Int) := by simp only [I64]; omega
  rw [h]
  unfold wrap64
  omega
theorem not_i64 (y : Nat) (h : y < 9223372036854775808) : bits .xor .i64 (-1) (y : Int) = -(y : Int) - 1 := by
  have e : BitVec.ofInt 64 (-1) = BitVec.allOnes 64 := by decide
  have e2 : BitVec.ofInt 64 (y : Int) = BitVec.ofNat 64 y := BitVec.ofInt_natCast 64 y
  show IntKind.i64.wrap ((BitVec.ofInt 64 (-1) ^^^ BitVec.ofInt 64 (y : Int)).toNat : Int) = _
  rw [e, e2, BitVec.allOnes_xor, IntKind.wrap_i64]
  simp only [BitVec.toNat_not, BitVec.toNat_ofNat]
  omega

theorem zigzag_any (n : Int) (w : World) (hl : -9223372036854775808 ≤ n) (hh : n ≤ 9223372036854775807) :
    Calls Tryz.prog 97 #[.int .i64 n] w fun e w' => e = .returned (.int .u64 (I64 (BitVec.ofNat 64 (zz n)))) ∧ w' = w := by
  by_cases h : n < 0
  · have H : Hid (bits .xor .u64 IntKind.u64.max (IntKind.u64.wrap (IntKind.u64.wrap n * 2)) = I64 (BitVec.ofNat 64 (zz n))) := zz_neg_eq h hl
    go_enter Tryz.func97, Tryz.ntmps97
    go_wp2
    go_ret
    exact ⟨ret_int H.out, rfl⟩
  · have H : Hid (n * 2 = I64 (BitVec.ofNat 64 (zz n))) := zz_pos_eq h hh
    go_enter Tryz.func97, Tryz.ntmps97
    go_wp2
    go_ret
    exact ⟨ret_int H.out, rfl⟩
theorem turn_any (n : Int) (w : World) (hl : -9223372036854775808 ≤ n) (hh : n ≤ 9223372036854775807) :
    Calls Tryz.prog 117 #[.int .i64 n] w fun e w' => e = .returned (.int .u64 (I64 (BitVec.ofNat 64 (zz n)))) ∧ w' = w := by
  by_cases h : n < 0
  · have H : Hid (2 * -(n + 1) + 1 = I64 (BitVec.ofNat 64 (zz n))) := turn_neg_eq h hl
    have h' : ¬ 0 ≤ n := by omega
    go_enter Tryz.func117, Tryz.ntmps117
    go_wp2
    go_ret
    exact ⟨ret_int H.out, rfl⟩
  · have H : Hid (2 * n = I64 (BitVec.ofNat 64 (zz n))) := (Int.mul_comm 2 n).trans (zz_pos_eq h hh)
    have h' : 0 ≤ n := by omega
    go_enter Tryz.func117, Tryz.ntmps117
    go_wp2
    go_ret
    exact ⟨ret_int H.out, rfl⟩
theorem unzigzag_any (x : BitVec 64) (w : World) : Calls Tryz.prog 101 #[.int .u64 (I64 x)] w fun e w' => e = .returned (.int .i64 (uz x.toNat)) ∧ w' = w := by
  have hx := x.isLt
  have e1 := wrap_half x
  have e2 := bit0 x
  have hlt : x.toNat / 2 < 9223372036854775808 := by omega
  have e3 := not_i64 (x.toNat / 2) hlt
  clear hx hlt
  by_cases h : x.toNat % 2 = 1
  · have H : Hid (uz x.toNat = -((x.toNat / 2 : Nat) : Int) - 1) := if_pos h
    rw [h] at e2
    clear h
    generalize x.toNat / 2 = y at *
    generalize uz x.toNat = z at *
    go_enter Tryz.func101, Tryz.ntmps101
    go_wp2
    go_ret
    exact ⟨ret_int H.out.symm, rfl⟩
  · have H : Hid (uz x.toNat = ((x.toNat / 2 : Nat) : Int)) := if_neg h
    have h0 : x.toNat % 2 = 0 := by omega
    rw [h0] at e2
    clear h h0 e3
    generalize x.toNat / 2 = y at *
    have E1 : Hid (wrap64 (I64 x / (2 : Int)) = (y : Int)) := e1
    clear e1
    generalize uz x.toNat = z at *
    go_enter Tryz.func101, Tryz.ntmps101
    go_wp2
    go_ret
    exact ⟨ret_int (E1.out.trans H.out.symm), rfl⟩
theorem back_t (x : BitVec 64) : (I64 x).tmod 2 = ((x.toNat % 2 : Nat) : Int) := by
  simp only [I64]
  rw [Int.tmod_eq_emod_of_nonneg (by omega)]
  omega
theorem back_d (x : BitVec 64) : (I64 x).tdiv 2 = ((x.toNat / 2 : Nat) : Int) := by
  simp only [I64]
  rw [Int.tdiv_eq_ediv_of_nonneg (by omega)]
  omega
theorem wrap_u64_nat {y : Nat} (h : y < 9223372036854775808) : IntKind.u64.wrap (y : Int) = (y : Int) := by
  rw [IntKind.wrap_u64]; omega
theorem wrap_i64_nat {y : Nat} (h : y < 9223372036854775808) : wrap64 (y : Int) = (y : Int) := by
  unfold wrap64; omega
theorem neg_half {y : Nat} (h : y < 9223372036854775808) : wrap64 (wrap64 (-(y : Int)) - 1) = -(y : Int) - 1 := by
  unfold wrap64; omega
end Go.Proofs.YtpglhdnepmcahaaGreatDoor

/- Nums2 -/
namespace Go.Proofs.YtpglhdnepmcahaaGreatDoor
open Go.RowKit

theorem back_any (x : BitVec 64) (w : World) : Calls Tryz.prog 76 #[.int .u64 (I64 x)] w fun e w' => e = .returned (.int .i64 (uz x.toNat)) ∧ w' = w := by
  have e1 := back_t x
  have e2 := back_d x
  have hx := x.isLt
  have hlt : x.toNat / 2 < 9223372036854775808 := by omega
  have e3 := wrap_u64_nat hlt
  have e4 : Hid (wrap64 ((x.toNat / 2 : Nat) : Int) = ((x.toNat / 2 : Nat) : Int)) := wrap_i64_nat hlt
  have e5 : Hid (wrap64 (wrap64 (-((x.toNat / 2 : Nat) : Int)) - 1) = -((x.toNat / 2 : Nat) : Int) - 1) := neg_half hlt
  clear hx hlt
  by_cases h : x.toNat % 2 = 1
  · have H : Hid (uz x.toNat = -((x.toNat / 2 : Nat) : Int) - 1) := if_pos h
    rw [h] at e1
    clear h
    generalize x.toNat / 2 = y at *
    generalize uz x.toNat = z at *
    go_enter Tryz.func76, Tryz.ntmps76
    go_wp2
    go_ret
    exact ⟨ret_int (by rw [e4.out, e5.out, H.out]), rfl⟩
  · have H : Hid (uz x.toNat = ((x.toNat / 2 : Nat) : Int)) := if_neg h
    have h0 : x.toNat % 2 = 0 := by omega
    rw [h0] at e1
    clear h h0
    generalize x.toNat / 2 = y at *
    generalize uz x.toNat = z at *
    go_enter Tryz.func76, Tryz.ntmps76
    go_wp2
    go_ret
    exact ⟨ret_int (e4.out.trans H.out.symm), rfl⟩

set_option maxHeartbeats 800000 in
theorem joined_any (v u : Value) (l m : List UInt8) (w : World) (hv : Rd w v l) (hu : Rd w u m) (hsz : l.length + m.length ≤ 175921860000000) :
    Calls Tryz.prog 116 #[v, u] w fun e w' => ∃ v', e = .returned v' ∧ Own w' w.heap.size v' (l ++ m) ∧ w.grownBy w' none := by
  have hv2 : Hid (Rd w v l) := hv
  have hu2 : Hid (Rd w u m) := hu
  clear hv hu
  go_enter Tryz.func116, Tryz.ntmps116
  go_wp2_with (at_builtin; refine wp_app rfl _ _ rfl w.heap.size _ _ [] l rfl rfl (Own.nil _ _) hv2.out ?c1 ?c2 ?_)
  case c1 => first | omega | (simp; omega)
  case c2 => omega
  intro v1 w1 ho1 hf1
  have H1 : Hid (Own w1 w.heap.size v1 l ∧ w.grownBy w1 none) := ⟨by simpa using ho1, hf1.1⟩
  clear ho1 hf1
  go_wp2_with (at_builtin; refine wp_app rfl _ _ rfl w.heap.size _ _ l m rfl rfl H1.out.1 (hu2.out.keep H1.out.2) ?c3 ?c4 ?_)
  case c3 => first | omega | (simp; omega)
  case c4 => exact H1.out.2.size
  intro v2 w2 ho2 hf2
  have H2 : Hid (Own w2 w.heap.size v2 (l ++ m) ∧ w.grownBy w2 none) := ⟨ho2, Fr.new H1.out.2 hf2 (fun k hk => (H1.out.1.lt k hk).1)⟩
  clear ho2 hf2 H1
  go_wp2
  go_ret
  exact ⟨_, rfl, H2.out.1, H2.out.2⟩

theorem low_mod (x : BitVec 64) : (I64 x).tmod 128 = ((x.toNat % 128 : Nat) : Int) := by
  simp only [I64]
  rw [Int.tmod_eq_emod_of_nonneg (by omega)]
  omega
theorem wrap_I64 (x : BitVec 64) : IntKind.u64.wrap (I64 x) = I64 x := by
  have := I64_lt x
  have := I64_nonneg x
  rw [IntKind.wrap_u64]; omega
theorem low_div (x : BitVec 64) : (I64 x).tdiv 128 = I64 (x >>> 7) := by
  rw [Int.tdiv_eq_ediv_of_nonneg (I64_nonneg x)]
  exact I64_shr7 x

set_option maxHeartbeats 1600000 in
theorem refPutU_any (v : Value) (l : List UInt8) (x : BitVec 64) (w : World) (hv : Rd w v l) (hsz : l.length ≤ 175921850000000) :
    Calls Tryz.prog 90 #[v, .int .u64 (I64 x)] w fun e w' => ∃ v', e = .returned v' ∧ Own w' w.heap.size v' (l ++ uv x.toNat) ∧ w.grownBy w' none := by
  have hv2 : Hid (Rd w v l) := hv
  have hlen := uv_len64 x
  clear hv
  go_enter Tryz.func90, Tryz.ntmps90
  go_wp2
  go_loopw [1, 5] (fun n s wr => ∃ (d : List UInt8) (y : BitVec 64), n = .int .u64 (I64 y) ∧ Hid (Own wr w.heap.size s d) ∧ Hid (uv x.toNat = d ++ uv y.toNat) ∧ Hid (w.grownBy wr none)) (fun n _ _ => (intOf n).toNat)
  case atStart => exact ⟨[], x, rfl, Own.nil _ _, rfl, gb_refl _ _⟩
  case round =>
    obtain ⟨d, y, rfl, ho, hu, hf⟩ := hrel
    have hdl : d.length + 1 ≤ 10 := by
      have h1 := congrArg List.length hu.out
      have := uv_pos y.toNat
      simp only [List.length_append] at h1
      omega
    by_cases h : 128 ≤ I64 y
    · obtain ⟨q, hq⟩ : ∃ q : Int, (I64 y).tmod 128 = q := ⟨_, rfl⟩
      have hq0 : 0 ≤ q := by rw [← hq, low_mod]; omega
      have hq1 : q < 128 := by rw [← hq, low_mod]; omega
      have e3 : q + 128 = ((lowB y.toNat).toNat : Int) := by rw [← hq, low_mod, lowB_nat]; omega
      have e2 := low_div y
      have hy : ¬ y.toNat < 128 := by simp only [I64] at h; omega
      have hst : Hid (uv x.toNat = (d ++ [lowB y.toNat]) ++ uv (y >>> 7).toNat) := by
        have := hu.out
        rw [uv_big hy] at this
        show uv x.toNat = _
        rw [this]
        simp [BitVec.toNat_ushiftRight, Nat.shiftRight_eq_div_pow]
      have hms : Hid ((I64 (y >>> 7)).toNat < (I64 y).toNat) := by
        show (I64 (y >>> 7)).toNat < (I64 y).toNat
        rw [← I64_shr7]; omega
      clear hu hy
      generalize y >>> 7 = y1 at *
      generalize lowB y.toNat = b1 at *
      go_wp2_with (at_builtin; refine wp_app rfl _ _ rfl w.heap.size _ _ d [b1] rfl rfl (ho.out.keep (alloc_gb _ _)) rd_one ?c1 ?c2 ?_)
      case c1 => first | omega | (simp; omega)
      case c2 => have := hf.out.size; first | omega | (simp; omega)
      intro v' w' ho' hf'
      have hf2 : Hid (w.grownBy w' none) := gb_new hf.out (Fr.pre (alloc_gb _ _) hf').1 (fun k hk => (ho.out.lt k hk).1)
      have ho2 : Hid (Own w' w.heap.size v' (d ++ [b1])) := ho'
      clear hf' ho' ho hf e3 hq hq0 hq1
      have e6 := wrap_I64 y1
      go_wp2
      go_roundw
      case rel => exact ⟨d ++ [b1], y1, rfl, ho2, hst, hf2⟩
      case measure => simp only [intOf]; exact hms.out
    · have hy : y.toNat < 128 := by simp only [I64] at h; omega
      have e1 := small256 y
      have hst : Hid (uv x.toNat = d ++ [UInt8.ofNat y.toNat]) := by
        have := hu.out
        rw [uv_small hy] at this
        exact this
      clear hu hy
      generalize UInt8.ofNat y.toNat = b1 at *
      go_wp2_with (at_builtin; refine wp_app rfl _ _ rfl w.heap.size _ _ d [b1] rfl rfl (ho.out.keep (alloc_gb _ _)) rd_one ?c3 ?c4 ?_)
      case c3 => first | omega | (simp; omega)
      case c4 => have := hf.out.size; first | omega | (simp; omega)
      intro v' w' ho' hf'
      have H2 : Hid (Rd w' v' (uv x.toNat) ∧ w.grownBy w' none) := ⟨by rw [hst.out]; exact ho'.rd, gb_new hf.out (Fr.pre (alloc_gb _ _) hf').1 (fun k hk => (ho.out.lt k hk).1)⟩
      clear hf' ho' ho hf hst e1
      go_wp2_with fail
      refine (joined_any v v' l (uv x.toNat) _ (hv2.out.keep H2.out.2) H2.out.1 (by omega)).mono ?_
      rintro e w3 ⟨v3, rfl, ho3, hg3⟩
      have H3 : Hid (Own w3 w.heap.size v3 (l ++ uv x.toNat) ∧ w.grownBy w3 none) := ⟨ho3.mono H2.out.2.size, gb_none H2.out.2 hg3⟩
      clear ho3 hg3 H2
      go_wp2
      go_ret
      exact ⟨_, rfl, H3.out.1, H3.out.2⟩

theorem ofNat_zz {n : Int} (hl : -9223372036854775808 ≤ n) (hh : n ≤ 9223372036854775807) : (BitVec.ofNat 64 (zz n)).toNat = zz n := by
  simp only [BitVec.toNat_ofNat]
  unfold zz
  split <;> omega

theorem putI_any (v : Value) (l : List UInt8) (n : Int) (w : World) (hv : Rd w v l) (hsz : l.length ≤ 175921850000000) (hl : -9223372036854775808 ≤ n) (hh : n ≤ 9223372036854775807) :
    Calls Tryz.prog 64 #[v, .int .i64 n] w fun e w' => ∃ v', e = .returned v' ∧ Own w' w.heap.size v' (l ++ uv (zz n)) ∧ w.grownBy w' none := by
  have hv2 : Hid (Rd w v l) := hv
  have hz : Hid ((BitVec.ofNat 64 (zz n)).toNat = zz n) := ofNat_zz hl hh
  clear hv
  go_enter Tryz.func64, Tryz.ntmps64
  go_wp2_with fail
  refine (zigzag_any n _ hl hh).mono ?_
  rintro e w1 ⟨rfl, rfl⟩
  go_wp2_with fail
  refine (putU_any v l _ _ hv2.out (by omega)).mono ?_
  rintro e w2 ⟨v2, rfl, ho, hg⟩
  rw [hz.out] at ho
  have H : Hid (Own w2 w1.heap.size v2 (l ++ uv (zz n)) ∧ w1.grownBy w2 none) := ⟨ho, hg⟩
  clear ho hg
  go_wp2
  go_ret
  exact ⟨_, rfl, H.out.1, H.out.2⟩
theorem refPutI_any (v : Value) (l : List UInt8) (n : Int) (w : World) (hv : Rd w v l) (hsz : l.length ≤ 175921850000000) (hl : -9223372036854775808 ≤ n) (hh : n ≤ 9223372036854775807) :
    Calls Tryz.prog 89 #[v, .int .i64 n] w fun e w' => ∃ v', e = .returned v' ∧ Own w' w.heap.size v' (l ++ uv (zz n)) ∧ w.grownBy w' none := by
  have hv2 : Hid (Rd w v l) := hv
  have hz : Hid ((BitVec.ofNat 64 (zz n)).toNat = zz n) := ofNat_zz hl hh
  clear hv
  go_enter Tryz.func89, Tryz.ntmps89
  go_wp2_with fail
  refine (turn_any n _ hl hh).mono ?_
  rintro e w1 ⟨rfl, rfl⟩
  go_wp2_with fail
  refine (refPutU_any v l _ _ hv2.out (by omega)).mono ?_
  rintro e w2 ⟨v2, rfl, ho, hg⟩
  rw [hz.out] at ho
  have H : Hid (Own w2 w1.heap.size v2 (l ++ uv (zz n)) ∧ w1.grownBy w2 none) := ⟨ho, hg⟩
  clear ho hg
  go_wp2
  go_ret
  exact ⟨_, rfl, H.out.1, H.out.2⟩

def tup3i (r : Nat × Int × Int) : Value := .tuple #[.int .i64 (uz (BitVec.ofNat 64 r.1).toNat), .int .i64 r.2.1, .int .i64 r.2.2]
theorem i_any (v : Value) (l : List UInt8) (p : Int) (w : World) (hv : Rd w v l) :
    Calls Tryz.prog 67 #[v, .int .i64 p] w fun e w' => e = .returned (tup3i (uSpec l p)) ∧ w' = w := by
  have H := u_any v l p w hv
  generalize uSpec l p = r at H ⊢
  obtain ⟨r1, r2, r3⟩ := r
  unfold tup3 at H
  unfold tup3i
  simp only [] at H ⊢
  generalize BitVec.ofNat 64 r1 = x at H ⊢
  have HC : Hid (Calls Tryz.prog 99 #[v, .int .i64 p] w fun e w' => e = .returned (.tuple #[.int .u64 (I64 x), .int .i64 r2, .int .i64 r3]) ∧ w' = w) := H
  clear H hv
  go_enter Tryz.func67, Tryz.ntmps67
  go_wp2_with fail
  refine HC.out.mono ?_
  rintro e w1 ⟨rfl, rfl⟩
  go_wp2_with fail
  refine (unzigzag_any x _).mono ?_
  rintro e w2 ⟨rfl, rfl⟩
  go_wp2
  go_ret3
  exact ⟨rfl, rfl⟩
end Go.Proofs.YtpglhdnepmcahaaGreatDoor

/- U8Put2 -/
namespace Go.Proofs.YtpglhdnepmcahaaGreatDoor
open Go.RowKit Go.Lib

/-- '[]byte(s)' -/
theorem conv_str (W : World) (s : List UInt8) (hs : s.length ≤ 175921840000000) : ∃ u W', (convert 9 42 (.string (ByteArray.mk ⟨s⟩))).run Tryz.prog W = .ok u W' ∧ Rd W' u s ∧ W.grownBy W' none := by
  refine ⟨_, _, Go.Lib.run_convert_string_bytes (P := Tryz.prog) W 9 42 5 _ Tryz.underlying9 Tryz.underlying42 Tryz.underlying5, ?_, ?_⟩
  · have hsz : (ByteArray.mk ⟨s⟩).size = s.length := rfl
    rw [hsz]
    refine ⟨_, _, rfl, grownCap_ge W s.length 0 _, grownCap_le_maxLen W s.length 0 _ (by unfold maxLen; omega), fun j hj => ⟨W.heap.size, 0, rfl, ?_⟩, fun h => by cases h⟩
    rw [Nat.zero_add]
    exact Go.Lib.bytesWorld_cell W 5 (ByteArray.mk ⟨s⟩) j hj
  · exact ⟨rfl, rfl, rfl, by rw [Go.Lib.bytesWorld_size]; omega, fun k hk _ => Go.Lib.bytesWorld_at_old W _ _ k hk⟩
set_option maxHeartbeats 3200000 in
/-- PUTTEXT, the document's -/
theorem refPutText_any (v : Value) (l s : List UInt8) (w : World) (hv : Rd w v l) (hsz : l.length + s.length ≤ 175921840000000) :
    Calls Tryz.prog 88 #[v, .string (ByteArray.mk ⟨s⟩)] w fun e w' => ∃ v', e = .returned v' ∧ Own w' w.heap.size v' (l ++ uv s.length ++ s) ∧ w.grownBy w' none := by
  have HV : Hid (Rd w v l) := hv
  clear hv
  have hz : (ByteArray.mk ⟨s⟩).size = s.length := rfl
  obtain ⟨SL, hSL⟩ : ∃ SL, s.length = SL := ⟨_, rfl⟩
  have HSL : Hid (s.length = SL) := hSL
  have hI : (SL : Int) = I64 (BitVec.ofNat 64 SL) := by rw [I64_of (by omega)]
  have hN : (BitVec.ofNat 64 SL).toNat = SL := by simp; omega
  have H2 : Hid (∀ W, w.grownBy W none → Calls Tryz.prog 90 #[v, .int .u64 (SL : Int)] W fun e w' => ∃ v', e = .returned v' ∧ Hid (Own w' W.heap.size v' (l ++ uv SL) ∧ W.grownBy w' none)) := fun W hg => by
    rw [hI]
    refine (refPutU_any v l (BitVec.ofNat 64 SL) W (HV.out.keep hg) (by omega)).mono ?_
    rintro e w' ⟨v', he, ho, hf⟩
    rw [hN] at ho
    exact ⟨v', he, ho, hf⟩
  clear hI hN
  rw [hSL] at hz hsz ⊢
  clear hSL
  go_enter Tryz.func88, Tryz.ntmps88
  go_wp2_with fail
  refine (H2.out _ (gb_refl _ _)).mono ?_
  rintro e w1 ⟨v1, rfl, R1⟩
  obtain ⟨u2, w2, hcv, hu2, hg2⟩ := conv_str w1 s (by have := HSL.out; omega)
  have R2 : Hid (Rd w2 u2 s ∧ w1.grownBy w2 none) := ⟨hu2, hg2⟩
  clear hu2 hg2
  have HJ : Hid (Calls Tryz.prog 116 #[v1, u2] w2 fun e w' => ∃ v', e = .returned v' ∧ Own w' w2.heap.size v' (l ++ uv SL ++ s) ∧ w2.grownBy w' none) := by
    refine joined_any v1 u2 (l ++ uv SL) s w2 (R1.out.1.rd.keep R2.out.2) R2.out.1 ?_
    have hul := uv_len64 (BitVec.ofNat 64 SL)
    have e : (BitVec.ofNat 64 SL).toNat = SL := by simp; omega
    rw [e] at hul
    rw [List.length_append, HSL.out]
    omega
  go_wp2_with fail
  refine HJ.out.mono ?_
  rintro e w3 ⟨v3, rfl, ho3, hg3⟩
  have H3 : Hid (Own w3 w.heap.size v3 (l ++ uv SL ++ s) ∧ w.grownBy w3 none) := ⟨ho3.mono (by have := R1.out.2.size; have := R2.out.2.size; omega), gb_none (gb_none R1.out.2 R2.out.2) hg3⟩
  clear ho3 hg3 hcv
  go_wp2
  go_ret
  exact ⟨_, rfl, H3.out⟩
end Go.Proofs.YtpglhdnepmcahaaGreatDoor

/- LbBy -/
namespace Go.Proofs.YtpglhdnepmcahaaGreatDoor
open Go.RowKit

/-- a label's bytes -/
def lbB (x : LbT) : List UInt8 := uv x.1.length ++ x.1 ++ (uv x.2.length ++ x.2)
def putAt (l : List UInt8) (ls : List LbT) (z : Nat) : List UInt8 := l ++ uv ls.length ++ (ls.take z).flatMap lbB
def putS (l : List UInt8) (ls : List LbT) : List UInt8 × Int := if (rightS ls).1 = 0 then (putAt l ls ls.length, 0) else ([], (rightS ls).1)
theorem uv_short {n : Nat} (h : n < 18446744073709551616) : (uv n).length ≤ 10 := by
  have := uv_len64 (BitVec.ofNat 64 n)
  have e : (BitVec.ofNat 64 n).toNat = n := by simp; omega
  rwa [e] at this
theorem put_step (l : List UInt8) {ls : List LbT} {z : Nat} (hz : z < ls.length) : putAt l ls (z + 1) = putAt l ls z ++ uv (ls.getD z ([], [])).1.length ++ (ls.getD z ([], [])).1 ++ uv (ls.getD z ([], [])).2.length ++ (ls.getD z ([], [])).2 := by
  have e1 : ls.getD z ([], []) = ls[z] := by simp [List.getD, hz]
  unfold putAt
  rw [List.take_succ_eq_append_getElem hz, List.flatMap_append, e1]
  simp [lbB]
theorem firstOk (ls : List LbT) : ∀ (f i : Nat), (firstAt ls f i).1 = 0 → ∀ j, i ≤ j → j < i + f → errAt ls j = 0
  | 0, i, _, j, h1, h2 => by omega
  | f + 1, i, h, j, h1, h2 => by
    rw [firstAt] at h
    by_cases he : errAt ls i = 0
    · rw [if_neg (by simpa using he)] at h
      by_cases hj : j = i
      · rw [hj]; exact he
      · exact firstOk ls f (i + 1) h j (by omega) (by omega)
    · rw [if_pos he] at h
      exact absurd h he
/-- a right label set's texts are short -/
theorem right_short {ls : List LbT} (h : (rightS ls).1 = 0) : ls.length ≤ 16 ∧ ∀ j, (ls.getD j ([], [])).1.length ≤ 64 ∧ (ls.getD j ([], [])).2.length ≤ 256 := by
  unfold rightS at h
  by_cases h16 : 16 < ls.length
  · rw [if_pos h16] at h; cases h
  · rw [if_neg h16] at h
    refine ⟨by omega, fun j => ?_⟩
    by_cases hj : j < ls.length
    · have he := firstOk ls _ _ h j (by omega) (by omega)
      unfold errAt at he
      by_cases h3 : oneE (ls.getD j ([], [])).1 (ls.getD j ([], [])).2 = 0
      · generalize ls.getD j ([], []) = x at *
        unfold oneE at h3
        by_cases h4 : nameB x.1 = false
        · rw [if_pos h4] at h3; cases h3
        · rw [if_neg h4] at h3
          refine ⟨?_, ?_⟩
          · by_cases h5 : 64 < x.1.length
            · exact absurd (longName x.1 h5) h4
            · omega
          · by_cases h5 : x.2 = []
            · rw [h5]; simp
            · rw [if_neg h5] at h3
              by_cases h6 : 256 < x.2.length
              · rw [if_pos h6] at h3; cases h3
              · omega
      · rw [if_pos h3] at he
        exact absurd he h3
    · have : ls.getD j ([], []) = ([], []) := by simp [List.getD, hj]
      rw [this]; simp
theorem put_len (l : List UInt8) {ls : List LbT} (h : (rightS ls).1 = 0) : ∀ z, z ≤ ls.length → (putAt l ls z).length ≤ l.length + 10 + z * 340
  | 0, _ => by
    have := uv_short (n := ls.length) (by have := (right_short h).1; omega)
    simp [putAt]; omega
  | z + 1, hz => by
    have ih := put_len l h z (by omega)
    have hs := (right_short h).2 z
    have h1 := uv_short (n := (ls.getD z ([], [])).1.length) (by omega)
    have h2 := uv_short (n := (ls.getD z ([], [])).2.length) (by omega)
    rw [put_step l (by omega)]
    simp only [List.length_append]
    omega

set_option maxRecDepth 8000 in
set_option maxHeartbeats 6400000 in
theorem put_any (w : World) (vb v : Value) (l : List UInt8) (ls : List LbT) (hb : Rd w vb l) (hsz : l.length ≤ 140737488355328) (hv : RdL w v ls) (hl : LbIn ls) (hT : U8S w) :
    Calls Tryz.prog 98 #[vb, v] w fun e w' => ∃ v', e = .returned (.tuple #[v', .int .i64 (putS l ls).2]) ∧ Own w' w.heap.size v' (putS l ls).1 ∧ w.grownBy w' none := by
  have HR : Hid (Calls Tryz.prog 113 #[v] w fun e w' => e = .returned (.tuple #[.int .i64 (rightS ls).1, .int .i64 ((rightS ls).2 : Int)]) ∧ w.grownBy w' none) := right_any w v ls hv hl hT
  have HV : Hid (Rd w vb l ∧ RdL w v ls) := ⟨hb, hv⟩
  obtain ⟨a, c, rfl, hc1, hc2, -, hc4⟩ := hv
  obtain ⟨ba, bc, rfl, -, -, -, -⟩ := hb
  unfold maxLen at hc2
  clear hl hT
  by_cases hr1 : (rightS ls).1 = 0
  · have hS : putS l ls = (putAt l ls ls.length, 0) := by unfold putS; rw [if_pos hr1]
    obtain ⟨h16, hsh⟩ := right_short hr1
    have HL : Hid (∀ z, z ≤ ls.length → (putAt l ls z).length ≤ l.length + 10 + z * 340) := put_len l hr1
    have HSH : Hid (∀ j, (ls.getD j ([], [])).1.length ≤ 64 ∧ (ls.getD j ([], [])).2.length ≤ 256) := hsh
    have hI : (ls.length : Int) = I64 (BitVec.ofNat 64 ls.length) := by rw [I64_of (by omega)]
    have HP : Hid (∀ W, w.grownBy W none → Calls Tryz.prog 96 #[.slice ba l.length bc, .int .u64 (ls.length : Int)] W fun e w' => ∃ v', e = .returned v' ∧ Own w' W.heap.size v' (putAt l ls 0) ∧ W.grownBy w' none) := fun W hg => by
      have h := putU_eq (.slice ba l.length bc) l (BitVec.ofNat 64 ls.length) _ hI W (HV.out.1.keep hg) (by omega)
      have e : (BitVec.ofNat 64 ls.length).toNat = ls.length := by simp; omega
      rw [e] at h
      simpa [putAt] using h
    rw [hS]
    rw [hr1] at HR
    dsimp only
    clear hI hS hsh hr1
    generalize (rightS ls).2 = r2 at *
    go_enter Tryz.func98, Tryz.ntmps98
    go_wp2_with fail
    refine HR.out.mono ?_
    rintro e w1 ⟨rfl, hg1⟩
    have H1 : Hid (w.grownBy w1 none) := hg1
    clear HR hg1
    go_wp2_with fail
    refine (HP.out _ H1.out).mono ?_
    rintro e w2 ⟨v2, rfl, ho2, hg2⟩
    have H2 : Hid (Own w2 w.heap.size v2 (putAt l ls 0) ∧ w.grownBy w2 none) := ⟨ho2.mono H1.out.size, gb_none H1.out hg2⟩
    clear HP ho2 hg2 H1
    go_wp2
    go_loopw [0, 25] (fun u i wr => ∃ z : Nat, z ≤ ls.length ∧ i = .int .i64 z ∧ Hid (Own wr w.heap.size u (putAt l ls z) ∧ w.grownBy wr none)) (fun _ i _ => ls.length - (intOf i).toNat)
    case atStart => exact ⟨0, by omega, rfl, H2.out⟩
    case round =>
      obtain ⟨z, hzN, rfl, hr⟩ := hrel
      by_cases hzl : z < ls.length
      · obtain ⟨a', c', he, -, -, h3, -⟩ := HV.out.2.keep hr.out.2
        simp only [Value.slice.injEq] at he
        obtain ⟨rfl, -, rfl⟩ := he
        obtain ⟨b, o, rfl, c0, c1⟩ := h3 z hzl
        have hzi : (z : Int) < (ls.length : Int) := by omega
        have hbl : ¬ b = wr.heap.size := by have := block_lt c0; omega
        have hbl2 : ¬ wr.heap.size = b := by omega
        have hlz := HL.out z (by omega)
        have hshz := HSH.out z
        have hus := uv_short (n := (ls.getD z ([], [])).1.length) (by omega)
        have HST : Hid (putAt l ls (z + 1) = putAt l ls z ++ uv (ls.getD z ([], [])).1.length ++ (ls.getD z ([], [])).1 ++ uv (ls.getD z ([], [])).2.length ++ (ls.getD z ([], [])).2) := put_step l hzl
        have HT1 : Hid (∀ W, Own W w.heap.size u0 (putAt l ls z) → Bx w wr.heap.size (ByteArray.mk ⟨(ls.getD z ([], [])).1⟩) (ByteArray.mk ⟨(ls.getD z ([], [])).2⟩) W → Calls Tryz.prog 63 #[u0, .string (ByteArray.mk ⟨(ls.getD z ([], [])).1⟩)] W fun e w' => ∃ v', e = .returned v' ∧ Hid (Own w' w.heap.size v' (putAt l ls z ++ uv (ls.getD z ([], [])).1.length ++ (ls.getD z ([], [])).1) ∧ w.grownBy w' none) ∧ w'.cell? ⟨wr.heap.size, 0, none⟩ = some (.string (ByteArray.mk ⟨(ls.getD z ([], [])).1⟩)) ∧ w'.cell? ⟨wr.heap.size, 1, none⟩ = some (.string (ByteArray.mk ⟨(ls.getD z ([], [])).2⟩))) := fun W h1 h2 => (putText_full u0 _ _ W h1.rd (by omega)).mono fun e w' ⟨v', e1, e2, e3⟩ => ⟨v', e1, ⟨e2.mono h2.2.size, gb_none h2.2 e3⟩, (h2.keep e3).cells.1, (h2.keep e3).cells.2⟩
        have HT2 : Hid (∀ W u, Own W w.heap.size u (putAt l ls z ++ uv (ls.getD z ([], [])).1.length ++ (ls.getD z ([], [])).1) → w.grownBy W none → Calls Tryz.prog 63 #[u, .string (ByteArray.mk ⟨(ls.getD z ([], [])).2⟩)] W fun e w' => ∃ v', e = .returned v' ∧ Hid (Own w' w.heap.size v' (putAt l ls (z + 1)) ∧ w.grownBy w' none)) := fun W u h1 h2 => (putText_full u _ _ W h1.rd (by simp only [List.length_append]; omega)).mono fun e w' ⟨v', e1, e2, e3⟩ => ⟨v', e1, by rw [HST.out]; exact e2.mono h2.size, gb_none h2 e3⟩
        have HB0 : Hid (Own (wr.alloc (.cells #[.string (ByteArray.mk ⟨(ls.getD z ([], [])).1⟩), .string (ByteArray.mk ⟨(ls.getD z ([], [])).2⟩)] 51)) w.heap.size u0 (putAt l ls z) ∧ Bx w wr.heap.size (ByteArray.mk ⟨(ls.getD z ([], [])).1⟩) (ByteArray.mk ⟨(ls.getD z ([], [])).2⟩) (wr.alloc (.cells #[.string (ByteArray.mk ⟨(ls.getD z ([], [])).1⟩), .string (ByteArray.mk ⟨(ls.getD z ([], [])).2⟩)] 51))) := ⟨hr.out.1.keep (World.grownBy_alloc _ _ none), Go.heap_alloc_new wr _, gb_none hr.out.2 (World.grownBy_alloc _ _ none)⟩
        clear h3 hr hlz hshz hus HST
        generalize ByteArray.mk ⟨(ls.getD z ([], [])).1⟩ = sn at *
        generalize ByteArray.mk ⟨(ls.getD z ([], [])).2⟩ = sv at *
        go_wp2_with fail
        refine (HT1.out _ HB0.out.1 HB0.out.2).mono ?_
        rintro e w3 ⟨v3, rfl, H3, d0, d1⟩
        clear HT1 HB0 c0 c1 hbl hbl2
        go_wp2_with fail
        refine (HT2.out _ _ H3.out.1 H3.out.2).mono ?_
        rintro e w4 ⟨v4, rfl, H4⟩
        clear HT2 H3 d0 d1
        go_wp2
        go_roundw
        case rel => exact ⟨z + 1, by omega, by simp, H4.out⟩
        case measure => simp [intOf]; omega
      · have hzi : ¬ (z : Int) < (ls.length : Int) := by omega
        have HE : Hid (Own wr w.heap.size u0 (putAt l ls ls.length) ∧ w.grownBy wr none) := by
          have e : z = ls.length := by omega
          rw [← e]
          exact hr.out
        clear hr
        go_wp2
        go_ret2
        exact ⟨_, rfl, HE.out⟩
  · have hS : putS l ls = ([], (rightS ls).1) := by unfold putS; rw [if_neg hr1]
    rw [hS]
    dsimp only
    generalize (rightS ls).1 = r1 at *
    generalize (rightS ls).2 = r2 at *
    have hrb : (r1 == 0) = false := by rw [beq_eq_false_iff_ne]; exact hr1
    go_enter Tryz.func98, Tryz.ntmps98
    go_wp2_with fail
    refine HR.out.mono ?_
    rintro e w1 ⟨rfl, hg1⟩
    have H1 : Hid (w.grownBy w1 none) := hg1
    clear HR hg1
    go_wp2
    go_ret2
    exact ⟨_, rfl, Own.nil _ _, H1.out⟩
set_option maxRecDepth 8000 in
set_option maxHeartbeats 6400000 in
theorem refPut_any (w : World) (vb v : Value) (l : List UInt8) (ls : List LbT) (hb : Rd w vb l) (hsz : l.length ≤ 140737488355328) (hv : RdL w v ls) (hl : LbIn ls) :
    Calls Tryz.prog 91 #[vb, v] w fun e w' => ∃ v', e = .returned (.tuple #[v', .int .i64 (putS l ls).2]) ∧ Own w' w.heap.size v' (putS l ls).1 ∧ w.grownBy w' none := by
  have HR : Hid (Calls Tryz.prog 77 #[v] w fun e w' => e = .returned (.tuple #[.int .i64 (rightS ls).1, .int .i64 ((rightS ls).2 : Int)]) ∧ w.grownBy w' none) := refRight_any w v ls hv hl
  have HV : Hid (Rd w vb l ∧ RdL w v ls) := ⟨hb, hv⟩
  obtain ⟨a, c, rfl, hc1, hc2, -, hc4⟩ := hv
  obtain ⟨ba, bc, rfl, -, -, -, -⟩ := hb
  unfold maxLen at hc2
  clear hl
  by_cases hr1 : (rightS ls).1 = 0
  · have hS : putS l ls = (putAt l ls ls.length, 0) := by unfold putS; rw [if_pos hr1]
    obtain ⟨h16, hsh⟩ := right_short hr1
    have HL : Hid (∀ z, z ≤ ls.length → (putAt l ls z).length ≤ l.length + 10 + z * 340) := put_len l hr1
    have HSH : Hid (∀ j, (ls.getD j ([], [])).1.length ≤ 64 ∧ (ls.getD j ([], [])).2.length ≤ 256) := hsh
    have hI : (ls.length : Int) = I64 (BitVec.ofNat 64 ls.length) := by rw [I64_of (by omega)]
    have HP : Hid (∀ W, w.grownBy W none → Calls Tryz.prog 90 #[.slice ba l.length bc, .int .u64 (ls.length : Int)] W fun e w' => ∃ v', e = .returned v' ∧ Own w' W.heap.size v' (putAt l ls 0) ∧ W.grownBy w' none) := fun W hg => by
      rw [hI]
      have h := refPutU_any (.slice ba l.length bc) l (BitVec.ofNat 64 ls.length) W (HV.out.1.keep hg) (by omega)
      have e : (BitVec.ofNat 64 ls.length).toNat = ls.length := by simp; omega
      rw [e] at h
      simpa [putAt] using h
    rw [hS]
    rw [hr1] at HR
    dsimp only
    clear hI hS hsh hr1
    generalize (rightS ls).2 = r2 at *
    go_enter Tryz.func91, Tryz.ntmps91
    go_wp2_with fail
    refine HR.out.mono ?_
    rintro e w1 ⟨rfl, hg1⟩
    have H1 : Hid (w.grownBy w1 none) := hg1
    clear HR hg1
    go_wp2_with fail
    refine (HP.out _ H1.out).mono ?_
    rintro e w2 ⟨v2, rfl, ho2, hg2⟩
    have H2 : Hid (Own w2 w.heap.size v2 (putAt l ls 0) ∧ w.grownBy w2 none) := ⟨ho2.mono H1.out.size, gb_none H1.out hg2⟩
    clear HP ho2 hg2 H1
    go_wp2
    go_loopw [8, 26] (fun u i wr => ∃ z : Nat, z ≤ ls.length ∧ i = .int .i64 z ∧ Hid (Own wr w.heap.size u (putAt l ls z) ∧ w.grownBy wr none)) (fun _ i _ => ls.length - (intOf i).toNat)
    case atStart => exact ⟨0, by omega, rfl, H2.out⟩
    case round =>
      obtain ⟨z, hzN, rfl, hr⟩ := hrel
      by_cases hzl : z < ls.length
      · obtain ⟨a', c', he, -, -, h3, -⟩ := HV.out.2.keep hr.out.2
        simp only [Value.slice.injEq] at he
        obtain ⟨rfl, -, rfl⟩ := he
        obtain ⟨b, o, rfl, c0, c1⟩ := h3 z hzl
        have hzi : (z : Int) < (ls.length : Int) := by omega
        have hbl : ¬ b = wr.heap.size := by have := block_lt c0; omega
        have hbl2 : ¬ wr.heap.size = b := by omega
        have hlz := HL.out z (by omega)
        have hshz := HSH.out z
        have hus := uv_short (n := (ls.getD z ([], [])).1.length) (by omega)
        have HST : Hid (putAt l ls (z + 1) = putAt l ls z ++ uv (ls.getD z ([], [])).1.length ++ (ls.getD z ([], [])).1 ++ uv (ls.getD z ([], [])).2.length ++ (ls.getD z ([], [])).2) := put_step l hzl
        have HT1 : Hid (∀ W, Own W w.heap.size u8 (putAt l ls z) → Bx w wr.heap.size (ByteArray.mk ⟨(ls.getD z ([], [])).1⟩) (ByteArray.mk ⟨(ls.getD z ([], [])).2⟩) W → Calls Tryz.prog 88 #[u8, .string (ByteArray.mk ⟨(ls.getD z ([], [])).1⟩)] W fun e w' => ∃ v', e = .returned v' ∧ Hid (Own w' w.heap.size v' (putAt l ls z ++ uv (ls.getD z ([], [])).1.length ++ (ls.getD z ([], [])).1) ∧ Bx w wr.heap.size (ByteArray.mk ⟨(ls.getD z ([], [])).1⟩) (ByteArray.mk ⟨(ls.getD z ([], [])).2⟩) w') ∧ w'.cell? ⟨wr.heap.size, 0, none⟩ = some (.string (ByteArray.mk ⟨(ls.getD z ([], [])).1⟩)) ∧ w'.cell? ⟨wr.heap.size, 1, none⟩ = some (.string (ByteArray.mk ⟨(ls.getD z ([], [])).2⟩))) := fun W h1 h2 => (refPutText_any u8 _ _ W h1.rd (by omega)).mono fun e w' ⟨v', e1, e2, e3⟩ => ⟨v', e1, ⟨e2.mono h2.2.size, h2.keep e3⟩, (h2.keep e3).cells.1, (h2.keep e3).cells.2⟩
        have HT2 : Hid (∀ W u, Own W w.heap.size u (putAt l ls z ++ uv (ls.getD z ([], [])).1.length ++ (ls.getD z ([], [])).1) → Bx w wr.heap.size (ByteArray.mk ⟨(ls.getD z ([], [])).1⟩) (ByteArray.mk ⟨(ls.getD z ([], [])).2⟩) W → Calls Tryz.prog 88 #[u, .string (ByteArray.mk ⟨(ls.getD z ([], [])).2⟩)] W fun e w' => ∃ v', e = .returned v' ∧ Hid (Own w' w.heap.size v' (putAt l ls (z + 1)) ∧ w.grownBy w' none) ∧ w'.cell? ⟨wr.heap.size, 0, none⟩ = some (.string (ByteArray.mk ⟨(ls.getD z ([], [])).1⟩)) ∧ w'.cell? ⟨wr.heap.size, 1, none⟩ = some (.string (ByteArray.mk ⟨(ls.getD z ([], [])).2⟩))) := fun W u h1 h2 => (refPutText_any u _ _ W h1.rd (by simp only [List.length_append]; omega)).mono fun e w' ⟨v', e1, e2, e3⟩ => ⟨v', e1, ⟨by rw [HST.out]; exact e2.mono h2.2.size, gb_none h2.2 e3⟩, (h2.keep e3).cells.1, (h2.keep e3).cells.2⟩
        have HB0 : Hid (Own (wr.alloc (.cells #[.string (ByteArray.mk ⟨(ls.getD z ([], [])).1⟩), .string (ByteArray.mk ⟨(ls.getD z ([], [])).2⟩)] 51)) w.heap.size u8 (putAt l ls z) ∧ Bx w wr.heap.size (ByteArray.mk ⟨(ls.getD z ([], [])).1⟩) (ByteArray.mk ⟨(ls.getD z ([], [])).2⟩) (wr.alloc (.cells #[.string (ByteArray.mk ⟨(ls.getD z ([], [])).1⟩), .string (ByteArray.mk ⟨(ls.getD z ([], [])).2⟩)] 51))) := ⟨hr.out.1.keep (World.grownBy_alloc _ _ none), Go.heap_alloc_new wr _, gb_none hr.out.2 (World.grownBy_alloc _ _ none)⟩
        clear h3 hr hlz hshz hus HST
        generalize ByteArray.mk ⟨(ls.getD z ([], [])).1⟩ = sn at *
        generalize ByteArray.mk ⟨(ls.getD z ([], [])).2⟩ = sv at *
        go_wp2_with fail
        have q0 := HB0.out.2.cells.1
        have q1 := HB0.out.2.cells.2
        have HB1 : Hid (Own (wr.alloc (.cells #[.string sn, .string sv] 51)).drew w.heap.size u8 (putAt l ls z) ∧ Bx w wr.heap.size sn sv (wr.alloc (.cells #[.string sn, .string sv] 51)).drew) := ⟨HB0.out.1.keep (gb_drew _ none), HB0.out.2.keep (gb_drew _ none)⟩
        clear c0 c1 hbl hbl2
        generalize wr.alloc (.cells #[.string sn, .string sv] 51) = W1 at *
        generalize wr.heap.size = b0 at *
        go_region_held3 (fun w' => w'.cell? ⟨b0, 0, none⟩ = some (.string sn) ∧ w'.cell? ⟨b0, 1, none⟩ = some (.string sv)) (go_keep)
          (first
            | (go_at_call_of 88 sn; with_reducible refine (HT1.out _ ?_ ?_).mono ?_; (first | exact HB0.out.1 | exact HB1.out.1); (first | exact HB0.out.2 | exact HB1.out.2); rintro e w3 ⟨v3, rfl, H3, d0, d1⟩)
            | (go_at_call_of 88 sv; with_reducible refine (HT2.out _ _ H3.out.1 H3.out.2).mono ?_; rintro e w4 ⟨v4, rfl, H4, d2, d3⟩))
        clear HT1 HT2
        go_wp2
        go_roundw
        case rel => exact ⟨z + 1, by omega, by simp, by first | exact H4.out.1 | exact H4.out.1.keep (gb_drew _ none), by first | exact H4.out.2 | exact gb_none H4.out.2 (gb_drew _ none)⟩
        case measure => simp [intOf]; omega
      · have hzi : ¬ (z : Int) < (ls.length : Int) := by omega
        have HE : Hid (Own wr w.heap.size u8 (putAt l ls ls.length) ∧ w.grownBy wr none) := by
          have e : z = ls.length := by omega
          rw [← e]
          exact hr.out
        clear hr
        go_wp2
        go_ret2
        exact ⟨_, rfl, HE.out⟩
  · have hS : putS l ls = ([], (rightS ls).1) := by unfold putS; rw [if_neg hr1]
    rw [hS]
    dsimp only
    generalize (rightS ls).1 = r1 at *
    generalize (rightS ls).2 = r2 at *
    have hrb : (r1 == 0) = false := by rw [beq_eq_false_iff_ne]; exact hr1
    go_enter Tryz.func91, Tryz.ntmps91
    go_wp2_with fail
    refine HR.out.mono ?_
    rintro e w1 ⟨rfl, hg1⟩
    have H1 : Hid (w.grownBy w1 none) := hg1
    clear HR hg1
    go_wp2
    go_ret2
    exact ⟨_, rfl, Own.nil _ _, H1.out⟩
end Go.Proofs.YtpglhdnepmcahaaGreatDoor
