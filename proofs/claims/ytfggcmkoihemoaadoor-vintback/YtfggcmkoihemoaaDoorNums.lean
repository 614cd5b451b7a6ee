/-
  Numbers below 0 laid between the others: what vint.zigzag, unzigzag and the document's turn, back come to, PutI and I of both: the walks.
-/
import Derived.Test.YtfggcmkoihemoaaDoorKnown
namespace Go.Proofs.YtfggcmkoihemoaaDoor
open Go.RowKit

def zz (n : Int) : Nat := if n < 0 then (2 * (-(n + 1)) + 1).toNat else (2 * n).toNat
def uz (u : Nat) : Int := if u % 2 = 1 then -((u / 2 : Nat) : Int) - 1 else ((u / 2 : Nat) : Int)

theorem I64_xor (x y : BitVec 64) : bits .xor .u64 (I64 x) (I64 y) = I64 (x ^^^ y) := by
  have hx := x.isLt
  have hy := y.isLt
  simp only [I64]
  rw [u64_xor_nat _ _ hx hy, BitVec.toNat_xor]
theorem I64_not (x : BitVec 64) : bits .xor .u64 IntKind.u64.max (I64 x) = I64 (~~~ x) := by
  have h := I64_xor (BitVec.allOnes 64) x
  have e : I64 (BitVec.allOnes 64) = IntKind.u64.max := by decide
  rw [e, BitVec.allOnes_xor] at h
  exact h
theorem zz_neg_eq {n : Int} (h : n < 0) (hl : -9223372036854775808 ≤ n) : bits .xor .u64 IntKind.u64.max (IntKind.u64.wrap (IntKind.u64.wrap n * 2)) = I64 (BitVec.ofNat 64 (zz n)) := by
  have e : IntKind.u64.wrap (IntKind.u64.wrap n * 2) = I64 (BitVec.ofNat 64 (18446744073709551616 + 2 * n).toNat) := by
    rw [IntKind.wrap_u64, IntKind.wrap_u64, I64_of (by omega)]
    omega
  rw [e, I64_not]
  unfold zz
  rw [if_pos h]
  simp only [I64, BitVec.toNat_not, BitVec.toNat_ofNat]
  omega
theorem zz_pos_eq {n : Int} (h : ¬ n < 0) (hl : n ≤ 9223372036854775807) : n * 2 = I64 (BitVec.ofNat 64 (zz n)) := by
  unfold zz
  rw [if_neg h, I64_of (by omega)]
  omega
theorem turn_neg_eq {n : Int} (h : n < 0) (hl : -9223372036854775808 ≤ n) : 2 * -(n + 1) + 1 = I64 (BitVec.ofNat 64 (zz n)) := by
  unfold zz
  rw [if_pos h, I64_of (by omega)]
  omega
theorem bit0 (x : BitVec 64) : bits .and .u64 (I64 x) 1 = ((x.toNat % 2 : Nat) : Int) := by
  have h := u64_and_nat x.toNat 1 x.isLt (by decide)
  rw [Nat.and_one_is_mod] at h
  exact h
theorem wrap_half (x : BitVec 64) : wrap64 (I64 x / (2 : Int)) = ((x.toNat / 2 : Nat) : Int) := by
  have := x.isLt
  have h : I64 x / (2 : Int) = ((x.toNat / 2 : Nat) : Int) := by simp only [I64]; omega
  rw [h]
  unfold wrap64
  omega
theorem not_i64 (y : Nat) (h : y < 9223372036854775808) : bits .xor .i64 (-1) (y : Int) = -(y : Int) - 1 := by
  have e : BitVec.ofInt 64 (-1) = BitVec.allOnes 64 := by decide
  have e2 : BitVec.ofInt 64 (y : Int) = BitVec.ofNat 64 y := BitVec.ofInt_natCast 64 y
  show IntKind.i64.wrap ((BitVec.ofInt 64 (-1) ^^^ BitVec.ofInt 64 (y : Int)).toNat : Int) = _
  rw [e, e2, BitVec.allOnes_xor, IntKind.wrap_i64]
  simp only [BitVec.toNat_not, BitVec.toNat_ofNat]
  omega

theorem zigzag_any (n : Int) (w : World) (hl : -9223372036854775808 ≤ n) (hh : n ≤ 9223372036854775807) :
    Calls Tryd.prog 41 #[.int .i64 n] w fun e w' => e = .returned (.int .u64 (I64 (BitVec.ofNat 64 (zz n)))) ∧ w' = w := by
  by_cases h : n < 0
  · have H : Hid (bits .xor .u64 IntKind.u64.max (IntKind.u64.wrap (IntKind.u64.wrap n * 2)) = I64 (BitVec.ofNat 64 (zz n))) := zz_neg_eq h hl
    go_enter Tryd.func41, Tryd.ntmps41
    go_wp2
    go_ret
    exact ⟨ret_int H.out, rfl⟩
  · have H : Hid (n * 2 = I64 (BitVec.ofNat 64 (zz n))) := zz_pos_eq h hh
    go_enter Tryd.func41, Tryd.ntmps41
    go_wp2
    go_ret
    exact ⟨ret_int H.out, rfl⟩
theorem turn_any (n : Int) (w : World) (hl : -9223372036854775808 ≤ n) (hh : n ≤ 9223372036854775807) :
    Calls Tryd.prog 43 #[.int .i64 n] w fun e w' => e = .returned (.int .u64 (I64 (BitVec.ofNat 64 (zz n)))) ∧ w' = w := by
  by_cases h : n < 0
  · have H : Hid (2 * -(n + 1) + 1 = I64 (BitVec.ofNat 64 (zz n))) := turn_neg_eq h hl
    have h' : ¬ 0 ≤ n := by omega
    go_enter Tryd.func43, Tryd.ntmps43
    go_wp2
    go_ret
    exact ⟨ret_int H.out, rfl⟩
  · have H : Hid (2 * n = I64 (BitVec.ofNat 64 (zz n))) := (Int.mul_comm 2 n).trans (zz_pos_eq h hh)
    have h' : 0 ≤ n := by omega
    go_enter Tryd.func43, Tryd.ntmps43
    go_wp2
    go_ret
    exact ⟨ret_int H.out, rfl⟩
theorem unzigzag_any (x : BitVec 64) (w : World) : Calls Tryd.prog 44 #[.int .u64 (I64 x)] w fun e w' => e = .returned (.int .i64 (uz x.toNat)) ∧ w' = w := by
  have hx := x.isLt
  have e1 := wrap_half x
  have e2 := bit0 x
  have hlt : x.toNat / 2 < 9223372036854775808 := by omega
  have e3 := not_i64 (x.toNat / 2) hlt
  clear hx hlt
  by_cases h : x.toNat % 2 = 1
  · have H : Hid (uz x.toNat = -((x.toNat / 2 : Nat) : Int) - 1) := if_pos h
    rw [h] at e2
    clear h
    generalize x.toNat / 2 = y at *
    generalize uz x.toNat = z at *
    go_enter Tryd.func44, Tryd.ntmps44
    go_wp2
    go_ret
    exact ⟨ret_int H.out.symm, rfl⟩
  · have H : Hid (uz x.toNat = ((x.toNat / 2 : Nat) : Int)) := if_neg h
    have h0 : x.toNat % 2 = 0 := by omega
    rw [h0] at e2
    clear h h0 e3
    generalize x.toNat / 2 = y at *
    have E1 : Hid (wrap64 (I64 x / (2 : Int)) = (y : Int)) := e1
    clear e1
    generalize uz x.toNat = z at *
    go_enter Tryd.func44, Tryd.ntmps44
    go_wp2
    go_ret
    exact ⟨ret_int (E1.out.trans H.out.symm), rfl⟩
theorem back_t (x : BitVec 64) : (I64 x).tmod 2 = ((x.toNat % 2 : Nat) : Int) := by
  simp only [I64]
  rw [Int.tmod_eq_emod_of_nonneg (by omega)]
  omega
theorem back_d (x : BitVec 64) : (I64 x).tdiv 2 = ((x.toNat / 2 : Nat) : Int) := by
  simp only [I64]
  rw [Int.tdiv_eq_ediv_of_nonneg (by omega)]
  omega
theorem wrap_u64_nat {y : Nat} (h : y < 9223372036854775808) : IntKind.u64.wrap (y : Int) = (y : Int) := by
  rw [IntKind.wrap_u64]; omega
theorem wrap_i64_nat {y : Nat} (h : y < 9223372036854775808) : wrap64 (y : Int) = (y : Int) := by
  unfold wrap64; omega
theorem neg_half {y : Nat} (h : y < 9223372036854775808) : wrap64 (wrap64 (-(y : Int)) - 1) = -(y : Int) - 1 := by
  unfold wrap64; omega
end Go.Proofs.YtfggcmkoihemoaaDoor
