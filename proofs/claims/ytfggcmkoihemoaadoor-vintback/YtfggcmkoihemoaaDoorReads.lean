/-
  Numbers of any length, read: the plain facts.
-/
import Derived.Test.YtfggcmkoihemoaaDoorPuts
namespace Go.Proofs.YtfggcmkoihemoaaDoor
open Go.RowKit

/-- a number that is read: the rest of the bytes, how many were read, what they gave -/
def rdU : List UInt8 → Nat → Nat → Except Int (Nat × Nat)
  | [], _, _ => .error 9
  | c :: t, i, acc =>
    if i = 9 ∧ 1 < c.toNat then .error 7
    else if c.toNat < 128 then (if c.toNat = 0 ∧ 0 < i then .error 3 else .ok (acc + c.toNat * 128 ^ i, i + 1))
    else rdU t (i + 1) (acc + (c.toNat % 128) * 128 ^ i)

def uRes : Except Int (Nat × Nat) → Int → Nat × Int × Int
  | .error e, _ => (0, 0, e)
  | .ok (n, k), a => (n, a + (k : Int), 0)
def uSpec (l : List UInt8) (a : Int) : Nat × Int × Int := if a < 0 ∨ (l.length : Int) < a then (0, 0, 1) else uRes (rdU (l.drop a.toNat) 0 0) a
def tup3 (r : Nat × Int × Int) : Value := .tuple #[.int .u64 (I64 (BitVec.ofNat 64 r.1)), .int .i64 r.2.1, .int .i64 r.2.2]

theorem ret3 {k1 k2 k3 : IntKind} {a b c a' b' c' : Int} (h1 : a = a') (h2 : b = b') (h3 : c = c') : Ending.returned (.tuple #[.int k1 a, .int k2 b, .int k3 c]) = .returned (.tuple #[.int k1 a', .int k2 b', .int k3 c']) := by rw [h1, h2, h3]
theorem I64_0 : I64 (BitVec.ofNat 64 0) = 0 := by decide

theorem drop_step {l : List UInt8} {k : Nat} (h : k < l.length) : l.drop k = l.getD k 0 :: l.drop (k + 1) := by
  rw [List.drop_eq_getElem_cons h]
  simp [h]

theorem pow7 (k : Nat) : (128 : Nat) ^ k = 2 ^ (7 * k) := by rw [Nat.pow_mul]

theorem I64_of {n : Nat} (h : n < 18446744073709551616) : I64 (BitVec.ofNat 64 n) = (n : Int) := by
  simp only [I64, BitVec.toNat_ofNat]
  omega

theorem or_step {acc y k : Nat} (hk : k ≤ 9) (ha : acc < 128 ^ k) (hy : y * 128 ^ k < 18446744073709551616) : bits .or .u64 (I64 (BitVec.ofNat 64 acc)) ((y * 128 ^ k : Nat) : Int) = I64 (BitVec.ofNat 64 (acc + y * 128 ^ k)) := by
  have hp : (128 : Nat) ^ k ≤ 128 ^ 9 := Nat.pow_le_pow_right (by decide) hk
  have h9 : (128 : Nat) ^ 9 = 9223372036854775808 := by decide
  have e : acc ||| y * 128 ^ k = acc + y * 128 ^ k := by
    rw [pow7] at ha ⊢
    rw [Nat.or_comm, Nat.mul_comm, ← Nat.two_pow_add_eq_or_of_lt ha]
    omega
  have hsum : acc + y * 128 ^ k < 18446744073709551616 := by
    rw [← e]
    exact Nat.or_lt_two_pow (n := 64) (by omega) hy
  rw [I64_of (by omega), I64_of hsum, u64_or_nat _ _ (by omega) hy, e]

theorem wrap_shl {y k : Nat} (hy : y * 128 ^ k < 18446744073709551616) : IntKind.u64.wrap (((y : Nat) : Int) * 2 ^ (7 * k)) = ((y * 128 ^ k : Nat) : Int) := by
  rw [IntKind.wrap_u64, pow7]
  have e : ((y : Nat) : Int) * 2 ^ (7 * k) = ((y * 2 ^ (7 * k) : Nat) : Int) := by
    rw [Int.natCast_mul, Int.natCast_pow]; rfl
  rw [e]
  rw [pow7] at hy
  omega
theorem wrap_byte {y : Nat} (hy : y < 256) : IntKind.u64.wrap ((y : Nat) : Int) = (y : Int) := by
  rw [IntKind.wrap_u64]
  omega
theorem and127 {y : Nat} (hy : y < 256) : bits .and .u8 (y : Int) 127 = ((y % 128 : Nat) : Int) := by
  have h := u8_and_nat y 127 hy (by decide)
  rw [Nat.and_two_pow_sub_one_eq_mod y 7] at h
  exact h
theorem mul_lt {y k : Nat} (hk : k ≤ 9) (hy : y < 128) (h9 : k = 9 → y ≤ 1) : y * 128 ^ k < 18446744073709551616 := by
  by_cases h : k = 9
  · subst h
    have := h9 rfl
    have e : (128 : Nat) ^ 9 = 9223372036854775808 := by decide
    rw [e]
    omega
  · have h1 : (128 : Nat) ^ k ≤ 128 ^ 8 := Nat.pow_le_pow_right (by decide) (by omega)
    have e : (128 : Nat) ^ 8 = 72057594037927936 := by decide
    have : y * 128 ^ k ≤ 127 * 128 ^ 8 := Nat.mul_le_mul (by omega) h1
    rw [e] at this
    omega
theorem acc_lt {acc y k : Nat} (ha : acc < 128 ^ k) (hy : y < 128) : acc + y * 128 ^ k < 128 ^ (k + 1) := by
  rw [Nat.pow_succ]
  have : y * 128 ^ k ≤ 127 * 128 ^ k := Nat.mul_le_mul_right _ (by omega)
  omega

/-- the round's two sums, as the walk writes them -/
theorem step_more {acc y k : Nat} (hk : k < 9) (ha : acc < 128 ^ k) (hy : y < 256) :
    bits .or .u64 (I64 (BitVec.ofNat 64 acc)) (IntKind.u64.wrap (IntKind.u64.wrap (bits .and .u8 (y : Int) 127) * 2 ^ (7 * k))) = I64 (BitVec.ofNat 64 (acc + y % 128 * 128 ^ k)) := by
  have hl := mul_lt (y := y % 128) (k := k) (by omega) (by omega) (by omega)
  rw [and127 hy, wrap_byte (by omega), wrap_shl hl, or_step (by omega) ha hl]
theorem step_last {acc y k : Nat} (hk : k ≤ 9) (ha : acc < 128 ^ k) (hy : y < 128) (h9 : k = 9 → y ≤ 1) :
    bits .or .u64 (I64 (BitVec.ofNat 64 acc)) (IntKind.u64.wrap ((y : Int) * 2 ^ (7 * k))) = I64 (BitVec.ofNat 64 (acc + y * 128 ^ k)) := by
  have hl := mul_lt hk hy h9
  rw [wrap_shl hl, or_step hk ha hl]

theorem uSpec_in {l : List UInt8} {a : Nat} (h : a ≤ l.length) {r : Except Int (Nat × Nat)} (hr : rdU (l.drop a) 0 0 = r) : uSpec l (a : Int) = uRes r a := by
  unfold uSpec
  rw [if_neg (by omega), Int.toNat_natCast, hr]

theorem rd_end {l : List UInt8} {k acc : Nat} (i : Nat) (h : l.length ≤ k) : rdU (l.drop k) i acc = .error 9 := by
  rw [List.drop_of_length_le h]; rfl
theorem rd_large {l : List UInt8} {k acc i : Nat} (h : k < l.length) (hi : i = 9) (hy : 1 < (l.getD k 0).toNat) : rdU (l.drop k) i acc = .error 7 := by
  rw [drop_step h, rdU, if_pos ⟨hi, hy⟩]
theorem rd_form {l : List UInt8} {k acc i : Nat} (h : k < l.length) (hi : 0 < i) (hy : (l.getD k 0).toNat = 0) : rdU (l.drop k) i acc = .error 3 := by
  rw [drop_step h, rdU, if_neg (by omega), if_pos (by omega), if_pos ⟨hy, hi⟩]
theorem rd_ok {l : List UInt8} {k acc i : Nat} (h : k < l.length) (h9 : i = 9 → (l.getD k 0).toNat ≤ 1) (hy : (l.getD k 0).toNat < 128) (h0 : 0 < i → (l.getD k 0).toNat ≠ 0) : rdU (l.drop k) i acc = .ok (acc + (l.getD k 0).toNat * 128 ^ i, i + 1) := by
  rw [drop_step h, rdU, if_neg (by omega), if_pos hy, if_neg (by omega)]
theorem rd_more {l : List UInt8} {k acc i : Nat} (h : k < l.length) (h9 : i ≠ 9) (hy : ¬ (l.getD k 0).toNat < 128) : rdU (l.drop k) i acc = rdU (l.drop (k + 1)) (i + 1) (acc + (l.getD k 0).toNat % 128 * 128 ^ i) := by
  rw [drop_step h, rdU, if_neg (by omega), if_neg hy]

end Go.Proofs.YtfggcmkoihemoaaDoor
