/-
  Numbers of any length, read: what vint.U, I come to: the walks.
-/
import Derived.Test.YtnaccmbnblokmaaDoorCkPuts
import Derived.Test.YtnaccmbnblokmaaDoorBitsE
namespace Go.Proofs.YtnaccmbnblokmaaDoor
open Go.RowKit

/-- a number that is read: the rest of the bytes, how many were read, what they gave -/
def rdU : List UInt8 → Nat → Nat → Except Int (Nat × Nat)
  | [], _, _ => .error 9
  | c :: t, i, acc =>
    if i = 9 ∧ 1 < c.toNat then .error 7
    else if c.toNat < 128 then (if c.toNat = 0 ∧ 0 < i then .error 3 else .ok (acc + c.toNat * 128 ^ i, i + 1))
    else rdU t (i + 1) (acc + (c.toNat % 128) * 128 ^ i)
def uRes : Except Int (Nat × Nat) → Int → Nat × Int × Int
  | .error e, _ => (0, 0, e)
  | .ok (n, k), a => (n, a + (k : Int), 0)
def uSpec (l : List UInt8) (a : Int) : Nat × Int × Int := if a < 0 ∨ (l.length : Int) < a then (0, 0, 1) else uRes (rdU (l.drop a.toNat) 0 0) a
def tup3 (r : Nat × Int × Int) : Value := .tuple #[.int .u64 (I64 (BitVec.ofNat 64 r.1)), .int .i64 r.2.1, .int .i64 r.2.2]
theorem ret3 {k1 k2 k3 : IntKind} {a b c a' b' c' : Int} (h1 : a = a') (h2 : b = b') (h3 : c = c') : Ending.returned (.tuple #[.int k1 a, .int k2 b, .int k3 c]) = .returned (.tuple #[.int k1 a', .int k2 b', .int k3 c']) := by rw [h1, h2, h3]
theorem I64_0 : I64 (BitVec.ofNat 64 0) = 0 := by decide
theorem drop_step {l : List UInt8} {k : Nat} (h : k < l.length) : l.drop k = l.getD k 0 :: l.drop (k + 1) := by
  rw [List.drop_eq_getElem_cons h]
  simp [h]
theorem pow7 (k : Nat) : (128 : Nat) ^ k = 2 ^ (7 * k) := by rw [Nat.pow_mul]
theorem or_step {acc y k : Nat} (hk : k ≤ 9) (ha : acc < 128 ^ k) (hy : y * 128 ^ k < 18446744073709551616) : bits .or .u64 (I64 (BitVec.ofNat 64 acc)) ((y * 128 ^ k : Nat) : Int) = I64 (BitVec.ofNat 64 (acc + y * 128 ^ k)) := by
  have hp : (128 : Nat) ^ k ≤ 128 ^ 9 := Nat.pow_le_pow_right (by decide) hk
  have h9 : (128 : Nat) ^ 9 = 9223372036854775808 := by decide
  have e : acc ||| y * 128 ^ k = acc + y * 128 ^ k := by
    rw [pow7] at ha ⊢
    rw [Nat.or_comm, Nat.mul_comm, ← Nat.two_pow_add_eq_or_of_lt ha]
    omega
  have hsum : acc + y * 128 ^ k < 18446744073709551616 := by
    rw [← e]
    exact Nat.or_lt_two_pow (n := 64) (by omega) hy
  rw [I64_of (by omega), I64_of hsum, u64_or_nat _ _ (by omega) hy, e]
theorem wrap_shl {y k : Nat} (hy : y * 128 ^ k < 18446744073709551616) : IntKind.u64.wrap (((y : Nat) : Int) * 2 ^ (7 * k)) = ((y * 128 ^ k : Nat) : Int) := by
  rw [IntKind.wrap_u64, pow7]
  have e : ((y : Nat) : Int) * 2 ^ (7 * k) = ((y * 2 ^ (7 * k) : Nat) : Int) := by
    rw [Int.natCast_mul, Int.natCast_pow]; rfl
  rw [e]
  rw [pow7] at hy
  omega
theorem wrap_byte {y : Nat} (hy : y < 256) : IntKind.u64.wrap ((y : Nat) : Int) = (y : Int) := by
  rw [IntKind.wrap_u64]
  omega
theorem and127 {y : Nat} (hy : y < 256) : bits .and .u8 (y : Int) 127 = ((y % 128 : Nat) : Int) := by
  have h := u8_and_nat y 127 hy (by decide)
  rw [Nat.and_two_pow_sub_one_eq_mod y 7] at h
  exact h
theorem mul_lt {y k : Nat} (hk : k ≤ 9) (hy : y < 128) (h9 : k = 9 → y ≤ 1) : y * 128 ^ k < 18446744073709551616 := by
  by_cases h : k = 9
  · subst h
    have := h9 rfl
    have e : (128 : Nat) ^ 9 = 9223372036854775808 := by decide
    rw [e]
    omega
  · have h1 : (128 : Nat) ^ k ≤ 128 ^ 8 := Nat.pow_le_pow_right (by decide) (by omega)
    have e : (128 : Nat) ^ 8 = 72057594037927936 := by decide
    have : y * 128 ^ k ≤ 127 * 128 ^ 8 := Nat.mul_le_mul (by omega) h1
    rw [e] at this
    omega
theorem acc_lt {acc y k : Nat} (ha : acc < 128 ^ k) (hy : y < 128) : acc + y * 128 ^ k < 128 ^ (k + 1) := by
  rw [Nat.pow_succ]
  have : y * 128 ^ k ≤ 127 * 128 ^ k := Nat.mul_le_mul_right _ (by omega)
  omega
/-- the round's two sums, as the walk writes them -/
theorem step_more {acc y k : Nat} (hk : k < 9) (ha : acc < 128 ^ k) (hy : y < 256) :
    bits .or .u64 (I64 (BitVec.ofNat 64 acc)) (IntKind.u64.wrap (IntKind.u64.wrap (bits .and .u8 (y : Int) 127) * 2 ^ (7 * k))) = I64 (BitVec.ofNat 64 (acc + y % 128 * 128 ^ k)) := by
  have hl := mul_lt (y := y % 128) (k := k) (by omega) (by omega) (by omega)
  rw [and127 hy, wrap_byte (by omega), wrap_shl hl, or_step (by omega) ha hl]
theorem step_last {acc y k : Nat} (hk : k ≤ 9) (ha : acc < 128 ^ k) (hy : y < 128) (h9 : k = 9 → y ≤ 1) :
    bits .or .u64 (I64 (BitVec.ofNat 64 acc)) (IntKind.u64.wrap ((y : Int) * 2 ^ (7 * k))) = I64 (BitVec.ofNat 64 (acc + y * 128 ^ k)) := by
  have hl := mul_lt hk hy h9
  rw [wrap_shl hl, or_step hk ha hl]
theorem uSpec_in {l : List UInt8} {a : Nat} (h : a ≤ l.length) {r : Except Int (Nat × Nat)} (hr : rdU (l.drop a) 0 0 = r) : uSpec l (a : Int) = uRes r a := by
  unfold uSpec
  rw [if_neg (by omega), Int.toNat_natCast, hr]
theorem rd_end {l : List UInt8} {k acc : Nat} (i : Nat) (h : l.length ≤ k) : rdU (l.drop k) i acc = .error 9 := by
  rw [List.drop_of_length_le h]; rfl
theorem rd_large {l : List UInt8} {k acc i : Nat} (h : k < l.length) (hi : i = 9) (hy : 1 < (l.getD k 0).toNat) : rdU (l.drop k) i acc = .error 7 := by
  rw [drop_step h, rdU, if_pos ⟨hi, hy⟩]
theorem rd_form {l : List UInt8} {k acc i : Nat} (h : k < l.length) (hi : 0 < i) (hy : (l.getD k 0).toNat = 0) : rdU (l.drop k) i acc = .error 3 := by
  rw [drop_step h, rdU, if_neg (by omega), if_pos (by omega), if_pos ⟨hy, hi⟩]
theorem rd_ok {l : List UInt8} {k acc i : Nat} (h : k < l.length) (h9 : i = 9 → (l.getD k 0).toNat ≤ 1) (hy : (l.getD k 0).toNat < 128) (h0 : 0 < i → (l.getD k 0).toNat ≠ 0) : rdU (l.drop k) i acc = .ok (acc + (l.getD k 0).toNat * 128 ^ i, i + 1) := by
  rw [drop_step h, rdU, if_neg (by omega), if_pos hy, if_neg (by omega)]
theorem rd_more {l : List UInt8} {k acc i : Nat} (h : k < l.length) (h9 : i ≠ 9) (hy : ¬ (l.getD k 0).toNat < 128) : rdU (l.drop k) i acc = rdU (l.drop (k + 1)) (i + 1) (acc + (l.getD k 0).toNat % 128 * 128 ^ i) := by
  rw [drop_step h, rdU, if_neg (by omega), if_neg hy]
set_option maxRecDepth 4000 in
set_option maxHeartbeats 3200000 in
theorem u_in (v : Value) (l : List UInt8) (p : Nat) (w : World) (hv : Rd w v l) (hp : p ≤ l.length) :
    Calls Tryd.prog 102 #[v, .int .i64 p] w fun e w' => e = .returned (tup3 (uSpec l p)) ∧ w' = w := by
  have Hp : Hid (∀ r, rdU (l.drop p) 0 0 = r → uSpec l (p : Int) = uRes r p) := fun r hr => uSpec_in hp hr
  obtain ⟨a, c, rfl, hn, hm, hb, hz⟩ := hv
  unfold maxLen at hm
  unfold RdA at hb
  have hlt' : l.length ≤ 9223372036854775807 := by omega
  clear hm hn hz
  generalize hN : l.length = n at *
  have HN : Hid (l.length = n) := hN
  clear hN
  have t0 : ¬ (p : Int) < 0 := by omega
  have t1 : ¬ (n : Int) < (p : Int) := by omega
  go_enter Tryd.func102, Tryd.ntmps102
  go_wp2
  go_loop [7, 8] (fun r i => ∃ k : Nat, k ≤ 9 ∧ p + k ≤ n ∧ i = .int .i64 k ∧ ∃ acc : Nat, r = .int .u64 (I64 (BitVec.ofNat 64 acc)) ∧ Hid (acc < 128 ^ k ∧ rdU (l.drop p) 0 0 = rdU (l.drop (p + k)) k acc)) (fun _ i => 10 - (intOf i).toNat)
  case atStart => exact ⟨0, by omega, by omega, rfl, 0, rfl, by decide, rfl⟩
  case round =>
    obtain ⟨k, hk, hkn, rfl, acc, rfl, hacc⟩ := hrel
    by_cases hlt : p + k < n
    · obtain ⟨b, o, rfl, hc⟩ := hb (p + k) hlt
      have hlen : Hid (p + k < l.length) := by show p + k < l.length; rw [HN.out]; exact hlt
      have hc8 : (l.getD (p + k) 0).toNat < 256 := (l.getD (p + k) 0).toNat_lt
      have r1 : Hid (k = 9 → 1 < (l.getD (p + k) 0).toNat → uSpec l (p : Int) = (0, 0, 7)) := fun h1 h2 => Hp.out _ (hacc.out.2.trans (rd_large hlen.out h1 h2))
      have r2 : Hid (0 < k → (l.getD (p + k) 0).toNat = 0 → uSpec l (p : Int) = (0, 0, 3)) := fun h1 h2 => Hp.out _ (hacc.out.2.trans (rd_form hlen.out h1 h2))
      have r3 : Hid ((k = 9 → (l.getD (p + k) 0).toNat ≤ 1) → (l.getD (p + k) 0).toNat < 128 → (0 < k → (l.getD (p + k) 0).toNat ≠ 0) → uSpec l (p : Int) = (acc + (l.getD (p + k) 0).toNat * 128 ^ k, (p : Int) + ((k + 1 : Nat) : Int), 0)) :=
        fun h1 h2 h3 => Hp.out _ (hacc.out.2.trans (rd_ok hlen.out h1 h2 h3))
      have r4 : Hid (k ≠ 9 → ¬ (l.getD (p + k) 0).toNat < 128 → rdU (l.drop p) 0 0 = rdU (l.drop (p + k + 1)) (k + 1) (acc + (l.getD (p + k) 0).toNat % 128 * 128 ^ k)) := fun h1 h2 => hacc.out.2.trans (rd_more hlen.out h1 h2)
      have hacc1 : Hid (acc < 128 ^ k) := hacc.out.1
      clear hacc Hp
      generalize (l.getD (p + k) 0).toNat = y at *
      clear hb
      by_cases hk9 : k = 9
      · have K9 : Hid (k = 9) := hk9
        have hk9' : ((k : Int) == 9) = true := by simp; omega
        clear hk9
        by_cases hy1 : 1 < (y : Int)
        · have HY : Hid (1 < y) := by show 1 < y; omega
          go_wp2
          go_ret3
          exact ⟨by rw [r1.out K9.out HY.out]; exact ret3 I64_0.symm rfl rfl, rfl⟩
        · by_cases hy0 : y = 0
          · have Y0 : Hid (y = 0) := hy0
            have hy0' : ((y : Int) == 0) = true := by simp; omega
            have hkp : (0 : Int) < (k : Int) := by have := K9.out; omega
            clear hy0
            go_wp2
            go_ret3
            exact ⟨by rw [r2.out (by have := K9.out; omega) Y0.out]; exact ret3 I64_0.symm rfl rfl, rfl⟩
          · have hy0' : ((y : Int) == 0) = false := by simp; omega
            have hst : Hid (bits .or .u64 (I64 (BitVec.ofNat 64 acc)) (IntKind.u64.wrap ((y : Int) * 2 ^ (7 * k))) = I64 (BitVec.ofNat 64 (acc + y * 128 ^ k))) := step_last (by omega) hacc1.out (by omega) (by omega)
            go_wp2
            go_ret3
            exact ⟨by rw [r3.out (by omega) (by omega) (by omega)]; exact ret3 hst.out (show _ = (p : Int) + ((k + 1 : Nat) : Int) by omega) rfl, rfl⟩
      · have hk9' : ((k : Int) == 9) = false := by simp; omega
        by_cases hy8 : (y : Int) < 128
        · have hst : Hid (bits .or .u64 (I64 (BitVec.ofNat 64 acc)) (IntKind.u64.wrap ((y : Int) * 2 ^ (7 * k))) = I64 (BitVec.ofNat 64 (acc + y * 128 ^ k))) := step_last (by omega) hacc1.out (by omega) (by omega)
          by_cases hy0 : y = 0
          · have Y0 : Hid (y = 0) := hy0
            have hy0' : ((y : Int) == 0) = true := by simp; omega
            by_cases hk0 : k = 0
            · have K0 : Hid (k = 0) := hk0
              have hkp : ¬ (0 : Int) < (k : Int) := by omega
              clear hy0 hk0
              go_wp2
              go_ret3
              exact ⟨by rw [r3.out (by omega) (by omega) (fun h => by have := K0.out; omega)]; exact ret3 hst.out (show _ = (p : Int) + ((k + 1 : Nat) : Int) by omega) rfl, rfl⟩
            · have hkp : (0 : Int) < (k : Int) := by omega
              clear hy0
              go_wp2
              go_ret3
              exact ⟨by rw [r2.out (by omega) Y0.out]; exact ret3 I64_0.symm rfl rfl, rfl⟩
          · have hy0' : ((y : Int) == 0) = false := by simp; omega
            go_wp2
            go_ret3
            exact ⟨by rw [r3.out (by omega) (by omega) (by omega)]; exact ret3 hst.out (show _ = (p : Int) + ((k + 1 : Nat) : Int) by omega) rfl, rfl⟩
        · have hst := step_more (acc := acc) (y := y) (k := k) (by omega) hacc1.out hc8
          have HST : Hid (bits .or .u64 (I64 (BitVec.ofNat 64 acc)) (IntKind.u64.wrap (IntKind.u64.wrap (bits .and .u8 (y : Int) 127) * 2 ^ (7 * k))) = I64 (BitVec.ofNat 64 (acc + y % 128 * 128 ^ k))) := hst
          clear hst
          go_wp2
          go_round
          case rel => exact ⟨k + 1, by omega, by omega, by go_num, acc + y % 128 * 128 ^ k, by rw [HST.out], acc_lt hacc1.out (by omega), r4.out hk9 (by omega)⟩
          case measure => simp [intOf]; omega
    · have hend : Hid (uSpec l (p : Int) = (0, 0, 9)) := Hp.out _ (hacc.out.2.trans (rd_end _ (by rw [HN.out]; omega)))
      clear hb
      go_wp2
      go_ret3
      exact ⟨by rw [hend.out]; exact ret3 I64_0.symm rfl rfl, rfl⟩
set_option maxHeartbeats 800000 in
theorem u_out (v : Value) (l : List UInt8) (p : Int) (w : World) (hv : Rd w v l) (hp : p < 0 ∨ (l.length : Int) < p) :
    Calls Tryd.prog 102 #[v, .int .i64 p] w fun e w' => e = .returned (tup3 (uSpec l p)) ∧ w' = w := by
  have Hs : Hid (uSpec l p = (0, 0, 1)) := if_pos hp
  obtain ⟨a, c, rfl, -, -, -, -⟩ := hv
  by_cases h : p < 0
  · clear hp
    go_enter Tryd.func102, Tryd.ntmps102
    go_wp2
    go_ret3
    exact ⟨by rw [Hs.out]; exact ret3 I64_0.symm rfl rfl, rfl⟩
  · have h1 : (l.length : Int) < p := by omega
    clear hp
    go_enter Tryd.func102, Tryd.ntmps102
    go_wp2
    go_ret3
    exact ⟨by rw [Hs.out]; exact ret3 I64_0.symm rfl rfl, rfl⟩
theorem u_any (v : Value) (l : List UInt8) (p : Int) (w : World) (hv : Rd w v l) :
    Calls Tryd.prog 102 #[v, .int .i64 p] w fun e w' => e = .returned (tup3 (uSpec l p)) ∧ w' = w := by
  by_cases hp : p < 0 ∨ (l.length : Int) < p
  · exact u_out v l p w hv hp
  · obtain ⟨q, rfl⟩ := Int.eq_ofNat_of_zero_le (show 0 ≤ p by omega)
    exact u_in v l q w hv (by omega)
def uz (u : Nat) : Int := if u % 2 = 1 then -((u / 2 : Nat) : Int) - 1 else ((u / 2 : Nat) : Int)
theorem bit0 (x : BitVec 64) : bits .and .u64 (I64 x) 1 = ((x.toNat % 2 : Nat) : Int) := by
  have h := u64_and_nat x.toNat 1 x.isLt (by decide)
  rw [Nat.and_one_is_mod] at h
  exact h
theorem wrap_half (x : BitVec 64) : wrap64 (I64 x / (2 : Int)) = ((x.toNat / 2 : Nat) : Int) := by
  have := x.isLt
  have h : I64 x / (2 : Int) = ((x.toNat / 2 : Nat) : Int) := by simp only [I64]; omega
  rw [h]
  unfold wrap64
  omega
theorem not_i64 (y : Nat) (h : y < 9223372036854775808) : bits .xor .i64 (-1) (y : Int) = -(y : Int) - 1 := by
  have e : BitVec.ofInt 64 (-1) = BitVec.allOnes 64 := by decide
  have e2 : BitVec.ofInt 64 (y : Int) = BitVec.ofNat 64 y := BitVec.ofInt_natCast 64 y
  show IntKind.i64.wrap ((BitVec.ofInt 64 (-1) ^^^ BitVec.ofInt 64 (y : Int)).toNat : Int) = _
  rw [e, e2, BitVec.allOnes_xor, IntKind.wrap_i64]
  simp only [BitVec.toNat_not, BitVec.toNat_ofNat]
  omega
theorem unzigzag_any (x : BitVec 64) (w : World) : Calls Tryd.prog 106 #[.int .u64 (I64 x)] w fun e w' => e = .returned (.int .i64 (uz x.toNat)) ∧ w' = w := by
  have hx := x.isLt
  have e1 := wrap_half x
  have e2 := bit0 x
  have hlt : x.toNat / 2 < 9223372036854775808 := by omega
  have e3 := not_i64 (x.toNat / 2) hlt
  clear hx hlt
  by_cases h : x.toNat % 2 = 1
  · have H : Hid (uz x.toNat = -((x.toNat / 2 : Nat) : Int) - 1) := if_pos h
    rw [h] at e2
    clear h
    generalize x.toNat / 2 = y at *
    generalize uz x.toNat = z at *
    go_enter Tryd.func106, Tryd.ntmps106
    go_wp2
    go_ret
    exact ⟨ret_int H.out.symm, rfl⟩
  · have H : Hid (uz x.toNat = ((x.toNat / 2 : Nat) : Int)) := if_neg h
    have h0 : x.toNat % 2 = 0 := by omega
    rw [h0] at e2
    clear h h0 e3
    generalize x.toNat / 2 = y at *
    have E1 : Hid (wrap64 (I64 x / (2 : Int)) = (y : Int)) := e1
    clear e1
    generalize uz x.toNat = z at *
    go_enter Tryd.func106, Tryd.ntmps106
    go_wp2
    go_ret
    exact ⟨ret_int (E1.out.trans H.out.symm), rfl⟩
def tup3i (r : Nat × Int × Int) : Value := .tuple #[.int .i64 (uz (BitVec.ofNat 64 r.1).toNat), .int .i64 r.2.1, .int .i64 r.2.2]
theorem i_any (v : Value) (l : List UInt8) (p : Int) (w : World) (hv : Rd w v l) :
    Calls Tryd.prog 99 #[v, .int .i64 p] w fun e w' => e = .returned (tup3i (uSpec l p)) ∧ w' = w := by
  have H := u_any v l p w hv
  generalize uSpec l p = r at H ⊢
  obtain ⟨r1, r2, r3⟩ := r
  unfold tup3 at H
  unfold tup3i
  simp only [] at H ⊢
  generalize BitVec.ofNat 64 r1 = x at H ⊢
  have HC : Hid (Calls Tryd.prog 102 #[v, .int .i64 p] w fun e w' => e = .returned (.tuple #[.int .u64 (I64 x), .int .i64 r2, .int .i64 r3]) ∧ w' = w) := H
  clear H hv
  go_enter Tryd.func99, Tryd.ntmps99
  go_wp2_with fail
  refine HC.out.mono ?_
  rintro e w1 ⟨rfl, rfl⟩
  go_wp2_with fail
  refine (unzigzag_any x _).mono ?_
  rintro e w2 ⟨rfl, rfl⟩
  go_wp2
  go_ret3
  exact ⟨rfl, rfl⟩
theorem rdU_uv : ∀ (N n i acc : Nat) (rest : List UInt8), n < N → i ≤ 9 → n * 128 ^ i < 18446744073709551616 → (0 < i → n ≠ 0) → rdU (uv n ++ rest) i acc = .ok (acc + n * 128 ^ i, i + (uv n).length) := by
  intro N
  induction N with
  | zero => intro n i acc rest h; omega
  | succ N ih =>
    intro n i acc rest hN hi hlt h0
    by_cases hn : n < 128
    · rw [uv_small hn]
      have hc : (UInt8.ofNat n).toNat = n := by rw [UInt8.toNat_ofNat']; omega
      simp only [List.cons_append, List.nil_append, List.length_cons, List.length_nil, rdU, hc]
      have h9 : ¬ (i = 9 ∧ 1 < n) := by
        rintro ⟨rfl, h1⟩
        have : (128 : Nat) ^ 9 = 9223372036854775808 := by decide
        rw [this] at hlt
        omega
      rw [if_neg h9, if_pos hn, if_neg (by intro h; exact h0 h.2 h.1)]
    · rw [uv_big hn]
      have hc : (lowB n).toNat = n % 128 + 128 := lowB_nat n
      have h9 : i ≠ 9 := by
        rintro rfl
        have : (128 : Nat) ^ 9 = 9223372036854775808 := by decide
        rw [this] at hlt
        omega
      simp only [List.cons_append, rdU, hc]
      rw [if_neg (fun h => h9 h.1), if_neg (by omega)]
      have e1 : n / 128 * 128 ^ (i + 1) ≤ n * 128 ^ i := by
        rw [Nat.pow_succ, Nat.mul_comm (128 ^ i) 128, ← Nat.mul_assoc]
        exact Nat.mul_le_mul_right _ (Nat.div_mul_le_self n 128)
      rw [ih (n / 128) (i + 1) _ rest (by omega) (by omega) (by omega) (fun _ => by omega)]
      have e2 : (n % 128 + 128) % 128 = n % 128 := by omega
      have e3 : n * 128 ^ i = n % 128 * 128 ^ i + n / 128 * 128 ^ (i + 1) := by
        rw [Nat.pow_succ, Nat.mul_comm (128 ^ i) 128, ← Nat.mul_assoc, ← Nat.add_mul]
        congr 1
        omega
      rw [e2, e3]
      simp only [List.length_cons, Except.ok.injEq, Prod.mk.injEq]
      omega
/-- these bits stand at this place -/
def At (L : List UInt8) (p s : Nat) (bs : List Bool) : Prop := p + bs.length ≤ s ∧ ∀ j, j < bs.length → ubit L (p + j) = bs.getD j false
theorem At.app {L : List UInt8} {p s : Nat} {a b : List Bool} (h : At L p s (a ++ b)) : At L p s a ∧ At L (p + a.length) s b := by
  obtain ⟨h1, h2⟩ := h
  rw [List.length_append] at h1 h2
  refine ⟨⟨by omega, fun j hj => ?_⟩, ⟨by omega, fun j hj => ?_⟩⟩
  · rw [h2 j (by omega)]
    simp only [List.getD, List.getElem?_append_left hj]
  · rw [Nat.add_assoc, h2 (a.length + j) (by omega)]
    simp only [List.getD]
    rw [List.getElem?_append_right (by omega)]
    congr 2
    omega
theorem At.ubits {L : List UInt8} {p s : Nat} {bs : List Bool} (h : At L p s bs) : ubits L p bs.length = bs := by
  apply List.ext_getElem
  · rw [ubits_len]
  · intro i h1 h2
    simp only [Go.Proofs.YtnaccmbnblokmaaDoor.ubits, List.getElem_map, List.getElem_range]
    rw [h.2 i h2]
    simp [List.getD, h2]
theorem At.pack {bs a b c : List Bool} (h : bs = a ++ (b ++ c)) : At (pack bs) a.length bs.length b := by
  subst h
  refine ⟨by simp only [List.length_append]; omega, fun j hj => ?_⟩
  rw [ubit_pack _ _ (by simp only [List.length_append]; omega)]
  simp only [List.getD]
  rw [List.getElem?_append_right (by omega), List.getElem?_append_left (by omega)]
  congr 2
  omega
end Go.Proofs.YtnaccmbnblokmaaDoor
