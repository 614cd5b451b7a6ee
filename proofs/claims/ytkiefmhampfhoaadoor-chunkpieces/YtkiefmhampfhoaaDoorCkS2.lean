/-
  The document's lead, trail, Low, In: the walks.
-/
import Derived.Test.YtkiefmhampfhoaaDoorCkS1
import Derived.Test.YtkiefmhampfhoaaDoorCkF
namespace Go.Proofs.YtkiefmhampfhoaaDoor
open Go.RowKit

theorem bit_zero (x : BitVec 64) (i : Nat) : (bits .and .u64 (I64 x / 2 ^ i) 1 == 0) = !x.toNat.testBit i := by
  rw [bit_and, Nat.testBit_eq_decide_div_mod_eq]
  by_cases h : x.toNat / 2 ^ i % 2 = 1
  · rw [h]; rfl
  · have h0 : x.toNat / 2 ^ i % 2 = 0 := by omega
    rw [h0]; rfl
theorem testBit_top {x k : Nat} (h : x < 2 ^ (k + 1)) : (x.testBit k = false → x < 2 ^ k) ∧ (x.testBit k = true → 2 ^ k ≤ x) := by
  rw [Nat.testBit_eq_decide_div_mod_eq]
  have hp : 0 < 2 ^ k := Nat.pow_pos (by decide)
  have h2 : x / 2 ^ k < 2 := by rw [Nat.div_lt_iff_lt_mul hp]; rw [Nat.pow_succ] at h; omega
  have hd := Nat.div_add_mod x (2 ^ k)
  have hm := Nat.mod_lt x hp
  generalize x / 2 ^ k = q at *
  generalize x % 2 ^ k = r at *
  constructor
  · intro e
    have e1 : q % 2 ≠ 1 := of_decide_eq_false e
    have e2 : q = 0 := by omega
    subst e2
    omega
  · intro e
    have e1 : q % 2 = 1 := of_decide_eq_true e
    have e2 : q = 1 := by omega
    subst e2
    omega
theorem lead_end {x z : Nat} (h0 : x ≠ 0) (hx : x < 18446744073709551616) (hz : z ≤ 31) (h1 : x < 2 ^ (64 - z)) (h2 : z = 31 ∨ 2 ^ (63 - z) ≤ x) : leadN x = z := by
  obtain ⟨b1, b2, b3, b4⟩ := bitLen_bds h0 hx
  have h3 : Lib.bitLen x ≤ 64 - z := by
    apply Nat.le_of_not_lt
    intro h
    have : 2 ^ (64 - z) ≤ 2 ^ (Lib.bitLen x - 1) := Nat.pow_le_pow_right (by decide) (by omega)
    omega
  unfold leadN
  rcases h2 with rfl | h2
  · omega
  · have h4 : 63 - z < Lib.bitLen x := by
      apply Nat.lt_of_not_le
      intro h
      have : 2 ^ Lib.bitLen x ≤ 2 ^ (63 - z) := Nat.pow_le_pow_right (by decide) h
      omega
    omega
theorem tail_uniq {a b m n : Nat} (h : 2 ^ a * (2 * m + 1) = 2 ^ b * (2 * n + 1)) : a = b := by
  rcases Nat.lt_trichotomy a b with hl | he | hl
  · exfalso
    obtain ⟨d, rfl⟩ : ∃ d, b = a + (d + 1) := ⟨b - a - 1, by omega⟩
    rw [Nat.pow_add, Nat.mul_assoc] at h
    have := Nat.eq_of_mul_eq_mul_left (Nat.pow_pos (n := a) (by decide : 0 < 2)) h
    rw [Nat.pow_succ] at this
    have e : 2 ^ d * 2 * (2 * n + 1) = 2 * (2 ^ d * (2 * n + 1)) := by rw [Nat.mul_comm (2 ^ d) 2, Nat.mul_assoc]
    omega
  · exact he
  · exfalso
    obtain ⟨d, rfl⟩ : ∃ d, a = b + (d + 1) := ⟨a - b - 1, by omega⟩
    rw [Nat.pow_add, Nat.mul_assoc] at h
    have := Nat.eq_of_mul_eq_mul_left (Nat.pow_pos (n := b) (by decide : 0 < 2)) h
    rw [Nat.pow_succ] at this
    have e : 2 ^ d * 2 * (2 * m + 1) = 2 * (2 ^ d * (2 * m + 1)) := by rw [Nat.mul_comm (2 ^ d) 2, Nat.mul_assoc]
    omega
theorem tail_end {x z m : Nat} (h0 : x ≠ 0) (hx : x < 18446744073709551616) (h : x = 2 ^ z * m) (hb : x.testBit z = true) : tailN x = z := by
  obtain ⟨n, h1, -⟩ := tail_spec h0 hx
  rw [Nat.testBit_eq_decide_div_mod_eq] at hb
  have hb := of_decide_eq_true hb
  rw [h, Nat.mul_div_cancel_left _ (Nat.pow_pos (by decide))] at hb
  obtain ⟨k, rfl⟩ : ∃ k, m = 2 * k + 1 := ⟨m / 2, by omega⟩
  rw [h1] at h
  exact tail_uniq h
theorem tail_step {x z m : Nat} (h : x = 2 ^ z * m) (hb : x.testBit z = false) : ∃ m', x = 2 ^ (z + 1) * m' := by
  rw [Nat.testBit_eq_decide_div_mod_eq] at hb
  have hb := of_decide_eq_false hb
  rw [h, Nat.mul_div_cancel_left _ (Nat.pow_pos (by decide))] at hb
  obtain ⟨k, rfl⟩ : ∃ k, m = 2 * k := ⟨m / 2, by omega⟩
  exact ⟨k, by rw [h, Nat.pow_succ, Nat.mul_assoc]⟩

set_option maxHeartbeats 1600000 in
theorem lead_any (x : BitVec 64) (h0 : x.toNat ≠ 0) (w : World) : Calls Tryd.prog 84 #[.int .u64 (I64 x)] w fun e w' => e = .returned (.int .i64 (leadN x.toNat : Int)) ∧ w' = w := by
  have H0 := hidJ h0
  clear h0
  go_enter Tryd.func84, Tryd.ntmps84
  go_wp2
  go_loopw [3] (fun i wr => ∃ z : Nat, z ≤ 31 ∧ i = .int .i64 z ∧ Hid (x.toNat < 2 ^ (64 - z) ∧ wr = w)) (fun i _ => 31 - (intOf i).toNat)
  case atStart => exact ⟨0, by omega, rfl, x.isLt, rfl⟩
  case round =>
    obtain ⟨z, hz, rfl, hr⟩ := hrel
    by_cases hlt : z < 31
    · have hzi : (z : Int) < 31 := by omega
      obtain ⟨J, hJ⟩ : ∃ J, 63 - z = J := ⟨_, rfl⟩
      have hJi : (63 : Int) - (z : Int) = (J : Int) := by omega
      have hb0 := bit_zero x J
      have HJ : Hid (J ≤ 63 ∧ x.toNat < 2 ^ (J + 1) ∧ J + z = 63) := ⟨by omega, by have := hr.out.1; rw [show J + 1 = 64 - z by omega]; exact this, by omega⟩
      have hJ63 : J < 64 := by omega
      cases hb : x.toNat.testBit J with
      | false =>
        rw [hb] at hb0
        have HN : Hid (x.toNat < 2 ^ (64 - (z + 1)) ∧ wr = w) := ⟨by rw [show 64 - (z + 1) = J by omega]; exact (testBit_top HJ.out.2.1).1 hb, hr.out.2⟩
        clear hr hb hJ
        go_wp2
        go_roundw
        case rel => exact ⟨z + 1, by omega, by go_num, HN⟩
        case measure => simp [intOf]; omega
      | true =>
        rw [hb] at hb0
        have HN : Hid (leadN x.toNat = z ∧ wr = w) := ⟨lead_end H0.out x.isLt (by omega) hr.out.1 (.inr (by rw [show 63 - z = J by omega]; exact (testBit_top HJ.out.2.1).2 hb)), hr.out.2⟩
        clear hr hb hJ
        go_wp2
        try rw [Exit.noGoto_ret]
        go_ret
        exact ⟨ret_int (by rw [HN.out.1]), HN.out.2⟩
    · obtain rfl : z = 31 := by omega
      have HN : Hid (leadN x.toNat = 31 ∧ wr = w) := ⟨lead_end H0.out x.isLt (by omega) hr.out.1 (.inl rfl), hr.out.2⟩
      clear hr
      go_wp2
      try rw [Exit.noGoto_ret]
      go_ret
      exact ⟨ret_int (by rw [HN.out.1]), HN.out.2⟩

set_option maxHeartbeats 1600000 in
theorem trail_any (x : BitVec 64) (h0 : x.toNat ≠ 0) (w : World) : Calls Tryd.prog 85 #[.int .u64 (I64 x)] w fun e w' => e = .returned (.int .i64 (tailN x.toNat : Int)) ∧ w' = w := by
  have H0 := hidJ h0
  clear h0
  go_enter Tryd.func85, Tryd.ntmps85
  go_wp2
  go_loopw [3] (fun i wr => ∃ z : Nat, z < 64 ∧ i = .int .i64 z ∧ Hid ((∃ m, x.toNat = 2 ^ z * m) ∧ wr = w)) (fun i _ => 64 - (intOf i).toNat)
  case atStart => exact ⟨0, by omega, rfl, ⟨x.toNat, by simp⟩, rfl⟩
  case round =>
    obtain ⟨z, hz, rfl, hr⟩ := hrel
    have hb0 := bit_zero x z
    cases hb : x.toNat.testBit z with
    | false =>
      rw [hb] at hb0
      obtain ⟨m', hm'⟩ := tail_step hr.out.1.choose_spec hb
      have hz2 : z + 1 < 64 := by
        apply Nat.lt_of_not_le
        intro h
        have h1 : z = 63 := by omega
        subst h1
        have h2 := x.isLt
        rw [hm'] at h2
        have h3 : m' = 0 := by
          apply Classical.byContradiction
          intro h3
          have : 2 ^ 64 * 1 ≤ 2 ^ (63 + 1) * m' := Nat.mul_le_mul_left _ (by omega)
          omega
        rw [h3] at hm'
        exact H0.out hm'
      have HN : Hid ((∃ m, x.toNat = 2 ^ (z + 1) * m) ∧ wr = w) := ⟨⟨m', hm'⟩, hr.out.2⟩
      clear hr hb hm'
      go_wp2
      go_roundw
      case rel => exact ⟨z + 1, hz2, by go_num, HN⟩
      case measure => simp [intOf]; omega
    | true =>
      rw [hb] at hb0
      have HN : Hid (tailN x.toNat = z ∧ wr = w) := ⟨tail_end H0.out x.isLt hr.out.1.choose_spec hb, hr.out.2⟩
      clear hr hb
      go_wp2
      try rw [Exit.noGoto_ret]
      go_ret
      exact ⟨ret_int (by rw [HN.out.1]), HN.out.2⟩

theorem and_maskN (x : BitVec 64) (k : Nat) (hk : k < 64) : bits .and .u64 (I64 x) (((2 ^ k - 1 : Nat)) : Int) = ((x.toNat % 2 ^ k : Nat) : Int) := by
  have hx := x.isLt
  have h2 : 2 ^ k - 1 < 18446744073709551616 := by
    have : (2 : Nat) ^ k ≤ 2 ^ 63 := Nat.pow_le_pow_right (by decide) (by omega)
    have e : (2 : Nat) ^ 63 = 9223372036854775808 := by decide
    omega
  have h := u64_and_nat x.toNat (2 ^ k - 1) hx h2
  rw [Nat.and_two_pow_sub_one_eq_mod] at h
  exact h

set_option maxHeartbeats 800000 in
theorem low_all (n : Int) (x : BitVec 64) (k : Nat) (hk : k ≤ 64) (hx : IntKind.u64.wrap n = I64 x) (w : World) : Calls Tryd.prog 86 #[.int .i64 n, .int .i64 (k : Int)] w fun e w' => e = .returned (.int .u64 ((x.toNat % 2 ^ k : Nat) : Int)) ∧ w' = w := by
  by_cases h : 64 ≤ k
  · obtain rfl : k = 64 := by omega
    have HE : Hid ((I64 x : Int) = ((x.toNat % 2 ^ 64 : Nat) : Int)) := by
      show (I64 x : Int) = ((x.toNat % 2 ^ 64 : Nat) : Int)
      rw [Nat.mod_eq_of_lt x.isLt]
      rfl
    generalize x.toNat % 2 ^ 64 = q at *
    go_enter Tryd.func86, Tryd.ntmps86
    go_wp2
    go_ret
    exact ⟨ret_int HE.out, rfl⟩
  · have hki : (k : Int) < 64 := by omega
    have HA : Hid (bits .and .u64 (I64 x) (IntKind.u64.wrap (IntKind.u64.wrap ((2 : Int) ^ k) - 1)) = ((x.toNat % 2 ^ k : Nat) : Int)) := by
      have e1 : ((2 : Int) ^ k) = ((2 ^ k : Nat) : Int) := by rw [Int.natCast_pow]; rfl
      have h63 : (2 : Nat) ^ k ≤ 2 ^ 63 := Nat.pow_le_pow_right (by decide) (by omega)
      have e63 : (2 : Nat) ^ 63 = 9223372036854775808 := by decide
      have hp : 0 < 2 ^ k := Nat.pow_pos (by decide)
      have e2 : IntKind.u64.wrap (IntKind.u64.wrap ((2 : Int) ^ k) - 1) = ((2 ^ k - 1 : Nat) : Int) := by
        rw [e1, IntKind.wrap_u64, IntKind.wrap_u64]
        omega
      show bits .and .u64 (I64 x) (IntKind.u64.wrap (IntKind.u64.wrap ((2 : Int) ^ k) - 1)) = ((x.toNat % 2 ^ k : Nat) : Int)
      rw [e2]
      exact and_maskN x k (by omega)
    generalize x.toNat % 2 ^ k = q at *
    go_enter Tryd.func86, Tryd.ntmps86
    go_wp2
    go_ret
    exact ⟨ret_int HA.out, rfl⟩

theorem refIn_any (d : Int) (z : Nat) (h0 : d ≠ 0) (hz : z = 1 ∨ z = 2 ∨ z = 3) (w : World) :
    Calls Tryd.prog 87 #[.int .i64 d, .int .i64 (tw z : Int)] w fun e w' => e = .returned (.bool (decide (formN d ≤ z))) ∧ w.grownBy w' none := by
  have key : ∀ (h : Int), (z = 1 ∧ h = 8192 ∨ z = 2 ∧ h = 65536 ∨ z = 3 ∧ h = 524288) → (formN d ≤ z ↔ (-h < d ∧ d ≤ h)) := by
    rintro h (⟨rfl, rfl⟩ | ⟨rfl, rfl⟩ | ⟨rfl, rfl⟩)
    · exact formN_one d h0
    · exact formN_two d h0
    · exact formN_three d h0
  have fin : ∀ (h : Int), (z = 1 ∧ h = 8192 ∨ z = 2 ∧ h = 65536 ∨ z = 3 ∧ h = 524288) → ∀ b : Bool, (b = true ↔ (-h < d ∧ d ≤ h)) → decide (formN d ≤ z) = b := by
    intro h hh b hb
    have := key h hh
    cases b
    · exact decide_eq_false (fun e => by have := hb.2 (this.1 e); cases this)
    · exact decide_eq_true (this.2 (hb.1 rfl))
  rcases hz with rfl | rfl | rfl
  · show Calls Tryd.prog 87 #[.int .i64 d, .int .i64 14] w _
    by_cases h1 : (-8192 : Int) < d
    · by_cases h2 : d ≤ 8192
      · have H : Hid (decide (formN d ≤ 1) = true) := fin 8192 (.inl ⟨rfl, rfl⟩) true (by simp; exact ⟨h1, h2⟩)
        clear key fin
        generalize decide (formN d ≤ 1) = b at *
        go_enter Tryd.func87, Tryd.ntmps87
        go_wp2
        go_ret
        exact ⟨ret_bool H.out.symm, gb_refl _ _⟩
      · have H : Hid (decide (formN d ≤ 1) = false) := fin 8192 (.inl ⟨rfl, rfl⟩) false (by simp; intro _; omega)
        clear key fin
        generalize decide (formN d ≤ 1) = b at *
        go_enter Tryd.func87, Tryd.ntmps87
        go_wp2
        go_ret
        exact ⟨ret_bool H.out.symm, gb_refl _ _⟩
    · have H : Hid (decide (formN d ≤ 1) = false) := fin 8192 (.inl ⟨rfl, rfl⟩) false (by simp; intro _; omega)
      clear key fin
      generalize decide (formN d ≤ 1) = b at *
      go_enter Tryd.func87, Tryd.ntmps87
      go_wp2
      go_ret
      exact ⟨ret_bool H.out.symm, gb_refl _ _⟩
  · show Calls Tryd.prog 87 #[.int .i64 d, .int .i64 17] w _
    by_cases h1 : (-65536 : Int) < d
    · by_cases h2 : d ≤ 65536
      · have H : Hid (decide (formN d ≤ 2) = true) := fin 65536 (.inr (.inl ⟨rfl, rfl⟩)) true (by simp; exact ⟨h1, h2⟩)
        clear key fin
        generalize decide (formN d ≤ 2) = b at *
        go_enter Tryd.func87, Tryd.ntmps87
        go_wp2
        go_ret
        exact ⟨ret_bool H.out.symm, gb_refl _ _⟩
      · have H : Hid (decide (formN d ≤ 2) = false) := fin 65536 (.inr (.inl ⟨rfl, rfl⟩)) false (by simp; intro _; omega)
        clear key fin
        generalize decide (formN d ≤ 2) = b at *
        go_enter Tryd.func87, Tryd.ntmps87
        go_wp2
        go_ret
        exact ⟨ret_bool H.out.symm, gb_refl _ _⟩
    · have H : Hid (decide (formN d ≤ 2) = false) := fin 65536 (.inr (.inl ⟨rfl, rfl⟩)) false (by simp; intro _; omega)
      clear key fin
      generalize decide (formN d ≤ 2) = b at *
      go_enter Tryd.func87, Tryd.ntmps87
      go_wp2
      go_ret
      exact ⟨ret_bool H.out.symm, gb_refl _ _⟩
  · show Calls Tryd.prog 87 #[.int .i64 d, .int .i64 20] w _
    by_cases h1 : (-524288 : Int) < d
    · by_cases h2 : d ≤ 524288
      · have H : Hid (decide (formN d ≤ 3) = true) := fin 524288 (.inr (.inr ⟨rfl, rfl⟩)) true (by simp; exact ⟨h1, h2⟩)
        clear key fin
        generalize decide (formN d ≤ 3) = b at *
        go_enter Tryd.func87, Tryd.ntmps87
        go_wp2
        go_ret
        exact ⟨ret_bool H.out.symm, gb_refl _ _⟩
      · have H : Hid (decide (formN d ≤ 3) = false) := fin 524288 (.inr (.inr ⟨rfl, rfl⟩)) false (by simp; intro _; omega)
        clear key fin
        generalize decide (formN d ≤ 3) = b at *
        go_enter Tryd.func87, Tryd.ntmps87
        go_wp2
        go_ret
        exact ⟨ret_bool H.out.symm, gb_refl _ _⟩
    · have H : Hid (decide (formN d ≤ 3) = false) := fin 524288 (.inr (.inr ⟨rfl, rfl⟩)) false (by simp; intro _; omega)
      clear key fin
      generalize decide (formN d ≤ 3) = b at *
      go_enter Tryd.func87, Tryd.ntmps87
      go_wp2
      go_ret
      exact ⟨ret_bool H.out.symm, gb_refl _ _⟩
end Go.Proofs.YtkiefmhampfhoaaDoor
