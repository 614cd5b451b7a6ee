/-
  Numbers off a stream of bits: plain facts; nothing of the program is in it.
-/
import Derived.Test.YtkiefmhampfhoaaDoorBitsM
namespace Go.Proofs.YtkiefmhampfhoaaDoor

/-- the number that bits say, the first one the highest -/
def natOf : List Bool → Nat := fun bs => bs.foldl (fun a b => 2 * a + b2n b) 0
theorem foldl_nat (bs : List Bool) (a : Nat) : bs.foldl (fun a b => 2 * a + b2n b) a = a * 2 ^ bs.length + natOf bs := by
  unfold natOf
  induction bs generalizing a with
  | nil => simp
  | cons b bs ih =>
    rw [List.foldl_cons, ih, List.foldl_cons, ih (2 * 0 + b2n b)]
    simp only [List.length_cons, Nat.pow_succ, Nat.mul_zero, Nat.zero_add, Nat.add_mul]
    rw [Nat.mul_comm 2 a, Nat.mul_assoc, Nat.mul_comm 2 (2 ^ bs.length), Nat.add_assoc]
theorem natOf_app (a b : List Bool) : natOf (a ++ b) = natOf a * 2 ^ b.length + natOf b := by
  unfold natOf
  rw [List.foldl_append, foldl_nat]
  rfl
theorem natOf_snoc (a : List Bool) (b : Bool) : natOf (a ++ [b]) = 2 * natOf a + b2n b := by
  unfold natOf
  rw [List.foldl_append]
  rfl
theorem b2n_le (b : Bool) : b2n b ≤ 1 := by cases b <;> simp [b2n]
theorem natOf_lt (bs : List Bool) : natOf bs < 2 ^ bs.length := by
  induction bs with
  | nil => simp [natOf]
  | cons b bs ih =>
    have := natOf_app [b] bs
    rw [List.singleton_append] at this
    rw [this, List.length_cons, Nat.pow_succ]
    have e : natOf [b] = b2n b := by simp [natOf]
    have hb := b2n_le b
    rw [e]
    have : b2n b * 2 ^ bs.length ≤ 1 * 2 ^ bs.length := Nat.mul_le_mul_right _ hb
    omega
theorem natOf_bitsOf (v n : Nat) : natOf (bitsOf v n) = v % 2 ^ n := by
  induction n with
  | zero => simp [bitsOf, natOf, Nat.mod_one]
  | succ n ih =>
    have e : bitsOf v (n + 1) = [v.testBit n] ++ bitsOf v n := rfl
    rw [e, natOf_app, bitsOf_len, ih]
    have e1 : natOf [v.testBit n] = b2n (v.testBit n) := by simp [natOf]
    rw [e1]
    have h3 : v % 2 ^ (n + 1) = v / 2 ^ n % 2 * 2 ^ n + v % 2 ^ n := by
      rw [Nat.mod_pow_succ, Nat.add_comm, Nat.mul_comm]
    rw [h3, Nat.testBit_eq_decide_div_mod_eq]
    congr 1
    rcases Nat.mod_two_eq_zero_or_one (v / 2 ^ n) with h5 | h5 <;> simp [h5, b2n]
theorem testBit_natOf (bs : List Bool) (t : Nat) : (natOf bs).testBit t = (decide (t < bs.length) && bs.getD (bs.length - 1 - t) false) := by
  induction bs with
  | nil => simp [natOf]
  | cons b bs ih =>
    have h := natOf_app [b] bs
    rw [List.singleton_append] at h
    have e1 : natOf [b] = b2n b := by simp [natOf]
    rw [h, e1, Nat.mul_comm]
    rw [Nat.testBit_two_pow_mul_add (b2n b) (natOf_lt bs) t]
    by_cases ht : t < bs.length
    · rw [if_pos ht, ih]
      have e3 : (b :: bs).length - 1 - t = (bs.length - 1 - t) + 1 := by simp; omega
      rw [e3]
      simp [ht]
      omega
    · rw [if_neg ht]
      by_cases h3 : t = bs.length
      · subst h3
        simp
        cases b <;> simp [b2n]
      · have h4 : ¬ t < (b :: bs).length := by simp; omega
        have : (b2n b).testBit (t - bs.length) = false := by
          apply Nat.testBit_lt_two_pow
          have := b2n_le b
          have : 2 ^ 1 ≤ 2 ^ (t - bs.length) := Nat.pow_le_pow_right (by decide) (by omega)
          omega
        rw [this]
        simp at h4
        simp
        omega
/-- bits of a list by place, none behind its end -/
def slot (l : List Bool) (j : Nat) : Bool := l.getD j false
def bitsAt (l : List Bool) (at_ n : Nat) : List Bool := (List.range n).map fun j => slot l (at_ + j)
theorem bitsAt_len (l : List Bool) (p n : Nat) : (bitsAt l p n).length = n := by simp [bitsAt]
theorem bitsAt_get (l : List Bool) (p n j : Nat) (h : j < n) : (bitsAt l p n).getD j false = slot l (p + j) := by simp [bitsAt, List.getD, h]
theorem bitsAt_take {l : List Bool} {p n : Nat} (h : p + n ≤ l.length) : bitsAt l p n = (l.drop p).take n := by
  apply List.ext_getElem
  · rw [bitsAt_len, List.length_take, List.length_drop]; omega
  · intro i h1 h2
    simp only [bitsAt, List.getElem_map, List.getElem_range, List.getElem_take, List.getElem_drop, slot, List.getD]
    rw [List.getElem?_eq_getElem (by rw [bitsAt_len] at h1; omega)]
    rfl

/-! ### bits of bytes -/
def ubit (L : List UInt8) (j : Nat) : Bool := (L.getD (j / 8) 0).toNat.testBit (7 - j % 8)
def ubits (L : List UInt8) (p n : Nat) : List Bool := (List.range n).map fun j => ubit L (p + j)
theorem ubits_len (L : List UInt8) (p n : Nat) : (ubits L p n).length = n := by simp [ubits]
theorem ubits_get (L : List UInt8) (p n j : Nat) (h : j < n) : (ubits L p n).getD j false = ubit L (p + j) := by simp [ubits, List.getD, h]
theorem ubits_succ (L : List UInt8) (p n : Nat) : ubits L p (n + 1) = ubits L p n ++ [ubit L (p + n)] := by simp [ubits, List.range_succ]
theorem ubits_cons (L : List UInt8) (p n : Nat) : ubits L p (n + 1) = ubit L p :: ubits L (p + 1) n := by
  simp only [ubits, List.range_succ_eq_map, List.map_cons, List.map_map, Nat.add_zero]
  congr 1
  apply List.map_congr_left
  intro j _
  simp only [Function.comp]
  congr 1
  omega
theorem ubits_add (L : List UInt8) (p a b : Nat) : ubits L p (a + b) = ubits L p a ++ ubits L (p + a) b := by
  induction b with
  | zero => simp [ubits]
  | succ b ih => rw [← Nat.add_assoc, ubits_succ, ih, ubits_succ, List.append_assoc, Nat.add_assoc]
theorem ubit_pack (bs : List Bool) (j : Nat) (h : j < bs.length) : ubit (pack bs) j = bs.getD j false := by
  unfold ubit
  rw [pack_get _ _ (by omega), UInt8.toNat_ofNat']
  have hlt := byteOf_lt bs (j / 8)
  rw [Nat.mod_eq_of_lt (by omega)]
  unfold byteOf
  rw [byteN_testBit]
  have h1 : 7 - j % 8 < 8 := by omega
  have h2 : 8 * (j / 8) + (7 - (7 - j % 8)) = j := by omega
  simp only [h1, decide_true, Bool.true_and, h2]
theorem ubits_pack (bs : List Bool) (p n : Nat) (h : p + n ≤ bs.length) : ubits (pack bs) p n = (bs.drop p).take n := by
  apply List.ext_getElem
  · rw [ubits_len, List.length_take, List.length_drop]; omega
  · intro i h1 h2
    rw [ubits_len] at h1
    simp only [ubits, List.getElem_map, List.getElem_range, List.getElem_take, List.getElem_drop]
    rw [ubit_pack _ _ (by omega)]
    simp only [List.getD]
    rw [List.getElem?_eq_getElem (by omega)]
    rfl

/-- eight bytes as one number -/
def e8 (B : Nat → Nat) : Nat := B 7 + B 6 * 256 + B 5 * 65536 + B 4 * 16777216 + B 3 * 4294967296 + B 2 * 1099511627776 + B 1 * 281474976710656 + B 0 * 72057594037927936
theorem e8_lt (B : Nat → Nat) (h : ∀ j, B j < 256) : e8 B < 18446744073709551616 := by
  have := h 0; have := h 1; have := h 2; have := h 3; have := h 4; have := h 5; have := h 6; have := h 7
  unfold e8
  omega
theorem bit_split (a b k t : Nat) (hb : b < 2 ^ k) : (b + a * 2 ^ k).testBit t = if t < k then b.testBit t else a.testBit (t - k) := by
  rw [Nat.add_comm, Nat.mul_comm]
  exact Nat.testBit_two_pow_mul_add a hb t
theorem e8_testBit (B : Nat → Nat) (h : ∀ j, B j < 256) (j : Nat) (hj : j < 64) : (e8 B).testBit (63 - j) = (B (j / 8)).testBit (7 - j % 8) := by
  have h0 := h 0; have h1 := h 1; have h2 := h 2; have h3 := h 3; have h4 := h 4; have h5 := h 5; have h6 := h 6; have h7 := h 7
  have p0 : (B 7) < 2 ^ 8 := h7
  have p1 : B 7 + B 6 * 256 < 2 ^ 16 := by omega
  have p2 : B 7 + B 6 * 256 + B 5 * 65536 < 2 ^ 24 := by omega
  have p3 : B 7 + B 6 * 256 + B 5 * 65536 + B 4 * 16777216 < 2 ^ 32 := by omega
  have p4 : B 7 + B 6 * 256 + B 5 * 65536 + B 4 * 16777216 + B 3 * 4294967296 < 2 ^ 40 := by omega
  have p5 : B 7 + B 6 * 256 + B 5 * 65536 + B 4 * 16777216 + B 3 * 4294967296 + B 2 * 1099511627776 < 2 ^ 48 := by omega
  have p6 : B 7 + B 6 * 256 + B 5 * 65536 + B 4 * 16777216 + B 3 * 4294967296 + B 2 * 1099511627776 + B 1 * 281474976710656 < 2 ^ 56 := by omega
  have q0 := bit_split (B 6) _ 8 (63 - j) p0
  have q1 := bit_split (B 5) _ 16 (63 - j) p1
  have q2 := bit_split (B 4) _ 24 (63 - j) p2
  have q3 := bit_split (B 3) _ 32 (63 - j) p3
  have q4 := bit_split (B 2) _ 40 (63 - j) p4
  have q5 := bit_split (B 1) _ 48 (63 - j) p5
  have q6 := bit_split (B 0) _ 56 (63 - j) p6
  unfold e8
  rw [show (72057594037927936 : Nat) = 2 ^ 56 from rfl, q6]
  by_cases c6 : 63 - j < 56
  · rw [if_pos c6, show (281474976710656 : Nat) = 2 ^ 48 from rfl, q5]
    by_cases c5 : 63 - j < 48
    · rw [if_pos c5, show (1099511627776 : Nat) = 2 ^ 40 from rfl, q4]
      by_cases c4 : 63 - j < 40
      · rw [if_pos c4, show (4294967296 : Nat) = 2 ^ 32 from rfl, q3]
        by_cases c3 : 63 - j < 32
        · rw [if_pos c3, show (16777216 : Nat) = 2 ^ 24 from rfl, q2]
          by_cases c2 : 63 - j < 24
          · rw [if_pos c2, show (65536 : Nat) = 2 ^ 16 from rfl, q1]
            by_cases c1 : 63 - j < 16
            · rw [if_pos c1, show (256 : Nat) = 2 ^ 8 from rfl, q0]
              by_cases c0 : 63 - j < 8
              · rw [if_pos c0, show j / 8 = 7 by omega, show 63 - j = 7 - j % 8 by omega]
              · rw [if_neg c0, show j / 8 = 6 by omega, show 63 - j - 8 = 7 - j % 8 by omega]
            · rw [if_neg c1, show j / 8 = 5 by omega, show 63 - j - 16 = 7 - j % 8 by omega]
          · rw [if_neg c2, show j / 8 = 4 by omega, show 63 - j - 24 = 7 - j % 8 by omega]
        · rw [if_neg c3, show j / 8 = 3 by omega, show 63 - j - 32 = 7 - j % 8 by omega]
      · rw [if_neg c4, show j / 8 = 2 by omega, show 63 - j - 40 = 7 - j % 8 by omega]
    · rw [if_neg c5, show j / 8 = 1 by omega, show 63 - j - 48 = 7 - j % 8 by omega]
  · rw [if_neg c6, show j / 8 = 0 by omega, show 63 - j - 56 = 7 - j % 8 by omega]

/-- a look at n bits: eight bytes from the first one's on, moved up, and of a ninth byte what is missing -/
def lookN (L : List UInt8) (f s n : Nat) : Nat :=
  let V := e8 (fun k => (L.getD (f + k) 0).toNat) * 2 ^ s % 18446744073709551616
  (if 64 - s < n then V ||| (L.getD (f + 8) 0).toNat / 2 ^ (8 - s) else V) / 2 ^ (64 - n)
theorem look_eq (L : List UInt8) (f s n : Nat) (hs : s < 8) (hn : n ≤ 64) : lookN L f s n = natOf (ubits L (8 * f + s) n) := by
  apply Nat.eq_of_testBit_eq
  intro t
  rw [testBit_natOf, ubits_len]
  unfold lookN
  simp only
  have hB : ∀ j, (fun k => (L.getD (f + k) 0).toNat) j < 256 := fun j => (L.getD (f + j) 0).toNat_lt
  have hE := e8_testBit (fun k => (L.getD (f + k) 0).toNat) hB
  have hV : ∀ i, (e8 (fun k => (L.getD (f + k) 0).toNat) * 2 ^ s % 18446744073709551616).testBit i = (decide (i < 64) && (decide (s ≤ i) && (e8 (fun k => (L.getD (f + k) 0).toNat)).testBit (i - s))) := by
    intro i
    rw [show (18446744073709551616 : Nat) = 2 ^ 64 from rfl, Nat.testBit_mod_two_pow, Nat.mul_comm, Nat.testBit_two_pow_mul]
  have hub : ∀ i, i < 64 → s ≤ i → (e8 (fun k => (L.getD (f + k) 0).toNat)).testBit (i - s) = ubit L (8 * f + s + (63 - i)) := by
    intro i h1 h2
    have h3 := hE (63 - (i - s)) (by omega)
    rw [show 63 - (63 - (i - s)) = i - s by omega] at h3
    rw [h3]
    unfold ubit
    rw [show (8 * f + s + (63 - i)) / 8 = f + (63 - (i - s)) / 8 by omega, show (8 * f + s + (63 - i)) % 8 = (63 - (i - s)) % 8 by omega]
  by_cases ht : t < n
  · have hg : (ubits L (8 * f + s) n).getD (n - 1 - t) false = ubit L (8 * f + s + (n - 1 - t)) := ubits_get _ _ _ _ (by omega)
    rw [hg]
    simp only [ht, decide_true, Bool.true_and]
    rw [Nat.testBit_div_two_pow]
    have e : n - 1 - t = 63 - (t + (64 - n)) := by omega
    rw [e]
    have hi : t + (64 - n) < 64 := by omega
    generalize t + (64 - n) = i at *
    by_cases h9 : 64 - s < n
    · rw [if_pos h9, Nat.testBit_or, hV, Nat.testBit_div_two_pow]
      by_cases hsi : s ≤ i
      · have h0 : (L.getD (f + 8) 0).toNat.testBit (i + (8 - s)) = false := by
          apply Nat.testBit_lt_two_pow
          have := (L.getD (f + 8) 0).toNat_lt
          have : 2 ^ 8 ≤ 2 ^ (i + (8 - s)) := Nat.pow_le_pow_right (by decide) (by omega)
          omega
        rw [h0, hub i hi hsi]
        simp [hi, hsi]
      · have h0 : decide (s ≤ i) = false := decide_eq_false hsi
        rw [h0]
        simp only [Bool.false_and, Bool.and_false, Bool.false_or]
        unfold ubit
        rw [show (8 * f + s + (63 - i)) / 8 = f + 8 by omega, show 7 - (8 * f + s + (63 - i)) % 8 = i + (8 - s) by omega]
    · rw [if_neg h9, hV, hub i hi (by omega)]
      simp [hi]
      omega
  · have h1 : decide (t < n) = false := decide_eq_false ht
    rw [h1, Bool.false_and, Nat.testBit_div_two_pow]
    have hi : ¬ t + (64 - n) < 64 := by omega
    by_cases h9 : 64 - s < n
    · rw [if_pos h9, Nat.testBit_or, hV, Nat.testBit_div_two_pow]
      have h0 : (L.getD (f + 8) 0).toNat.testBit (t + (64 - n) + (8 - s)) = false := by
        apply Nat.testBit_lt_two_pow
        have := (L.getD (f + 8) 0).toNat_lt
        have : 2 ^ 8 ≤ 2 ^ (t + (64 - n) + (8 - s)) := Nat.pow_le_pow_right (by decide) (by omega)
        omega
      rw [h0]
      simp [hi]
    · rw [if_neg h9, hV]
      simp [hi]
end Go.Proofs.YtkiefmhampfhoaaDoor
