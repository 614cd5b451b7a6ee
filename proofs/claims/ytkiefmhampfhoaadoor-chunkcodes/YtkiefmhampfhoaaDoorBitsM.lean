/-
  Streams of bits as bytes: plain facts; nothing of the program is in it.
-/
import Derived.Test.YtkiefmhampfhoaaDoorBase
namespace Go.Proofs.YtkiefmhampfhoaaDoor

/-- the n lowest bits of a number, the highest first -/
def bitsOf (v : Nat) : Nat → List Bool
  | 0 => []
  | n + 1 => v.testBit n :: bitsOf v n
theorem bitsOf_len (v n : Nat) : (bitsOf v n).length = n := by
  induction n with
  | zero => rfl
  | succ n ih => simp [bitsOf, ih]
theorem bitsOf_get (v n j : Nat) (h : j < n) : (bitsOf v n).getD j false = v.testBit (n - 1 - j) := by
  induction n generalizing j with
  | zero => omega
  | succ n ih =>
    cases j with
    | zero => simp [bitsOf]
    | succ j =>
      have := ih j (by omega)
      simp only [bitsOf, List.getD_cons_succ]
      rw [this]
      congr 1
      omega

def b2n (b : Bool) : Nat := if b then 1 else 0
def byteN (f : Nat → Bool) : Nat := b2n (f 0) * 128 + b2n (f 1) * 64 + b2n (f 2) * 32 + b2n (f 3) * 16 + b2n (f 4) * 8 + b2n (f 5) * 4 + b2n (f 6) * 2 + b2n (f 7)
theorem byteN_bits : ∀ (b0 b1 b2 b3 b4 b5 b6 b7 : Bool) (t : Fin 8), (b2n b0 * 128 + b2n b1 * 64 + b2n b2 * 32 + b2n b3 * 16 + b2n b4 * 8 + b2n b5 * 4 + b2n b6 * 2 + b2n b7).testBit t.val = [b7, b6, b5, b4, b3, b2, b1, b0].getD t.val false := by decide +kernel
theorem byteN_lt (f : Nat → Bool) : byteN f < 256 := by
  have h : ∀ b, b2n b ≤ 1 := fun b => by cases b <;> simp [b2n]
  have := h (f 0); have := h (f 1); have := h (f 2); have := h (f 3); have := h (f 4); have := h (f 5); have := h (f 6); have := h (f 7)
  unfold byteN
  omega
theorem byteN_testBit (f : Nat → Bool) (t : Nat) : (byteN f).testBit t = (decide (t < 8) && f (7 - t)) := by
  by_cases h : t < 8
  · have := byteN_bits (f 0) (f 1) (f 2) (f 3) (f 4) (f 5) (f 6) (f 7) ⟨t, h⟩
    simp only at this
    unfold byteN
    rw [this]
    match t, h with
    | 0, _ => simp
    | 1, _ => simp
    | 2, _ => simp
    | 3, _ => simp
    | 4, _ => simp
    | 5, _ => simp
    | 6, _ => simp
    | 7, _ => simp
  · rw [Nat.testBit_lt_two_pow (Nat.lt_of_lt_of_le (byteN_lt f) (by exact Nat.pow_le_pow_right (by decide : 2 > 0) (by omega : 8 ≤ t)))]
    simp [h]

def byteOf (bs : List Bool) (i : Nat) : Nat := byteN (fun j => bs.getD (8 * i + j) false)
theorem byteOf_lt (bs : List Bool) (i : Nat) : byteOf bs i < 256 := byteN_lt _
def pack (bs : List Bool) : List UInt8 := (List.range ((bs.length + 7) / 8)).map fun i => UInt8.ofNat (byteOf bs i)
theorem pack_len (bs : List Bool) : (pack bs).length = (bs.length + 7) / 8 := by simp [pack]
theorem pack_get (bs : List Bool) (i : Nat) (h : i < (bs.length + 7) / 8) : (pack bs).getD i 0 = UInt8.ofNat (byteOf bs i) := by
  simp [pack, List.getD, h]
theorem byteN_congr {f g : Nat → Bool} (h : ∀ j, j < 8 → f j = g j) : byteN f = byteN g := by
  unfold byteN
  rw [h 0 (by omega), h 1 (by omega), h 2 (by omega), h 3 (by omega), h 4 (by omega), h 5 (by omega), h 6 (by omega), h 7 (by omega)]
theorem byteOf_end (bs : List Bool) (i : Nat) (h : bs.length ≤ 8 * i) : byteOf bs i = 0 := by
  have e : byteOf bs i = byteN (fun _ => false) := byteN_congr fun j _ => by
    simp only [List.getD]
    rw [List.getElem?_eq_none (by omega)]
    rfl
  rw [e]
  rfl
theorem byteOf_app (bs c : List Bool) (i : Nat) (h : 8 * i + 8 ≤ bs.length) : byteOf (bs ++ c) i = byteOf bs i :=
  byteN_congr fun j hj => by
    simp only [List.getD]
    rw [List.getElem?_append_left (by omega)]

/-- a piece of k bits of v, those from n on -/
def piece (v n k : Nat) : List Bool := bitsOf (v / 2 ^ n) k
theorem bitsOf_split (v n k : Nat) : bitsOf v (n + k) = piece v n k ++ bitsOf v n := by
  unfold piece
  induction k with
  | zero => rfl
  | succ k ih =>
    have e : n + (k + 1) = (n + k) + 1 := by omega
    rw [e]
    simp only [bitsOf, List.cons_append, ih]
    congr 1
    rw [Nat.testBit_div_two_pow, Nat.add_comm]

/-- what a piece adds to the byte that is not full -/
def shifted (x k free : Nat) : Nat := x % 256 * 2 ^ (8 - k) % 256 / 2 ^ (8 - free)
theorem shifted_testBit (x k free t : Nat) (hk : k ≤ 8) (hf : free ≤ 8) : (shifted x k free).testBit t = (decide (t < free) && decide (free ≤ t + k) && x.testBit (t + k - free)) := by
  unfold shifted
  rw [Nat.testBit_div_two_pow]
  have e : (256 : Nat) = 2 ^ 8 := by decide
  rw [e, Nat.testBit_mod_two_pow, Nat.mul_comm, Nat.testBit_two_pow_mul, Nat.testBit_mod_two_pow]
  by_cases h1 : t < free
  · by_cases h2 : free ≤ t + k
    · have a1 : t + (8 - free) < 8 := by omega
      have a2 : t + (8 - free) ≥ 8 - k := by omega
      have a3 : t + (8 - free) - (8 - k) = t + k - free := by omega
      have a4 : t + k - free < 8 := by omega
      simp [h1, h2, a1, a2, a3, a4]
    · have a2 : ¬ t + (8 - free) ≥ 8 - k := by omega
      simp [h1, h2, a2]
  · have a1 : ¬ t + (8 - free) < 8 := by omega
    simp [h1, a1]
theorem shifted_lt (x k free : Nat) : shifted x k free < 256 := by
  unfold shifted
  exact Nat.lt_of_le_of_lt (Nat.div_le_self _ _) (Nat.mod_lt _ (by decide))

theorem byteOf_piece (bs : List Bool) (v n k : Nat) (hk : 1 ≤ k) (hr : bs.length % 8 + k ≤ 8) :
    byteOf (bs ++ piece v n k) (bs.length / 8) = byteOf bs (bs.length / 8) ||| shifted (v / 2 ^ n) k (8 - bs.length % 8) := by
  apply Nat.eq_of_testBit_eq
  intro t
  rw [Nat.testBit_or, shifted_testBit _ _ _ _ (by omega) (by omega)]
  unfold byteOf
  rw [byteN_testBit, byteN_testBit]
  by_cases ht : t < 8
  · simp only [ht, decide_true, Bool.true_and]
    by_cases h1 : t < 8 - bs.length % 8
    · have e1 : bs.getD (8 * (bs.length / 8) + (7 - t)) false = false := by
        simp only [List.getD]
        rw [List.getElem?_eq_none (by omega)]
        rfl
      rw [e1]
      have e2 : (bs ++ piece v n k).getD (8 * (bs.length / 8) + (7 - t)) false = (piece v n k).getD (8 * (bs.length / 8) + (7 - t) - bs.length) false := by
        simp only [List.getD]
        rw [List.getElem?_append_right (by omega)]
      rw [e2]
      by_cases h2 : 8 - bs.length % 8 ≤ t + k
      · unfold piece
        rw [bitsOf_get _ _ _ (by omega)]
        have e3 : k - 1 - (8 * (bs.length / 8) + (7 - t) - bs.length) = t + k - (8 - bs.length % 8) := by omega
        rw [e3]
        simp [h1, h2]
      · have e3 : (piece v n k).getD (8 * (bs.length / 8) + (7 - t) - bs.length) false = false := by
          simp only [List.getD]
          rw [List.getElem?_eq_none (by unfold piece; rw [bitsOf_len]; omega)]
          rfl
        rw [e3]
        simp [h2]
    · have e2 : (bs ++ piece v n k).getD (8 * (bs.length / 8) + (7 - t)) false = bs.getD (8 * (bs.length / 8) + (7 - t)) false := by
        simp only [List.getD]
        rw [List.getElem?_append_left (by omega)]
      rw [e2]
      simp [h1]
  · have h1 : ¬ t < 8 - bs.length % 8 := by omega
    simp [ht, h1]

/-- the bytes with room for more -/
def roomy (bs : List Bool) : List UInt8 := if bs.length % 8 = 0 then pack bs ++ [0] else pack bs
theorem roomy_len (bs : List Bool) : (roomy bs).length = bs.length / 8 + 1 := by
  unfold roomy
  split
  · rw [List.length_append, pack_len]; simp; omega
  · rw [pack_len]; omega
theorem roomy_last (bs : List Bool) : ((roomy bs).getD (bs.length / 8) 0).toNat = byteOf bs (bs.length / 8) := by
  unfold roomy
  split
  · rename_i h
    have e : bs.length / 8 = (pack bs).length := by rw [pack_len]; omega
    have e0 : (pack bs ++ [0]).getD (bs.length / 8) 0 = 0 := by rw [e]; simp
    rw [e0, byteOf_end bs _ (by omega)]
    rfl
  · rw [pack_get _ _ (by omega), UInt8.toNat_ofNat']
    have := byteOf_lt bs (bs.length / 8)
    omega
theorem put_step (bs : List Bool) (v n k : Nat) (hk : 1 ≤ k) (hr : bs.length % 8 + k ≤ 8) :
    pack (bs ++ piece v n k) = (roomy bs).set (bs.length / 8) (UInt8.ofNat (byteOf bs (bs.length / 8) ||| shifted (v / 2 ^ n) k (8 - bs.length % 8))) := by
  have hlen : (bs ++ piece v n k).length = bs.length + k := by rw [List.length_append]; unfold piece; rw [bitsOf_len]
  apply List.ext_getElem
  · rw [pack_len, hlen, List.length_set, roomy_len]; omega
  · intro i h1 h2
    rw [List.getElem_set]
    have hi : i < bs.length / 8 + 1 := by rw [List.length_set, roomy_len] at h2; exact h2
    by_cases e : bs.length / 8 = i
    · subst e
      rw [if_pos rfl]
      simp only [pack, List.getElem_map, List.getElem_range]
      rw [byteOf_piece bs v n k hk hr]
    · rw [if_neg e]
      have hlt : i < bs.length / 8 := by omega
      have e1 : (pack (bs ++ piece v n k))[i] = UInt8.ofNat (byteOf bs i) := by
        simp only [pack, List.getElem_map, List.getElem_range]
        rw [byteOf_app _ _ _ (by omega)]
      rw [e1]
      unfold roomy
      split
      · rw [List.getElem_append_left (by rw [pack_len]; omega)]
        simp [pack]
      · simp [pack]
end Go.Proofs.YtkiefmhampfhoaaDoor
