/-
  The order of floats is that of whole numbers; what a product with a float from 0 to 1 comes to: nothing of the program is in it.
-/
import Derived.Test.YtgpednikianneaaOvQ
namespace Go.Proofs.Ytgpednikianneaa
open Go.RowKit

def mg (a : Nat) : Nat := a % 9223372036854775808
def sgB (a : Nat) : Bool := a / 9223372036854775808 % 2 == 1
/-- a magnitude, in the least float's own unit -/
def vl (r : Nat) : Nat := if r < 4503599627370496 then r else (4503599627370496 + r % 4503599627370496) * 2 ^ (r / 4503599627370496 - 1)
theorem vl_hi (r : Nat) : vl r < 4503599627370496 * 2 ^ (r / 4503599627370496) := by
  unfold vl
  split
  · rename_i h
    rw [Nat.div_eq_of_lt h]
    omega
  · rename_i h
    obtain ⟨e, he⟩ : ∃ e, r / 4503599627370496 = e + 1 := ⟨r / 4503599627370496 - 1, by omega⟩
    rw [he, Nat.add_sub_cancel, Nat.pow_succ]
    have hp : 0 < 2 ^ e := Nat.two_pow_pos _
    have : 4503599627370496 + r % 4503599627370496 < 9007199254740992 := by omega
    have h2 := Nat.mul_lt_mul_of_pos_right this hp
    omega
theorem vl_lo (r : Nat) (h : 4503599627370496 ≤ r) : 4503599627370496 * 2 ^ (r / 4503599627370496 - 1) ≤ vl r := by
  unfold vl
  rw [if_neg (by omega)]
  exact Nat.mul_le_mul_right _ (by omega)
theorem vl_lt {r s : Nat} (h : r < s) : vl r < vl s := by
  have he : r / 4503599627370496 ≤ s / 4503599627370496 := Nat.div_le_div_right (by omega)
  rcases Nat.lt_or_ge (r / 4503599627370496) (s / 4503599627370496) with h1 | h1
  · have h2 := vl_lo s (by omega)
    have h3 := vl_hi r
    have h4 : 2 ^ (r / 4503599627370496) ≤ 2 ^ (s / 4503599627370496 - 1) := Nat.pow_le_pow_right (by omega) (by omega)
    have h5 := Nat.mul_le_mul_left 4503599627370496 h4
    omega
  · have e : r / 4503599627370496 = s / 4503599627370496 := by omega
    unfold vl
    by_cases hs : s < 4503599627370496
    · rw [if_pos hs, if_pos (by omega)]; exact h
    · rw [if_neg hs, if_neg (by omega), e]
      exact Nat.mul_lt_mul_of_pos_right (by omega) (Nat.two_pow_pos _)
theorem vl_le {r s : Nat} (h : r ≤ s) : vl r ≤ vl s := by
  rcases Nat.lt_or_ge r s with h1 | h1
  · exact Nat.le_of_lt (vl_lt h1)
  · rw [show r = s by omega]; exact Nat.le_refl _
theorem vl_zero : vl 0 = 0 := rfl
def sv (a : Nat) : Int := if sgB a = true then -(vl (mg a) : Int) else (vl (mg a) : Int)
/-- what a finite float stands for -/
theorem read_fin {a : Nat} (h : mg a < 9218868437227405312) : ∃ m p, FloatKind.f64.format.read a = .number (sgB a) m p ∧ -1074 ≤ p ∧ vl (mg a) = m * 2 ^ (p + 1074).toNat := by
  unfold Ieee.Format.read
  have hlp : FloatKind.f64.format.leastPlace = -1074 := by decide
  have hbn : FloatKind.f64.format.binade = 4503599627370496 := by decide
  have hir : FloatKind.f64.format.infRung = 9218868437227405312 := by decide
  have hsw : FloatKind.f64.format.signWeight = 9223372036854775808 := by decide
  rw [hlp, hbn, hir, hsw]
  dsimp only
  rw [show a % 9223372036854775808 = mg a from rfl, show (a / 9223372036854775808 % 2 == 1) = sgB a from rfl]
  by_cases h1 : mg a < 4503599627370496
  · rw [if_pos h1]
    exact ⟨_, _, rfl, by omega, by unfold vl; rw [if_pos h1]; simp⟩
  · rw [if_neg h1, if_pos h]
    refine ⟨_, _, rfl, by omega, ?_⟩
    unfold vl
    rw [if_neg h1]
    congr 2
    show mg a / 4503599627370496 - 1 = (-1074 + ((mg a / 4503599627370496 - 1 : Nat) : Int) + 1074).toNat
    omega
theorem read_inf {a : Nat} (h : mg a = 9218868437227405312) : FloatKind.f64.format.read a = .infinity (sgB a) := by
  unfold Ieee.Format.read
  have hbn : FloatKind.f64.format.binade = 4503599627370496 := by decide
  have hir : FloatKind.f64.format.infRung = 9218868437227405312 := by decide
  have hsw : FloatKind.f64.format.signWeight = 9223372036854775808 := by decide
  rw [hbn, hir, hsw]
  show (if mg a < 4503599627370496 then _ else if mg a < 9218868437227405312 then _ else if mg a = 9218868437227405312 then _ else _) = _
  rw [if_neg (by omega), if_neg (by omega), if_pos h]
  rfl
theorem nan_rung (a : Nat) : nanB a = decide (9218868437227405312 < mg a) := by
  rw [nanB_iff]
  by_cases h : mg a < 9218868437227405312
  · obtain ⟨m, p, e, -⟩ := read_fin h
    rw [e, decide_eq_false (by omega)]; rfl
  · by_cases h2 : mg a = 9218868437227405312
    · rw [read_inf h2, decide_eq_false (by omega)]; rfl
    · rw [decide_eq_true (by omega)]
      unfold Ieee.Format.read
      have hbn : FloatKind.f64.format.binade = 4503599627370496 := by decide
      have hir : FloatKind.f64.format.infRung = 9218868437227405312 := by decide
      have hsw : FloatKind.f64.format.signWeight = 9223372036854775808 := by decide
      rw [hbn, hir, hsw]
      show Ieee.Datum.isNaN (if mg a < 4503599627370496 then _ else if mg a < 9218868437227405312 then _ else if mg a = 9218868437227405312 then _ else _) = _
      rw [if_neg (by omega), if_neg (by omega), if_neg h2]
      rfl
theorem cmp_mul (x y : Int) (k : Nat) : compare (x * 2 ^ k) (y * 2 ^ k) = compare x y := by
  have hp : (0 : Int) < 2 ^ k := Int.pow_pos (by omega)
  have h1 : (x * 2 ^ k < y * 2 ^ k) ↔ x < y := Int.mul_lt_mul_right hp
  have h2 : (x * 2 ^ k = y * 2 ^ k) ↔ x = y := ⟨fun h => Int.eq_of_mul_eq_mul_right (by omega) h, fun h => by rw [h]⟩
  simp only [compare, compareOfLessAndEq, h1, h2]
theorem signed_up (s : Bool) (m k : Nat) : Ieee.signed s m k = (if s = true then -((m * 2 ^ k : Nat) : Int) else ((m * 2 ^ k : Nat) : Int)) := by
  unfold Ieee.signed
  rw [Nat.shiftLeft_eq]
theorem signed_mul (s : Bool) (m j k : Nat) : Ieee.signed s m j * 2 ^ k = Ieee.signed s m (j + k) := by
  rw [signed_up, signed_up, Nat.pow_add, ← Nat.mul_assoc]
  cases s
  · simp
  · simp [Int.neg_mul]
theorem cmp_lt {x y : Int} (h : x < y) : compare x y = .lt := by simp [compare, compareOfLessAndEq, h]
theorem cmp_gt {x y : Int} (h : y < x) : compare x y = .gt := by
  simp only [compare, compareOfLessAndEq]
  rw [if_neg (by omega), if_neg (by omega)]
theorem cmp_self (x : Int) : compare x x = .eq := by simp [compare, compareOfLessAndEq]
/-- HOW TWO NUMBERS STAND TO EACH OTHER -/
theorem fo_sv {a b : Nat} (ha : nanB a = false) (hb : nanB b = false) : fo a b = some (compare (sv a) (sv b)) := by
  rw [nan_rung, decide_eq_false_iff_not] at ha hb
  have pos : ∀ r, 0 < r → 0 < vl r := fun r h => by have := vl_lt h; rw [vl_zero] at this; exact this
  unfold fo Ieee.Format.order
  by_cases a1 : mg a < 9218868437227405312
  · obtain ⟨m, p, e, hp, hv⟩ := read_fin a1
    by_cases b1 : mg b < 9218868437227405312
    · obtain ⟨m', p', e', hp', hv'⟩ := read_fin b1
      rw [e, e']
      simp only [Ieee.Datum.order]
      congr 1
      rw [← cmp_mul _ _ (min p p' + 1074).toNat, signed_mul, signed_mul, signed_up, signed_up]
      have k1 : (p - min p p').toNat + (min p p' + 1074).toNat = (p + 1074).toNat := by omega
      have k2 : (p' - min p p').toNat + (min p p' + 1074).toNat = (p' + 1074).toNat := by omega
      rw [k1, k2]
      unfold sv
      rw [hv, hv']
    · have b2 : mg b = 9218868437227405312 := by omega
      rw [e, read_inf b2]
      simp only [Ieee.Datum.order]
      have hlt := vl_lt (show mg a < mg b by omega)
      unfold sv
      cases hs : sgB b
      · simp only [Bool.false_eq_true, if_false]
        rw [cmp_lt]
        split <;> omega
      · simp only [if_true]
        rw [cmp_gt]
        split <;> omega
  · have a2 : mg a = 9218868437227405312 := by omega
    by_cases b1 : mg b < 9218868437227405312
    · obtain ⟨m', p', e', hp', hv'⟩ := read_fin b1
      rw [e', read_inf a2]
      simp only [Ieee.Datum.order]
      have hlt := vl_lt (show mg b < mg a by omega)
      unfold sv
      cases hs : sgB a
      · simp only [Bool.false_eq_true, if_false]
        rw [cmp_gt]
        split <;> omega
      · simp only [if_true]
        rw [cmp_lt]
        split <;> omega
    · have b2 : mg b = 9218868437227405312 := by omega
      rw [read_inf a2, read_inf b2]
      simp only [Ieee.Datum.order]
      have hp := pos 9218868437227405312 (by omega)
      unfold sv
      rw [a2, b2]
      generalize vl 9218868437227405312 = V at *
      cases sgB a <;> cases sgB b
      · simp
      · simp only [Bool.false_eq_true, if_false, if_true]
        rw [cmp_gt (by omega)]; rfl
      · simp only [Bool.false_eq_true, if_false, if_true]
        rw [cmp_lt (by omega)]; rfl
      · simp
/-! ### rounding -/
theorem cut_le {neg : Bool} {n drop K : Nat} (h : n ≤ K * 2 ^ drop) : Ieee.Toward.even.cut neg n drop ≤ K := by
  unfold Ieee.Toward.cut
  dsimp only
  rw [Nat.shiftLeft_eq, Nat.one_mul]
  rcases Nat.lt_or_ge (n.log2 + 2) drop with hd | hd
  · rw [Nat.min_eq_right (by omega)]
    have h1 : n < 2 ^ (n.log2 + 1) := Nat.lt_log2_self
    have h2 : 2 ^ (n.log2 + 2) = 2 * 2 ^ (n.log2 + 1) := by rw [Nat.pow_succ]; omega
    have h3 : n / 2 ^ (n.log2 + 2) = 0 := Nat.div_eq_of_lt (by omega)
    have h4 : n % 2 ^ (n.log2 + 2) = n := Nat.mod_eq_of_lt (by omega)
    rw [h3, h4]
    have h5 : decide (2 ^ (n.log2 + 2) < 2 * n) = false := decide_eq_false (by omega)
    have h6 : (2 ^ (n.log2 + 2) == 2 * n) = false := by rw [beq_eq_false_iff_ne]; omega
    rw [h5, h6]
    simp
  · rw [Nat.min_eq_left hd]
    have hg : 0 < 2 ^ drop := Nat.two_pow_pos _
    generalize 2 ^ drop = g at *
    have h1 : n / g ≤ K := by
      rw [Nat.div_le_iff_le_mul_add_pred hg]
      rw [Nat.mul_comm] at h
      omega
    rcases Nat.lt_or_ge (n / g) K with h2 | h2
    · have : ∀ b : Bool, b.toNat ≤ 1 := fun b => by cases b <;> simp
      exact Nat.le_trans (Nat.add_le_add_left (this _) _) h2
    · have e : n / g = K := by omega
      have hm := Nat.div_add_mod n g
      rw [e, Nat.mul_comm] at hm
      have h0 : n % g = 0 := by omega
      rw [h0, e]
      have h5 : decide (g < 2 * 0) = false := decide_eq_false (by omega)
      have h6 : (g == 2 * 0) = false := by rw [beq_eq_false_iff_ne]; omega
      rw [h5, h6]
      simp
/-- what is no greater than a float is rounded to none greater -/
theorem near_le {neg : Bool} {X R t : Nat} {p : Int} (ht : t = 1126) (hX : X ≠ 0) (hp : -2200 ≤ p) (hR : 4503599627370496 ≤ R) (h : X * 2 ^ (p + 2200).toNat ≤ vl R * 2 ^ t) : ∃ r, FloatKind.f64.format.nearest neg X p = FloatKind.f64.format.word neg r ∧ r ≤ R ∧ r ≤ 9218868437227405312 := by
  have hlp : FloatKind.f64.format.leastPlace = -1074 := by decide
  have hfb : (FloatKind.f64.format.fractionBits : Int) = 52 := by decide
  have hbn : FloatKind.f64.format.binade = 4503599627370496 := by decide
  have hir : FloatKind.f64.format.infRung = 9218868437227405312 := by decide
  unfold Ieee.Format.nearest
  rw [if_neg hX, hlp, hfb, hbn, hir]
  dsimp only
  refine ⟨_, rfl, Nat.le_trans (Nat.min_le_left _ _) ?_, Nat.min_le_right _ _⟩
  have hlo : 2 ^ X.log2 ≤ X := Nat.log2_self_le hX
  have hhi : X < 2 ^ (X.log2 + 1) := Nat.lt_log2_self
  obtain ⟨E, hE⟩ : ∃ E, X.log2 = E := ⟨_, rfl⟩
  rw [hE] at hlo hhi ⊢
  obtain ⟨last, hlast⟩ : ∃ last, max (p + (E : Int) - 52) (-1074) = last := ⟨_, rfl⟩
  rw [hlast]
  obtain ⟨L, hL⟩ : ∃ L : Nat, last = (L : Int) - 1074 := ⟨(last + 1074).toNat, by omega⟩
  have hLn : (last - -1074).toNat = L := by omega
  rw [hLn]
  obtain ⟨eR, heR⟩ : ∃ eR, R / 4503599627370496 = eR + 1 := ⟨R / 4503599627370496 - 1, by omega⟩
  have hvR : vl R = (4503599627370496 + R % 4503599627370496) * 2 ^ eR := by
    unfold vl
    rw [if_neg (by omega), heR, Nat.add_sub_cancel]
  have hRd := Nat.div_add_mod R 4503599627370496
  rw [heR] at hRd
  have hRm : R % 4503599627370496 < 4503599627370496 := Nat.mod_lt _ (by omega)
  -- what is kept is no more than 2^53
  have hk1 : Ieee.Toward.even.cut neg (X <<< (p - last).toNat) (last - p).toNat ≤ 9007199254740992 := by
    refine cut_le ?_
    rw [Nat.shiftLeft_eq]
    have e1 : (2 : Nat) ^ (E + 1) * 2 ^ (p - last).toNat ≤ 9007199254740992 * 2 ^ (last - p).toNat := by
      have : (9007199254740992 : Nat) = 2 ^ 53 := by decide
      rw [this, ← Nat.pow_add, ← Nat.pow_add]
      exact Nat.pow_le_pow_right (by omega) (by omega)
    have e2 := Nat.mul_le_mul_right (2 ^ (p - last).toNat) (Nat.le_of_lt hhi)
    omega
  generalize hkept : Ieee.Toward.even.cut neg (X <<< (p - last).toNat) (last - p).toNat = kept at *
  rcases Nat.lt_trichotomy L eR with hc | hc | hc
  · have : (L + 2) * 4503599627370496 ≤ (eR + 1) * 4503599627370496 := Nat.mul_le_mul_right _ (by omega)
    omega
  · -- the same binade
    have hk2 : kept ≤ 4503599627370496 + R % 4503599627370496 := by
      rw [← hkept]
      refine cut_le ?_
      rw [Nat.shiftLeft_eq]
      rw [hvR] at h
      generalize 4503599627370496 + R % 4503599627370496 = Y at *
      -- both sides times 2^(min + 2200)
      have hq : ∃ q : Nat, (q : Int) = min p last + 2200 := ⟨(min p last + 2200).toNat, by omega⟩
      obtain ⟨q, hq⟩ := hq
      have a1 : X * 2 ^ (p - last).toNat * 2 ^ q = X * 2 ^ (p + 2200).toNat := by
        rw [Nat.mul_assoc, ← Nat.pow_add, show (p - last).toNat + q = (p + 2200).toNat by omega]
      have a2 : Y * 2 ^ (last - p).toNat * 2 ^ q = Y * 2 ^ eR * 2 ^ t := by
        rw [Nat.mul_assoc, ← Nat.pow_add, Nat.mul_assoc, ← Nat.pow_add, show (last - p).toNat + q = eR + t by omega]
      have hp2 : 0 < 2 ^ q := Nat.two_pow_pos _
      refine Nat.le_of_mul_le_mul_right (c := 2 ^ q) ?_ hp2
      rw [a1, a2]
      exact h
    have e3 : (eR + 1) * 4503599627370496 = eR * 4503599627370496 + 4503599627370496 := by omega
    rw [hc]
    omega
  · -- it would be greater
    exfalso
    have hl2 : last = p + (E : Int) - 52 := by omega
    have h1 : (4503599627370496 + R % 4503599627370496) < 2 ^ 53 := by
      have : (9007199254740992 : Nat) = 2 ^ 53 := by decide
      omega
    have h2 : vl R * 2 ^ t < 2 ^ (53 + eR + t) := by
      rw [hvR, Nat.pow_add, Nat.pow_add]
      exact Nat.mul_lt_mul_of_pos_right (Nat.mul_lt_mul_of_pos_right h1 (Nat.two_pow_pos _)) (Nat.two_pow_pos _)
    have h3 : 2 ^ (E + (p + 2200).toNat) ≤ X * 2 ^ (p + 2200).toNat := by
      rw [Nat.pow_add]
      exact Nat.mul_le_mul_right _ hlo
    have h4 : 2 ^ (53 + eR + t) ≤ 2 ^ (E + (p + 2200).toNat) := Nat.pow_le_pow_right (by omega) (by omega)
    omega
end Go.Proofs.Ytgpednikianneaa
