/-
  Floats as the layer of functions of ranges meets them: how they stand to each other, what a count is as a float; nothing of the program is in it.
-/
import Derived.WalkKit
import Derived.Laws.Cover2
import Derived.Laws.FloatArith
namespace Go.Proofs.Ytgpednikianneaa
open Go.RowKit

/-- how two floats stand to each other -/
def fo (a b : Nat) : Option Ordering := FloatKind.f64.format.order a b
/-- is it no number? -/
def nanB (a : Nat) : Bool := fo a a != some .eq
theorem sgn_cmp (a b : Int) : compare a b = .lt ∨ compare a b = .eq ∨ compare a b = .gt := by
  cases compare a b <;> simp
theorem dat_self (d : Ieee.Datum) : d.order d = if d.isNaN then none else some .eq := by
  cases d with
  | number s m i => simp [Ieee.Datum.order, Ieee.Datum.isNaN]
  | infinity s => simp [Ieee.Datum.order, Ieee.Datum.isNaN]
  | nan s t => simp [Ieee.Datum.order, Ieee.Datum.isNaN]
theorem dat_none (d e : Ieee.Datum) : d.order e = none ↔ d.isNaN = true ∨ e.isNaN = true := by
  cases d <;> cases e <;> simp [Ieee.Datum.order, Ieee.Datum.isNaN]
theorem nanB_iff (a : Nat) : nanB a = (FloatKind.f64.format.read a).isNaN := by
  unfold nanB fo Ieee.Format.order
  rw [dat_self]
  cases (FloatKind.f64.format.read a).isNaN <;> simp
theorem fo_self {a : Nat} (h : nanB a = false) : fo a a = some .eq := by
  unfold nanB at h
  simpa using h
theorem fo_none (a b : Nat) : fo a b = none ↔ nanB a = true ∨ nanB b = true := by
  rw [nanB_iff, nanB_iff]
  exact dat_none _ _
theorem fo_some {a b : Nat} (ha : nanB a = false) (hb : nanB b = false) : ∃ c, fo a b = some c := by
  cases h : fo a b with
  | some c => exact ⟨c, rfl⟩
  | none => rw [fo_none, ha, hb] at h; simp at h
theorem fo_lt_nan {a b : Nat} {c : Ordering} (h : fo a b = some c) : nanB a = false ∧ nanB b = false := by
  have : ¬ (nanB a = true ∨ nanB b = true) := by rw [← fo_none, h]; simp
  cases ha : nanB a <;> cases hb : nanB b <;> simp_all

/-! ### whole numbers as floats -/
theorem log2_pos {m : Nat} (h : m < 9007199254740992) : m.log2 < 53 := by
  by_cases h0 : m = 0
  · subst h0; decide
  · exact (Nat.log2_lt h0).2 (by omega)
theorem mant {m : Nat} (h0 : m ≠ 0) (h : m < 9007199254740992) : 4503599627370496 ≤ m * 2 ^ (52 - m.log2) ∧ m * 2 ^ (52 - m.log2) < 9007199254740992 := by
  have hl := log2_pos h
  have h1 : 2 ^ m.log2 ≤ m := Nat.log2_self_le h0
  have h2 : m < 2 ^ (m.log2 + 1) := Nat.lt_log2_self
  have e : (2 : Nat) ^ m.log2 * 2 ^ (52 - m.log2) = 4503599627370496 := by
    rw [← Nat.pow_add, show m.log2 + (52 - m.log2) = 52 by omega]
  have e2 : (2 : Nat) ^ (m.log2 + 1) * 2 ^ (52 - m.log2) = 9007199254740992 := by
    rw [← Nat.pow_add, show m.log2 + 1 + (52 - m.log2) = 53 by omega]
  have hp : 0 < 2 ^ (52 - m.log2) := Nat.two_pow_pos _
  constructor
  · rw [← e]; exact Nat.mul_le_mul_right _ h1
  · rw [← e2]; exact Nat.mul_lt_mul_of_pos_right h2 hp
/-- what the float of a whole number stands for -/
theorem read_int {m : Nat} (h0 : m ≠ 0) (h : m < 9007199254740992) : FloatKind.f64.format.read (floatOfInt .f64 (m : Int)) = .number false (m * 2 ^ (52 - m.log2)) ((m.log2 : Int) - 52) := by
  have hl := log2_pos h
  obtain ⟨k1, k2⟩ := mant h0 h
  generalize hM : m * 2 ^ (52 - m.log2) = M at *
  have hw : floatOfInt .f64 (m : Int) = (m.log2 + 1022) * 4503599627370496 + M := by
    unfold floatOfInt FloatKind.nearest FloatKind.encode
    have hn : ¬ ((m : Int) < 0) := by omega
    simp only [hn, decide_false, Int.natAbs_natCast, Ieee.Format.write]
    unfold Ieee.Format.nearest
    rw [if_neg h0]
    have hlp : FloatKind.f64.format.leastPlace = -1074 := by decide
    have hfb : (FloatKind.f64.format.fractionBits : Int) = 52 := by decide
    have hbn : FloatKind.f64.format.binade = 4503599627370496 := by decide
    have hir : FloatKind.f64.format.infRung = 9218868437227405312 := by decide
    rw [hlp, hfb, hbn, hir]
    have hmax : max ((0 : Int) + (m.log2 : Int) - 52) (-1074) = (m.log2 : Int) - 52 := by omega
    simp only [hmax]
    have e1 : ((0 : Int) - ((m.log2 : Int) - 52)).toNat = 52 - m.log2 := by omega
    have e2 : ((m.log2 : Int) - 52 - 0).toNat = 0 := by omega
    have e3 : ((m.log2 : Int) - 52 - -1074).toNat = m.log2 + 1022 := by omega
    rw [e1, e2, e3, Nat.shiftLeft_eq, hM]
    have hc : Ieee.Toward.even.cut false M 0 = M := by
      unfold Ieee.Toward.cut
      simp [Nat.mod_one]
    rw [hc, Nat.min_eq_left (by omega)]
    rfl
  rw [hw]
  unfold Ieee.Format.read
  have hlp : FloatKind.f64.format.leastPlace = -1074 := by decide
  have hbn : FloatKind.f64.format.binade = 4503599627370496 := by decide
  have hir : FloatKind.f64.format.infRung = 9218868437227405312 := by decide
  have hsw : FloatKind.f64.format.signWeight = 9223372036854775808 := by decide
  rw [hlp, hbn, hir, hsw]
  have a1 : ((m.log2 + 1022) * 4503599627370496 + M) / 9223372036854775808 = 0 := by omega
  have a2 : ((m.log2 + 1022) * 4503599627370496 + M) % 9223372036854775808 = (m.log2 + 1022) * 4503599627370496 + M := by omega
  have a3 : ((m.log2 + 1022) * 4503599627370496 + M) % 4503599627370496 = M - 4503599627370496 := by omega
  have a4 : ((m.log2 + 1022) * 4503599627370496 + M) / 4503599627370496 = m.log2 + 1023 := by omega
  simp only [a1, a2, a3, a4]
  rw [if_neg (by omega), if_pos (by omega)]
  have b1 : 4503599627370496 + (M - 4503599627370496) = M := by omega
  have b2 : (-1074 : Int) + ((m.log2 + 1023 - 1 : Nat) : Int) = (m.log2 : Int) - 52 := by omega
  rw [b1, b2]
  rfl
theorem read_zero : FloatKind.f64.format.read (floatOfInt .f64 (0 : Int)) = .number false 0 (-1074) := by decide
/-- of whole numbers: as they stand -/
theorem fo_int {a b : Nat} (ha : a < 9007199254740992) (hb : b < 9007199254740992) : fo (floatOfInt .f64 (a : Int)) (floatOfInt .f64 (b : Int)) = some (compare a b) := by
  have cmpN : ∀ x y : Nat, compare (x : Int) (y : Int) = compare x y := fun x y => by
    simp only [compare, compareOfLessAndEq]
    simp only [Int.ofNat_lt, Int.ofNat_inj]
  unfold fo Ieee.Format.order
  by_cases a0 : a = 0
  · subst a0
    rw [show ((0 : Nat) : Int) = 0 from rfl, read_zero]
    by_cases b0 : b = 0
    · subst b0
      rw [show ((0 : Nat) : Int) = 0 from rfl, read_zero]
      rfl
    · rw [read_int b0 hb]
      obtain ⟨k1, k2⟩ := mant b0 hb
      unfold Ieee.Datum.order
      simp only [Ieee.signed, Bool.false_eq_true, if_false, Nat.shiftLeft_eq, Nat.zero_mul]
      rw [cmpN]
      have hp : 0 < b * 2 ^ (52 - b.log2) * 2 ^ (((b.log2 : Int) - 52) - min (-1074) ((b.log2 : Int) - 52)).toNat := Nat.mul_pos (by omega) (Nat.two_pow_pos _)
      rw [Nat.compare_eq_lt.2 hp, Nat.compare_eq_lt.2 (by omega)]
  · rw [read_int a0 ha]
    by_cases b0 : b = 0
    · subst b0
      rw [show ((0 : Nat) : Int) = 0 from rfl, read_zero]
      obtain ⟨k1, k2⟩ := mant a0 ha
      unfold Ieee.Datum.order
      simp only [Ieee.signed, Bool.false_eq_true, if_false, Nat.shiftLeft_eq, Nat.zero_mul]
      rw [cmpN]
      have hp : 0 < a * 2 ^ (52 - a.log2) * 2 ^ (((a.log2 : Int) - 52) - min ((a.log2 : Int) - 52) (-1074)).toNat := Nat.mul_pos (by omega) (Nat.two_pow_pos _)
      rw [Nat.compare_eq_gt.2 hp, Nat.compare_eq_gt.2 (by omega)]
    · rw [read_int b0 hb]
      have la := log2_pos ha
      have lb := log2_pos hb
      unfold Ieee.Datum.order
      simp only [Ieee.signed, Bool.false_eq_true, if_false, Nat.shiftLeft_eq]
      rw [cmpN]
      generalize hmn : min ((a.log2 : Int) - 52) ((b.log2 : Int) - 52) = mn
      obtain ⟨q, hq⟩ : ∃ q : Nat, mn = (q : Int) - 52 ∧ q ≤ a.log2 ∧ q ≤ b.log2 := ⟨min a.log2 b.log2, by omega, by omega, by omega⟩
      obtain ⟨hq, qa, qb⟩ := hq
      have e1 : (((a.log2 : Int) - 52) - mn).toNat = a.log2 - q := by omega
      have e2 : (((b.log2 : Int) - 52) - mn).toNat = b.log2 - q := by omega
      rw [e1, e2, Nat.mul_assoc, Nat.mul_assoc, ← Nat.pow_add, ← Nat.pow_add, show 52 - a.log2 + (a.log2 - q) = 52 - q by omega, show 52 - b.log2 + (b.log2 - q) = 52 - q by omega]
      have hp : 0 < 2 ^ (52 - q) := Nat.two_pow_pos _
      have c1 : compare (a * 2 ^ (52 - q)) (b * 2 ^ (52 - q)) = compare a b := by
        rcases Nat.lt_trichotomy a b with h | h | h
        · rw [Nat.compare_eq_lt.2 h, Nat.compare_eq_lt.2 (Nat.mul_lt_mul_of_pos_right h hp)]
        · subst h; simp
        · rw [Nat.compare_eq_gt.2 h, Nat.compare_eq_gt.2 (Nat.mul_lt_mul_of_pos_right h hp)]
      rw [c1]
/-- the float 1 -/
theorem one_int : floatOfInt .f64 (1 : Int) = 4607182418800017408 := by decide
end Go.Proofs.Ytgpednikianneaa
