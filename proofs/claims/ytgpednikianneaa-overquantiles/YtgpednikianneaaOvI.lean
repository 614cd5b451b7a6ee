/-
  The place in a row that a float from 0 to 1 tells: it is one; nothing of the program is in it.
-/
import Derived.Test.YtgpednikianneaaOvM
namespace Go.Proofs.Ytgpednikianneaa
open Go.RowKit

theorem vl_inj_le {r s : Nat} (h : vl r ≤ vl s) : r ≤ s := by
  rcases Nat.lt_or_ge s r with h1 | h1
  · have := vl_lt h1; omega
  · exact h1
theorem vl_one {u : Nat} (hu : u = 1074) : vl 4607182418800017408 = 2 ^ u := by
  unfold vl
  rw [if_neg (by omega)]
  have e1 : 4503599627370496 + 4607182418800017408 % 4503599627370496 = 2 ^ 52 := by decide
  obtain ⟨x, hx⟩ : ∃ x, 4607182418800017408 / 4503599627370496 - 1 = x := ⟨_, rfl⟩
  rw [e1, hx, ← Nat.pow_add]
  have h2 : 52 + x = u := by omega
  rw [h2]
/-- a number cut towards 0 -/
theorem cut_zero {neg : Bool} {m u : Nat} {p : Int} (hu : u = 1074) (hp : -1074 ≤ p) : Ieee.Toward.zero.cut neg (m <<< p.toNat) (-p).toNat = m * 2 ^ (p + 1074).toNat / 2 ^ u := by
  unfold Ieee.Toward.cut
  dsimp only
  rw [Nat.shiftLeft_eq, Nat.shiftLeft_eq, Nat.one_mul, Bool.toNat_false, Nat.add_zero]
  have hpu : 0 < 2 ^ u := Nat.two_pow_pos _
  rcases Int.lt_or_le p 0 with h | h
  · rw [show p.toNat = 0 by omega, Nat.pow_zero, Nat.mul_one]
    obtain ⟨d, hd⟩ : ∃ d : Nat, (-p).toNat = d := ⟨_, rfl⟩
    rw [hd]
    have e : 2 ^ u = 2 ^ d * 2 ^ (p + 1074).toNat := by
      rw [← Nat.pow_add]
      congr 1
      omega
    rw [e, Nat.mul_div_mul_right _ _ (Nat.two_pow_pos _)]
    rcases Nat.lt_or_ge (m.log2 + 2) d with h2 | h2
    · rw [Nat.min_eq_right (by omega)]
      have h3 : m < 2 ^ (m.log2 + 1) := Nat.lt_log2_self
      rw [Nat.div_eq_of_lt (Nat.lt_of_lt_of_le h3 (Nat.pow_le_pow_right (by omega) (by omega))), Nat.div_eq_of_lt (Nat.lt_of_lt_of_le h3 (Nat.pow_le_pow_right (by omega) (by omega)))]
    · rw [Nat.min_eq_left h2]
  · rw [show (-p).toNat = 0 by omega, Nat.zero_min, Nat.pow_zero, Nat.div_one]
    have e : (p + 1074).toNat = p.toNat + u := by omega
    rw [e, Nat.pow_add, ← Nat.mul_assoc, Nat.mul_div_cancel _ hpu]
theorem to_int {k M : Nat} (hk : mg k < 9218868437227405312) (hs : sgB k = false) {u : Nat} (hu : u = 1074) (h : vl (mg k) / 2 ^ u ≤ M) (hM : M ≤ 9007199254740992) : floatToIntVal .f64 k .i64 = some ((vl (mg k) / 2 ^ u : Nat) : Int) := by
  obtain ⟨m, p, e, hp, hv⟩ := read_fin hk
  have e2 : (FloatKind.f64.decode k).toInt .zero = some ((vl (mg k) / 2 ^ u : Nat) : Int) := by
    show (FloatKind.f64.format.read k).toInt .zero = _
    rw [e, hs]
    unfold Ieee.Datum.toInt Ieee.Datum.integral
    simp only [cut_zero hu hp, ← hv]
    unfold Ieee.signed
    simp
  have key : ∀ x : Nat, x ≤ M → (match some (x : Int) with | some n => (if IntKind.i64.min ≤ n ∧ n ≤ IntKind.i64.max then some n else none) | none => none) = some (x : Int) := fun x hx => by
    have h1 : IntKind.i64.min = -9223372036854775808 := by decide
    have h2 : IntKind.i64.max = 9223372036854775807 := by decide
    simp only [h1, h2]
    rw [if_pos (by omega)]
  unfold floatToIntVal
  rw [e2]
  exact key _ h
theorem mg_word (s : Bool) (r : Nat) (hr : r ≤ 9218868437227405312) : mg (FloatKind.f64.format.word s r) = r ∧ sgB (FloatKind.f64.format.word s r) = s := by
  unfold Ieee.Format.word
  have hsw : FloatKind.f64.format.signWeight = 9223372036854775808 := by decide
  rw [hsw]
  cases s
  · rw [if_neg (by simp)]
    unfold mg sgB
    refine ⟨by omega, ?_⟩
    rw [show r / 9223372036854775808 = 0 by omega]
    rfl
  · rw [if_pos rfl]
    unfold mg sgB
    refine ⟨by omega, ?_⟩
    rw [show (9223372036854775808 + r) / 9223372036854775808 = 1 by omega]
    rfl
/-- THE PLACE: the product of a float from 0 to 1 and a whole number, cut, is no more than that number -/
theorem q_index {q M : Nat} (hM : M ≤ 17592186044416) (hn : nanB q = false) (h0 : (fo q 0 == some .lt) = false) (h1 : (fo q 4607182418800017408 == some .gt) = false) :
    ∃ k i : Nat, floatBits .mul .f64 q (floatOfInt .f64 (M : Int)) = some k ∧ floatToIntVal .f64 k .i64 = some (i : Int) ∧ i ≤ M := by
  obtain ⟨u, hu⟩ : ∃ u, u = 1074 := ⟨_, rfl⟩
  have n0 : nanB 0 = false := by decide
  have n1 : nanB 4607182418800017408 = false := by decide
  have s0 : sv 0 = 0 := by decide
  have hnonneg : 0 ≤ sv q := by
    rw [fo_sv hn n0, s0] at h0
    rcases Int.lt_or_le (sv q) 0 with h | h
    · rw [cmp_lt h] at h0; simp at h0
    · exact h
  have hq1 : mg q ≤ 4607182418800017408 ∧ (sgB q = true → mg q = 0) := by
    have hle : sv q ≤ sv 4607182418800017408 := by
      rw [fo_sv hn n1] at h1
      rcases Int.lt_or_le (sv 4607182418800017408) (sv q) with h | h
      · rw [cmp_gt h] at h1; simp at h1
      · exact h
    have e1 : sv 4607182418800017408 = (vl 4607182418800017408 : Int) := by
      unfold sv
      rw [show sgB 4607182418800017408 = false by decide, show mg 4607182418800017408 = 4607182418800017408 by decide]
      simp
    rw [e1] at hle
    unfold sv at hnonneg hle
    cases hs : sgB q
    · rw [hs] at hle
      simp only [Bool.false_eq_true, if_false] at hle
      exact ⟨vl_inj_le (by omega), fun h => by cases h⟩
    · rw [hs] at hnonneg
      simp only [if_true] at hnonneg
      have : mg q ≤ 0 := vl_inj_le (by rw [vl_zero]; omega)
      exact ⟨by omega, fun _ => by omega⟩
  obtain ⟨hq1, hq2⟩ := hq1
  obtain ⟨Q, a, eq, ha, hvq⟩ := read_fin (show mg q < 9218868437227405312 by omega)
  have hprod : floatBits .mul .f64 q (floatOfInt .f64 (M : Int)) = ((FloatKind.f64.format.read q).product (FloatKind.f64.format.read (floatOfInt .f64 (M : Int)))).map FloatKind.f64.format.write := rfl
  have zero : ∀ s : Bool, ∀ p : Int, ∃ k i : Nat, some (FloatKind.f64.format.write (.number s 0 p)) = some k ∧ floatToIntVal .f64 k .i64 = some (i : Int) ∧ i ≤ M := fun s p => by
    have e : FloatKind.f64.format.write (.number s 0 p) = FloatKind.f64.format.word s 0 := by
      show FloatKind.f64.format.nearest s 0 p = _
      unfold Ieee.Format.nearest
      rw [if_pos rfl]
    refine ⟨_, 0, by rw [e], ?_, by omega⟩
    cases s <;> decide
  by_cases hM0 : M = 0
  · subst hM0
    rw [hprod, show ((0 : Nat) : Int) = 0 from rfl, read_zero, eq]
    have := zero (sgB q ^^ false) (a + -1074)
    simpa [Ieee.Datum.product] using this
  · obtain ⟨k1, k2⟩ := mant hM0 (show M < 9007199254740992 by omega)
    have hl := log2_pos (show M < 9007199254740992 by omega)
    have hri := read_int hM0 (show M < 9007199254740992 by omega)
    by_cases hQ0 : Q = 0
    · subst hQ0
      rw [hprod, hri, eq]
      have := zero (sgB q ^^ false) (a + ((M.log2 : Int) - 52))
      simpa [Ieee.Datum.product] using this
    · have hsq : sgB q = false := by
        cases h : sgB q with
        | false => rfl
        | true =>
          have := hq2 h
          rw [this, vl_zero] at hvq
          rcases Nat.mul_eq_zero.1 hvq.symm with h2 | h2
          · exact absurd h2 hQ0
          · have := Nat.two_pow_pos (a + 1074).toNat; omega
      -- the whole number's rung
      obtain ⟨R, hR⟩ : ∃ R, mg (floatOfInt .f64 (M : Int)) = R := ⟨_, rfl⟩
      have hRf : R < 9218868437227405312 := by
        rcases Nat.lt_or_ge R 9218868437227405312 with h | h
        · exact h
        · exfalso
          rcases Nat.lt_or_ge 9218868437227405312 R with h2 | h2
          · have hnn : nanB (floatOfInt .f64 (M : Int)) = true := by rw [nan_rung, hR, decide_eq_true h2]
            rw [nanB_iff, hri] at hnn
            cases hnn
          · have := read_inf (a := floatOfInt .f64 (M : Int)) (by omega)
            rw [hri] at this
            cases this
      obtain ⟨m', p', e', hp', hv'⟩ := read_fin (a := floatOfInt .f64 (M : Int)) (by omega)
      rw [hri] at e'
      simp only [Ieee.Datum.number.injEq] at e'
      obtain ⟨-, rfl, rfl⟩ := e'
      rw [hR] at hv'
      have hvR : vl R = M * 2 ^ u := by
        rw [hv', Nat.mul_assoc, ← Nat.pow_add]
        congr 2
        omega
      have hR52 : 4503599627370496 ≤ R := by
        refine vl_inj_le ?_
        rw [hvR]
        have e : vl 4503599627370496 = 4503599627370496 := by decide
        rw [e]
        have h1 : (2 : Nat) ^ 52 ≤ 2 ^ u := Nat.pow_le_pow_right (by omega) (by omega)
        have h2 : 1 * 2 ^ u ≤ M * 2 ^ u := Nat.mul_le_mul_right _ (by omega)
        have h3 : (4503599627370496 : Nat) = 2 ^ 52 := by decide
        omega
      have hpr : (Ieee.Datum.number (sgB q) Q a).product (.number false (M * 2 ^ (52 - M.log2)) ((M.log2 : Int) - 52)) = some (.number false (Q * (M * 2 ^ (52 - M.log2))) (a + ((M.log2 : Int) - 52))) := by
        rw [hsq]
        rfl
      obtain ⟨t, ht⟩ : ∃ t, t = 1126 := ⟨_, rfl⟩
      obtain ⟨r, e1, hr1, hr2⟩ := near_le (neg := false) (X := Q * (M * 2 ^ (52 - M.log2))) (R := R) (p := a + ((M.log2 : Int) - 52)) ht (Nat.mul_ne_zero hQ0 (by omega)) (by omega) hR52 (by
        have hle : vl (mg q) ≤ 2 ^ u := by rw [← vl_one hu]; exact vl_le hq1
        rw [hvq] at hle
        rw [hv']
        generalize M * 2 ^ (52 - M.log2) = Y at *
        obtain ⟨x, hx⟩ : ∃ x : Nat, (x : Int) = (M.log2 : Int) - 52 + 1126 := ⟨((M.log2 : Int) - 52 + 1126).toNat, by omega⟩
        have a1 : Q * Y * 2 ^ (a + ((M.log2 : Int) - 52) + 2200).toNat = Q * 2 ^ (a + 1074).toNat * (Y * 2 ^ x) := by
          rw [show (a + ((M.log2 : Int) - 52) + 2200).toNat = (a + 1074).toNat + x by omega, Nat.pow_add]
          simp only [Nat.mul_assoc, Nat.mul_left_comm]
        have a2 : Y * 2 ^ ((M.log2 : Int) - 52 + 1074).toNat * 2 ^ t = 2 ^ u * (Y * 2 ^ x) := by
          rw [Nat.mul_left_comm (2 ^ u), ← Nat.pow_add, Nat.mul_assoc, ← Nat.pow_add]
          congr 2
          omega
        rw [a1, a2]
        exact Nat.mul_le_mul_right _ hle)
      have hw := mg_word false r hr2
      refine ⟨FloatKind.f64.format.word false r, vl r / 2 ^ u, ?_, ?_, ?_⟩
      · rw [hprod, hri, eq, hpr]
        show some (FloatKind.f64.format.nearest _ _ _) = _
        rw [e1]
      · have hle : vl r / 2 ^ u ≤ M := by
          have h2 := Nat.div_le_div_right (c := 2 ^ u) (vl_le hr1)
          rw [hvR, Nat.mul_div_cancel _ (Nat.two_pow_pos _)] at h2
          exact h2
        have := to_int (k := FloatKind.f64.format.word false r) (M := M) (by rw [hw.1]; omega) hw.2 hu (by rw [hw.1]; exact hle) (by omega)
        rw [hw.1] at this
        exact this
      · have h2 := Nat.div_le_div_right (c := 2 ^ u) (vl_le hr1)
        rw [hvR, Nat.mul_div_cancel _ (Nat.two_pow_pos _)] at h2
        exact h2
end Go.Proofs.Ytgpednikianneaa
