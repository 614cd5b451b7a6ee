/-
  What is exact of floats: once and nought times a number, a number less itself; the ends of values in order; nothing of the program's walks.
-/
import Derived.Test.YtgpednikianneaaOvAh
import Derived.Test.YtgpednikianneaaLawOvRis
namespace Go.Proofs.Ytgpednikianneaa
open Go.RowKit

theorem read_can {a : Nat} (h : mg a < 9218868437227405312) : ∃ m p, FloatKind.f64.format.read a = .number (sgB a) m p ∧ -1074 ≤ p ∧ mg a = (p + 1074).toNat * 4503599627370496 + m ∧ m < 9007199254740992 ∧ (p = -1074 ∨ 4503599627370496 ≤ m) := by
  unfold Ieee.Format.read
  have hlp : FloatKind.f64.format.leastPlace = -1074 := by decide
  have hbn : FloatKind.f64.format.binade = 4503599627370496 := by decide
  have hir : FloatKind.f64.format.infRung = 9218868437227405312 := by decide
  have hsw : FloatKind.f64.format.signWeight = 9223372036854775808 := by decide
  rw [hlp, hbn, hir, hsw]
  dsimp only
  rw [show a % 9223372036854775808 = mg a from rfl, show (a / 9223372036854775808 % 2 == 1) = sgB a from rfl]
  by_cases h1 : mg a < 4503599627370496
  · rw [if_pos h1]
    exact ⟨_, _, rfl, by omega, by omega, by omega, .inl rfl⟩
  · rw [if_neg h1, if_pos h]
    exact ⟨_, _, rfl, by omega, by omega, by omega, .inr (by omega)⟩
theorem word_self {x : Nat} (hx : x < 18446744073709551616) : FloatKind.f64.format.word (sgB x) (mg x) = x := by
  unfold Ieee.Format.word
  have hsw : FloatKind.f64.format.signWeight = 9223372036854775808 := by decide
  rw [hsw]
  unfold sgB mg
  rcases Nat.lt_or_ge x 9223372036854775808 with h | h
  · rw [show x / 9223372036854775808 = 0 by omega]
    simp
    omega
  · rw [show x / 9223372036854775808 = 1 by omega]
    simp
    omega
theorem near_zero (s : Bool) (p : Int) : FloatKind.f64.format.nearest s 0 p = FloatKind.f64.format.word s 0 := by
  unfold Ieee.Format.nearest
  rw [if_pos rfl]
theorem log2_shift {m : Nat} (h : m ≠ 0) (d : Nat) : (m * 2 ^ d).log2 = m.log2 + d := by
  have hp : 0 < 2 ^ d := Nat.two_pow_pos _
  rw [Nat.log2_eq_iff (Nat.mul_ne_zero h (by omega))]
  have h1 : 2 ^ m.log2 ≤ m := Nat.log2_self_le h
  have h2 : m < 2 ^ (m.log2 + 1) := Nat.lt_log2_self
  constructor
  · rw [Nat.pow_add]
    exact Nat.mul_le_mul_right _ h1
  · rw [show m.log2 + d + 1 = m.log2 + 1 + d by omega, Nat.pow_add]
    exact Nat.mul_lt_mul_of_pos_right h2 hp
theorem near_exact {neg : Bool} {m d : Nat} {p : Int} (hm : m ≠ 0) (hp : -1074 ≤ p) (h1 : m < 9007199254740992) (h2 : p = -1074 ∨ 4503599627370496 ≤ m) (hr : (p + 1074).toNat * 4503599627370496 + m ≤ 9218868437227405312) :
    FloatKind.f64.format.nearest neg (m * 2 ^ d) (p - d) = FloatKind.f64.format.word neg ((p + 1074).toNat * 4503599627370496 + m) := by
  have hpos : 0 < 2 ^ d := Nat.two_pow_pos _
  unfold Ieee.Format.nearest
  rw [if_neg (Nat.mul_ne_zero hm (by omega)), log2_shift hm]
  have hlp : FloatKind.f64.format.leastPlace = -1074 := by decide
  have hfb : (FloatKind.f64.format.fractionBits : Int) = 52 := by decide
  have hbn : FloatKind.f64.format.binade = 4503599627370496 := by decide
  have hir : FloatKind.f64.format.infRung = 9218868437227405312 := by decide
  rw [hlp, hfb, hbn, hir]
  have hl : m.log2 < 53 := (Nat.log2_lt hm).2 (by omega)
  have hl2 : 4503599627370496 ≤ m → 52 ≤ m.log2 := fun h => (Nat.le_log2 hm).2 (by omega)
  have hmax : max (p - (d : Int) + ((m.log2 + d : Nat) : Int) - 52) (-1074) = p := by
    rcases h2 with h2 | h2
    · omega
    · have := hl2 h2
      omega
  simp only [hmax]
  have e1 : (p - (d : Int) - p).toNat = 0 := by omega
  have e2 : (p - (p - (d : Int))).toNat = d := by omega
  have e3 : (p - -1074).toNat = (p + 1074).toNat := by omega
  rw [e1, e2, e3, Nat.shiftLeft_zero]
  have hc : Ieee.Toward.even.cut neg (m * 2 ^ d) d = m := by
    unfold Ieee.Toward.cut
    dsimp only
    rw [log2_shift hm, Nat.min_eq_left (by omega), Nat.shiftLeft_eq, Nat.one_mul, Nat.mul_mod_left, Nat.mul_div_cancel _ hpos]
    have e : (decide (2 ^ d < 2 * 0) || (2 ^ d == 2 * 0 && m % 2 == 1)) = false := by
      rw [Nat.mul_zero, decide_eq_false (by omega), Bool.false_or]
      have : (2 ^ d == 0) = false := by simp
      rw [this]
      rfl
    rw [e]
    rfl
  rw [hc, Nat.min_eq_left hr]
theorem read_one : FloatKind.f64.format.read 4607182418800017408 = .number false 4503599627370496 (-52) := by decide
theorem read_nil {z : Nat} (h : mg z = 0) : FloatKind.f64.format.read z = .number (sgB z) 0 (-1074) := by
  obtain ⟨m, p, e, h1, h2, h3, h4⟩ := read_can (a := z) (by omega)
  have hm : m = 0 := by omega
  have hp : p = -1074 := by omega
  rw [e, hm, hp]
theorem mg_word0 (s : Bool) : mg (FloatKind.f64.format.word s 0) = 0 := (mg_word s 0 (by omega)).1
theorem mul_comm_fin {x y : Nat} (hx : mg x < 9218868437227405312) (hy : mg y < 9218868437227405312) : floatBits .mul .f64 x y = floatBits .mul .f64 y x := by
  have hb : ∀ x y, floatBits .mul .f64 x y = ((FloatKind.f64.format.read x).product (FloatKind.f64.format.read y)).map FloatKind.f64.format.write := fun _ _ => rfl
  obtain ⟨m, p, e, -⟩ := read_can hx
  obtain ⟨n, q, f, -⟩ := read_can hy
  rw [hb, hb, e, f]
  simp only [Ieee.Datum.product]
  rw [Nat.mul_comm, Int.add_comm, Bool.xor_comm]
theorem mul_one_fin {x : Nat} (h64 : x < 18446744073709551616) (hx : mg x < 9218868437227405312) : floatBits .mul .f64 x 4607182418800017408 = some x := by
  have hb : floatBits .mul .f64 x 4607182418800017408 = ((FloatKind.f64.format.read x).product (FloatKind.f64.format.read 4607182418800017408)).map FloatKind.f64.format.write := rfl
  obtain ⟨m, p, e, h1, h2, h3, h4⟩ := read_can hx
  rw [hb, e, read_one]
  simp only [Ieee.Datum.product, Option.map_some, Ieee.Format.write, Bool.xor_false]
  congr 1
  by_cases hm : m = 0
  · subst hm
    rw [Nat.zero_mul, near_zero]
    have : mg x = 0 := by omega
    have e2 := word_self h64
    rw [this] at e2
    exact e2
  · have := near_exact (neg := sgB x) (d := 52) hm h1 h3 h4 (by omega)
    rw [show (4503599627370496 : Nat) = 2 ^ 52 from rfl, show p + -52 = p - ((52 : Nat) : Int) by omega]
    rw [this, ← h2]
    exact word_self h64
theorem mul_nil_fin {x : Nat} (hx : mg x < 9218868437227405312) : ∃ z, floatBits .mul .f64 x 0 = some z ∧ mg z = 0 := by
  have hb : floatBits .mul .f64 x 0 = ((FloatKind.f64.format.read x).product (FloatKind.f64.format.read 0)).map FloatKind.f64.format.write := rfl
  obtain ⟨m, p, e, -⟩ := read_can hx
  rw [hb, e, read_nil (z := 0) (by decide)]
  simp only [Ieee.Datum.product, Option.map_some, Ieee.Format.write, Nat.mul_zero, near_zero]
  exact ⟨_, rfl, mg_word0 _⟩
theorem add_nil_fin {x z : Nat} (h64 : x < 18446744073709551616) (hx : mg x < 9218868437227405312) (hz : mg z = 0) : ∃ y, floatBits .add .f64 x z = some y ∧ nanB y = false ∧ sv y = sv x := by
  have hb : floatBits .add .f64 x z = ((FloatKind.f64.format.read x).sum (FloatKind.f64.format.read z)).map FloatKind.f64.format.write := rfl
  obtain ⟨m, p, e, h1, h2, h3, h4⟩ := read_can hx
  rw [hb, e, read_nil hz]
  simp only [Ieee.Datum.sum, Option.map_some, Ieee.Format.write]
  rw [show min p (-1074) = -1074 by omega]
  have e0 : Ieee.signed (sgB z) 0 ((-1074 : Int) - -1074).toNat = 0 := by unfold Ieee.signed; simp
  rw [e0, Int.add_zero, signed_up]
  by_cases hm : m = 0
  · subst hm
    rw [Nat.zero_mul]
    simp only [Int.natCast_zero, Int.neg_zero, ite_self, Int.natAbs_zero, near_zero]
    refine ⟨_, rfl, ?_, ?_⟩
    · rw [nan_rung, mg_word0]; decide
    · unfold sv
      rw [mg_word0, show mg x = 0 by omega, vl_zero]
      simp
  · have hpos : 0 < m * 2 ^ (p - -1074).toNat := Nat.mul_pos (by omega) (Nat.two_pow_pos _)
    have key : ∀ s : Bool, sgB x = s → ∃ y, some (FloatKind.f64.format.nearest (if (if s = true then -((m * 2 ^ (p - -1074).toNat : Nat) : Int) else ((m * 2 ^ (p - -1074).toNat : Nat) : Int)) = 0 then s && sgB z else decide ((if s = true then -((m * 2 ^ (p - -1074).toNat : Nat) : Int) else ((m * 2 ^ (p - -1074).toNat : Nat) : Int)) < 0)) (if s = true then -((m * 2 ^ (p - -1074).toNat : Nat) : Int) else ((m * 2 ^ (p - -1074).toNat : Nat) : Int)).natAbs (-1074)) = some y ∧ nanB y = false ∧ sv y = sv x := fun s hs => by
      have hne := near_exact (neg := s) (d := (p - -1074).toNat) hm h1 h3 h4 (by omega)
      rw [show p - (((p - -1074).toNat : Nat) : Int) = -1074 by omega, ← h2, ← hs, word_self h64, hs] at hne
      have hfin : nanB x = false := by rw [nan_rung]; exact decide_eq_false (by omega)
      cases s with
      | true =>
        rw [if_pos rfl, if_neg (by omega), decide_eq_true (by omega), Int.natAbs_neg, Int.natAbs_natCast, hne]
        exact ⟨_, rfl, hfin, rfl⟩
      | false =>
        simp only [Bool.false_eq_true, if_false]
        rw [if_neg (by omega), decide_eq_false (by omega), Int.natAbs_natCast, hne]
        exact ⟨_, rfl, hfin, rfl⟩
    exact key _ rfl
theorem sub_self_fin {x : Nat} (hx : mg x < 9218868437227405312) : floatBits .sub .f64 x x = some 0 := by
  have hb : floatBits .sub .f64 x x = ((FloatKind.f64.format.read x).sum (FloatKind.f64.format.read x).opposite).map FloatKind.f64.format.write := rfl
  obtain ⟨m, p, e, -⟩ := read_can hx
  rw [hb, e]
  simp only [Ieee.Datum.opposite, Ieee.Datum.sum, Option.map_some, Ieee.Format.write]
  rw [signed_neg]
  have e4 : Ieee.signed (sgB x) m (p - min p p).toNat + -Ieee.signed (sgB x) m (p - min p p).toNat = 0 := by omega
  rw [e4]
  simp [near_zero]
  decide
theorem fin_of_sub {x : Nat} (h : (fo (fopC .sub (cz x) (cz x)) 0 == some .eq) = true) : nanB x = false ∧ mg x < 9218868437227405312 := by
  have hN : (fo 9221120237041090561 0 == some .eq) = false := by decide
  cases hn : nanB x with
  | true =>
    exfalso
    have : fopC .sub (cz x) (cz x) = 9221120237041090561 := by
      unfold fopC
      rw [bits_nan (.inr (.inl rfl)) (.inl (by rw [nanB_cz]; exact hn))]
    rw [this, hN] at h
    cases h
  | false =>
    refine ⟨rfl, ?_⟩
    rw [cz_num hn] at h
    rw [nan_rung] at hn
    have hle : ¬ 9218868437227405312 < mg x := of_decide_eq_false hn
    rcases Nat.lt_or_ge (mg x) 9218868437227405312 with h1 | h1
    · exact h1
    · exfalso
      have hi : mg x = 9218868437227405312 := by omega
      have : fopC .sub x x = 9221120237041090561 := by
        unfold fopC
        have hb : floatBits .sub .f64 x x = ((FloatKind.f64.format.read x).sum (FloatKind.f64.format.read x).opposite).map FloatKind.f64.format.write := rfl
        rw [hb, read_inf hi]
        have e2 : (Ieee.Datum.infinity (sgB x)).sum (Ieee.Datum.infinity (sgB x)).opposite = none := by cases sgB x <;> rfl
        rw [e2]
        rfl
      rw [this, hN] at h
      cases h
theorem vl_int {M : Nat} (hM : M < 9007199254740992) {u : Nat} (hu : u = 1074) : mg (floatOfInt .f64 (M : Int)) < 9218868437227405312 ∧ sgB (floatOfInt .f64 (M : Int)) = false ∧ vl (mg (floatOfInt .f64 (M : Int))) = M * 2 ^ u := by
  by_cases h0 : M = 0
  · subst h0
    rw [show floatOfInt .f64 ((0 : Nat) : Int) = 0 by decide]
    exact ⟨by decide, by decide, by rw [show mg 0 = 0 by decide, vl_zero, Nat.zero_mul]⟩
  · have hri := read_int h0 hM
    have hl := log2_pos hM
    obtain ⟨R, hR⟩ : ∃ R, mg (floatOfInt .f64 (M : Int)) = R := ⟨_, rfl⟩
    have hRf : R < 9218868437227405312 := by
      rcases Nat.lt_or_ge R 9218868437227405312 with h | h
      · exact h
      · exfalso
        rcases Nat.lt_or_ge 9218868437227405312 R with h2 | h2
        · have hnn : nanB (floatOfInt .f64 (M : Int)) = true := by rw [nan_rung, hR, decide_eq_true h2]
          rw [nanB_iff, hri] at hnn
          cases hnn
        · have := read_inf (a := floatOfInt .f64 (M : Int)) (by omega)
          rw [hri] at this
          cases this
    obtain ⟨m', p', e', hp', hv'⟩ := read_fin (a := floatOfInt .f64 (M : Int)) (by omega)
    rw [hri] at e'
    simp only [Ieee.Datum.number.injEq] at e'
    obtain ⟨hs, rfl, rfl⟩ := e'
    refine ⟨by rw [hR]; exact hRf, hs.symm, ?_⟩
    rw [hv', Nat.mul_assoc, ← Nat.pow_add]
    congr 2
    omega
/-! ### the ends -/
theorem fopC_of {op : BinOp} {a b r : Nat} (h : floatBits op .f64 a b = some r) : fopC op a b = r := by unfold fopC; rw [h]
set_option maxRecDepth 20000 in
theorem qu_zero {M : Nat} (hM : M < 9007199254740992) : quK 0 M = 0 ∧ quI 0 M = 0 ∧ quW 0 M = 0 := by
  have e1 : quK 0 M = 0 := by
    unfold quK
    rw [mul_comm_fin (by decide) (vl_int hM rfl).1]
    have hb : floatBits .mul .f64 (floatOfInt .f64 (M : Int)) 0 = ((FloatKind.f64.format.read (floatOfInt .f64 (M : Int))).product (FloatKind.f64.format.read 0)).map FloatKind.f64.format.write := rfl
    obtain ⟨m, p, e, -⟩ := read_can (vl_int hM rfl).1
    rw [hb, e, read_nil (z := 0) (by decide), (vl_int hM rfl).2.1]
    simp only [Ieee.Datum.product, Option.map_some, Ieee.Format.write, Nat.mul_zero, near_zero]
    decide
  have e2 : quI 0 M = 0 := by
    unfold quI
    rw [e1]
    decide
  refine ⟨e1, e2, ?_⟩
  unfold quW
  rw [e1, e2]
  decide
theorem int64_lt (M : Nat) (hM : M < 9007199254740992) : floatOfInt .f64 (M : Int) < 18446744073709551616 := by
  by_cases h0 : M = 0
  · subst h0; decide
  · have h := (vl_int hM rfl)
    obtain ⟨h1, h2, -⟩ := h
    unfold floatOfInt FloatKind.nearest FloatKind.encode
    have hn : ¬ ((M : Int) < 0) := by omega
    simp only [hn, decide_false, Int.natAbs_natCast, Ieee.Format.write]
    unfold Ieee.Format.nearest
    rw [if_neg h0]
    unfold Ieee.Format.word
    have hir : FloatKind.f64.format.infRung = 9218868437227405312 := by decide
    rw [hir]
    simp only [Bool.false_eq_true, if_false]
    omega
theorem qu_one {M : Nat} (hM : M < 9007199254740992) : quK 4607182418800017408 M = floatOfInt .f64 (M : Int) ∧ quI 4607182418800017408 M = M ∧ quW 4607182418800017408 M = 0 := by
  obtain ⟨u, hu⟩ : ∃ u, u = 1074 := ⟨_, rfl⟩
  obtain ⟨h1, h2, h3⟩ := vl_int hM hu
  have e1 : quK 4607182418800017408 M = floatOfInt .f64 (M : Int) := by
    unfold quK
    rw [mul_comm_fin (by decide) h1, mul_one_fin (int64_lt M hM) h1]
  have e2 : quI 4607182418800017408 M = M := by
    unfold quI
    rw [e1]
    have hd : vl (mg (floatOfInt .f64 (M : Int))) / 2 ^ u = M := by rw [h3, Nat.mul_div_cancel _ (Nat.two_pow_pos _)]
    have := to_int (M := M) h1 h2 hu (by rw [hd]; exact Nat.le_refl _) (by omega)
    rw [this, hd]
    rfl
  refine ⟨e1, e2, ?_⟩
  unfold quW
  rw [e1, e2]
  have hn : nanB (floatOfInt .f64 (M : Int)) = false := by rw [nan_rung]; exact decide_eq_false (by omega)
  rw [cz_num hn]
  exact fopC_of (sub_self_fin h1)
set_option maxRecDepth 20000 in
theorem end_is {a b : Nat} (ha : a < 18446744073709551616) (h1 : mg a < 9218868437227405312) (h2 : mg b < 9218868437227405312) : nanB (fopC .add (fopC .mul (cz a) (fopC .sub (cz 4607182418800017408) 0)) (fopC .mul (cz b) 0)) = false ∧ sv (fopC .add (fopC .mul (cz a) (fopC .sub (cz 4607182418800017408) 0)) (fopC .mul (cz b) 0)) = sv a := by
  have na : nanB a = false := by rw [nan_rung]; exact decide_eq_false (by omega)
  have nb : nanB b = false := by rw [nan_rung]; exact decide_eq_false (by omega)
  have e1 : fopC .sub (cz 4607182418800017408) 0 = 4607182418800017408 := by decide
  obtain ⟨z, hz, hz0⟩ := mul_nil_fin h2
  obtain ⟨y, hy, hy1, hy2⟩ := add_nil_fin ha h1 hz0
  rw [cz_num na, cz_num nb, e1, fopC_of (mul_one_fin ha h1), fopC_of hz, fopC_of hy]
  exact ⟨hy1, hy2⟩
theorem sv_le {a b : Nat} (na : nanB a = false) (nb : nanB b = false) (h : leV a b) : sv a ≤ sv b := by
  rw [leV_iff] at h
  have hk : ¬ kyN b < kyN a := fun hk => h (.inr ⟨nb, na, hk⟩)
  have pa : ∀ x, mg x = 0 → sv x = 0 := fun x hx => by unfold sv; rw [hx, vl_zero]; simp
  unfold kyN at hk
  by_cases za : mg a = 0 <;> by_cases zb : mg b = 0
  · rw [pa a za, pa b zb]; omega
  · rw [if_pos za, if_neg zb] at hk; rw [pa a za]; split at hk <;> omega
  · rw [if_neg za, if_pos zb] at hk; rw [pa b zb]; split at hk <;> omega
  · rw [if_neg za, if_neg zb] at hk; omega
theorem fo_of_sv {v r x : Nat} (h1 : cz v = r) (h2 : nanB r = false) (h3 : nanB x = false) (h4 : sv r = sv x) : (fo v x == some .eq) = true := by
  have : fo v x = fo r x := by
    have := fo_cz v x
    rw [h1, cz_num h3] at this
    exact this.symm
  rw [this, fo_sv h2 h3, h4, cmp_self]
  rfl
end Go.Proofs.Ytgpednikianneaa
