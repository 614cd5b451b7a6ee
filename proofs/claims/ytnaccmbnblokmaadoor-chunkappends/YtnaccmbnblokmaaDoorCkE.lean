/-
  A chunk's samples as bits, and bits as samples: plain facts; nothing of the program is in it.
-/
import Derived.Test.YtnaccmbnblokmaaDoorCkRc
import Derived.Test.YtnaccmbnblokmaaDoorCkU
import Derived.Lib.BitFns
import Derived.Lib.ItoaNum
import Derived.Lib.TrailingZeros
namespace Go.Proofs.YtnaccmbnblokmaaDoor
open Go.RowKit

/-! ### a sample's bits -/
/-- two's complement of 64 bits -/
def U64 (d : Int) : Nat := (d % 18446744073709551616).toNat
theorem U64_lt (d : Int) : U64 d < 18446744073709551616 := by unfold U64; omega
/-- the form of how the gap has turned -/
def formN (d : Int) : Nat := if d = 0 then 0 else if -8192 < d ∧ d ≤ 8192 then 1 else if -65536 < d ∧ d ≤ 65536 then 2 else if -524288 < d ∧ d ≤ 524288 then 3 else 4
theorem formN_le (d : Int) : formN d ≤ 4 := by unfold formN; split <;> (try split) <;> (try split) <;> (try split) <;> omega
def headB (k : Nat) : List Bool := List.replicate k true ++ (if k < 4 then [false] else [])
def turnB (d : Int) : List Bool := headB (formN d) ++ bitsOf (U64 d % 2 ^ tw (formN d)) (tw (formN d))
theorem tw_le (k : Nat) : tw k ≤ 64 := by
  match k with
  | 0 => decide
  | 1 => decide
  | 2 => decide
  | 3 => decide
  | 4 => decide
  | k + 5 => simp [tw]
theorem headB_len {k : Nat} (h : k ≤ 4) : (headB k).length ≤ 4 := by
  unfold headB
  rw [List.length_append, List.length_replicate]
  by_cases h4 : k < 4
  · rw [if_pos h4]; simp; omega
  · rw [if_neg h4]; simp; omega
theorem turnB_len (d : Int) : (turnB d).length ≤ 68 := by
  unfold turnB
  rw [List.length_append, bitsOf_len]
  have h1 := headB_len (formN_le d)
  have h2 := tw_le (formN d)
  omega

/-- how many bits 0 a value's turned bits begin with, end with -/
def leadN (x : Nat) : Nat := min (64 - Lib.bitLen x) 31
def tailN (x : Nat) : Nat := Lib.ctz 64 x
theorem bitLen_bds {x : Nat} (h0 : x ≠ 0) (hx : x < 18446744073709551616) : 1 ≤ Lib.bitLen x ∧ 2 ^ (Lib.bitLen x - 1) ≤ x ∧ x < 2 ^ Lib.bitLen x ∧ Lib.bitLen x ≤ 64 := by
  have h := Lib.bitLenAux_bounds 64 x hx h0
  exact ⟨h.1, h.2.1, h.2.2, Lib.bitLen_le x 64 (by omega) hx⟩
theorem tail_spec {x : Nat} (h0 : x ≠ 0) (hx : x < 18446744073709551616) : ∃ m, x = 2 ^ tailN x * (2 * m + 1) ∧ tailN x < 64 := by
  unfold tailN Lib.ctz
  rw [if_neg h0]
  exact Lib.ctzFrom_spec 64 x (by omega) hx
theorem tail_le {x : Nat} (h0 : x ≠ 0) (hx : x < 18446744073709551616) : 2 ^ tailN x ≤ x := by
  obtain ⟨m, hm, _⟩ := tail_spec h0 hx
  have : 2 ^ tailN x * 1 ≤ 2 ^ tailN x * (2 * m + 1) := Nat.mul_le_mul_left _ (by omega)
  omega
theorem lead_spec {x : Nat} (h0 : x ≠ 0) (hx : x < 18446744073709551616) : x < 2 ^ (64 - leadN x) ∧ leadN x ≤ 31 ∧ tailN x < 64 - leadN x := by
  obtain ⟨h1, h2, h3, h4⟩ := bitLen_bds h0 hx
  have hl : leadN x ≤ 64 - Lib.bitLen x := Nat.min_le_left _ _
  have h31 : leadN x ≤ 31 := Nat.min_le_right _ _
  have h5 : x < 2 ^ (64 - leadN x) := Nat.lt_of_lt_of_le h3 (Nat.pow_le_pow_right (by decide) (by omega))
  refine ⟨h5, h31, ?_⟩
  have h6 := tail_le h0 hx
  exact (Nat.pow_lt_pow_iff_right (by decide : 1 < 2)).1 (Nat.lt_of_le_of_lt h6 h5)

/-- what the form of the next sample hangs on -/
structure Pst where
  n : Nat
  t : Int
  f : Nat
  gap : Int
  th : Bool
  ld : Nat
  tl : Nat
def startP : Pst := ⟨0, 0, 0, 0, false, 0, 0⟩
def fitsW (st : Pst) (x : Nat) : Bool := st.th && decide (st.ld ≤ leadN x) && decide (st.tl ≤ tailN x)
def ownB (x : Nat) : List Bool := bitsOf (leadN x) 5 ++ (bitsOf ((64 - leadN x - tailN x) % 64) 6 ++ bitsOf (x / 2 ^ tailN x) (64 - leadN x - tailN x))
def turnedB (st : Pst) (x : Nat) : List Bool := if fitsW st x = true then false :: bitsOf (x / 2 ^ st.tl) (64 - st.ld - st.tl) else true :: ownB x
def valB (st : Pst) (f' : Nat) : List Bool := if st.f ^^^ f' = 0 then [false] else true :: turnedB st (st.f ^^^ f')
def valW (st : Pst) (f' : Nat) : Bool × Nat × Nat := if st.f ^^^ f' = 0 ∨ fitsW st (st.f ^^^ f') = true then (st.th, st.ld, st.tl) else (true, leadN (st.f ^^^ f'), tailN (st.f ^^^ f'))
def timB (st : Pst) (t' : Int) : List Bool := if st.n = 0 then bytesBits (uv (zz t')) else if st.n = 1 then bytesBits (uv (t' - st.t).toNat) else turnB (t' - st.t - st.gap)
def smpB (st : Pst) (t' : Int) (f' : Nat) : List Bool := timB st t' ++ (if st.n = 0 then bitsOf f' 64 else valB st f')
def smpW (st : Pst) (f' : Nat) : Bool × Nat × Nat := if st.n = 0 then (st.th, st.ld, st.tl) else valW st f'
def nextP (st : Pst) (t' : Int) (f' : Nat) : Pst := ⟨st.n + 1, t', f', t' - st.t, (smpW st f').1, (smpW st f').2.1, (smpW st f').2.2⟩
/-- a state that can be -/
structure OkP (st : Pst) : Prop where
  most : st.n ≤ 120
  time : 0 ≤ st.t ∧ st.t ≤ 1125899906842624
  bits : st.f < 18446744073709551616
  gap : -1125899906842624 ≤ st.gap ∧ st.gap ≤ 1125899906842624
  win : st.ld ≤ 31 ∧ st.ld + st.tl < 64
theorem startOk : OkP startP := ⟨by decide, by decide, by decide, by decide, by decide⟩
theorem xor_lt {a b : Nat} (ha : a < 18446744073709551616) (hb : b < 18446744073709551616) : a ^^^ b < 18446744073709551616 := Nat.xor_lt_two_pow (n := 64) ha hb
theorem smpW_ok {st : Pst} (h : OkP st) {f' : Nat} (hf : f' < 18446744073709551616) : (smpW st f').2.1 ≤ 31 ∧ (smpW st f').2.1 + (smpW st f').2.2 < 64 := by
  unfold smpW
  split
  · exact h.win
  · unfold valW
    split
    · exact h.win
    · rename_i hn
      have hn0 : st.f ^^^ f' ≠ 0 := fun e => hn (.inl e)
      have := lead_spec hn0 (xor_lt h.bits hf)
      exact ⟨this.2.1, by show leadN _ + tailN _ < 64; omega⟩
theorem nextOk {st : Pst} (h : OkP st) {t' : Int} {f' : Nat} (hn : st.n < 120) (ht : 0 ≤ t' ∧ t' ≤ 1125899906842624) (hf : f' < 18446744073709551616) : OkP (nextP st t' f') :=
  ⟨by show st.n + 1 ≤ 120; omega, ht, hf, by have := h.time; show -1125899906842624 ≤ t' - st.t ∧ t' - st.t ≤ 1125899906842624; omega, smpW_ok h hf⟩
theorem valB_len (st : Pst) (f' : Nat) : (valB st f').length ≤ 77 := by
  unfold valB
  split
  · simp
  · unfold turnedB
    split
    · simp only [List.length_cons, bitsOf_len]; omega
    · unfold ownB
      simp only [List.length_cons, List.length_append, bitsOf_len]
      omega
theorem uv_len_of {n : Nat} (h : n < 18446744073709551616) : (uv n).length ≤ 10 := by
  have := uv_len64 (BitVec.ofNat 64 n)
  rwa [BitVec.toNat_ofNat, Nat.mod_eq_of_lt h] at this
theorem timB_len {st : Pst} (h : OkP st) {t' : Int} (ht : 0 ≤ t' ∧ t' ≤ 1125899906842624) : (timB st t').length ≤ 80 := by
  unfold timB
  split
  · rw [bytesBits_len]
    have := uv_len_of (n := zz t') (by unfold zz; split <;> omega)
    omega
  · split
    · rw [bytesBits_len]
      have := uv_len_of (n := (t' - st.t).toNat) (by have := h.time; omega)
      omega
    · have := turnB_len (t' - st.t - st.gap)
      omega
theorem smpB_len {st : Pst} (h : OkP st) {t' : Int} (ht : 0 ≤ t' ∧ t' ≤ 1125899906842624) (f' : Nat) : (smpB st t' f').length ≤ 160 := by
  unfold smpB
  rw [List.length_append]
  have h1 := timB_len h ht
  split
  · rw [bitsOf_len]; omega
  · have := valB_len st f'
    omega

/-! ### many samples -/
abbrev SmpT := Int × Nat
def stA (st : Pst) : List SmpT → Pst
  | [] => st
  | x :: l => stA (nextP st x.1 x.2) l
def encB (st : Pst) : List SmpT → List Bool
  | [] => []
  | x :: l => smpB st x.1 x.2 ++ encB (nextP st x.1 x.2) l
theorem stA_snoc (st : Pst) (l : List SmpT) (x : SmpT) : stA st (l ++ [x]) = nextP (stA st l) x.1 x.2 := by
  induction l generalizing st with
  | nil => rfl
  | cons y l ih => exact ih _
theorem encB_snoc (st : Pst) (l : List SmpT) (x : SmpT) : encB st (l ++ [x]) = encB st l ++ smpB (stA st l) x.1 x.2 := by
  induction l generalizing st with
  | nil => simp [encB, stA]
  | cons y l ih => simp only [List.cons_append, encB, stA, ih, List.append_assoc]
/-- what Append answers -/
def wrongN (st : Pst) (t : Int) : Int := if t < 0 ∨ 1125899906842624 < t then 1 else if 0 < st.n ∧ t ≤ st.t then 90 else if st.n = 120 then 8 else 0
theorem wrongN_ok {st : Pst} {t : Int} (h : wrongN st t = 0) (hm : st.n ≤ 120) : (0 ≤ t ∧ t ≤ 1125899906842624) ∧ (st.n = 0 ∨ st.t < t) ∧ st.n < 120 := by
  unfold wrongN at h
  split at h
  · cases h
  · split at h
    · cases h
    · split at h
      · cases h
      · omega
/-- samples that can stand behind a state -/
def okL (st : Pst) : List SmpT → Prop
  | [] => True
  | x :: l => wrongN st x.1 = 0 ∧ x.2 < 18446744073709551616 ∧ okL (nextP st x.1 x.2) l
theorem okL_snoc {st : Pst} {l : List SmpT} {x : SmpT} : okL st (l ++ [x]) ↔ okL st l ∧ wrongN (stA st l) x.1 = 0 ∧ x.2 < 18446744073709551616 := by
  induction l generalizing st with
  | nil => simp [okL, stA]
  | cons y l ih =>
    simp only [List.cons_append, okL, stA, ih]
    constructor
    · rintro ⟨a, b, c, d⟩; exact ⟨⟨a, b, c⟩, d⟩
    · rintro ⟨⟨a, b, c⟩, d⟩; exact ⟨a, b, c, d⟩
theorem stA_ok {st : Pst} (h : OkP st) : ∀ {l : List SmpT}, okL st l → OkP (stA st l) := by
  intro l
  induction l generalizing st with
  | nil => intro _; exact h
  | cons x l ih =>
    rintro ⟨h1, h2, h3⟩
    have := wrongN_ok h1 h.most
    exact ih (nextOk h this.2.2 this.1 h2) h3
theorem stA_n (st : Pst) (l : List SmpT) : (stA st l).n = st.n + l.length := by
  induction l generalizing st with
  | nil => rfl
  | cons x l ih => rw [stA, ih]; show st.n + 1 + l.length = _; simp; omega
theorem encB_len {st : Pst} (h : OkP st) : ∀ {l : List SmpT}, okL st l → (encB st l).length ≤ 160 * l.length := by
  intro l
  induction l generalizing st with
  | nil => intro _; simp [encB]
  | cons x l ih =>
    rintro ⟨h1, h2, h3⟩
    have := wrongN_ok h1 h.most
    have h4 := ih (nextOk h this.2.2 this.1 h2) h3
    have h5 := smpB_len h this.1 x.2
    rw [encB, List.length_append, List.length_cons]
    omega
end Go.Proofs.YtnaccmbnblokmaaDoor
