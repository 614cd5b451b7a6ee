/-
  A frame that is read, and frames one behind the other: the plain facts.
-/
import Derived.Test.YtfggcmkoihemoaaDoorRefU
namespace Go.Proofs.YtfggcmkoihemoaaDoor
open Go.RowKit

theorem rdU_ok : ∀ (l : List UInt8) (i acc n k : Nat), i ≤ 9 → acc < 128 ^ i → rdU l i acc = .ok (n, k) → n < 18446744073709551616 ∧ i < k ∧ k ≤ i + l.length ∧ k ≤ 10 := by
  intro l
  induction l with
  | nil => intro i acc n k _ _ h; simp [rdU] at h
  | cons c t ih =>
    intro i acc n k hi ha h
    rw [rdU] at h
    by_cases h1 : i = 9 ∧ 1 < c.toNat
    · rw [if_pos h1] at h; simp at h
    · rw [if_neg h1] at h
      by_cases h2 : c.toNat < 128
      · rw [if_pos h2] at h
        by_cases h3 : c.toNat = 0 ∧ 0 < i
        · rw [if_pos h3] at h; simp at h
        · rw [if_neg h3] at h
          simp only [Except.ok.injEq, Prod.mk.injEq] at h
          obtain ⟨rfl, rfl⟩ := h
          have hl := mul_lt (y := c.toNat) hi h2 (by omega)
          have hp : (128 : Nat) ^ i ≤ 128 ^ 9 := Nat.pow_le_pow_right (by decide) hi
          have e : acc ||| c.toNat * 128 ^ i = acc + c.toNat * 128 ^ i := by
            rw [pow7] at ha ⊢
            rw [Nat.or_comm, Nat.mul_comm, ← Nat.two_pow_add_eq_or_of_lt ha]
            omega
          have h9 : (128 : Nat) ^ 9 = 9223372036854775808 := by decide
          refine ⟨?_, by omega, by simp, by omega⟩
          rw [← e]
          exact Nat.or_lt_two_pow (n := 64) (by omega) hl
      · rw [if_neg h2] at h
        have hi9 : i ≠ 9 := by omega
        have := ih (i + 1) _ n k (by omega) (acc_lt ha (by omega)) h
        simp only [List.length_cons]
        omega

/-- what a number that is read is within -/
theorem uSpec_ok {l : List UInt8} {a : Int} (h : (uSpec l a).2.2 = 0) : ∃ n k : Nat, uSpec l a = (n, (k : Int), 0) ∧ n < 18446744073709551616 ∧ 0 ≤ a ∧ a < (k : Int) ∧ k ≤ l.length := by
  unfold uSpec at h ⊢
  by_cases h1 : a < 0 ∨ (l.length : Int) < a
  · rw [if_pos h1] at h; simp at h
  · rw [if_neg h1] at h ⊢
    cases hr : rdU (l.drop a.toNat) 0 0 with
    | error e =>
      exfalso
      rw [hr] at h
      simp only [uRes] at h
      subst h
      have : ∀ (t : List UInt8) (i acc : Nat), rdU t i acc ≠ .error 0 := by
        intro t
        induction t with
        | nil => intro i acc h; simp [rdU] at h
        | cons c t ih =>
          intro i acc h
          rw [rdU] at h
          split at h
          · simp at h
          · split at h
            · split at h
              · simp at h
              · simp at h
            · exact ih _ _ h
      exact this _ _ _ hr
    | ok x =>
      obtain ⟨n, k⟩ := x
      have := rdU_ok _ 0 0 n k (by omega) (by decide) hr
      simp only [List.length_drop] at this
      refine ⟨n, a.toNat + k, ?_, this.1, by omega, by omega, by omega⟩
      simp only [uRes, Prod.mk.injEq, true_and, and_true]
      omega

/-- the sum that stands at a place -/
def s4 (l : List UInt8) (k : Nat) : Nat := (l.getD k 0).toNat + (l.getD (k + 1) 0).toNat * 256 + (l.getD (k + 2) 0).toNat * 65536 + (l.getD (k + 3) 0).toNat * 16777216
theorem or4 {b0 b1 b2 b3 : Nat} (h0 : b0 < 256) (h1 : b1 < 256) (h2 : b2 < 256) (h3 : b3 < 256) :
    bits .or .u32 (bits .or .u32 (bits .or .u32 (b0 : Int) ((b1 : Int) * 256)) ((b2 : Int) * 65536)) ((b3 : Int) * 16777216) = I32 (BitVec.ofNat 32 (b0 + b1 * 256 + b2 * 65536 + b3 * 16777216)) := by
  have e1 : ((b1 : Int) * 256) = ((b1 * 256 : Nat) : Int) := by omega
  have e2 : ((b2 : Int) * 65536) = ((b2 * 65536 : Nat) : Int) := by omega
  have e3 : ((b3 : Int) * 16777216) = ((b3 * 16777216 : Nat) : Int) := by omega
  have j1 : b0 ||| b1 * 256 = b0 + b1 * 256 := by rw [Nat.or_comm, nat_join 8 _ _ (by omega) (by omega)]; omega
  have j2 : (b0 + b1 * 256) ||| b2 * 65536 = b0 + b1 * 256 + b2 * 65536 := by rw [Nat.or_comm, nat_join 16 _ _ (by omega) (by omega)]; omega
  have j3 : (b0 + b1 * 256 + b2 * 65536) ||| b3 * 16777216 = b0 + b1 * 256 + b2 * 65536 + b3 * 16777216 := by rw [Nat.or_comm, nat_join 24 _ _ (by omega) (by omega)]; omega
  rw [e1, e2, e3, u32_or_nat _ _ (by omega) (by omega), j1, u32_or_nat _ _ (by omega) (by omega), j2, u32_or_nat _ _ (by omega) (by omega), j3]
  simp only [I32, BitVec.toNat_ofNat]
  omega

/-- a frame that is read -/
def fSpec (l : List UInt8) (a : Int) : Except Int (List UInt8 × Nat) :=
  if (uSpec l a).2.2 ≠ 0 then .error (uSpec l a).2.2
  else if 65536 < (uSpec l a).1 then .error 4
  else if l.length < (uSpec l a).2.1.toNat + ((uSpec l a).1 + 4) then .error 9
  else if crc ((l.drop ((uSpec l a).2.1.toNat + 4)).take (uSpec l a).1) ≠ BitVec.ofNat 32 (s4 l (uSpec l a).2.1.toNat) then .error 11
  else .ok ((l.drop ((uSpec l a).2.1.toNat + 4)).take (uSpec l a).1, (uSpec l a).2.1.toNat + 4 + (uSpec l a).1)

/-- its five ways -/
theorem fSpec_cases (l : List UInt8) (a : Int) :
    ((uSpec l a).2.2 ≠ 0 ∧ fSpec l a = .error (uSpec l a).2.2) ∨
    ∃ n k : Nat, uSpec l a = (n, (k : Int), 0) ∧ 0 ≤ a ∧ a < (k : Int) ∧ k ≤ l.length ∧ n < 18446744073709551616 ∧
      ((65536 < n ∧ fSpec l a = .error 4) ∨ (n ≤ 65536 ∧ l.length < k + (n + 4) ∧ fSpec l a = .error 9) ∨
       (n ≤ 65536 ∧ k + (n + 4) ≤ l.length ∧ crc ((l.drop (k + 4)).take n) ≠ BitVec.ofNat 32 (s4 l k) ∧ fSpec l a = .error 11) ∨
       (n ≤ 65536 ∧ k + (n + 4) ≤ l.length ∧ crc ((l.drop (k + 4)).take n) = BitVec.ofNat 32 (s4 l k) ∧ fSpec l a = .ok ((l.drop (k + 4)).take n, k + 4 + n))) := by
  by_cases h : (uSpec l a).2.2 = 0
  · obtain ⟨n, k, hu, hn, h0, h1, h2⟩ := uSpec_ok h
    refine .inr ⟨n, k, hu, h0, h1, h2, hn, ?_⟩
    unfold fSpec
    simp only [hu, Int.toNat_natCast, ne_eq, not_true_eq_false, if_false]
    by_cases c1 : 65536 < n
    · exact .inl ⟨c1, by rw [if_pos c1]⟩
    · by_cases c2 : l.length < k + (n + 4)
      · exact .inr (.inl ⟨by omega, c2, by rw [if_neg c1, if_pos c2]⟩)
      · by_cases c3 : crc ((l.drop (k + 4)).take n) = BitVec.ofNat 32 (s4 l k)
        · exact .inr (.inr (.inr ⟨by omega, by omega, c3, by rw [if_neg c1, if_neg c2, if_neg (by simpa using c3)]⟩))
        · exact .inr (.inr (.inl ⟨by omega, by omega, c3, by rw [if_neg c1, if_neg c2, if_pos c3]⟩))
  · exact .inl ⟨h, by unfold fSpec; rw [if_pos h]⟩
theorem fSpec_ok {l : List UInt8} {a : Int} {q : List UInt8} {k : Nat} (h : fSpec l a = .ok (q, k)) : 0 ≤ a ∧ a + 5 ≤ (k : Int) ∧ k ≤ l.length ∧ q.length ≤ 65536 ∧ q.length ≤ l.length := by
  rcases fSpec_cases l a with ⟨-, h1⟩ | ⟨n, m, hu, h0, h1, h2, hn, h3⟩
  · rw [h1] at h; cases h
  · rcases h3 with ⟨-, e⟩ | ⟨-, -, e⟩ | ⟨-, -, -, e⟩ | ⟨g1, g2, -, e⟩
    · rw [e] at h; cases h
    · rw [e] at h; cases h
    · rw [e] at h; cases h
    · rw [e] at h
      simp only [Except.ok.injEq, Prod.mk.injEq] at h
      obtain ⟨rfl, rfl⟩ := h
      simp only [List.length_take, List.length_drop]
      omega
theorem fSpec_err {l : List UInt8} {a e : Int} (h : fSpec l a = .error e) : e ≠ 0 := by
  rcases fSpec_cases l a with ⟨h0, h1⟩ | ⟨n, m, hu, h0, h1, h2, hn, h3⟩
  · rw [h1] at h; cases h; exact h0
  · rcases h3 with ⟨-, e'⟩ | ⟨-, -, e'⟩ | ⟨-, -, -, e'⟩ | ⟨-, -, -, e'⟩
    · rw [e'] at h; cases h; decide
    · rw [e'] at h; cases h; decide
    · rw [e'] at h; cases h; decide
    · rw [e'] at h; cases h

/-- frames one behind the other -/
def frs (l : List UInt8) : Nat → Nat → List (List UInt8) → List (List UInt8) × Nat × Int
  | 0, p, acc => (acc, p, 0)
  | f + 1, p, acc => if p < l.length then (match fSpec l (p : Int) with | .ok (q, k) => frs l f k (acc ++ [q]) | .error e => (acc, p, e)) else (acc, p, 0)
def frames (l : List UInt8) : List (List UInt8) × Nat × Int := frs l (l.length + 1) 0 []
theorem frs_end {l : List UInt8} {f p : Nat} {acc : List (List UInt8)} (h : ¬ p < l.length) : frs l f p acc = (acc, p, 0) := by
  cases f with
  | zero => rfl
  | succ f => rw [frs, if_neg h]
theorem frs_err {l : List UInt8} {f p : Nat} {acc : List (List UInt8)} {e : Int} (hf : l.length - p < f) (h : p < l.length) (he : fSpec l (p : Int) = .error e) : frs l f p acc = (acc, p, e) := by
  cases f with
  | zero => omega
  | succ f => rw [frs, if_pos h, he]
theorem frs_ok {l : List UInt8} {f p k : Nat} {acc : List (List UInt8)} {q : List UInt8} (hf : l.length - p < f) (h : p < l.length) (he : fSpec l (p : Int) = .ok (q, k)) : ∃ f', l.length - k < f' ∧ frs l f p acc = frs l f' k (acc ++ [q]) := by
  cases f with
  | zero => omega
  | succ f =>
    have := fSpec_ok he
    exact ⟨f, by omega, by rw [frs, if_pos h, he]⟩
end Go.Proofs.YtfggcmkoihemoaaDoor
