/-
  VintBack, the plain facts: what was put is read again; what is read as a number is the number's one form.
-/
import Derived.Test.YtfggcmkoihemoaaDoorTorn
import Derived.Test.YtfggcmkoihemoaaDoorU8Text
namespace Go.Proofs.YtfggcmkoihemoaaDoor
open Go.RowKit Go.Lib

theorem rdU_back : ∀ (t : List UInt8) (i acc n k : Nat), rdU t i acc = .ok (n, k) → ∃ m, n = acc + m * 128 ^ i ∧ (0 < i → m ≠ 0) ∧ i < k ∧ uv m = t.take (k - i) := by
  intro t
  induction t with
  | nil => intro i acc n k h; simp [rdU] at h
  | cons c t ih =>
    intro i acc n k h
    rw [rdU] at h
    have hc := c.toNat_lt
    split at h
    · cases h
    · split at h
      · rename_i h2
        split at h
        · cases h
        · rename_i h3
          simp only [Except.ok.injEq, Prod.mk.injEq] at h
          obtain ⟨rfl, rfl⟩ := h
          refine ⟨c.toNat, rfl, fun hi h0 => h3 ⟨h0, hi⟩, by omega, ?_⟩
          rw [uv_small h2, show i + 1 - i = 1 by omega]
          simp
      · rename_i h2
        obtain ⟨m, h4, h5, h6, h7⟩ := ih _ _ _ _ h
        have hm := h5 (by omega)
        have hd : (c.toNat % 128 + 128 * m) / 128 = m := by omega
        refine ⟨c.toNat % 128 + 128 * m, ?_, fun _ => by omega, by omega, ?_⟩
        · rw [h4, Nat.pow_succ, Nat.add_mul]
          have : m * (128 ^ i * 128) = 128 * m * 128 ^ i := by rw [← Nat.mul_assoc, Nat.mul_right_comm, Nat.mul_comm m 128]
          omega
        · rw [uv_big (by omega), hd, h7, show k - i = (k - (i + 1)) + 1 by omega, List.take_succ_cons]
          congr 1
          apply UInt8.toNat_inj.1
          rw [lowB_nat]
          omega
theorem uSpec_back {l : List UInt8} {a : Int} {n k : Nat} (h : uSpec l a = (n, (k : Int), 0)) (ha : 0 ≤ a) (hk : k ≤ l.length) (hak : a < (k : Int)) : uv n = (l.drop a.toNat).take (k - a.toNat) := by
  unfold uSpec at h
  rw [if_neg (by omega)] at h
  cases hr : rdU (l.drop a.toNat) 0 0 with
  | error e =>
    rw [hr] at h
    simp only [uRes, Prod.mk.injEq] at h
    omega
  | ok r =>
    obtain ⟨n', k'⟩ := r
    rw [hr] at h
    simp only [uRes, Prod.mk.injEq] at h
    obtain ⟨rfl, h2, -⟩ := h
    obtain ⟨m, h4, -, -, h7⟩ := rdU_back _ _ _ _ _ hr
    have : n' = m := by omega
    rw [this, h7]
    congr 1
    omega
theorem tSpec_back (l s : List UInt8) (hs : s.length < 18446744073709551616) : tSpec (l ++ uv s.length ++ s) (l.length : Int) (s.length : Int) = if validD s = false then ([], 0, 12) else (s, ((l.length + (uv s.length).length : Nat) : Int) + (s.length : Int), 0) := by
  have h := uSpec_uv l s s.length hs
  rw [← List.append_assoc] at h
  unfold tSpec
  rw [h]
  have e : ((l ++ uv s.length ++ s).drop (((l.length + (uv s.length).length : Nat) : Int)).toNat).take s.length = s := by
    rw [Int.toNat_natCast, show l.length + (uv s.length).length = (l ++ uv s.length).length by simp, List.drop_left, List.take_length]
  simp only [e]
  rw [if_neg (by simp only [List.length_append]; omega), if_neg (by simp), if_neg (by omega), if_neg (by simp only [List.length_append]; omega)]
theorem uz_zz {n : Int} (hl : -9223372036854775808 ≤ n) (hh : n ≤ 9223372036854775807) : uz (zz n) = n := by
  unfold uz zz
  split <;> split <;> omega
end Go.Proofs.YtfggcmkoihemoaaDoor
