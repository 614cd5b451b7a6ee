/-
  Forms there and back; which form is longer: plain facts.
-/
import Derived.Test.YtgbpnkamamafjabDoorBitsE6
import Derived.Test.YtgbpnkamamafjabDoorBitsR3
namespace Go.Proofs.YtgbpnkamamafjabDoor
open Go.RowKit

theorem rowFrom_fits (n : Int) : ∀ f r q, rowFrom n f r = q → q < r + f → fitsR n q = true := by
  intro f
  induction f with
  | zero => intro r q h hq; simp [rowFrom] at h; omega
  | succ f ih =>
    intro r q h hq
    rw [rowFrom] at h
    split at h
    · rename_i hf
      subst h
      exact hf
    · exact ih (r + 1) q h (by omega)
theorem rowN_fits {n : Int} (h : rowN n < 8) : fitsR n (rowN n) = true := rowFrom_fits n 8 0 _ rfl (by omega)
theorem rowFrom_first (n : Int) : ∀ f r q, r ≤ q → q < r + f → fitsR n q = true → rowFrom n f r ≤ q := by
  intro f
  induction f with
  | zero => intro r q h1 h2; omega
  | succ f ih =>
    intro r q h1 h2 hf
    rw [rowFrom]
    split
    · exact h1
    · rename_i hn
      refine ih (r + 1) q ?_ (by omega) hf
      by_cases e : r = q
      · subst e; exact absurd hf hn
      · omega
theorem rowN_first {n : Int} {q : Nat} (hq : q < 8) (h : fitsR n q = true) : rowN n ≤ q := rowFrom_first n 8 0 q (by omega) (by omega) h
theorem half_pos : ∀ q : Fin 8, 0 < q.val → 0 < half q.val := by decide
theorem fits_mono {n m : Int} {q : Nat} (hq : q < 8) (h : (0 ≤ n ∧ n ≤ m) ∨ (m ≤ n ∧ n ≤ 0)) (hf : fitsR m q = true) : fitsR n q = true := by
  unfold fitsR at hf ⊢
  by_cases h0 : q = 0
  · rw [if_pos h0] at hf ⊢
    have : m = 0 := by simpa using hf
    have : n = 0 := by omega
    simp [this]
  · rw [if_neg h0] at hf ⊢
    have hp := half_pos ⟨q, hq⟩ (by show 0 < q; omega)
    simp only at hp
    have hf2 := of_decide_eq_true hf
    exact decide_eq_true (by omega)
theorem rowN_mono {n m : Int} (h : (0 ≤ n ∧ n ≤ m) ∨ (m ≤ n ∧ n ≤ 0)) : rowN n ≤ rowN m := by
  by_cases h8 : rowN m < 8
  · exact rowN_first h8 (fits_mono h8 h (rowN_fits h8))
  · have := rowN_le n
    omega
theorem size_mono : ∀ a b : Fin 9, a.val ≤ b.val → hb a.val + wd a.val ≤ hb b.val + wd b.val := by decide
theorem form_mono {n m : Int} (x y : BitVec 64) (h : (0 ≤ n ∧ n ≤ m) ∨ (m ≤ n ∧ n ≤ 0)) : (form n x).length ≤ (form m y).length := by
  rw [form_len, form_len]
  exact size_mono ⟨rowN n, by have := rowN_le n; omega⟩ ⟨rowN m, by have := rowN_le m; omega⟩ (rowN_mono h)

theorem half_wd : ∀ q : Fin 8, 0 < q.val → half q.val = ((2 ^ (wd q.val - 1) : Nat) : Int) ∧ ((2 ^ wd q.val : Nat) : Int) = 2 * half q.val ∧ wd q.val ≠ 64 ∧ wd q.val ≠ 0 := by decide +kernel
/-- what a row's bits say stands in that row -/
theorem num_fits {v r : Nat} (hr : r < 8) (hv : v < 2 ^ wd r) : fitsR (numN v (wd r)) r = true := by
  unfold fitsR
  by_cases h0 : r = 0
  · subst h0
    have hw : wd 0 = 0 := rfl
    rw [hw, Nat.pow_zero] at hv
    rw [if_pos rfl, hw]
    have : v = 0 := by omega
    subst this
    unfold numN
    rw [if_neg (by decide), if_pos (Or.inl rfl)]
    rfl
  · rw [if_neg h0]
    obtain ⟨h1, h2, h3, h4⟩ := half_wd ⟨r, hr⟩ (by show 0 < r; omega)
    have hp := half_pos ⟨r, hr⟩ (by show 0 < r; omega)
    simp only at h1 h2 h3 h4 hp
    have hv2 : (v : Int) < ((2 ^ wd r : Nat) : Int) := Int.ofNat_lt.2 hv
    unfold numN
    rw [if_neg h3]
    by_cases hc : v ≤ 2 ^ (wd r - 1)
    · rw [if_pos (Or.inr hc)]
      have := Int.ofNat_le.2 hc
      exact decide_eq_true (by omega)
    · rw [if_neg (by rintro (h | h); exact h4 h; exact hc h)]
      have : ((2 ^ (wd r - 1) : Nat) : Int) < (v : Int) := Int.ofNat_lt.2 (by omega)
      exact decide_eq_true (by omega)
theorem num_row {v r : Nat} (hr : r ≤ 8) (hv : v < 2 ^ wd r) : rowN (numN v (wd r)) ≤ r := by
  by_cases h8 : r < 8
  · exact rowN_first h8 (num_fits h8 hv)
  · have := rowN_le (numN v (wd r))
    omega
theorem wrap64_bd (z : Int) : -9223372036854775808 ≤ wrap64 z ∧ wrap64 z ≤ 9223372036854775807 := by
  unfold wrap64
  omega
theorem fits_bd {n : Int} {r : Nat} (hr : r < 8) (h : fitsR n r = true) : -9223372036854775808 ≤ n ∧ n ≤ 9223372036854775807 := by
  have hh : ∀ q : Fin 8, half q.val ≤ 36028797018963968 := by decide
  have h1 := hh ⟨r, hr⟩
  simp only at h1
  unfold fitsR at h
  by_cases h0 : r = 0
  · rw [if_pos h0] at h
    have : n = 0 := by simpa using h
    omega
  · rw [if_neg h0] at h
    have h2 := of_decide_eq_true h
    omega
theorem num_bd {v r : Nat} (hr : r ≤ 8) (hv : v < 2 ^ wd r) : -9223372036854775808 ≤ numN v (wd r) ∧ numN v (wd r) ≤ 9223372036854775807 := by
  by_cases h8 : r < 8
  · exact fits_bd h8 (num_fits h8 hv)
  · obtain rfl : r = 8 := by omega
    have hw : wd 8 = 64 := rfl
    rw [hw]
    unfold numN
    rw [if_pos rfl]
    exact wrap64_bd _
theorem natCast_mod_pow (n : Int) (k : Nat) (hk : k ≤ 64) (x : BitVec 64) (hx : IntKind.u64.wrap n = I64 x) : ((x.toNat % 2 ^ k : Nat) : Int) = n % ((2 ^ k : Nat) : Int) := by
  rw [IntKind.wrap_u64] at hx
  unfold I64 at hx
  rw [Int.natCast_emod, ← hx]
  have e : (18446744073709551616 : Int) = ((2 ^ 64 : Nat) : Int) := by decide +kernel
  rw [e]
  exact Int.emod_emod_of_dvd n (Int.natCast_dvd_natCast.2 (Nat.pow_dvd_pow 2 hk))
/-- the lowest bits of a number that stands in a row say that number -/
theorem num_back {n : Int} {x : BitVec 64} (hx : IntKind.u64.wrap n = I64 x) (hl : -9223372036854775808 ≤ n) (hh : n ≤ 9223372036854775807) : numN (x.toNat % 2 ^ wd (rowN n)) (wd (rowN n)) = n := by
  have hm := natCast_mod_pow n (wd (rowN n)) (wd_le _) x hx
  have hr := rowN_le n
  by_cases h8 : rowN n < 8
  · have hf := rowN_fits h8
    generalize rowN n = r at *
    unfold fitsR at hf
    by_cases h0 : r = 0
    · subst h0
      rw [if_pos rfl] at hf
      have hn : n = 0 := by simpa using hf
      have hw : wd 0 = 0 := rfl
      rw [hw, Nat.pow_zero, Nat.mod_one]
      unfold numN
      rw [if_neg (by decide), if_pos (Or.inl rfl), hn]
      rfl
    · rw [if_neg h0] at hf
      have hf2 := of_decide_eq_true hf
      obtain ⟨h1, h2, h3, h4⟩ := half_wd ⟨r, h8⟩ (by show 0 < r; omega)
      have hp := half_pos ⟨r, h8⟩ (by show 0 < r; omega)
      simp only at h1 h2 h3 h4 hp
      unfold numN
      rw [if_neg h3]
      generalize hP : ((2 ^ wd r : Nat) : Int) = P at *
      by_cases hn : 0 ≤ n
      · have hv : ((x.toNat % 2 ^ wd r : Nat) : Int) = n := by rw [hm]; exact Int.emod_eq_of_lt hn (by omega)
        have hc : x.toNat % 2 ^ wd r ≤ 2 ^ (wd r - 1) := Int.ofNat_le.1 (by rw [hv, ← h1]; exact hf2.2)
        rw [if_pos (Or.inr hc), hv]
      · have hv : ((x.toNat % 2 ^ wd r : Nat) : Int) = n + P := by
          rw [hm, ← Int.add_emod_right]
          exact Int.emod_eq_of_lt (by omega) (by omega)
        have hc : ¬ x.toNat % 2 ^ wd r ≤ 2 ^ (wd r - 1) := by
          intro h
          have := Int.ofNat_le.2 h
          rw [hv, ← h1] at this
          omega
        rw [if_neg (by rintro (h | h); exact h4 h; exact hc h), hv]
        omega
  · have e : rowN n = 8 := by omega
    rw [e] at hm ⊢
    have hw : wd 8 = 64 := rfl
    rw [hw] at hm ⊢
    unfold numN
    rw [if_pos rfl, hm]
    have e64 : ((2 ^ 64 : Nat) : Int) = 18446744073709551616 := by decide +kernel
    rw [e64]
    unfold wrap64
    omega

/-! ### reading what was written -/
/-- these bits stand at this place -/
def At (L : List UInt8) (p s : Nat) (bs : List Bool) : Prop := p + bs.length ≤ s ∧ ∀ j, j < bs.length → ubit L (p + j) = bs.getD j false
theorem At.app {L : List UInt8} {p s : Nat} {a b : List Bool} (h : At L p s (a ++ b)) : At L p s a ∧ At L (p + a.length) s b := by
  obtain ⟨h1, h2⟩ := h
  rw [List.length_append] at h1 h2
  refine ⟨⟨by omega, fun j hj => ?_⟩, ⟨by omega, fun j hj => ?_⟩⟩
  · rw [h2 j (by omega)]
    simp only [List.getD, List.getElem?_append_left hj]
  · rw [Nat.add_assoc, h2 (a.length + j) (by omega)]
    simp only [List.getD]
    rw [List.getElem?_append_right (by omega)]
    congr 2
    omega
theorem At.ubits {L : List UInt8} {p s : Nat} {bs : List Bool} (h : At L p s bs) : ubits L p bs.length = bs := by
  apply List.ext_getElem
  · rw [ubits_len]
  · intro i h1 h2
    simp only [Go.Proofs.YtgbpnkamamafjabDoor.ubits, List.getElem_map, List.getElem_range]
    rw [h.2 i h2]
    simp [List.getD, h2]
theorem At.pack {bs a b c : List Bool} (h : bs = a ++ (b ++ c)) : At (pack bs) a.length bs.length b := by
  subst h
  refine ⟨by simp only [List.length_append]; omega, fun j hj => ?_⟩
  rw [ubit_pack _ _ (by simp only [List.length_append]; omega)]
  simp only [List.getD]
  rw [List.getElem?_append_right (by omega), List.getElem?_append_left (by omega)]
  congr 2
  omega
theorem row_at {L : List UInt8} {p s r : Nat} (hr : r ≤ 8) (h : At L p s (bitsOf (hd r) (hb r))) : rowS L p s 8 0 = some r := by
  rw [head_bits r hr] at h
  have h1 := h.app.1
  have h2 := h.app.2
  rw [List.length_replicate] at h2
  have key : ∀ d j, j + d = r → rowS L p s (8 - j) j = some r := by
    intro d
    induction d with
    | zero =>
      intro j hj
      obtain rfl : j = r := by omega
      by_cases h8 : j < 8
      · rw [rowS_step L p s j h8]
        rw [if_pos h8] at h2
        have h3 := h2.1
        have h4 := h2.2 0 (by simp)
        simp at h3 h4
        rw [if_neg (by omega), if_neg (by rw [h4]; simp)]
      · have : 8 - j = 0 := by omega
        rw [this, rowS]
    | succ d ih =>
      intro j hj
      rw [rowS_step L p s j (by omega)]
      have h3 := h1.1
      have h4 := h1.2 j (by rw [List.length_replicate]; omega)
      rw [List.length_replicate] at h3
      have h5 : (List.replicate r true).getD j false = true := by
        simp only [List.getD]
        rw [List.getElem?_replicate, if_pos (by omega)]
        rfl
      rw [if_neg (by omega), if_pos (h4.trans h5)]
      exact ih (j + 1) (by omega)
  exact key r 0 (by omega)
theorem ri_at {L : List UInt8} {p s : Nat} {n : Int} {x : BitVec 64} (hx : IntKind.u64.wrap n = I64 x) (hl : -9223372036854775808 ≤ n) (hh : n ≤ 9223372036854775807) (h : At L p s (form n x)) :
    riS L p s = (n, 0, p + (form n x).length) := by
  have hlen := form_len n x
  unfold form at h
  have h1 := h.app.1
  have h2 := h.app.2
  rw [bitsOf_len] at h2
  have hr := row_at (rowN_le n) h1
  have hu := h2.ubits
  rw [bitsOf_len] at hu
  have hs := h.1
  rw [List.length_append, bitsOf_len, bitsOf_len] at hs
  unfold riS
  rw [hr]
  simp only
  rw [hu, natOf_bitsOf, num_back hx hl hh, if_neg (by omega), if_neg (by omega), hlen]
/-- what is read has that form's length -/
theorem ri_len {L : List UInt8} {p s : Nat} {k : Int} {q : Nat} (h : riS L p s = (k, 0, q)) (y : BitVec 64) : q = p + (form k y).length ∧ q ≤ s ∨ s < p := by
  unfold riS at h
  cases hr : rowS L p s 8 0 with
  | none => rw [hr] at h; simp at h
  | some r =>
    rw [hr] at h
    simp only at h
    have hr8 := (rowS_le L p s 8 0 r hr).2
    split at h
    · simp at h
    · split at h
      · simp at h
      · rename_i hn1 hn2
        simp only [Prod.mk.injEq, true_and] at h
        obtain ⟨rfl, rfl⟩ := h
        have hv : natOf (ubits L (p + hb r) (wd r)) < 2 ^ wd r := by have := natOf_lt (ubits L (p + hb r) (wd r)); rw [ubits_len] at this; exact this
        have hro := num_row (r := r) (by omega) hv
        have e : rowN (numN (natOf (ubits L (p + hb r) (wd r))) (wd r)) = r := by omega
        rw [form_len, e]
        by_cases hps : s < p
        · exact .inr hps
        · exact .inl ⟨rfl, by omega⟩
theorem ri_bd {L : List UInt8} {p s : Nat} {k : Int} {q : Nat} (h : riS L p s = (k, 0, q)) : -9223372036854775808 ≤ k ∧ k ≤ 9223372036854775807 := by
  unfold riS at h
  cases hr : rowS L p s 8 0 with
  | none => rw [hr] at h; simp at h
  | some r =>
    rw [hr] at h
    simp only at h
    have hr8 := (rowS_le L p s 8 0 r hr).2
    split at h
    · simp at h
    · split at h
      · simp at h
      · simp only [Prod.mk.injEq, true_and] at h
        obtain ⟨rfl, rfl⟩ := h
        have hv : natOf (ubits L (p + hb r) (wd r)) < 2 ^ wd r := by have := natOf_lt (ubits L (p + hb r) (wd r)); rw [ubits_len] at this; exact this
        exact num_bd (r := r) (by omega) hv
theorem ri_err {L : List UInt8} {p s : Nat} (h : (riS L p s).2.1 ≠ 0) : (riS L p s).2.2 = p := by
  unfold riS at h ⊢
  cases hr : rowS L p s 8 0 with
  | none => rfl
  | some r =>
    rw [hr] at h
    simp only at h ⊢
    split
    · rfl
    · rename_i h1
      rw [if_neg h1] at h
      split
      · rfl
      · rename_i h2
        rw [if_neg h2] at h
        exact absurd rfl h
end Go.Proofs.YtgbpnkamamafjabDoor
