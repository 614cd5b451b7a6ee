/-
  A duration's text is read as the duration: words alone.
-/
import Derived.Test.YtifjdfmmafbhkaaDoorLxV
import Derived.Lib.ItoaNum
import Derived.Lib.ItoaMem
import Derived.Lib.ItoaLen
namespace Go.Proofs.YtifjdfmmafbhkaaDoor
open Go.RowKit

theorem dd_pos (u : Nat) : 1 ≤ (Lib.decDigits u).length := by rw [Lib.decDigits_length]; exact Lib.nDigits_pos u
theorem dd_dig (u : Nat) : ∀ c ∈ Lib.decDigits u, dgB c.toNat = true := by
  induction u using Nat.strongRecOn with
  | ind u ih =>
    intro c hc
    rw [Lib.decDigits] at hc
    have key : ∀ d, d < 10 → dgB (UInt8.ofNat (48 + d)).toNat = true := by decide
    by_cases h : u < 10
    · rw [dif_pos h] at hc
      obtain rfl : c = UInt8.ofNat (48 + u) := by simpa using hc
      exact key u h
    · rw [dif_neg h] at hc
      rcases List.mem_append.1 hc with hc | hc
      · exact ih (u / 10) (by omega) c hc
      · obtain rfl : c = UInt8.ofNat (48 + u % 10) := by simpa using hc
        exact key _ (by omega)
theorem dd_val (u : Nat) (hu : u ≤ 1099511627776) : timA (Lib.decDigits u) 0 = (u : Int) := by
  induction u using Nat.strongRecOn with
  | ind u ih =>
    rw [Lib.decDigits]
    have key : ∀ d, d < 10 → (UInt8.ofNat (48 + d)).toNat = 48 + d := by decide
    by_cases h : u < 10
    · rw [dif_pos h]
      show min (10 * (0 : Int) + (((UInt8.ofNat (48 + u)).toNat : Int) - 48)) tooL = _
      rw [key u h]
      unfold tooL
      omega
    · rw [dif_neg h]
      have h1 := ih (u / 10) (by omega) (by omega)
      unfold timA at h1 ⊢
      rw [List.foldl_append, h1]
      show min (10 * ((u / 10 : Nat) : Int) + (((UInt8.ofNat (48 + u % 10)).toNat : Int) - 48)) tooL = _
      rw [key _ (by omega)]
      unfold tooL
      omega
theorem unG_eq (l : LxS) (frm k i : Nat) (h1 : ∀ k', i < k' → k' < k → unP l k' = false) (h2 : i < k) (h3 : frm ≤ i) (h4 : unP l i = true) : unG l frm k = i := by
  induction k with
  | zero => omega
  | succ k ih =>
    unfold unG
    by_cases c : i = k
    · subst c
      rw [if_neg (by omega), if_pos h4]
    · rw [if_neg (by omega), if_neg (by rw [h1 k (by omega) (by omega)]; simp)]
      exact ih (fun k' a b => h1 k' a (by omega)) (by omega)
theorem unS_b0 (i : Nat) (hi : i < 7) (r : LxS) : byN (unS i ++ r) 0 = (if i = 0 then 121 else if i = 1 then 119 else if i = 2 then 100 else if i = 3 then 104 else if i = 4 then 109 else if i = 5 then 115 else 109) ∧ (i = 6 → byN (unS i ++ r) 1 = 115) ∧ (i ≠ 6 → byN (unS i ++ r) 1 = byN r 0) := by
  have : i = 0 ∨ i = 1 ∨ i = 2 ∨ i = 3 ∨ i = 4 ∨ i = 5 ∨ i = 6 := by omega
  rcases this with rfl | rfl | rfl | rfl | rfl | rfl | rfl <;> refine ⟨rfl, fun h => ?_, fun h => ?_⟩ <;> first | rfl | (exact absurd h (by decide)) | (exact absurd rfl h)
theorem unG_unS (i frm : Nat) (hi : i < 7) (hf : frm ≤ i) (r : LxS) (hr : byN r 0 ≠ 115) : unG (unS i ++ r) frm 7 = i := by
  obtain ⟨h0, h1, h2⟩ := unS_b0 i hi r
  refine unG_eq _ _ _ _ (fun k' a b => ?_) hi hf ?_
  · rw [Bool.eq_false_iff]
    intro hc
    rw [unP_iff] at hc
    have : i = 0 ∨ i = 1 ∨ i = 2 ∨ i = 3 ∨ i = 4 ∨ i = 5 ∨ i = 6 := by omega
    rcases this with rfl | rfl | rfl | rfl | rfl | rfl | rfl <;> simp at h0 h1 h2 <;> omega
  · rw [unP_iff]
    have : i = 0 ∨ i = 1 ∨ i = 2 ∨ i = 3 ∨ i = 4 ∨ i = 5 ∨ i = 6 := by omega
    rcases this with rfl | rfl | rfl | rfl | rfl | rfl | rfl <;> simp at h0 h1 h2 <;> omega
theorem spS_acc (f : Nat) : ∀ (i m : Nat) (acc : LxS), spS f i m acc = acc ++ spS f i m [] := by
  induction f with
  | zero => intro i m acc; show acc = acc ++ []; simp
  | succ f ih =>
    intro i m acc
    unfold spS
    split
    · rw [ih _ _ (acc ++ _), ih _ _ ([] ++ _)]
      simp
    · exact ih _ _ acc
theorem spS_step (f i m : Nat) (h : 0 < m / unM i) : spS (f + 1) i m [] = Lib.decDigits (m / unM i) ++ (unS i ++ spS f (i + 1) (m - m / unM i * unM i) []) := by
  rw [spS, if_pos h, spS_acc, Lib.itoa_nonneg]
  simp
theorem spS_head (f : Nat) : ∀ (i m : Nat), byN (spS f i m []) 0 ≠ 115 := by
  induction f with
  | zero => intro i m; show byN [] 0 ≠ 115; decide
  | succ f ih =>
    intro i m
    by_cases h : 0 < m / unM i
    · rw [spS_step f i m h]
      have h1 := dd_pos (m / unM i)
      obtain ⟨c, t, ht⟩ := List.exists_cons_of_length_pos (show 0 < (Lib.decDigits (m / unM i)).length by omega)
      have h2 := dd_dig (m / unM i) c (by rw [ht]; simp)
      rw [ht]
      show c.toNat ≠ 115
      rw [dgB_iff] at h2
      omega
    · rw [spS, if_neg h]
      exact ih _ _
theorem tk_dd (u : Nat) (i : Nat) (hi : i < 7) (r : LxS) : tkN dgB (Lib.decDigits u ++ (unS i ++ r)) = (Lib.decDigits u).length := by
  refine tkN_eq dgB _ _ (by rw [List.length_append]; omega) (fun j hj => ?_) (Or.inr ?_)
  · unfold byN
    rw [List.getD, List.getElem?_append_left hj, List.getElem?_eq_getElem hj]
    exact dd_dig u _ (List.getElem_mem hj)
  · have h0 := (unS_b0 i hi r).1
    have : byN (Lib.decDigits u ++ (unS i ++ r)) (Lib.decDigits u).length = byN (unS i ++ r) 0 := by
      unfold byN
      simp [List.getD, List.getElem?_append_right]
    rw [this, h0]
    have : i = 0 ∨ i = 1 ∨ i = 2 ∨ i = 3 ∨ i = 4 ∨ i = 5 ∨ i = 6 := by omega
    rcases this with rfl | rfl | rfl | rfl | rfl | rfl | rfl <;> decide
theorem unM_pos (i : Nat) : 1 ≤ unM i := by unfold unM; (repeat' split) <;> decide
theorem sp_back (f : Nat) : ∀ (i m : Nat) (l : LxS) (w frm n g : Nat), i + f = 7 → (f = 0 → m = 0) → l.drop w = spS f i m [] → frm ≤ i → f ≤ g → n + m ≤ 1099511627776 → w ≤ l.length → spG l g frm w (n : Int) = (((n + m : Nat) : Int), l.length) := by
  induction f with
  | zero =>
    intro i m l w frm n g hi hm hd hfr hg hn hw
    obtain rfl := hm rfl
    have hd : l.drop w = [] := hd
    have hwl : w = l.length := by
      have := congrArg List.length hd
      rw [List.length_drop, List.length_nil] at this
      omega
    cases g with
    | zero => rw [spG, Nat.add_zero, hwl]
    | succ g =>
      rw [spG, hd, if_pos (by rfl), Nat.add_zero, hwl]
  | succ f ih =>
    intro i m l w frm n g hi hm hd hfr hg hn hw
    have hmp := unM_pos i
    by_cases h : 0 < m / unM i
    · obtain ⟨g, rfl⟩ : ∃ k, g = k + 1 := ⟨g - 1, by omega⟩
      rw [spS_step f i m h] at hd
      have hi7 : i < 7 := by omega
      have hq := Nat.div_mul_le_self m (unM i)
      have hr := spS_head f (i + 1) (m - m / unM i * unM i)
      have hlast : f = 0 → m - m / unM i * unM i = 0 := fun e => by
        have : i = 6 := by omega
        subst this
        show m - m / 1 * 1 = 0
        omega
      generalize hrr : spS f (i + 1) (m - m / unM i * unM i) [] = r at *
      have hq2 : m / unM i ≤ 1099511627776 := Nat.le_trans (Nat.div_le_self _ _) (by omega)
      have hv := dd_val (m / unM i) hq2
      have htk := tk_dd (m / unM i) i hi7 r
      have hdp := dd_pos (m / unM i)
      generalize hD : Lib.decDigits (m / unM i) = D at *
      generalize hqq : m / unM i = q at *
      have hd2 : l.drop (w + D.length) = unS i ++ r := by rw [← List.drop_drop, hd, List.drop_left]
      have hd3 : l.drop (w + D.length + unL i) = r := by rw [← List.drop_drop, hd2, ← unS_len i hi7, List.drop_left]
      have hlen : l.length = w + (D.length + (unL i + r.length)) := by
        have := congrArg List.length hd
        rw [List.length_drop, List.length_append, List.length_append, unS_len i hi7] at this
        omega
      rw [spG, hd, htk, if_neg (by omega), hd2, unG_unS i frm hi7 hfr r hr, if_neg (by omega), List.take_left]
      have htw : timW D (unM i) = ((q * unM i : Nat) : Int) := by
        unfold timW
        rw [hv, if_neg, Int.natCast_mul]
        intro hc
        have h1 : (q : Int) * (unM i : Int) ≤ 1099511627776 := by
          rw [← Int.natCast_mul]
          omega
        have h2 : (q : Int) ≤ 1099511627776 / (unM i : Int) := (Int.le_ediv_iff_mul_le (by omega)).2 h1
        omega
      rw [htw]
      have hmin : min ((n : Int) + ((q * unM i : Nat) : Int)) tooL = ((n + q * unM i : Nat) : Int) := by
        unfold tooL
        omega
      rw [hmin, ih (i + 1) (m - q * unM i) l _ (i + 1) (n + q * unM i) g (by omega) hlast (by rw [hd3]; exact hrr.symm) (Nat.le_refl _) (by omega) (by omega) (by omega)]
      congr 2
      omega
    · rw [spS, if_neg h] at hd
      refine ih (i + 1) m l w frm n g (by omega) (fun e => ?_) hd (by omega) (by omega) hn hw
      have : i = 6 := by omega
      subst this
      have h : ¬ 0 < m / 1 := h
      omega
theorem spS_first (f : Nat) : ∀ (i m : Nat), i + f = 7 → (f = 0 → m = 0) → 0 < m → ∃ u k r, k < 7 ∧ spS f i m [] = Lib.decDigits u ++ (unS k ++ r) := by
  induction f with
  | zero => intro i m _ h h2; have := h rfl; omega
  | succ f ih =>
    intro i m hi hm h0
    by_cases h : 0 < m / unM i
    · exact ⟨_, i, _, by omega, spS_step f i m h⟩
    · rw [spS, if_neg h]
      refine ih (i + 1) m (by omega) (fun e => ?_) h0
      have : i = 6 := by omega
      subst this
      have h : ¬ 0 < m / 1 := h
      omega
/-- a duration's text is one token and says the duration -/
theorem span_back (n : Int) (h0 : 0 ≤ n) (h1 : n ≤ 1099511627776) : (spT n).2 = 0 ∧ spV (spT n).1 = (n, 0) := by
  unfold spT
  rw [if_neg (by omega)]
  by_cases hz : n = 0
  · subst hz
    rw [if_pos rfl]
    exact ⟨rfl, by decide⟩
  · rw [if_neg hz]
    refine ⟨rfl, ?_⟩
    obtain ⟨N, rfl⟩ : ∃ N : Nat, n = (N : Int) := ⟨n.toNat, by omega⟩
    rw [Int.toNat_natCast]
    dsimp only
    have hb := sp_back 7 0 N (spS 7 0 N []) 0 0 0 8 (by omega) (by omega) rfl (Nat.le_refl _) (by omega) (by omega) (Nat.zero_le _)
    rw [Nat.zero_add] at hb
    have hb : spW (spS 7 0 N []) = ((N : Int), (spS 7 0 N []).length) := hb
    obtain ⟨u, k, r, hk, hf⟩ := spS_first 7 0 N (by omega) (by omega) (by omega)
    generalize spS 7 0 N [] = t at *
    have hdp := dd_pos u
    have htk := tk_dd u k hk r
    have hb0 := unS_b0 k hk r
    have hat : byN t (Lib.decDigits u).length = byN (unS k ++ r) 0 := by
      rw [hf]
      unfold byN
      simp [List.getD, List.getElem?_append_right]
    have hdr : t.drop (Lib.decDigits u).length = unS k ++ r := by rw [hf, List.drop_left]
    have hdg : ∀ j, j < (Lib.decDigits u).length → dgB (byN t j) = true := fun j hj => by
      rw [← hf] at htk
      exact tkN_in dgB t j (by omega)
    rw [← hf] at htk
    have hu0 : byN (unS k ++ r) 0 ≠ 46 ∧ byN (unS k ++ r) 0 ≠ 101 ∧ byN (unS k ++ r) 0 ≠ 69 ∧ byN (unS k ++ r) 0 ≠ 120 ∧ byN (unS k ++ r) 0 ≠ 88 := by
      rw [hb0.1]
      have : k = 0 ∨ k = 1 ∨ k = 2 ∨ k = 3 ∨ k = 4 ∨ k = 5 ∨ k = 6 := by omega
      rcases this with rfl | rfl | rfl | rfl | rfl | rfl | rfl <;> decide
    have hx : hexW t = 0 := by
      unfold hexW
      rw [if_neg]
      rintro ⟨-, h⟩
      by_cases c : 1 < (Lib.decDigits u).length
      · have := hdg 1 c
        rw [dgB_iff] at this
        omega
      · have e : (Lib.decDigits u).length = 1 := by omega
        rw [e] at hat
        omega
    have hdec : decW t = (Lib.decDigits u).length := by
      unfold decW
      rw [htk, hat, if_neg hu0.1]
    have hnum : numW t = (Lib.decDigits u).length := by
      unfold numW
      rw [if_neg (by omega), hdec, if_neg (by omega), hdr]
      have : expW (unS k ++ r) = 0 := by unfold expW; rw [if_neg (by omega)]
      omega
    have hlen : t.length = (Lib.decDigits u).length + ((unS k).length + r.length) := by rw [hf, List.length_append, List.length_append]
    have huk : 1 ≤ (unS k).length := by rw [unS_len k hk]; unfold unL; split <;> decide
    have hnu : nucW t = t.length ∧ nukW t = 3 := by
      unfold nucW nukW
      rw [hnum, hb, if_pos (by dsimp only; omega), if_pos (by dsimp only; omega)]
      exact ⟨rfl, rfl⟩
    have hnb : nubB t = false := by
      unfold nubB
      rw [hnu.1, byN_out t _ (Nat.le_refl _)]
      decide
    have hcut : cutW t = (3, t, t.length) := by
      unfold cutW
      have h0 := hdg 0 (by omega)
      rw [if_neg (by rw [h0]; simp), if_pos (Or.inl h0), hnb, if_neg (by simp), hnu.1, hnu.2, List.take_length]
    unfold spV jusB
    rw [hcut, hb]
    have h2 : 0 < t.length := by omega
    simp only [h2, decide_true, Bool.and_true]
    rw [if_pos trivial, if_neg (by omega)]
theorem spS_len (f : Nat) : ∀ (i m : Nat) (acc : LxS), m ≤ 1099511627776 → (spS f i m acc).length ≤ acc.length + 23 * f := by
  induction f with
  | zero => intro i m acc _; exact Nat.le_refl _
  | succ f ih =>
    intro i m acc hm
    unfold spS
    split
    · have h1 := Lib.itoa_length_le ((m / unM i : Nat) : Int) (by omega) (by have := Nat.div_le_self m (unM i); omega)
      have h2 := ih (i + 1) (m - m / unM i * unM i) (acc ++ (Lib.itoa ((m / unM i : Nat) : Int) ++ unS i)) (by omega)
      have h3 : (unS i).length ≤ 2 := by unfold unS; (repeat' split) <;> decide
      rw [List.length_append, List.length_append] at h2
      omega
    · have h2 := ih (i + 1) m acc hm
      omega
theorem spT_len (n : Int) : (spT n).1.length ≤ 200 := by
  unfold spT
  split
  · exact Nat.zero_le _
  · split
    · decide
    · have := spS_len 7 0 n.toNat [] (by omega)
      simp only [List.length_nil] at this
      show (spS 7 0 n.toNat []).length ≤ 200
      omega
end Go.Proofs.YtifjdfmmafbhkaaDoor
