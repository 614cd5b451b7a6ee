/-
  What a token is, by bytes: the project's words for numbers, durations, strings, signs, tokens; that none of them looks behind what it takes; nothing of the program is in it.
-/
import Derived.Test.YtifjdfmmafbhkaaGreatDoorLxA
import Derived.Lib.MapLaws
namespace Go.Proofs.YtifjdfmmafbhkaaGreatDoor
open Go.RowKit

theorem byN_drop (l : LxS) (k j : Nat) : byN (l.drop k) j = byN l (k + j) := by
  unfold byN
  rw [Go.Lib.getD_dropU]
theorem byN_take (l : LxS) (m j : Nat) : byN (l.take m) j = if j < m then byN l j else 0 := by
  unfold byN
  simp only [List.getD, List.getElem?_take]
  split <;> rfl
theorem byN_out (l : LxS) (j : Nat) (h : l.length ≤ j) : byN l j = 0 := by
  unfold byN
  simp [List.getD, List.getElem?_eq_none h]
theorem byN_lt (l : LxS) (j : Nat) : byN l j < 256 := UInt8.toNat_lt _
theorem byN_cons (c : UInt8) (t : LxS) (j : Nat) : byN (c :: t) (j + 1) = byN t j := rfl
theorem take_drop (l : LxS) (m k : Nat) : (l.take m).drop k = (l.drop k).take (m - k) := by
  rw [List.drop_take]

/-- how many signs of a kind -/
def tkN (p : Nat → Bool) (l : LxS) : Nat := (l.takeWhile fun c => p c.toNat).length
theorem tkN_nil (p : Nat → Bool) : tkN p [] = 0 := rfl
theorem tkN_cons (p : Nat → Bool) (c : UInt8) (t : LxS) : tkN p (c :: t) = if p c.toNat = true then 1 + tkN p t else 0 := by
  unfold tkN
  rw [List.takeWhile_cons]
  split
  · simp only [List.length_cons]; omega
  · rfl
theorem tkN_le (p : Nat → Bool) (l : LxS) : tkN p l ≤ l.length := by
  induction l with
  | nil => exact Nat.le_refl _
  | cons c t ih =>
    rw [tkN_cons]
    simp only [List.length_cons]
    split <;> omega
theorem tkN_in (p : Nat → Bool) (l : LxS) (j : Nat) (h : j < tkN p l) : p (byN l j) = true := by
  induction l generalizing j with
  | nil => rw [tkN_nil] at h; omega
  | cons c t ih =>
    rw [tkN_cons] at h
    split at h
    · rename_i hc
      cases j with
      | zero => exact hc
      | succ j => exact ih j (by omega)
    · omega
theorem tkN_out (p : Nat → Bool) (hp : p 0 = false) (l : LxS) : p (byN l (tkN p l)) = false := by
  induction l with
  | nil => exact hp
  | cons c t ih =>
    rw [tkN_cons]
    split
    · rw [Nat.add_comm]; exact ih
    · rename_i hc
      exact Bool.eq_false_iff.2 hc
/-- what is known of a count makes it -/
theorem tkN_eq (p : Nat → Bool) (l : LxS) (n : Nat) (hn : n ≤ l.length) (h : ∀ j, j < n → p (byN l j) = true) (ho : n = l.length ∨ p (byN l n) = false) : tkN p l = n := by
  induction l generalizing n with
  | nil => rw [tkN_nil]; simp only [List.length_nil] at hn; omega
  | cons c t ih =>
    rw [tkN_cons]
    cases n with
    | zero =>
      rcases ho with ho | ho
      · cases ho
      · rw [if_neg (fun e => by rw [show byN (c :: t) 0 = c.toNat from rfl, e] at ho; cases ho)]
    | succ n =>
      have h0 : p c.toNat = true := h 0 (by omega)
      rw [if_pos h0]
      have := ih n (by simpa using hn) (fun j hj => h (j + 1) (by omega)) (ho.imp (fun e => by simpa using e) (fun e => e))
      omega
theorem tkN_take (p : Nat → Bool) (l : LxS) (m : Nat) : tkN p (l.take m) = min (tkN p l) m := by
  induction l generalizing m with
  | nil => simp [tkN_nil]
  | cons c t ih =>
    cases m with
    | zero => simp [tkN_nil]
    | succ m =>
      rw [List.take_succ_cons, tkN_cons, tkN_cons, ih]
      split <;> omega
theorem wdB_zero : wdB 0 = false := by decide
/-- a digit -/
def dgB (c : Nat) : Bool := decide (48 ≤ c) && decide (c ≤ 57)
theorem dgB_zero : dgB 0 = false := by decide
/-- a hexadecimal digit -/
def hxB (c : Nat) : Bool := dgB c || (decide (97 ≤ c) && decide (c ≤ 102)) || (decide (65 ≤ c) && decide (c ≤ 70))
theorem hxB_zero : hxB 0 = false := by decide
theorem dgB_iff {c : Nat} : dgB c = true ↔ 48 ≤ c ∧ c ≤ 57 := by simp [dgB]
theorem hxB_iff {c : Nat} : hxB c = true ↔ (48 ≤ c ∧ c ≤ 57) ∨ (97 ≤ c ∧ c ≤ 102) ∨ (65 ≤ c ∧ c ≤ 70) := by simp [hxB, dgB, or_assoc]
theorem wdB_iff {c : Nat} : wdB c = true ↔ (97 ≤ c ∧ c ≤ 122) ∨ (65 ≤ c ∧ c ≤ 90) ∨ (48 ≤ c ∧ c ≤ 57) ∨ c = 95 ∨ c = 58 := by simp [wdB, or_assoc]
theorem hxB_wdB {c : Nat} (h : hxB c = true) : wdB c = true := by
  rw [hxB_iff] at h
  rw [wdB_iff]
  omega
theorem dgB_wdB {c : Nat} (h : dgB c = true) : wdB c = true := by
  rw [dgB_iff] at h
  rw [wdB_iff]
  omega

/-! numbers -/
def hexW (l : LxS) : Nat := if byN l 0 = 48 ∧ (byN l 1 = 120 ∨ byN l 1 = 88) then (if tkN hxB (l.drop 2) = 0 then 0 else 2 + tkN hxB (l.drop 2)) else 0
def expW (l : LxS) : Nat := if byN l 0 = 101 ∨ byN l 0 = 69 then (if byN l 1 = 43 ∨ byN l 1 = 45 then (if tkN dgB (l.drop 2) = 0 then 0 else 2 + tkN dgB (l.drop 2)) else (if tkN dgB (l.drop 1) = 0 then 0 else 1 + tkN dgB (l.drop 1))) else 0
/-- digits, and what stands behind a point: how many bytes; none, if there is no digit -/
def decW (l : LxS) : Nat := if byN l (tkN dgB l) = 46 then (if tkN dgB l + tkN dgB (l.drop (tkN dgB l + 1)) = 0 then 0 else tkN dgB l + 1 + tkN dgB (l.drop (tkN dgB l + 1))) else tkN dgB l
def numW (l : LxS) : Nat := if hexW l ≠ 0 then hexW l else if decW l = 0 then 0 else decW l + expW (l.drop (decW l))
theorem hexW_take (l : LxS) (m : Nat) (h : hexW l ≤ m) : hexW (l.take m) = hexW l := by
  unfold hexW at h ⊢
  rw [byN_take, byN_take, take_drop, tkN_take]
  by_cases c : byN l 0 = 48 ∧ (byN l 1 = 120 ∨ byN l 1 = 88)
  · rw [if_pos c] at h ⊢
    by_cases d : tkN hxB (l.drop 2) = 0
    · rw [if_pos d, d]
      simp
    · rw [if_neg d] at h ⊢
      have e : min (tkN hxB (l.drop 2)) (m - 2) = tkN hxB (l.drop 2) := by omega
      rw [if_pos (show 0 < m by omega), if_pos (show 1 < m by omega), if_pos c, e, if_neg d]
  · rw [if_neg c, if_neg]
    intro e
    apply c
    constructor
    · have := e.1
      split at this
      · exact this
      · cases this
    · have := e.2
      split at this
      · exact this
      · rcases this with h | h <;> cases h
theorem expW_take (l : LxS) (m : Nat) (h : expW l ≤ m) : expW (l.take m) = expW l := by
  unfold expW at h ⊢
  rw [byN_take, byN_take, take_drop, take_drop, tkN_take, tkN_take]
  generalize tkN dgB (l.drop 2) = t2 at *
  generalize tkN dgB (l.drop 1) = t1 at *
  generalize byN l 0 = b0 at *
  generalize hb1 : byN l 1 = b1 at *
  have h2 : t2 = t2 := rfl
  (repeat' split at h) <;> (repeat' split) <;> omega
theorem decW_take (l : LxS) (m : Nat) (h : decW l ≤ m) : decW (l.take m) = decW l := by
  unfold decW at h ⊢
  rw [tkN_take, take_drop, tkN_take, byN_take]
  have h1 : tkN dgB l ≤ m := by (repeat' split at h) <;> omega
  have h2 : min (tkN dgB l) m = tkN dgB l := by omega
  rw [h2]
  generalize tkN dgB l = a at *
  generalize tkN dgB (l.drop (a + 1)) = b at *
  generalize byN l a = c at *
  (repeat' split at h) <;> (repeat' split) <;> omega
theorem decW_pos_of (l : LxS) (h : dgB (byN l 0) = true) : 0 < decW l := by
  have h1 : 0 < tkN dgB l := by
    cases l with
    | nil => exact absurd h (by decide)
    | cons c t => rw [tkN_cons, if_pos (show dgB c.toNat = true from h)]; omega
  unfold decW
  (repeat' split) <;> omega
theorem numW_take (l : LxS) (m : Nat) (h : numW l ≤ m) : numW (l.take m) = numW l := by
  unfold numW at h ⊢
  by_cases c : hexW l = 0
  · have c' : ¬ hexW l ≠ 0 := fun e => e c
    rw [hexW_take l m (by omega)]
    rw [if_neg c'] at h ⊢
    rw [if_neg c']
    by_cases d : decW l = 0
    · rw [decW_take l m (by omega), if_pos d, if_pos d]
    · rw [if_neg d] at h
      rw [decW_take l m (by omega), if_neg d, take_drop, expW_take _ _ (by omega), if_neg d]
  · have c' : hexW l ≠ 0 := c
    rw [if_pos c'] at h ⊢
    rw [hexW_take l m h, if_pos c']

/-! durations -/
/-- the units' texts: y w d h m s ms -/
def unP (l : LxS) (i : Nat) : Bool := decide ((i = 0 ∧ byN l 0 = 121) ∨ (i = 1 ∧ byN l 0 = 119) ∨ (i = 2 ∧ byN l 0 = 100) ∨ (i = 3 ∧ byN l 0 = 104) ∨ (i = 4 ∧ byN l 0 = 109) ∨ (i = 5 ∧ byN l 0 = 115) ∨ (i = 6 ∧ byN l 0 = 109 ∧ byN l 1 = 115))
def unL (i : Nat) : Nat := if i = 6 then 2 else 1
def unM (i : Nat) : Nat := if i = 0 then 31536000000 else if i = 1 then 604800000 else if i = 2 then 86400000 else if i = 3 then 3600000 else if i = 4 then 60000 else if i = 5 then 1000 else 1
/-- the last unit below k, not ahead of from, with which l begins; 7: none -/
def unG (l : LxS) (frm : Nat) : Nat → Nat
  | 0 => 7
  | k + 1 => if k < frm then 7 else if unP l k = true then k else unG l frm k
theorem unP_iff {l : LxS} {i : Nat} : unP l i = true ↔ ((i = 0 ∧ byN l 0 = 121) ∨ (i = 1 ∧ byN l 0 = 119) ∨ (i = 2 ∧ byN l 0 = 100) ∨ (i = 3 ∧ byN l 0 = 104) ∨ (i = 4 ∧ byN l 0 = 109) ∨ (i = 5 ∧ byN l 0 = 115) ∨ (i = 6 ∧ byN l 0 = 109 ∧ byN l 1 = 115)) := by simp [unP]
theorem unP_take (l : LxS) (m i : Nat) (h : unP (l.take m) i = true) : unP l i = true := by
  rw [unP_iff] at h ⊢
  rw [byN_take, byN_take] at h
  by_cases a : 0 < m
  · rw [if_pos a] at h
    by_cases b : 1 < m
    · rw [if_pos b] at h
      exact h
    · rw [if_neg b] at h
      rcases h with h | h | h | h | h | h | h
      · exact Or.inl h
      · exact Or.inr (Or.inl h)
      · exact Or.inr (Or.inr (Or.inl h))
      · exact Or.inr (Or.inr (Or.inr (Or.inl h)))
      · exact Or.inr (Or.inr (Or.inr (Or.inr (Or.inl h))))
      · exact Or.inr (Or.inr (Or.inr (Or.inr (Or.inr (Or.inl h)))))
      · exact absurd h.2.2 (by decide)
  · rw [if_neg a] at h
    rcases h with h | h | h | h | h | h | h
    · exact absurd h.2 (by decide)
    · exact absurd h.2 (by decide)
    · exact absurd h.2 (by decide)
    · exact absurd h.2 (by decide)
    · exact absurd h.2 (by decide)
    · exact absurd h.2 (by decide)
    · exact absurd h.2.1 (by decide)
theorem unP_keep (l : LxS) (m i : Nat) (hm : unL i ≤ m) (h : unP l i = true) : unP (l.take m) i = true := by
  unfold unL at hm
  rw [unP_iff] at h ⊢
  rw [byN_take, byN_take]
  split at hm
  · rw [if_pos (by omega), if_pos (by omega)]; exact h
  · rw [if_pos (by omega)]
    rcases h with h | h | h | h | h | h | h
    all_goals first | (simp only [h, true_and]; simp; done) | omega
theorem unG_none (l : LxS) (frm k m : Nat) (h : unG l frm k = 7) (hk : k ≤ 7) : unG (l.take m) frm k = 7 := by
  induction k with
  | zero => rfl
  | succ k ih =>
    unfold unG at h ⊢
    by_cases c : k < frm
    · rw [if_pos c]
    · rw [if_neg c] at h ⊢
      by_cases d : unP l k = true
      · rw [if_pos d] at h; omega
      · rw [if_neg d] at h
        rw [if_neg (fun e => d (unP_take l m k e))]
        exact ih h (by omega)
theorem unG_some (l : LxS) (frm k m i : Nat) (h : unG l frm k = i) (hi : i < 7) (hm : unL i ≤ m) : unG (l.take m) frm k = i := by
  induction k with
  | zero => have h : 7 = i := h; omega
  | succ k ih =>
    unfold unG at h ⊢
    by_cases c : k < frm
    · rw [if_pos c] at h; omega
    · rw [if_neg c] at h ⊢
      by_cases d : unP l k = true
      · rw [if_pos d] at h
        subst h
        rw [if_pos (unP_keep l m k hm d)]
      · rw [if_neg d] at h
        rw [if_neg (fun e => d (unP_take l m k e))]
        exact ih h
theorem unG_range (l : LxS) (frm k : Nat) (hk : k ≤ 7) : unG l frm k = 7 ∨ (frm ≤ unG l frm k ∧ unG l frm k < k ∧ unP l (unG l frm k) = true) := by
  induction k with
  | zero => exact Or.inl rfl
  | succ k ih =>
    unfold unG
    by_cases c : k < frm
    · rw [if_pos c]; exact Or.inl rfl
    · rw [if_neg c]
      by_cases d : unP l k = true
      · rw [if_pos d]; exact Or.inr ⟨by omega, by omega, d⟩
      · rw [if_neg d]
        rcases ih (by omega) with h | ⟨h1, h2, h3⟩
        · exact Or.inl h
        · exact Or.inr ⟨h1, by omega, h3⟩
/-- too long a duration -/
def tooL : Int := 1099511627777
/-- digits, each times, none beyond tooL -/
def timA (l : LxS) (n : Int) : Int := l.foldl (fun n c => min (10 * n + ((c.toNat : Int) - 48)) tooL) n
def timW (l : LxS) (each : Int) : Int := if timA l 0 > 1099511627776 / each then tooL else timA l 0 * each
/-- the longest duration: its milliseconds, its bytes -/
def spG (l : LxS) : Nat → Nat → Nat → Int → Int × Nat
  | 0, _, w, n => (n, w)
  | f + 1, frm, w, n =>
    if tkN dgB (l.drop w) = 0 then (n, w)
    else if unG (l.drop (w + tkN dgB (l.drop w))) frm 7 = 7 then (n, w)
    else spG l f (unG (l.drop (w + tkN dgB (l.drop w))) frm 7 + 1) (w + tkN dgB (l.drop w) + unL (unG (l.drop (w + tkN dgB (l.drop w))) frm 7))
      (min (n + timW ((l.drop w).take (tkN dgB (l.drop w))) (unM (unG (l.drop (w + tkN dgB (l.drop w))) frm 7))) tooL)
def spW (l : LxS) : Int × Nat := spG l 8 0 0 0
theorem spG_ge (l : LxS) (f frm w : Nat) (n : Int) : w ≤ (spG l f frm w n).2 := by
  induction f generalizing frm w n with
  | zero => exact Nat.le_refl _
  | succ f ih =>
    unfold spG
    split
    · exact Nat.le_refl _
    · split
      · exact Nat.le_refl _
      · exact Nat.le_trans (by omega) (ih _ _ _)
theorem unP_length (l : LxS) (i : Nat) (h : unP l i = true) : unL i ≤ l.length := by
  rw [unP_iff] at h
  unfold unL
  have h0 : l.length ≤ 0 → byN l 0 = 0 := byN_out l 0
  have h1 : l.length ≤ 1 → byN l 1 = 0 := byN_out l 1
  split <;> omega
theorem spG_le (l : LxS) (f frm w : Nat) (n : Int) (hw : w ≤ l.length) : (spG l f frm w n).2 ≤ l.length := by
  induction f generalizing frm w n with
  | zero => exact hw
  | succ f ih =>
    unfold spG
    split
    · exact hw
    · split
      · exact hw
      · rename_i h1 h2
        apply ih
        rcases unG_range (l.drop (w + tkN dgB (l.drop w))) frm 7 (Nat.le_refl _) with h | ⟨-, -, h⟩
        · exact absurd h h2
        · have := unP_length _ _ h
          rw [List.length_drop] at this
          have h3 := tkN_le dgB (l.drop w)
          rw [List.length_drop] at h3
          have : 0 < unL (unG (List.drop (w + tkN dgB (List.drop w l)) l) frm 7) := by unfold unL; split <;> omega
          omega
theorem spG_take (l : LxS) (m f frm w : Nat) (n : Int) (h : (spG l f frm w n).2 ≤ m) : spG (l.take m) f frm w n = spG l f frm w n := by
  induction f generalizing frm w n with
  | zero => rfl
  | succ f ih =>
    have hw : w ≤ m := Nat.le_trans (spG_ge l (f + 1) frm w n) h
    unfold spG at h ⊢
    rw [take_drop, tkN_take]
    by_cases c : tkN dgB (l.drop w) = 0
    · rw [if_pos c, if_pos (by omega)]
    · rw [if_neg c] at h ⊢
      by_cases d : unG (l.drop (w + tkN dgB (l.drop w))) frm 7 = 7
      · rw [if_pos d]
        by_cases e : min (tkN dgB (l.drop w)) (m - w) = 0
        · rw [if_pos e]
        · rw [if_neg e, if_pos]
          by_cases g : tkN dgB (l.drop w) ≤ m - w
          · rw [Nat.min_eq_left g, take_drop]
            exact unG_none _ _ _ _ d (Nat.le_refl _)
          · rw [Nat.min_eq_right (by omega), take_drop, show m - (w + (m - w)) = 0 by omega, List.take_zero]
            have : ∀ k, unG [] frm k = 7 := fun k => by
              induction k with
              | zero => rfl
              | succ k ih =>
                unfold unG
                split
                · rfl
                · rw [if_neg]
                  · exact ih
                  · intro u
                    have := unP_length _ _ u
                    unfold unL at this
                    simp only [List.length_nil] at this
                    split at this <;> omega
            exact this 7
      · rw [if_neg d] at h ⊢
        have hk := Nat.le_trans (spG_ge _ _ _ _ _) h
        have hr := unG_range (l.drop (w + tkN dgB (l.drop w))) frm 7 (Nat.le_refl _)
        have hlt : unG (l.drop (w + tkN dgB (l.drop w))) frm 7 < 7 := by
          rcases hr with hr | hr
          · exact absurd hr d
          · exact hr.2.1
        have hmin : min (tkN dgB (l.drop w)) (m - w) = tkN dgB (l.drop w) := by omega
        rw [hmin, if_neg c, take_drop, unG_some _ _ _ _ _ rfl hlt (by omega), if_neg d, List.take_take, hmin]
        exact ih _ _ _ h
theorem spW_take (l : LxS) (m : Nat) (h : (spW l).2 ≤ m) : spW (l.take m) = spW l := spG_take l m 8 0 0 0 h
theorem spW_le (l : LxS) : (spW l).2 ≤ l.length := spG_le l 8 0 0 0 (Nat.zero_le _)

/-- number or duration: its kind, its bytes; none: 0 -/
def nucW (l : LxS) : Nat := if numW l < (spW l).2 then (spW l).2 else numW l
def nukW (l : LxS) : Int := if numW l < (spW l).2 then 3 else 2
def nubB (l : LxS) : Bool := wdB (byN l (nucW l)) || decide (byN l (nucW l) = 46)
theorem nuc_take (l : LxS) (m : Nat) (h : nucW l ≤ m) (hb : nubB l = false) : nucW (l.take m) = nucW l ∧ nukW (l.take m) = nukW l ∧ nubB (l.take m) = false := by
  have h1 : numW l ≤ m := by unfold nucW at h; split at h <;> omega
  have h2 : (spW l).2 ≤ m := by unfold nucW at h; split at h <;> omega
  have e1 : nucW (l.take m) = nucW l := by unfold nucW; rw [numW_take l m h1, spW_take l m h2]
  refine ⟨e1, by unfold nukW; rw [numW_take l m h1, spW_take l m h2], ?_⟩
  unfold nubB at hb ⊢
  rw [e1, byN_take]
  split
  · exact hb
  · rfl

/-! strings -/
/-- what stands behind a \ : the sign that is said, the bytes; 0: none -/
def escW (l : LxS) : Nat × Nat :=
  if byN l 0 = 120 then (if hxB (byN l 1) = true ∧ hxB (byN l 2) = true ∧ byN l 1 < 56 then ((if byN l 1 ≤ 57 then byN l 1 - 48 else if 97 ≤ byN l 1 then byN l 1 - 87 else byN l 1 - 55) * 16 + (if byN l 2 ≤ 57 then byN l 2 - 48 else if 97 ≤ byN l 2 then byN l 2 - 87 else byN l 2 - 55), 3) else (0, 0))
  else if byN l 0 = 110 then (10, 1) else if byN l 0 = 116 then (9, 1) else if byN l 0 = 114 then (13, 1)
  else if byN l 0 = 92 ∨ byN l 0 = 34 ∨ byN l 0 = 39 then (byN l 0, 1) else (0, 0)
theorem escW_le (l : LxS) : (escW l).2 ≤ l.length ∧ (escW l).2 ≤ 3 ∧ ((escW l).2 ≠ 0 → (escW l).1 < 128) := by
  have h0 : l.length ≤ 0 → byN l 0 = 0 := byN_out l 0
  have h2 : l.length ≤ 2 → byN l 2 = 0 := byN_out l 2
  unfold escW
  simp only [hxB_iff]
  (repeat' split) <;> refine ⟨?_, ?_, ?_⟩ <;> simp only [] <;> omega
theorem escW_take (l : LxS) (m : Nat) (h : (escW l).2 ≤ m) (h0 : (escW l).2 ≠ 0) : escW (l.take m) = escW l := by
  have h1 : 1 ≤ m := by omega
  unfold escW at h h0 ⊢
  rw [byN_take, if_pos (show 0 < m by omega), byN_take, byN_take]
  by_cases c : byN l 0 = 120
  · rw [if_pos c] at h h0 ⊢
    by_cases d : hxB (byN l 1) = true ∧ hxB (byN l 2) = true ∧ byN l 1 < 56
    · rw [if_pos d] at h
      have h : 3 ≤ m := h
      rw [if_pos (show 1 < m by omega), if_pos (show 2 < m by omega)]
      rw [if_pos c]
    · rw [if_neg d] at h0
      exact absurd rfl h0
  · rw [if_neg c, if_neg c]
/-- Go's decoder, of bytes -/
def dcG (l : LxS) : Nat × Nat := if l = [] then (65533, 0) else Lib.decodeL l
theorem dcG_bounds (l : LxS) (h : l ≠ []) : 1 ≤ (dcG l).2 ∧ (dcG l).2 ≤ l.length ∧ (dcG l).2 ≤ 4 := by
  unfold dcG
  rw [if_neg h]
  have h1 := Lib.decodeL_le l h
  have hl : 0 < l.length := List.length_pos_iff.2 h
  rw [Lib.decodeL_N] at h1 ⊢
  refine ⟨?_, h1, ?_⟩
  all_goals (unfold Lib.decodeN; (repeat' split) <;> simp)
/-- from behind the opening quote on: what the string says, and the bytes up to behind its end -/
def strG (q : Nat) : Nat → LxS → Option (LxS × Nat)
  | 0, _ => none
  | f + 1, l =>
    if (dcG l).1 = q then some ([], (dcG l).2)
    else if (dcG l).1 = 10 ∨ ((dcG l).1 = 65533 ∧ (dcG l).2 < 3) then none
    else if (dcG l).1 = 92 then
      (if (escW (l.drop (dcG l).2)).2 = 0 then none
       else (strG q f (l.drop ((dcG l).2 + (escW (l.drop (dcG l).2)).2))).map fun x => (UInt8.ofNat (escW (l.drop (dcG l).2)).1 :: x.1, (dcG l).2 + (escW (l.drop (dcG l).2)).2 + x.2))
    else (strG q f (l.drop (dcG l).2)).map fun x => (l.take (dcG l).2 ++ x.1, (dcG l).2 + x.2)
/-- the string with which l begins: what it says, its bytes -/
def strW (l : LxS) : Option (LxS × Nat) := (strG (byN l 0) (l.length + 1) (l.drop 1)).map fun x => (x.1, 1 + x.2)
end Go.Proofs.YtifjdfmmafbhkaaGreatDoor
