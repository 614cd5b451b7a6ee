/-
  LbN, LbN2, LbR, LbR2, in one text.
-/
import Derived.Test.YtpglhdnepmcahaaGreatDoorBsA
import Derived.WalkMore
import Derived.Deep.RegionHeld3
/- LbN -/
namespace Go.Proofs.YtpglhdnepmcahaaGreatDoor
open Go.RowKit

def pDigit (c : UInt8) : Bool := decide (48 ≤ c.toNat ∧ c.toNat ≤ 57)
def pLetter (c : UInt8) : Bool := decide ((97 ≤ c.toNat ∧ c.toNat ≤ 122) ∨ (65 ≤ c.toNat ∧ c.toNat ≤ 90) ∨ c.toNat = 95)
def pinName (c : UInt8) : Bool := decide ((97 ≤ c.toNat ∧ c.toNat ≤ 122) ∨ (65 ≤ c.toNat ∧ c.toNat ≤ 90) ∨ c.toNat = 95 ∨ (48 ≤ c.toNat ∧ c.toNat ≤ 57))
def pinMetric (c : UInt8) : Bool := decide ((97 ≤ c.toNat ∧ c.toNat ≤ 122) ∨ (65 ≤ c.toNat ∧ c.toNat ≤ 90) ∨ c.toNat = 95 ∨ (48 ≤ c.toNat ∧ c.toNat ≤ 57) ∨ c.toNat = 58)
def pisBlank (c : UInt8) : Bool := decide (c.toNat = 32 ∨ c.toNat = 9)
theorem name_metric (c : UInt8) : pinMetric c = (pinName c || decide (c.toNat = 58)) := by
  unfold pinMetric pinName
  rw [Bool.eq_iff_iff, Bool.or_eq_true]
  simp only [decide_eq_true_eq]
  omega
theorem letter_name (c : UInt8) : pinName c = (pLetter c || pDigit c) := by
  unfold pinName pLetter pDigit
  rw [Bool.eq_iff_iff, Bool.or_eq_true]
  simp only [decide_eq_true_eq]
  omega
theorem ret_bool {a b : Bool} (h : a = b) : Ending.returned (.bool a) = .returned (.bool b) := by rw [h]
def span (p : UInt8 → Bool) (l : List UInt8) : Nat := (l.takeWhile p).length
theorem span_le (p : UInt8 → Bool) (l : List UInt8) : span p l ≤ l.length := by
  unfold span
  exact (List.takeWhile_sublist p).length_le
theorem span_in (p : UInt8 → Bool) : ∀ (l : List UInt8) (z : Nat), z < span p l → p (l.getD z 0) = true := by
  intro l
  induction l with
  | nil => intro z hz; simp [span] at hz
  | cons c l ih =>
    intro z hz
    unfold span at hz ih
    rw [List.takeWhile_cons] at hz
    split at hz
    · rename_i hc
      cases z with
      | zero => simpa using hc
      | succ z =>
        simp only [List.length_cons] at hz
        have := ih z (by omega)
        simpa using this
    · simp at hz
theorem span_out (p : UInt8 → Bool) : ∀ (l : List UInt8), span p l < l.length → p (l.getD (span p l) 0) = false := by
  intro l
  induction l with
  | nil => intro h; simp [span] at h
  | cons c l ih =>
    intro h
    unfold span at h ih ⊢
    rw [List.takeWhile_cons] at h ⊢
    split at h
    · rename_i hc
      rw [if_pos hc]
      simp only [List.length_cons] at h ⊢
      have := ih (by omega)
      simpa using this
    · rename_i hc
      rw [if_neg hc]
      simpa using hc

theorem isDigit_any (c : UInt8) (w : World) : Calls Tryz.prog 144 #[.int .u8 (c.toNat : Int)] w fun e w' => e = .returned (.bool (pDigit c)) ∧ w' = w := by
  unfold pDigit
  have hn : c.toNat < 256 := c.toNat_lt
  generalize c.toNat = n at *
  obtain ⟨B, hB⟩ : ∃ B, decide (48 ≤ n ∧ n ≤ 57) = B := ⟨_, rfl⟩
  rw [hB]
  have HB : Hid (decide (48 ≤ n ∧ n ≤ 57) = B) := hB
  clear hB
  go_enter Tryz.func144, Tryz.ntmps144
  go_wp2
  all_goals go_ret
  all_goals refine ⟨ret_bool ?_, rfl⟩
  all_goals (rw [← HB.out, Bool.eq_iff_iff]; first | (simp; omega) | (simp; done))
theorem inName_any (c : UInt8) (w : World) : Calls Tryz.prog 140 #[.int .u8 (c.toNat : Int)] w fun e w' => e = .returned (.bool (pinName c)) ∧ w' = w := by
  have HD : Hid (Calls Tryz.prog 144 #[.int .u8 (c.toNat : Int)] w fun e w' => e = .returned (.bool (decide (48 ≤ c.toNat ∧ c.toNat ≤ 57))) ∧ w' = w) := isDigit_any c w
  unfold pinName
  have hn : c.toNat < 256 := c.toNat_lt
  generalize c.toNat = n at *
  obtain ⟨B, hB⟩ : ∃ B, decide ((97 ≤ n ∧ n ≤ 122) ∨ (65 ≤ n ∧ n ≤ 90) ∨ n = 95 ∨ (48 ≤ n ∧ n ≤ 57)) = B := ⟨_, rfl⟩
  rw [hB]
  have HB : Hid (decide ((97 ≤ n ∧ n ≤ 122) ∨ (65 ≤ n ∧ n ≤ 90) ∨ n = 95 ∨ (48 ≤ n ∧ n ≤ 57)) = B) := hB
  obtain ⟨E, hE⟩ : ∃ E, decide (48 ≤ n ∧ n ≤ 57) = E := ⟨_, rfl⟩
  rw [hE] at HD
  have HE : Hid (decide (48 ≤ n ∧ n ≤ 57) = E) := hE
  clear hB hE
  go_enter Tryz.func140, Tryz.ntmps140
  go_wp2_with (go_at_call 144; refine HD.out.mono ?_; rintro e w' ⟨rfl, rfl⟩)
  all_goals go_ret
  all_goals refine ⟨ret_bool ?_, rfl⟩
  all_goals (rw [← HB.out, Bool.eq_iff_iff]; try rw [← HE.out])
  all_goals (first | (simp; omega) | (simp; done))
set_option maxHeartbeats 1600000 in
theorem spanOf_inName (w : World) (l : List UInt8) (hl : l.length ≤ 1000000000000000000) :
    Calls Tryz.prog 145 #[.string (ByteArray.mk ⟨l⟩), .func (.func 140) #[] #[]] w fun e w' => e = .returned (.int .i64 ((span pinName l : Nat) : Int)) ∧ w.grownBy w' none := by
  have hz : (ByteArray.mk ⟨l⟩).size = l.length := rfl
  have hle : span pinName l ≤ l.length := span_le _ _
  obtain ⟨N, hN⟩ : ∃ N, span pinName l = N := ⟨_, rfl⟩
  rw [hN] at hle ⊢
  have HN : Hid (span pinName l = N) := hN
  clear hN
  have hlen : ((l.length : Nat) : Int) ≤ 1000000000000000000 := by omega
  go_enter Tryz.func145, Tryz.ntmps145
  go_wp2
  go_loopw [5] (fun i wr => ∃ z : Nat, z ≤ N ∧ i = .int .i64 z ∧ Hid (w.grownBy wr none)) (fun i _ => N - (intOf i).toNat)
  case atStart => exact ⟨0, by omega, rfl, gb_refl _ _⟩
  case round =>
    obtain ⟨z, hzN, rfl, hr⟩ := hrel
    by_cases hzl : z < l.length
    · have hbz : ∀ h, (ByteArray.mk ⟨l⟩)[z]'h = l.getD z 0 := fun h => by
        have : l.getD z 0 = l[z] := by simp [hzl]
        rw [this]
        rfl
      have HC : Hid (∀ W, Calls Tryz.prog 140 #[.int .u8 ((l.getD z 0).toNat : Int)] W fun e w' => e = .returned (.bool (pinName (l.getD z 0))) ∧ w' = W) := fun W => inName_any _ W
      by_cases hlt : z < N
      · have hp : pinName (l.getD z 0) = true := span_in _ _ _ (by rw [HN.out]; exact hlt)
        rw [hp] at HC
        clear hp
        generalize l.getD z 0 = c at *
        go_wp2_with (go_at_call 140; refine (HC.out _).mono ?_; rintro e w' ⟨rfl, rfl⟩)
        go_roundw
        case rel => exact ⟨z + 1, by omega, by go_num, hr⟩
        case measure => simp [intOf]; omega
      · obtain rfl : z = N := by omega
        have hp : pinName (l.getD z 0) = false := by have := span_out pinName l (by rw [HN.out]; exact hzl); rw [HN.out] at this; exact this
        rw [hp] at HC
        clear hp
        generalize l.getD z 0 = c at *
        go_wp2_with (go_at_call 140; refine (HC.out _).mono ?_; rintro e w' ⟨rfl, rfl⟩)
        go_ret
        exact ⟨rfl, hr.out⟩
    · obtain rfl : z = N := by omega
      go_wp2
      go_ret
      exact ⟨rfl, hr.out⟩

end Go.Proofs.YtpglhdnepmcahaaGreatDoor

/- LbN2 -/
namespace Go.Proofs.YtpglhdnepmcahaaGreatDoor
open Go.RowKit

/-- all signs are those of a name, and the first one is no digit -/
def isN (p : UInt8 → Bool) : List UInt8 → Bool
  | [] => false
  | c :: t => !(pDigit c) && decide (span p (c :: t) = t.length + 1)

set_option maxHeartbeats 1600000 in
theorem isName_inName (w : World) (l : List UInt8) (hl : l.length ≤ 1000000000000000000) :
    Calls Tryz.prog 139 #[.string (ByteArray.mk ⟨l⟩), .func (.func 140) #[] #[]] w fun e w' => e = .returned (.bool (isN pinName l)) ∧ w.grownBy w' none := by
  cases l with
  | nil =>
    have H : Hid (isN pinName [] = false) := rfl
    generalize isN pinName [] = b at *
    go_enter Tryz.func139, Tryz.ntmps139
    go_wp2
    go_ret
    exact ⟨by rw [H.out]; rfl, gb_refl _ _⟩
  | cons c t =>
    have HS : Hid (∀ W, Calls Tryz.prog 145 #[.string (ByteArray.mk ⟨c :: t⟩), .func (.func 140) #[] #[]] W fun e w' => e = .returned (.int .i64 ((span pinName (c :: t) : Nat) : Int)) ∧ W.grownBy w' none) := fun W => spanOf_inName W (c :: t) hl
    have HC : Hid (∀ W, Calls Tryz.prog 144 #[.int .u8 (c.toNat : Int)] W fun e w' => e = .returned (.bool (pDigit c)) ∧ w' = W) := fun W => isDigit_any _ W
    have hb0 : ∀ h, (ByteArray.mk ⟨c :: t⟩)[0]'h = c := fun h => rfl
    have hz : (ByteArray.mk ⟨c :: t⟩).size = t.length + 1 := rfl
    have H : Hid (isN pinName (c :: t) = (!(pDigit c) && decide (span pinName (c :: t) = t.length + 1))) := rfl
    generalize isN pinName (c :: t) = b at *
    generalize span pinName (c :: t) = n at *
    have hne : (ByteArray.mk ⟨c :: t⟩).toList.isEmpty = false := by rw [ByteArray.toList_eq]; rfl
    have hne2 : ¬ (ByteArray.mk ⟨c :: t⟩).toList = [] := by rw [ByteArray.toList_eq]; simp
    generalize ByteArray.mk ⟨c :: t⟩ = st at *
    cases hd : pDigit c with
    | true =>
      rw [hd] at HC H
      clear hd
      go_enter Tryz.func139, Tryz.ntmps139
      go_wp2_with (go_at_call 144; refine (HC.out _).mono ?_; rintro e w' ⟨rfl, rfl⟩)
      go_ret
      exact ⟨by rw [H.out]; rfl, gb_refl _ _⟩
    | false =>
      rw [hd] at HC H
      clear hd
      by_cases hn : n = t.length + 1
      · have hni : (n : Int) = (t.length : Int) + 1 := by omega
        have hb : b = true := by rw [H.out, decide_eq_true hn]; rfl
        subst hb
        clear H
        go_enter Tryz.func139, Tryz.ntmps139
        go_wp2_with (go_at_call 144; refine (HC.out _).mono ?_; rintro e w' ⟨rfl, rfl⟩)
        refine (HS.out _).mono ?_
        rintro e w2 ⟨rfl, hg2⟩
        have H2 : Hid (w'.grownBy w2 none) := hg2
        clear hg2 HS HC
        go_wp2
        go_ret
        exact ⟨rfl, H2.out⟩
      · have hni : ((n : Int) == (t.length : Int) + 1) = false := by rw [beq_eq_false_iff_ne]; omega
        have hb : b = false := by rw [H.out, decide_eq_false hn]; rfl
        subst hb
        clear H
        go_enter Tryz.func139, Tryz.ntmps139
        go_wp2_with (go_at_call 144; refine (HC.out _).mono ?_; rintro e w' ⟨rfl, rfl⟩)
        refine (HS.out _).mono ?_
        rintro e w2 ⟨rfl, hg2⟩
        have H2 : Hid (w'.grownBy w2 none) := hg2
        clear hg2 HS HC
        go_wp2
        go_ret
        exact ⟨rfl, H2.out⟩

/-- a label's name; a metric's name -/
def nameB (l : List UInt8) : Bool := decide (l.length ≤ 64) && isN pinName l
def metricB (l : List UInt8) : Bool := decide (l.length ≤ 256) && isN pinMetric l

theorem name_any (w : World) (l : List UInt8) (hl : l.length ≤ 1000000000000000000) :
    Calls Tryz.prog 134 #[.string (ByteArray.mk ⟨l⟩)] w fun e w' => e = .returned (.bool (nameB l)) ∧ w.grownBy w' none := by
  have HC : Hid (∀ W, Calls Tryz.prog 139 #[.string (ByteArray.mk ⟨l⟩), .func (.func 140) #[] #[]] W fun e w' => e = .returned (.bool (isN pinName l)) ∧ W.grownBy w' none) := fun W => isName_inName W l hl
  have hz : (ByteArray.mk ⟨l⟩).size = l.length := rfl
  have H : Hid (nameB l = (decide (l.length ≤ 64) && isN pinName l)) := rfl
  generalize isN pinName l = b at *
  generalize nameB l = B at *
  by_cases h : l.length ≤ 64
  · have h' : (l.length : Int) ≤ 64 := by omega
    have hB : B = b := by rw [H.out, decide_eq_true h]; rfl
    subst hB
    clear H
    go_enter Tryz.func134, Tryz.ntmps134
    go_wp2_with fail
    refine (HC.out _).mono ?_
    rintro e w2 ⟨rfl, hg2⟩
    have H2 : Hid (w.grownBy w2 none) := hg2
    clear hg2 HC
    go_wp2
    go_ret
    exact ⟨rfl, H2.out⟩
  · have h' : ¬ (l.length : Int) ≤ 64 := by omega
    have hB : B = false := by rw [H.out, decide_eq_false h]; rfl
    subst hB
    clear H HC
    go_enter Tryz.func134, Tryz.ntmps134
    go_wp2
    go_ret
    exact ⟨rfl, gb_refl _ _⟩
end Go.Proofs.YtpglhdnepmcahaaGreatDoor

/- LbR -/
namespace Go.Proofs.YtpglhdnepmcahaaGreatDoor
open Go.RowKit

theorem span_all (p : UInt8 → Bool) : ∀ (l : List UInt8), (∀ j, j < l.length → p (l.getD j 0) = true) → span p l = l.length := by
  intro l h
  by_cases hs : span p l < l.length
  · have h1 := span_out p l hs
    rw [h _ hs] at h1
    cases h1
  · have := span_le p l
    omega

def bName (l : List UInt8) : Bool := nameB l
def bMetric (l : List UInt8) : Bool := metricB l
abbrev mostName : Nat := 64
abbrev mostMetric : Nat := 256
def okName (l : List UInt8) (j : Nat) : Bool := pLetter (l.getD j 0) || (decide (j ≠ 0) && pDigit (l.getD j 0))
def okMetric (l : List UInt8) (j : Nat) : Bool := pLetter (l.getD j 0) || decide ((l.getD j 0).toNat = 58) || (decide (j ≠ 0) && pDigit (l.getD j 0))
def okcName (z : Bool) (c : UInt8) : Bool := pLetter c || (z && pDigit c)
def okcMetric (z : Bool) (c : UInt8) : Bool := pLetter c || decide (c.toNat = 58) || (z && pDigit c)
theorem longName (l : List UInt8) (h : 64 < l.length) : bName l = false := by unfold bName nameB; rw [decide_eq_false (by omega)]; rfl
theorem longMetric (l : List UInt8) (h : 256 < l.length) : bMetric l = false := by unfold bMetric metricB; rw [decide_eq_false (by omega)]; rfl
theorem letter_no_digit {c : UInt8} (h : pLetter c = true) : pDigit c = false := by
  unfold pLetter at h
  unfold pDigit
  rw [decide_eq_true_eq] at h
  exact decide_eq_false (by omega)
theorem allName (l : List UInt8) (h0 : l ≠ []) (h1 : l.length ≤ 64) (h : ∀ j, j < l.length → okName l j = true) : bName l = true := by
  unfold bName nameB
  rw [decide_eq_true h1]
  cases l with
  | nil => exact absurd rfl h0
  | cons c t =>
    have hd := h 0 (by simp)
    simp only [okName, List.getD_cons_zero, ne_eq, not_true_eq_false, decide_false, Bool.false_and, Bool.or_false] at hd
    have hs : span pinName (c :: t) = (c :: t).length := span_all _ _ (fun j hj => by
      have := h j hj
      unfold okName at this
      rw [letter_name]
      rw [Bool.or_eq_true] at this ⊢
      rcases this with h | h
      · exact .inl h
      · exact .inr (by rw [Bool.and_eq_true] at h; exact h.2))
    simp only [isN, letter_no_digit hd, hs, List.length_cons]
    simp
theorem noneName (l : List UInt8) (j : Nat) (hj : j < l.length) (h : okName l j = false) : bName l = false := by
  unfold bName nameB
  cases l with
  | nil => simp at hj
  | cons c t =>
    unfold okName at h
    rw [Bool.or_eq_false_iff, Bool.and_eq_false_iff] at h
    by_cases hd : pDigit c = true
    · simp [isN, hd]
    · have hs : span pinName (c :: t) ≠ t.length + 1 := fun e => by
        have hp := span_in pinName (c :: t) j (by rw [e]; simpa using hj)
        rw [letter_name, h.1, Bool.false_or] at hp
        rcases h.2 with h2 | h2
        · have : j = 0 := by simpa using h2
          subst this
          exact hd hp
        · rw [h2] at hp
          cases hp
      simp [isN, hs]
theorem allMetric (l : List UInt8) (h0 : l ≠ []) (h1 : l.length ≤ 256) (h : ∀ j, j < l.length → okMetric l j = true) : bMetric l = true := by
  unfold bMetric metricB
  rw [decide_eq_true h1]
  cases l with
  | nil => exact absurd rfl h0
  | cons c t =>
    have hd := h 0 (by simp)
    simp only [okMetric, List.getD_cons_zero, ne_eq, not_true_eq_false, decide_false, Bool.false_and, Bool.or_false] at hd
    have hnd : pDigit c = false := by
      rw [Bool.or_eq_true] at hd
      rcases hd with hd | hd
      · exact letter_no_digit hd
      · unfold pDigit
        rw [decide_eq_true_eq] at hd
        exact decide_eq_false (by omega)
    have hs : span pinMetric (c :: t) = (c :: t).length := span_all _ _ (fun j hj => by
      have := h j hj
      unfold okMetric at this
      rw [name_metric, letter_name]
      simp only [Bool.or_eq_true] at this ⊢
      rcases this with (h | h) | h
      · exact .inl (.inl h)
      · exact .inr h
      · exact .inl (.inr (by rw [Bool.and_eq_true] at h; exact h.2)))
    simp only [isN, hnd, hs, List.length_cons]
    simp
theorem noneMetric (l : List UInt8) (j : Nat) (hj : j < l.length) (h : okMetric l j = false) : bMetric l = false := by
  unfold bMetric metricB
  cases l with
  | nil => simp at hj
  | cons c t =>
    unfold okMetric at h
    rw [Bool.or_eq_false_iff, Bool.or_eq_false_iff, Bool.and_eq_false_iff] at h
    by_cases hd : pDigit c = true
    · simp [isN, hd]
    · have hs : span pinMetric (c :: t) ≠ t.length + 1 := fun e => by
        have hp := span_in pinMetric (c :: t) j (by rw [e]; simpa using hj)
        rw [name_metric, letter_name, h.1.1, h.1.2, Bool.false_or, Bool.or_false] at hp
        rcases h.2 with h2 | h2
        · have : j = 0 := by simpa using h2
          subst this
          exact hd hp
        · rw [h2] at hp
          cases hp
      simp [isN, hs]

theorem refDigit_any (c : UInt8) (w : World) : Calls Tryz.prog 133 #[.int .u8 (c.toNat : Int)] w fun e w' => e = .returned (.bool (pDigit c)) ∧ w' = w := by
  unfold pDigit
  have hn : c.toNat < 256 := c.toNat_lt
  generalize c.toNat = n at *
  obtain ⟨B, hB⟩ : ∃ B, decide (48 ≤ n ∧ n ≤ 57) = B := ⟨_, rfl⟩
  rw [hB]
  have HB : Hid (decide (48 ≤ n ∧ n ≤ 57) = B) := hB
  clear hB
  go_enter Tryz.func133, Tryz.ntmps133
  go_wp2
  all_goals go_ret
  all_goals refine ⟨ret_bool ?_, rfl⟩
  all_goals (rw [← HB.out, Bool.eq_iff_iff]; first | (simp; omega) | (simp; done))
theorem refLetter_any (c : UInt8) (w : World) : Calls Tryz.prog 132 #[.int .u8 (c.toNat : Int)] w fun e w' => e = .returned (.bool (pLetter c)) ∧ w' = w := by
  unfold pLetter
  have hn : c.toNat < 256 := c.toNat_lt
  generalize c.toNat = n at *
  obtain ⟨B, hB⟩ : ∃ B, decide ((97 ≤ n ∧ n ≤ 122) ∨ (65 ≤ n ∧ n ≤ 90) ∨ n = 95) = B := ⟨_, rfl⟩
  rw [hB]
  have HB : Hid (decide ((97 ≤ n ∧ n ≤ 122) ∨ (65 ≤ n ∧ n ≤ 90) ∨ n = 95) = B) := hB
  clear hB
  go_enter Tryz.func132, Tryz.ntmps132
  go_wp2
  all_goals go_ret
  all_goals refine ⟨ret_bool ?_, rfl⟩
  all_goals (rw [← HB.out, Bool.eq_iff_iff]; first | (simp; omega) | (simp; done))
end Go.Proofs.YtpglhdnepmcahaaGreatDoor

/- LbR2 -/
namespace Go.Proofs.YtpglhdnepmcahaaGreatDoor
open Go.RowKit

set_option maxRecDepth 8000 in
set_option maxHeartbeats 3200000 in
theorem refName_any (w : World) (l : List UInt8) (hl : l.length ≤ 1000000000000000000) :
    Calls Tryz.prog 124 #[.string (ByteArray.mk ⟨l⟩)] w fun e w' => e = .returned (.bool (bName l)) ∧ w.grownBy w' none := by
  have hz : (ByteArray.mk ⟨l⟩).size = l.length := rfl
  by_cases h0 : l = []
  · subst h0
    have H : Hid (bName [] = false) := rfl
    generalize bName [] = B at *
    go_enter Tryz.func124, Tryz.ntmps124
    go_wp2
    go_ret
    exact ⟨by rw [H.out]; rfl, gb_refl _ _⟩
  have hne : (ByteArray.mk ⟨l⟩).toList.isEmpty = false := by rw [ByteArray.toList_eq]; cases l with | nil => exact absurd rfl h0 | cons c t => rfl
  have hne2 : ¬ (ByteArray.mk ⟨l⟩).toList = [] := by rw [ByteArray.toList_eq]; exact h0
  have hne3 : l.isEmpty = false := by cases l with | nil => exact absurd rfl h0 | cons c t => rfl
  have hne4 : ¬ l = [] := h0
  by_cases h1 : mostName < l.length
  · have h1' : (mostName : Int) < (l.length : Int) := by omega
    have H : Hid (bName l = false) := longName l h1
    generalize bName l = B at *
    simp only [mostName] at h1'
    go_enter Tryz.func124, Tryz.ntmps124
    go_wp2
    go_ret
    exact ⟨by rw [H.out]; rfl, gb_refl _ _⟩
  have h1' : ¬ (mostName : Int) < (l.length : Int) := by omega
  simp only [mostName] at h1'
  have HT : Hid ((∀ j, j < l.length → okName l j = true) → bName l = true) := fun h => allName l h0 (by omega) h
  have HF : Hid (∀ j, j < l.length → okName l j = false → bName l = false) := fun j hj h => noneName l j hj h
  have HP : Hid (0 < l.length) := List.length_pos_iff.2 h0
  generalize bName l = B at *
  clear h0 h1
  go_enter Tryz.func124, Tryz.ntmps124
  go_wp2
  go_loopw [13] (fun i wr => ∃ z : Nat, z ≤ l.length ∧ i = .int .i64 z ∧ Hid (w.grownBy wr none ∧ ∀ j, j < z → okName l j = true)) (fun i _ => l.length - (intOf i).toNat)
  case atStart => exact ⟨0, by omega, rfl, gb_refl _ _, fun j hj => by omega⟩
  case round =>
    obtain ⟨z, hzN, rfl, hr⟩ := hrel
    by_cases hzl : z < l.length
    · have hbz : ∀ h, (ByteArray.mk ⟨l⟩)[z]'h = l.getD z 0 := fun h => by
        have : l.getD z 0 = l[z] := by simp [hzl]
        rw [this]
        rfl
      have HL : Hid (∀ W, Calls Tryz.prog 132 #[.int .u8 ((l.getD z 0).toNat : Int)] W fun e w' => e = .returned (.bool (pLetter (l.getD z 0))) ∧ w' = W) := fun W => refLetter_any _ W
      have HD : Hid (∀ W, Calls Tryz.prog 133 #[.int .u8 ((l.getD z 0).toNat : Int)] W fun e w' => e = .returned (.bool (pDigit (l.getD z 0))) ∧ w' = W) := fun W => refDigit_any _ W
      have HO : Hid (okName l z = okcName (decide (z ≠ 0)) (l.getD z 0)) := rfl
      have HGo : Hid (okName l z = true → ∀ j, j < z + 1 → okName l j = true) := fun h j hj => by
        by_cases e : j = z
        · rw [e]; exact h
        · exact hr.out.2 j (by omega)
      have HNo : Hid (okName l z = false → B = false) := HF.out z hzl
      have HG : Hid (w.grownBy wr none) := hr.out.1
      clear hr HF HT
      generalize okName l z = k at *
      generalize l.getD z 0 = c at *
      obtain ⟨zb, hzb⟩ : ∃ zb, decide (z ≠ 0) = zb := ⟨_, rfl⟩
      rw [hzb] at HO
      unfold okcName at HO
      by_cases hz0 : z = 0
      · subst hz0
        obtain rfl : zb = false := hzb.symm
        clear hzb
        cases hl1 : pLetter c with
        | true =>
          rw [hl1] at HL HO
          have hk : k = true := by rw [HO.out]; simp
          have H' := HGo.out hk
          have H2 : Hid (∀ j, j < 0 + 1 → okName l j = true) := H'
          clear H' HGo HNo HO HD hl1 hk
          go_wp2_with (go_at_call 132; with_reducible refine (HL.out _).mono ?_; rintro e w' ⟨rfl, rfl⟩)
          go_roundw
          case rel => exact ⟨0 + 1, by omega, by go_num, HG.out, H2.out⟩
          case measure => simp [intOf]; omega
        | false =>
          rw [hl1] at HL HO
          have hB : B = false := HNo.out (by rw [HO.out]; simp)
          subst hB
          clear HGo HNo HO hl1
          go_wp2_with (first | (go_at_call 132; with_reducible refine (HL.out _).mono ?_; rintro e w' ⟨rfl, rfl⟩) | (go_at_call 133; with_reducible refine (HD.out _).mono ?_; rintro e w' ⟨rfl, rfl⟩))
          go_ret
          exact ⟨rfl, HG.out⟩

      · have hzi : ((z : Int) == 0) = false := by rw [beq_eq_false_iff_ne]; omega
        have hzi2 : ¬ (z : Int) = 0 := by omega
        obtain rfl : zb = true := by rw [← hzb]; exact decide_eq_true hz0
        clear hzb
        cases hl1 : pLetter c with
        | true =>
          rw [hl1] at HL HO
          have hk : k = true := by rw [HO.out]; simp
          have H' := HGo.out hk
          have H2 : Hid (∀ j, j < z + 1 → okName l j = true) := H'
          clear H' HGo HNo HO HD hl1 hk
          go_wp2_with (go_at_call 132; with_reducible refine (HL.out _).mono ?_; rintro e w' ⟨rfl, rfl⟩)
          go_roundw
          case rel => exact ⟨z + 1, by omega, by go_num, HG.out, H2.out⟩
          case measure => simp [intOf]; omega
        | false =>
          rw [hl1] at HL HO
          cases hd1 : pDigit c with
          | true =>
            rw [hd1] at HD HO
            have hk : k = true := by rw [HO.out]; simp
            have H' := HGo.out hk
            have H2 : Hid (∀ j, j < z + 1 → okName l j = true) := H'
            clear H' HGo HNo HO hl1 hk
            go_wp2_with (first | (go_at_call 132; with_reducible refine (HL.out _).mono ?_; rintro e w' ⟨rfl, rfl⟩) | (go_at_call 133; with_reducible refine (HD.out _).mono ?_; rintro e w' ⟨rfl, rfl⟩))
            go_roundw
            case rel => exact ⟨z + 1, by omega, by go_num, HG.out, H2.out⟩
            case measure => simp [intOf]; omega

          | false =>
            rw [hd1] at HD HO
            have hB : B = false := HNo.out (by rw [HO.out]; simp)
            subst hB
            clear HGo HNo HO hl1
            go_wp2_with (first | (go_at_call 132; with_reducible refine (HL.out _).mono ?_; rintro e w' ⟨rfl, rfl⟩) | (go_at_call 133; with_reducible refine (HD.out _).mono ?_; rintro e w' ⟨rfl, rfl⟩))
            go_ret
            exact ⟨rfl, HG.out⟩

    · have hzz : z = l.length := by omega
      have hB : B = true := HT.out (fun j hj => hr.out.2 j (by omega))
      subst hB
      have HG : Hid (w.grownBy wr none) := hr.out.1
      clear hr HT HF
      go_wp2
      go_ret
      exact ⟨rfl, HG.out⟩


end Go.Proofs.YtpglhdnepmcahaaGreatDoor
