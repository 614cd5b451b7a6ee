/-
  Signs, and the longest token at the head of a text: the walks.
-/
import Derived.Test.YtifjdfmmafbhkaaGreatDoorLxQ
namespace Go.Proofs.YtifjdfmmafbhkaaGreatDoor
open Go.RowKit

theorem rune_byte (l : LxS) : ((dcG l).1 < 128 ∧ (dcG l).1 = byN l 0) ∨ (128 ≤ (dcG l).1 ∧ (byN l 0 = 0 ∨ 128 ≤ byN l 0)) := by
  by_cases c : (dcG l).1 < 128
  · exact Or.inl ⟨c, (dcG_byte l c).1⟩
  · refine Or.inr ⟨by omega, ?_⟩
    by_cases h : l = []
    · subst h; exact Or.inl rfl
    · refine Or.inr (Nat.le_of_not_lt fun e => c ?_)
      rw [dcG_lo h e]
      exact e
theorem sgB_lt {c : Nat} (h : sgB c = true) : c < 128 ∧ c ≠ 0 := by
  unfold sgB at h
  rw [decide_eq_true_eq] at h
  simp only [List.mem_cons, List.not_mem_nil, or_false] at h
  omega
theorem containsSign_any (w : World) (l : LxS) :
    Calls Tryz.prog 68 #[.string (ByteArray.mk ⟨[40, 41, 123, 125, 91, 93, 44, 61, 43, 45, 42, 47, 37, 94, 62, 60]⟩), .int .i32 ((dcG l).1 : Int)] w fun e w' => e = .returned (.bool (sgB (byN l 0))) ∧ w.grownBy w' none := by
  rcases rune_byte l with ⟨h1, h2⟩ | ⟨h1, h2⟩
  · rw [h2] at h1 ⊢
    exact (containsSign_lo w _ h1).mono fun e w' h => ⟨h.1, by rw [h.2]; exact gb_refl _ _⟩
  · have hf : sgB (byN l 0) = false := Bool.eq_false_iff.2 (fun h => by have := sgB_lt h; omega)
    rw [hf]
    exact containsSign_hi w _ (by omega) (by have := dcG_rune l; omega)
theorem eq2 (l : LxS) (n m : Nat) (hn : n < 256) (h0 : n ≠ 0) (hm : m < 256) (h1 : m ≠ 0) : ((ByteArray.mk ⟨l.take 2⟩).toList == [UInt8.ofNat n, UInt8.ofNat m]) = (byN l 0 == n && byN l 1 == m) := by
  rw [mk_toList]
  have h := pre2 l n m hn h0 hm h1
  rw [Bool.eq_iff_iff] at h ⊢
  simp only [decide_eq_true_eq, Bool.and_eq_true, beq_iff_eq] at h ⊢
  exact h
theorem sixB (a b c d e f : Bool) : a = true ∨ (a = false ∧ b = true) ∨ (a = false ∧ b = false ∧ c = true) ∨ (a = false ∧ b = false ∧ c = false ∧ d = true) ∨ (a = false ∧ b = false ∧ c = false ∧ d = false ∧ e = true) ∨ (a = false ∧ b = false ∧ c = false ∧ d = false ∧ e = false ∧ f = true) ∨ (a = false ∧ b = false ∧ c = false ∧ d = false ∧ e = false ∧ f = false) := by
  cases a <;> cases b <;> cases c <;> cases d <;> cases e <;> cases f <;> decide
set_option maxRecDepth 8000 in
set_option maxHeartbeats 3200000 in
theorem signWidth_any (w : World) (l : LxS) (hl : l.length ≤ 1000000000000000000) (hT : U8S w) :
    Calls Tryz.prog 51 #[.string (ByteArray.mk ⟨l⟩)] w fun e w' => e = .returned (.int .i64 ((sgnW l : Nat) : Int)) ∧ w.grownBy w' none := by
  have hz : (ByteArray.mk ⟨l⟩).size = l.length := rfl
  have HD := hidJ (decodeRune_any w l hT)
  have HCn := hidJ (fun W => containsSign_any W l)
  have hx0 := ext_take l (min 2 l.length)
  have htk : l.take (min 2 l.length) = l.take 2 := by
    by_cases c : l.length < 2
    · rw [Nat.min_eq_right (by omega), List.take_length, List.take_of_length_le (by omega)]
    · rw [Nat.min_eq_left (by omega)]
  rw [htk] at hx0
  have F1 := hidJ (eq2 l 61 61 (by decide) (by decide) (by decide) (by decide))
  have F2 := hidJ (eq2 l 61 126 (by decide) (by decide) (by decide) (by decide))
  have F3 := hidJ (eq2 l 33 61 (by decide) (by decide) (by decide) (by decide))
  have F4 := hidJ (eq2 l 33 126 (by decide) (by decide) (by decide) (by decide))
  have F5 := hidJ (eq2 l 62 61 (by decide) (by decide) (by decide) (by decide))
  have F6 := hidJ (eq2 l 60 61 (by decide) (by decide) (by decide) (by decide))
  have hS : Hid (sgnW l = if ((byN l 0 == 61 && byN l 1 == 61) || (byN l 0 == 61 && byN l 1 == 126) || (byN l 0 == 33 && byN l 1 == 61) || (byN l 0 == 33 && byN l 1 == 126) || (byN l 0 == 62 && byN l 1 == 61) || (byN l 0 == 60 && byN l 1 == 61)) = true then 2 else if sgB (byN l 0) = true then 1 else 0) := by
    show sgnW l = _
    have : sg2 (byN l 0) (byN l 1) = ((byN l 0 == 61 && byN l 1 == 61) || (byN l 0 == 61 && byN l 1 == 126) || (byN l 0 == 33 && byN l 1 == 61) || (byN l 0 == 33 && byN l 1 == 126) || (byN l 0 == 62 && byN l 1 == 61) || (byN l 0 == 60 && byN l 1 == 61)) := by
      unfold sg2
      cases (byN l 0 == 61) <;> cases (byN l 0 == 33) <;> cases (byN l 1 == 61) <;> cases (byN l 1 == 126) <;> simp
    unfold sgnW
    rw [this]
  have G1 : ((ByteArray.mk ⟨l.take 2⟩).toList == [61, 61]) = (byN l 0 == 61 && byN l 1 == 61) := F1.out
  have G2 : ((ByteArray.mk ⟨l.take 2⟩).toList == [61, 126]) = (byN l 0 == 61 && byN l 1 == 126) := F2.out
  have G3 : ((ByteArray.mk ⟨l.take 2⟩).toList == [33, 61]) = (byN l 0 == 33 && byN l 1 == 61) := F3.out
  have G4 : ((ByteArray.mk ⟨l.take 2⟩).toList == [33, 126]) = (byN l 0 == 33 && byN l 1 == 126) := F4.out
  have G5 : ((ByteArray.mk ⟨l.take 2⟩).toList == [62, 61]) = (byN l 0 == 62 && byN l 1 == 61) := F5.out
  have G6 : ((ByteArray.mk ⟨l.take 2⟩).toList == [60, 61]) = (byN l 0 == 60 && byN l 1 == 61) := F6.out
  clear F1 F2 F3 F4 F5 F6 htk
  generalize (byN l 0 == 61 && byN l 1 == 61) = B1 at *
  generalize (byN l 0 == 61 && byN l 1 == 126) = B2 at *
  generalize (byN l 0 == 33 && byN l 1 == 61) = B3 at *
  generalize (byN l 0 == 33 && byN l 1 == 126) = B4 at *
  generalize (byN l 0 == 62 && byN l 1 == 61) = B5 at *
  generalize (byN l 0 == 60 && byN l 1 == 61) = B6 at *
  generalize ByteArray.mk ⟨l.take 2⟩ = st at *
  generalize sgB (byN l 0) = S at *
  obtain ⟨k, hk⟩ : ∃ k, min 2 l.length = k := ⟨_, rfl⟩
  have hki : min (2 : Int) (l.length : Int) = (k : Int) := by omega
  have hkl : (k : Int) ≤ (l.length : Int) := by omega
  rw [hk] at hx0
  generalize sgnW l = R at *
  by_cases c : l.length < 2
  · have c1 : ¬ (2 : Int) ≤ (l.length : Int) := by omega
    have c2 : (l.length : Int) < 2 := by omega
    obtain rfl : k = l.length := by omega
    rcases sixB B1 B2 B3 B4 B5 B6 with rfl | ⟨rfl, rfl⟩ | ⟨rfl, rfl, rfl⟩ | ⟨rfl, rfl, rfl, rfl⟩ | ⟨rfl, rfl, rfl, rfl, rfl⟩ | ⟨rfl, rfl, rfl, rfl, rfl, rfl⟩ | ⟨rfl, rfl, rfl, rfl, rfl, rfl⟩
    case' inr.inr.inr.inr.inr.inr =>
      have hR : R = if S = true then 1 else 0 := hS.out
      go_enter Tryz.func51, Tryz.ntmps51
      go_wp2_with fail
      refine HD.out.mono ?_
      rintro e w1 ⟨rfl, hg1⟩
      have H1 := hidJ hg1
      clear hg1 HD hS
      go_wp2_with fail
      refine (HCn.out _).mono ?_
      rintro e w2 ⟨rfl, hg2⟩
      have H2 := hidJ (gb_none H1.out hg2)
      clear hg2 HCn H1
      cases S with
      | true =>
        rw [if_pos rfl] at hR
        subst hR
        go_wp2
        go_ret
        exact ⟨rfl, H2.out⟩
      | false =>
        rw [if_neg (by decide)] at hR
        subst hR
        go_wp2
        go_ret
        exact ⟨rfl, H2.out⟩
    all_goals
      have hR : R = 2 := by rw [hS.out]; simp
      subst hR
      clear hS HD HCn
      go_enter Tryz.func51, Tryz.ntmps51
      go_wp2
      go_ret
      exact ⟨rfl, gb_refl _ _⟩
  · have c1 : (2 : Int) ≤ (l.length : Int) := by omega
    have c2 : ¬ (l.length : Int) < 2 := by omega
    obtain rfl : k = 2 := by omega
    rcases sixB B1 B2 B3 B4 B5 B6 with rfl | ⟨rfl, rfl⟩ | ⟨rfl, rfl, rfl⟩ | ⟨rfl, rfl, rfl, rfl⟩ | ⟨rfl, rfl, rfl, rfl, rfl⟩ | ⟨rfl, rfl, rfl, rfl, rfl, rfl⟩ | ⟨rfl, rfl, rfl, rfl, rfl, rfl⟩
    case' inr.inr.inr.inr.inr.inr =>
      have hR : R = if S = true then 1 else 0 := hS.out
      go_enter Tryz.func51, Tryz.ntmps51
      go_wp2_with fail
      refine HD.out.mono ?_
      rintro e w1 ⟨rfl, hg1⟩
      have H1 := hidJ hg1
      clear hg1 HD hS
      go_wp2_with fail
      refine (HCn.out _).mono ?_
      rintro e w2 ⟨rfl, hg2⟩
      have H2 := hidJ (gb_none H1.out hg2)
      clear hg2 HCn H1
      cases S with
      | true =>
        rw [if_pos rfl] at hR
        subst hR
        go_wp2
        go_ret
        exact ⟨rfl, H2.out⟩
      | false =>
        rw [if_neg (by decide)] at hR
        subst hR
        go_wp2
        go_ret
        exact ⟨rfl, H2.out⟩
    all_goals
      have hR : R = 2 := by rw [hS.out]; simp
      subst hR
      clear hS HD HCn
      go_enter Tryz.func51, Tryz.ntmps51
      go_wp2
      go_ret
      exact ⟨rfl, gb_refl _ _⟩
end Go.Proofs.YtifjdfmmafbhkaaGreatDoor
