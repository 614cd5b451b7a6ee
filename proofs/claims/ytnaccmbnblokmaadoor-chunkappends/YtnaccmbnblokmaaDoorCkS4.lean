/-
  The document's time, Put, Bytes: the walks.
-/
import Derived.Test.YtnaccmbnblokmaaDoorCkS3
namespace Go.Proofs.YtnaccmbnblokmaaDoor
open Go.RowKit

theorem I64_bv {x : Nat} (h : x < 18446744073709551616) : I64 (BitVec.ofNat 64 x) = (x : Int) := I64_of h
theorem turnB_form (d : Int) (F : Nat) (hF : formN d = F) : turnB d = headB F ++ bitsOf (U64 d % 2 ^ tw F) (tw F) := by rw [← hF]; rfl

set_option maxHeartbeats 3200000 in
theorem dTime_any (w0 w : World) (gs gp : Nat) (bs : List Bool) (T D : Int) (V : Nat) (L K : Int) (d : Int) (h : Sd w0 w gs gp bs T D V L K) (hsz : bs.length ≤ 1000000) :
    Calls Tryd.prog 64 #[.pointer (some ⟨gs, 0, none⟩), .int .i64 d] w fun e w' => e = .returned (.tuple #[]) ∧ Sd w0 w' gs gp (bs ++ turnB d) T D V L K ∧ KeepT tS w w' := by
  have HV := hidJ (And.intro h hsz)
  clear h hsz
  obtain ⟨F, hF⟩ : ∃ F, formN d = F := ⟨_, rfl⟩
  have HT := hidJ (turnB_form d F hF)
  have hF4 : F ≤ 4 := by rw [← hF]; exact formN_le d
  have HU := hidJ (U64_lt d)
  have HUW := hidJ (U64_wrap d)
  generalize turnB d = tB at *
  by_cases h0 : d = 0
  · subst h0
    have hF0 : F = 0 := by rw [← hF]; rfl
    subst hF0
    clear hF
    go_enter Tryd.func64, Tryd.ntmps64
    go_wp2_with fail
    refine (sd_writeN HV.out.1 0 1 _ _ rfl rfl (by decide) (by decide) (by have := HV.out.2; omega)).mono ?_
    rintro e w2 ⟨rfl, hS, hK⟩
    have HF : Hid (Sd w0 w2 gs gp (bs ++ tB) T D V L K ∧ KeepT tS w w2) := by
      refine ⟨?_, hK⟩
      rw [HT.out, show headB 0 ++ bitsOf (U64 0 % 2 ^ tw 0) (tw 0) = bitsOf 0 1 by decide]
      exact hS
    clear hS hK
    go_wp2_with fail
    go_end0
    exact ⟨rfl, HF.out⟩
  · have hdb : (d == 0) = false := by rw [beq_eq_false_iff_ne]; exact h0
    have hI1 : Hid (∀ W, Calls Tryd.prog 87 #[.int .i64 d, .int .i64 14] W fun e w' => e = .returned (.bool (decide (F ≤ 1))) ∧ W.grownBy w' none) := fun W => by have := refIn_any d 1 h0 (.inl rfl) W; rw [hF] at this; exact this
    have hI2 : Hid (∀ W, Calls Tryd.prog 87 #[.int .i64 d, .int .i64 17] W fun e w' => e = .returned (.bool (decide (F ≤ 2))) ∧ W.grownBy w' none) := fun W => by have := refIn_any d 2 h0 (.inr (.inl rfl)) W; rw [hF] at this; exact this
    have hI3 : Hid (∀ W, Calls Tryd.prog 87 #[.int .i64 d, .int .i64 20] W fun e w' => e = .returned (.bool (decide (F ≤ 3))) ∧ W.grownBy w' none) := fun W => by have := refIn_any d 3 h0 (.inr (.inr rfl)) W; rw [hF] at this; exact this
    have hF1 : 1 ≤ F := by rw [← hF]; exact formN_pos d h0
    clear hF
    rcases (show F = 1 ∨ F = 2 ∨ F = 3 ∨ F = 4 by omega) with rfl | rfl | rfl | rfl
    · go_enter Tryd.func64, Tryd.ntmps64
      have HS : Hid (Sd w0 w gs gp bs T D V L K ∧ KeepT tS w w) := ⟨HV.out.1, KeepT.refl _ _⟩
      go_wp2_with fail
      refine (hI1.out _).mono ?_
      rintro e wi1 ⟨rfl, hg⟩
      have HS : Hid (Sd w0 wi1 gs gp bs T D V L K ∧ KeepT tS w wi1) := ⟨HS.out.1.keep hg, HS.out.2.trans (KeepT.of_none hg)⟩
      clear hg
      rw [show decide (1 ≤ 1) = true from rfl]
      have HC := hidJ (sd_writeN HS.out.1 2 2 2 2 rfl rfl (by decide) (by decide) (by have := HV.out.2; omega))
      go_wp2_with fail
      with_reducible refine HC.out.mono ?_
      rintro e w2 ⟨rfl, hS, hK⟩
      have H2 := hidJ (And.intro hS (HS.out.2.trans hK))
      clear hS hK HC
      go_wp2_with fail
      refine (low_all d (BitVec.ofNat 64 (U64 d)) 14 (by decide) HUW.out _).mono ?_
      rintro e w3 ⟨rfl, hw3⟩
      have hw3 := hw3.symm
      subst hw3
      rw [nat_bv HU.out]
      obtain ⟨q, hq⟩ : ∃ q, U64 d % 2 ^ 14 = q := ⟨_, rfl⟩
      rw [hq]
      have HC := hidJ (sd_writeN H2.out.1 q 14 (q : Int) 14 rfl rfl (by have h1 := Nat.mod_le (U64 d) (2 ^ 14); rw [hq] at h1; have := HU.out; omega) (by decide) (by have := HV.out.2; simp [bitsOf_len]; omega))
      go_wp2_with fail
      with_reducible refine HC.out.mono ?_
      rintro e w4 ⟨rfl, hS, hK⟩
      have HF : Hid (Sd w0 w4 gs gp (bs ++ tB) T D V L K ∧ KeepT tS w w4) := by
        refine ⟨?_, H2.out.2.trans hK⟩
        rw [HT.out, show headB 1 = bitsOf 2 2 by decide, show tw 1 = 14 from rfl, hq, ← List.append_assoc]
        exact hS
      clear hS hK H2 HC
      go_wp2_with fail
      go_end0
      exact ⟨rfl, HF.out⟩
    · go_enter Tryd.func64, Tryd.ntmps64
      have HS : Hid (Sd w0 w gs gp bs T D V L K ∧ KeepT tS w w) := ⟨HV.out.1, KeepT.refl _ _⟩
      go_wp2_with fail
      refine (hI1.out _).mono ?_
      rintro e wi1 ⟨rfl, hg⟩
      have HS : Hid (Sd w0 wi1 gs gp bs T D V L K ∧ KeepT tS w wi1) := ⟨HS.out.1.keep hg, HS.out.2.trans (KeepT.of_none hg)⟩
      clear hg
      rw [show decide (2 ≤ 1) = false from rfl]
      go_wp2_with fail
      refine (hI2.out _).mono ?_
      rintro e wi2 ⟨rfl, hg⟩
      have HS : Hid (Sd w0 wi2 gs gp bs T D V L K ∧ KeepT tS w wi2) := ⟨HS.out.1.keep hg, HS.out.2.trans (KeepT.of_none hg)⟩
      clear hg
      rw [show decide (2 ≤ 2) = true from rfl]
      have HC := hidJ (sd_writeN HS.out.1 6 3 6 3 rfl rfl (by decide) (by decide) (by have := HV.out.2; omega))
      go_wp2_with fail
      with_reducible refine HC.out.mono ?_
      rintro e w2 ⟨rfl, hS, hK⟩
      have H2 := hidJ (And.intro hS (HS.out.2.trans hK))
      clear hS hK HC
      go_wp2_with fail
      refine (low_all d (BitVec.ofNat 64 (U64 d)) 17 (by decide) HUW.out _).mono ?_
      rintro e w3 ⟨rfl, hw3⟩
      have hw3 := hw3.symm
      subst hw3
      rw [nat_bv HU.out]
      obtain ⟨q, hq⟩ : ∃ q, U64 d % 2 ^ 17 = q := ⟨_, rfl⟩
      rw [hq]
      have HC := hidJ (sd_writeN H2.out.1 q 17 (q : Int) 17 rfl rfl (by have h1 := Nat.mod_le (U64 d) (2 ^ 17); rw [hq] at h1; have := HU.out; omega) (by decide) (by have := HV.out.2; simp [bitsOf_len]; omega))
      go_wp2_with fail
      with_reducible refine HC.out.mono ?_
      rintro e w4 ⟨rfl, hS, hK⟩
      have HF : Hid (Sd w0 w4 gs gp (bs ++ tB) T D V L K ∧ KeepT tS w w4) := by
        refine ⟨?_, H2.out.2.trans hK⟩
        rw [HT.out, show headB 2 = bitsOf 6 3 by decide, show tw 2 = 17 from rfl, hq, ← List.append_assoc]
        exact hS
      clear hS hK H2 HC
      go_wp2_with fail
      go_end0
      exact ⟨rfl, HF.out⟩
    · go_enter Tryd.func64, Tryd.ntmps64
      have HS : Hid (Sd w0 w gs gp bs T D V L K ∧ KeepT tS w w) := ⟨HV.out.1, KeepT.refl _ _⟩
      go_wp2_with fail
      refine (hI1.out _).mono ?_
      rintro e wi1 ⟨rfl, hg⟩
      have HS : Hid (Sd w0 wi1 gs gp bs T D V L K ∧ KeepT tS w wi1) := ⟨HS.out.1.keep hg, HS.out.2.trans (KeepT.of_none hg)⟩
      clear hg
      rw [show decide (3 ≤ 1) = false from rfl]
      go_wp2_with fail
      refine (hI2.out _).mono ?_
      rintro e wi2 ⟨rfl, hg⟩
      have HS : Hid (Sd w0 wi2 gs gp bs T D V L K ∧ KeepT tS w wi2) := ⟨HS.out.1.keep hg, HS.out.2.trans (KeepT.of_none hg)⟩
      clear hg
      rw [show decide (3 ≤ 2) = false from rfl]
      go_wp2_with fail
      refine (hI3.out _).mono ?_
      rintro e wi3 ⟨rfl, hg⟩
      have HS : Hid (Sd w0 wi3 gs gp bs T D V L K ∧ KeepT tS w wi3) := ⟨HS.out.1.keep hg, HS.out.2.trans (KeepT.of_none hg)⟩
      clear hg
      rw [show decide (3 ≤ 3) = true from rfl]
      have HC := hidJ (sd_writeN HS.out.1 14 4 14 4 rfl rfl (by decide) (by decide) (by have := HV.out.2; omega))
      go_wp2_with fail
      with_reducible refine HC.out.mono ?_
      rintro e w2 ⟨rfl, hS, hK⟩
      have H2 := hidJ (And.intro hS (HS.out.2.trans hK))
      clear hS hK HC
      go_wp2_with fail
      refine (low_all d (BitVec.ofNat 64 (U64 d)) 20 (by decide) HUW.out _).mono ?_
      rintro e w3 ⟨rfl, hw3⟩
      have hw3 := hw3.symm
      subst hw3
      rw [nat_bv HU.out]
      obtain ⟨q, hq⟩ : ∃ q, U64 d % 2 ^ 20 = q := ⟨_, rfl⟩
      rw [hq]
      have HC := hidJ (sd_writeN H2.out.1 q 20 (q : Int) 20 rfl rfl (by have h1 := Nat.mod_le (U64 d) (2 ^ 20); rw [hq] at h1; have := HU.out; omega) (by decide) (by have := HV.out.2; simp [bitsOf_len]; omega))
      go_wp2_with fail
      with_reducible refine HC.out.mono ?_
      rintro e w4 ⟨rfl, hS, hK⟩
      have HF : Hid (Sd w0 w4 gs gp (bs ++ tB) T D V L K ∧ KeepT tS w w4) := by
        refine ⟨?_, H2.out.2.trans hK⟩
        rw [HT.out, show headB 3 = bitsOf 14 4 by decide, show tw 3 = 20 from rfl, hq, ← List.append_assoc]
        exact hS
      clear hS hK H2 HC
      go_wp2_with fail
      go_end0
      exact ⟨rfl, HF.out⟩
    · go_enter Tryd.func64, Tryd.ntmps64
      have HS : Hid (Sd w0 w gs gp bs T D V L K ∧ KeepT tS w w) := ⟨HV.out.1, KeepT.refl _ _⟩
      go_wp2_with fail
      refine (hI1.out _).mono ?_
      rintro e wi1 ⟨rfl, hg⟩
      have HS : Hid (Sd w0 wi1 gs gp bs T D V L K ∧ KeepT tS w wi1) := ⟨HS.out.1.keep hg, HS.out.2.trans (KeepT.of_none hg)⟩
      clear hg
      rw [show decide (4 ≤ 1) = false from rfl]
      go_wp2_with fail
      refine (hI2.out _).mono ?_
      rintro e wi2 ⟨rfl, hg⟩
      have HS : Hid (Sd w0 wi2 gs gp bs T D V L K ∧ KeepT tS w wi2) := ⟨HS.out.1.keep hg, HS.out.2.trans (KeepT.of_none hg)⟩
      clear hg
      rw [show decide (4 ≤ 2) = false from rfl]
      go_wp2_with fail
      refine (hI3.out _).mono ?_
      rintro e wi3 ⟨rfl, hg⟩
      have HS : Hid (Sd w0 wi3 gs gp bs T D V L K ∧ KeepT tS w wi3) := ⟨HS.out.1.keep hg, HS.out.2.trans (KeepT.of_none hg)⟩
      clear hg
      rw [show decide (4 ≤ 3) = false from rfl]
      have HC := hidJ (sd_writeN HS.out.1 15 4 15 4 rfl rfl (by decide) (by decide) (by have := HV.out.2; omega))
      go_wp2_with fail
      with_reducible refine HC.out.mono ?_
      rintro e w2 ⟨rfl, hS, hK⟩
      have H2 := hidJ (And.intro hS (HS.out.2.trans hK))
      clear hS hK HC
      have hcv := HUW.out
      have HC := hidJ (sd_write H2.out.1 (BitVec.ofNat 64 (U64 d)) 64 (I64 (BitVec.ofNat 64 (U64 d))) 64 rfl rfl (by decide) (by have := HV.out.2; simp [bitsOf_len]; omega))
      go_wp2_with fail
      with_reducible refine HC.out.mono ?_
      rintro e w4 ⟨rfl, hS, hK⟩
      have HF : Hid (Sd w0 w4 gs gp (bs ++ tB) T D V L K ∧ KeepT tS w w4) := by
        refine ⟨?_, H2.out.2.trans hK⟩
        rw [HT.out, show headB 4 = bitsOf 15 4 by decide, show tw 4 = 64 from rfl, Nat.mod_eq_of_lt (show U64 d < 2 ^ 64 from HU.out), ← List.append_assoc]; rw [nat_bv HU.out] at hS
        exact hS
      clear hS hK H2 HC
      go_wp2_with fail
      go_end0
      exact ⟨rfl, HF.out⟩

end Go.Proofs.YtnaccmbnblokmaaDoor
