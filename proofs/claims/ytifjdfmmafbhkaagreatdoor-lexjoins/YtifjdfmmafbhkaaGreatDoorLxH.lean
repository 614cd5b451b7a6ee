/-
  How many bytes a hexadecimal number, an exponent, a number has: the walks.
-/
import Derived.Test.YtifjdfmmafbhkaaGreatDoorLxG
namespace Go.Proofs.YtifjdfmmafbhkaaGreatDoor
open Go.RowKit

set_option maxHeartbeats 1600000 in
theorem hexWidth_any (w : World) (l : LxS) (hl : l.length ≤ 1000000000000000000) :
    Calls Tryz.prog 76 #[.string (ByteArray.mk ⟨l⟩)] w fun e w' => e = .returned (.int .i64 ((hexW l : Nat) : Int)) ∧ w.grownBy w' none := by
  have hz : (ByteArray.mk ⟨l⟩).size = l.length := rfl
  have HP1 : Hid (∀ W, Calls Tryz.prog 53 #[.string (ByteArray.mk ⟨l⟩), .string (ByteArray.mk ⟨[48, 120]⟩)] W fun e w' => e = .returned (.bool (decide (byN l 0 = 48) && decide (byN l 1 = 120))) ∧ w' = W) := fun W => prefix2 l hl 48 120 (by decide) (by decide) (by decide) (by decide) W
  have HP2 : Hid (∀ W, Calls Tryz.prog 53 #[.string (ByteArray.mk ⟨l⟩), .string (ByteArray.mk ⟨[48, 88]⟩)] W fun e w' => e = .returned (.bool (decide (byN l 0 = 48) && decide (byN l 1 = 88))) ∧ w' = W) := fun W => prefix2 l hl 48 88 (by decide) (by decide) (by decide) (by decide) W
  by_cases c : byN l 0 = 48 ∧ (byN l 1 = 120 ∨ byN l 1 = 88)
  · have hlen : 2 ≤ l.length := by
      refine Nat.le_of_not_lt fun e => ?_
      have := byN_out l 1 (by omega)
      omega
    have hE : hexW l = if tkN hxB (l.drop 2) = 0 then 0 else 2 + tkN hxB (l.drop 2) := by unfold hexW; rw [if_pos c]
    have hx := ext_drop l 2
    have ht2 : (l.drop 2).length = l.length - 2 := List.length_drop
    rw [hE]
    clear hE
    generalize l.drop 2 = t at *
    have hlt2 : l.length = t.length + 2 := by omega
    rw [hlt2] at hx
    have hle := tkN_le hxB t
    have hIn := hidJ (tkN_in hxB t)
    have hOut := hidJ (tkN_out hxB hxB_zero t)
    have hz2 : (ByteArray.mk ⟨t⟩).size = t.length := rfl
    have HX := hidJ (fun W => behindX_any (tkN hxB t) (by omega) W)
    generalize (if tkN hxB t = 0 then 0 else 2 + tkN hxB t) = R at *
    generalize tkN hxB t = N at *
    clear ht2
    rcases c with ⟨c0, c1 | c1⟩
    · have b1 : (decide (byN l 0 = 48) && decide (byN l 1 = 120)) = true := by rw [c0, c1]; rfl
      rw [b1] at HP1
      clear HP2 c0 c1 b1
      go_enter Tryz.func76, Tryz.ntmps76
      go_wp2_with (first | (go_at_call 53; first | (with_reducible refine (HP1.out _).mono ?_; rintro e w' ⟨rfl, rfl⟩) | (with_reducible refine (HP2.out _).mono ?_; rintro e w' ⟨rfl, rfl⟩)) | fail)
      have H0 := hidJ (ItW.start w' (ByteArray.mk ⟨t⟩))
      generalize w'.iter (ByteArray.mk ⟨t⟩) 0 = w1 at *
      generalize w'.heap.size = it at *
      go_loopg [3] (t.length + 1) (fun gk _ wr => ∃ p : Nat, t.length < p + gk ∧ p ≤ N ∧ Hid (ItW w' wr it (ByteArray.mk ⟨t⟩) p))
      case atStart => exact ⟨0, by omega, by omega, H0⟩
      case round =>
        obtain ⟨p, hg, hp, hr⟩ := hrel
        by_cases hlt : p < t.length
        · obtain ⟨k, rfl⟩ : ∃ k, gk = k + 1 := ⟨gk - 1, by omega⟩
          have hnx := fun ty => Lib.run_next_any_at (P := Tryz.prog) wr it (ByteArray.mk ⟨t⟩) p ty hr.out.2.1 hlt
          have HR := hidJ (hr.out.next (p + (Utf8.decode (ByteArray.mk ⟨t⟩) p).2))
          have hdl := decode_le (ByteArray.mk ⟨t⟩) p
          clear hr
          by_cases hpN : p < N
          · have hb : hxB (byN t p) = true := hIn.out p hpN
            have hc : byN t p < 128 := by rw [hxB_iff] at hb; omega
            rw [dec_lo hc] at hnx HR
            have HC := hidJ (fun W => hexDigit_any (byN t p) (by omega) W)
            rw [hb] at HC
            dsimp only at hnx HR
            clear hdl
            generalize hxV (byN t p) = v at *
            generalize byN t p = c at *
            generalize wr.iterAt it (ByteArray.mk ⟨t⟩) (p + 1) = w2 at *
            go_wp2_with (go_at_call 92; refine (HC.out _).mono ?_; rintro e w' ⟨rfl, rfl⟩)
            go_roundg k
            case measure => omega
            case rel => exact ⟨p + 1, by omega, by omega, HR⟩
          · obtain rfl : p = N := by omega
            have hb : hxB (Utf8.decode (ByteArray.mk ⟨t⟩) p).1 = false := by
              by_cases hc : byN t p < 128
              · rw [dec_lo hc]; exact hOut.out
              · have := (dec_hi hlt (by omega)).1
                cases h : hxB (Utf8.decode (ByteArray.mk ⟨t⟩) p).1 with
                | false => rfl
                | true => rw [hxB_iff] at h; omega
            have HC := hidJ (fun W => hexDigit_any (Utf8.decode (ByteArray.mk ⟨t⟩) p).1 hdl W)
            rw [hb] at HC
            clear hdl hb hIn hOut
            generalize hxV (Utf8.decode (ByteArray.mk ⟨t⟩) p).1 = v at *
            generalize (Utf8.decode (ByteArray.mk ⟨t⟩) p).1 = c at *
            generalize p + (Utf8.decode (ByteArray.mk ⟨t⟩) p).2 = q at *
            generalize wr.iterAt it (ByteArray.mk ⟨t⟩) q = w2 at *
            go_wp2_with (first | (go_at_call 92; refine (HC.out _).mono ?_; rintro e w' ⟨rfl, rfl⟩) | (go_at_call 93; refine (HX.out _).mono ?_; rintro e w' ⟨rfl, rfl⟩))
            go_ret
            exact ⟨rfl, HR.out.1⟩
        · obtain rfl : p = N := by omega
          have hnx := fun ty => Lib.run_next_end_at (P := Tryz.prog) wr it (ByteArray.mk ⟨t⟩) p ty hr.out.2.1 hlt
          have hpl : (t.length : Int) = (p : Int) := by omega
          have HR := hidJ hr.out.1
          have hlq : (l.length : Int) - 2 = (p : Int) := by omega
          clear hr hIn hOut
          go_wp2_with (go_at_call 93; first | (refine (HX.out _).mono ?_; rintro e w' ⟨rfl, rfl⟩) | (rw [hlq]; refine (HX.out _).mono ?_; rintro e w' ⟨rfl, rfl⟩))
          go_ret
          exact ⟨rfl, HR.out⟩
    · have b1 : (decide (byN l 0 = 48) && decide (byN l 1 = 120)) = false := by rw [c0, c1]; rfl
      have b2 : (decide (byN l 0 = 48) && decide (byN l 1 = 88)) = true := by rw [c0, c1]; rfl
      rw [b1] at HP1
      rw [b2] at HP2
      clear c0 c1 b1 b2
      go_enter Tryz.func76, Tryz.ntmps76
      go_wp2_with (first | (go_at_call 53; first | (with_reducible refine (HP1.out _).mono ?_; rintro e w' ⟨rfl, rfl⟩) | (with_reducible refine (HP2.out _).mono ?_; rintro e w' ⟨rfl, rfl⟩)) | fail)
      have H0 := hidJ (ItW.start w' (ByteArray.mk ⟨t⟩))
      generalize w'.iter (ByteArray.mk ⟨t⟩) 0 = w1 at *
      generalize w'.heap.size = it at *
      go_loopg [3] (t.length + 1) (fun gk _ wr => ∃ p : Nat, t.length < p + gk ∧ p ≤ N ∧ Hid (ItW w' wr it (ByteArray.mk ⟨t⟩) p))
      case atStart => exact ⟨0, by omega, by omega, H0⟩
      case round =>
        obtain ⟨p, hg, hp, hr⟩ := hrel
        by_cases hlt : p < t.length
        · obtain ⟨k, rfl⟩ : ∃ k, gk = k + 1 := ⟨gk - 1, by omega⟩
          have hnx := fun ty => Lib.run_next_any_at (P := Tryz.prog) wr it (ByteArray.mk ⟨t⟩) p ty hr.out.2.1 hlt
          have HR := hidJ (hr.out.next (p + (Utf8.decode (ByteArray.mk ⟨t⟩) p).2))
          have hdl := decode_le (ByteArray.mk ⟨t⟩) p
          clear hr
          by_cases hpN : p < N
          · have hb : hxB (byN t p) = true := hIn.out p hpN
            have hc : byN t p < 128 := by rw [hxB_iff] at hb; omega
            rw [dec_lo hc] at hnx HR
            have HC := hidJ (fun W => hexDigit_any (byN t p) (by omega) W)
            rw [hb] at HC
            dsimp only at hnx HR
            clear hdl
            generalize hxV (byN t p) = v at *
            generalize byN t p = c at *
            generalize wr.iterAt it (ByteArray.mk ⟨t⟩) (p + 1) = w2 at *
            go_wp2_with (go_at_call 92; refine (HC.out _).mono ?_; rintro e w' ⟨rfl, rfl⟩)
            go_roundg k
            case measure => omega
            case rel => exact ⟨p + 1, by omega, by omega, HR⟩
          · obtain rfl : p = N := by omega
            have hb : hxB (Utf8.decode (ByteArray.mk ⟨t⟩) p).1 = false := by
              by_cases hc : byN t p < 128
              · rw [dec_lo hc]; exact hOut.out
              · have := (dec_hi hlt (by omega)).1
                cases h : hxB (Utf8.decode (ByteArray.mk ⟨t⟩) p).1 with
                | false => rfl
                | true => rw [hxB_iff] at h; omega
            have HC := hidJ (fun W => hexDigit_any (Utf8.decode (ByteArray.mk ⟨t⟩) p).1 hdl W)
            rw [hb] at HC
            clear hdl hb hIn hOut
            generalize hxV (Utf8.decode (ByteArray.mk ⟨t⟩) p).1 = v at *
            generalize (Utf8.decode (ByteArray.mk ⟨t⟩) p).1 = c at *
            generalize p + (Utf8.decode (ByteArray.mk ⟨t⟩) p).2 = q at *
            generalize wr.iterAt it (ByteArray.mk ⟨t⟩) q = w2 at *
            go_wp2_with (first | (go_at_call 92; refine (HC.out _).mono ?_; rintro e w' ⟨rfl, rfl⟩) | (go_at_call 93; refine (HX.out _).mono ?_; rintro e w' ⟨rfl, rfl⟩))
            go_ret
            exact ⟨rfl, HR.out.1⟩
        · obtain rfl : p = N := by omega
          have hnx := fun ty => Lib.run_next_end_at (P := Tryz.prog) wr it (ByteArray.mk ⟨t⟩) p ty hr.out.2.1 hlt
          have hpl : (t.length : Int) = (p : Int) := by omega
          have HR := hidJ hr.out.1
          have hlq : (l.length : Int) - 2 = (p : Int) := by omega
          clear hr hIn hOut
          go_wp2_with (go_at_call 93; first | (refine (HX.out _).mono ?_; rintro e w' ⟨rfl, rfl⟩) | (rw [hlq]; refine (HX.out _).mono ?_; rintro e w' ⟨rfl, rfl⟩))
          go_ret
          exact ⟨rfl, HR.out⟩
  · have b1 : (decide (byN l 0 = 48) && decide (byN l 1 = 120)) = false := by
      rw [Bool.eq_false_iff]
      intro e
      rw [Bool.and_eq_true, decide_eq_true_eq, decide_eq_true_eq] at e
      exact c ⟨e.1, Or.inl e.2⟩
    have b2 : (decide (byN l 0 = 48) && decide (byN l 1 = 88)) = false := by
      rw [Bool.eq_false_iff]
      intro e
      rw [Bool.and_eq_true, decide_eq_true_eq, decide_eq_true_eq] at e
      exact c ⟨e.1, Or.inr e.2⟩
    have hE : hexW l = 0 := by unfold hexW; rw [if_neg c]
    rw [hE]
    rw [b1] at HP1
    rw [b2] at HP2
    go_enter Tryz.func76, Tryz.ntmps76
    go_wp2_with (go_at_call 53; first | (with_reducible refine (HP1.out _).mono ?_; rintro e w' ⟨rfl, rfl⟩) | (with_reducible refine (HP2.out _).mono ?_; rintro e w' ⟨rfl, rfl⟩))
    go_ret
    exact ⟨rfl, gb_refl _ _⟩
/-- the end of an exponent: its digits -/
theorem expW_of (l : LxS) (h : byN l 0 = 101 ∨ byN l 0 = 69) : expW l = if byN l 1 = 43 ∨ byN l 1 = 45 then (if tkN dgB (l.drop 2) = 0 then 0 else 2 + tkN dgB (l.drop 2)) else (if tkN dgB (l.drop 1) = 0 then 0 else 1 + tkN dgB (l.drop 1)) := by
  unfold expW
  rw [if_pos h]
set_option maxHeartbeats 1600000 in
theorem exponentWidth_any (w : World) (l : LxS) (hl : l.length ≤ 1000000000000000000) :
    Calls Tryz.prog 77 #[.string (ByteArray.mk ⟨l⟩)] w fun e w' => e = .returned (.int .i64 ((expW l : Nat) : Int)) ∧ w.grownBy w' none := by
  have hz : (ByteArray.mk ⟨l⟩).size = l.length := rfl
  have HP1 : Hid (∀ W, Calls Tryz.prog 53 #[.string (ByteArray.mk ⟨l⟩), .string (ByteArray.mk ⟨[101]⟩)] W fun e w' => e = .returned (.bool (decide (byN l 0 = 101))) ∧ w' = W) := fun W => prefix1 l hl 101 (by decide) (by decide) W
  have HP2 : Hid (∀ W, Calls Tryz.prog 53 #[.string (ByteArray.mk ⟨l⟩), .string (ByteArray.mk ⟨[69]⟩)] W fun e w' => e = .returned (.bool (decide (byN l 0 = 69))) ∧ w' = W) := fun W => prefix1 l hl 69 (by decide) (by decide) W
  by_cases c : byN l 0 = 101 ∨ byN l 0 = 69
  · have hlen : 1 ≤ l.length := by
      refine Nat.le_of_not_lt fun e => ?_
      have := byN_out l 0 (by omega)
      omega
    have hE := hidJ (expW_of l c)
    have hx1 := ext_drop l 1
    have hx2 := ext_drop l 2
    have ht1 : (l.drop 1).length ≤ l.length := by rw [List.length_drop]; omega
    have ht2 : (l.drop 2).length ≤ l.length := by rw [List.length_drop]; omega
    have hb1 : byN (l.drop 1) 0 = byN l 1 := byN_drop l 1 0
    have hlen2 : byN l 1 ≠ 0 → 2 ≤ l.length := fun h => Nat.le_of_not_lt fun e => h (byN_out l 1 (by omega))
    have HD1 := hidJ (fun W => digitsWidth_any W (l.drop 1) (by omega))
    have HD2 := hidJ (fun W => digitsWidth_any W (l.drop 2) (by omega))
    generalize hd2 : l.drop 2 = t2 at *
    generalize hd1 : l.drop 1 = t1 at *
    clear hd1 hd2
    have HP3 : Hid (∀ W, Calls Tryz.prog 53 #[.string (ByteArray.mk ⟨t1⟩), .string (ByteArray.mk ⟨[43]⟩)] W fun e w' => e = .returned (.bool (decide (byN l 1 = 43))) ∧ w' = W) := fun W => by rw [← hb1]; exact prefix1 t1 (by omega) 43 (by decide) (by decide) W
    have HP4 : Hid (∀ W, Calls Tryz.prog 53 #[.string (ByteArray.mk ⟨t1⟩), .string (ByteArray.mk ⟨[45]⟩)] W fun e w' => e = .returned (.bool (decide (byN l 1 = 45))) ∧ w' = W) := fun W => by rw [← hb1]; exact prefix1 t1 (by omega) 45 (by decide) (by decide) W
    have hn1 := tkN_le dgB t1
    have hn2 := tkN_le dgB t2
    generalize tkN dgB t1 = n1 at *
    generalize tkN dgB t2 = n2 at *
    clear hb1
    have key : ∀ e0 : Bool, decide (byN l 0 = 101) = e0 → (e0 = true ∨ decide (byN l 0 = 69) = true) := fun e0 h => by
      rcases c with c | c
      · left; rw [← h, c]; rfl
      · right; rw [c]; rfl
    have key2 := key _ rfl
    clear key c
    generalize decide (byN l 0 = 101) = B1 at *
    generalize decide (byN l 0 = 69) = B2 at *
    by_cases s1 : byN l 1 = 43 ∨ byN l 1 = 45
    · have hl2 : 2 ≤ l.length := hlen2 (by omega)
      rw [if_pos s1] at hE
      have key3 : decide (byN l 1 = 43) = true ∨ decide (byN l 1 = 45) = true := s1.imp (fun h => decide_eq_true h) (fun h => decide_eq_true h)
      clear hlen2 s1
      generalize decide (byN l 1 = 43) = B3 at *
      generalize decide (byN l 1 = 45) = B4 at *
      generalize expW l = R at *
      by_cases z : n2 = 0
      · rw [if_pos z] at hE
        have hR := hE.out
        subst hR
        subst z
        clear hE
        go_enter Tryz.func77, Tryz.ntmps77
        cases B1 <;> cases B2 <;> cases B3 <;> cases B4
        all_goals first | (exfalso; simp at key2; done) | (exfalso; simp at key3; done) | skip
        all_goals
          clear key2 key3
          go_wp2_with (first | (go_at_call 53; first | (with_reducible refine (HP1.out _).mono ?_; rintro e w' ⟨rfl, rfl⟩) | (with_reducible refine (HP2.out _).mono ?_; rintro e w' ⟨rfl, rfl⟩) | (with_reducible refine (HP3.out _).mono ?_; rintro e w' ⟨rfl, rfl⟩) | (with_reducible refine (HP4.out _).mono ?_; rintro e w' ⟨rfl, rfl⟩)))
          refine (HD2.out _).mono ?_
          rintro e w2 ⟨rfl, hg2⟩
          have H2 := hidJ hg2
          clear hg2 HD1 HD2 HP1 HP2 HP3 HP4
          go_wp2
          go_ret
          exact ⟨rfl, H2.out⟩
      · rw [if_neg z] at hE
        have zi : ¬ (n2 : Int) = 0 := by omega
        have hR := hE.out
        go_enter Tryz.func77, Tryz.ntmps77
        cases B1 <;> cases B2 <;> cases B3 <;> cases B4
        all_goals first | (exfalso; simp at key2; done) | (exfalso; simp at key3; done) | skip
        all_goals
          clear key2 key3 hE
          go_wp2_with (first | (go_at_call 53; first | (with_reducible refine (HP1.out _).mono ?_; rintro e w' ⟨rfl, rfl⟩) | (with_reducible refine (HP2.out _).mono ?_; rintro e w' ⟨rfl, rfl⟩) | (with_reducible refine (HP3.out _).mono ?_; rintro e w' ⟨rfl, rfl⟩) | (with_reducible refine (HP4.out _).mono ?_; rintro e w' ⟨rfl, rfl⟩)))
          refine (HD2.out _).mono ?_
          rintro e w2 ⟨rfl, hg2⟩
          have H2 := hidJ hg2
          clear hg2 HD1 HD2 HP1 HP2 HP3 HP4
          go_wp2
          go_ret
          exact ⟨ret_int (by omega), H2.out⟩
    · rw [if_neg s1] at hE
      have e3 : decide (byN l 1 = 43) = false := decide_eq_false (fun h => s1 (Or.inl h))
      have e4 : decide (byN l 1 = 45) = false := decide_eq_false (fun h => s1 (Or.inr h))
      rw [e3] at HP3
      rw [e4] at HP4
      clear e3 e4 s1 hlen2 HD2 hx2
      generalize expW l = R at *
      by_cases z : n1 = 0
      · rw [if_pos z] at hE
        have hR := hE.out
        subst hR
        subst z
        clear hE
        go_enter Tryz.func77, Tryz.ntmps77
        cases B1 <;> cases B2
        all_goals first | (exfalso; simp at key2; done) | skip
        all_goals
          clear key2
          go_wp2_with (first | (go_at_call 53; first | (with_reducible refine (HP1.out _).mono ?_; rintro e w' ⟨rfl, rfl⟩) | (with_reducible refine (HP2.out _).mono ?_; rintro e w' ⟨rfl, rfl⟩) | (with_reducible refine (HP3.out _).mono ?_; rintro e w' ⟨rfl, rfl⟩) | (with_reducible refine (HP4.out _).mono ?_; rintro e w' ⟨rfl, rfl⟩)))
          refine (HD1.out _).mono ?_
          rintro e w2 ⟨rfl, hg2⟩
          have H2 := hidJ hg2
          clear hg2 HD1 HP1 HP2 HP3 HP4
          go_wp2
          go_ret
          exact ⟨rfl, H2.out⟩
      · rw [if_neg z] at hE
        have zi : ¬ (n1 : Int) = 0 := by omega
        have hR := hE.out
        go_enter Tryz.func77, Tryz.ntmps77
        cases B1 <;> cases B2
        all_goals first | (exfalso; simp at key2; done) | skip
        all_goals
          clear key2 hE
          go_wp2_with (first | (go_at_call 53; first | (with_reducible refine (HP1.out _).mono ?_; rintro e w' ⟨rfl, rfl⟩) | (with_reducible refine (HP2.out _).mono ?_; rintro e w' ⟨rfl, rfl⟩) | (with_reducible refine (HP3.out _).mono ?_; rintro e w' ⟨rfl, rfl⟩) | (with_reducible refine (HP4.out _).mono ?_; rintro e w' ⟨rfl, rfl⟩)))
          refine (HD1.out _).mono ?_
          rintro e w2 ⟨rfl, hg2⟩
          have H2 := hidJ hg2
          clear hg2 HD1 HP1 HP2 HP3 HP4
          go_wp2
          go_ret
          exact ⟨ret_int (by omega), H2.out⟩
  · have b1 : decide (byN l 0 = 101) = false := decide_eq_false (fun h => c (Or.inl h))
    have b2 : decide (byN l 0 = 69) = false := decide_eq_false (fun h => c (Or.inr h))
    have hE : expW l = 0 := by unfold expW; rw [if_neg c]
    rw [hE]
    rw [b1] at HP1
    rw [b2] at HP2
    go_enter Tryz.func77, Tryz.ntmps77
    go_wp2_with (go_at_call 53; first | (with_reducible refine (HP1.out _).mono ?_; rintro e w' ⟨rfl, rfl⟩) | (with_reducible refine (HP2.out _).mono ?_; rintro e w' ⟨rfl, rfl⟩))
    go_ret
    exact ⟨rfl, gb_refl _ _⟩
end Go.Proofs.YtifjdfmmafbhkaaGreatDoor
