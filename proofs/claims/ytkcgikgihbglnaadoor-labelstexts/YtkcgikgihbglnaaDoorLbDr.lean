/-
  A name of a text that is read, by the document: what Run comes to: the walk.
-/
import Derived.Test.YtkcgikgihbglnaaDoorMgH
import Derived.Test.YtkcgikgihbglnaaDoorLbSe
import Derived.Test.YtkcgikgihbglnaaDoorMgA
import Derived.Deep.QuietTactic
import Derived.BigQuiet
namespace Go.Proofs.YtkcgikgihbglnaaDoor
open Go.RowKit

theorem hid {p : Prop} (h : p) : Hid p := h
def pRun (c : Bool) (x : UInt8) : Bool := pLetter x || (pDigit x || (c && decide (x.toNat = 58)))
/-- where a name from a place on ends -/
def rnK (s : List UInt8) (k : Nat) (c : Bool) : Nat := k + span (pRun c) (s.drop k)
def runS (s : List UInt8) (k : Nat) (c : Bool) : List UInt8 := (s.drop k).take (span (pRun c) (s.drop k))
theorem runS_name (s : List UInt8) (k : Nat) : runS s k false = nmS s k := by
  have h : pRun false = pinName := by funext x; rw [letter_name]; simp [pRun]
  unfold runS nmS
  rw [h]
theorem runS_metric (s : List UInt8) (k : Nat) : runS s k true = mtS s k := by
  have h : pRun true = pinMetric := by funext x; rw [name_metric, letter_name]; simp [pRun, Bool.or_assoc]
  unfold runS mtS
  rw [h]
theorem rnK_len (s : List UInt8) (k : Nat) (c : Bool) : rnK s k c = k + (runS s k c).length := by
  unfold rnK runS
  have := span_le (pRun c) (s.drop k)
  rw [List.length_take]
  omega
theorem rnK_le (s : List UInt8) (k : Nat) (c : Bool) (hk : k ≤ s.length) : rnK s k c ≤ s.length := by
  unfold rnK
  have := span_le (pRun c) (s.drop k)
  rw [List.length_drop] at this
  omega
theorem rnK_at {s : List UInt8} {k : Nat} {c : Bool} (hk : k < s.length) (h : pRun c (s.getD k 0) = true) : rnK s k c = rnK s (k + 1) c := by
  unfold rnK span
  have e : s.getD k 0 = s[k] := by simp [List.getD, hk]
  rw [List.drop_eq_getElem_cons hk, List.takeWhile_cons, ← e, if_pos h]
  simp
  omega
theorem rnK_no {s : List UInt8} {k : Nat} {c : Bool} (h : k < s.length → pRun c (s.getD k 0) = false) : rnK s k c = k := by
  unfold rnK span
  by_cases hk : k < s.length
  · have e : s.getD k 0 = s[k] := by simp [List.getD, hk]
    rw [List.drop_eq_getElem_cons hk, List.takeWhile_cons, ← e, h hk]
    simp
  · rw [List.drop_eq_nil_of_le (by omega)]
    simp

set_option maxRecDepth 8000 in
set_option maxHeartbeats 6400000 in
theorem refRun_any (w : World) (g : Nat) (s : List UInt8) (k b : Nat) (c : Bool) (h : TxR w g s k b) (hk : k ≤ s.length) (hs : s.length ≤ 1000000) :
    Calls Tryd.prog 69 #[.pointer (some ⟨g, 0, none⟩), .bool c] w fun e w' => e = .returned (.string (ByteArray.mk ⟨runS s (skp s k) c⟩)) ∧ TxR w' g s (rnK s (skp s k) c) b ∧ w.grownBy w' (some g) := by
  have HB : Hid (Calls Tryd.prog 68 #[.pointer (some ⟨g, 0, none⟩)] w fun e w' => e = .returned (.tuple #[]) ∧ TxR w' g s (skp s k) b ∧ w.grownBy w' (some g)) := refBlanks_any w g s k b h hk hs
  have hz : (ByteArray.mk ⟨s⟩).size = s.length := rfl
  have hK := skp_le s k hk
  generalize skp s k = k0 at *
  have HRE : Hid (runS s k0 c = (s.drop k0).take (rnK s k0 c - k0)) := by
    show runS s k0 c = _
    unfold runS rnK
    rw [Nat.add_sub_cancel_left]
  generalize runS s k0 c = RS at *
  clear h hk
  go_enter Tryd.func69, Tryd.ntmps69
  go_wp2_with fail
  refine HB.out.mono ?_
  rintro e w1 ⟨rfl, ht1, hg1⟩
  obtain ⟨c0, c1, c2, f1, f2⟩ := ht1.cells
  have H1 : Hid (TxR w1 g s k0 b ∧ w.grownBy w1 (some g)) := ⟨ht1, hg1⟩
  clear HB ht1 hg1
  go_wp2
  clear c0 c1 c2 f1 f2
  go_loopw [12] (fun _ wr => ∃ K : Nat, k0 ≤ K ∧ K ≤ s.length ∧ Hid (rnK s K c = rnK s k0 c ∧ TxR wr g s K b ∧ w.grownBy wr (some g))) (fun _ wr => s.length - atR wr g)
  case atStart => exact ⟨k0, Nat.le_refl _, hK, rfl, H1.out⟩
  case round =>
    obtain ⟨K, hK0, hKl, hr⟩ := hrel
    obtain ⟨c0, c1, c2, f1, f2⟩ := hr.out.2.1.cells
    have HA : Hid (atR wr g = K) := hr.out.2.1.at
    have HX : Hid (rnK s K c = rnK s k0 c ∧ TxR wr g s K b ∧ w.grownBy wr (some g)) := hr.out
    clear hr H1
    by_cases hkl : K < s.length
    · have hbn := byte_at hkl
      have hki : (K : Int) < (s.length : Int) := by omega
      have hkd : decide ((K : Int) < (s.length : Int)) = true := decide_eq_true hki
      have HY : Hid (pRun c (s.getD K 0) = true → rnK s K c = rnK s (K + 1) c) := @rnK_at s K c hkl
      have HZ : Hid (pRun c (s.getD K 0) = false → rnK s K c = K) := fun h => @rnK_no s K c (fun _ => h)
      have HL : Hid (∀ W, Calls Tryd.prog 45 #[.int .u8 ((s.getD K 0).toNat : Int)] W fun e w' => e = .returned (.bool (pLetter (s.getD K 0))) ∧ w' = W) := fun W => refLetter_any _ W
      have HD : Hid (∀ W, Calls Tryd.prog 46 #[.int .u8 ((s.getD K 0).toNat : Int)] W fun e w' => e = .returned (.bool (pDigit (s.getD K 0))) ∧ w' = W) := fun W => refDigit_any _ W
      generalize s.getD K 0 = x at *
      have HP : Hid (pRun c x = (pLetter x || (pDigit x || (c && decide (x.toNat = 58))))) := rfl
      cases hl1 : pLetter x with
      | true =>
        rw [hl1] at HL HP
        have HE : Hid (rnK s K c = rnK s (K + 1) c) := HY.out (by rw [HP.out]; rfl)
        clear HY HZ HP HD hl1
        go_wp2_with fail
        go_quiet (first | (go_at_call 45; exact Calls.quiet_of_same (HL.out _)) | (go_at_call 46; exact Calls.quiet_of_same (HD.out _)))
        generalize hW2 : wr.drewN nq = w2
        have H2 : Hid (TxR w2 g s K b ∧ w.grownBy w2 (some g)) := by
          have hgd : wr.grownBy w2 none := by rw [← hW2]; exact ⟨rfl, rfl, rfl, Nat.le_refl _, fun _ _ _ => rfl⟩
          exact ⟨HX.out.2.1.keep hgd, gb_none HX.out.2.2 hgd⟩
        obtain ⟨d0, d1, d2, e1A, e2A⟩ := H2.out.1.cells
        have HQ := hid HX.out.1
        clear hW2 HX c0 c1 c2 f1 f2
        go_wp2
        go_roundw
        case rel =>
          have hp1 := H2.out.1.put (K + 1) ((K : Int) + 1) (by omega)
          exact ⟨K + 1, by omega, by omega, by rw [← HE.out]; exact HQ.out, hp1.1, gb_trans H2.out.2 hp1.2 (fun _ h _ => h.symm)⟩
        case measure =>
          have hp1 := (H2.out.1.put (K + 1) ((K : Int) + 1) (by omega)).1.at
          rw [hp1, HA.out]
          omega
      | false =>
        rw [hl1] at HL HP
        cases hd1 : pDigit x with
        | true =>
          rw [hd1] at HD HP
          have HE : Hid (rnK s K c = rnK s (K + 1) c) := HY.out (by rw [HP.out]; rfl)
          clear HY HZ HP hl1 hd1
          go_wp2_with fail
          go_quiet (first | (go_at_call 45; exact Calls.quiet_of_same (HL.out _)) | (go_at_call 46; exact Calls.quiet_of_same (HD.out _)))
          generalize hW2 : wr.drewN nq = w2
          have H2 : Hid (TxR w2 g s K b ∧ w.grownBy w2 (some g)) := by
            have hgd : wr.grownBy w2 none := by rw [← hW2]; exact ⟨rfl, rfl, rfl, Nat.le_refl _, fun _ _ _ => rfl⟩
            exact ⟨HX.out.2.1.keep hgd, gb_none HX.out.2.2 hgd⟩
          obtain ⟨d0, d1, d2, e1B, e2B⟩ := H2.out.1.cells
          have HQ := hid HX.out.1
          clear hW2 HX c0 c1 c2 f1 f2
          go_wp2
          go_roundw
          case rel =>
            have hp1 := H2.out.1.put (K + 1) ((K : Int) + 1) (by omega)
            exact ⟨K + 1, by omega, by omega, by rw [← HE.out]; exact HQ.out, hp1.1, gb_trans H2.out.2 hp1.2 (fun _ h _ => h.symm)⟩
          case measure =>
            have hp1 := (H2.out.1.put (K + 1) ((K : Int) + 1) (by omega)).1.at
            rw [hp1, HA.out]
            omega
        | false =>
          rw [hd1] at HD HP
          cases c with
          | true =>
            by_cases hx : x.toNat = 58
            · have hx1 : x = 58 := UInt8.toNat_inj.1 hx
              subst hx1
              have HE : Hid (rnK s K true = rnK s (K + 1) true) := HY.out (by rw [HP.out]; rfl)
              clear HY HZ HP hl1 hd1 hx
              go_wp2_with fail
              go_quiet (first | (go_at_call 45; exact Calls.quiet_of_same (HL.out _)) | (go_at_call 46; exact Calls.quiet_of_same (HD.out _)))
              generalize hW2 : wr.drewN nq = w2
              have H2 : Hid (TxR w2 g s K b ∧ w.grownBy w2 (some g)) := by
                have hgd : wr.grownBy w2 none := by rw [← hW2]; exact ⟨rfl, rfl, rfl, Nat.le_refl _, fun _ _ _ => rfl⟩
                exact ⟨HX.out.2.1.keep hgd, gb_none HX.out.2.2 hgd⟩
              obtain ⟨d0, d1, d2, e1C, e2C⟩ := H2.out.1.cells
              have HQ := hid HX.out.1
              clear hW2 HX c0 c1 c2 f1 f2
              go_wp2
              go_roundw
              case rel =>
                have hp1 := H2.out.1.put (K + 1) ((K : Int) + 1) (by omega)
                exact ⟨K + 1, by omega, by omega, by rw [← HE.out]; exact HQ.out, hp1.1, gb_trans H2.out.2 hp1.2 (fun _ h _ => h.symm)⟩
              case measure =>
                have hp1 := (H2.out.1.put (K + 1) ((K : Int) + 1) (by omega)).1.at
                rw [hp1, HA.out]
                omega
            · have HE : Hid (rnK s K true = K) := HZ.out (by rw [HP.out, decide_eq_false hx]; rfl)
              have e1 : ((x.toNat : Int) == 58) = false := by rw [beq_eq_false_iff_ne]; omega
              have e1' : ¬ (x.toNat : Int) = 58 := by omega
              have e1'' : decide ((x.toNat : Int) = 58) = false := decide_eq_false e1'
              clear HY HZ HP hl1 hd1 hx
              go_wp2_with fail
              go_quiet (first | (go_at_call 45; exact Calls.quiet_of_same (HL.out _)) | (go_at_call 46; exact Calls.quiet_of_same (HD.out _)))
              generalize hW2 : wr.drewN nq = w2
              have H2 : Hid (TxR w2 g s K b ∧ w.grownBy w2 (some g)) := by
                have hgd : wr.grownBy w2 none := by rw [← hW2]; exact ⟨rfl, rfl, rfl, Nat.le_refl _, fun _ _ _ => rfl⟩
                exact ⟨HX.out.2.1.keep hgd, gb_none HX.out.2.2 hgd⟩
              obtain ⟨d0, d1, d2, -, -⟩ := H2.out.1.cells
              have HQ := hid (HE.out.symm.trans HX.out.1)
              clear hW2 HX c0 c1 c2 f1 f2 HE
              have hK0i : (k0 : Int) ≤ (K : Int) := by omega
              have hKli : (K : Int) ≤ (s.length : Int) := by omega
              go_wp2_with fail
              go_region
              go_wp2
              go_ret
              exact ⟨by (rw [HRE.out, ← HQ.out, ext_mk]; first | done | rfl), by rw [← HQ.out]; exact H2.out.1.keep (gb_drew _ none), gb_none H2.out.2 (gb_drew _ none)⟩
          | false =>
            have HE : Hid (rnK s K false = K) := HZ.out (by rw [HP.out]; rfl)
            clear HY HZ HP hl1 hd1
            go_wp2_with fail
            go_quiet (first | (go_at_call 45; exact Calls.quiet_of_same (HL.out _)) | (go_at_call 46; exact Calls.quiet_of_same (HD.out _)))
            generalize hW2 : wr.drewN nq = w2
            have H2 : Hid (TxR w2 g s K b ∧ w.grownBy w2 (some g)) := by
              have hgd : wr.grownBy w2 none := by rw [← hW2]; exact ⟨rfl, rfl, rfl, Nat.le_refl _, fun _ _ _ => rfl⟩
              exact ⟨HX.out.2.1.keep hgd, gb_none HX.out.2.2 hgd⟩
            obtain ⟨d0, d1, d2, -, -⟩ := H2.out.1.cells
            have HQ := hid (HE.out.symm.trans HX.out.1)
            clear hW2 HX c0 c1 c2 f1 f2 HE
            have hK0i : (k0 : Int) ≤ (K : Int) := by omega
            have hKli : (K : Int) ≤ (s.length : Int) := by omega
            go_wp2_with fail
            go_region
            go_wp2
            go_ret
            exact ⟨by (rw [HRE.out, ← HQ.out, ext_mk]; first | done | rfl), by rw [← HQ.out]; exact H2.out.1.keep (gb_drew _ none), gb_none H2.out.2 (gb_drew _ none)⟩
    · have hki : ¬ (K : Int) < (s.length : Int) := by omega
      have hkd : decide ((K : Int) < (s.length : Int)) = false := decide_eq_false hki
      have HE : Hid (rnK s K c = K) := rnK_no (fun h => absurd h hkl)
      have HL : Hid True := trivial
      have HD : Hid True := trivial
      go_wp2_with fail
      go_quiet (fail)
      generalize hW2 : wr.drewN nq = w2
      have H2 : Hid (TxR w2 g s K b ∧ w.grownBy w2 (some g)) := by
        have hgd : wr.grownBy w2 none := by rw [← hW2]; exact ⟨rfl, rfl, rfl, Nat.le_refl _, fun _ _ _ => rfl⟩
        exact ⟨HX.out.2.1.keep hgd, gb_none HX.out.2.2 hgd⟩
      obtain ⟨d0, d1, d2, -, -⟩ := H2.out.1.cells
      have HQ := hid (HE.out.symm.trans HX.out.1)
      clear hW2 HX c0 c1 c2 f1 f2 HE
      have hK0i : (k0 : Int) ≤ (K : Int) := by omega
      have hKli : (K : Int) ≤ (s.length : Int) := by omega
      go_wp2_with fail
      go_region
      go_wp2
      go_ret
      exact ⟨by (rw [HRE.out, ← HQ.out, ext_mk]; first | done | rfl), by rw [← HQ.out]; exact H2.out.1.keep (gb_drew _ none), gb_none H2.out.2 (gb_drew _ none)⟩
end Go.Proofs.YtkcgikgihbglnaaDoor
