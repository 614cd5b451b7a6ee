/-
  The document's number: the walk.
-/
import Derived.Test.YtifjdfmmafbhkaaGreatDoorLxDa
import Derived.Deep.CutRange
import Derived.Deep.DeepCutAuto
namespace Go.Proofs.YtifjdfmmafbhkaaGreatDoor
open Go.RowKit

theorem hexW_pos (l : LxS) (p : Nat) : hexW (l.drop p) ≠ 0 ↔ (byN l p = 48 ∧ (byN l (p + 1) = 120 ∨ byN l (p + 1) = 88) ∧ hxB (byN l (p + 2)) = true) := by
  unfold hexW
  rw [byN_drop, byN_drop, List.drop_drop, Nat.add_zero]
  have h0 : byN (l.drop (p + 2)) 0 = byN l (p + 2) := by rw [byN_drop, Nat.add_zero]
  have hk : tkN hxB (l.drop (p + 2)) ≠ 0 ↔ hxB (byN l (p + 2)) = true := by
    constructor
    · intro h
      have := tkN_in hxB (l.drop (p + 2)) 0 (by omega)
      rwa [h0] at this
    · intro h e
      have := tkN_out hxB hxB_zero (l.drop (p + 2))
      rw [e, h0, h] at this
      cases this
  by_cases c : byN l p = 48 ∧ (byN l (p + 1) = 120 ∨ byN l (p + 1) = 88)
  · rw [if_pos c]
    by_cases d : tkN hxB (l.drop (p + 2)) = 0
    · rw [if_pos d]
      exact ⟨fun h => absurd rfl h, fun h => absurd (hk.2 h.2.2) (by simpa using d)⟩
    · rw [if_neg d]
      exact ⟨fun _ => ⟨c.1, c.2, hk.1 d⟩, fun _ => by omega⟩
  · rw [if_neg c]
    exact ⟨fun h => absurd rfl h, fun h => absurd ⟨h.1, h.2.1⟩ c⟩
theorem hexW_val (l : LxS) (p : Nat) (h : hexW (l.drop p) ≠ 0) : hexW (l.drop p) = 2 + tkN hxB (l.drop (p + 2)) := by
  have h1 := h
  unfold hexW at h1 ⊢
  rw [byN_drop, byN_drop, List.drop_drop, Nat.add_zero] at h1 ⊢
  split at h1
  · rename_i c
    rw [if_pos c]
    split at h1
    · exact absurd rfl h1
    · rename_i d
      rw [if_neg d]
  · exact absurd rfl h1
theorem decW_at (l : LxS) (p : Nat) : decW (l.drop p) = if byN l (p + tkN dgB (l.drop p)) = 46 then (if tkN dgB (l.drop p) + tkN dgB (l.drop (p + tkN dgB (l.drop p) + 1)) = 0 then 0 else tkN dgB (l.drop p) + 1 + tkN dgB (l.drop (p + tkN dgB (l.drop p) + 1))) else tkN dgB (l.drop p) := by
  unfold decW
  rw [byN_drop, List.drop_drop, ← Nat.add_assoc]
theorem expW_at (l : LxS) (p : Nat) : expW (l.drop p) = if byN l p = 101 ∨ byN l p = 69 then (if byN l (p + 1) = 43 ∨ byN l (p + 1) = 45 then (if tkN dgB (l.drop (p + 2)) = 0 then 0 else 2 + tkN dgB (l.drop (p + 2))) else (if tkN dgB (l.drop (p + 1)) = 0 then 0 else 1 + tkN dgB (l.drop (p + 1)))) else 0 := by
  unfold expW
  rw [byN_drop, byN_drop, List.drop_drop, List.drop_drop, Nat.add_zero]
theorem tk_one (l : LxS) (p : Nat) : tkN dgB (l.drop p) ≠ 0 ↔ dgB (byN l p) = true := by
  have h0 : byN (l.drop p) 0 = byN l p := by rw [byN_drop, Nat.add_zero]
  constructor
  · intro h
    have := tkN_in dgB (l.drop p) 0 (by omega)
    rwa [h0] at this
  · intro h e
    have := tkN_out dgB dgB_zero (l.drop p)
    rw [e, h0, h] at this
    cases this
set_option maxRecDepth 8000 in
set_option maxHeartbeats 6400000 in
theorem refNumber_any (w : World) (l : LxS) (p : Nat) (hl : l.length ≤ 1000000000000000000) (hp : p ≤ l.length) :
    Calls Tryz.prog 40 #[.string (ByteArray.mk ⟨l⟩), .int .i64 (p : Int)] w fun e w' => e = .returned (.int .i64 ((p + numW (l.drop p) : Nat) : Int)) ∧ w' = w := by
  have hz : (ByteArray.mk ⟨l⟩).size = l.length := rfl
  have HN : Hid (numW (l.drop p) = if hexW (l.drop p) ≠ 0 then hexW (l.drop p) else if decW (l.drop p) = 0 then 0 else decW (l.drop p) + expW ((l.drop p).drop (decW (l.drop p)))) := rfl
  generalize numW (l.drop p) = R at *
  obtain ⟨RR, hRR⟩ : ∃ RR, p + R = RR := ⟨_, rfl⟩
  rw [hRR]
  have HRR := hidJ hRR
  clear hRR
  have HX := hidJ (hexW_pos l p)
  have HXv := hidJ (hexW_val l p)
  go_enter Tryz.func40, Tryz.ntmps40
  go_upto_region 1 with fail
  go_cut [39] from 8 (fun s wx => s = .bool (decide (hexW (l.drop p) ≠ 0)) ∧ wx = w)
  case first =>
    by_cases c1 : p + 2 < l.length
    · have c1i : (p : Int) + 2 < (l.length : Int) := by omega
      have c1a : (p : Int) < (l.length : Int) := by omega
      have c1b : (p : Int) + 1 < (l.length : Int) := by omega
      have c1c : p < l.length := by omega
      have c1d : p + 1 < l.length := by omega
      obtain ⟨x0, hx0, hi0⟩ := byte_at l p c1c
      obtain ⟨x1, hx1, hi1⟩ := byte_at l (p + 1) c1d
      obtain ⟨x2, hx2, hi2⟩ := byte_at l (p + 2) c1
      have hA := HX.out
      rw [← hx0, ← hx1, ← hx2] at hA
      have HC := hidJ (refHex_any x2.toNat (by have := x2.toNat_lt; omega) w)
      have HA := hidJ hA
      clear hx0 hx1 hx2 hA
      by_cases c2 : x0.toNat = 48
      · have c2i : (x0.toNat : Int) = 48 := by omega
        by_cases c3 : x1.toNat = 120
        · have c3i : (x1.toNat : Int) = 120 := by omega
          generalize hxB x2.toNat = E at *
          have hD : decide (hexW (l.drop p) ≠ 0) = E := by
            cases E with
            | true => exact decide_eq_true (HA.out.2 ⟨by omega, by omega, rfl⟩)
            | false => exact decide_eq_false (fun h => by have := (HA.out.1 h).2.2; cases this)
          clear HA
          go_wp2_with (go_at_call 57; refine HC.out.mono ?_; rintro e w' ⟨rfl, rfl⟩)
          go_meet
          case rel => exact ⟨by rw [hD], rfl⟩
        · have c3i : ¬ (x1.toNat : Int) = 120 := by omega
          have c3j : ((x1.toNat : Int) == 120) = false := by rw [beq_eq_false_iff_ne]; exact c3i
          by_cases c4 : x1.toNat = 88
          · have c4i : (x1.toNat : Int) = 88 := by omega
            clear c3 c3i
            generalize hxB x2.toNat = E at *
            have hD : decide (hexW (l.drop p) ≠ 0) = E := by
              cases E with
              | true => exact decide_eq_true (HA.out.2 ⟨by omega, by omega, rfl⟩)
              | false => exact decide_eq_false (fun h => by have := (HA.out.1 h).2.2; cases this)
            clear HA
            go_wp2_with (go_at_call 57; refine HC.out.mono ?_; rintro e w' ⟨rfl, rfl⟩)
            go_meet
            case rel => exact ⟨by rw [hD], rfl⟩
          · have c4i : ¬ (x1.toNat : Int) = 88 := by omega
            have c4j : ((x1.toNat : Int) == 88) = false := by rw [beq_eq_false_iff_ne]; exact c4i
            have hD : decide (hexW (l.drop p) ≠ 0) = false := decide_eq_false (fun h => by have := (HA.out.1 h).2.1; omega)
            clear HA HC
            go_wp2
            go_meet
            case rel => exact ⟨by rw [hD], rfl⟩
      · have c2i : ¬ (x0.toNat : Int) = 48 := by omega
        have c2j : ((x0.toNat : Int) == 48) = false := by rw [beq_eq_false_iff_ne]; exact c2i
        have hD : decide (hexW (l.drop p) ≠ 0) = false := decide_eq_false (fun h => by have := (HA.out.1 h).1; omega)
        clear HA HC
        go_wp2
        go_meet
        case rel => exact ⟨by rw [hD], rfl⟩
    · have c1i : ¬ (p : Int) + 2 < (l.length : Int) := by omega
      have hD : decide (hexW (l.drop p) ≠ 0) = false := decide_eq_false (fun h => by
        have := (HX.out.1 h).2.2
        rw [byN_out l _ (by omega)] at this
        cases this)
      go_wp2
      go_meet
      case rel => exact ⟨by rw [hD], rfl⟩
  case rest =>
    obtain ⟨rfl, rfl⟩ := hcut
    by_cases ch : hexW (l.drop p) ≠ 0
    · rw [decide_eq_true ch]
      have hR := HN.out
      rw [if_pos ch, HXv.out ch] at hR
      obtain ⟨-, -, hh⟩ := HX.out.1 ch
      have hle := tkN_le hxB (l.drop (p + 2))
      rw [List.length_drop] at hle
      have hIn := hidJ (fun j => tkN_in hxB (l.drop (p + 2)) j)
      have hOut := hidJ (tkN_out hxB hxB_zero (l.drop (p + 2)))
      have hp2 : p + 2 < l.length := by
        apply Nat.lt_of_not_le
        intro h
        rw [byN_out l _ h] at hh
        cases hh
      have hNd : p + 2 + tkN hxB (l.drop (p + 2)) = RR := by have := HRR.out; omega
      have HI : Hid (∀ j, p + 2 ≤ j → j < RR → hxB (byN l j) = true) := fun j h1 h2 => by
        have := hIn.out (j - (p + 2)) (by omega)
        rwa [byN_drop, show p + 2 + (j - (p + 2)) = j by omega] at this
      have HO : Hid (hxB (byN l RR) = false) := by
        have := hOut.out
        rwa [byN_drop, hNd] at this
      have hNl : RR ≤ l.length := by omega
      have hpN : p + 2 ≤ RR := by omega
      clear HN HX HXv hIn hOut hh hR hle hNd ch
      go_wp2_with fail
      go_loopg [5] (l.length + 1) (fun gk v1 wr => ∃ i : Nat, v1 = .int .i64 (i : Int) ∧ l.length < i + gk ∧ p + 2 ≤ i ∧ i ≤ RR ∧ wr = wc)
      case atStart => exact ⟨p + 2, by go_num, by omega, Nat.le_refl _, by omega, rfl⟩
      case round =>
        obtain ⟨i, rfl, hg, hpi, hiN, rfl⟩ := hrel
        by_cases hlt : i < l.length
        · obtain ⟨k, rfl⟩ : ∃ k, gk = k + 1 := ⟨gk - 1, by omega⟩
          have hli : (i : Int) < (l.length : Int) := by omega
          obtain ⟨x, hx, hxi⟩ := byte_at l i hlt
          have HC := hidJ (refHex_any x.toNat (by have := x.toNat_lt; omega) wr)
          by_cases hiN2 : i < RR
          · have hd := HI.out i hpi hiN2
            rw [← hx] at hd
            rw [hd] at HC
            clear hd hx
            go_wp2_with fail
            refine HC.out.mono ?_
            rintro e w' ⟨rfl, rfl⟩
            go_wp2
            go_roundg k
            case measure => omega
            case rel => exact ⟨i + 1, by go_num, by omega, by omega, by omega, rfl⟩
          · obtain rfl : i = RR := by omega
            have hd := HO.out
            rw [← hx] at hd
            rw [hd] at HC
            clear hd hx
            go_wp2_with fail
            refine HC.out.mono ?_
            rintro e w' ⟨rfl, rfl⟩
            go_wp2
            go_ret
            exact ⟨rfl, rfl⟩
        · obtain rfl : i = RR := by omega
          have hli : ¬ (i : Int) < (l.length : Int) := by omega
          go_wp2
          go_ret
          exact ⟨rfl, rfl⟩
    · rw [decide_eq_false ch]
      have hR := HN.out
      rw [if_neg ch] at hR
      have HR := hidJ hR
      have HDw := hidJ (decW_at l p)
      have htl := tkN_le dgB (l.drop p)
      rw [List.length_drop] at htl
      rw [List.drop_drop] at HR
      have hDl := decW_le (l.drop p)
      rw [List.length_drop] at hDl
      have HC1 := hidJ (refRun_any wc l p hl hp)
      have HT1 := hidJ (tk_one l (p + tkN dgB (l.drop p) + 1))
      have HRn := hidJ (fun k h => refRun_any wc l k hl h)
      clear HN HX HXv ch hR
      generalize decW (l.drop p) = D at *
      obtain ⟨k1, hk1⟩ : ∃ k, p + tkN dgB (l.drop p) = k := ⟨_, rfl⟩
      rw [hk1] at HC1 HDw HT1
      have hk1l : k1 ≤ l.length := by omega
      have hpk : p ≤ k1 := by omega
      have hta : tkN dgB (l.drop p) = k1 - p := by omega
      rw [hta] at HDw
      clear hta htl hk1
      go_upto_region 7 with (go_at_call 59; refine HC1.out.mono ?_; rintro e w' ⟨rfl, rfl⟩)
      go_cut [86] from 8 (fun s wx => s = .bool (decide (byN l k1 = 46 ∧ (p < k1 ∨ dgB (byN l (k1 + 1)) = true))) ∧ wx = w')
      case first =>
        by_cases d1 : k1 < l.length
        · have d1i : (k1 : Int) < (l.length : Int) := by omega
          obtain ⟨x, hx, hxi⟩ := byte_at l k1 d1
          by_cases d2 : x.toNat = 46
          · have d2i : (x.toNat : Int) = 46 := by omega
            by_cases d3 : p < k1
            · have d3i : (p : Int) < (k1 : Int) := by omega
              have HD := hidJ (show decide (byN l k1 = 46 ∧ (p < k1 ∨ dgB (byN l (k1 + 1)) = true)) = true from decide_eq_true ⟨hx.symm.trans d2, Or.inl d3⟩)
              clear hx d2
              go_wp2
              go_meet
              case rel => exact ⟨by rw [HD.out], rfl⟩
            · have d3i : ¬ (p : Int) < (k1 : Int) := by omega
              by_cases d4 : k1 + 1 < l.length
              · have d4i : (k1 : Int) + 1 < (l.length : Int) := by omega
                obtain ⟨y, hy, hyi⟩ := byte_at l (k1 + 1) d4
                have HCd := hidJ (refDigit_any y.toNat (by have := y.toNat_lt; omega) w')
                have HD := hidJ (show decide (byN l k1 = 46 ∧ (p < k1 ∨ dgB (byN l (k1 + 1)) = true)) = dgB y.toNat from by
                  rw [Bool.eq_iff_iff, decide_eq_true_eq, hy]
                  exact ⟨fun h => h.2.resolve_left d3, fun h => ⟨hx.symm.trans d2, Or.inr h⟩⟩)
                clear hx hy d2
                generalize dgB y.toNat = E at *
                go_wp2_with (go_at_call 38; refine HCd.out.mono ?_; rintro e w4 ⟨rfl, rfl⟩)
                go_meet
                case rel => exact ⟨by rw [HD.out], rfl⟩
              · have d4i : ¬ (k1 : Int) + 1 < (l.length : Int) := by omega
                have HD := hidJ (show decide (byN l k1 = 46 ∧ (p < k1 ∨ dgB (byN l (k1 + 1)) = true)) = false from decide_eq_false (fun h => by
                  rcases h.2 with h | h
                  · exact d3 h
                  · rw [byN_out l _ (by omega)] at h
                    cases h))
                clear hx d2
                go_wp2
                go_meet
                case rel => exact ⟨by rw [HD.out], rfl⟩
          · have d2i : ¬ (x.toNat : Int) = 46 := by omega
            have d2j : ((x.toNat : Int) == 46) = false := by rw [beq_eq_false_iff_ne]; exact d2i
            have HD := hidJ (show decide (byN l k1 = 46 ∧ (p < k1 ∨ dgB (byN l (k1 + 1)) = true)) = false from decide_eq_false (fun h => d2 (hx.trans h.1)))
            clear hx d2
            go_wp2
            go_meet
            case rel => exact ⟨by rw [HD.out], rfl⟩
        · have d1i : ¬ (k1 : Int) < (l.length : Int) := by omega
          have HD := hidJ (show decide (byN l k1 = 46 ∧ (p < k1 ∨ dgB (byN l (k1 + 1)) = true)) = false from decide_eq_false (fun h => by
            have := h.1
            rw [byN_out l _ (by omega)] at this
            cases this))
          go_wp2
          go_meet
          case rel => exact ⟨by rw [HD.out], rfl⟩
      case rest =>
        obtain ⟨rfl, rfl⟩ := hcut
        have HT2 := hidJ (tk_one l (k1 + 1))
        have hkd : D = if byN l k1 = 46 then (if k1 - p + tkN dgB (l.drop (k1 + 1)) = 0 then 0 else k1 - p + 1 + tkN dgB (l.drop (k1 + 1))) else k1 - p := HDw.out
        obtain ⟨k2, hk2⟩ : ∃ k, p + D = k := ⟨_, rfl⟩
        go_upto_if 86 with fail
        go_cut [6] from 8 (fun s wx => s = .int .i64 (k2 : Int) ∧ wx = wc)
        case first =>
          by_cases hB : byN l k1 = 46 ∧ (p < k1 ∨ dgB (byN l (k1 + 1)) = true)
          · have hk1l2 : k1 + 1 ≤ l.length := by
              apply Nat.lt_of_not_le
              intro h
              have := hB.1
              rw [byN_out l _ h] at this
              cases this
            have HCr := hidJ (HRn.out (k1 + 1) hk1l2)
            have hk : k1 + 1 + tkN dgB (l.drop (k1 + 1)) = k2 := by
              rw [if_pos hB.1] at hkd
              rw [if_neg] at hkd
              · omega
              · intro e
                rcases hB.2 with h | h
                · omega
                · exact HT2.out.2 h (by omega)
            rw [hk] at HCr
            rw [decide_eq_true hB]
            clear hk hkd hk2 HT2 hB HDw HT1 HRn
            go_wp2_with fail
            refine HCr.out.mono ?_
            rintro e w4 ⟨rfl, rfl⟩
            go_wp2
            go_meet
            case rel => exact ⟨rfl, rfl⟩
          · have hk : k1 = k2 := by
              by_cases c : byN l k1 = 46
              · rw [if_pos c] at hkd
                have h1 : ¬ p < k1 := fun h => hB ⟨c, Or.inl h⟩
                have h2 : tkN dgB (l.drop (k1 + 1)) = 0 := Decidable.byContradiction (fun h => hB ⟨c, Or.inr (HT2.out.1 h)⟩)
                rw [if_pos (by omega)] at hkd
                omega
              · rw [if_neg c] at hkd
                omega
            subst hk
            rw [decide_eq_false hB]
            clear hkd hk2 HT2 hB HDw HT1 HRn
            go_wp2
            go_meet
            case rel => exact ⟨rfl, rfl⟩
        case rest =>
          obtain ⟨rfl, rfl⟩ := hcut
          have hk2l : k2 ≤ l.length := by omega
          clear HT1 HT2 hkd HDw
          by_cases hz0 : D = 0
          · have hRR : RR = k2 := by
              have h1 := HR.out
              have h2 := HRR.out
              rw [if_pos hz0] at h1
              omega
            have hkp : k2 = p := by omega
            subst hkp hRR
            clear HR HRR HRn hk2 hz0
            go_wp2
            go_ret
            exact ⟨rfl, rfl⟩
          · have hne : ¬ (k2 : Int) = (p : Int) := by omega
            have hnej : ((k2 : Int) == (p : Int)) = false := by rw [beq_eq_false_iff_ne]; exact hne
            have hRR : RR = k2 + expW (l.drop k2) := by
              have h1 := HR.out
              have h2 := HRR.out
              rw [if_neg hz0, hk2] at h1
              omega
            rw [expW_at] at hRR
            have HRE := hidJ hRR
            clear HR HRR hk2 hz0 hRR hDl
            go_upto_region 12 with fail
            go_cut [111] from 8 (fun s wx => s = .bool (decide (byN l k2 = 101 ∨ byN l k2 = 69)) ∧ wx = wc)
            case first =>
              by_cases d1 : k2 < l.length
              · have d1i : (k2 : Int) < (l.length : Int) := by omega
                obtain ⟨x, hx, hxi⟩ := byte_at l k2 d1
                by_cases d2 : x.toNat = 101
                · have d2i : (x.toNat : Int) = 101 := by omega
                  have HD := hidJ (show decide (byN l k2 = 101 ∨ byN l k2 = 69) = true from decide_eq_true (Or.inl (hx.symm.trans d2)))
                  clear hx d2
                  go_wp2
                  go_meet
                  case rel => exact ⟨by rw [HD.out], rfl⟩
                · have d2i : ¬ (x.toNat : Int) = 101 := by omega
                  have d2j : ((x.toNat : Int) == 101) = false := by rw [beq_eq_false_iff_ne]; exact d2i
                  by_cases d3 : x.toNat = 69
                  · have d3i : (x.toNat : Int) = 69 := by omega
                    have HD := hidJ (show decide (byN l k2 = 101 ∨ byN l k2 = 69) = true from decide_eq_true (Or.inr (hx.symm.trans d3)))
                    clear hx d2 d2i d2j d3
                    go_wp2
                    go_meet
                    case rel => exact ⟨by rw [HD.out], rfl⟩
                  · have d3i : ¬ (x.toNat : Int) = 69 := by omega
                    have d3j : ((x.toNat : Int) == 69) = false := by rw [beq_eq_false_iff_ne]; exact d3i
                    have HD := hidJ (show decide (byN l k2 = 101 ∨ byN l k2 = 69) = false from decide_eq_false (fun h => h.elim (fun h => d2 (hx.trans h)) (fun h => d3 (hx.trans h))))
                    clear hx d2 d3
                    go_wp2
                    go_meet
                    case rel => exact ⟨by rw [HD.out], rfl⟩
              · have d1i : ¬ (k2 : Int) < (l.length : Int) := by omega
                have HD := hidJ (show decide (byN l k2 = 101 ∨ byN l k2 = 69) = false from decide_eq_false (fun h => by rw [byN_out l _ (by omega)] at h; omega))
                go_wp2
                go_meet
                case rel => exact ⟨by rw [HD.out], rfl⟩
            case rest =>
              obtain ⟨rfl, rfl⟩ := hcut
              by_cases hE : byN l k2 = 101 ∨ byN l k2 = 69
              · rw [decide_eq_true hE]
                have hk2m : k2 + 1 ≤ l.length := by
                  apply Nat.lt_of_not_le
                  intro h
                  rw [byN_out l _ h] at hE
                  omega
                have hRE := HRE.out
                rw [if_pos hE] at hRE
                have HRF := hidJ hRE
                clear HRE hRE hE
                go_upto_region 14 with fail
                go_cut [129] from 8 (fun s wx => s = .bool (decide (byN l (k2 + 1) = 43 ∨ byN l (k2 + 1) = 45)) ∧ wx = wc)
                case first =>
                  by_cases d1 : k2 + 1 < l.length
                  · have d1i : (k2 : Int) + 1 < (l.length : Int) := by omega
                    obtain ⟨x, hx, hxi⟩ := byte_at l (k2 + 1) d1
                    by_cases d2 : x.toNat = 43
                    · have d2i : (x.toNat : Int) = 43 := by omega
                      have HD := hidJ (show decide (byN l (k2 + 1) = 43 ∨ byN l (k2 + 1) = 45) = true from decide_eq_true (Or.inl (hx.symm.trans d2)))
                      clear hx d2
                      go_wp2
                      go_meet
                      case rel => exact ⟨by rw [HD.out], rfl⟩
                    · have d2i : ¬ (x.toNat : Int) = 43 := by omega
                      have d2j : ((x.toNat : Int) == 43) = false := by rw [beq_eq_false_iff_ne]; exact d2i
                      by_cases d3 : x.toNat = 45
                      · have d3i : (x.toNat : Int) = 45 := by omega
                        have HD := hidJ (show decide (byN l (k2 + 1) = 43 ∨ byN l (k2 + 1) = 45) = true from decide_eq_true (Or.inr (hx.symm.trans d3)))
                        clear hx d2 d2i d2j d3
                        go_wp2
                        go_meet
                        case rel => exact ⟨by rw [HD.out], rfl⟩
                      · have d3i : ¬ (x.toNat : Int) = 45 := by omega
                        have d3j : ((x.toNat : Int) == 45) = false := by rw [beq_eq_false_iff_ne]; exact d3i
                        have HD := hidJ (show decide (byN l (k2 + 1) = 43 ∨ byN l (k2 + 1) = 45) = false from decide_eq_false (fun h => h.elim (fun h => d2 (hx.trans h)) (fun h => d3 (hx.trans h))))
                        clear hx d2 d3
                        go_wp2
                        go_meet
                        case rel => exact ⟨by rw [HD.out], rfl⟩
                  · have d1i : ¬ (k2 : Int) + 1 < (l.length : Int) := by omega
                    have HD := hidJ (show decide (byN l (k2 + 1) = 43 ∨ byN l (k2 + 1) = 45) = false from decide_eq_false (fun h => by rw [byN_out l _ (by omega)] at h; omega))
                    go_wp2
                    go_meet
                    case rel => exact ⟨by rw [HD.out], rfl⟩
                case rest =>
                  obtain ⟨rfl, rfl⟩ := hcut
                  by_cases hF : byN l (k2 + 1) = 43 ∨ byN l (k2 + 1) = 45
                  · rw [decide_eq_true hF]
                    have hk2n : k2 + 2 ≤ l.length := by
                      apply Nat.lt_of_not_le
                      intro h
                      rw [byN_out l _ h] at hF
                      omega
                    have hRE := HRF.out
                    rw [if_pos hF] at hRE
                    have HCr := hidJ (HRn.out (k2 + 2) hk2n)
                    clear HRF hF HRn
                    obtain ⟨e2, he2⟩ : ∃ e, k2 + 2 = e := ⟨_, rfl⟩
                    have hei : (k2 : Int) + 1 + 1 = (e2 : Int) := by omega
                    have hej : (k2 : Int) + 2 = (e2 : Int) := by omega
                    rw [he2] at HCr hRE
                    generalize tkN dgB (l.drop e2) = T at *
                    obtain ⟨e3, he3⟩ : ∃ e, e2 + T = e := ⟨_, rfl⟩
                    rw [he3] at HCr
                    by_cases hT : T = 0
                    · have hRR : RR = k2 := by rw [if_pos hT] at hRE; omega
                      have he32 : e3 = e2 := by omega
                      subst hRR he32
                      have hlt : ¬ (e3 : Int) < (e3 : Int) := by omega
                      clear hRE he3 hT he2
                      go_wp2_with fail
                      refine HCr.out.mono ?_
                      rintro e w4 ⟨rfl, rfl⟩
                      go_wp2
                      go_ret
                      exact ⟨rfl, rfl⟩
                    · have hRR : RR = e3 := by rw [if_neg hT] at hRE; omega
                      subst hRR
                      have hlt : (e2 : Int) < (RR : Int) := by omega
                      clear hRE he3 hT he2
                      go_wp2_with fail
                      refine HCr.out.mono ?_
                      rintro e w4 ⟨rfl, rfl⟩
                      go_wp2_with fail
                      refine HCr.out.mono ?_
                      rintro e w5 ⟨rfl, rfl⟩
                      go_wp2
                      go_ret
                      exact ⟨rfl, rfl⟩
                  · rw [decide_eq_false hF]
                    have hRE := HRF.out
                    rw [if_neg hF] at hRE
                    have HCr := hidJ (HRn.out (k2 + 1) hk2m)
                    clear HRF hF HRn
                    obtain ⟨e2, he2⟩ : ∃ e, k2 + 1 = e := ⟨_, rfl⟩
                    have hei : (k2 : Int) + 1 = (e2 : Int) := by omega
                    rw [he2] at HCr hRE
                    generalize tkN dgB (l.drop e2) = T at *
                    obtain ⟨e3, he3⟩ : ∃ e, e2 + T = e := ⟨_, rfl⟩
                    rw [he3] at HCr
                    by_cases hT : T = 0
                    · have hRR : RR = k2 := by rw [if_pos hT] at hRE; omega
                      have he32 : e3 = e2 := by omega
                      subst hRR he32
                      have hlt : ¬ (e3 : Int) < (e3 : Int) := by omega
                      clear hRE he3 hT he2
                      go_wp2_with fail
                      refine HCr.out.mono ?_
                      rintro e w4 ⟨rfl, rfl⟩
                      go_wp2
                      go_ret
                      exact ⟨rfl, rfl⟩
                    · have hRR : RR = e3 := by rw [if_neg hT] at hRE; omega
                      subst hRR
                      have hlt : (e2 : Int) < (RR : Int) := by omega
                      clear hRE he3 hT he2
                      go_wp2_with fail
                      refine HCr.out.mono ?_
                      rintro e w4 ⟨rfl, rfl⟩
                      go_wp2_with fail
                      refine HCr.out.mono ?_
                      rintro e w5 ⟨rfl, rfl⟩
                      go_wp2
                      go_ret
                      exact ⟨rfl, rfl⟩
              · rw [decide_eq_false hE]
                have hRR : RR = k2 := by
                  have h := HRE.out
                  rw [if_neg hE] at h
                  omega
                subst hRR
                clear HRE HRn hE
                go_wp2
                go_ret
                exact ⟨rfl, rfl⟩
end Go.Proofs.YtifjdfmmafbhkaaGreatDoor
