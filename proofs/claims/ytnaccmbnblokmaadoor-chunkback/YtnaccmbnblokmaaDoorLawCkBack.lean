/-
  ChunkBack: samples through bytes are what they were; unlike samples are unlike bytes: the walk.
-/
import Derived.Test.YtnaccmbnblokmaaDoorCkB8
import Derived.Deep.Cut
namespace Go.Proofs.YtnaccmbnblokmaaDoor
open Go.RowKit

theorem bytes_ne {X Y : List UInt8} (h : X ≠ Y) : (X == Y) = false := by rw [beq_eq_false_iff_ne]; exact h

set_option maxRecDepth 8000 in
set_option maxHeartbeats 12800000 in
theorem back_walk (v u z : Value) (l m : List SmpT) (b : List UInt8) (w : World) (hv : RdP w v l) (hu : RdP w u m) (hz : Rd w z b) (hl : SmIn l) (hm : SmIn m) (hb : b.length < 281474976710656) (hT : Tk w) :
    Calls Tryd.prog 6 #[v, u, z] w fun e w' => e = .returned (.bool true) ∧ Below w.heap.size w w' := by
  have HV := hidJ (And.intro hv (And.intro hu (And.intro hz (And.intro hl (And.intro hm (And.intro hb hT))))))
  have HE1 := hidJ (enc_uni w v l hv hl hT)
  obtain ⟨a, c, rfl, hlc, hcm, -⟩ := hv
  have HLC : Hid (l.length ≤ c ∧ c ≤ 9223372036854775807) := ⟨hlc, hcm⟩
  clear hlc hcm hu hz
  clear hl hm hb hT
  go_enter Tryd.func6, Tryd.ntmps6
  go_wp2_with fail
  refine HE1.out.mono ?_
  rintro e w1 ⟨x, z1, i1, X, rfl, hA, hg1⟩
  have H1 := hidJ (And.intro hA hg1)
  clear hA hg1 HE1
  go_wp2_with fail
  refine (enc_uni w1 _ m (HV.out.2.1.keep H1.out.2) HV.out.2.2.2.2.1 (HV.out.2.2.2.2.2.2.keep H1.out.2)).mono ?_
  rintro e w2 ⟨y, z2, i2, Y, rfl, hB, hg2⟩
  have H2 : Hid (EncU l w2 x z1 X ∧ EncU m w2 y z2 Y ∧ w.grownBy w2 none) := ⟨H1.out.1.keep hg2, hB, gb_none H1.out.2 hg2⟩
  clear hB hg2 H1
  go_upto_if 39 with fail
  go_cut [0, 8] from 26 (fun s s8 wc => s = .slice a l.length c ∧ s8 = .int .i64 z1 ∧ w2.grownBy wc none)
  case first =>
    by_cases hz : z1 = 0
    · subst hz
      go_wp2_with fail
      refine (decode_ok w2 x l (H2.out.1.2.1 rfl).1 (by have h := H2.out.1.1; rw [(H2.out.1.2.1 rfl).2] at h; exact h) (HV.out.2.2.2.2.2.2.keep H2.out.2.2)).mono ?_
      rintro e w3 ⟨n3, rfl, hr3, hg3⟩
      have H3 := hidJ (And.intro hr3 hg3)
      clear hr3 hg3
      go_wp2_with fail
      refine (refSame_any w3 n3 _ l l H3.out.1 (HV.out.1.keep (gb_none H2.out.2.2 H3.out.2))).mono ?_
      rintro e w4 ⟨rfl, hg4⟩
      have H4 := hidJ (gb_none H3.out.2 hg4)
      clear hg4
      rw [decide_eq_true rfl]
      go_wp2_with fail
      go_meet
      case rel => exact ⟨rfl, rfl, H4.out⟩
    · have hzb : (z1 == 0) = false := by rw [beq_eq_false_iff_ne]; exact hz
      go_wp2_with fail
      go_meet
      case rel => exact ⟨rfl, rfl, gb_refl _ _⟩
  case rest =>
    obtain ⟨rfl, rfl, hgc⟩ := hcut
    have H3 : Hid (EncU l wc x z1 X ∧ EncU m wc y z2 Y ∧ w.grownBy wc none) := ⟨H2.out.1.keep hgc, H2.out.2.1.keep hgc, gb_none H2.out.2.2 hgc⟩
    clear hgc H2
    generalize wc = w3 at *
    go_upto_region 7 with fail
    go_cut [0, 69] from 26 (fun s s69 wc => s = .slice a l.length c ∧ s69 = .bool false ∧ w3.grownBy wc none)
    case first =>
      by_cases hz : z1 = 0
      · subst hz
        by_cases hy : z2 = 0
        · subst hy
          have HS : Hid (∀ n, Calls Tryd.prog 14 #[.slice a l.length c, u] (w3.drewN n) fun e w' => e = .returned (.bool (decide (l = m))) ∧ ∃ q, w' = (w3.drewN n).drewN q) := fun n => refSame_q _ _ _ l m (HV.out.1.keep (gb_none H3.out.2.2 (gb_drewN w3 n))) (HV.out.2.1.keep (gb_none H3.out.2.2 (gb_drewN w3 n)))
          have cx := fun n => run_strU (H3.out.1.1.keep (gb_drewN w3 n))
          have cy := fun n => run_strU (H3.out.2.1.1.keep (gb_drewN w3 n))
          by_cases hlm : l = m
          · have hXY : X = Y := by rw [(H3.out.1.2.1 rfl).2, (H3.out.2.1.2.1 rfl).2, hlm]
            subst hXY
            have HS2 := HS
            rw [decide_eq_true hlm] at HS2
            clear HS hlm
            go_quiet ((go_at_call 14; exact Calls.quiet_of (HS2.out _)))
            go_wp2_with fail
            go_meet
            case rel => exact ⟨rfl, rfl, gb_drewN _ _⟩
          · have hne := bytes_ne (X := X) (Y := Y) (fun e => hlm (ckB_inj (H3.out.1.2.1 rfl).1 (H3.out.2.1.2.1 rfl).1 (by rw [← (H3.out.1.2.1 rfl).2, ← (H3.out.2.1.2.1 rfl).2, e])))
            have HS2 := HS
            rw [decide_eq_false hlm] at HS2
            clear HS hlm
            go_quiet ((go_at_call 14; exact Calls.quiet_of (HS2.out _)))
            go_wp2_with fail
            go_meet
            case rel => exact ⟨rfl, rfl, gb_drewN _ _⟩
        · have hyb : (z2 == 0) = false := by rw [beq_eq_false_iff_ne]; exact hy
          go_quiet (fail)
          go_wp2_with fail
          go_meet
          case rel => exact ⟨rfl, rfl, gb_drewN _ _⟩
      · have hzb : (z1 == 0) = false := by rw [beq_eq_false_iff_ne]; exact hz
        go_quiet (fail)
        go_wp2_with fail
        go_meet
        case rel => exact ⟨rfl, rfl, gb_drewN _ _⟩
    case rest =>
      obtain ⟨rfl, rfl, hgc⟩ := hcut
      have H4 : Hid (w.grownBy wc none) := gb_none H3.out.2.2 hgc
      clear hgc H3
      generalize wc = w4 at *
      go_wp2_with fail
      refine (dec_uni w4 z b (HV.out.2.2.1.keep H4.out) HV.out.2.2.2.2.2.1 (HV.out.2.2.2.2.2.2.keep H4.out)).mono ?_
      rintro e w5 ⟨n5, z5, k5, rfl, hD, hg5⟩
      have H5 : Hid (DecU b w5 n5 z5 k5 ∧ w.grownBy w5 none) := ⟨hD, gb_none H4.out hg5⟩
      clear hD hg5 H4
      go_upto_if 76 with fail
      go_cut [0] from 26 (fun s wc => s = .slice a l.length c ∧ w5.grownBy wc none)
      case first =>
        by_cases hz : z5 = 0
        · subst hz
          go_wp2_with fail
          refine (enc_uni w5 n5 k5 (H5.out.1 rfl).2.2 (okL_in (H5.out.1 rfl).1) (HV.out.2.2.2.2.2.2.keep H5.out.2)).mono ?_
          rintro e w6 ⟨x6, z6, i6, X6, rfl, hE6, hg6⟩
          have hz6 : z6 = 0 := hE6.2.2 (H5.out.1 rfl).1
          subst hz6
          have hX6 : X6 = b := (hE6.2.1 rfl).2.trans (H5.out.1 rfl).2.1.symm
          rw [hX6] at hE6
          clear hX6
          have c1 := run_strU hE6.1
          have c2 := run_strU (HV.out.2.2.1.keep (gb_none H5.out.2 hg6))
          have H6 := hidJ hg6
          clear hE6 hg6
          go_wp2_with fail
          go_meet
          case rel => exact ⟨rfl, H6.out⟩
        · have hzb : (z5 == 0) = false := by rw [beq_eq_false_iff_ne]; exact hz
          go_wp2_with fail
          go_meet
          case rel => exact ⟨rfl, gb_refl _ _⟩
      case rest =>
        obtain ⟨rfl, hgc⟩ := hcut
        have H6 : Hid (w.grownBy wc none) := gb_none H5.out.2 hgc
        clear hgc H5
        generalize wc = w6 at *
        go_upto_if 94 with fail
        go_cut [0] from 26 (fun s wc => s = .slice a (l.take 2000).length c ∧ wc = w6)
        case first =>
          by_cases hbig : 2000 < l.length
          · have hbi : (2000 : Int) < (l.length : Int) := by omega
            have hbc : (2000 : Int) ≤ (c : Int) := by have := HLC.out; omega
            have hq : Hid ((l.take 2000).length = 2000) := by show (l.take 2000).length = 2000; rw [List.length_take]; omega
            generalize (l.take 2000).length = q at *
            go_wp2_with fail
            go_meet
            case rel => exact ⟨by rw [hq.out], rfl⟩
          · have hbi : ¬ (2000 : Int) < (l.length : Int) := by omega
            have hq : Hid ((l.take 2000).length = l.length) := by show (l.take 2000).length = l.length; rw [List.length_take]; omega
            generalize (l.take 2000).length = q at *
            go_wp2_with fail
            go_meet
            case rel => exact ⟨by rw [hq.out], rfl⟩
        case rest =>
          obtain ⟨rfl, hwc⟩ := hcut
          subst hwc
          have HL : Hid (RdP wc (.slice a (l.take 2000).length c) (l.take 2000) ∧ SmIn (l.take 2000) ∧ (l.take 2000).length ≤ 2000 ∧ Tk wc) := by
            refine ⟨?_, fun y hy => HV.out.2.2.2.1 y (List.mem_of_mem_take hy), by rw [List.length_take]; omega, HV.out.2.2.2.2.2.2.keep H6.out⟩
            have h := HV.out.1.begin (l.take 2000).length (by rw [List.length_take]; omega)
            have e : l.take (l.take 2000).length = l.take 2000 := by
              rw [List.length_take]
              by_cases hbig : 2000 ≤ l.length
              · rw [Nat.min_eq_left hbig]
              · rw [Nat.min_eq_right (by omega), List.take_of_length_le (Nat.le_refl _), List.take_of_length_le (by omega)]
            rw [e] at h
            exact h.keep H6.out
          clear HV HLC
          generalize l.take 2000 = L at *
          generalize wc = w7 at *
          clear l
          go_wp2_with fail
          refine (ckSplit_any w7 _ L HL.out.1 HL.out.2.1 HL.out.2.2.2 HL.out.2.2.1).mono ?_
          rintro e w8 ⟨hS, hg8⟩
          have H8 := hidJ (And.intro hg8 (gb_none H6.out hg8))
          clear hg8
          rcases hS with ⟨hri, v8, K, hK1, hK2, rfl, hob⟩ | ⟨i8, hi8, hne8, -, rfl⟩
          · obtain ⟨a8, c8, rfl, -⟩ := id hob.rd
            have HJn := hidJ (ckJoin_split w8 _ K L hob.rd HL.out.2.1 hri (HL.out.2.2.2.keep H8.out.1) hK1 hK2 HL.out.2.2.1)
            clear hri hob hK1 hK2
            go_wp2_with fail
            refine HJn.out.mono ?_
            rintro e w9 ⟨v9, rfl, hr9, hg9⟩
            have H9 : Hid (RdP w9 v9 L ∧ w7.grownBy w9 none ∧ w.grownBy w9 none) := ⟨hr9, gb_none H8.out.1 hg9, gb_none H8.out.2 hg9⟩
            clear hr9 hg9 HJn
            go_wp2_with fail
            refine (refSame_any w9 _ _ L L H9.out.1 (HL.out.1.keep H9.out.2.1)).mono ?_
            rintro e w10 ⟨rfl, hg10⟩
            have H10 := hidJ (gb_none H9.out.2.2 hg10)
            clear hg10
            rw [decide_eq_true rfl]
            go_wp2_with fail
            refine (awake_any _).mono ?_
            rintro e w11 ⟨rfl, hg11⟩
            have H11 : Hid (Below w.heap.size w w11) := gb_below (gb_none H10.out hg11)
            clear hg11
            go_wp2
            go_ret
            exact ⟨rfl, H11.out⟩
          · obtain ⟨q8, hq8⟩ : ∃ q, risC L i8 = q := ⟨_, rfl⟩
            rw [hq8] at hne8 ⊢
            have hqb : (q8 == 0) = false := by rw [beq_eq_false_iff_ne]; exact hne8
            have hqn : (q8 != 0) = true := by simp [hne8]
            clear hq8 hi8
            go_wp2_with fail
            refine (awake_any _).mono ?_
            rintro e w11 ⟨rfl, hg11⟩
            have H11 : Hid (Below w.heap.size w w11) := gb_below (gb_none H8.out.2 hg11)
            clear hg11
            go_wp2
            go_ret
            exact ⟨rfl, H11.out⟩
end Go.Proofs.YtnaccmbnblokmaaDoor
