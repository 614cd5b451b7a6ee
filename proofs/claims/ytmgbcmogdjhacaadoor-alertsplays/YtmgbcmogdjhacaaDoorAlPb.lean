/-
  The document's Put where the alert may come: the walk.
-/
import Derived.Test.YtmgbcmogdjhacaaDoorVH
namespace Go.Proofs.YtmgbcmogdjhacaaDoor
open Go.RowKit Go.Shelf Go.Sort Go.Maps Go.WideMaps

theorem drewR {w w5 : World} {T S : Nat → Prop} {gr : Nat} {R most : Int} {M : List AlR} (h : RefOK w5 (Gr T w w5) gr R most M ∧ Ch w w5 S) : RefOK w5.drew (Gr T w w5.drew) gr R most M ∧ Ch w w5.drew S :=
  ⟨h.1.keep (gb_drew _ none), h.2.trans (Ch.of_gb (S := S) (gb_drew _ none) (fun k hk => by cases hk)) (fun _ _ e => e)⟩
theorem gb_ofCh {w w' : World} {g : Nat} (h : w.grownBy w' none) : Ch w w' (fun k => k = g) := Ch.of_gb h (fun k hk => by cases hk)
set_option maxRecDepth 8000 in
set_option maxHeartbeats 12800000 in
/-- its second half, once the alert is dated -/
theorem refPut_dated (w : World) (T : Nat → Prop) (gr : Nat) (R most now st en sd ed : Int) (M : List AlR) (a : Option Addr) (c : Nat) (ls : List LbT) (h : RefOK w T gr R most M) (hok : okM most M) (hR : 1 ≤ R ∧ R ≤ 1099511627776) (hu : RdL w (.slice a ls.length c) ls) (hl : LbIn ls) (hd : dateE R now ⟨ls, st, en⟩ = 0) (hsd : stD now ⟨ls, st, en⟩ = sd) (hed : enD R now ⟨ls, st, en⟩ = ed) :
    Calls Tryd.prog 28 #[.pointer (some ⟨gr, 0, none⟩), .int .i64 now, .agg #[.slice a ls.length c, .int .i64 st, .int .i64 en]] w fun e w' => e = .returned (.int .i64 (putE R most now ⟨ls, st, en⟩ M)) ∧ RefOK w' (Gr T w w') gr R most (putM R most now ⟨ls, st, en⟩ M) ∧ Ch w w' (fun k => k = gr) := by
  obtain ⟨v, l, h⟩ := h
  obtain ⟨la, lc, rfl⟩ := h.shape
  obtain ⟨t1, t2, t3, t4, t5, t6⟩ := dateE_ok hd
  have HTi := hidJ (refTime_any now)
  rw [decide_eq_true t1] at HTi
  have hxx := date_en hd
  unfold isT at t1
  unfold isB at t4 t5
  rw [hsd, hed] at t6
  simp only at t2 t3 t4 t5
  have hL3 : ls.length ≠ 0 := fun e => t3 (List.eq_nil_of_length_eq_zero e)
  have hLm : ls.length ≤ 16 := (right_short t2).1
  have HRt : Hid (Calls Tryd.prog 20 #[.slice a ls.length c] (w.alloc (.cells #[.slice a ls.length c, .int .i64 st, .int .i64 en] 34)) fun e w' => e = .returned (.tuple #[.int .i64 0, .int .i64 ((rightS ls).2 : Int)]) ∧ Hid (w.grownBy w' none ∧ B3 w' w.heap.size 34 (.slice a ls.length c) (.int .i64 st) (.int .i64 en) ∧ B3 w' gr 40 (.int .i64 R) (.int .i64 most) (.slice la M.length lc))) := by
    have k1 := World.grownBy_alloc w (.cells #[.slice a ls.length c, .int .i64 st, .int .i64 en] 34) none
    have h0 := refRight_any _ _ ls (hu.keep k1) hl
    rw [t2] at h0
    refine h0.mono ?_
    rintro e w' ⟨rfl, q2⟩
    exact ⟨rfl, gb_none k1 q2, (B3.new w 34 _ _ _).keep q2, (h.box.keep k1).keep q2⟩
  have hN5 : M.length ≤ 500 := by have := hok.2.2.2.1; have := hok.2.2.2.2; omega
  have HA := hidJ h
  obtain ⟨k, hk⟩ : ∃ k, (ltA M ls).length = k := ⟨_, rfl⟩
  obtain ⟨fb, hfb⟩ : ∃ b, (findA M ls).isSome = b := ⟨_, rfl⟩
  have hatf := at_found hok.1 ls
  rw [hfb, hk] at hatf
  have HRA : Hid (∀ W, w.grownBy W none → Calls Tryd.prog 30 #[.slice la M.length lc, .slice a ls.length c] W fun e w' => e = .returned (.tuple #[.int .i64 (k : Int), .bool fb]) ∧ W.grownBy w' none) := fun W hW => by
    have h0 := refAt_any W (.slice la M.length lc) (.slice a ls.length c) M ls hok.1 (h.keep hW).rdx (hu.keep hW)
    rw [hk, hfb] at h0
    exact h0
  have HRD : Hid (∀ W, w.grownBy W none → ∀ s, Calls Tryd.prog 45 #[.slice la M.length lc, .agg #[.slice a ls.length c, .int .i64 s, .int .i64 ed]] W fun e w' => ∃ v' l', e = .returned v' ∧ OwnX w' W.heap.size v' l' ∧ l'.map (·.2) = addA M ⟨ls, s, ed⟩ ∧ (∀ x ∈ l', x ∈ l ∨ OwnL w' W.heap.size x.1 x.2.lbs) ∧ W.grownBy w' none) := fun W hW s =>
    refAdd_any W la M.length lc l M (.slice a ls.length c) ls s ed (h.keep hW).row h.map hok.1 (fun x hx => ((h.keep hW).each x hx).1) (fun x hx => (h.each x hx).one) (by omega) (hu.keep hW) (by omega)
  obtain ⟨N, hN⟩ : ∃ N, M.length = N := ⟨_, rfl⟩
  obtain ⟨L, hL⟩ : ∃ L, ls.length = L := ⟨_, rfl⟩
  have hpE : putE R most now ⟨ls, st, en⟩ M = if findA M ls = none ∧ most ≤ (N : Int) then 8 else 0 := by
    unfold putE
    rw [if_neg (by simpa using hd), hN]
  have hpM : ∀ sN, newA R now ⟨ls, st, en⟩ M = ⟨ls, sN, ed⟩ → putE R most now ⟨ls, st, en⟩ M = 0 → putM R most now ⟨ls, st, en⟩ M = addA M ⟨ls, sN, ed⟩ := fun sN h1 h2 => by
    unfold putM
    rw [if_pos h2, h1]
  have hpK : putE R most now ⟨ls, st, en⟩ M = 8 → putM R most now ⟨ls, st, en⟩ M = M := fun h2 => by
    unfold putM
    rw [if_neg (by omega)]
  have HGt : Hid (fb = true → k < N ∧ ∃ o, findA M ls = some o ∧ M.getD k alZ = o ∧ newA R now ⟨ls, st, en⟩ M = ⟨ls, if now < o.en ∧ o.st < sd then o.st else sd, ed⟩) := by
    intro e
    subst e
    have hb := hatf.symm
    rw [Bool.and_eq_true, decide_eq_true_eq, decide_eq_true_eq] at hb
    obtain ⟨o, ho⟩ := Option.isSome_iff_exists.1 hfb
    have hmem := getA_mem hb.1
    have huq := findA_mem hok.1 hmem
    rw [hb.2, ho] at huq
    refine ⟨by omega, o, ho, by injection huq with e; exact e.symm, ?_⟩
    unfold newA
    simp only [ho, hsd, hed]
  have HGf : Hid (fb = false → findA M ls = none ∧ newA R now ⟨ls, st, en⟩ M = ⟨ls, sd, ed⟩) := by
    intro e
    subst e
    have ho : findA M ls = none := by
      cases hf : findA M ls with
      | none => rfl
      | some o => rw [hf] at hfb; cases hfb
    refine ⟨ho, ?_⟩
    unfold newA
    simp only [ho, hsd, hed]
  rw [hN] at HA HRA HRD HRt hN5
  rw [hL] at HRA HRD HRt hL3 hLm hu
  rw [hL]
  have HN := hidJ hN
  have HPM := hidJ (And.intro hpM hpK)
  have HPE := hidJ hpE
  have hL1 : ((L : Int) == 0) = false := by rw [beq_eq_false_iff_ne]; omega
  unfold stD at hsd
  unfold enD at hed
  simp only at hsd hed
  clear h hok hd hN hL hatf hfb hk hu hl hpM hpK hpE t2 t3
  have n1 : ¬ st < 0 := by omega
  have n2 : ¬ 1126999418470400 < st := by omega
  have n3 : ¬ en < 0 := by omega
  have n4 : ¬ 1126999418470400 < en := by omega
  have n5 : ¬ ed < sd := by omega
  generalize (rightS ls).2 = r2 at *
  have HSD := hidJ hsd
  have HED := hidJ hed
  clear hsd hed
  have hr2 : -9223372036854775808 ≤ now + R := by omega
  have hr3 : now + R ≤ 9223372036854775807 := by omega
  have hxb : en = 0 ∨ ¬ en < st := by omega
  go_enter Tryd.func28, Tryd.ntmps28
  go_wp2_with fail
  refine (HTi.out _).mono ?_
  rintro e w1 ⟨rfl, hw1⟩
  have hw1 := hw1.symm
  subst hw1
  clear HTi
  go_wp2_with fail
  refine HRt.out.mono ?_
  rintro e w1 ⟨rfl, H1⟩
  clear HRt
  obtain ⟨b0, b1, b2, f0, f1, f2⟩ := H1.out.2.1.cells
  obtain ⟨g0, g1, g2, -⟩ := H1.out.2.2.cells
  have HX1 : Hid (w.grownBy w1 none ∧ B3 w1 w.heap.size 34 (.slice a L c) (.int .i64 st) (.int .i64 en)) := ⟨H1.out.1, H1.out.2.1⟩
  clear H1
  go_upto_region 6 with fail
  go_cut [57] from 11 (fun s wx => s = .bool false ∧ wx = w1)
  case first =>
    by_cases h6 : en = 0
    · subst h6
      go_wp2_with fail
      go_meet
      case rel => exact ⟨by simp; omega, rfl⟩
    · have h6n : (en != 0) = true := by rw [bne_iff_ne]; exact h6
      have h6s : ¬ en < st := by omega
      go_wp2_with fail
      go_meet
      case rel => exact ⟨by simp; omega, rfl⟩
  case rest =>
    obtain ⟨rfl, hwx⟩ := hcut
    have hwx := hwx.symm
    subst hwx
    go_upto_if 60 with fail
    go_cut [6] from 11 (fun s wx => s = .int .i64 0 ∧ Hid (w.grownBy wx none ∧ B3 wx w.heap.size 34 (.slice a L c) (.int .i64 st) (.int .i64 ed)))
    case first =>
      have hED := HED.out
      clear HED
      by_cases h6 : en = 0
      · subst h6
        rw [if_pos rfl] at hED
        have HED := hidJ hED
        clear hED
        go_wp2_with fail
        go_meet
        case rel =>
          refine ⟨rfl, gb_ch HX1.out.1 (set_ch _ _ _ _) (fun k e => by omega), ?_⟩
          have q := Go.heap_setCell_same _ w.heap.size 2 _ _ (.int .i64 (now + R)) HX1.out.2
          rw [← HED.out]
          simpa [B3] using q
      · have h6z : (en == 0) = false := by rw [beq_eq_false_iff_ne]; exact h6
        rw [if_neg h6] at hED
        subst hED
        go_wp2_with fail
        go_meet
        case rel => exact ⟨rfl, HX1.out⟩
    case rest =>
      obtain ⟨rfl, HX2⟩ := hcut
      clear HX1 b0 b1 b2 f0 f1 f2 g0 g1 g2
      obtain ⟨b0, b1, b2, f0, f1, f2⟩ := HX2.out.2.cells
      go_upto_if 70 with fail
      go_cut [6] from 11 (fun s wx => s = .int .i64 0 ∧ Hid (w.grownBy wx none ∧ B3 wx w.heap.size 34 (.slice a L c) (.int .i64 sd) (.int .i64 ed)))
      case first =>
        have hSD := HSD.out
        clear HSD
        by_cases h7 : st = 0
        · subst h7
          rw [if_pos rfl] at hSD
          have HSD := hidJ hSD
          clear hSD
          go_wp2_with fail
          go_meet
          case rel =>
            refine ⟨rfl, gb_ch HX2.out.1 (set_ch _ _ _ _) (fun k e => by omega), ?_⟩
            have q := Go.heap_setCell_same _ w.heap.size 1 _ _ (.int .i64 now) HX2.out.2
            rw [← HSD.out]
            simpa [B3] using q
        · have h7z : (st == 0) = false := by rw [beq_eq_false_iff_ne]; exact h7
          rw [if_neg h7] at hSD
          subst hSD
          go_wp2_with fail
          go_meet
          case rel => exact ⟨rfl, HX2.out⟩
      case rest =>
        obtain ⟨rfl, HW0⟩ := hcut
        clear HX2 b0 b1 b2 f0 f1 f2
        obtain ⟨b0, b1, b2, f0, f1, f2⟩ := HW0.out.2.cells
        go_wp2_with fail
        clear b0 b1 b2 f0 f1 f2
        generalize wc = W0 at *
        have HAt : Hid (∀ W, W0.grownBy W none → Calls Tryd.prog 30 #[.slice la N lc, .slice a L c] W fun e w' => e = .returned (.tuple #[.int .i64 (k : Int), .bool fb]) ∧ w'.cell? ⟨gr, 2, none⟩ = some (.slice la N lc) ∧ w'.cell? ⟨w.heap.size, 0, none⟩ = some (.slice a L c) ∧ Hid (W0.grownBy w' none)) := fun W hW => by
          refine (HRA.out W (gb_none HW0.out.1 hW)).mono ?_
          rintro e w' ⟨rfl, q⟩
          have g := gb_none hW q
          exact ⟨rfl, (HA.out.keep (gb_none HW0.out.1 g)).box.cells.2.2.1, (HW0.out.2.keep g).cells.1, g⟩
        have j2 := (HA.out.keep HW0.out.1).box.cells.2.2.1
        have j0 := HW0.out.2.cells.1
        go_region_held3 (fun w' => w'.cell? ⟨gr, 2, none⟩ = some (.slice la N lc) ∧ w'.cell? ⟨w.heap.size, 0, none⟩ = some (.slice a L c)) (go_keep) (first | (go_at_call 30; with_reducible refine (HAt.out _ ?_).mono ?_; (first | exact gb_refl _ _ | exact gb_drew _ none); rintro e w4 ⟨rfl, p0, p1, H4⟩))
        clear HAt j2 j0
        have HW4 : Hid (w.grownBy w4 none ∧ B3 w4 w.heap.size 34 (.slice a L c) (.int .i64 sd) (.int .i64 ed)) := ⟨gb_none HW0.out.1 H4.out, HW0.out.2.keep H4.out⟩
        clear HW0 H4 HRA p0 p1
        have y1 := (HA.out.keep HW4.out.1).box.cells.2.1
        have y2 := (HA.out.keep HW4.out.1).box.cells.2.2.1
        obtain ⟨fu, hfu⟩ : ∃ fu, fu = (!fb && decide (most ≤ (N : Int))) := ⟨_, rfl⟩
        have HFu := hidJ hfu
        clear hfu
        go_upto_region 15 with fail
        go_cut [101] from 11 (fun s wx => s = .bool fu ∧ Hid (w.grownBy wx none ∧ B3 wx w.heap.size 34 (.slice a L c) (.int .i64 sd) (.int .i64 ed)))
        case first =>
          as_aux_lemma =>
          clear HGt HGf HPE HPM HRD
          cases fb with
          | true =>
            have hf : fu = false := by rw [HFu.out]; rfl
            subst hf
            go_quiet (fail)
            go_wp2_with fail
            go_meet
            case rel => exact ⟨rfl, gb_none HW4.out.1 (gb_drewN _ _), HW4.out.2.keep (gb_drewN _ _)⟩
          | false =>
            by_cases hfull : most ≤ (N : Int)
            · have hf : fu = true := by rw [HFu.out, decide_eq_true hfull]; rfl
              subst hf
              go_quiet (fail)
              go_wp2_with fail
              go_meet
              case rel => exact ⟨by simp, gb_none HW4.out.1 (gb_drewN _ _), HW4.out.2.keep (gb_drewN _ _)⟩
            · have hf : fu = false := by rw [HFu.out, decide_eq_false hfull]; rfl
              subst hf
              go_quiet (fail)
              go_wp2_with fail
              go_meet
              case rel => exact ⟨by simp, gb_none HW4.out.1 (gb_drewN _ _), HW4.out.2.keep (gb_drewN _ _)⟩
        case rest =>
          obtain ⟨rfl, HW5⟩ := hcut
          clear HW4 y1 y2
          cases fu with
          | true =>
            have HE : Hid (putE R most now ⟨ls, st, en⟩ M = 8 ∧ putM R most now ⟨ls, st, en⟩ M = M) := by
              have hb := HFu.out.symm
              rw [Bool.and_eq_true, Bool.not_eq_true', decide_eq_true_eq] at hb
              have e8 : putE R most now ⟨ls, st, en⟩ M = 8 := by rw [HPE.out, if_pos ⟨(HGf.out hb.1).1, hb.2⟩]
              exact ⟨e8, HPM.out.2 e8⟩
            clear HGt HGf HPE HPM HRD
            go_wp2
            go_ret
            rw [HE.out.1, HE.out.2]
            exact ⟨rfl, RefOK.gr ⟨_, _, HA.out⟩ HW5.out.1, gb_ofCh HW5.out.1⟩
          | false =>
            have HNw : Hid (∃ sN, putE R most now ⟨ls, st, en⟩ M = 0 ∧ putM R most now ⟨ls, st, en⟩ M = addA M ⟨ls, sN, ed⟩ ∧ (fb = false → sN = sd) ∧ (fb = true → k < N ∧ sN = (if now < (M.getD k alZ).en ∧ (M.getD k alZ).st < sd then (M.getD k alZ).st else sd))) := by
              cases fb with
              | false =>
                obtain ⟨ho, hnew⟩ := HGf.out rfl
                have e8 : putE R most now ⟨ls, st, en⟩ M = 0 := by
                  rw [HPE.out, if_neg]
                  rintro ⟨-, f⟩
                  have := HFu.out
                  rw [decide_eq_true f] at this
                  cases this
                exact ⟨sd, e8, HPM.out.1 sd hnew e8, fun _ => rfl, fun f => by cases f⟩
              | true =>
                obtain ⟨hkN, o, ho, hgd, hnew⟩ := HGt.out rfl
                have e8 : putE R most now ⟨ls, st, en⟩ M = 0 := by rw [HPE.out, if_neg (fun f => by rw [ho] at f; cases f.1)]
                rw [hgd]
                exact ⟨_, e8, HPM.out.1 _ hnew e8, fun f => (by cases f), fun _ => ⟨hkN, rfl⟩⟩
            obtain ⟨sN, e8, eM, eF, eT⟩ := HNw.out
            have HNew := hidJ (And.intro e8 eM)
            have HS := hidJ (And.intro eF eT)
            clear HGt HGf HPE HPM HFu HNw e8 eM eF eT
            generalize wc = W4 at *
            obtain ⟨bb, hbb⟩ : ∃ bb, bb = (fb && (decide (now < (M.getD k alZ).en) && decide ((M.getD k alZ).st < sd))) := ⟨_, rfl⟩
            have HB := hidJ hbb
            clear hbb
            have y2 := (HA.out.keep HW5.out.1).box.cells.2.2.1
            obtain ⟨i0, i1, i2, m0, m1, m2⟩ := HW5.out.2.cells
            go_upto_region 17 with fail
            go_cut [127] from 11 (fun s wx => s = .bool bb ∧ Hid (w.grownBy wx none ∧ B3 wx w.heap.size 34 (.slice a L c) (.int .i64 sd) (.int .i64 ed)))
            case first =>
              as_aux_lemma =>
              clear HNew HRD
              cases fb with
              | false =>
                have hf : bb = false := by rw [HB.out]; rfl
                subst hf
                go_quiet (fail)
                go_wp2_with fail
                go_meet
                case rel => exact ⟨rfl, gb_none HW5.out.1 (gb_drewN _ _), HW5.out.2.keep (gb_drewN _ _)⟩
              | true =>
                obtain ⟨hkN, hsN⟩ := HS.out.2 rfl
                have hki : (k : Int) < (N : Int) := by omega
                obtain ⟨g, x, m, d, ea, -, hnc, -, -, -, -, f0, f1, f2⟩ := HA.out.at HW5.out.1 (z := k) (by rw [HN.out]; exact hkN)
                subst ea
                clear hsN HS
                generalize (M.getD k alZ).en = oe at *
                generalize (M.getD k alZ).st = os at *
                by_cases hne : now < oe
                · have hned : decide (now < oe) = true := decide_eq_true hne
                  by_cases hsn : os < sd
                  · have hf : bb = true := by rw [HB.out, decide_eq_true hne, decide_eq_true hsn]; rfl
                    subst hf
                    go_quiet (fail)
                    go_wp2_with fail
                    go_meet
                    case rel => exact ⟨by simp, gb_none HW5.out.1 (gb_drewN _ _), HW5.out.2.keep (gb_drewN _ _)⟩
                  · have hf : bb = false := by rw [HB.out, decide_eq_false hsn, Bool.and_false, Bool.and_false]
                    subst hf
                    go_quiet (fail)
                    go_wp2_with fail
                    go_meet
                    case rel => exact ⟨by simp, gb_none HW5.out.1 (gb_drewN _ _), HW5.out.2.keep (gb_drewN _ _)⟩
                · have hned : decide (now < oe) = false := decide_eq_false hne
                  have hf : bb = false := by rw [HB.out, decide_eq_false hne, Bool.false_and, Bool.and_false]
                  subst hf
                  go_quiet (fail)
                  go_wp2_with fail
                  go_meet
                  case rel => exact ⟨by simp, gb_none HW5.out.1 (gb_drewN _ _), HW5.out.2.keep (gb_drewN _ _)⟩
            case rest =>
              obtain ⟨rfl, HW6⟩ := hcut
              clear HW5 y2 i0 i1 i2 m0 m1 m2
              generalize wc = W5 at *
              have y2 := (HA.out.keep HW6.out.1).box.cells.2.2.1
              obtain ⟨i0, i1, i2, m0, m1, m2⟩ := HW6.out.2.cells
              go_upto_if 127 with fail
              go_cut [6] from 11 (fun s wx => s = .int .i64 0 ∧ Hid (w.grownBy wx none ∧ B3 wx w.heap.size 34 (.slice a L c) (.int .i64 sN) (.int .i64 ed)))
              case first =>
                as_aux_lemma =>
                clear HNew HRD
                cases bb with
                | true =>
                  have hb := HB.out.symm
                  rw [Bool.and_eq_true, Bool.and_eq_true, decide_eq_true_eq, decide_eq_true_eq] at hb
                  obtain ⟨hkN, hsN⟩ := HS.out.2 hb.1
                  have hki : (k : Int) < (N : Int) := by omega
                  obtain ⟨g, x, m, d, ea, -, hnc, -, -, -, -, f0, f1, f2⟩ := HA.out.at HW6.out.1 (z := k) (by rw [HN.out]; exact hkN)
                  subst ea
                  rw [if_pos hb.2] at hsN
                  rw [← hsN] at f1
                  clear hb HB HS hsN
                  go_wp2_with fail
                  go_meet
                  case rel =>
                    refine ⟨rfl, gb_ch HW6.out.1 (set_ch _ _ _ _) (fun k e => by omega), ?_⟩
                    have q := Go.heap_setCell_same _ w.heap.size 1 _ _ (.int .i64 sN) HW6.out.2
                    simpa [B3] using q
                | false =>
                  have hsN : sN = sd := by
                    cases fb with
                    | false => exact HS.out.1 rfl
                    | true =>
                      obtain ⟨hkN, hsN⟩ := HS.out.2 rfl
                      rw [hsN, if_neg]
                      rintro ⟨f1, f2⟩
                      have := HB.out
                      rw [decide_eq_true f1, decide_eq_true f2] at this
                      cases this
                  clear HB HS
                  subst hsN
                  go_wp2_with fail
                  go_meet
                  case rel => exact ⟨rfl, HW6.out⟩
              case rest =>
                as_aux_lemma =>
                obtain ⟨rfl, HW5⟩ := hcut
                clear HW6 y2 i0 i1 i2 m0 m1 m2 HB HS
                generalize wc = W6 at *
                go_wp2_with fail
                have HW6 : Hid (w.grownBy W6 none ∧ B3 W6 w.heap.size 34 (.slice a L c) (.int .i64 sN) (.int .i64 ed)) := HW5.out
                clear HW5
                have HAd : Hid (∀ W, W6.grownBy W none → Calls Tryd.prog 45 #[.slice la N lc, .agg #[.slice a L c, .int .i64 sN, .int .i64 ed]] W fun e w' => ∃ x5 n5 c5, e = .returned (.slice x5 n5 c5) ∧ w'.cell? ⟨gr, 2, none⟩ = some (.slice la N lc) ∧ w'.frozen? ⟨gr, 2, none⟩ = false ∧ w'.cell? ⟨w.heap.size, 0, none⟩ = some (.slice a L c) ∧ w'.cell? ⟨w.heap.size, 1, none⟩ = some (.int .i64 sN) ∧ w'.cell? ⟨w.heap.size, 2, none⟩ = some (.int .i64 ed) ∧ Hid (RefOK (w'.setCell ⟨gr, 2, none⟩ (.slice x5 n5 c5)) (Gr T w (w'.setCell ⟨gr, 2, none⟩ (.slice x5 n5 c5))) gr R most (addA M ⟨ls, sN, ed⟩) ∧ Ch w (w'.setCell ⟨gr, 2, none⟩ (.slice x5 n5 c5)) (fun k => k = gr))) := fun W hW => by
                  have g6 := gb_none HW6.out.1 hW
                  refine (HRD.out W g6 sN).mono ?_
                  rintro e w' ⟨v', l', rfl, q1, q2, q3, q4⟩
                  obtain ⟨x5, c5, e5⟩ := q1.shape
                  subst e5
                  have g7 := gb_none g6 q4
                  have hsz := g6.size
                  obtain ⟨r1, r2, r3⟩ := HA.out.set g7 (q1.mono hsz) q2 (fun x hx => (q3 x hx).imp id (fun e => e.mono hsz))
                  obtain ⟨-, -, y2, -, -, y5⟩ := (HA.out.keep g7).box.cells
                  obtain ⟨z0, z1, z2, -⟩ := ((HW6.out.2.keep hW).keep q4).cells
                  refine ⟨x5, _, c5, rfl, y2, y5, z0, z1, z2, ?_, r2⟩
                  have e2 : Gr T w (w'.setCell ⟨gr, 2, none⟩ (.slice x5 l'.length c5)) = Gr T w w' := by
                    unfold Gr
                    rw [r3]
                  rw [e2]
                  exact ⟨_, _, r1⟩
                obtain ⟨-, -, j2, -, -, j5⟩ := (HA.out.keep HW6.out.1).box.cells
                obtain ⟨i0, i1, i2, -⟩ := HW6.out.2.cells
                go_region_with (go_at_call 45; with_reducible refine (HAd.out _ ?_).mono ?_; (first | exact gb_refl _ _ | exact gb_drew _ none); rintro e w5 ⟨x5, n5, c5, rfl, p0, p1, p2, p3, p4, H5⟩)
                all_goals
                  clear HAd
                  go_wp2
                  go_ret
                  rw [HNew.out.1, HNew.out.2]
                  first | exact ⟨rfl, H5.out⟩ | exact ⟨rfl, drewR H5.out⟩
end Go.Proofs.YtmgbcmogdjhacaaDoor
