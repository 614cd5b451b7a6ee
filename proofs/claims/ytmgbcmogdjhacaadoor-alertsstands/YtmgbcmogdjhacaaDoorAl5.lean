/-
  dated: what an alert that comes becomes: the walk.
-/
import Derived.Test.YtmgbcmogdjhacaaDoorAl4
namespace Go.Proofs.YtmgbcmogdjhacaaDoor
open Go.RowKit Go.Shelf Go.Maps Go.WideMaps

theorem results_cell2 {P : Program} {fn : Func} {p q : Tmp} {ty : TypeId} (h : fn.results = #[.cell p ty, .tmp q]) (tmps : Array Value) (w : World) (g : Nat) (t : TypeId) (cs : Array Value) (fr : Nat × Nat) (d : TypeDesc)
    (hp : tmps.getD p undef = .pointer (some ⟨g, 0, none⟩)) (hg : w.heap[g]? = some (.cells cs t fr))
    (hu : P.underlying ty = some d) (hd : (match d with | .struct _ | .array _ _ => true | _ => false) = true) (hi : (P.info? ty).map (·.size) = some cs.size) :
    (results fn tmps).run P w = .ok (.tuple #[.agg cs, tmps.getD q undef]) w := by
  have hp' : tmps[p]?.getD undef = .pointer (some ⟨g, 0, none⟩) := by simpa using hp
  simp [results, h, hp', asAddr, run_loadVar_row w g t ty cs fr d hg hu hd hi]
theorem dEnd1 {w1 W2 : World} {t : TypeId} {a b c x y z : Value} {k0 : Nat} (h6 : B3 w1 (k0 + 1) t a b c) (hc : Ch w1 W2 (fun k => k = k0)) :
    (((W2.setCell ⟨k0 + 1, 0, none⟩ x).setCell ⟨k0 + 1, 1, none⟩ y).setCell ⟨k0 + 1, 2, none⟩ z).heap[k0 + 1]? = some (.cells #[x, y, z] t (0, 0)) :=
  set3 (h6.ch hc (by omega))
theorem dEnd2 {w w1 W2 : World} {x y z : Value} (hg : w.grownBy w1 none) (hc : Ch w1 W2 (fun k => k = w.heap.size)) :
    w.grownBy (((W2.setCell ⟨w.heap.size + 1, 0, none⟩ x).setCell ⟨w.heap.size + 1, 1, none⟩ y).setCell ⟨w.heap.size + 1, 2, none⟩ z) none :=
  set3_gb (gb_ch hg hc (fun k e => by rw [e]; exact Nat.le_refl _)) (by omega)
def dRes (R now : Int) (u : Value) (a : AlR) : Value := if dateE R now a = 0 then alV u (stD now a) (enD R now a) else zAl

set_option maxRecDepth 8000 in
set_option maxHeartbeats 12800000 in
theorem dated_any (w : World) (gx : Nat) (R now st en : Int) (u : Value) (ls : List LbT) (c0 : w.cell? ⟨gx, 0, none⟩ = some (.int .i64 R)) (hR : 1 ≤ R ∧ R ≤ 1099511627776) (hu : RdL w u ls) (hl : LbIn ls) (hT : U8S w) :
    Calls Tryd.prog 36 #[.pointer (some ⟨gx, 0, none⟩), .int .i64 now, alV u st en] w fun e w' => e = .returned (.tuple #[dRes R now u ⟨ls, st, en⟩, .int .i64 (dateE R now ⟨ls, st, en⟩)]) ∧ w.grownBy w' none := by
  obtain ⟨a, c, rfl⟩ : ∃ a c, u = .slice a ls.length c := by obtain ⟨a, c, h, _⟩ := hu; exact ⟨a, c, h⟩
  have HRt : Hid (Calls Tryd.prog 47 #[.slice a ls.length c] ((w.alloc (.cells #[.slice a ls.length c, .int .i64 st, .int .i64 en] 34)).alloc (.cells #[.slice none 0 0, .int .i64 0, .int .i64 0] 34)) fun e w' => e = .returned (.tuple #[.int .i64 (rightS ls).1, .int .i64 ((rightS ls).2 : Int)]) ∧ Hid (w.grownBy w' none ∧ B3 w' w.heap.size 34 (.slice a ls.length c) (.int .i64 st) (.int .i64 en) ∧ B3 w' (w.heap.size + 1) 34 (.slice none 0 0) (.int .i64 0) (.int .i64 0) ∧ w'.cell? ⟨gx, 0, none⟩ = some (.int .i64 R))) := by
    have k1 := World.grownBy_alloc w (.cells #[.slice a ls.length c, .int .i64 st, .int .i64 en] 34) none
    have k2 := World.grownBy_alloc (w.alloc (.cells #[.slice a ls.length c, .int .i64 st, .int .i64 en] 34)) (.cells #[.slice none 0 0, .int .i64 0, .int .i64 0] 34) none
    have k := gb_none k1 k2
    refine (right_any _ _ ls (hu.keep k) hl (hT.keep k)).mono ?_
    rintro e w' ⟨rfl, q2⟩
    have x0 := ((B3.new w 34 (.slice a ls.length c) (.int .i64 st) (.int .i64 en)).keep k2).keep q2
    have x1 := (B3.new (w.alloc (.cells #[.slice a ls.length c, .int .i64 st, .int .i64 en] 34)) 34 (.slice none 0 0) (.int .i64 0) (.int .i64 0)).keep q2
    rw [World.size_alloc] at x1
    exact ⟨rfl, gb_none k q2, x0, x1, cell_keep c0 (gb_none k q2)⟩
  have HTa := hidJ (isTime_any now)
  have HSa := hidJ (isBound_any st)
  have HEa := hidJ (isBound_any en)
  obtain ⟨dE, hdE⟩ : ∃ dE, dE = dateE R now ⟨ls, st, en⟩ := ⟨_, rfl⟩
  have hdR : dRes R now (.slice a ls.length c) ⟨ls, st, en⟩ = if dE = 0 then alV (.slice a ls.length c) (stD now ⟨ls, st, en⟩) (enD R now ⟨ls, st, en⟩) else zAl := by rw [hdE]; rfl
  have hst : stD now ⟨ls, st, en⟩ = if st = 0 then now else st := rfl
  have hen : enD R now ⟨ls, st, en⟩ = if en = 0 then now + R else en := rfl
  rw [hst, hen] at hdR
  unfold dateE at hdE
  rw [hst, hen] at hdE
  dsimp only at hdE
  rw [hdR, show dateE R now ⟨ls, st, en⟩ = dE by rw [hdE]; rfl]
  have hL0 : (ls = []) = (ls.length = 0) := by simp
  simp only [hL0] at hdE
  clear hdR hst hen hu hl hT c0 hL0
  generalize (rightS ls).1 = r1 at *
  generalize (rightS ls).2 = r2 at *
  generalize ls.length = L at *
  unfold alV zAl
  unfold alV
  by_cases h1 : isT now
  · have hbT : decide (isT now) = true := decide_eq_true h1
    rw [if_neg (fun f => f h1)] at hdE
    unfold isT at h1
    by_cases h2 : r1 = 0
    · subst h2
      by_cases h3 : L = 0
      · subst h3
        rw [if_pos (.inr rfl)] at hdE
        subst hdE
        rw [if_neg (by decide)]
        go_enter Tryd.func36, Tryd.ntmps36
        go_wp2_with fail
        refine HRt.out.mono ?_
        rintro e w1 ⟨rfl, H1⟩
        clear HRt
        obtain ⟨b0, b1, b2, f0, f1, f2⟩ := H1.out.2.1.cells
        obtain ⟨d0, d1, d2, e0, e1, e2⟩ := H1.out.2.2.1.cells
        have cR := H1.out.2.2.2
        have HT0 := hidJ (HTa.out w1)
        have HS0 := hidJ (HSa.out w1)
        have HE0 := hidJ (HEa.out w1)
        first | rw [hbT] at HT0 | skip
        first | rw [hbS] at HS0 | skip
        first | rw [hbE] at HE0 | skip
        go_wp2_with (first | (go_at_call 33; refine HT0.out.mono ?_; rintro e w2 ⟨rfl, hw2⟩; have hw2 := hw2.symm; subst hw2) | (go_at_call 48; (first | with_reducible refine HS0.out.mono ?_ | with_reducible refine HE0.out.mono ?_); rintro e w2 ⟨rfl, hw2⟩; have hw2 := hw2.symm; subst hw2))
        refine bodyPost_ret (results_cell2 rfl _ _ (w.heap.size + 1) _ _ _ _ rfl (dEnd1 H1.out.2.2.1 ?hcA) Tryd.underlying34 rfl (by kernel_rfl)) rfl ⟨rfl, dEnd2 H1.out.1 ?hdA⟩
        case hcA => first | exact Ch.refl _ _ | exact set_ch _ _ _ _ | exact (set_ch _ _ _ _).trans (set_ch _ _ _ _) (fun _ _ e => e)
        case hdA => first | exact Ch.refl _ _ | exact set_ch _ _ _ _ | exact (set_ch _ _ _ _).trans (set_ch _ _ _ _) (fun _ _ e => e)
      · rw [if_neg (by omega)] at hdE
        have hL1 : ((L : Int) == 0) = false := by rw [beq_eq_false_iff_ne]; omega
        by_cases h4 : isB st
        · have hbS : decide (isB st) = true := decide_eq_true h4
          by_cases h5 : isB en
          · have hbE : decide (isB en) = true := decide_eq_true h5
            by_cases h6 : en = 0
            · subst h6
              rw [if_neg (by rintro (f | f | f); exact f h4; exact f h5; exact f.1 rfl), if_pos rfl] at hdE
              rw [if_pos rfl]
              by_cases h7 : st = 0
              · subst h7
                rw [if_pos rfl, if_neg (by omega)] at hdE
                subst hdE
                rw [if_pos rfl, if_pos rfl]
                have hlt : ¬ now + R < now := by omega
                have hr1 : -9223372036854775808 ≤ now + R ∧ now + R ≤ 9223372036854775807 := by omega
                obtain ⟨hr2, hr3⟩ := hr1
                go_enter Tryd.func36, Tryd.ntmps36
                go_wp2_with fail
                refine HRt.out.mono ?_
                rintro e w1 ⟨rfl, H1⟩
                clear HRt
                obtain ⟨b0, b1, b2, f0, f1, f2⟩ := H1.out.2.1.cells
                obtain ⟨d0, d1, d2, e0, e1, e2⟩ := H1.out.2.2.1.cells
                have cR := H1.out.2.2.2
                have HT0 := hidJ (HTa.out w1)
                have HS0 := hidJ (HSa.out w1)
                have HE0 := hidJ (HEa.out w1)
                first | rw [hbT] at HT0 | skip
                first | rw [hbS] at HS0 | skip
                first | rw [hbE] at HE0 | skip
                go_wp2_with (first | (go_at_call 33; refine HT0.out.mono ?_; rintro e w2 ⟨rfl, hw2⟩; have hw2 := hw2.symm; subst hw2) | (go_at_call 48; (first | with_reducible refine HS0.out.mono ?_ | with_reducible refine HE0.out.mono ?_); rintro e w2 ⟨rfl, hw2⟩; have hw2 := hw2.symm; subst hw2))
                refine bodyPost_ret (results_cell2 rfl _ _ (w.heap.size + 1) _ _ _ _ rfl (dEnd1 H1.out.2.2.1 ?hcB) Tryd.underlying34 rfl (by kernel_rfl)) rfl ⟨rfl, dEnd2 H1.out.1 ?hdB⟩
                case hcB => first | exact Ch.refl _ _ | exact set_ch _ _ _ _ | exact (set_ch _ _ _ _).trans (set_ch _ _ _ _) (fun _ _ e => e)
                case hdB => first | exact Ch.refl _ _ | exact set_ch _ _ _ _ | exact (set_ch _ _ _ _).trans (set_ch _ _ _ _) (fun _ _ e => e)
              · rw [if_neg h7] at hdE
                rw [if_neg h7]
                by_cases h8 : now + R < st
                · rw [if_pos h8] at hdE
                  subst hdE
                  rw [if_neg (by decide)]
                  have hr2 : -9223372036854775808 ≤ now + R := by omega
                  have hr3 : now + R ≤ 9223372036854775807 := by omega
                  go_enter Tryd.func36, Tryd.ntmps36
                  go_wp2_with fail
                  refine HRt.out.mono ?_
                  rintro e w1 ⟨rfl, H1⟩
                  clear HRt
                  obtain ⟨b0, b1, b2, f0, f1, f2⟩ := H1.out.2.1.cells
                  obtain ⟨d0, d1, d2, e0, e1, e2⟩ := H1.out.2.2.1.cells
                  have cR := H1.out.2.2.2
                  have HT0 := hidJ (HTa.out w1)
                  have HS0 := hidJ (HSa.out w1)
                  have HE0 := hidJ (HEa.out w1)
                  first | rw [hbT] at HT0 | skip
                  first | rw [hbS] at HS0 | skip
                  first | rw [hbE] at HE0 | skip
                  go_wp2_with (first | (go_at_call 33; refine HT0.out.mono ?_; rintro e w2 ⟨rfl, hw2⟩; have hw2 := hw2.symm; subst hw2) | (go_at_call 48; (first | with_reducible refine HS0.out.mono ?_ | with_reducible refine HE0.out.mono ?_); rintro e w2 ⟨rfl, hw2⟩; have hw2 := hw2.symm; subst hw2))
                  refine bodyPost_ret (results_cell2 rfl _ _ (w.heap.size + 1) _ _ _ _ rfl (dEnd1 H1.out.2.2.1 ?hcC) Tryd.underlying34 rfl (by kernel_rfl)) rfl ⟨rfl, dEnd2 H1.out.1 ?hdC⟩
                  case hcC => first | exact Ch.refl _ _ | exact set_ch _ _ _ _ | exact (set_ch _ _ _ _).trans (set_ch _ _ _ _) (fun _ _ e => e)
                  case hdC => first | exact Ch.refl _ _ | exact set_ch _ _ _ _ | exact (set_ch _ _ _ _).trans (set_ch _ _ _ _) (fun _ _ e => e)
                · rw [if_neg h8] at hdE
                  subst hdE
                  rw [if_pos rfl]
                  have hr2 : -9223372036854775808 ≤ now + R := by omega
                  have hr3 : now + R ≤ 9223372036854775807 := by omega
                  go_enter Tryd.func36, Tryd.ntmps36
                  go_wp2_with fail
                  refine HRt.out.mono ?_
                  rintro e w1 ⟨rfl, H1⟩
                  clear HRt
                  obtain ⟨b0, b1, b2, f0, f1, f2⟩ := H1.out.2.1.cells
                  obtain ⟨d0, d1, d2, e0, e1, e2⟩ := H1.out.2.2.1.cells
                  have cR := H1.out.2.2.2
                  have HT0 := hidJ (HTa.out w1)
                  have HS0 := hidJ (HSa.out w1)
                  have HE0 := hidJ (HEa.out w1)
                  first | rw [hbT] at HT0 | skip
                  first | rw [hbS] at HS0 | skip
                  first | rw [hbE] at HE0 | skip
                  go_wp2_with (first | (go_at_call 33; refine HT0.out.mono ?_; rintro e w2 ⟨rfl, hw2⟩; have hw2 := hw2.symm; subst hw2) | (go_at_call 48; (first | with_reducible refine HS0.out.mono ?_ | with_reducible refine HE0.out.mono ?_); rintro e w2 ⟨rfl, hw2⟩; have hw2 := hw2.symm; subst hw2))
                  refine bodyPost_ret (results_cell2 rfl _ _ (w.heap.size + 1) _ _ _ _ rfl (dEnd1 H1.out.2.2.1 ?hcD) Tryd.underlying34 rfl (by kernel_rfl)) rfl ⟨rfl, dEnd2 H1.out.1 ?hdD⟩
                  case hcD => first | exact Ch.refl _ _ | exact set_ch _ _ _ _ | exact (set_ch _ _ _ _).trans (set_ch _ _ _ _) (fun _ _ e => e)
                  case hdD => first | exact Ch.refl _ _ | exact set_ch _ _ _ _ | exact (set_ch _ _ _ _).trans (set_ch _ _ _ _) (fun _ _ e => e)
            · by_cases h6b : en < st
              · rw [if_pos (.inr (.inr ⟨h6, h6b⟩))] at hdE
                subst hdE
                rw [if_neg (by decide)]
                go_enter Tryd.func36, Tryd.ntmps36
                go_wp2_with fail
                refine HRt.out.mono ?_
                rintro e w1 ⟨rfl, H1⟩
                clear HRt
                obtain ⟨b0, b1, b2, f0, f1, f2⟩ := H1.out.2.1.cells
                obtain ⟨d0, d1, d2, e0, e1, e2⟩ := H1.out.2.2.1.cells
                have cR := H1.out.2.2.2
                have HT0 := hidJ (HTa.out w1)
                have HS0 := hidJ (HSa.out w1)
                have HE0 := hidJ (HEa.out w1)
                first | rw [hbT] at HT0 | skip
                first | rw [hbS] at HS0 | skip
                first | rw [hbE] at HE0 | skip
                go_wp2_with (first | (go_at_call 33; refine HT0.out.mono ?_; rintro e w2 ⟨rfl, hw2⟩; have hw2 := hw2.symm; subst hw2) | (go_at_call 48; (first | with_reducible refine HS0.out.mono ?_ | with_reducible refine HE0.out.mono ?_); rintro e w2 ⟨rfl, hw2⟩; have hw2 := hw2.symm; subst hw2))
                refine bodyPost_ret (results_cell2 rfl _ _ (w.heap.size + 1) _ _ _ _ rfl (dEnd1 H1.out.2.2.1 ?hcE) Tryd.underlying34 rfl (by kernel_rfl)) rfl ⟨rfl, dEnd2 H1.out.1 ?hdE⟩
                case hcE => first | exact Ch.refl _ _ | exact set_ch _ _ _ _ | exact (set_ch _ _ _ _).trans (set_ch _ _ _ _) (fun _ _ e => e)
                case hdE => first | exact Ch.refl _ _ | exact set_ch _ _ _ _ | exact (set_ch _ _ _ _).trans (set_ch _ _ _ _) (fun _ _ e => e)
              · rw [if_neg (by rintro (f | f | f); exact f h4; exact f h5; exact h6b f.2), if_neg h6] at hdE
                rw [if_neg h6]
                by_cases h7 : st = 0
                · subst h7
                  rw [if_pos rfl] at hdE
                  rw [if_pos rfl]
                  by_cases h8 : en < now
                  · rw [if_pos h8] at hdE
                    subst hdE
                    rw [if_neg (by decide)]
                    go_enter Tryd.func36, Tryd.ntmps36
                    go_wp2_with fail
                    refine HRt.out.mono ?_
                    rintro e w1 ⟨rfl, H1⟩
                    clear HRt
                    obtain ⟨b0, b1, b2, f0, f1, f2⟩ := H1.out.2.1.cells
                    obtain ⟨d0, d1, d2, e0, e1, e2⟩ := H1.out.2.2.1.cells
                    have cR := H1.out.2.2.2
                    have HT0 := hidJ (HTa.out w1)
                    have HS0 := hidJ (HSa.out w1)
                    have HE0 := hidJ (HEa.out w1)
                    first | rw [hbT] at HT0 | skip
                    first | rw [hbS] at HS0 | skip
                    first | rw [hbE] at HE0 | skip
                    go_wp2_with (first | (go_at_call 33; refine HT0.out.mono ?_; rintro e w2 ⟨rfl, hw2⟩; have hw2 := hw2.symm; subst hw2) | (go_at_call 48; (first | with_reducible refine HS0.out.mono ?_ | with_reducible refine HE0.out.mono ?_); rintro e w2 ⟨rfl, hw2⟩; have hw2 := hw2.symm; subst hw2))
                    refine bodyPost_ret (results_cell2 rfl _ _ (w.heap.size + 1) _ _ _ _ rfl (dEnd1 H1.out.2.2.1 ?hcF) Tryd.underlying34 rfl (by kernel_rfl)) rfl ⟨rfl, dEnd2 H1.out.1 ?hdF⟩
                    case hcF => first | exact Ch.refl _ _ | exact set_ch _ _ _ _ | exact (set_ch _ _ _ _).trans (set_ch _ _ _ _) (fun _ _ e => e)
                    case hdF => first | exact Ch.refl _ _ | exact set_ch _ _ _ _ | exact (set_ch _ _ _ _).trans (set_ch _ _ _ _) (fun _ _ e => e)
                  · rw [if_neg h8] at hdE
                    subst hdE
                    rw [if_pos rfl]
                    go_enter Tryd.func36, Tryd.ntmps36
                    go_wp2_with fail
                    refine HRt.out.mono ?_
                    rintro e w1 ⟨rfl, H1⟩
                    clear HRt
                    obtain ⟨b0, b1, b2, f0, f1, f2⟩ := H1.out.2.1.cells
                    obtain ⟨d0, d1, d2, e0, e1, e2⟩ := H1.out.2.2.1.cells
                    have cR := H1.out.2.2.2
                    have HT0 := hidJ (HTa.out w1)
                    have HS0 := hidJ (HSa.out w1)
                    have HE0 := hidJ (HEa.out w1)
                    first | rw [hbT] at HT0 | skip
                    first | rw [hbS] at HS0 | skip
                    first | rw [hbE] at HE0 | skip
                    go_wp2_with (first | (go_at_call 33; refine HT0.out.mono ?_; rintro e w2 ⟨rfl, hw2⟩; have hw2 := hw2.symm; subst hw2) | (go_at_call 48; (first | with_reducible refine HS0.out.mono ?_ | with_reducible refine HE0.out.mono ?_); rintro e w2 ⟨rfl, hw2⟩; have hw2 := hw2.symm; subst hw2))
                    refine bodyPost_ret (results_cell2 rfl _ _ (w.heap.size + 1) _ _ _ _ rfl (dEnd1 H1.out.2.2.1 ?hcG) Tryd.underlying34 rfl (by kernel_rfl)) rfl ⟨rfl, dEnd2 H1.out.1 ?hdG⟩
                    case hcG => first | exact Ch.refl _ _ | exact set_ch _ _ _ _ | exact (set_ch _ _ _ _).trans (set_ch _ _ _ _) (fun _ _ e => e)
                    case hdG => first | exact Ch.refl _ _ | exact set_ch _ _ _ _ | exact (set_ch _ _ _ _).trans (set_ch _ _ _ _) (fun _ _ e => e)
                · rw [if_neg h7, if_neg h6b] at hdE
                  subst hdE
                  rw [if_neg h7, if_pos rfl]
                  go_enter Tryd.func36, Tryd.ntmps36
                  go_wp2_with fail
                  refine HRt.out.mono ?_
                  rintro e w1 ⟨rfl, H1⟩
                  clear HRt
                  obtain ⟨b0, b1, b2, f0, f1, f2⟩ := H1.out.2.1.cells
                  obtain ⟨d0, d1, d2, e0, e1, e2⟩ := H1.out.2.2.1.cells
                  have cR := H1.out.2.2.2
                  have HT0 := hidJ (HTa.out w1)
                  have HS0 := hidJ (HSa.out w1)
                  have HE0 := hidJ (HEa.out w1)
                  first | rw [hbT] at HT0 | skip
                  first | rw [hbS] at HS0 | skip
                  first | rw [hbE] at HE0 | skip
                  go_wp2_with (first | (go_at_call 33; refine HT0.out.mono ?_; rintro e w2 ⟨rfl, hw2⟩; have hw2 := hw2.symm; subst hw2) | (go_at_call 48; (first | with_reducible refine HS0.out.mono ?_ | with_reducible refine HE0.out.mono ?_); rintro e w2 ⟨rfl, hw2⟩; have hw2 := hw2.symm; subst hw2))
                  refine bodyPost_ret (results_cell2 rfl _ _ (w.heap.size + 1) _ _ _ _ rfl (dEnd1 H1.out.2.2.1 ?hcH) Tryd.underlying34 rfl (by kernel_rfl)) rfl ⟨rfl, dEnd2 H1.out.1 ?hdH⟩
                  case hcH => first | exact Ch.refl _ _ | exact set_ch _ _ _ _ | exact (set_ch _ _ _ _).trans (set_ch _ _ _ _) (fun _ _ e => e)
                  case hdH => first | exact Ch.refl _ _ | exact set_ch _ _ _ _ | exact (set_ch _ _ _ _).trans (set_ch _ _ _ _) (fun _ _ e => e)
          · have hbE : decide (isB en) = false := decide_eq_false h5
            rw [if_pos (.inr (.inl h5))] at hdE
            subst hdE
            rw [if_neg (by decide)]
            go_enter Tryd.func36, Tryd.ntmps36
            go_wp2_with fail
            refine HRt.out.mono ?_
            rintro e w1 ⟨rfl, H1⟩
            clear HRt
            obtain ⟨b0, b1, b2, f0, f1, f2⟩ := H1.out.2.1.cells
            obtain ⟨d0, d1, d2, e0, e1, e2⟩ := H1.out.2.2.1.cells
            have cR := H1.out.2.2.2
            have HT0 := hidJ (HTa.out w1)
            have HS0 := hidJ (HSa.out w1)
            have HE0 := hidJ (HEa.out w1)
            first | rw [hbT] at HT0 | skip
            first | rw [hbS] at HS0 | skip
            first | rw [hbE] at HE0 | skip
            go_wp2_with (first | (go_at_call 33; refine HT0.out.mono ?_; rintro e w2 ⟨rfl, hw2⟩; have hw2 := hw2.symm; subst hw2) | (go_at_call 48; (first | with_reducible refine HS0.out.mono ?_ | with_reducible refine HE0.out.mono ?_); rintro e w2 ⟨rfl, hw2⟩; have hw2 := hw2.symm; subst hw2))
            refine bodyPost_ret (results_cell2 rfl _ _ (w.heap.size + 1) _ _ _ _ rfl (dEnd1 H1.out.2.2.1 ?hcI) Tryd.underlying34 rfl (by kernel_rfl)) rfl ⟨rfl, dEnd2 H1.out.1 ?hdI⟩
            case hcI => first | exact Ch.refl _ _ | exact set_ch _ _ _ _ | exact (set_ch _ _ _ _).trans (set_ch _ _ _ _) (fun _ _ e => e)
            case hdI => first | exact Ch.refl _ _ | exact set_ch _ _ _ _ | exact (set_ch _ _ _ _).trans (set_ch _ _ _ _) (fun _ _ e => e)
        · have hbS : decide (isB st) = false := decide_eq_false h4
          rw [if_pos (.inl h4)] at hdE
          subst hdE
          rw [if_neg (by decide)]
          go_enter Tryd.func36, Tryd.ntmps36
          go_wp2_with fail
          refine HRt.out.mono ?_
          rintro e w1 ⟨rfl, H1⟩
          clear HRt
          obtain ⟨b0, b1, b2, f0, f1, f2⟩ := H1.out.2.1.cells
          obtain ⟨d0, d1, d2, e0, e1, e2⟩ := H1.out.2.2.1.cells
          have cR := H1.out.2.2.2
          have HT0 := hidJ (HTa.out w1)
          have HS0 := hidJ (HSa.out w1)
          have HE0 := hidJ (HEa.out w1)
          first | rw [hbT] at HT0 | skip
          first | rw [hbS] at HS0 | skip
          first | rw [hbE] at HE0 | skip
          go_wp2_with (first | (go_at_call 33; refine HT0.out.mono ?_; rintro e w2 ⟨rfl, hw2⟩; have hw2 := hw2.symm; subst hw2) | (go_at_call 48; (first | with_reducible refine HS0.out.mono ?_ | with_reducible refine HE0.out.mono ?_); rintro e w2 ⟨rfl, hw2⟩; have hw2 := hw2.symm; subst hw2))
          refine bodyPost_ret (results_cell2 rfl _ _ (w.heap.size + 1) _ _ _ _ rfl (dEnd1 H1.out.2.2.1 ?hcJ) Tryd.underlying34 rfl (by kernel_rfl)) rfl ⟨rfl, dEnd2 H1.out.1 ?hdJ⟩
          case hcJ => first | exact Ch.refl _ _ | exact set_ch _ _ _ _ | exact (set_ch _ _ _ _).trans (set_ch _ _ _ _) (fun _ _ e => e)
          case hdJ => first | exact Ch.refl _ _ | exact set_ch _ _ _ _ | exact (set_ch _ _ _ _).trans (set_ch _ _ _ _) (fun _ _ e => e)
    · rw [if_pos (.inl h2)] at hdE
      subst hdE
      rw [if_neg (by decide)]
      have h2b : (r1 == 0) = false := by rw [beq_eq_false_iff_ne]; exact h2
      go_enter Tryd.func36, Tryd.ntmps36
      go_wp2_with fail
      refine HRt.out.mono ?_
      rintro e w1 ⟨rfl, H1⟩
      clear HRt
      obtain ⟨b0, b1, b2, f0, f1, f2⟩ := H1.out.2.1.cells
      obtain ⟨d0, d1, d2, e0, e1, e2⟩ := H1.out.2.2.1.cells
      have cR := H1.out.2.2.2
      have HT0 := hidJ (HTa.out w1)
      have HS0 := hidJ (HSa.out w1)
      have HE0 := hidJ (HEa.out w1)
      first | rw [hbT] at HT0 | skip
      first | rw [hbS] at HS0 | skip
      first | rw [hbE] at HE0 | skip
      go_wp2_with (first | (go_at_call 33; refine HT0.out.mono ?_; rintro e w2 ⟨rfl, hw2⟩; have hw2 := hw2.symm; subst hw2) | (go_at_call 48; (first | with_reducible refine HS0.out.mono ?_ | with_reducible refine HE0.out.mono ?_); rintro e w2 ⟨rfl, hw2⟩; have hw2 := hw2.symm; subst hw2))
      refine bodyPost_ret (results_cell2 rfl _ _ (w.heap.size + 1) _ _ _ _ rfl (dEnd1 H1.out.2.2.1 ?hcK) Tryd.underlying34 rfl (by kernel_rfl)) rfl ⟨rfl, dEnd2 H1.out.1 ?hdK⟩
      case hcK => first | exact Ch.refl _ _ | exact set_ch _ _ _ _ | exact (set_ch _ _ _ _).trans (set_ch _ _ _ _) (fun _ _ e => e)
      case hdK => first | exact Ch.refl _ _ | exact set_ch _ _ _ _ | exact (set_ch _ _ _ _).trans (set_ch _ _ _ _) (fun _ _ e => e)
  · have hbT : decide (isT now) = false := decide_eq_false h1
    rw [if_pos h1] at hdE
    subst hdE
    rw [if_neg (by decide)]
    go_enter Tryd.func36, Tryd.ntmps36
    go_wp2_with fail
    refine HRt.out.mono ?_
    rintro e w1 ⟨rfl, H1⟩
    clear HRt
    obtain ⟨b0, b1, b2, f0, f1, f2⟩ := H1.out.2.1.cells
    obtain ⟨d0, d1, d2, e0, e1, e2⟩ := H1.out.2.2.1.cells
    have cR := H1.out.2.2.2
    have HT0 := hidJ (HTa.out w1)
    have HS0 := hidJ (HSa.out w1)
    have HE0 := hidJ (HEa.out w1)
    first | rw [hbT] at HT0 | skip
    first | rw [hbS] at HS0 | skip
    first | rw [hbE] at HE0 | skip
    go_wp2_with (first | (go_at_call 33; refine HT0.out.mono ?_; rintro e w2 ⟨rfl, hw2⟩; have hw2 := hw2.symm; subst hw2) | (go_at_call 48; (first | with_reducible refine HS0.out.mono ?_ | with_reducible refine HE0.out.mono ?_); rintro e w2 ⟨rfl, hw2⟩; have hw2 := hw2.symm; subst hw2))
    refine bodyPost_ret (results_cell2 rfl _ _ (w.heap.size + 1) _ _ _ _ rfl (dEnd1 H1.out.2.2.1 ?hcL) Tryd.underlying34 rfl (by kernel_rfl)) rfl ⟨rfl, dEnd2 H1.out.1 ?hdL⟩
    case hcL => first | exact Ch.refl _ _ | exact set_ch _ _ _ _ | exact (set_ch _ _ _ _).trans (set_ch _ _ _ _) (fun _ _ e => e)
    case hdL => first | exact Ch.refl _ _ | exact set_ch _ _ _ _ | exact (set_ch _ _ _ _).trans (set_ch _ _ _ _) (fun _ _ e => e)
end Go.Proofs.YtmgbcmogdjhacaaDoor
