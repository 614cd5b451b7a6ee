/-
  OverRises: the law's walk.
-/
import Derived.Test.YtgpednikianneaaLawOvBnd
namespace Go.Proofs.Ytgpednikianneaa
open Go.RowKit

def orC (g : Bool) (c : Nat) : Nat := if g = true then c else 0
theorem CallP.oneC {V : List SmpT → Int → Int → Nat} {n : Nat} {l : List SmpT} {frm upt : Int} {e : Ending} (h : CallP (fun m f t x => cz x = V m f t) n l frm upt e) : e = .returned (.tuple #[.float .f64 (orC (gdB n l frm upt) (V (live l) frm upt)), .bool (gdB n l frm upt), .int .i64 (erI l frm upt)]) := by
  unfold gdB erI orC
  rcases h with ⟨h1, h2⟩ | ⟨h1, h2, h3⟩ | ⟨h1, h2, v, h3, h4⟩
  · rw [h1, h2]; rfl
  · rw [h1, h3, decide_eq_false (by omega : ¬ n ≤ (live l).length)]; rfl
  · rw [h1, h4, cz_told, h3, decide_eq_true h2]; rfl
theorem bits_any (w : World) (a b : Nat) : Calls Try.prog 8 #[.float .f64 a, .float .f64 b] w fun e w' => e = .returned (.bool (decide ((a : Int) = (b : Int)))) ∧ w' = w := by
  have h1 := fbits_run a
  have h2 := fbits_run b
  generalize (a : Int) = x at *
  generalize (b : Int) = y at *
  go_enter Try.func8, Try.ntmps8
  go_wp2
  go_ret
  refine ⟨?_, rfl⟩
  first | rfl | (congr 2; by_cases h : x = y <;> simp [h])
/-! ### what is true of the values -/
theorem cmp_eq {a b : Int} (h : compare a b = .eq) : a = b := by
  simp only [compare, compareOfLessAndEq] at h
  split at h
  · cases h
  · split at h
    · assumption
    · cases h
theorem signed_neg (s : Bool) (m k : Nat) : Ieee.signed (!s) m k = - Ieee.signed s m k := by
  unfold Ieee.signed
  cases s <;> simp
/-- two that are equal: their difference is not above 0 -/
theorem sub_eq {a b : Nat} (h : fo a b = some .eq) : (fo (fopC .sub (cz b) (cz a)) 0 == some .gt) = false := by
  obtain ⟨ha, hb⟩ := fo_lt_nan h
  rw [cz_num ha, cz_num hb]
  have hz : ∀ s : Bool, (fo (FloatKind.f64.format.write (.number s 0 (-1074))) 0 == some .gt) = false := by decide
  have key : ∀ (s : Bool) (p : Int), FloatKind.f64.format.write (.number s 0 p) = FloatKind.f64.format.write (.number s 0 (-1074)) := fun s p => by
    show FloatKind.f64.format.nearest s 0 p = FloatKind.f64.format.nearest s 0 (-1074)
    unfold Ieee.Format.nearest
    rw [if_pos rfl, if_pos rfl]
  unfold fopC
  show (fo (match floatBits .sub .f64 b a with | some r => r | none => 9221120237041090561) 0 == some .gt) = false
  have e : floatBits .sub .f64 b a = ((FloatKind.f64.format.read b).sum (FloatKind.f64.format.read a).opposite).map FloatKind.f64.format.write := rfl
  rw [e]
  change (FloatKind.f64.format.read a).order (FloatKind.f64.format.read b) = some .eq at h
  generalize FloatKind.f64.format.read a = d at *
  generalize FloatKind.f64.format.read b = f at *
  have hn : (fo 9221120237041090561 0 == some .gt) = false := by decide
  cases d with
  | nan s t => simp [Ieee.Datum.order] at h
  | infinity s =>
    cases f with
    | nan s t => simp [Ieee.Datum.order] at h
    | number t n j => cases s <;> simp [Ieee.Datum.order] at h
    | infinity t =>
      have e : t = s := by cases s <;> cases t <;> first | rfl | (simp [Ieee.Datum.order] at h)
      subst e
      have e2 : (Ieee.Datum.infinity t).sum (Ieee.Datum.infinity t).opposite = none := by cases t <;> rfl
      rw [e2]
      exact hn
  | number s m i =>
    cases f with
    | nan s t => simp [Ieee.Datum.order] at h
    | infinity t => cases t <;> simp [Ieee.Datum.order] at h
    | number t n j =>
      simp only [Ieee.Datum.order, Option.some.injEq] at h
      have h2 := cmp_eq h
      have e2 : (Ieee.Datum.number t n j).sum (Ieee.Datum.number s m i).opposite = some (.number (t && !s) 0 (min j i)) := by
        simp only [Ieee.Datum.opposite, Ieee.Datum.sum]
        rw [signed_neg]
        have e3 : min j i = min i j := by omega
        rw [e3, h2]
        have e4 : Ieee.signed t n (j - min i j).toNat + -Ieee.signed t n (j - min i j).toNat = 0 := by omega
        rw [e4]
        simp
      rw [e2]
      show (fo (FloatKind.f64.format.write (.number (t && !s) 0 (min j i))) 0 == some .gt) = false
      rw [key]
      exact hz _
theorem gain_flat (l : List SmpT) (h : ∀ j, j + 1 < l.length → fallB l j = false) (z : Nat) (hz : z < l.length) : gnC l z = gnC l 0 := by
  induction z with
  | zero => rfl
  | succ z ih =>
    unfold gnC
    rw [h z hz]
    exact ih (by omega)
/-- of values that do not fall, and are all the same, or begin below 0: increase is delta -/
theorem inc_del (l : List SmpT) (frm upt : Int) (hl : 1 ≤ l.length) (h : ∀ j, j + 1 < l.length → fallB l j = false) (hb : (fo (l.getD 0 smZ).2 0 == some .gt || fo (l.getD 0 smZ).2 0 == some .eq) = false ∨ fo (l.getD 0 smZ).2 (l.getD (l.length - 1) smZ).2 = some .eq) : incC l frm upt = delC l frm upt := by
  have hg : gainC l = fopC .sub (cz (l.getD (l.length - 1) smZ).2) (cz (l.getD 0 smZ).2) := gain_flat l h _ (by omega)
  have hu : upB l (gainC l) = false := by
    unfold upB
    rcases hb with hb | hb
    · rw [hb, Bool.and_false]
    · rw [hg, sub_eq hb, Bool.false_and]
  have hs : szrC l frm (gainC l) = ahdC l frm := by
    unfold szrC
    rw [hu]
    rfl
  unfold incC facC delC
  rw [hs, hg]
set_option maxRecDepth 8000 in
set_option maxHeartbeats 25600000 in
theorem rises_walk (v : Value) (l : List SmpT) (frm upt : Int) (w : World) (hv : RdP w v l) (hl : l.length ≤ 8796093022208) :
    Calls Try.prog 5 #[v, .int .i64 frm, .int .i64 upt] w fun e w' => e = .returned (.bool true) ∧ Below w.heap.size w w' := by
  have HB : Hid (gdB 2 l frm upt = true → (∀ j, j < l.length → nanB (l.getD j smZ).2 = false) → (∀ j, j + 1 < l.length → fallB l j = false) → 2 ≤ l.length → (fo (l.getD 0 smZ).2 0 == some .gt || fo (l.getD 0 smZ).2 0 == some .eq) = false ∨ fo (l.getD 0 smZ).2 (l.getD (l.length - 1) smZ).2 = some .eq → (orC (gdB 2 l frm upt) (incC (live l) frm upt) : Int) = (orC (gdB 2 l frm upt) (delC (live l) frm upt) : Int)) := fun hg hn hf h2 hb => by
    rw [live_all hn, inc_del l frm upt (by omega) hf hb]
  have H0 : Hid (∀ W, w.grownBy W none → Calls Try.prog 11 #[.string ⟨#[105, 110, 99, 114, 101, 97, 115, 101]⟩, v, .int .i64 frm, .int .i64 upt, .float .f64 0] W fun e w' => e = .returned (.tuple #[.float .f64 (orC (gdB 2 l frm upt) (incC (live l) frm upt)), .bool (gdB 2 l frm upt), .int .i64 (erI l frm upt)]) ∧ Hid (w.grownBy w' none)) := fun W hW => (call_increase W v l frm upt 0 (hv.keep hW) hl).mono (by
    rintro e w' ⟨q1, q2⟩
    exact ⟨q1.oneC, gb_none hW q2⟩)
  have H1 : Hid (∀ W, w.grownBy W none → Calls Try.prog 11 #[.string ⟨#[100, 101, 108, 116, 97]⟩, v, .int .i64 frm, .int .i64 upt, .float .f64 0] W fun e w' => e = .returned (.tuple #[.float .f64 (orC (gdB 2 l frm upt) (delC (live l) frm upt)), .bool (gdB 2 l frm upt), .int .i64 (erI l frm upt)]) ∧ Hid (w.grownBy w' none)) := fun W hW => (call_delta W v l frm upt 0 (hv.keep hW) hl).mono (by
    rintro e w' ⟨q1, q2⟩
    exact ⟨q1.oneC, gb_none hW q2⟩)
  have H2 : Hid (∀ W, w.grownBy W none → Calls Try.prog 11 #[.string ⟨#[114, 97, 116, 101]⟩, v, .int .i64 frm, .int .i64 upt, .float .f64 0] W fun e w' => e = .returned (.tuple #[.float .f64 (orC (gdB 2 l frm upt) (ratC (live l) frm upt)), .bool (gdB 2 l frm upt), .int .i64 (erI l frm upt)]) ∧ Hid (w.grownBy w' none)) := fun W hW => (call_rate W v l frm upt 0 (hv.keep hW) hl).mono (by
    rintro e w' ⟨q1, q2⟩
    exact ⟨q1.oneC, gb_none hW q2⟩)
  have HK : Hid (∀ W, w.grownBy W none → Calls Try.prog 10 #[] W fun e w' => e = .returned (.bool true) ∧ Hid (Below w.heap.size w w')) := fun W hW => (known_any W).mono (by
    rintro e w' ⟨q1, q2⟩
    exact ⟨q1, gb_below (gb_none hW q2)⟩)
  generalize orC (gdB 2 l frm upt) (incC (live l) frm upt) = x0 at *
  generalize orC (gdB 2 l frm upt) (delC (live l) frm upt) = x1 at *
  generalize orC (gdB 2 l frm upt) (ratC (live l) frm upt) = x2 at *
  have HBt : Hid (∀ W, Calls Try.prog 8 #[.float .f64 x0, .float .f64 x1] W fun e w' => e = .returned (.bool (decide ((x0 : Int) = (x1 : Int)))) ∧ w' = W) := fun W => bits_any W x0 x1
  generalize gdB 2 l frm upt = g at *
  generalize erI l frm upt = er at *
  have HV := hidJ hv
  obtain ⟨va, vc, rfl, hc1, hc2, -⟩ := hv
  unfold maxLen at hc2
  obtain ⟨N, hN⟩ : ∃ N, l.length = N := ⟨_, rfl⟩
  have HN := hidJ hN
  rw [hN] at H0 H1 H2 hc1 hl ⊢
  clear hN
  go_enter Try.func5, Try.ntmps5
  go_wp2_with fail
  refine (H0.out _ (gb_refl _ _)).mono ?_
  rintro e w1 ⟨rfl, q1⟩
  clear H0
  go_wp2_with fail
  refine (H1.out _ (q1.out)).mono ?_
  rintro e w2 ⟨rfl, q2⟩
  clear H1
  go_wp2_with fail
  refine (H2.out _ (q2.out)).mono ?_
  rintro e w3 ⟨rfl, q3⟩
  clear H2
  have HG := hidJ q3.out
  clear q1 q2 q3
  cases g with
  | false =>
    have HK7 := hidJ (HK.out w3 HG.out)
    clear HB HK HV HBt
    go_wp2_with fail
    refine HK7.out.mono ?_
    rintro e w8 ⟨rfl, q8⟩
    clear HK7
    go_wp2
    go_ret
    exact ⟨rfl, q8.out⟩
  | true =>
    by_cases hN2 : N < 2
    · have hni : (N : Int) < 2 := by omega
      have HK7 := hidJ (HK.out w3 HG.out)
      clear HB HK HV HBt
      go_wp2_with fail
      refine HK7.out.mono ?_
      rintro e w8 ⟨rfl, q8⟩
      clear HK7
      go_wp2
      go_ret
      exact ⟨rfl, q8.out⟩
    · have hni : ¬ (N : Int) < 2 := by omega
      obtain ⟨b, o, rfl, -⟩ : ∃ b o, va = some ⟨b, o, none⟩ ∧ True := by
        obtain ⟨a', c', e0, -, -, h3⟩ := HV.out
        obtain ⟨b, o, e1, -⟩ := h3 0 (by rw [HN.out]; omega)
        simp only [Value.slice.injEq] at e0
        exact ⟨b, o, e0.1.trans e1, trivial⟩
      have HE : Hid (∀ j, j < N → ∀ wr, w.grownBy wr none → wr.cell? ⟨b, o + j * 2 + 1, none⟩ = some (.float .f64 (l.getD j smZ).2)) := fun j hj wr hg => by
        obtain ⟨a', c', e0, -, -, h3⟩ := HV.out.keep hg
        obtain ⟨b', o', e1, -, d1⟩ := h3 j (by rw [HN.out]; exact hj)
        simp only [Value.slice.injEq] at e0
        obtain ⟨h1, -⟩ := e0
        rw [e1] at h1
        simp only [Option.some.injEq, Addr.mk.injEq, and_true] at h1
        obtain ⟨rfl, rfl⟩ := h1
        exact d1
      go_wp2
      go_loopw [16] (fun ui wr => ∃ z : Nat, z ≤ N ∧ ui = .int .i64 (z : Int) ∧ Hid ((∀ j, j < z → nanB (l.getD j smZ).2 = false) ∧ (∀ j, j + 1 < z → fallB l j = false) ∧ w.grownBy wr none)) (fun ui _ => N - (intOf ui).toNat)
      case atStart => exact ⟨0, by omega, rfl, fun j hj => by omega, fun j hj => by omega, HG.out⟩
      case round =>
        obtain ⟨z, hzN, rfl, hr⟩ := hrel
        by_cases hzl : z < N
        · have hzi : (z : Int) < (N : Int) := by omega
          have hq1 : ¬ N ≤ z := by omega
          have d1 := HE.out z hzl wr hr.out.2.2
          have hfo : (FloatKind.f64.format.order (l.getD z smZ).2 (l.getD z smZ).2 != some .eq) = nanB (l.getD z smZ).2 := rfl
          have HQ : Hid (∀ n : Nat, w.grownBy (wr.drewN n) none) := fun n => gb_none hr.out.2.2 ⟨rfl, rfl, rfl, Nat.le_refl _, fun _ _ _ => rfl⟩
          have HNx : Hid (nanB (l.getD z smZ).2 = false → ∀ j, j < z + 1 → nanB (l.getD j smZ).2 = false) := fun h j hj => by
            by_cases e : j = z
            · rw [e]; exact h
            · exact hr.out.1 j (by omega)
          have HFx : Hid (∀ p, z = p + 1 → (fo (l.getD z smZ).2 (l.getD p smZ).2 == some .lt) = false → ∀ j, j + 1 < z + 1 → fallB l j = false) := fun p hp h j hj => by
            by_cases e : j = p
            · rw [e]
              unfold fallB
              rw [← hp]
              exact h
            · exact hr.out.2.1 j (by omega)
          have HR := hidJ hr.out
          clear hr HB HBt
          by_cases hz0 : z = 0
          · subst hz0
            have d1' : wr.cell? ⟨b, o + 1, none⟩ = some (.float .f64 (l.getD 0 smZ).2) := by
              rw [show o + 0 * 2 + 1 = o + 1 by omega] at d1
              exact d1
            have hF0 : Hid (∀ j, j + 1 < 0 + 1 → fallB l j = false) := fun j hj => by omega
            clear HFx d1 HE
            generalize (l.getD 0 smZ).2 = x at *
            generalize nanB x = nb at *
            cases nb with
            | true =>
              go_wp2
              go_quiet (fail)
              have HK7 := hidJ (HK.out _ (HQ.out nq))
              clear HK HQ HNx HV HG
              go_wp2_with fail
              refine HK7.out.mono ?_
              rintro e w8 ⟨rfl, q8⟩
              clear HK7
              go_wp2
              go_ret
              exact ⟨rfl, q8.out⟩
            | false =>
              have HX := hidJ (HNx.out rfl)
              clear HK HNx HV HG
              go_wp2
              go_quiet (fail)
              have HY := hidJ (HQ.out nq)
              clear HQ
              go_wp2
              go_roundw
              case rel => exact ⟨0 + 1, by omega, by go_num, HX.out, hF0.out, HY.out⟩
              case measure => simp [intOf]; omega
          · obtain ⟨p, hp⟩ : ∃ p, z = p + 1 := ⟨z - 1, by omega⟩
            have d2 := HE.out p (by omega) wr HR.out.2.2
            have hz1 : (0 : Int) < (z : Int) := by omega
            have hz2 : 0 < z := by omega
            have hwz : IntKind.i64.wrap ((z : Int) - 1) = (p : Int) := by rw [IntKind.wrap_i64]; omega
            have hp1 : ¬ N ≤ p := by omega
            have hp2 : p < N := by omega
            have hf2 : (FloatKind.f64.format.order (l.getD z smZ).2 (l.getD p smZ).2 == some .lt) = (fo (l.getD z smZ).2 (l.getD p smZ).2 == some .lt) := rfl
            have HFp := hidJ (HFx.out p hp)
            clear HFx HE hp HR
            generalize (l.getD z smZ).2 = x at *
            generalize (l.getD p smZ).2 = y at *
            generalize nanB x = nb at *
            generalize (fo x y == some .lt) = lb at *
            cases nb with
            | true =>
              go_wp2
              go_quiet (fail)
              have HK7 := hidJ (HK.out _ (HQ.out nq))
              clear HK HQ HNx HV HG
              go_wp2_with fail
              refine HK7.out.mono ?_
              rintro e w8 ⟨rfl, q8⟩
              clear HK7
              go_wp2
              go_ret
              exact ⟨rfl, q8.out⟩
            | false =>
              cases lb with
              | true =>
                go_wp2
                go_quiet (fail)
                have HK7 := hidJ (HK.out _ (HQ.out nq))
                clear HK HQ HNx HV HG
                go_wp2_with fail
                refine HK7.out.mono ?_
                rintro e w8 ⟨rfl, q8⟩
                clear HK7
                go_wp2
                go_ret
                exact ⟨rfl, q8.out⟩
              | false =>
                have HX := hidJ (HNx.out rfl)
                have HZ := hidJ (HFp.out rfl)
                clear HK HNx HV HG HFp
                go_wp2
                go_quiet (fail)
                have HY := hidJ (HQ.out nq)
                clear HQ
                go_wp2
                go_roundw
                case rel => exact ⟨z + 1, by omega, by go_num, HX.out, HZ.out, HY.out⟩
                case measure => simp [intOf]; omega
        · have hzi : ¬ (z : Int) < (N : Int) := by omega
          have hzn : z = N := by omega
          subst hzn
          obtain ⟨p, hp⟩ : ∃ p, z = p + 1 := ⟨z - 1, by omega⟩
          have d0 := HE.out 0 (by omega) wr hr.out.2.2
          rw [show o + 0 * 2 + 1 = o + 1 by omega] at d0
          have d2 := HE.out p (by omega) wr hr.out.2.2
          have hF := HB.out trivial (fun j hj => hr.out.1 j (by rw [← HN.out]; exact hj)) (fun j hj => hr.out.2.1 j (by rw [← HN.out]; exact hj)) (by rw [HN.out]; omega)
          rw [HN.out, show z - 1 = p by omega] at hF
          have HQ : Hid (∀ n : Nat, w.grownBy (wr.drewN n) none) := fun n => gb_none hr.out.2.2 ⟨rfl, rfl, rfl, Nat.le_refl _, fun _ _ _ => rfl⟩
          have hz2 : 0 < z := by omega
          have hwz : IntKind.i64.wrap ((z : Int) - 1) = (p : Int) := by rw [IntKind.wrap_i64]; omega
          have hp1 : ¬ z ≤ p := by omega
          have hp2 : p < z := by omega
          have h0z : (0 : Int) < (z : Int) := by omega
          have g1 : (FloatKind.f64.format.order (l.getD 0 smZ).2 0 == some .gt || FloatKind.f64.format.order (l.getD 0 smZ).2 0 == some .eq) = (fo (l.getD 0 smZ).2 0 == some .gt || fo (l.getD 0 smZ).2 0 == some .eq) := rfl
          have g2 : (FloatKind.f64.format.order (l.getD 0 smZ).2 (l.getD p smZ).2 != some .eq) = (fo (l.getD 0 smZ).2 (l.getD p smZ).2 != some .eq) := rfl
          have HF : Hid ((fo (l.getD 0 smZ).2 0 == some .gt || fo (l.getD 0 smZ).2 0 == some .eq) = false ∨ (fo (l.getD 0 smZ).2 (l.getD p smZ).2 != some .eq) = false → (x0 : Int) = (x1 : Int)) := fun h => by
            refine hF (h.imp id (fun h => ?_))
            simpa using h
          clear hr HB HE HV HG hF hp
          generalize (fo (l.getD 0 smZ).2 0 == some .gt || fo (l.getD 0 smZ).2 0 == some .eq) = b1 at *
          generalize (fo (l.getD 0 smZ).2 (l.getD p smZ).2 != some .eq) = b2 at *
          generalize (l.getD 0 smZ).2 = f0 at *
          generalize (l.getD p smZ).2 = fz at *
          -- the end: bits and known
          have HEnd : Hid (∀ n : Nat, (x0 : Int) = (x1 : Int) → Calls Try.prog 8 #[.float .f64 x0, .float .f64 x1] (wr.drewN n) fun e w' => e = .returned (.bool true) ∧ w' = wr.drewN n) := fun n h => by
            have := HBt.out (wr.drewN n)
            rw [decide_eq_true h] at this
            exact this
          clear HBt
          cases b1 with
          | true =>
            cases b2 with
            | true =>
              clear HF HEnd
              go_wp2
              go_quiet (fail)
              have HK7 := hidJ (HK.out _ (HQ.out nq))
              clear HK HQ
              go_wp2_with fail
              refine HK7.out.mono ?_
              rintro e w8 ⟨rfl, q8⟩
              clear HK7
              go_wp2
              go_ret
              exact ⟨rfl, q8.out⟩
            | false =>
              have hx := HF.out (.inr rfl)
              clear HF
              go_wp2
              go_quiet (fail)
              have HK7 := hidJ (HK.out _ (HQ.out nq))
              have HE7 := hidJ (HEnd.out nq hx)
              clear HK HQ HEnd hx
              go_wp2_with fail
              refine HE7.out.mono ?_
              rintro e w8 ⟨rfl, rfl⟩
              clear HE7
              go_wp2_with fail
              refine HK7.out.mono ?_
              rintro e w8 ⟨rfl, q8⟩
              clear HK7
              go_wp2
              go_ret
              exact ⟨rfl, q8.out⟩
          | false =>
            have hx := HF.out (.inl rfl)
            clear HF
            go_wp2
            go_quiet (fail)
            have HK7 := hidJ (HK.out _ (HQ.out nq))
            have HE7 := hidJ (HEnd.out nq hx)
            clear HK HQ HEnd hx
            go_wp2_with fail
            refine HE7.out.mono ?_
            rintro e w8 ⟨rfl, rfl⟩
            clear HE7
            go_wp2_with fail
            refine HK7.out.mono ?_
            rintro e w8 ⟨rfl, q8⟩
            clear HK7
            go_wp2
            go_ret
            exact ⟨rfl, q8.out⟩
end Go.Proofs.Ytgpednikianneaa
