/-
  OverBounds: the law's walk.
-/
import Derived.Test.YtgpednikianneaaOvZ
namespace Go.Proofs.Ytgpednikianneaa
open Go.RowKit

/-- is there a value? -/
def gdB (n : Nat) (l : List SmpT) (frm upt : Int) : Bool := rightW (live l) frm upt && decide (n ≤ (live l).length)
def erI (l : List SmpT) (frm upt : Int) : Int := if rightW (live l) frm upt = true then 0 else 1
def orZ (g : Bool) (v : Nat) : Nat := if g = true then toldN v else 0
/-- what Call answers, in one form -/
theorem CallP.one {V : List SmpT → Nat} {n : Nat} {l : List SmpT} {frm upt : Int} {e : Ending} (h : CallP (fun m _ _ x => x = V m) n l frm upt e) : e = .returned (.tuple #[.float .f64 (orZ (gdB n l frm upt) (V (live l))), .bool (gdB n l frm upt), .int .i64 (erI l frm upt)]) := by
  unfold gdB erI orZ
  rcases h with ⟨h1, h2⟩ | ⟨h1, h2, h3⟩ | ⟨h1, h2, v, h3, h4⟩
  · rw [h1, h2]; rfl
  · rw [h1, h3, decide_eq_false (by omega : ¬ n ≤ (live l).length)]; rfl
  · rw [h1, h4, h3, decide_eq_true h2]; rfl
/-! ### what is true of the values -/
theorem told_num {a : Nat} (h : nanB a = false) : toldN a = a := by unfold toldN; rw [h]; rfl
theorem int_num {n : Nat} (h : n < 9007199254740992) : nanB (floatOfInt .f64 (n : Int)) = false := by
  have := fo_int h h
  unfold nanB
  rw [this]
  simp
theorem rst_chg (a v : Nat) (h : rstB a v = true) : chgB a v = true := by
  unfold rstB at h
  have h2 : fo v a = some .lt := by simpa using h
  obtain ⟨e1, e2⟩ := fo_lt_nan h2
  unfold chgB
  rw [h2, e1]
  rfl
theorem rst_le (l : List SmpT) (z : Nat) : hwN rstB l z ≤ hwN chgB l z := by
  induction z with
  | zero => exact Nat.le_refl _
  | succ z ih =>
    unfold hwN
    cases h : rstB (l.getD z smZ).2 (l.getD (z + 1) smZ).2 with
    | false => rw [if_neg (by simp)]; omega
    | true => rw [if_pos rfl, if_pos (rst_chg _ _ h)]; omega
/-- where all are numbers, so is what is picked; and the last one is none better -/
theorem pk_num (P : Nat → Nat → Bool) (l : List SmpT) (hn : ∀ j, j < l.length → nanB (l.getD j smZ).2 = false) (z : Nat) (hz : z < l.length) : nanB (pkN P l z) = false ∧ (pkN P l z = (l.getD z smZ).2 ∨ P (l.getD z smZ).2 (pkN P l z) = false) := by
  induction z with
  | zero => exact ⟨hn 0 hz, .inl rfl⟩
  | succ z ih =>
    obtain ⟨h1, -⟩ := ih (by omega)
    unfold pkN
    cases h : P (l.getD (z + 1) smZ).2 (pkN P l z) with
    | true => rw [Bool.true_or, if_pos rfl]; exact ⟨hn _ hz, .inl rfl⟩
    | false => rw [h1, Bool.or_self, if_neg (by simp)]; exact ⟨h1, .inr h⟩
theorem live_all {l : List SmpT} (hn : ∀ j, j < l.length → nanB (l.getD j smZ).2 = false) : live l = l := by
  refine List.filter_eq_self.2 fun x hx => ?_
  obtain ⟨j, hj, rfl⟩ := List.mem_iff_getElem.1 hx
  have := hn j hj
  have e : l.getD j smZ = l[j] := by simp [List.getD, hj]
  rw [e] at this
  unfold stl
  have : ¬ l[j].2 = 9218868437227405314 := fun h => by
    rw [h] at this
    exact absurd this (by decide)
  rw [decide_eq_false this]
  rfl
/-- all that the law asks of the values -/
structure BndF (l : List SmpT) (frm upt : Int) (g : Bool) (er : Int) (n ls le gr on ch rs : Nat) : Prop where
  bad : g = true → er = 0
  one : g = true → (fo on 4607182418800017408 != some .eq) = false
  least1 : g = true → (fo n 4607182418800017408 == some .lt) = false
  most : g = true → (fo n (floatOfInt .f64 (l.length : Int)) == some .gt) = false
  rst : g = true → (fo rs ch == some .gt) = false
  chg : g = true → (fo ch n == some .gt || fo ch n == some .eq) = false
  fin : g = true → (∀ j, j < l.length → nanB (l.getD j smZ).2 = false) → (fo n (floatOfInt .f64 (l.length : Int)) == some .eq) = true ∧ (fo ls le == some .gt || fo ls le == some .eq) = true ∧ (fo ls gr == some .lt || fo ls gr == some .eq) = true
theorem bnd_all (l : List SmpT) (frm upt : Int) (hl : l.length ≤ 8796093022208) : BndF l frm upt (gdB 1 l frm upt) (erI l frm upt) (orZ (gdB 1 l frm upt) (val_count (live l))) (orZ (gdB 1 l frm upt) (val_last (live l))) (orZ (gdB 1 l frm upt) (val_least (live l))) (orZ (gdB 1 l frm upt) (val_greatest (live l))) (orZ (gdB 1 l frm upt) (val_present (live l))) (orZ (gdB 1 l frm upt) (val_changes (live l))) (orZ (gdB 1 l frm upt) (val_resets (live l))) := by
  have hll := live_le l
  cases hg : gdB 1 l frm upt with
  | false => exact ⟨(fun h => by cases h), (fun h => by cases h), (fun h => by cases h), (fun h => by cases h), (fun h => by cases h), (fun h => by cases h), (fun h => by cases h)⟩
  | true =>
    have hg2 := hg
    unfold gdB at hg2
    rw [Bool.and_eq_true, decide_eq_true_eq] at hg2
    obtain ⟨h1, h2⟩ := hg2
    have ec : orZ true (val_count (live l)) = floatOfInt .f64 (((live l).length : Nat) : Int) := told_num (int_num (by omega))
    have hch := hwN_le chgB (live l) ((live l).length - 1)
    have hrs := rst_le (live l) ((live l).length - 1)
    have eh : orZ true (val_changes (live l)) = floatOfInt .f64 ((hwN chgB (live l) ((live l).length - 1) : Nat) : Int) := told_num (int_num (by omega))
    have er : orZ true (val_resets (live l)) = floatOfInt .f64 ((hwN rstB (live l) ((live l).length - 1) : Nat) : Int) := told_num (int_num (by omega))
    have eo : orZ true (val_present (live l)) = 4607182418800017408 := by
      unfold orZ val_present
      rw [if_pos rfl]
      exact told_num (by decide)
    have e1 : floatOfInt .f64 (((1 : Nat) : Nat) : Int) = 4607182418800017408 := by decide
    rw [ec, eh, er, eo]
    refine ⟨fun _ => by unfold erI; rw [if_pos h1], fun _ => by decide, fun _ => ?_, fun _ => ?_, fun _ => ?_, fun _ => ?_, fun _ hn => ?_⟩
    · rw [← e1, fo_int (by omega) (by omega)]
      rcases Nat.lt_or_ge 1 (live l).length with h | h
      · rw [Nat.compare_eq_gt.2 h]; rfl
      · rw [Nat.compare_eq_eq.2 (by omega)]; rfl
    · rw [fo_int (by omega) (by omega)]
      rcases Nat.lt_or_ge (live l).length l.length with h | h
      · rw [Nat.compare_eq_lt.2 h]; rfl
      · rw [Nat.compare_eq_eq.2 (by omega)]; rfl
    · rw [fo_int (by omega) (by omega)]
      rcases Nat.lt_or_ge (hwN rstB (live l) ((live l).length - 1)) (hwN chgB (live l) ((live l).length - 1)) with h | h
      · rw [Nat.compare_eq_lt.2 h]; rfl
      · rw [Nat.compare_eq_eq.2 (by omega)]; rfl
    · rw [fo_int (by omega) (by omega), Nat.compare_eq_lt.2 (by omega)]; rfl
    · have el := live_all hn
      rw [el] at h2 ⊢
      have hz : l.length - 1 < l.length := by omega
      have hlast := hn _ hz
      have k1 : orZ true (val_last l) = (l.getD (l.length - 1) smZ).2 := told_num hlast
      obtain ⟨a1, a2⟩ := pk_num lessB l hn _ hz
      obtain ⟨b1, b2⟩ := pk_num moreB l hn _ hz
      have k2 : orZ true (val_least l) = pkN lessB l (l.length - 1) := told_num a1
      have k3 : orZ true (val_greatest l) = pkN moreB l (l.length - 1) := told_num b1
      rw [k1, k2, k3]
      refine ⟨?_, ?_, ?_⟩
      · rw [fo_int (by omega) (by omega), Nat.compare_eq_eq.2 rfl]; rfl
      · rcases a2 with h | h
        · rw [h, fo_self hlast]; rfl
        · obtain ⟨c, hc⟩ := fo_some hlast a1
          have h : (fo (l.getD (l.length - 1) smZ).2 (pkN lessB l (l.length - 1)) == some .lt) = false := h
          rw [hc] at h ⊢
          cases c <;> first | rfl | (simp at h)
      · rcases b2 with h | h
        · rw [h, fo_self hlast]; rfl
        · obtain ⟨c, hc⟩ := fo_some hlast b1
          have h : (fo (l.getD (l.length - 1) smZ).2 (pkN moreB l (l.length - 1)) == some .gt) = false := h
          rw [hc] at h ⊢
          cases c <;> first | rfl | (simp at h)
set_option maxRecDepth 8000 in
set_option maxHeartbeats 12800000 in
theorem bounds_walk (v : Value) (l : List SmpT) (frm upt : Int) (w : World) (hv : RdP w v l) (hl : l.length ≤ 8796093022208) :
    Calls Try.prog 4 #[v, .int .i64 frm, .int .i64 upt] w fun e w' => e = .returned (.bool true) ∧ Below w.heap.size w w' := by
  have HB := hidJ (bnd_all l frm upt hl)
  have H0 : Hid (∀ W, w.grownBy W none → Calls Try.prog 11 #[.string ⟨#[99, 111, 117, 110, 116, 95, 111, 118, 101, 114, 95, 116, 105, 109, 101]⟩, v, .int .i64 frm, .int .i64 upt, .float .f64 0] W fun e w' => e = .returned (.tuple #[.float .f64 (orZ (gdB 1 l frm upt) (val_count (live l))), .bool (gdB 1 l frm upt), .int .i64 (erI l frm upt)]) ∧ Hid (w.grownBy w' none)) := fun W hW => (call_count W v l frm upt 0 (hv.keep hW) hl).mono (by
    rintro e w' ⟨q1, q2⟩
    exact ⟨q1.one, gb_none hW q2⟩)
  have H1 : Hid (∀ W, w.grownBy W none → Calls Try.prog 11 #[.string ⟨#[108, 97, 115, 116, 95, 111, 118, 101, 114, 95, 116, 105, 109, 101]⟩, v, .int .i64 frm, .int .i64 upt, .float .f64 0] W fun e w' => e = .returned (.tuple #[.float .f64 (orZ (gdB 1 l frm upt) (val_last (live l))), .bool (gdB 1 l frm upt), .int .i64 (erI l frm upt)]) ∧ Hid (w.grownBy w' none)) := fun W hW => (call_last W v l frm upt 0 (hv.keep hW) hl).mono (by
    rintro e w' ⟨q1, q2⟩
    exact ⟨q1.one, gb_none hW q2⟩)
  have H2 : Hid (∀ W, w.grownBy W none → Calls Try.prog 11 #[.string ⟨#[109, 105, 110, 95, 111, 118, 101, 114, 95, 116, 105, 109, 101]⟩, v, .int .i64 frm, .int .i64 upt, .float .f64 0] W fun e w' => e = .returned (.tuple #[.float .f64 (orZ (gdB 1 l frm upt) (val_least (live l))), .bool (gdB 1 l frm upt), .int .i64 (erI l frm upt)]) ∧ Hid (w.grownBy w' none)) := fun W hW => (call_least W v l frm upt 0 (hv.keep hW) hl).mono (by
    rintro e w' ⟨q1, q2⟩
    exact ⟨q1.one, gb_none hW q2⟩)
  have H3 : Hid (∀ W, w.grownBy W none → Calls Try.prog 11 #[.string ⟨#[109, 97, 120, 95, 111, 118, 101, 114, 95, 116, 105, 109, 101]⟩, v, .int .i64 frm, .int .i64 upt, .float .f64 0] W fun e w' => e = .returned (.tuple #[.float .f64 (orZ (gdB 1 l frm upt) (val_greatest (live l))), .bool (gdB 1 l frm upt), .int .i64 (erI l frm upt)]) ∧ Hid (w.grownBy w' none)) := fun W hW => (call_greatest W v l frm upt 0 (hv.keep hW) hl).mono (by
    rintro e w' ⟨q1, q2⟩
    exact ⟨q1.one, gb_none hW q2⟩)
  have H4 : Hid (∀ W, w.grownBy W none → Calls Try.prog 11 #[.string ⟨#[112, 114, 101, 115, 101, 110, 116, 95, 111, 118, 101, 114, 95, 116, 105, 109, 101]⟩, v, .int .i64 frm, .int .i64 upt, .float .f64 0] W fun e w' => e = .returned (.tuple #[.float .f64 (orZ (gdB 1 l frm upt) (val_present (live l))), .bool (gdB 1 l frm upt), .int .i64 (erI l frm upt)]) ∧ Hid (w.grownBy w' none)) := fun W hW => (call_present W v l frm upt 0 (hv.keep hW) hl).mono (by
    rintro e w' ⟨q1, q2⟩
    exact ⟨q1.one, gb_none hW q2⟩)
  have H5 : Hid (∀ W, w.grownBy W none → Calls Try.prog 11 #[.string ⟨#[99, 104, 97, 110, 103, 101, 115]⟩, v, .int .i64 frm, .int .i64 upt, .float .f64 0] W fun e w' => e = .returned (.tuple #[.float .f64 (orZ (gdB 1 l frm upt) (val_changes (live l))), .bool (gdB 1 l frm upt), .int .i64 (erI l frm upt)]) ∧ Hid (w.grownBy w' none)) := fun W hW => (call_changes W v l frm upt 0 (hv.keep hW) hl).mono (by
    rintro e w' ⟨q1, q2⟩
    exact ⟨q1.one, gb_none hW q2⟩)
  have H6 : Hid (∀ W, w.grownBy W none → Calls Try.prog 11 #[.string ⟨#[114, 101, 115, 101, 116, 115]⟩, v, .int .i64 frm, .int .i64 upt, .float .f64 0] W fun e w' => e = .returned (.tuple #[.float .f64 (orZ (gdB 1 l frm upt) (val_resets (live l))), .bool (gdB 1 l frm upt), .int .i64 (erI l frm upt)]) ∧ Hid (w.grownBy w' none)) := fun W hW => (call_resets W v l frm upt 0 (hv.keep hW) hl).mono (by
    rintro e w' ⟨q1, q2⟩
    exact ⟨q1.one, gb_none hW q2⟩)
  have HK : Hid (∀ W, w.grownBy W none → Calls Try.prog 10 #[] W fun e w' => e = .returned (.bool true) ∧ Hid (Below w.heap.size w w')) := fun W hW => (known_any W).mono (by
    rintro e w' ⟨q1, q2⟩
    exact ⟨q1, gb_below (gb_none hW q2)⟩)
  generalize orZ (gdB 1 l frm upt) (val_count (live l)) = x0 at *
  generalize orZ (gdB 1 l frm upt) (val_last (live l)) = x1 at *
  generalize orZ (gdB 1 l frm upt) (val_least (live l)) = x2 at *
  generalize orZ (gdB 1 l frm upt) (val_greatest (live l)) = x3 at *
  generalize orZ (gdB 1 l frm upt) (val_present (live l)) = x4 at *
  generalize orZ (gdB 1 l frm upt) (val_changes (live l)) = x5 at *
  generalize orZ (gdB 1 l frm upt) (val_resets (live l)) = x6 at *
  generalize gdB 1 l frm upt = g at *
  generalize erI l frm upt = er at *
  have HV := hidJ hv
  obtain ⟨va, vc, rfl, hc1, hc2, -⟩ := hv
  unfold maxLen at hc2
  obtain ⟨N, hN⟩ : ∃ N, l.length = N := ⟨_, rfl⟩
  have HN := hidJ hN
  rw [hN] at H0 H1 H2 H3 H4 H5 H6 hc1 hl ⊢
  clear hN
  go_enter Try.func4, Try.ntmps4
  go_wp2_with fail
  refine (H0.out _ (gb_refl _ _)).mono ?_
  rintro e w1 ⟨rfl, q1⟩
  clear H0
  go_wp2_with fail
  refine (H1.out _ (q1.out)).mono ?_
  rintro e w2 ⟨rfl, q2⟩
  clear H1
  go_wp2_with fail
  refine (H2.out _ (q2.out)).mono ?_
  rintro e w3 ⟨rfl, q3⟩
  clear H2
  go_wp2_with fail
  refine (H3.out _ (q3.out)).mono ?_
  rintro e w4 ⟨rfl, q4⟩
  clear H3
  go_wp2_with fail
  refine (H4.out _ (q4.out)).mono ?_
  rintro e w5 ⟨rfl, q5⟩
  clear H4
  go_wp2_with fail
  refine (H5.out _ (q5.out)).mono ?_
  rintro e w6 ⟨rfl, q6⟩
  clear H5
  go_wp2_with fail
  refine (H6.out _ (q6.out)).mono ?_
  rintro e w7 ⟨rfl, q7⟩
  clear H6
  have HG := hidJ q7.out
  clear q1 q2 q3 q4 q5 q6 q7
  cases g with
  | false =>
    have HK7 := hidJ (HK.out w7 HG.out)
    clear HB HK HV
    by_cases he : er = 0
    · subst he
      go_wp2_with fail
      refine HK7.out.mono ?_
      rintro e w8 ⟨rfl, q8⟩
      clear HK7
      go_wp2
      go_ret
      exact ⟨rfl, q8.out⟩
    · go_wp2_with fail
      refine HK7.out.mono ?_
      rintro e w8 ⟨rfl, q8⟩
      clear HK7
      go_wp2
      go_ret
      exact ⟨rfl, q8.out⟩
  | true =>
    have he := HB.out.bad rfl
    subst he
    have f1 : (FloatKind.f64.format.order x4 4607182418800017408 != some .eq) = false := HB.out.one rfl
    have f2 : (FloatKind.f64.format.order x0 4607182418800017408 == some .lt) = false := HB.out.least1 rfl
    have f3 : (FloatKind.f64.format.order x0 (floatOfInt .f64 (N : Int)) == some .gt) = false := by have := HB.out.most rfl; rw [HN.out] at this; exact this
    have f4 : (FloatKind.f64.format.order x6 x5 == some .gt) = false := HB.out.rst rfl
    have f5 : (FloatKind.f64.format.order x5 x0 == some .gt || FloatKind.f64.format.order x5 x0 == some .eq) = false := HB.out.chg rfl
    go_wp2
    go_loopw [28] (fun ui wr => ∃ z : Nat, z ≤ N ∧ ui = .int .i64 (z : Int) ∧ Hid ((∀ j, j < z → nanB (l.getD j smZ).2 = false) ∧ w.grownBy wr none)) (fun ui _ => N - (intOf ui).toNat)
    case atStart => exact ⟨0, by omega, rfl, fun j hj => by omega, HG.out⟩
    case round =>
      obtain ⟨z, hzN, rfl, hr⟩ := hrel
      by_cases hzl : z < N
      · have hzi : (z : Int) < (N : Int) := by omega
        have hq1 : ¬ N ≤ z := by omega
        obtain ⟨a', c', e0, -, -, h3⟩ := HV.out.keep hr.out.2
        obtain ⟨b, o, e1, -, d1⟩ := h3 z (by rw [HN.out]; exact hzl)
        simp only [Value.slice.injEq] at e0
        obtain ⟨rfl, -, -⟩ := e0
        subst e1
        clear h3
        have hfo : (FloatKind.f64.format.order (l.getD z smZ).2 (l.getD z smZ).2 != some .eq) = nanB (l.getD z smZ).2 := rfl
        have HQ : Hid (∀ n : Nat, w.grownBy (wr.drewN n) none) := fun n => gb_none hr.out.2 ⟨rfl, rfl, rfl, Nat.le_refl _, fun _ _ _ => rfl⟩
        have HNx : Hid (nanB (l.getD z smZ).2 = false → ∀ j, j < z + 1 → nanB (l.getD j smZ).2 = false) := fun h j hj => by
          by_cases e : j = z
          · rw [e]; exact h
          · exact hr.out.1 j (by omega)
        clear hr HB f1 f2 f3 f4 f5
        generalize (l.getD z smZ).2 = x at *
        generalize nanB x = nb at *
        cases nb with
        | true =>
          go_wp2
          go_quiet (fail)
          have HK7 := hidJ (HK.out _ (HQ.out nq))
          clear HK HQ HNx HV d1 HG
          go_wp2_with fail
          refine HK7.out.mono ?_
          rintro e w8 ⟨rfl, q8⟩
          clear HK7
          go_wp2
          go_ret
          exact ⟨rfl, q8.out⟩
        | false =>
          have HX := hidJ (HNx.out rfl)
          clear HK HNx HV HG
          go_wp2
          go_quiet (fail)
          have HY := hidJ (HQ.out nq)
          clear HQ d1
          go_wp2
          go_roundw
          case rel => exact ⟨z + 1, by omega, by go_num, HX.out, HY.out⟩
          case measure => simp [intOf]; omega
      · have hzi : ¬ (z : Int) < (N : Int) := by omega
        have hzn : z = N := by omega
        subst hzn
        have hF := HB.out.fin rfl (fun j hj => hr.out.1 j (by rw [← HN.out]; exact hj))
        rw [HN.out] at hF
        have g1 : (FloatKind.f64.format.order x0 (floatOfInt .f64 (z : Int)) == some .eq) = true := hF.1
        have g2 : (FloatKind.f64.format.order x1 x2 == some .gt || FloatKind.f64.format.order x1 x2 == some .eq) = true := hF.2.1
        have g3 : (FloatKind.f64.format.order x1 x3 == some .lt || FloatKind.f64.format.order x1 x3 == some .eq) = true := hF.2.2
        have HK7 := hidJ (HK.out wr hr.out.2)
        clear hr HB HK HV HG f1 f2 f3 f4 f5 hF
        go_wp2_with fail
        refine HK7.out.mono ?_
        rintro e w8 ⟨rfl, q8⟩
        clear HK7
        go_wp2
        go_ret
        exact ⟨rfl, q8.out⟩
end Go.Proofs.Ytgpednikianneaa
