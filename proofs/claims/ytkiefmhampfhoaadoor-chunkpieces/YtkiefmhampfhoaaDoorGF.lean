/-
  CkB1, CkB2, CkB3, in one text.
-/
import Derived.Test.YtkiefmhampfhoaaDoorCkR4
import Derived.BigRegion
import Derived.Deep.QuietTactic
import Derived.BigQuiet
/- CkB1 -/
namespace Go.Proofs.YtkiefmhampfhoaaDoor
open Go.RowKit

theorem okL_app {st : Pst} {l r : List SmpT} : okL st (l ++ r) ↔ okL st l ∧ okL (stA st l) r := by
  induction l generalizing st with
  | nil => simp [okL, stA]
  | cons y l ih =>
    simp only [List.cons_append, okL, stA, ih]
    constructor
    · rintro ⟨a, b, c, d⟩; exact ⟨⟨a, b, c⟩, d⟩
    · rintro ⟨⟨a, b, c⟩, d⟩; exact ⟨a, b, c, d⟩
theorem encB_app (st : Pst) (l r : List SmpT) : encB st (l ++ r) = encB st l ++ encB (stA st l) r := by
  induction l generalizing st with
  | nil => rfl
  | cons y l ih => simp only [List.cons_append, encB, stA, ih, List.append_assoc]
theorem okL_most {l : List SmpT} (h : okL startP l) : l.length ≤ 120 := by
  have := (stA_ok startOk h).most
  rw [stA_n] at this
  simpa [startP] using this
theorem ckB_strL (m : List SmpT) : strL (ckB m) = pack (encB startP m) := by simp [strL, ckB]
theorem ckB_small {m : List SmpT} (h : okL startP m) : (ckB m).length ≤ 3000 ∧ 2 ≤ (ckB m).length := by
  have h1 := encB_len startOk h
  have h2 := okL_most h
  unfold ckB
  simp only [List.length_append, List.length_cons, List.length_nil, pack_len]
  omega
theorem ckB_strS {m : List SmpT} (h : okL startP m) : strS (ckB m) = 8 * (pack (encB startP m)).length := by
  have h1 := ckB_small h
  unfold strS
  rw [if_pos (by omega)]
  simp [ckB]
theorem ckB_cnt {m : List SmpT} (h : okL startP m) : cntN (ckB m) = m.length := by
  have := okL_most h
  unfold cntN ckB
  simp
  omega
/-- of a chunk's bytes: what has been read is how it began -/
theorem Dec.chunk {m : List SmpT} (hm : okL startP m) {l : List SmpT} {st : Pst} {p : Nat} (hD : Dec (strL (ckB m)) (strS (ckB m)) l st p) : l.length ≤ m.length → st = stA startP l ∧ p = (encB startP l).length ∧ ∃ r, m = l ++ r := by
  induction hD with
  | nil => intro _; exact ⟨rfl, rfl, m, rfl⟩
  | @snoc l st p T F wd p' h0 hx hf hw hr ih =>
    intro hl
    simp only [List.length_append, List.length_cons, List.length_nil] at hl
    obtain ⟨rfl, rfl, r, hmr⟩ := ih (by omega)
    match r with
    | [] => rw [List.append_nil] at hmr; rw [hmr] at hl; omega
    | x :: r =>
      have hok := hm
      rw [hmr, okL_app] at hok
      have hat := packAt (encB startP m)
      rw [← ckB_strS hm, ← ckB_strL] at hat
      have he : encB startP m = encB startP l ++ (smpB (stA startP l) x.1 x.2 ++ encB (nextP (stA startP l) x.1 x.2) r) := by rw [hmr, encB_app]; rfl
      rw [he] at hat
      have ha := hat.app.2.app.1
      rw [Nat.zero_add] at ha
      have hs := stA_ok startOk hok.1
      have q := wrongN_ok hok.2.1 hs.most
      rw [nexO_at hs q.1 q.2.1 hok.2.2.1 ha] at hx
      simp only [Option.some.injEq, Prod.mk.injEq] at hx
      obtain ⟨rfl, rfl, rfl, rfl⟩ := hx
      refine ⟨by rw [stA_snoc]; rfl, by rw [encB_snoc, List.length_append], r, ?_⟩
      rw [hmr]
      simp
/-- at a chunk's bytes there is no fault -/
theorem no_why {m : List SmpT} (hm : okL startP m) : ¬ WhyD (ckB m) := by
  rintro (h | ⟨l, st, p, hD, hl, hx⟩)
  · have := ckB_small hm
    omega
  · rw [ckB_cnt hm] at hl
    obtain ⟨rfl, rfl, r, hmr⟩ := hD.chunk hm (by omega)
    match r with
    | [] => rw [List.append_nil] at hmr; rw [hmr] at hl; omega
    | x :: r =>
      have hok := hm
      rw [hmr, okL_app] at hok
      have hat := packAt (encB startP m)
      rw [← ckB_strS hm, ← ckB_strL] at hat
      have he : encB startP m = encB startP l ++ (smpB (stA startP l) x.1 x.2 ++ encB (nextP (stA startP l) x.1 x.2) r) := by rw [hmr, encB_app]; rfl
      rw [he] at hat
      have ha := hat.app.2.app.1
      rw [Nat.zero_add] at ha
      have hs := stA_ok startOk hok.1
      have q := wrongN_ok hok.2.1 hs.most
      rw [nexO_at hs q.1 q.2.1 hok.2.2.1 ha] at hx
      rcases hx with hx | ⟨T, F, wd, p', hx, hne⟩
      · cases hx
      · simp only [Option.some.injEq, Prod.mk.injEq] at hx
        rw [← hx.1] at hne
        exact hne hok.2.1
/-- a chunk tells its samples -/
theorem ckB_inj {l m : List SmpT} (hl : okL startP l) (hm : okL startP m) (h : ckB l = ckB m) : l = m := by
  have e1 := ckB_cnt hl
  rw [h, ckB_cnt hm] at e1
  have a1 := packAt (encB startP l)
  have a2 := packAt (encB startP m)
  have h2 : pack (encB startP l) = pack (encB startP m) := by rw [← ckB_strL, ← ckB_strL, h]
  rw [← h2] at a2
  exact enc_unique l m startP 0 startOk hl hm e1.symm a1 a2
theorem decode_any (w : World) (v : Value) (b : List UInt8) (hv : Rd w v b) (hb : b.length < 281474976710656) (hT : Tk w) :
    Calls Tryd.prog 23 #[v] w fun e w' => DecA b w' e ∧ w.grownBy w' none := (callsIn_wide (n := 8)).1 (ckDecode_any 8 (Nat.le_refl _) w v b hv hb hT)
/-- Decode, of any bytes: a chunk's, or none's -/
theorem decode_two (w : World) (v : Value) (b : List UInt8) (hv : Rd w v b) (hb : b.length < 281474976710656) (hT : Tk w) :
    Calls Tryd.prog 23 #[v] w fun e w' => ((∃ l v', e = .returned (.tuple #[v', .int .i64 0]) ∧ okL startP l ∧ b = ckB l ∧ RdP w' v' l) ∨ (e = .returned (.tuple #[.slice none 0 0, .int .i64 3]) ∧ ∀ m, okL startP m → b ≠ ckB m)) ∧ w.grownBy w' none := by
  refine (decode_any w v b hv hb hT).mono ?_
  rintro e w' ⟨h | ⟨he, h⟩, hg⟩
  · exact ⟨.inl h, hg⟩
  · refine ⟨.inr ⟨he, fun m hm e => ?_⟩, hg⟩
    subst e
    rcases h with h | ⟨l, st, p, hD, hl, hne⟩
    · exact no_why hm h
    · rw [ckB_cnt hm] at hl
      obtain ⟨-, -, r, hmr⟩ := hD.chunk hm (by omega)
      have : r = [] := List.eq_nil_of_length_eq_zero (by rw [hmr, List.length_append] at hl; omega)
      subst this
      rw [List.append_nil] at hmr
      rw [hmr] at hne
      exact hne rfl
/-- Decode of a chunk's bytes -/
theorem decode_ok (w : World) (v : Value) (l : List SmpT) (hl : okL startP l) (hv : Rd w v (ckB l)) (hT : Tk w) :
    Calls Tryd.prog 23 #[v] w fun e w' => ∃ v', e = .returned (.tuple #[v', .int .i64 0]) ∧ RdP w' v' l ∧ w.grownBy w' none := by
  refine (decode_two w v (ckB l) hv (by have := ckB_small hl; omega) hT).mono ?_
  rintro e w' ⟨⟨m, v', h1, h2, h3, h4⟩ | ⟨-, h⟩, hg⟩
  · have := ckB_inj hl h2 h3
    subst this
    exact ⟨v', h1, h4, hg⟩
  · exact absurd rfl (h l hl)
end Go.Proofs.YtkiefmhampfhoaaDoor

/- CkB2 -/
namespace Go.Proofs.YtkiefmhampfhoaaDoor
open Go.RowKit

theorem refBits_any (f : Nat) (w : World) : Calls Tryd.prog 33 #[.float .f64 f] w fun e w' => e = .returned (.int .u64 (f : Int)) ∧ w' = w := by
  have hfb := fbits_run f
  go_enter Tryd.func33, Tryd.ntmps33
  go_wp2
  go_ret
  exact ⟨rfl, rfl⟩
theorem gb_drewN (w : World) (n : Nat) : w.grownBy (w.drewN n) none := ⟨rfl, rfl, rfl, Nat.le_refl _, fun _ _ _ => rfl⟩
theorem drewN_add (w : World) (a b : Nat) : (w.drewN a).drewN b = w.drewN (a + b) := by simp [World.drewN, Nat.add_assoc]
theorem take_sameS {l m : List SmpT} {z : Nat} (hl : z < l.length) (hm : z < m.length) (h : l.take z = m.take z) : (l.take (z + 1) = m.take (z + 1)) ↔ ((l.getD z smZ).1 = (m.getD z smZ).1 ∧ (l.getD z smZ).2 = (m.getD z smZ).2) := by
  rw [take_snocS hl, take_snocS hm, h]
  constructor
  · intro e
    have := List.append_cancel_left e
    simp only [List.cons.injEq, and_true] at this
    exact ⟨by rw [this], by rw [this]⟩
  · rintro ⟨e1, e2⟩
    rw [Prod.ext e1 e2]

set_option maxRecDepth 8000 in
set_option maxHeartbeats 3200000 in
theorem refSame_q (w : World) (v u : Value) (l m : List SmpT) (hv : RdP w v l) (hu : RdP w u m) :
    Calls Tryd.prog 14 #[v, u] w fun e w' => e = .returned (.bool (decide (l = m))) ∧ ∃ q, w' = w.drewN q := by
  have HR : Hid (RdP w v l ∧ RdP w u m) := ⟨hv, hu⟩
  obtain ⟨a, c, rfl, hlc, hcm, -⟩ := hv
  obtain ⟨a2, c2, rfl, hlc2, hcm2, -⟩ := hu
  have hcm' : c ≤ 9223372036854775807 := hcm
  have hcm2' : c2 ≤ 9223372036854775807 := hcm2
  clear hcm hcm2
  obtain ⟨N, hN⟩ : ∃ N, l.length = N := ⟨_, rfl⟩
  obtain ⟨M, hM⟩ : ∃ M, m.length = M := ⟨_, rfl⟩
  have HN : Hid (l.length = N ∧ m.length = M) := ⟨hN, hM⟩
  rw [hN] at hlc
  rw [hM] at hlc2
  rw [hN, hM]
  clear hN hM
  by_cases hNM : N = M
  · subst hNM
    go_enter Tryd.func14, Tryd.ntmps14
    go_wp2_with fail
    go_loopw [13] (fun i wr => ∃ z : Nat, z ≤ N ∧ i = .int .i64 z ∧ Hid (l.take z = m.take z ∧ ∃ q, wr = w.drewN q)) (fun i _ => N - (intOf i).toNat)
    case atStart => exact ⟨0, by omega, rfl, rfl, 0, rfl⟩
    case round =>
      obtain ⟨z, hz, rfl, hr⟩ := hrel
      have hgk : w.grownBy wr none := by obtain ⟨q, hq⟩ := hr.out.2; rw [hq]; exact gb_drewN _ _
      have HFin : Hid (∀ nq, ∃ q, wr.drewN nq = w.drewN q) := fun nq => by obtain ⟨q, hq⟩ := hr.out.2; exact ⟨q + nq, by rw [hq, drewN_add]⟩
      by_cases hlt : z < N
      · have hzi : (z : Int) < (N : Int) := by omega
        have hzl : z < l.length := by rw [HN.out.1]; exact hlt
        have hzm : z < m.length := by rw [HN.out.2]; exact hlt
        obtain ⟨a', c', he, -, -, hc⟩ := HR.out.1.keep hgk
        simp only [Value.slice.injEq] at he
        obtain ⟨rfl, -, rfl⟩ := he
        obtain ⟨b, o, rfl, x0, x1⟩ := hc z hzl
        obtain ⟨a', c', he, -, -, hc2⟩ := HR.out.2.keep hgk
        simp only [Value.slice.injEq] at he
        obtain ⟨rfl, -, rfl⟩ := he
        obtain ⟨b2, o2, rfl, y0, y1⟩ := hc2 z hzm
        have HSt := hidJ (take_sameS hzl hzm hr.out.1)
        have HB : Hid (∀ f W, Calls Tryd.prog 33 #[.float .f64 f] W fun e w' => e = .returned (.int .u64 (f : Int)) ∧ w' = W) := refBits_any
        clear hc hc2 hr hgk
        generalize (l.getD z smZ).1 = t1 at *
        generalize (l.getD z smZ).2 = f1 at *
        generalize (m.getD z smZ).1 = t2 at *
        generalize (m.getD z smZ).2 = f2 at *
        by_cases ht : t1 = t2
        · subst ht
          by_cases hf : f1 = f2
          · subst hf
            go_wp2
            go_quiet ((go_at_call 33; exact Calls.quiet_of_same (HB.out _ _)))
            go_wp2
            go_roundw
            case rel => exact ⟨z + 1, by omega, by go_num, HSt.out.2 (by simp), HFin.out _⟩
            case measure => simp [intOf]; omega
          · have hfb : ((f1 : Int) == (f2 : Int)) = false := by rw [beq_eq_false_iff_ne]; omega
            have hfi : ¬ (f1 : Int) = (f2 : Int) := by omega
            have HE : Hid (l ≠ m) := fun e => by
              have := (HSt.out.1 (by rw [e])).2
              exact hf this
            go_wp2
            go_quiet ((go_at_call 33; exact Calls.quiet_of_same (HB.out _ _)))
            go_wp2
            go_ret
            exact ⟨by simp [HE.out], HFin.out _⟩
        · have htb : (t1 == t2) = false := by rw [beq_eq_false_iff_ne]; exact ht
          have htn : (t1 != t2) = true := by simp [ht]
          have HE : Hid (l ≠ m) := fun e => by
            have := (HSt.out.1 (by rw [e])).1
            exact ht this
          go_wp2
          go_quiet ((go_at_call 33; exact Calls.quiet_of_same (HB.out _ _)))
          go_wp2
          go_ret
          exact ⟨by simp [HE.out], HFin.out _⟩
      · have hzi : ¬ (z : Int) < (N : Int) := by omega
        have hze : z = N := by omega
        subst hze
        have HE : Hid (l = m) := by
          have h := hr.out.1
          rw [List.take_of_length_le (by rw [HN.out.1]; omega), List.take_of_length_le (by rw [HN.out.2]; omega)] at h
          exact h
        have HGr := hidJ hr.out.2
        clear hr hgk
        go_wp2
        go_ret
        exact ⟨by simp [HE.out], HGr.out⟩
  · have hNMi : ¬ (N : Int) = (M : Int) := by omega
    have hNMb : ((N : Int) == (M : Int)) = false := by rw [beq_eq_false_iff_ne]; omega
    have HE : Hid (l ≠ m) := fun e => by
      have h := HN.out
      rw [e] at h
      omega
    go_enter Tryd.func14, Tryd.ntmps14
    go_wp2
    go_ret
    exact ⟨by simp [HE.out], 0, rfl⟩
theorem refSame_any (w : World) (v u : Value) (l m : List SmpT) (hv : RdP w v l) (hu : RdP w u m) :
    Calls Tryd.prog 14 #[v, u] w fun e w' => e = .returned (.bool (decide (l = m))) ∧ w.grownBy w' none :=
  (refSame_q w v u l m hv hu).mono fun e w' ⟨h1, q, h2⟩ => ⟨h1, by rw [h2]; exact gb_drewN _ _⟩
end Go.Proofs.YtkiefmhampfhoaaDoor

/- CkB3 -/
namespace Go.Proofs.YtkiefmhampfhoaaDoor
open Go.RowKit

/-- what is wrong with the sample z -/
def risC (l : List SmpT) (z : Nat) : Int := if (l.getD z smZ).1 < 0 ∨ 1125899906842624 < (l.getD z smZ).1 then 1 else if 0 < z ∧ (l.getD z smZ).1 ≤ (l.getD (z - 1) smZ).1 then 90 else 0
def RisOk (l : List SmpT) : Prop := ∀ z, z < l.length → risC l z = 0
theorem risC_ok {l : List SmpT} {z : Nat} (h : risC l z = 0) : (0 ≤ (l.getD z smZ).1 ∧ (l.getD z smZ).1 ≤ 1125899906842624) ∧ (z = 0 ∨ (l.getD (z - 1) smZ).1 < (l.getD z smZ).1) := by
  unfold risC at h
  split at h
  · cases h
  · split at h
    · cases h
    · omega

set_option maxRecDepth 8000 in
set_option maxHeartbeats 3200000 in
theorem rising_any (w : World) (v : Value) (l : List SmpT) (hv : RdP w v l) :
    Calls Tryd.prog 48 #[v] w fun e w' => ((RisOk l ∧ e = .returned (.tuple #[.int .i64 0, .int .i64 0])) ∨ (∃ z, z < l.length ∧ risC l z ≠ 0 ∧ (∀ j, j < z → risC l j = 0) ∧ e = .returned (.tuple #[.int .i64 (risC l z), .int .i64 (z : Int)]))) ∧ w.grownBy w' none := by
  have HR : Hid (RdP w v l) := hv
  obtain ⟨a, c, rfl, hlc, hcm, -⟩ := hv
  have hcm' : c ≤ 9223372036854775807 := hcm
  clear hcm
  obtain ⟨N, hN⟩ : ∃ N, l.length = N := ⟨_, rfl⟩
  have HN : Hid (l.length = N) := hN
  rw [hN] at hlc
  rw [hN]
  clear hN
  go_enter Tryd.func48, Tryd.ntmps48
  go_wp2_with fail
  have hsf := store_float
  go_loopw [8] (fun i wr => ∃ z : Nat, z ≤ N ∧ i = .int .i64 z ∧ Hid ((∀ j, j < z → risC l j = 0) ∧ w.grownBy wr none)) (fun i _ => N - (intOf i).toNat)
  case atStart => exact ⟨0, by omega, rfl, fun j hj => by omega, gb_refl _ _⟩
  case round =>
    obtain ⟨z, hz, rfl, HP⟩ := hrel
    by_cases hlt : z < N
    · have hzi : (z : Int) < (N : Int) := by omega
      have hzl : z < l.length := by rw [HN.out]; exact hlt
      obtain ⟨a', c', he, -, -, hc⟩ := HR.out.keep HP.out.2
      simp only [Value.slice.injEq] at he
      obtain ⟨rfl, -, rfl⟩ := he
      obtain ⟨b, o, rfl, x0, x1⟩ := hc z hzl
      have hpv : 0 < z → wr.cell? ⟨b, o + (z - 1) * 2, none⟩ = some (.int .i64 (l.getD (z - 1) smZ).1) := fun h => by
        obtain ⟨b', o', e, y0, -⟩ := hc (z - 1) (by omega)
        simp only [Option.some.injEq, Addr.mk.injEq, and_true] at e
        obtain ⟨rfl, rfl⟩ := e
        exact y0
      clear hc
      have HX : Hid (∃ t, (l.getD z smZ).1 = t) := ⟨_, rfl⟩
      obtain ⟨t, ht⟩ := HX.out
      clear HX
      have HX := hidJ (And.intro ht True.intro)
      rw [ht] at x0
      clear ht
      generalize (l.getD z smZ).2 = fz at *
      by_cases h0 : t < 0
      · have HE : Hid (risC l z = 1) := by
          show risC l z = 1
          unfold risC
          rw [HX.out.1, if_pos (.inl h0)]
        go_wp2
        go_ret2
        exact ⟨.inr ⟨z, by omega, by rw [HE.out]; decide, HP.out.1, by rw [HE.out]; rfl⟩, gb_none HP.out.2 (alloc_gb _ _)⟩
      · by_cases h1 : 1125899906842624 < t
        · have HE : Hid (risC l z = 1) := by
            show risC l z = 1
            unfold risC
            rw [HX.out.1, if_pos (.inr h1)]
          go_wp2
          go_ret2
          exact ⟨.inr ⟨z, by omega, by rw [HE.out]; decide, HP.out.1, by rw [HE.out]; rfl⟩, gb_none HP.out.2 (alloc_gb _ _)⟩
        · by_cases hz0 : z = 0
          · subst hz0
            simp only [Nat.zero_mul, Nat.add_zero] at x0 x1
            have H0 : Hid (risC l 0 = 0) := by
              show risC l 0 = 0
              unfold risC
              rw [HX.out.1, if_neg (by omega), if_neg (by omega)]
            clear hpv
            go_wp2
            have HG2 : Hid (w.grownBy (wr.alloc (.cells #[.int .i64 t, .float .f64 fz] 27)) none) := gb_none HP.out.2 (alloc_gb _ _)
            have hb5 := Go.heap_alloc_new wr (.cells #[.int .i64 t, .float .f64 fz] 27)
            have g0 : (wr.alloc (.cells #[.int .i64 t, .float .f64 fz] 27)).cell? ⟨wr.heap.size, 0, none⟩ = some (.int .i64 t) := by simp only [World.cell?, hb5]; rfl
            clear hb5 x0 x1
            generalize wr.alloc (.cells #[.int .i64 t, .float .f64 fz] 27) = W2 at *
            generalize wr.heap.size = sb at *
            go_quiet (fail)
            go_wp2
            go_roundw
            case rel => exact ⟨1, by omega, by go_num, fun j hj => (by
              by_cases hj2 : j < 0
              · exact HP.out.1 j hj2
              · have : j = 0 := by omega
                subst this
                exact H0.out), gb_none HG2.out (gb_drewN _ _)⟩
            case measure => simp [intOf]; omega
          · have y0 := hpv (by omega)
            obtain ⟨k, hk⟩ : ∃ k, z - 1 = k := ⟨_, rfl⟩
            have HK : Hid (z - 1 = k ∧ z = k + 1) := ⟨hk, by omega⟩
            have hzk : (z : Int) - 1 = (k : Int) := by omega
            rw [hk] at y0
            have y1 : ∀ C, (wr.alloc C).cell? ⟨b, o + k * 2, none⟩ = some (.int .i64 (l.getD k smZ).1) := fun C => (World.cell?_of_block ((alloc_gb wr C).block b (block_lt y0) (by simp))).trans y0
            have hk1 : (0 : Int) < (z : Int) := by omega
            have hkN : (k : Int) < (N : Int) := by omega
            have hk0 : (0 : Int) ≤ (k : Int) := by omega
            clear hpv hk
            obtain ⟨tp, htp⟩ : ∃ tp, (l.getD k smZ).1 = tp := ⟨_, rfl⟩
            rw [htp] at y0 y1
            have HY := hidJ (And.intro htp True.intro)
            clear htp
            by_cases h2 : t ≤ tp
            · have HE : Hid (risC l z = 90) := by
                show risC l z = 90
                unfold risC
                rw [HX.out.1, HK.out.1, HY.out.1, if_neg (by omega), if_pos (by omega)]
              go_wp2
              have HG2 : Hid (w.grownBy (wr.alloc (.cells #[.int .i64 t, .float .f64 fz] 27)) none) := gb_none HP.out.2 (alloc_gb _ _)
              have hb5 := Go.heap_alloc_new wr (.cells #[.int .i64 t, .float .f64 fz] 27)
              have g0 : (wr.alloc (.cells #[.int .i64 t, .float .f64 fz] 27)).cell? ⟨wr.heap.size, 0, none⟩ = some (.int .i64 t) := by simp only [World.cell?, hb5]; rfl
              have g1 := y1 (.cells #[.int .i64 t, .float .f64 fz] 27)
              clear hb5 y1 y0 x0 x1
              generalize wr.alloc (.cells #[.int .i64 t, .float .f64 fz] 27) = W2 at *
              generalize wr.heap.size = sb at *
              have hd0 : decide (0 < z) = true := decide_eq_true (by omega)
              go_quiet (fail)
              go_wp2
              go_ret2
              exact ⟨.inr ⟨z, by omega, by rw [HE.out]; decide, HP.out.1, by rw [HE.out]; rfl⟩, gb_none HG2.out (gb_drewN _ _)⟩
            · have H0 : Hid (risC l z = 0) := by
                show risC l z = 0
                unfold risC
                rw [HX.out.1, HK.out.1, HY.out.1, if_neg (by omega), if_neg (by omega)]
              go_wp2
              have HG2 : Hid (w.grownBy (wr.alloc (.cells #[.int .i64 t, .float .f64 fz] 27)) none) := gb_none HP.out.2 (alloc_gb _ _)
              have hb5 := Go.heap_alloc_new wr (.cells #[.int .i64 t, .float .f64 fz] 27)
              have g0 : (wr.alloc (.cells #[.int .i64 t, .float .f64 fz] 27)).cell? ⟨wr.heap.size, 0, none⟩ = some (.int .i64 t) := by simp only [World.cell?, hb5]; rfl
              have g1 := y1 (.cells #[.int .i64 t, .float .f64 fz] 27)
              clear hb5 y1 y0 x0 x1
              generalize wr.alloc (.cells #[.int .i64 t, .float .f64 fz] 27) = W2 at *
              generalize wr.heap.size = sb at *
              have hd0 : decide (0 < z) = true := decide_eq_true (by omega)
              go_quiet (fail)
              go_wp2
              go_roundw
              case rel => exact ⟨z + 1, by omega, by go_num, fun j hj => (by
                by_cases hj2 : j < z
                · exact HP.out.1 j hj2
                · have : j = z := by omega
                  subst this
                  exact H0.out), gb_none HG2.out (gb_drewN _ _)⟩
              case measure => simp [intOf]; omega

    · have hzi : ¬ (z : Int) < (N : Int) := by omega
      have hze : z = N := by omega
      subst hze
      go_wp2
      go_ret2
      exact ⟨.inl ⟨fun j hj => HP.out.1 j (by rw [← HN.out]; exact hj), by rfl⟩, HP.out.2⟩
end Go.Proofs.YtkiefmhampfhoaaDoor
