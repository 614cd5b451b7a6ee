/-
  CkA1, CkA2, CkA3, in one text.
-/
import Derived.Test.YtkiefmhampfhoaaDoorGF
/- CkA1 -/
namespace Go.Proofs.YtkiefmhampfhoaaDoor
open Go.RowKit Go.Shelf

attribute [local go_sem] Oper.semAt_some

/-- All's function between two rounds -/
structure A1J (W : World) (lp : Nat) (rc : Loop) (J : Nat → List SmpT → World → Prop) (B : Nat) (l : List SmpT) (W1 : World) : Prop where
  place : W.heap.size + 4 ≤ B ∧ B ≤ W1.heap.size
  yb : Boxed W1 W.heap.size 108 (.func (.yield lp) #[] #[])
  df : W1.heap[W.heap.size + 2]? = some (.deferred (some []))
  rcd : W1.heap[W.heap.size + 3]? = some (.loop rc)
  out : J B l W1
theorem A1J.far {W W1 W2 : World} {lp B : Nat} {rc : Loop} {J : Nat → List SmpT → World → Prop} {l : List SmpT} (hJ : ∀ B l W1 W2, J B l W1 → Ch W1 W2 (fun k => W.heap.size ≤ k ∧ k < B) → J B l W2) (h : A1J W lp rc J B l W1) (hc : Ch W1 W2 (fun k => W.heap.size + 4 ≤ k ∧ k < B)) : A1J W lp rc J B l W2 := by
  have hp := h.place
  have hz := hc.size
  exact ⟨by omega, bxch h.yb hc (by omega), (hc.block (some_lt2 h.df) (by omega)).trans h.df, (hc.block (some_lt2 h.rcd) (by omega)).trans h.rcd, hJ _ _ _ _ h.out (hc.mono (fun k _ e => by omega))⟩
theorem A1J.put {W W1 : World} {lp B : Nat} {rc rc' : Loop} {J : Nat → List SmpT → World → Prop} {l : List SmpT} (hJ : ∀ B l W1 W2, J B l W1 → Ch W1 W2 (fun k => W.heap.size ≤ k ∧ k < B) → J B l W2) (h : A1J W lp rc J B l W1) : A1J W lp rc' J B l (W1.putObj (W.heap.size + 3) (.loop rc')) := by
  have hp := h.place
  have hc := putRec_ch W1 (W.heap.size + 3) (.loop rc')
  exact ⟨by simpa using hp, bxch h.yb hc (by omega), (hc.block (some_lt2 h.df) (by omega)).trans h.df, World.putObj_heap_same (some_lt2 h.rcd), hJ _ _ _ _ h.out (hc.mono (fun k _ e => by omega))⟩
/-- the next sample of a chunk's bytes -/
theorem next_of {m : List SmpT} (hm : okL startP m) {l : List SmpT} {st : Pst} {p : Nat} (hD : Dec (strL (ckB m)) (strS (ckB m)) l st p) (hl : l.length < cntN (ckB m)) :
    ∃ x r, m = l ++ x :: r ∧ wrongN (stA startP l) x.1 = 0 ∧ x.2 < 18446744073709551616 ∧ ∃ wd p', nexO st (strL (ckB m)) (strS (ckB m)) p = some (x.1, x.2, wd, p') := by
  rw [ckB_cnt hm] at hl
  obtain ⟨rfl, rfl, r, hmr⟩ := hD.chunk hm (by omega)
  match r with
  | [] => rw [List.append_nil] at hmr; rw [hmr] at hl; omega
  | x :: r =>
    have hok := hm
    rw [hmr, okL_app] at hok
    have hat := packAt (encB startP m)
    rw [← ckB_strS hm, ← ckB_strL] at hat
    have he : encB startP m = encB startP l ++ (smpB (stA startP l) x.1 x.2 ++ encB (nextP (stA startP l) x.1 x.2) r) := by rw [hmr, encB_app]; rfl
    rw [he] at hat
    have ha := hat.app.2.app.1
    rw [Nat.zero_add] at ha
    have hs := stA_ok startOk hok.1
    have q := wrongN_ok hok.2.1 hs.most
    exact ⟨x, r, hmr, hok.2.1, hok.2.2.1, _, _, nexO_at hs q.1 q.2.1 hok.2.2.1 ha⟩

set_option maxRecDepth 100000 in
set_option maxHeartbeats 6400000 in
theorem all1_any (n : Nat) (hn : 8 ≤ n) (lp Bn m0 : Nat) (v : Value) (m : List SmpT) (hm : okL startP m) (W : World) (hc : W.cell? ⟨Bn, 0, none⟩ = some v) (hv : Rd W v (ckB m)) (hT : TabC W) (hTm : 1 < m0) (hm0 : m0 ≤ W.heap.size)
    (J : Nat → List SmpT → World → Prop) (Jx : World → Prop)
    (hJ : ∀ B l W1 W2, J B l W1 → Ch W1 W2 (fun k => W.heap.size ≤ k ∧ k < B) → J B l W2)
    (hJx : ∀ W1 W2, Jx W1 → Ch W1 W2 (fun k => W.heap.size ≤ k ∧ k < W.heap.size + 4) → Jx W2)
    (h0 : ∀ B W1, Ch W W1 (fun _ => False) → W1.heap.size = B → J B [] W1)
    (hY : ∀ B l T F r W1, J B l W1 → W.heap.size + 4 ≤ B → B ≤ W1.heap.size → m = l ++ (T, F) :: r → YieldAt Fence.wide (n - 1 - 1 - 1) Tryd.prog lp #[.int .i64 T, .float .f64 F] W1 fun e W' => ((e = .returned (.bool true) ∧ J B (l ++ [(T, F)]) W') ∨ (e = .returned (.bool false) ∧ Jx W')) ∧ Ch W1 W' (fun k => (m0 ≤ k ∧ k < W.heap.size) ∨ B ≤ k)) :
    CallsIn Fence.wide n Tryd.prog 58 (#[.func (.yield lp) #[] #[]] ++ #[.pointer (some ⟨Bn, 0, none⟩)]) W fun e W' => (∃ x, e = .returned x) ∧ ((∃ B, J B m W') ∨ Jx W') := by
  have h1 : 1 ≤ n := by omega
  have HJ := hidJ hJ
  have HJx := hidJ hJx
  have H0 := hidJ h0
  have HY := hidJ hY
  have HV := hidJ (And.intro hm (And.intro hv (And.intro hT (And.intro hTm hm0))))
  clear hJ hJx h0 hY hm hT hTm hm0
  obtain ⟨a, c, rfl, hlc, hcm, -⟩ := hv
  obtain ⟨N, hN⟩ : ∃ N, (ckB m).length = N := ⟨_, rfl⟩
  have HN := hidJ hN
  rw [hN] at hc
  clear hlc hcm
  refine callsIn_of_wp_marks Tryd.func58 rfl trivial ?_ rfl
  simp only [Tryd.ntmps58, List.size_toArray, List.length_cons, List.length_nil, Nat.reduceAdd, Nat.reduceSub, Array.replicate_succ, Array.replicate_zero, List.push_toArray, List.append_toArray, List.nil_append, List.cons_append]
  have hc2 : ∀ C, (W.alloc C).cell? ⟨Bn, 0, none⟩ = some (.slice a N c) := fun C => (World.cell?_of_block ((alloc_gb W C).block Bn (block_lt hc) (by simp))).trans hc
  gi_wp2_with fail
  refine ⟨trivial, ?_⟩
  gi_at_call 39
  refine (told_any Fence.wide (n - 1) trivial rfl a N c _ _ rfl).mono ?_
  rintro e w2 ⟨rfl, rfl⟩
  have H2 : Hid (∀ W0, W0 = (W.alloc (.cells #[.func (.yield lp) #[] #[]] 108)).alloc (.cells #[.slice a N c] 36) → W.grownBy W0 none ∧ W0.heap.size = W.heap.size + 2 ∧ Boxed W0 W.heap.size 108 (.func (.yield lp) #[] #[]) ∧ Boxed W0 (W.heap.size + 1) 36 (.slice a N c)) := by
    rintro W0 rfl
    have x0 := (Boxed.new W 108 (.func (.yield lp) #[] #[])).alloc (.cells #[.slice a N c] 36)
    have x1 := Boxed.new (W.alloc (.cells #[.func (.yield lp) #[] #[]] 108)) 36 (.slice a N c)
    simp only [World.size_alloc] at x1
    exact ⟨gb_none (alloc_gb _ _) (alloc_gb _ _), by simp, x0, x1⟩
  gi_wp2_with fail
  have H3 := H2.out _ rfl
  generalize (W.alloc (.cells #[.func (.yield lp) #[] #[]] 108)).alloc (.cells #[.slice a N c] 36) = W0 at *
  clear H2 hc hc2
  have HW0 := hidJ H3
  clear H3 hN
  refine range_ex rfl h1 (gf := 65) (lb := #[.pointer (some ⟨W.heap.size + 1, 0, none⟩)]) rfl trivial (enters_of Tryd.func65 (by kernel_rfl) rfl) ?_
  intro rc hfn hrd hpe hps htm has hbo
  rw [HW0.out.2.1, show W.heap.size + 2 + 1 = W.heap.size + 3 from rfl]
  have HS : Hid (W.grownBy ((W0.alloc (.deferred (some []))).alloc (.loop rc)) none ∧ ((W0.alloc (.deferred (some []))).alloc (.loop rc)).heap.size = W.heap.size + 4 ∧ ((W0.alloc (.deferred (some []))).alloc (.loop rc)).heap[W.heap.size + 2]? = some (.deferred (some [])) ∧ ((W0.alloc (.deferred (some []))).alloc (.loop rc)).heap[W.heap.size + 3]? = some (.loop rc) ∧ W0.grownBy ((W0.alloc (.deferred (some []))).alloc (.loop rc)) none) := by
    obtain ⟨q1, q2, -⟩ := HW0.out
    have k1 := alloc_gb W0 (.deferred (some []))
    have k2 := alloc_gb (W0.alloc (.deferred (some []))) (.loop rc)
    have e1 := World.alloc_heap_new W0 (.deferred (some []))
    have e2 := World.alloc_heap_new (W0.alloc (.deferred (some []))) (.loop rc)
    rw [World.size_alloc] at e2
    rw [q2] at e1 e2
    exact ⟨gb_none q1 (gb_none k1 k2), by simp [q2], (k2.block _ (by simp [q2]) (by simp)).trans e1, e2, gb_none k1 k2⟩
  generalize (W0.alloc (.deferred (some []))).alloc (.loop rc) = Ws at *
  have HD : Hid (∀ B W1, Ch Ws W1 (fun _ => False) → W1.heap.size = B → A1J W lp rc J B [] W1) := by
    intro B W1 hc hB
    obtain ⟨s1, s2, s3, s4, s5⟩ := HS.out
    have hz := hc.size
    have hg1 := gb_none s5 (hc.gb (fun _ _ e => e))
    have hg0 := gb_none s1 (hc.gb (fun _ _ e => e))
    exact ⟨by omega, HW0.out.2.2.1.kept hg1 (by simp), (hc.block (some_lt2 s3) (fun e => e)).trans s3, (hc.block (some_lt2 s4) (fun e => e)).trans s4, H0.out B W1 (Ch.of_gb hg0 (fun k hk => by cases hk)) hB⟩
  refine CallsIn.mono (told1_any (n - 1) (by omega) (W.heap.size + 3) (W.heap.size + 1) m0 (.slice a N c) (ckB m) Ws ?cell ?rd (by have := ckB_small HV.out.1; omega) (HV.out.2.2.1.keep HS.out.1) HV.out.2.2.2.1 (by have := HV.out.2.2.2.2; have := HS.out.2.1; omega) (fun B l W' => A1J W lp rc J B l W') (fun W' => Jx W' ∧ W'.heap[W.heap.size + 2]? = some (.deferred (some [])) ∧ W'.heap[W.heap.size + 3]? = some (.loop { rc with state := .done, pending := some .ret })) ?hJ HD.out ?hY ?hE ?hE0) ?post
  case cell => exact (HW0.out.2.2.2.kept HS.out.2.2.2.2 (by simp)).cell
  case rd =>
    have := HV.out.2.1.keep HS.out.1
    rw [HN.out] at this
    exact this
  case hJ =>
    intro B l W1 W2 hj hc
    rw [HS.out.2.1] at hc
    exact hj.far HJ.out hc
  case hE =>
    intro B l st p W1 hj hm hB hD hx hlen h2
    exact absurd (.inr ⟨l, st, p, hD, hlen, .inl hx⟩) (no_why HV.out.1)
  case hE0 =>
    intro hlt
    exact absurd (.inl hlt) (no_why HV.out.1)
  case hY =>
    intro B l st p T F wd p' W1 hj hm hB hD hx hF hlen h2
    rw [HS.out.2.1]
    obtain ⟨⟨T0, F0⟩, r, hmr, hw0, -, wd', p'', hx'⟩ := next_of HV.out.1 hD hlen
    rw [hx] at hx'
    simp only [Option.some.injEq, Prod.mk.injEq] at hx'
    obtain ⟨rfl, rfl, -, -⟩ := hx'
    refine YieldAt.mono (yield_ex (R := fun W' => A1J W lp rc J B (l ++ [(T, F)]) W' ∧ Ch W1 W' (fun k => (m0 ≤ k ∧ k < W.heap.size + 4) ∨ B ≤ k)) (Rx := fun W' => Jx W' ∧ W'.heap[W.heap.size + 2]? = some (.deferred (some [])) ∧ W'.heap[W.heap.size + 3]? = some (.loop { rc with state := .done, pending := some .ret })) has hbo hps htm hj.rcd hrd rfl hfn ?_) ?_
    · clear has hbo hps htm
      have hsf := store_float
      have hal := alloc_gb W1 (.cells #[.int .i64 T, .float .f64 F] 27)
      have hk := hj.far HJ.out (Ch.of_gb hal (fun k hk => by cases hk))
      have HK := hidJ hk.rcd
      have hB0 := hk.put (rc' := { rc with state := .busy }) HJ.out
      have hnew : ((W1.alloc (.cells #[.int .i64 T, .float .f64 F] 27)).putObj (W.heap.size + 3) (.loop { rc with state := .busy })).heap[W1.heap.size]? = some (.cells #[.int .i64 T, .float .f64 F] 27 (0, 0)) :=
        (World.putObj_heap_other (by have := some_lt2 hj.rcd; omega)).trans (Go.heap_alloc_new W1 _)
      have hcb : Ch W1 ((W1.alloc (.cells #[.int .i64 T, .float .f64 F] 27)).putObj (W.heap.size + 3) (.loop { rc with state := .busy })) (fun j => j = W.heap.size + 3) := (Ch.of_gb (S := fun j => j = W.heap.size + 3) hal (fun k hk => by cases hk)).trans (putRec_ch _ _ _) (fun _ _ e => e)
      have HCB := hidJ hcb
      have z0 := hB0.yb.cell
      have y0 : ((W1.alloc (.cells #[.int .i64 T, .float .f64 F] 27)).putObj (W.heap.size + 3) (.loop { rc with state := .busy })).cell? ⟨W1.heap.size, 0, none⟩ = some (.int .i64 T) := by simp only [World.cell?, hnew]; rfl
      have y1 : ((W1.alloc (.cells #[.int .i64 T, .float .f64 F] 27)).putObj (W.heap.size + 3) (.loop { rc with state := .busy })).cell? ⟨W1.heap.size, 1, none⟩ = some (.float .f64 F) := by simp only [World.cell?, hnew]; rfl
      have HB0 := hidJ hB0
      have HX := hidJ (And.intro hrd hpe)
      have HMR := hidJ hmr
      clear hk hB0 hnew hcb hal hj hD hx hlen h2 hm hB hrd hpe hfn hF hmr
      gi_wp2
      refine ⟨HK.out, ?_⟩
      generalize (W1.alloc (.cells #[.int .i64 T, .float .f64 F] 27)).putObj (W.heap.size + 3) (.loop { rc with state := .busy }) = Wb at *
      generalize W1.heap.size = sb at *
      clear HK
      obtain ⟨fn, tmps, assign, body, hy, hR⟩ := HY.out B l T F r Wb HB0.out.out HB0.out.place.1 HB0.out.place.2 HMR.out
      gi_wp2_with fail
      refine ⟨fun _ => by omega, ?_⟩
      refine RoundIn.mono (F := Fence.wide.inRound (W.heap.size + 3)) hR ?_
      rintro e W3 ⟨hq, hc3⟩
      have hp := HB0.out.place
      have hrc3 := (hc3.block (some_lt2 HB0.out.rcd) (by omega)).trans HB0.out.rcd
      have hdf3 := (hc3.block (some_lt2 HB0.out.df) (by omega)).trans HB0.out.df
      have hyb3 := bxch HB0.out.yb hc3 (by omega)
      have hz3 := hc3.size
      have H3 := hidJ (And.intro hrc3 (And.intro hdf3 (And.intro hyb3 (And.intro hc3 (And.intro hp hz3)))))
      clear hrc3 hdf3 hyb3 hc3 hp hz3 hy hR z0 y0 y1
      rcases hq with ⟨rfl, hj3⟩ | ⟨rfl, hx3⟩
      · have HJ3 := hidJ hj3
        clear hj3
        gi_wp2
        have hA : A1J W lp { rc with state := .busy } J B (l ++ [(T, F)]) W3 := ⟨by have := H3.out.2.2.2.2; omega, H3.out.2.2.1, H3.out.2.1, H3.out.1, HJ3.out⟩
        refine ⟨H3.out.1, ?_, ?_⟩
        · have := hA.put (rc' := { rc with state := .ready, pending := none }) HJ.out
          rw [ready_same HX.out.1 HX.out.2] at this ⊢
          exact this
        · have hm0 := HV.out.2.2.2.2
          refine ((HCB.out.mono (T := fun k => (m0 ≤ k ∧ k < W.heap.size + 4) ∨ B ≤ k) (fun k _ e => by omega)).trans H3.out.2.2.2.1 (fun k _ e => by omega)).trans (putRec_ch _ _ _) (fun k _ e => by omega)
      · have HX3 := hidJ hx3
        clear hx3
        gi_wp2
        have hk := putRec_ch W3 (W.heap.size + 3) (.loop { rc with state := .done, pending := some .ret })
        exact ⟨H3.out.1, HJx.out _ _ HX3.out (hk.mono (fun k _ e => by omega)), (hk.block (some_lt2 H3.out.2.1) (by omega)).trans H3.out.2.1, World.putObj_heap_same (some_lt2 H3.out.1)⟩
    · rintro e W' (⟨q1, q2, q4⟩ | ⟨q1, q2⟩)
      · exact .inl ⟨q1, q2, hw0, q4⟩
      · exact .inr ⟨q1, q2⟩
  case post =>
    rintro e W' ⟨⟨x, rfl⟩, hq⟩
    refine ⟨⟨x, rfl⟩, ?_⟩
    rcases hq with ⟨hx, hdf, hrc⟩ | ⟨B, l, st, p, h2, hD, hlen, hj⟩
    · refine .inr ⟨hrc, ?_⟩
      have k1 := putRec_ch W' (W.heap.size + 3) (.loop { rc with state := .exhausted, pending := some .ret })
      have d1 := (k1.block (some_lt2 hdf) (by omega)).trans hdf
      have x1 := HJx.out _ _ hx (k1.mono (fun k _ e => by omega))
      clear has hbo hps htm hrd hpe hfn hx HD hdf hrc
      generalize W'.putObj (W.heap.size + 3) (.loop { rc with state := .exhausted, pending := some .ret }) = W7 at *
      have k2 := putRec_ch W7 (W.heap.size + 2) (.deferred none)
      have x2 := HJx.out _ _ x1 (k2.mono (fun k _ e => by omega))
      simp only [Exit.inBlock]
      refine ⟨by simp, .inl ⟨_, _, rfl, run_takeDeferred d1, ?_⟩⟩
      exact ⟨_, results_none rfl _ _ _, ⟨_, rfl⟩, .inr x2⟩
    · refine .inl ⟨hj.rcd, ?_⟩
      have hp := hj.place
      have hlm : l = m := by
        rw [ckB_cnt HV.out.1] at hlen
        obtain ⟨-, -, r, hmr⟩ := hD.chunk HV.out.1 (by omega)
        have : r = [] := List.eq_nil_of_length_eq_zero (by rw [hmr, List.length_append] at hlen; omega)
        subst this
        rw [List.append_nil] at hmr
        exact hmr.symm
      subst hlm
      have hj7 := hj.put (rc' := { rc with state := .exhausted }) HJ.out
      clear has hbo hps htm hrd hpe hfn hj HD hD hlen
      generalize W'.putObj (W.heap.size + 3) (.loop { rc with state := .exhausted }) = W7 at *
      have k2 := putRec_ch W7 (W.heap.size + 2) (.deferred none)
      have HF := hidJ (And.intro hj7.df (HJ.out _ _ _ _ hj7.out (k2.mono (fun k _ e => by omega))))
      clear hj7 k2
      gi_wp2
      refine ⟨by simp, .inl ⟨_, _, rfl, run_takeDeferred HF.out.1, ?_⟩⟩
      exact ⟨_, results_none rfl _ _ _, ⟨_, rfl⟩, .inl ⟨B, HF.out.2⟩⟩
end Go.Proofs.YtkiefmhampfhoaaDoor

/- CkA2 -/
namespace Go.Proofs.YtkiefmhampfhoaaDoor
open Go.RowKit Go.Shelf

/-- one round that goes on, or breaks -/
theorem yield_br {F : Fence} {n l k : Nat} {P : Program} {W : World} {args : Array Value} {rc : Loop} {R Rx : World → Prop} {A B : Code} {ps : Array Tmp} {tm : Array Value} (ha : rc.assign = A) (hb : rc.body = B) (hp : rc.params = ps) (ht : rc.tmps = tm) (hl : W.heap[l]? = some (.loop rc)) (hrd : rc.state = .ready) (hps : args.size = ps.size) (hF : F.fn rc.fn)
    (h : A.wpIn (F.inRound l) n P (Exit.then (fun a₁ w₁ => w₁.heap[l]? = some (.loop rc) ∧ B.wpIn (F.inRound l) n P (fun e _ w₂ => w₂.heap[l]? = some (.loop { rc with state := .busy }) ∧ ((e = .normal ∧ R (w₂.putObj l (.loop { rc with state := .ready, pending := none }))) ∨ (e = .exit k ∧ Rx (w₂.putObj l (.loop { rc with state := .done, pending := some (.exit k) }))))) a₁ (w₁.putObj l (.loop { rc with state := .busy }))) (fun _ _ _ => False))
      { tmps := (ps.zip args).foldl (fun tmps (t, a) => tmps.setIfInBounds t a) tm, defers := [] } W) :
    YieldAt F n P l args W fun e W' => (e = .returned (.bool true) ∧ R W') ∨ (e = .returned (.bool false) ∧ Rx W') := by
  subst ha hb hp ht
  refine ⟨_, _, _, _, run_yield hl hps, roundIn_of_wpIn hF (wpIn_mono h ?_)⟩
  intro e a₁ w₁ hq
  cases e with
  | normal =>
    obtain ⟨h1, h2⟩ := hq
    refine ⟨_, run_beginRound h1 hrd, wpIn_mono h2 ?_⟩
    rintro e a₂ w₂ ⟨h3, ⟨rfl, h4⟩ | ⟨rfl, h4⟩⟩
    · exact ⟨_, _, run_endRound none h3, .inl ⟨rfl, h4⟩⟩
    · exact ⟨_, _, run_endRound (some (.exit k)) h3, .inr ⟨rfl, h4⟩⟩
  | _ => exact hq.elim
/-- the statement: the function returns, and no round has left, or one has broken -/
theorem range_br {F : Fence} {n k : Nat} {P : Program} {g : Operand} {ps : Array Tmp} {assign body : Code} {Q : Exit → Act → World → Prop} {a : Act} {w : World} (hro : F.round = none) (h1 : 1 ≤ n) {gf : Nat} {lb : Array Value} (hg : a.eval g = .func (.func gf) #[] lb) (hFg : F.fn gf) (eg : ∀ args w, (callFunc gf args).run P w = .ok (.enter gf args) w)
    (h : ∀ rc : Loop, F.fn rc.fn → rc.state = .ready → rc.pending = none → rc.params = ps → rc.tmps = a.tmps → rc.assign = assign → rc.body = body → CallsIn F (n - 1) P gf (#[.func (.yield (w.heap.size + 1)) #[] #[]] ++ lb) ((w.alloc (.deferred (some []))).alloc (.loop rc)) fun e W' =>
      (∃ v, e = .returned v) ∧ ((W'.heap[w.heap.size + 1]? = some (.loop rc) ∧ Q .normal { a with defers := { target := .collected w.heap.size, args := #[] } :: a.defers } (W'.putObj (w.heap.size + 1) (.loop { rc with state := .exhausted }))) ∨
        (W'.heap[w.heap.size + 1]? = some (.loop { rc with state := .done, pending := some (.exit k) }) ∧ Q (.exit k) { a with defers := { target := .collected w.heap.size, args := #[] } :: a.defers } (W'.putObj (w.heap.size + 1) (.loop { rc with state := .exhausted, pending := some (.exit k) }))))) :
    (Code.rangeFunc g ps assign body).wpIn F n P Q a w := by
  refine wpIn_rangeFunc ?_
  intro fn hfn
  rw [hro]
  have he := run_enterLoop_outer (P := P) (w := w) fn a.tmps ps assign body
  have hc := h (recOf fn a.tmps ps assign body w) hfn rfl rfl rfl rfl rfl rfl
  obtain ⟨W1, hW1⟩ : ∃ W1, (w.alloc (.deferred (some []))).alloc (.loop (recOf fn a.tmps ps assign body w)) = W1 := ⟨_, rfl⟩
  rw [hW1] at hc
  have hW2 := hW1
  unfold recOf at hW2
  refine ⟨w.heap.size + 1, [{ target := .collected w.heap.size, args := #[] }], W1, { target := .fn (.func gf) lb, args := #[.func (.yield (w.heap.size + 1)) #[] #[]] }, W1, gf, #[.func (.yield (w.heap.size + 1)) #[] #[]] ++ lb, W1, ?_, ?_, ?_, ?_, fun _ => h1, ?_⟩
  · rw [hW2] at he
    exact he
  · simp only [resolve, hg]
    simp [go_sem]
  · intro f' hf'
    simp [Target.leads] at hf'
    subst hf'
    exact hFg
  · simp [invoke, go_sem, eg]
  · refine CallsIn.mono hc ?_
    intro e W' hx
    obtain ⟨⟨v, hv⟩, h2⟩ := hx
    rw [hv]
    rcases h2 with ⟨h3, h4⟩ | ⟨h3, h4⟩
    · have hend := run_endLoop (P := P) h3 (by simp [recOf])
      exact ⟨none, _, hend, h4⟩
    · have hend := run_endLoop (P := P) h3 (by simp)
      exact ⟨some (.exit k), _, hend, wpIn_exit h4⟩

/-- every between two rounds -/
structure EvJ (w : World) (ag : Nat) (most : Int) (rc : Loop) (B : Nat) (l : List SmpT) (W : World) : Prop where
  old : w.grownBy W none
  place : w.heap.size + 2 ≤ ag ∧ ag + 2 ≤ B ∧ B ≤ W.heap.size
  b0 : Boxed W w.heap.size 3 (.int .i64 most)
  df : W.heap[ag]? = some (.deferred (some []))
  rcd : W.heap[ag + 1]? = some (.loop rc)
  row : ∃ vL, Boxed W (w.heap.size + 1) 22 vL ∧ W.ownsRow B 27 2 vL l.length (smC l)
section
variable {w W W' : World} {ag B : Nat} {most : Int} {rc rc' : Loop} {l : List SmpT}
theorem EvJ.far (h : EvJ w ag most rc B l W) (hc : Ch W W' (fun k => ag + 2 ≤ k ∧ k < B)) : EvJ w ag most rc B l W' := by
  have hp := h.place
  have hz := hc.size
  obtain ⟨vL, c3, c4⟩ := h.row
  refine ⟨gb_ch h.old hc (fun k e => by omega), by omega, bxch h.b0 hc (by omega), (hc.block (some_lt2 h.df) (by omega)).trans h.df, (hc.block (some_lt2 h.rcd) (by omega)).trans h.rcd, vL, bxch c3 hc (by omega), row_ch c4 hc (fun k hk e => ?_)⟩
  have := (World.ownsRow.lt c4 k hk).1
  omega
theorem EvJ.put (h : EvJ w ag most rc B l W) : EvJ w ag most rc' B l (W.putObj (ag + 1) (.loop rc')) := by
  have hp := h.place
  have hc := putRec_ch W (ag + 1) (.loop rc')
  obtain ⟨vL, c3, c4⟩ := h.row
  refine ⟨gb_ch h.old hc (fun k e => by omega), by simpa using hp, bxch h.b0 hc (by omega), (hc.block (some_lt2 h.df) (by omega)).trans h.df, World.putObj_heap_same (some_lt2 h.rcd), vL, bxch c3 hc (by omega), row_ch c4 hc (fun k hk e => ?_)⟩
  have := (World.ownsRow.lt c4 k hk).1
  omega
theorem EvJ.low {B' : Nat} (h : EvJ w ag most rc B l W) (h1 : ag + 2 ≤ B') (h2 : B' ≤ B) : EvJ w ag most rc B' l W := by
  have hp := h.place
  obtain ⟨vL, c3, c4⟩ := h.row
  refine ⟨h.old, by omega, h.b0, h.df, h.rcd, vL, c3, c4.1, ?_⟩
  rcases c4.2 with e | ⟨b, cap, cur, e, q1, q2⟩
  · exact .inl e
  · exact .inr ⟨b, cap, cur, e, by omega, q2⟩
/-- what is written in a round -/
def EvF (w : World) (B : Nat) : Nat → Prop := fun k => k = w.heap.size + 1 ∨ B ≤ k
theorem EvJ.more (T : Int) (F : Nat) (h : EvJ w ag most rc B l W) (hl : l.length ≤ 1000) :
    ∃ aL cL a2 c2 W2, W.cell? ⟨w.heap.size + 1, 0, none⟩ = some (.slice aL l.length cL) ∧ (Builtin.append_ #[22, 22] 22 #[.slice aL l.length cL, .slice (some ⟨W.heap.size, 0, none⟩) 1 1]).run Tryd.prog (W.alloc (.cells #[.int .i64 T, .float .f64 F] 27)) = .ok (.slice a2 (l.length + 1) c2) W2 ∧
      W2.cell? ⟨w.heap.size + 1, 0, none⟩ = some (.slice aL l.length cL) ∧ W2.frozen? ⟨w.heap.size + 1, 0, none⟩ = false ∧ EvJ w ag most rc B (l ++ [(T, F)]) (W2.setCell ⟨w.heap.size + 1, 0, none⟩ (.slice a2 (l.length + 1) c2)) ∧ Ch W (W2.setCell ⟨w.heap.size + 1, 0, none⟩ (.slice a2 (l.length + 1) c2)) (EvF w B) ∧ (W2.setCell ⟨w.heap.size + 1, 0, none⟩ (.slice a2 (l.length + 1) c2)).cell? ⟨w.heap.size + 1, 0, none⟩ = some (.slice a2 (l.length + 1) c2) := by
  have hp := h.place
  obtain ⟨vL, c3, c4⟩ := h.row
  obtain ⟨i0, hi, hz0, hz1, hz2⟩ := info_parts infoSm
  have hal := alloc_gb W (.cells #[.int .i64 T, .float .f64 F] 27)
  have hnew := Go.heap_alloc_new W (.cells #[.int .i64 T, .float .f64 F] 27)
  obtain ⟨v2, W2, hrun, ho, hfr⟩ := run_appG (W.alloc (.cells #[.int .i64 T, .float .f64 F] 27)) 22 22 27 i0 _ 2 16 B Tryd.underlying22 hi hz0 hz1 hz2 rfl (by decide) (by decide) vL l.length (smC l) (World.ownsRow.alloc c4 _) (some ⟨W.heap.size, 0, none⟩) 1 1 [.int .i64 T, .float .f64 F] rfl
    (fun j u hj => by
      refine ⟨_, rfl, ?_⟩
      rw [Go.WideShapes.add_plain]
      simp only [World.cell?, hnew]
      simpa using hj) (fun e => by cases e)
    (fun u hu => by
      simp only [List.mem_cons, List.not_mem_nil, or_false] at hu
      rcases hu with rfl | rfl <;> rfl) (by omega) (by simp; omega)
  obtain ⟨aL, cL, rfl⟩ : ∃ a c, vL = .slice a l.length c := by
    rcases c4.2 with ⟨e, e2⟩ | ⟨b, cap, cur, e, -⟩
    · exact ⟨none, 0, by rw [e, e2]⟩
    · exact ⟨_, _, e⟩
  obtain ⟨a2, cc, rfl⟩ : ∃ a c, v2 = .slice a (l.length + 1) c := by
    rcases ho.2 with ⟨e, e2⟩ | ⟨b, cap, cur, e, -⟩
    · omega
    · exact ⟨_, _, e⟩
  have hvL := World.ownsRow.lt c4
  have k1 : Ch W (W.alloc (.cells #[.int .i64 T, .float .f64 F] 27)) (fun k => (Value.slice aL l.length cL).ownBlock = some k) := Ch.of_gb hal (fun k hk => by cases hk)
  have k2 : Ch W W2 (fun k => (Value.slice aL l.length cL).ownBlock = some k) := k1.trans (Ch.of_gb (S := fun k => (Value.slice aL l.length cL).ownBlock = some k) hfr.1 (fun k hk _ => hk)) (fun _ _ e => e)
  have n1 : ∀ k, k < B → ¬ (Value.slice aL l.length cL).ownBlock = some k := fun k hk e => by have := (hvL k e).1; omega
  have bL := bxch c3 k2 (n1 _ (by omega))
  have k3 := set_ch W2 (w.heap.size + 1) 0 (.slice a2 (l.length + 1) cc)
  have hz2' := k2.size
  have hz3 : (W2.setCell ⟨w.heap.size + 1, 0, none⟩ (.slice a2 (l.length + 1) cc)).heap.size = W2.heap.size := by simp
  refine ⟨aL, cL, a2, cc, W2, c3.cell, hrun, bL.cell, bL.frozen, ?_, ?_, (bL.set _).cell⟩
  · have d1 := (k2.block (some_lt2 h.df) (n1 _ (by omega))).trans h.df
    have r1 := (k2.block (some_lt2 h.rcd) (n1 _ (by omega))).trans h.rcd
    refine ⟨gb_ch (gb_ch h.old k2 (fun k e => by have := (hvL k e).1; omega)) k3 (fun k e => by omega), by omega, bxch (bxch h.b0 k2 (n1 _ (by omega))) k3 (by omega), (k3.block (some_lt2 d1) (by omega)).trans d1, (k3.block (some_lt2 r1) (by omega)).trans r1, .slice a2 (l.length + 1) cc, bL.set _, ?_⟩
    have ho' : W2.ownsRow B 27 2 (.slice a2 (l.length + 1) cc) (l ++ [(T, F)]).length (smC (l ++ [(T, F)])) := by
      rw [smC_snoc]
      simpa using ho
    refine row_ch ho' k3 (fun k hk e => ?_)
    have := (World.ownsRow.lt ho' k hk).1
    omega
  · refine (k2.mono (T := EvF w B) (fun k _ e => ?_)).trans k3 (fun k _ e => ?_)
    · have := (hvL k e).1
      unfold EvF
      omega
    · have e' : k = w.heap.size + 1 := e
      unfold EvF
      omega
end
theorem ckAll_any (w : World) (S : Nat → Prop) (g : Nat) (m : List SmpT) (h : CkO w S g m) : Calls Tryd.prog 34 #[.pointer (some ⟨g, 0, none⟩)] w fun e w' => ∃ Bn v, e = .returned (.func (.func 58) #[] #[.pointer (some ⟨Bn, 0, none⟩)]) ∧ w'.cell? ⟨Bn, 0, none⟩ = some v ∧ Rd w' v (ckB m) ∧ w.grownBy w' none := by
  have HB := hidJ (ckBytes_any w S g m h)
  clear h
  go_enter Tryd.func34, Tryd.ntmps34
  go_wp2_with fail
  refine HB.out.mono ?_
  rintro e w1 ⟨v, rfl, ho, hg⟩
  obtain ⟨a, c, rfl⟩ := ho.shape
  have HO := hidJ (And.intro ho hg)
  clear ho hg HB
  go_wp2
  go_ret
  exact ⟨_, _, rfl, (Boxed.new w1 _ _).cell, HO.out.1.rd.keep (alloc_gb _ _), gb_none HO.out.2 (alloc_gb _ _)⟩
end Go.Proofs.YtkiefmhampfhoaaDoor

/- CkA3 -/
namespace Go.Proofs.YtkiefmhampfhoaaDoor
open Go.RowKit Go.Shelf

attribute [local go_sem] Oper.semAt_some

set_option maxRecDepth 100000 in
set_option maxHeartbeats 6400000 in
theorem every_any (n : Nat) (hn : 14 ≤ n) (w : World) (S : Nat → Prop) (g : Nat) (m : List SmpT) (most : Nat) (hmo : 1 ≤ most) (h : CkO w S g m) (hT : Tk w) :
    CallsIn Fence.wide n Tryd.prog 15 #[.pointer (some ⟨g, 0, none⟩), .int .i64 (most : Int)] w fun e w' => ∃ v', e = .returned v' ∧ RdP w' v' (m.take most) ∧ w.grownBy w' none := by
  have h1 : 1 ≤ n := by omega
  have HV := hidJ (And.intro h (And.intro hT (And.intro h.ok h.len)))
  clear h hT
  have hnf : ∀ (lb : Array Value) (W : World), (binOp .eql 73 (.func (.func 58) #[] lb) .nilFunc).run Tryd.prog W = .ok (.bool false) W := fun _ _ => rfl
  refine callsIn_of_wp_marks Tryd.func15 rfl trivial ?_ rfl
  simp only [Tryd.ntmps15, List.size_toArray, List.length_cons, List.length_nil, Nat.reduceAdd, Nat.reduceSub, Array.replicate_succ, Array.replicate_zero, List.push_toArray, List.append_toArray, List.nil_append, List.cons_append]
  have HA : Hid (∀ W, W = (w.alloc (.cells #[.int .i64 (most : Int)] 3)).alloc (.cells #[.slice none 0 0] 22) → (Calls Tryd.prog 34 #[.pointer (some ⟨g, 0, none⟩)] W fun e w' => ∃ Bn v, e = .returned (.func (.func 58) #[] #[.pointer (some ⟨Bn, 0, none⟩)]) ∧ Hid (w'.cell? ⟨Bn, 0, none⟩ = some v ∧ Rd w' v (ckB m) ∧ w.grownBy w' none ∧ Boxed w' w.heap.size 3 (.int .i64 (most : Int)) ∧ Boxed w' (w.heap.size + 1) 22 (.slice none 0 0) ∧ w.heap.size + 2 ≤ w'.heap.size))) := by
    rintro W rfl
    have k := gb_none (alloc_gb w (.cells #[.int .i64 (most : Int)] 3)) (alloc_gb (w.alloc (.cells #[.int .i64 (most : Int)] 3)) (.cells #[.slice none 0 0] 22))
    have x0 := (Boxed.new w 3 (.int .i64 (most : Int))).alloc (.cells #[.slice none 0 0] 22)
    have x1 := Boxed.new (w.alloc (.cells #[.int .i64 (most : Int)] 3)) 22 (.slice none 0 0)
    simp only [World.size_alloc] at x1
    refine (ckAll_any _ S g m (HV.out.1.keep k)).mono ?_
    rintro e w' ⟨Bn, v, q1, q2, q3, q4⟩
    exact ⟨Bn, v, q1, q2, q3, gb_none k q4, x0.kept q4 (by simp), x1.kept q4 (by simp), by have := q4.size; simp at this; omega⟩
  gi_wp2_with fail
  refine ⟨trivial, ?_⟩
  gi_at_call 34
  refine (callsIn_wide.2 (HA.out _ rfl)).mono ?_
  rintro e W0 ⟨Bn, v, rfl, H0⟩
  clear HA
  gi_wp2_with fail
  obtain ⟨ag, hag⟩ : ∃ ag, W0.heap.size = ag := ⟨_, rfl⟩
  have HAG := hidJ hag
  clear hag
  refine range_br (k := 0) rfl h1 (gf := 58) (lb := #[.pointer (some ⟨Bn, 0, none⟩)]) rfl trivial (enters_of Tryd.func58 (by kernel_rfl) rfl) ?_
  intro rc hfn hrd hpe hps htm has hbo
  rw [HAG.out]
  have HS : Hid (((W0.alloc (.deferred (some []))).alloc (.loop rc)).heap.size = ag + 2 ∧ ((W0.alloc (.deferred (some []))).alloc (.loop rc)).heap[ag]? = some (.deferred (some [])) ∧ ((W0.alloc (.deferred (some []))).alloc (.loop rc)).heap[ag + 1]? = some (.loop rc) ∧ W0.grownBy ((W0.alloc (.deferred (some []))).alloc (.loop rc)) none ∧ w.heap.size + 2 ≤ ag) := by
    have q2 := HAG.out
    have k1 := alloc_gb W0 (.deferred (some []))
    have k2 := alloc_gb (W0.alloc (.deferred (some []))) (.loop rc)
    have e1 := World.alloc_heap_new W0 (.deferred (some []))
    have e2 := World.alloc_heap_new (W0.alloc (.deferred (some []))) (.loop rc)
    rw [World.size_alloc] at e2
    rw [q2] at e1 e2
    exact ⟨by simp [q2], (k2.block _ (by simp [q2]) (by simp)).trans e1, e2, gb_none k1 k2, by have := H0.out.2.2.2.2.2; omega⟩
  generalize (W0.alloc (.deferred (some []))).alloc (.loop rc) = Ws at *
  refine CallsIn.mono (all1_any (n - 1) (by omega) (ag + 1) Bn w.heap.size v m HV.out.2.2.1 Ws ?cell ?rd ?tab HV.out.2.1.lt.1 (by have := HS.out; omega) (fun B l W' => EvJ w ag (most : Int) rc B l W' ∧ l.length < most) (fun W' => EvJ w ag (most : Int) { rc with state := .done, pending := some (.exit 0) } (ag + 6) (m.take most) W') ?hJ ?hJx ?h0 ?hY) ?post
  case cell => exact (World.cell?_of_block (HS.out.2.2.2.1.block Bn (block_lt H0.out.1) (by simp))).trans H0.out.1
  case rd => exact H0.out.2.1.keep HS.out.2.2.2.1
  case tab => exact HV.out.2.1.1.keep (gb_none H0.out.2.2.1 HS.out.2.2.2.1)
  case hJ =>
    rintro B l W1 W2 ⟨hj, hl⟩ hc
    rw [HS.out.1] at hc
    exact ⟨hj.far hc, hl⟩
  case hJx =>
    intro W1 W2 hj hc
    rw [HS.out.1] at hc
    exact hj.far hc
  case h0 =>
    intro B W1 hc hB
    obtain ⟨s1, s2, s3, s4, s5⟩ := HS.out
    obtain ⟨-, -, p3, p4, p5, -⟩ := H0.out
    have hz := hc.size
    have hg1 := gb_none s4 (hc.gb (fun _ _ e => e))
    exact ⟨⟨gb_none p3 hg1, by omega, p4.kept hg1 (by simp), (hc.block (some_lt2 s2) (fun e => e)).trans s2, (hc.block (some_lt2 s3) (fun e => e)).trans s3, _, p5.kept hg1 (by simp), World.ownsRow_nil _ _ _ _⟩, hmo⟩
  case hY =>
    rintro B l T F r W1 ⟨hj, hl⟩ hB1 hB2 hmr
    rw [HS.out.1] at hB1 ⊢
    have hlen : l.length ≤ 120 := by have := HV.out.2.2.2; rw [hmr, List.length_append] at this; omega
    refine YieldAt.mono (yield_br (k := 0) (R := fun W' => (EvJ w ag (most : Int) rc B (l ++ [(T, F)]) W' ∧ (l ++ [(T, F)]).length < most) ∧ Ch W1 W' (fun k => (w.heap.size ≤ k ∧ k < ag + 2) ∨ B ≤ k)) (Rx := fun W' => EvJ w ag (most : Int) { rc with state := .done, pending := some (.exit 0) } (ag + 6) (m.take most) W' ∧ Ch W1 W' (fun k => (w.heap.size ≤ k ∧ k < ag + 2) ∨ B ≤ k)) has hbo hps htm hj.rcd hrd rfl hfn ?_) ?_
    · clear has hbo hps htm
      have hsf := store_float
      have HK := hidJ hj.rcd
      have hB0 := hj.put (rc' := { rc with state := .busy })
      have HCB := hidJ (putRec_ch W1 (ag + 1) (.loop { rc with state := .busy }))
      obtain ⟨aL, cL, a2, c2, W4, r1, r2, r3, r4, r5, r6, r7⟩ := hB0.more T F (by omega)
      have x0 := r5.b0.cell
      have H5 := hidJ (And.intro r5 (And.intro r6 (And.intro hB1 hB2)))
      have HX := hidJ (And.intro hrd (And.intro hpe (And.intro hmr hl)))
      clear r5 r6 hB0 hj hrd hpe hfn hB1 hB2 hmr
      obtain ⟨nl, hnl⟩ : ∃ nl, l.length = nl := ⟨_, rfl⟩
      rw [hnl] at r1 r2 r3 r7 hlen hl x0
      have HNL := hidJ hnl
      clear hnl
      gi_wp2
      refine ⟨HK.out, ?_⟩
      generalize W1.putObj (ag + 1) (.loop { rc with state := .busy }) = Wb at *
      clear HK
      gi_wp2_with (gi_at_builtin; refine wpIn_appRun rfl _ _ 22 rfl _ _ _ rfl rfl r2 ?_)
      · have hfin := H5.out
        rw [HNL.out] at hfin
        have hp := hfin.1.place
        have hmt : m.take most = l ++ [(T, F)] := by
          have e1 : most = (l ++ [(T, F)]).length := by rw [List.length_append, HNL.out]; simp; omega
          have e2 : m = (l ++ [(T, F)]) ++ r := by rw [HX.out.2.2.1]; simp
          rw [e2, e1, List.take_left']
          rfl
        refine ⟨hfin.1.rcd, ?_, ?_⟩
        · rw [hmt]
          exact hfin.1.put.low (by omega) (by omega)
        · refine ((HCB.out.mono (T := fun k => (w.heap.size ≤ k ∧ k < ag + 2) ∨ B ≤ k) (fun k _ e => by omega)).trans hfin.2.1 (fun k _ e => by unfold EvF at e; omega)).trans (putRec_ch _ _ _) (fun k _ e => by omega)
      · have hfin := H5.out
        rw [HNL.out] at hfin
        have hp := hfin.1.place
        refine ⟨hfin.1.rcd, ⟨?_, by rw [HNL.out]; omega⟩, ?_⟩
        · have := hfin.1.put (rc' := { rc with state := .ready, pending := none })
          rw [ready_same HX.out.1 HX.out.2.1] at this ⊢
          exact this
        · refine ((HCB.out.mono (T := fun k => (w.heap.size ≤ k ∧ k < ag + 2) ∨ B ≤ k) (fun k _ e => by omega)).trans hfin.2.1 (fun k _ e => by unfold EvF at e; omega)).trans (putRec_ch _ _ _) (fun k _ e => by omega)
    · rintro e W' (⟨q1, q2, q4⟩ | ⟨q1, q2, q4⟩)
      · exact ⟨.inl ⟨q1, q2⟩, q4⟩
      · exact ⟨.inr ⟨q1, q2⟩, q4⟩
  case post =>
    rintro e W' ⟨⟨x, rfl⟩, hq⟩
    refine ⟨⟨x, rfl⟩, ?_⟩
    have HFin : Hid (∀ rcx Bx W7, EvJ w ag (most : Int) rcx Bx (m.take most) W7 → W7.heap[ag]? = some (.deferred (some [])) ∧ ∃ a n c, W7.cell? ⟨w.heap.size + 1, 0, none⟩ = some (.slice a n c) ∧ RdP (W7.putObj ag (.deferred none)) (.slice a n c) (m.take most) ∧ w.grownBy (W7.putObj ag (.deferred none)) none) := by
      intro rcx Bx W7 hj
      obtain ⟨vL, c3, c4⟩ := hj.row
      have hp := hj.place
      have k2 := putRec_ch W7 ag (.deferred none)
      obtain ⟨a, c, rfl⟩ : ∃ a c, vL = .slice a (m.take most).length c := by
        rcases c4.2 with ⟨e, e2⟩ | ⟨b, cap, cur, e, -⟩
        · exact ⟨none, 0, by rw [e, e2]⟩
        · exact ⟨_, _, e⟩
      refine ⟨hj.df, a, _, c, c3.cell, RdP.of_row (row_ch c4 k2 (fun k hk e => ?_)), gb_ch hj.old k2 (fun k e => by omega)⟩
      have := (World.ownsRow.lt c4 k hk).1
      omega
    rcases hq with ⟨B, hj, hlm⟩ | hj
    · refine .inl ⟨hj.rcd, ?_⟩
      have hj7 := hj.put (rc' := { rc with state := .exhausted })
      clear has hbo hps htm hrd hpe hfn hj
      generalize W'.putObj (ag + 1) (.loop { rc with state := .exhausted }) = W7 at *
      rw [← List.take_of_length_le (Nat.le_of_lt hlm)] at hj7
      obtain ⟨d1, a', n', c', z0, z1, z2⟩ := HFin.out _ _ _ hj7
      have HZ := hidJ (And.intro d1 (And.intro z1 z2))
      clear d1 z1 z2 hj7 HFin hlm
      gi_wp2
      refine ⟨by simp, .inl ⟨_, _, rfl, run_takeDeferred HZ.out.1, ?_⟩⟩
      refine ⟨_, results_tmp rfl _ _ _, ?_⟩
      exact ⟨.slice a' n' c', rfl, HZ.out.2⟩
    · refine .inr ⟨hj.rcd, ?_⟩
      have hj7 := hj.put (rc' := { rc with state := .exhausted, pending := some (.exit 0) })
      clear has hbo hps htm hrd hpe hfn hj
      generalize W'.putObj (ag + 1) (.loop { rc with state := .exhausted, pending := some (.exit 0) }) = W7 at *
      obtain ⟨d1, a', n', c', z0, z1, z2⟩ := HFin.out _ _ _ hj7
      have HZ := hidJ (And.intro d1 (And.intro z1 z2))
      clear d1 z1 z2 hj7 HFin
      gi_wp2
      refine ⟨by simp, .inl ⟨_, _, rfl, run_takeDeferred HZ.out.1, ?_⟩⟩
      refine ⟨_, results_tmp rfl _ _ _, ?_⟩
      exact ⟨.slice a' n' c', rfl, HZ.out.2⟩
theorem everyC_any (w : World) (S : Nat → Prop) (g : Nat) (m : List SmpT) (most : Nat) (hmo : 1 ≤ most) (h : CkO w S g m) (hT : Tk w) :
    Calls Tryd.prog 15 #[.pointer (some ⟨g, 0, none⟩), .int .i64 (most : Int)] w fun e w' => ∃ v', e = .returned v' ∧ RdP w' v' (m.take most) ∧ w.grownBy w' none := (callsIn_wide (n := 14)).1 (every_any 14 (Nat.le_refl _) w S g m most hmo h hT)
end Go.Proofs.YtkiefmhampfhoaaDoor
