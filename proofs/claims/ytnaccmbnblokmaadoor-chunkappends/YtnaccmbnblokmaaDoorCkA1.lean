/-
  All's function: what it hands out of a chunk's bytes: the walk.
-/
import Derived.Test.YtnaccmbnblokmaaDoorCkB1
namespace Go.Proofs.YtnaccmbnblokmaaDoor
open Go.RowKit Go.Shelf

attribute [local go_sem] Oper.semAt_some

/-- All's function between two rounds -/
structure A1J (W : World) (lp : Nat) (rc : Loop) (J : Nat → List SmpT → World → Prop) (B : Nat) (l : List SmpT) (W1 : World) : Prop where
  place : W.heap.size + 4 ≤ B ∧ B ≤ W1.heap.size
  yb : Boxed W1 W.heap.size 108 (.func (.yield lp) #[] #[])
  df : W1.heap[W.heap.size + 2]? = some (.deferred (some []))
  rcd : W1.heap[W.heap.size + 3]? = some (.loop rc)
  out : J B l W1
theorem A1J.far {W W1 W2 : World} {lp B : Nat} {rc : Loop} {J : Nat → List SmpT → World → Prop} {l : List SmpT} (hJ : ∀ B l W1 W2, J B l W1 → Ch W1 W2 (fun k => W.heap.size ≤ k ∧ k < B) → J B l W2) (h : A1J W lp rc J B l W1) (hc : Ch W1 W2 (fun k => W.heap.size + 4 ≤ k ∧ k < B)) : A1J W lp rc J B l W2 := by
  have hp := h.place
  have hz := hc.size
  exact ⟨by omega, bxch h.yb hc (by omega), (hc.block (some_lt2 h.df) (by omega)).trans h.df, (hc.block (some_lt2 h.rcd) (by omega)).trans h.rcd, hJ _ _ _ _ h.out (hc.mono (fun k _ e => by omega))⟩
theorem A1J.put {W W1 : World} {lp B : Nat} {rc rc' : Loop} {J : Nat → List SmpT → World → Prop} {l : List SmpT} (hJ : ∀ B l W1 W2, J B l W1 → Ch W1 W2 (fun k => W.heap.size ≤ k ∧ k < B) → J B l W2) (h : A1J W lp rc J B l W1) : A1J W lp rc' J B l (W1.putObj (W.heap.size + 3) (.loop rc')) := by
  have hp := h.place
  have hc := putRec_ch W1 (W.heap.size + 3) (.loop rc')
  exact ⟨by simpa using hp, bxch h.yb hc (by omega), (hc.block (some_lt2 h.df) (by omega)).trans h.df, World.putObj_heap_same (some_lt2 h.rcd), hJ _ _ _ _ h.out (hc.mono (fun k _ e => by omega))⟩
/-- the next sample of a chunk's bytes -/
theorem next_of {m : List SmpT} (hm : okL startP m) {l : List SmpT} {st : Pst} {p : Nat} (hD : Dec (strL (ckB m)) (strS (ckB m)) l st p) (hl : l.length < cntN (ckB m)) :
    ∃ x r, m = l ++ x :: r ∧ wrongN (stA startP l) x.1 = 0 ∧ x.2 < 18446744073709551616 ∧ ∃ wd p', nexO st (strL (ckB m)) (strS (ckB m)) p = some (x.1, x.2, wd, p') := by
  rw [ckB_cnt hm] at hl
  obtain ⟨rfl, rfl, r, hmr⟩ := hD.chunk hm (by omega)
  match r with
  | [] => rw [List.append_nil] at hmr; rw [hmr] at hl; omega
  | x :: r =>
    have hok := hm
    rw [hmr, okL_app] at hok
    have hat := packAt (encB startP m)
    rw [← ckB_strS hm, ← ckB_strL] at hat
    have he : encB startP m = encB startP l ++ (smpB (stA startP l) x.1 x.2 ++ encB (nextP (stA startP l) x.1 x.2) r) := by rw [hmr, encB_app]; rfl
    rw [he] at hat
    have ha := hat.app.2.app.1
    rw [Nat.zero_add] at ha
    have hs := stA_ok startOk hok.1
    have q := wrongN_ok hok.2.1 hs.most
    exact ⟨x, r, hmr, hok.2.1, hok.2.2.1, _, _, nexO_at hs q.1 q.2.1 hok.2.2.1 ha⟩

set_option maxRecDepth 100000 in
set_option maxHeartbeats 6400000 in
theorem all1_any (n : Nat) (hn : 8 ≤ n) (lp Bn m0 : Nat) (v : Value) (m : List SmpT) (hm : okL startP m) (W : World) (hc : W.cell? ⟨Bn, 0, none⟩ = some v) (hv : Rd W v (ckB m)) (hT : TabC W) (hTm : 1 < m0) (hm0 : m0 ≤ W.heap.size)
    (J : Nat → List SmpT → World → Prop) (Jx : World → Prop)
    (hJ : ∀ B l W1 W2, J B l W1 → Ch W1 W2 (fun k => W.heap.size ≤ k ∧ k < B) → J B l W2)
    (hJx : ∀ W1 W2, Jx W1 → Ch W1 W2 (fun k => W.heap.size ≤ k ∧ k < W.heap.size + 4) → Jx W2)
    (h0 : ∀ B W1, Ch W W1 (fun _ => False) → W1.heap.size = B → J B [] W1)
    (hY : ∀ B l T F r W1, J B l W1 → W.heap.size + 4 ≤ B → B ≤ W1.heap.size → m = l ++ (T, F) :: r → YieldAt Fence.wide (n - 1 - 1 - 1) Tryd.prog lp #[.int .i64 T, .float .f64 F] W1 fun e W' => ((e = .returned (.bool true) ∧ J B (l ++ [(T, F)]) W') ∨ (e = .returned (.bool false) ∧ Jx W')) ∧ Ch W1 W' (fun k => (m0 ≤ k ∧ k < W.heap.size) ∨ B ≤ k)) :
    CallsIn Fence.wide n Tryd.prog 58 (#[.func (.yield lp) #[] #[]] ++ #[.pointer (some ⟨Bn, 0, none⟩)]) W fun e W' => (∃ x, e = .returned x) ∧ ((∃ B, J B m W') ∨ Jx W') := by
  have h1 : 1 ≤ n := by omega
  have HJ := hidJ hJ
  have HJx := hidJ hJx
  have H0 := hidJ h0
  have HY := hidJ hY
  have HV := hidJ (And.intro hm (And.intro hv (And.intro hT (And.intro hTm hm0))))
  clear hJ hJx h0 hY hm hT hTm hm0
  obtain ⟨a, c, rfl, hlc, hcm, -⟩ := hv
  obtain ⟨N, hN⟩ : ∃ N, (ckB m).length = N := ⟨_, rfl⟩
  have HN := hidJ hN
  rw [hN] at hc
  clear hlc hcm
  refine callsIn_of_wp_marks Tryd.func58 rfl trivial ?_ rfl
  simp only [Tryd.ntmps58, List.size_toArray, List.length_cons, List.length_nil, Nat.reduceAdd, Nat.reduceSub, Array.replicate_succ, Array.replicate_zero, List.push_toArray, List.append_toArray, List.nil_append, List.cons_append]
  have hc2 : ∀ C, (W.alloc C).cell? ⟨Bn, 0, none⟩ = some (.slice a N c) := fun C => (World.cell?_of_block ((alloc_gb W C).block Bn (block_lt hc) (by simp))).trans hc
  gi_wp2_with fail
  refine ⟨trivial, ?_⟩
  gi_at_call 39
  refine (told_any Fence.wide (n - 1) trivial rfl a N c _ _ rfl).mono ?_
  rintro e w2 ⟨rfl, rfl⟩
  have H2 : Hid (∀ W0, W0 = (W.alloc (.cells #[.func (.yield lp) #[] #[]] 108)).alloc (.cells #[.slice a N c] 36) → W.grownBy W0 none ∧ W0.heap.size = W.heap.size + 2 ∧ Boxed W0 W.heap.size 108 (.func (.yield lp) #[] #[]) ∧ Boxed W0 (W.heap.size + 1) 36 (.slice a N c)) := by
    rintro W0 rfl
    have x0 := (Boxed.new W 108 (.func (.yield lp) #[] #[])).alloc (.cells #[.slice a N c] 36)
    have x1 := Boxed.new (W.alloc (.cells #[.func (.yield lp) #[] #[]] 108)) 36 (.slice a N c)
    simp only [World.size_alloc] at x1
    exact ⟨gb_none (alloc_gb _ _) (alloc_gb _ _), by simp, x0, x1⟩
  gi_wp2_with fail
  have H3 := H2.out _ rfl
  generalize (W.alloc (.cells #[.func (.yield lp) #[] #[]] 108)).alloc (.cells #[.slice a N c] 36) = W0 at *
  clear H2 hc hc2
  have HW0 := hidJ H3
  clear H3 hN
  refine range_ex rfl h1 (gf := 65) (lb := #[.pointer (some ⟨W.heap.size + 1, 0, none⟩)]) rfl trivial (enters_of Tryd.func65 (by kernel_rfl) rfl) ?_
  intro rc hfn hrd hpe hps htm has hbo
  rw [HW0.out.2.1, show W.heap.size + 2 + 1 = W.heap.size + 3 from rfl]
  have HS : Hid (W.grownBy ((W0.alloc (.deferred (some []))).alloc (.loop rc)) none ∧ ((W0.alloc (.deferred (some []))).alloc (.loop rc)).heap.size = W.heap.size + 4 ∧ ((W0.alloc (.deferred (some []))).alloc (.loop rc)).heap[W.heap.size + 2]? = some (.deferred (some [])) ∧ ((W0.alloc (.deferred (some []))).alloc (.loop rc)).heap[W.heap.size + 3]? = some (.loop rc) ∧ W0.grownBy ((W0.alloc (.deferred (some []))).alloc (.loop rc)) none) := by
    obtain ⟨q1, q2, -⟩ := HW0.out
    have k1 := alloc_gb W0 (.deferred (some []))
    have k2 := alloc_gb (W0.alloc (.deferred (some []))) (.loop rc)
    have e1 := World.alloc_heap_new W0 (.deferred (some []))
    have e2 := World.alloc_heap_new (W0.alloc (.deferred (some []))) (.loop rc)
    rw [World.size_alloc] at e2
    rw [q2] at e1 e2
    exact ⟨gb_none q1 (gb_none k1 k2), by simp [q2], (k2.block _ (by simp [q2]) (by simp)).trans e1, e2, gb_none k1 k2⟩
  generalize (W0.alloc (.deferred (some []))).alloc (.loop rc) = Ws at *
  have HD : Hid (∀ B W1, Ch Ws W1 (fun _ => False) → W1.heap.size = B → A1J W lp rc J B [] W1) := by
    intro B W1 hc hB
    obtain ⟨s1, s2, s3, s4, s5⟩ := HS.out
    have hz := hc.size
    have hg1 := gb_none s5 (hc.gb (fun _ _ e => e))
    have hg0 := gb_none s1 (hc.gb (fun _ _ e => e))
    exact ⟨by omega, HW0.out.2.2.1.kept hg1 (by simp), (hc.block (some_lt2 s3) (fun e => e)).trans s3, (hc.block (some_lt2 s4) (fun e => e)).trans s4, H0.out B W1 (Ch.of_gb hg0 (fun k hk => by cases hk)) hB⟩
  refine CallsIn.mono (told1_any (n - 1) (by omega) (W.heap.size + 3) (W.heap.size + 1) m0 (.slice a N c) (ckB m) Ws ?cell ?rd (by have := ckB_small HV.out.1; omega) (HV.out.2.2.1.keep HS.out.1) HV.out.2.2.2.1 (by have := HV.out.2.2.2.2; have := HS.out.2.1; omega) (fun B l W' => A1J W lp rc J B l W') (fun W' => Jx W' ∧ W'.heap[W.heap.size + 2]? = some (.deferred (some [])) ∧ W'.heap[W.heap.size + 3]? = some (.loop { rc with state := .done, pending := some .ret })) ?hJ HD.out ?hY ?hE ?hE0) ?post
  case cell => exact (HW0.out.2.2.2.kept HS.out.2.2.2.2 (by simp)).cell
  case rd =>
    have := HV.out.2.1.keep HS.out.1
    rw [HN.out] at this
    exact this
  case hJ =>
    intro B l W1 W2 hj hc
    rw [HS.out.2.1] at hc
    exact hj.far HJ.out hc
  case hE =>
    intro B l st p W1 hj hm hB hD hx hlen h2
    exact absurd (.inr ⟨l, st, p, hD, hlen, .inl hx⟩) (no_why HV.out.1)
  case hE0 =>
    intro hlt
    exact absurd (.inl hlt) (no_why HV.out.1)
  case hY =>
    intro B l st p T F wd p' W1 hj hm hB hD hx hF hlen h2
    rw [HS.out.2.1]
    obtain ⟨⟨T0, F0⟩, r, hmr, hw0, -, wd', p'', hx'⟩ := next_of HV.out.1 hD hlen
    rw [hx] at hx'
    simp only [Option.some.injEq, Prod.mk.injEq] at hx'
    obtain ⟨rfl, rfl, -, -⟩ := hx'
    refine YieldAt.mono (yield_ex (R := fun W' => A1J W lp rc J B (l ++ [(T, F)]) W' ∧ Ch W1 W' (fun k => (m0 ≤ k ∧ k < W.heap.size + 4) ∨ B ≤ k)) (Rx := fun W' => Jx W' ∧ W'.heap[W.heap.size + 2]? = some (.deferred (some [])) ∧ W'.heap[W.heap.size + 3]? = some (.loop { rc with state := .done, pending := some .ret })) has hbo hps htm hj.rcd hrd rfl hfn ?_) ?_
    · clear has hbo hps htm
      have hsf := store_float
      have hal := alloc_gb W1 (.cells #[.int .i64 T, .float .f64 F] 27)
      have hk := hj.far HJ.out (Ch.of_gb hal (fun k hk => by cases hk))
      have HK := hidJ hk.rcd
      have hB0 := hk.put (rc' := { rc with state := .busy }) HJ.out
      have hnew : ((W1.alloc (.cells #[.int .i64 T, .float .f64 F] 27)).putObj (W.heap.size + 3) (.loop { rc with state := .busy })).heap[W1.heap.size]? = some (.cells #[.int .i64 T, .float .f64 F] 27 (0, 0)) :=
        (World.putObj_heap_other (by have := some_lt2 hj.rcd; omega)).trans (Go.heap_alloc_new W1 _)
      have hcb : Ch W1 ((W1.alloc (.cells #[.int .i64 T, .float .f64 F] 27)).putObj (W.heap.size + 3) (.loop { rc with state := .busy })) (fun j => j = W.heap.size + 3) := (Ch.of_gb (S := fun j => j = W.heap.size + 3) hal (fun k hk => by cases hk)).trans (putRec_ch _ _ _) (fun _ _ e => e)
      have HCB := hidJ hcb
      have z0 := hB0.yb.cell
      have y0 : ((W1.alloc (.cells #[.int .i64 T, .float .f64 F] 27)).putObj (W.heap.size + 3) (.loop { rc with state := .busy })).cell? ⟨W1.heap.size, 0, none⟩ = some (.int .i64 T) := by simp only [World.cell?, hnew]; rfl
      have y1 : ((W1.alloc (.cells #[.int .i64 T, .float .f64 F] 27)).putObj (W.heap.size + 3) (.loop { rc with state := .busy })).cell? ⟨W1.heap.size, 1, none⟩ = some (.float .f64 F) := by simp only [World.cell?, hnew]; rfl
      have HB0 := hidJ hB0
      have HX := hidJ (And.intro hrd hpe)
      have HMR := hidJ hmr
      clear hk hB0 hnew hcb hal hj hD hx hlen h2 hm hB hrd hpe hfn hF hmr
      gi_wp2
      refine ⟨HK.out, ?_⟩
      generalize (W1.alloc (.cells #[.int .i64 T, .float .f64 F] 27)).putObj (W.heap.size + 3) (.loop { rc with state := .busy }) = Wb at *
      generalize W1.heap.size = sb at *
      clear HK
      obtain ⟨fn, tmps, assign, body, hy, hR⟩ := HY.out B l T F r Wb HB0.out.out HB0.out.place.1 HB0.out.place.2 HMR.out
      gi_wp2_with fail
      refine ⟨fun _ => by omega, ?_⟩
      refine RoundIn.mono (F := Fence.wide.inRound (W.heap.size + 3)) hR ?_
      rintro e W3 ⟨hq, hc3⟩
      have hp := HB0.out.place
      have hrc3 := (hc3.block (some_lt2 HB0.out.rcd) (by omega)).trans HB0.out.rcd
      have hdf3 := (hc3.block (some_lt2 HB0.out.df) (by omega)).trans HB0.out.df
      have hyb3 := bxch HB0.out.yb hc3 (by omega)
      have hz3 := hc3.size
      have H3 := hidJ (And.intro hrc3 (And.intro hdf3 (And.intro hyb3 (And.intro hc3 (And.intro hp hz3)))))
      clear hrc3 hdf3 hyb3 hc3 hp hz3 hy hR z0 y0 y1
      rcases hq with ⟨rfl, hj3⟩ | ⟨rfl, hx3⟩
      · have HJ3 := hidJ hj3
        clear hj3
        gi_wp2
        have hA : A1J W lp { rc with state := .busy } J B (l ++ [(T, F)]) W3 := ⟨by have := H3.out.2.2.2.2; omega, H3.out.2.2.1, H3.out.2.1, H3.out.1, HJ3.out⟩
        refine ⟨H3.out.1, ?_, ?_⟩
        · have := hA.put (rc' := { rc with state := .ready, pending := none }) HJ.out
          rw [ready_same HX.out.1 HX.out.2] at this ⊢
          exact this
        · have hm0 := HV.out.2.2.2.2
          refine ((HCB.out.mono (T := fun k => (m0 ≤ k ∧ k < W.heap.size + 4) ∨ B ≤ k) (fun k _ e => by omega)).trans H3.out.2.2.2.1 (fun k _ e => by omega)).trans (putRec_ch _ _ _) (fun k _ e => by omega)
      · have HX3 := hidJ hx3
        clear hx3
        gi_wp2
        have hk := putRec_ch W3 (W.heap.size + 3) (.loop { rc with state := .done, pending := some .ret })
        exact ⟨H3.out.1, HJx.out _ _ HX3.out (hk.mono (fun k _ e => by omega)), (hk.block (some_lt2 H3.out.2.1) (by omega)).trans H3.out.2.1, World.putObj_heap_same (some_lt2 H3.out.1)⟩
    · rintro e W' (⟨q1, q2, q4⟩ | ⟨q1, q2⟩)
      · exact .inl ⟨q1, q2, hw0, q4⟩
      · exact .inr ⟨q1, q2⟩
  case post =>
    rintro e W' ⟨⟨x, rfl⟩, hq⟩
    refine ⟨⟨x, rfl⟩, ?_⟩
    rcases hq with ⟨hx, hdf, hrc⟩ | ⟨B, l, st, p, h2, hD, hlen, hj⟩
    · refine .inr ⟨hrc, ?_⟩
      have k1 := putRec_ch W' (W.heap.size + 3) (.loop { rc with state := .exhausted, pending := some .ret })
      have d1 := (k1.block (some_lt2 hdf) (by omega)).trans hdf
      have x1 := HJx.out _ _ hx (k1.mono (fun k _ e => by omega))
      clear has hbo hps htm hrd hpe hfn hx HD hdf hrc
      generalize W'.putObj (W.heap.size + 3) (.loop { rc with state := .exhausted, pending := some .ret }) = W7 at *
      have k2 := putRec_ch W7 (W.heap.size + 2) (.deferred none)
      have x2 := HJx.out _ _ x1 (k2.mono (fun k _ e => by omega))
      simp only [Exit.inBlock]
      refine ⟨by simp, .inl ⟨_, _, rfl, run_takeDeferred d1, ?_⟩⟩
      exact ⟨_, results_none rfl _ _ _, ⟨_, rfl⟩, .inr x2⟩
    · refine .inl ⟨hj.rcd, ?_⟩
      have hp := hj.place
      have hlm : l = m := by
        rw [ckB_cnt HV.out.1] at hlen
        obtain ⟨-, -, r, hmr⟩ := hD.chunk HV.out.1 (by omega)
        have : r = [] := List.eq_nil_of_length_eq_zero (by rw [hmr, List.length_append] at hlen; omega)
        subst this
        rw [List.append_nil] at hmr
        exact hmr.symm
      subst hlm
      have hj7 := hj.put (rc' := { rc with state := .exhausted }) HJ.out
      clear has hbo hps htm hrd hpe hfn hj HD hD hlen
      generalize W'.putObj (W.heap.size + 3) (.loop { rc with state := .exhausted }) = W7 at *
      have k2 := putRec_ch W7 (W.heap.size + 2) (.deferred none)
      have HF := hidJ (And.intro hj7.df (HJ.out _ _ _ _ hj7.out (k2.mono (fun k _ e => by omega))))
      clear hj7 k2
      gi_wp2
      refine ⟨by simp, .inl ⟨_, _, rfl, run_takeDeferred HF.out.1, ?_⟩⟩
      exact ⟨_, results_none rfl _ _ _, ⟨_, rfl⟩, .inl ⟨B, HF.out.2⟩⟩
end Go.Proofs.YtnaccmbnblokmaaDoor
