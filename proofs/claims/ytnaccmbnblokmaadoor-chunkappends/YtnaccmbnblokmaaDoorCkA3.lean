/-
  every: what All tells, up to most: the walk.
-/
import Derived.Test.YtnaccmbnblokmaaDoorCkA2
namespace Go.Proofs.YtnaccmbnblokmaaDoor
open Go.RowKit Go.Shelf

attribute [local go_sem] Oper.semAt_some

set_option maxRecDepth 100000 in
set_option maxHeartbeats 6400000 in
theorem every_any (n : Nat) (hn : 14 ≤ n) (w : World) (S : Nat → Prop) (g : Nat) (m : List SmpT) (most : Nat) (hmo : 1 ≤ most) (h : CkO w S g m) (hT : Tk w) :
    CallsIn Fence.wide n Tryd.prog 15 #[.pointer (some ⟨g, 0, none⟩), .int .i64 (most : Int)] w fun e w' => ∃ v', e = .returned v' ∧ RdP w' v' (m.take most) ∧ w.grownBy w' none := by
  have h1 : 1 ≤ n := by omega
  have HV := hidJ (And.intro h (And.intro hT (And.intro h.ok h.len)))
  clear h hT
  have hnf : ∀ (lb : Array Value) (W : World), (binOp .eql 73 (.func (.func 58) #[] lb) .nilFunc).run Tryd.prog W = .ok (.bool false) W := fun _ _ => rfl
  refine callsIn_of_wp_marks Tryd.func15 rfl trivial ?_ rfl
  simp only [Tryd.ntmps15, List.size_toArray, List.length_cons, List.length_nil, Nat.reduceAdd, Nat.reduceSub, Array.replicate_succ, Array.replicate_zero, List.push_toArray, List.append_toArray, List.nil_append, List.cons_append]
  have HA : Hid (∀ W, W = (w.alloc (.cells #[.int .i64 (most : Int)] 3)).alloc (.cells #[.slice none 0 0] 22) → (Calls Tryd.prog 34 #[.pointer (some ⟨g, 0, none⟩)] W fun e w' => ∃ Bn v, e = .returned (.func (.func 58) #[] #[.pointer (some ⟨Bn, 0, none⟩)]) ∧ Hid (w'.cell? ⟨Bn, 0, none⟩ = some v ∧ Rd w' v (ckB m) ∧ w.grownBy w' none ∧ Boxed w' w.heap.size 3 (.int .i64 (most : Int)) ∧ Boxed w' (w.heap.size + 1) 22 (.slice none 0 0) ∧ w.heap.size + 2 ≤ w'.heap.size))) := by
    rintro W rfl
    have k := gb_none (alloc_gb w (.cells #[.int .i64 (most : Int)] 3)) (alloc_gb (w.alloc (.cells #[.int .i64 (most : Int)] 3)) (.cells #[.slice none 0 0] 22))
    have x0 := (Boxed.new w 3 (.int .i64 (most : Int))).alloc (.cells #[.slice none 0 0] 22)
    have x1 := Boxed.new (w.alloc (.cells #[.int .i64 (most : Int)] 3)) 22 (.slice none 0 0)
    simp only [World.size_alloc] at x1
    refine (ckAll_any _ S g m (HV.out.1.keep k)).mono ?_
    rintro e w' ⟨Bn, v, q1, q2, q3, q4⟩
    exact ⟨Bn, v, q1, q2, q3, gb_none k q4, x0.kept q4 (by simp), x1.kept q4 (by simp), by have := q4.size; simp at this; omega⟩
  gi_wp2_with fail
  refine ⟨trivial, ?_⟩
  gi_at_call 34
  refine (callsIn_wide.2 (HA.out _ rfl)).mono ?_
  rintro e W0 ⟨Bn, v, rfl, H0⟩
  clear HA
  gi_wp2_with fail
  obtain ⟨ag, hag⟩ : ∃ ag, W0.heap.size = ag := ⟨_, rfl⟩
  have HAG := hidJ hag
  clear hag
  refine range_br (k := 0) rfl h1 (gf := 58) (lb := #[.pointer (some ⟨Bn, 0, none⟩)]) rfl trivial (enters_of Tryd.func58 (by kernel_rfl) rfl) ?_
  intro rc hfn hrd hpe hps htm has hbo
  rw [HAG.out]
  have HS : Hid (((W0.alloc (.deferred (some []))).alloc (.loop rc)).heap.size = ag + 2 ∧ ((W0.alloc (.deferred (some []))).alloc (.loop rc)).heap[ag]? = some (.deferred (some [])) ∧ ((W0.alloc (.deferred (some []))).alloc (.loop rc)).heap[ag + 1]? = some (.loop rc) ∧ W0.grownBy ((W0.alloc (.deferred (some []))).alloc (.loop rc)) none ∧ w.heap.size + 2 ≤ ag) := by
    have q2 := HAG.out
    have k1 := alloc_gb W0 (.deferred (some []))
    have k2 := alloc_gb (W0.alloc (.deferred (some []))) (.loop rc)
    have e1 := World.alloc_heap_new W0 (.deferred (some []))
    have e2 := World.alloc_heap_new (W0.alloc (.deferred (some []))) (.loop rc)
    rw [World.size_alloc] at e2
    rw [q2] at e1 e2
    exact ⟨by simp [q2], (k2.block _ (by simp [q2]) (by simp)).trans e1, e2, gb_none k1 k2, by have := H0.out.2.2.2.2.2; omega⟩
  generalize (W0.alloc (.deferred (some []))).alloc (.loop rc) = Ws at *
  refine CallsIn.mono (all1_any (n - 1) (by omega) (ag + 1) Bn w.heap.size v m HV.out.2.2.1 Ws ?cell ?rd ?tab HV.out.2.1.lt.1 (by have := HS.out; omega) (fun B l W' => EvJ w ag (most : Int) rc B l W' ∧ l.length < most) (fun W' => EvJ w ag (most : Int) { rc with state := .done, pending := some (.exit 0) } (ag + 6) (m.take most) W') ?hJ ?hJx ?h0 ?hY) ?post
  case cell => exact (World.cell?_of_block (HS.out.2.2.2.1.block Bn (block_lt H0.out.1) (by simp))).trans H0.out.1
  case rd => exact H0.out.2.1.keep HS.out.2.2.2.1
  case tab => exact HV.out.2.1.1.keep (gb_none H0.out.2.2.1 HS.out.2.2.2.1)
  case hJ =>
    rintro B l W1 W2 ⟨hj, hl⟩ hc
    rw [HS.out.1] at hc
    exact ⟨hj.far hc, hl⟩
  case hJx =>
    intro W1 W2 hj hc
    rw [HS.out.1] at hc
    exact hj.far hc
  case h0 =>
    intro B W1 hc hB
    obtain ⟨s1, s2, s3, s4, s5⟩ := HS.out
    obtain ⟨-, -, p3, p4, p5, -⟩ := H0.out
    have hz := hc.size
    have hg1 := gb_none s4 (hc.gb (fun _ _ e => e))
    exact ⟨⟨gb_none p3 hg1, by omega, p4.kept hg1 (by simp), (hc.block (some_lt2 s2) (fun e => e)).trans s2, (hc.block (some_lt2 s3) (fun e => e)).trans s3, _, p5.kept hg1 (by simp), World.ownsRow_nil _ _ _ _⟩, hmo⟩
  case hY =>
    rintro B l T F r W1 ⟨hj, hl⟩ hB1 hB2 hmr
    rw [HS.out.1] at hB1 ⊢
    have hlen : l.length ≤ 120 := by have := HV.out.2.2.2; rw [hmr, List.length_append] at this; omega
    refine YieldAt.mono (yield_br (k := 0) (R := fun W' => (EvJ w ag (most : Int) rc B (l ++ [(T, F)]) W' ∧ (l ++ [(T, F)]).length < most) ∧ Ch W1 W' (fun k => (w.heap.size ≤ k ∧ k < ag + 2) ∨ B ≤ k)) (Rx := fun W' => EvJ w ag (most : Int) { rc with state := .done, pending := some (.exit 0) } (ag + 6) (m.take most) W' ∧ Ch W1 W' (fun k => (w.heap.size ≤ k ∧ k < ag + 2) ∨ B ≤ k)) has hbo hps htm hj.rcd hrd rfl hfn ?_) ?_
    · clear has hbo hps htm
      have hsf := store_float
      have HK := hidJ hj.rcd
      have hB0 := hj.put (rc' := { rc with state := .busy })
      have HCB := hidJ (putRec_ch W1 (ag + 1) (.loop { rc with state := .busy }))
      obtain ⟨aL, cL, a2, c2, W4, r1, r2, r3, r4, r5, r6, r7⟩ := hB0.more T F (by omega)
      have x0 := r5.b0.cell
      have H5 := hidJ (And.intro r5 (And.intro r6 (And.intro hB1 hB2)))
      have HX := hidJ (And.intro hrd (And.intro hpe (And.intro hmr hl)))
      clear r5 r6 hB0 hj hrd hpe hfn hB1 hB2 hmr
      obtain ⟨nl, hnl⟩ : ∃ nl, l.length = nl := ⟨_, rfl⟩
      rw [hnl] at r1 r2 r3 r7 hlen hl x0
      have HNL := hidJ hnl
      clear hnl
      gi_wp2
      refine ⟨HK.out, ?_⟩
      generalize W1.putObj (ag + 1) (.loop { rc with state := .busy }) = Wb at *
      clear HK
      gi_wp2_with (gi_at_builtin; refine wpIn_appRun rfl _ _ 22 rfl _ _ _ rfl rfl r2 ?_)
      · have hfin := H5.out
        rw [HNL.out] at hfin
        have hp := hfin.1.place
        have hmt : m.take most = l ++ [(T, F)] := by
          have e1 : most = (l ++ [(T, F)]).length := by rw [List.length_append, HNL.out]; simp; omega
          have e2 : m = (l ++ [(T, F)]) ++ r := by rw [HX.out.2.2.1]; simp
          rw [e2, e1, List.take_left']
          rfl
        refine ⟨hfin.1.rcd, ?_, ?_⟩
        · rw [hmt]
          exact hfin.1.put.low (by omega) (by omega)
        · refine ((HCB.out.mono (T := fun k => (w.heap.size ≤ k ∧ k < ag + 2) ∨ B ≤ k) (fun k _ e => by omega)).trans hfin.2.1 (fun k _ e => by unfold EvF at e; omega)).trans (putRec_ch _ _ _) (fun k _ e => by omega)
      · have hfin := H5.out
        rw [HNL.out] at hfin
        have hp := hfin.1.place
        refine ⟨hfin.1.rcd, ⟨?_, by rw [HNL.out]; omega⟩, ?_⟩
        · have := hfin.1.put (rc' := { rc with state := .ready, pending := none })
          rw [ready_same HX.out.1 HX.out.2.1] at this ⊢
          exact this
        · refine ((HCB.out.mono (T := fun k => (w.heap.size ≤ k ∧ k < ag + 2) ∨ B ≤ k) (fun k _ e => by omega)).trans hfin.2.1 (fun k _ e => by unfold EvF at e; omega)).trans (putRec_ch _ _ _) (fun k _ e => by omega)
    · rintro e W' (⟨q1, q2, q4⟩ | ⟨q1, q2, q4⟩)
      · exact ⟨.inl ⟨q1, q2⟩, q4⟩
      · exact ⟨.inr ⟨q1, q2⟩, q4⟩
  case post =>
    rintro e W' ⟨⟨x, rfl⟩, hq⟩
    refine ⟨⟨x, rfl⟩, ?_⟩
    have HFin : Hid (∀ rcx Bx W7, EvJ w ag (most : Int) rcx Bx (m.take most) W7 → W7.heap[ag]? = some (.deferred (some [])) ∧ ∃ a n c, W7.cell? ⟨w.heap.size + 1, 0, none⟩ = some (.slice a n c) ∧ RdP (W7.putObj ag (.deferred none)) (.slice a n c) (m.take most) ∧ w.grownBy (W7.putObj ag (.deferred none)) none) := by
      intro rcx Bx W7 hj
      obtain ⟨vL, c3, c4⟩ := hj.row
      have hp := hj.place
      have k2 := putRec_ch W7 ag (.deferred none)
      obtain ⟨a, c, rfl⟩ : ∃ a c, vL = .slice a (m.take most).length c := by
        rcases c4.2 with ⟨e, e2⟩ | ⟨b, cap, cur, e, -⟩
        · exact ⟨none, 0, by rw [e, e2]⟩
        · exact ⟨_, _, e⟩
      refine ⟨hj.df, a, _, c, c3.cell, RdP.of_row (row_ch c4 k2 (fun k hk e => ?_)), gb_ch hj.old k2 (fun k e => by omega)⟩
      have := (World.ownsRow.lt c4 k hk).1
      omega
    rcases hq with ⟨B, hj, hlm⟩ | hj
    · refine .inl ⟨hj.rcd, ?_⟩
      have hj7 := hj.put (rc' := { rc with state := .exhausted })
      clear has hbo hps htm hrd hpe hfn hj
      generalize W'.putObj (ag + 1) (.loop { rc with state := .exhausted }) = W7 at *
      rw [← List.take_of_length_le (Nat.le_of_lt hlm)] at hj7
      obtain ⟨d1, a', n', c', z0, z1, z2⟩ := HFin.out _ _ _ hj7
      have HZ := hidJ (And.intro d1 (And.intro z1 z2))
      clear d1 z1 z2 hj7 HFin hlm
      gi_wp2
      refine ⟨by simp, .inl ⟨_, _, rfl, run_takeDeferred HZ.out.1, ?_⟩⟩
      refine ⟨_, results_tmp rfl _ _ _, ?_⟩
      exact ⟨.slice a' n' c', rfl, HZ.out.2⟩
    · refine .inr ⟨hj.rcd, ?_⟩
      have hj7 := hj.put (rc' := { rc with state := .exhausted, pending := some (.exit 0) })
      clear has hbo hps htm hrd hpe hfn hj
      generalize W'.putObj (ag + 1) (.loop { rc with state := .exhausted, pending := some (.exit 0) }) = W7 at *
      obtain ⟨d1, a', n', c', z0, z1, z2⟩ := HFin.out _ _ _ hj7
      have HZ := hidJ (And.intro d1 (And.intro z1 z2))
      clear d1 z1 z2 hj7 HFin
      gi_wp2
      refine ⟨by simp, .inl ⟨_, _, rfl, run_takeDeferred HZ.out.1, ?_⟩⟩
      refine ⟨_, results_tmp rfl _ _ _, ?_⟩
      exact ⟨.slice a' n' c', rfl, HZ.out.2⟩
theorem everyC_any (w : World) (S : Nat → Prop) (g : Nat) (m : List SmpT) (most : Nat) (hmo : 1 ≤ most) (h : CkO w S g m) (hT : Tk w) :
    Calls Tryd.prog 15 #[.pointer (some ⟨g, 0, none⟩), .int .i64 (most : Int)] w fun e w' => ∃ v', e = .returned v' ∧ RdP w' v' (m.take most) ∧ w.grownBy w' none := (callsIn_wide (n := 14)).1 (every_any 14 (Nat.le_refl _) w S g m most hmo h hT)
end Go.Proofs.YtnaccmbnblokmaaDoor
