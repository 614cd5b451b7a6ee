/-
  Decode, whatever the bytes: the walk.
-/
import Derived.Test.YtkiefmhampfhoaaDoorCkR3
namespace Go.Proofs.YtkiefmhampfhoaaDoor
open Go.RowKit Go.Shelf

attribute [local go_sem] Oper.semAt_some

theorem smC_at (l : List SmpT) : ∀ j, j < l.length → (smC l)[j * 2]? = some (.int .i64 (l.getD j smZ).1) ∧ (smC l)[j * 2 + 1]? = some (.float .f64 (l.getD j smZ).2) := by
  induction l with
  | nil => intro j hj; simp at hj
  | cons x l ih =>
    intro j hj
    cases j with
    | zero => exact ⟨rfl, rfl⟩
    | succ k =>
      have := ih k (by simpa using hj)
      rw [show (k + 1) * 2 = k * 2 + 1 + 1 by omega]
      simpa [smC] using this
theorem RdP.of_row {W : World} {B : Nat} {v : Value} {l : List SmpT} (h : W.ownsRow B 27 2 v l.length (smC l)) : RdP W v l := by
  rcases h.2 with ⟨e, e2⟩ | ⟨b, cap, cur, e, q1, q2, q3, q4, -⟩
  · refine ⟨none, 0, by rw [e, e2], by omega, by simp [maxLen], fun j hj => by omega⟩
  · subst e
    refine ⟨some ⟨b, 0, none⟩, cap, rfl, q3, q4, fun j hj => ⟨b, 0, rfl, ?_, ?_⟩⟩
    · have := World.ownsRow.cells h rfl (j * 2) _ (smC_at l j hj).1
      rw [Go.WideShapes.add_plain] at this
      exact this
    · have := World.ownsRow.cells h rfl (j * 2 + 1) _ (smC_at l j hj).2
      rw [Go.WideShapes.add_plain] at this
      rw [Nat.add_assoc]
      exact this
theorem DcJ.answer {w W : World} {g ag B : Nat} {rc : Loop} {l l2 : List SmpT} (h : DcJ w g ag rc B l l2 W) (x : Value) (q : Int) :
    ((W.setCell ⟨w.heap.size, 0, none⟩ x).setCell ⟨w.heap.size + 1, 0, none⟩ (.int .i64 q)).heap[ag + 3]? = some (.deferred (some [])) ∧ (((W.setCell ⟨w.heap.size, 0, none⟩ x).setCell ⟨w.heap.size + 1, 0, none⟩ (.int .i64 q)).putObj (ag + 3) (.deferred none)).cell? ⟨w.heap.size, 0, none⟩ = some x ∧ (((W.setCell ⟨w.heap.size, 0, none⟩ x).setCell ⟨w.heap.size + 1, 0, none⟩ (.int .i64 q)).putObj (ag + 3) (.deferred none)).cell? ⟨w.heap.size + 1, 0, none⟩ = some (.int .i64 q) ∧ w.grownBy (((W.setCell ⟨w.heap.size, 0, none⟩ x).setCell ⟨w.heap.size + 1, 0, none⟩ (.int .i64 q)).putObj (ag + 3) (.deferred none)) none ∧ Ch W (((W.setCell ⟨w.heap.size, 0, none⟩ x).setCell ⟨w.heap.size + 1, 0, none⟩ (.int .i64 q)).putObj (ag + 3) (.deferred none)) (fun k => k < ag + 5) := by
  have hp := h.place
  have c1 := set_ch W w.heap.size 0 x
  have c2 := set_ch (W.setCell ⟨w.heap.size, 0, none⟩ x) (w.heap.size + 1) 0 (.int .i64 q)
  have c3 := putRec_ch ((W.setCell ⟨w.heap.size, 0, none⟩ x).setCell ⟨w.heap.size + 1, 0, none⟩ (.int .i64 q)) (ag + 3) (.deferred none)
  have d1 := (c1.block (some_lt2 h.df) (by omega)).trans h.df
  have d2 := (c2.block (some_lt2 d1) (by omega)).trans d1
  refine ⟨d2, (bxch (bxch (h.b0.set _) c2 (by omega)) c3 (by omega)).cell, (bxch ((bxch h.b1 c1 (by omega)).set _) c3 (by omega)).cell, gb_ch (gb_ch (gb_ch h.old c1 (fun k e => by omega)) c2 (fun k e => by omega)) c3 (fun k e => by omega), ?_⟩
  exact ((c1.mono (T := fun k => k < ag + 5) (fun k _ e => by omega)).trans c2 (fun k _ e => by omega)).trans c3 (fun k _ e => by omega)
/-- append by a run that is known, inside a fence -/
theorem wpIn_appRun {F : Fence} {n : Nat} {w w' : World} {ops : Array Oper} {rest : List Oper} {o : Oper} {a : Act} {Q : Exit → Act → World → Prop} (hgd : o.guard = none) (s x : Operand) (T : TypeId)
    (ho : o.op = .call { callee := .builtin .append, args := #[s, x], argTypes := #[T, T] }) (vs vx v' : Value) (hs : a.eval s = vs) (hx : a.eval x = vx)
    (hr : (Builtin.append_ #[T, T] o.type #[vs, vx]).run Tryd.prog w = .ok v' w') (h : wpListIn F n Tryd.prog ops Q rest (a.put o.dst v') w') : wpListIn F n Tryd.prog ops Q (o :: rest) a w := by
  refine wpListIn_plain hgd fun K hK => ?_
  unfold Oper.wpIn
  refine ⟨by simp [Oper.about, ho, resolve, Target.leads, Sem.run_pure], ?_⟩
  rw [Oper.semAt_plain F _ _ (by rw [ho]; intro c hc'; cases hc')]
  simp [execOp, ho, resolve, invoke, builtin, hs, hx, hr, Result.andThen]
  exact hK _ _ h

set_option maxRecDepth 100000 in
set_option maxHeartbeats 6400000 in
theorem ckDecode_any (n : Nat) (hn : 8 ≤ n) (w : World) (v : Value) (b : List UInt8) (hv : Rd w v b) (hb : b.length < 281474976710656) (hT : Tk w) :
    CallsIn Fence.wide n Tryd.prog 23 #[v] w fun e w' => DecA b w' e ∧ w.grownBy w' none := by
  have h1 : 1 ≤ n := by omega
  have HV := hidJ (And.intro hv (And.intro hb hT))
  obtain ⟨a, c, rfl, hlc, hcm, hna, hrd⟩ := hv
  obtain ⟨N, hN⟩ : ∃ N, b.length = N := ⟨_, rfl⟩
  have HN : Hid (b.length = N) := hN
  rw [hN] at hlc hb
  rw [hN]
  clear hN hrd hna hT hb
  refine callsIn_of_wp_marks Tryd.func23 rfl trivial ?_ rfl
  simp only [Tryd.ntmps23, List.size_toArray, List.length_cons, List.length_nil, Nat.reduceAdd, Nat.reduceSub, Array.replicate_succ, Array.replicate_zero, List.push_toArray, List.append_toArray, List.nil_append, List.cons_append]
  gi_wp2_with fail
  refine ⟨trivial, ?_⟩
  gi_at_call 9
  refine (callsIn_wide.2 (ckNew_any _)).mono ?_
  rintro e w1 ⟨g, rfl, ho, hg⟩
  have H1 := hidJ (And.intro ho hg)
  clear ho hg
  gi_wp2_with fail
  refine ⟨trivial, ?_⟩
  gi_at_call 39
  refine (told_any Fence.wide (n - 1) trivial rfl a N c _ _ rfl).mono ?_
  rintro e w2 ⟨rfl, rfl⟩
  have H2 : Hid (∀ W0, W0 = ((w1.alloc (.cells #[.pointer (some ⟨g, 0, none⟩)] 23)).alloc (.cells #[.slice none 0 0] 22)).alloc (.cells #[.slice a N c] 36) → w.grownBy W0 none ∧ W0.heap.size = w1.heap.size + 3 ∧ w.heap.size + 2 ≤ w1.heap.size ∧ Boxed W0 w.heap.size 22 (.slice none 0 0) ∧ Boxed W0 (w.heap.size + 1) 28 (.int .i64 0) ∧ Boxed W0 w1.heap.size 23 (.pointer (some ⟨g, 0, none⟩)) ∧ Boxed W0 (w1.heap.size + 1) 22 (.slice none 0 0) ∧ Boxed W0 (w1.heap.size + 2) 36 (.slice a N c) ∧ CkO W0 (fun k => w.heap.size + 2 ≤ k ∧ k < w1.heap.size) g []) := by
    rintro W0 rfl
    obtain ⟨ho, hg⟩ := H1.out
    have x0 := (Boxed.new w 22 (.slice none 0 0)).alloc (.cells #[.int .i64 0] 28)
    have x1 := Boxed.new (w.alloc (.cells #[.slice none 0 0] 22)) 28 (.int .i64 0)
    have hz := hg.size
    simp only [World.size_alloc] at x1 hz ho
    have k1 := alloc_gb w1 (.cells #[.pointer (some ⟨g, 0, none⟩)] 23)
    have k2 := alloc_gb (w1.alloc (.cells #[.pointer (some ⟨g, 0, none⟩)] 23)) (.cells #[.slice none 0 0] 22)
    have k3 := alloc_gb ((w1.alloc (.cells #[.pointer (some ⟨g, 0, none⟩)] 23)).alloc (.cells #[.slice none 0 0] 22)) (.cells #[.slice a N c] 36)
    have kk := gb_none (gb_none k1 k2) k3
    have kw := gb_none (alloc_gb w (.cells #[.slice none 0 0] 22)) (alloc_gb (w.alloc (.cells #[.slice none 0 0] 22)) (.cells #[.int .i64 0] 28))
    have y1 := ((Boxed.new w1 23 (.pointer (some ⟨g, 0, none⟩))).alloc (.cells #[.slice none 0 0] 22)).alloc (.cells #[.slice a N c] 36)
    have y2 := (Boxed.new (w1.alloc (.cells #[.pointer (some ⟨g, 0, none⟩)] 23)) 22 (.slice none 0 0)).alloc (.cells #[.slice a N c] 36)
    have y3 := Boxed.new ((w1.alloc (.cells #[.pointer (some ⟨g, 0, none⟩)] 23)).alloc (.cells #[.slice none 0 0] 22)) 36 (.slice a N c)
    simp only [World.size_alloc] at y2 y3
    refine ⟨gb_none (gb_none kw hg) kk, by simp, by omega, (x0.kept hg (by simp)).kept kk (by simp), (x1.kept hg (by simp)).kept kk (by simp), y1, y2, y3, ho.keep kk⟩
  gi_wp2_with fail
  have H3 := H2.out _ rfl
  rw [show w1.heap.size + 1 + 1 = w1.heap.size + 2 from rfl]
  generalize ((w1.alloc (.cells #[.pointer (some ⟨g, 0, none⟩)] 23)).alloc (.cells #[.slice none 0 0] 22)).alloc (.cells #[.slice a N c] 36) = W0 at *
  clear H2 H1
  generalize w1.heap.size = ag at *
  have H0 := hidJ H3
  clear H3
  refine range_ex rfl h1 (gf := 65) (lb := #[.pointer (some ⟨ag + 2, 0, none⟩)]) rfl trivial (enters_of Tryd.func65 (by kernel_rfl) rfl) ?_
  intro rc hfn hrd hpe hps htm has hbo
  rw [H0.out.2.1, show ag + 3 + 1 = ag + 4 from rfl]
  have HS : Hid (w.grownBy ((W0.alloc (.deferred (some []))).alloc (.loop rc)) none ∧ ((W0.alloc (.deferred (some []))).alloc (.loop rc)).heap.size = ag + 5 ∧ ((W0.alloc (.deferred (some []))).alloc (.loop rc)).heap[ag + 3]? = some (.deferred (some [])) ∧ ((W0.alloc (.deferred (some []))).alloc (.loop rc)).heap[ag + 4]? = some (.loop rc) ∧ W0.grownBy ((W0.alloc (.deferred (some []))).alloc (.loop rc)) none) := by
    obtain ⟨q1, q2, -⟩ := H0.out
    have k1 := alloc_gb W0 (.deferred (some []))
    have k2 := alloc_gb (W0.alloc (.deferred (some []))) (.loop rc)
    have e1 := World.alloc_heap_new W0 (.deferred (some []))
    have e2 := World.alloc_heap_new (W0.alloc (.deferred (some []))) (.loop rc)
    rw [World.size_alloc] at e2
    rw [q2] at e1 e2
    exact ⟨gb_none q1 (gb_none k1 k2), by simp [q2], (k2.block _ (by simp [q2]) (by simp)).trans e1, e2, gb_none k1 k2⟩
  generalize (W0.alloc (.deferred (some []))).alloc (.loop rc) = Ws at *
  have HD : Hid (∀ B W1, Ch Ws W1 (fun _ => False) → W1.heap.size = B → DcJ w g ag rc B [] [] W1) := by
    intro B W1 hc hB
    obtain ⟨-, -, p2, p3, p4, p5, p6, -, p7⟩ := H0.out
    obtain ⟨s1, s2, s3, s4, s5⟩ := HS.out
    have hz := hc.size
    have hg1 := gb_none s5 (hc.gb (fun _ _ e => e))
    refine ⟨gb_none s1 (hc.gb (fun _ _ e => e)), by omega, p3.kept hg1 (by simp), p4.kept hg1 (by simp), p5.kept hg1 (by simp), (hc.block (some_lt2 s3) (fun e => e)).trans s3, (hc.block (some_lt2 s4) (fun e => e)).trans s4, _, .slice none 0 0, p7.keep hg1, fun k hk => ⟨by omega, .inl hk⟩, p6.kept hg1 (by simp), World.ownsRow_nil _ _ _ _, fun k hk => by simp [Value.ownBlock] at hk⟩
  have HFt : Hid (∀ B l W1, DcJ w g ag rc B l l W1 → WhyD b → YieldAt Fence.wide (n - 1 - 1) Tryd.prog (ag + 4) #[.agg #[.int .i64 0, .float .f64 0], .int .i64 3] W1 fun e W' => ∃ x, e = .returned (.bool x) ∧ (DcX w ag { rc with state := .done, pending := some .ret } W' ∧ WhyD b)) := by
    intro B l W1 hj hwhy
    refine YieldAt.mono (yield_ex (R := fun _ => False) (Rx := fun W => DcX w ag { rc with state := .done, pending := some .ret } W ∧ WhyD b) has hbo hps htm hj.rcd hrd rfl hfn ?_) ?_
    · clear has hbo hps htm
      have hsf := store_float
      have hk := hj.keep (alloc_gb W1 (.cells #[.int .i64 0, .float .f64 0] 27))
      have HK := hidJ hk.rcd
      have hB := hk.put (rc' := { rc with state := .busy })
      clear hk hj
      gi_wp2
      refine ⟨HK.out, ?_⟩
      generalize (W1.alloc (.cells #[.int .i64 0, .float .f64 0] 27)).putObj (ag + 4) (.loop { rc with state := .busy }) = Wb at *
      have hF := hB.fault (rc' := { rc with state := .done, pending := some .ret })
      have HF := hidJ hF
      have z0 := hB.b0.cell
      have z1 := hB.b0.frozen
      have z2 := hB.b1.cell
      have z3 := hB.b1.frozen
      clear hF hB HK
      have HW := hidJ hwhy
      clear hwhy hrd hpe hfn
      gi_wp2
      refine ⟨trivial, ?_⟩
      gi_wp2
      exact ⟨HF.out.1, HF.out.2, HW.out⟩
    · rintro e W' (⟨-, h⟩ | ⟨h1, h2⟩)
      · exact h.elim
      · exact ⟨false, h1, h2⟩
  refine CallsIn.mono (told1_any (n - 1) (by omega) (ag + 4) (ag + 2) w.heap.size (.slice a N c) b Ws ?cell ?rd HV.out.2.1 (HV.out.2.2.1.keep HS.out.1) (HV.out.2.2.lt.1) HS.out.1.size (fun B l W => DcJ w g ag rc B l l W) (fun W => DcX w ag { rc with state := .done, pending := some .ret } W ∧ WhyD b) ?hJ HD.out ?hY ?hE ?hE0) ?post
  case cell => exact (H0.out.2.2.2.2.2.2.2.1.kept HS.out.2.2.2.2 (by simp)).cell
  case rd =>
    have := HV.out.1.keep HS.out.1
    rw [HN.out] at this
    exact this
  case hJ =>
    intro B l W1 W2 hj hc
    rw [HS.out.2.1] at hc
    exact hj.far hc
  case hE =>
    intro B l st p W1 hj hm hB hD hx hlen h2
    exact HFt.out B l W1 hj (.inr ⟨l, st, p, hD, hlen, .inl hx⟩)
  case hE0 =>
    intro hlt
    exact HFt.out _ [] Ws (HD.out _ Ws (Ch.refl _ _) rfl) (.inl hlt)
  case hY =>
    intro B l st p T F wd p' W1 hj hm hB hD hx hF hlen h2
    rw [HS.out.2.1]
    refine YieldAt.mono (yield_ex (R := fun W' => DcJ w g ag rc B (l ++ [(T, F)]) (l ++ [(T, F)]) W' ∧ wrongN (stA startP l) T = 0 ∧ Ch W1 W' (DcF w ag B)) (Rx := fun W => DcX w ag { rc with state := .done, pending := some .ret } W ∧ WhyD b) has hbo hps htm hj.rcd hrd rfl hfn ?_) ?_
    · clear has hbo hps htm
      have hsf := store_float
      have hl120 : l.length ≤ 120 := by
        have := hD.spec
        have := this.2.2.1.most
        omega
      have hal := alloc_gb W1 (.cells #[.int .i64 T, .float .f64 F] 27)
      have hk := hj.keep hal
      have HK := hidJ hk.rcd
      have hB0 := hk.put (rc' := { rc with state := .busy })
      have hnew : ((W1.alloc (.cells #[.int .i64 T, .float .f64 F] 27)).putObj (ag + 4) (.loop { rc with state := .busy })).heap[W1.heap.size]? = some (.cells #[.int .i64 T, .float .f64 F] 27 (0, 0)) :=
        (World.putObj_heap_other (by have := some_lt2 hj.rcd; omega)).trans (Go.heap_alloc_new W1 _)
      have hcb : Ch W1 ((W1.alloc (.cells #[.int .i64 T, .float .f64 F] 27)).putObj (ag + 4) (.loop { rc with state := .busy })) (fun j => j = ag + 4) := (Ch.of_gb (S := fun j => j = ag + 4) hal (fun k hk => by cases hk)).trans (putRec_ch _ _ _) (fun _ _ e => e)
      have HAp := hidJ (hj.append hcb hB0.rcd (Nat.le_refl _) hnew HV.out.2.2 T F hF)
      have HCB := hidJ hcb
      have z0 := hB0.ba.cell
      have y0 : ((W1.alloc (.cells #[.int .i64 T, .float .f64 F] 27)).putObj (ag + 4) (.loop { rc with state := .busy })).cell? ⟨W1.heap.size, 0, none⟩ = some (.int .i64 T) := by simp only [World.cell?, hnew]; rfl
      have y1 : ((W1.alloc (.cells #[.int .i64 T, .float .f64 F] 27)).putObj (ag + 4) (.loop { rc with state := .busy })).cell? ⟨W1.heap.size, 1, none⟩ = some (.float .f64 F) := by simp only [World.cell?, hnew]; rfl
      have HX := hidJ (And.intro hD (And.intro hx (And.intro hlen (And.intro hrd hpe))))
      clear hk hB0 hnew hcb hal hj hD hx hlen h2 hm hB hrd hpe hfn hF
      gi_wp2
      refine ⟨HK.out, ?_⟩
      generalize (W1.alloc (.cells #[.int .i64 T, .float .f64 F] 27)).putObj (ag + 4) (.loop { rc with state := .busy }) = Wb at *
      generalize W1.heap.size = sb at *
      clear HK
      gi_wp2_with fail
      refine ⟨trivial, fun _ => by omega, ?_⟩
      refine (CallsIn.inRound _ (callsIn_wide.2 HAp.out)).mono ?_
      rintro e W3 ⟨rfl, hj3, hc3, hs3⟩
      obtain ⟨q, hq⟩ : ∃ q, wrongN (stA startP l) T = q := ⟨_, rfl⟩
      rw [hq] at hj3 ⊢
      have HQ := hidJ hq
      clear hq HAp
      by_cases hq0 : q = 0
      · as_aux_lemma =>
          subst hq0
          rw [if_pos rfl] at hj3
          have x0 : W3.cell? ⟨sb, 0, none⟩ = some (.int .i64 T) := by simp only [World.cell?, hs3]; rfl
          have x1 : W3.cell? ⟨sb, 1, none⟩ = some (.float .f64 F) := by simp only [World.cell?, hs3]; rfl
          obtain ⟨aL, cL, a2, c2, W4, r1, r2, r3, r4, r5, r6⟩ := hj3.row T F (by omega)
          have H5 := hidJ (And.intro r5 (And.intro r6 hc3))
          clear r5 r6 hc3 hs3 hj3
          obtain ⟨nl, hnl⟩ : ∃ nl, l.length = nl := ⟨_, rfl⟩
          rw [hnl] at r1 r2 r3 hl120
          have HNL := hidJ hnl
          clear hnl
          gi_wp2_with (gi_at_builtin; refine wpIn_appRun rfl _ _ 22 rfl _ _ _ rfl rfl r2 ?_)
          have hfin := H5.out
          rw [HNL.out] at hfin
          refine ⟨hfin.1.rcd, ?_, HQ.out, ?_⟩
          · have := hfin.1.put (rc' := { rc with state := .ready, pending := none })
            rw [ready_same HX.out.2.2.2.1 HX.out.2.2.2.2] at this ⊢
            exact this
          · have hp := hfin.1.place
            refine ((((HCB.out.mono (T := DcF w ag B) (fun k _ e => ?_)).trans hfin.2.2 (fun _ _ e => e)).trans hfin.2.1 (fun _ _ e => e)).trans (putRec_ch _ _ _) (fun k _ e => ?_))
            · unfold DcF; omega
            · have e' : k = ag + 4 := e
              unfold DcF; omega
      · as_aux_lemma =>
          have hqb : (q == 0) = false := by rw [beq_eq_false_iff_ne]; exact hq0
          have hqn : (q != 0) = true := by simp [hq0]
          have HF := hidJ (hj3.fault (rc' := { rc with state := .done, pending := some .ret }))
          have z1 := hj3.b0.cell
          have z2 := hj3.b0.frozen
          have z3 := hj3.b1.cell
          have z4 := hj3.b1.frozen
          clear hj3 hc3 hs3
          gi_wp2
          exact ⟨HF.out.1, HF.out.2, .inr ⟨l, st, p, HX.out.1, HX.out.2.2.1, .inr ⟨T, F, wd, p', HX.out.2.1, by rw [HQ.out]; exact hq0⟩⟩⟩
    · rintro e W' (⟨q1, q2, q3, q4⟩ | ⟨q1, q2⟩)
      · exact .inl ⟨q1, q2, q3, q4⟩
      · exact .inr ⟨q1, q2⟩
  case post =>
    rintro e W' ⟨⟨x, rfl⟩, hq⟩
    refine ⟨⟨x, rfl⟩, ?_⟩
    rcases hq with ⟨hx, hwhy⟩ | ⟨B, l, st, p, h2, hD, hlen, hj⟩
    · refine .inr ⟨hx.rcd, ?_⟩
      have hp := hx.place
      have k1 := putRec_ch W' (ag + 4) (.loop { rc with state := .exhausted, pending := some .ret })
      have d1 := (k1.block (some_lt2 hx.df) (by omega)).trans hx.df
      have b0 := bxch hx.b0 k1 (by omega)
      have b1 := bxch hx.b1 k1 (by omega)
      have g1 := gb_ch hx.old k1 (fun k e => by omega)
      clear has hbo hps htm hrd hpe hfn hx HFt HD
      generalize W'.putObj (ag + 4) (.loop { rc with state := .exhausted, pending := some .ret }) = W7 at *
      have k2 := putRec_ch W7 (ag + 3) (.deferred none)
      have e0 := (bxch b0 k2 (by omega)).cell
      have e1 := (bxch b1 k2 (by omega)).cell
      have g2 := gb_ch g1 k2 (fun k e => by omega)
      simp only [Exit.inBlock, Exit.then]
      refine ⟨by simp, .inl ⟨_, _, rfl, run_takeDeferred d1, ?_⟩⟩
      refine ⟨.tuple #[.slice none 0 0, .int .i64 3], ?_, .inr ⟨rfl, .inl hwhy⟩, g2⟩
      simp [results, Tryd.f23, go_sem, e0, e1]
    · refine .inl ⟨hj.rcd, ?_⟩
      have hp := hj.place
      have hj7 := hj.put (rc' := { rc with state := .exhausted })
      clear has hbo hps htm hrd hpe hfn hj HFt HD
      generalize W'.putObj (ag + 4) (.loop { rc with state := .exhausted }) = W7 at *
      have y0 := hj7.ba.cell
      obtain ⟨S, vL, c1, c2, c3, c4, c5⟩ := hj7.ck
      have HBy := hidJ (ckBytes_any W7 S g l c1)
      obtain ⟨aL, cL, rfl⟩ : ∃ a c, vL = .slice a l.length c := by
        rcases c4.2 with ⟨e, e2⟩ | ⟨b, cap, cur, e, -⟩
        · exact ⟨none, 0, by rw [e, e2]⟩
        · exact ⟨_, _, e⟩
      have HJ7 := hidJ (And.intro hj7 (And.intro c3 (And.intro c4 c1.ok)))
      have HDD := hidJ (And.intro hD (And.intro hlen h2))
      clear hj7 c1 c2 c3 c4 c5 hD hlen h2
      gi_wp2_with fail
      refine ⟨trivial, ?_⟩
      gi_at_call 16
      refine (callsIn_wide.2 HBy.out).mono ?_
      rintro e W8 ⟨v8, rfl, ho8, hg8⟩
      obtain ⟨a8, c8, rfl⟩ := ho8.shape
      have hrb := HV.out.1
      rw [HN.out] at hrb
      have HEq := hidJ (equal_any W8 _ (.slice a N c) (ckB l) b ho8.rd ((hrb.keep HJ7.out.1.old).keep hg8))
      have hj8 := HJ7.out.1.keep hg8
      have z0 := hj8.b0.cell
      have z1 := hj8.b0.frozen
      have z2 := hj8.b1.cell
      have z3 := hj8.b1.frozen
      have z4 := (HJ7.out.2.1.kept hg8 (by simp)).cell
      have H8 := hidJ (And.intro hj8 hg8)
      clear hj8 hg8 ho8 hrb HBy y0
      gi_wp2_with fail
      refine ⟨trivial, ?_⟩
      gi_at_call 40
      refine (callsIn_wide.2 HEq.out).mono ?_
      rintro e w9 ⟨rfl, h9⟩
      subst h9
      clear HEq
      by_cases hbe : ckB l = b
      · rw [decide_eq_true hbe]
        gi_wp2
        have hA := H8.out.1.answer (.slice aL l.length cL) 0
        have hrow : RdP (((w9.setCell ⟨w.heap.size, 0, none⟩ (.slice aL l.length cL)).setCell ⟨w.heap.size + 1, 0, none⟩ (.int .i64 0)).putObj (ag + 3) (.deferred none)) (.slice aL l.length cL) l := by
          have r7 := HJ7.out.2.2.1
          have hlo := World.ownsRow.lt r7
          refine RdP.of_row (B := B) (row_ch (row_ch r7 (Ch.of_gb (S := fun _ => False) H8.out.2 (fun k hk => by cases hk)) (fun _ _ e => e)) hA.2.2.2.2 (fun k hk e => ?_))
          have := (hlo k hk).1
          omega
        have HR := hidJ hrow
        clear hrow
        obtain ⟨A1, A2, A3, A4, -⟩ := hA
        refine ⟨by simp, .inl ⟨_, _, rfl, run_takeDeferred A1, ?_⟩⟩
        refine ⟨.tuple #[.slice aL l.length cL, .int .i64 0], ?_, .inl ⟨l, _, rfl, HJ7.out.2.2.2, hbe.symm, HR.out⟩, A4⟩
        simp [results, Tryd.f23, go_sem, A2, A3]
      · rw [decide_eq_false hbe]
        gi_wp2
        obtain ⟨A1, A2, A3, A4, -⟩ := H8.out.1.answer (.slice none 0 0) 3
        refine ⟨by simp, .inl ⟨_, _, rfl, run_takeDeferred A1, ?_⟩⟩
        refine ⟨.tuple #[.slice none 0 0, .int .i64 3], ?_, .inr ⟨rfl, .inr ⟨l, st, p, HDD.out.1, HDD.out.2.1, hbe⟩⟩, A4⟩
        simp [results, Tryd.f23, go_sem, A2, A3]
end Go.Proofs.YtkiefmhampfhoaaDoor
