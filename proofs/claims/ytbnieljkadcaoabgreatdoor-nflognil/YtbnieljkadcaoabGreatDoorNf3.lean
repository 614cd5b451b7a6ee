/-
  slices.AppendSeq, slices.Collect of label sets: the walks.
-/
import Derived.Test.YtbnieljkadcaoabGreatDoorNf2
namespace Go.Proofs.YtbnieljkadcaoabGreatDoor
open Go.RowKit Go.Shelf Go.Sort

attribute [local go_sem] Oper.semAt_some

set_option maxRecDepth 100000 in
set_option maxHeartbeats 6400000 in
theorem appSeq_in (n : Nat) (hn : 8 ≤ n) (w : World) (c : Nat) (v : Value) (vs : List Value) (hc : w.cell? ⟨c, 0, none⟩ = some v) (hrow : RdV w v vs) (hone : ∀ u ∈ vs, ∃ a n c, u = .slice a n c) (hl : vs.length ≤ 6000000000000) :
    CallsIn Fence.wide n Tryz.prog 118 #[.slice none 0 0, .func (.func 115) #[] #[.pointer (some ⟨c, 0, none⟩)]] w fun e w' => ∃ v', e = .returned v' ∧ OwnVs w' w.heap.size v' vs ∧ w.grownBy w' none := by
  have h1 : 1 ≤ n := by omega
  have HV := hidJ (And.intro hc (And.intro hrow (And.intro hone hl)))
  clear hc hrow hone hl
  refine callsIn_of_wp_marks Tryz.func118 rfl trivial ?_ rfl
  simp only [Tryz.ntmps118, List.size_toArray, List.length_cons, List.length_nil, Nat.reduceAdd, Nat.reduceSub, Array.replicate_succ, Array.replicate_zero, List.push_toArray, List.append_toArray, List.nil_append, List.cons_append]
  gi_wp2_with fail
  have HB0 := hidJ (Boxed.new w 22 (.slice none 0 0))
  have HG0 := hidJ (World.grownBy_alloc w (.cells #[.slice none 0 0] 22) none)
  have HZ0 : Hid ((w.alloc (.cells #[.slice none 0 0] 22)).heap.size = w.heap.size + 1) := by show _ = _; simp
  generalize w.alloc (.cells #[.slice none 0 0] 22) = W0 at *
  refine range_br (k := 0) rfl h1 (gf := 115) (lb := #[.pointer (some ⟨c, 0, none⟩)]) rfl trivial (enters_of Tryz.func115 (by kernel_rfl) rfl) ?_
  intro rc hfn hrd hpe hps htm has hbo
  rw [HZ0.out]
  have HS : Hid (((W0.alloc (.deferred (some []))).alloc (.loop rc)).heap.size = w.heap.size + 3 ∧ ((W0.alloc (.deferred (some []))).alloc (.loop rc)).heap[w.heap.size + 1]? = some (.deferred (some [])) ∧ ((W0.alloc (.deferred (some []))).alloc (.loop rc)).heap[w.heap.size + 2]? = some (.loop rc) ∧ W0.grownBy ((W0.alloc (.deferred (some []))).alloc (.loop rc)) none) := by
    have q2 := HZ0.out
    have k1 := World.grownBy_alloc W0 (.deferred (some [])) none
    have k2 := World.grownBy_alloc (W0.alloc (.deferred (some []))) (.loop rc) none
    have e1 := World.alloc_heap_new W0 (.deferred (some []))
    have e2 := World.alloc_heap_new (W0.alloc (.deferred (some []))) (.loop rc)
    rw [World.size_alloc] at e2
    rw [q2] at e1 e2
    exact ⟨by simp [q2], (k2.block _ (by simp [q2]) (by simp)).trans e1, e2, gb_none k1 k2⟩
  generalize (W0.alloc (.deferred (some []))).alloc (.loop rc) = Ws at *
  obtain ⟨s1, s2, s3, s4⟩ := HS.out
  have gWs : w.grownBy Ws none := gb_none HG0.out s4
  obtain ⟨p1, p2, p3, p4⟩ := HV.out
  have hvlt : ∀ k, v.ownBlock = some k → k < w.heap.size ∨ vs = [] := fun k hk => by
    obtain ⟨a, cc, rfl, q1, q2, q3, q4⟩ := p2
    cases vs with
    | nil => exact .inr rfl
    | cons x r =>
      obtain ⟨b, o, rfl, d⟩ := q3 0 (by simp)
      simp only [Value.ownBlock, Option.some.injEq] at hk
      subst hk
      exact .inl (block_lt d)
  refine CallsIn.mono (val1_any (n - 1) (by omega) (w.heap.size + 2) c v vs Ws (fun k => vs ≠ [] ∧ (k = w.heap.size ∨ k = w.heap.size + 2)) ?cell ?row p3 ?hT (fun l W' => SqJ w rc l W') (fun _ => False) ?h0 ?hY) ?post
  case cell => exact (World.cell?_of_block (gWs.block c (block_lt p1) (by simp))).trans p1
  case row => exact p2.keep gWs
  case hT =>
    rintro k hk ⟨hne, e⟩
    rcases hvlt k hk with h | h
    · omega
    · exact hne h
  case h0 => exact ⟨gWs, by omega, s2, s3, ⟨_, HB0.out.kept s4 (by simp), OwnVs.nil _ _⟩⟩
  case hY =>
    intro z Wr hz hj hsz
    have hne : vs ≠ [] := fun e => by rw [e] at hz; simp at hz
    obtain ⟨ua, un, uc, hu⟩ : ∃ a n c, vs.getD z nilV = .slice a n c := p3 _ (by simp [List.getD, hz])
    have htk : vs.take (z + 1) = vs.take z ++ [.slice ua un uc] := by
      rw [List.take_succ_eq_append_getElem hz]
      have : vs.getD z nilV = vs[z] := by simp [List.getD, hz]
      rw [← this, hu]
    rw [hu, s1]
    refine YieldAt.mono (yield_br (k := 0) (R := fun W' => SqJ w rc (vs.take (z + 1)) W' ∧ Ch Wr W' (fun k => (k = w.heap.size ∨ k = w.heap.size + 2) ∨ w.heap.size + 3 ≤ k)) (Rx := fun _ => False) has hbo hps htm hj.rcd hrd rfl hfn ?_) ?_
    · clear has hbo hps htm
      have hB0 := hj.put (rc' := { rc with state := .busy })
      have hcb := putRec_ch Wr (w.heap.size + 2) (.loop { rc with state := .busy })
      have HRC := hidJ hj.rcd
      have HCB := hidJ hcb
      have hlen : (vs.take z).length ≤ 6000000000000 := by rw [List.length_take]; omega
      obtain ⟨aL, cL, a2, c2, W4, r1, r2, r3, r4, r5, r6, r7⟩ := hB0.more (.slice ua un uc) hlen rfl
      have HX := hidJ (And.intro hrd (And.intro hpe htk))
      have H5 := hidJ (And.intro r5 r6)
      clear hB0 hcb hj hrd hpe hfn r5 r6 hlen htk
      obtain ⟨nl, hnl⟩ : ∃ nl, (vs.take z).length = nl := ⟨_, rfl⟩
      rw [hnl] at r1 r2 r3 r7
      have HNL := hidJ hnl
      clear hnl
      gi_wp2
      refine ⟨HRC.out, ?_⟩
      generalize Wr.putObj (w.heap.size + 2) (.loop { rc with state := .busy }) = Wb at *
      clear HRC
      gi_wp2_with (gi_at_builtin; refine wpIn_appRun rfl _ _ 22 rfl _ _ _ rfl rfl r2 ?_)
      have hfin := H5.out
      rw [HNL.out] at hfin
      have hp := hfin.1.place
      refine ⟨hfin.1.rcd, ?_, ?_⟩
      · have := hfin.1.put (rc' := { rc with state := .ready, pending := none })
        rw [ready_same HX.out.1 HX.out.2.1] at this ⊢
        rw [HX.out.2.2]
        exact this
      · refine ((HCB.out.mono (T := fun k => (k = w.heap.size ∨ k = w.heap.size + 2) ∨ w.heap.size + 3 ≤ k) (fun k _ e => by omega)).trans hfin.2 (fun k _ e => by unfold SqF at e; omega)).trans (putRec_ch _ _ _) (fun k _ e => by omega)
    · rintro e W' (⟨q1, q2, q4⟩ | ⟨q1, q2⟩)
      · exact ⟨.inl ⟨q1, q2⟩, q4.mono (fun k _ e => by rcases e with e | e; exact .inl ⟨hne, e⟩; exact .inr e)⟩
      · exact q2.elim
  case post =>
    rintro e W' ⟨⟨x, rfl⟩, hq⟩
    refine ⟨⟨x, rfl⟩, ?_⟩
    rcases hq with hj | hq
    · refine .inl ⟨hj.rcd, ?_⟩
      have hj7 := hj.put (rc' := { rc with state := .exhausted })
      clear has hbo hps htm hrd hpe hfn hj
      generalize W'.putObj (w.heap.size + 2) (.loop { rc with state := .exhausted }) = W7 at *
      obtain ⟨d1, a', n', c', z0, z1, z2⟩ := hj7.fin
      have HZ := hidJ (And.intro d1 (And.intro z1 z2))
      clear d1 z1 z2 hj7
      gi_wp2
      refine ⟨by simp, .inl ⟨_, _, rfl, run_takeDeferred HZ.out.1, ?_⟩⟩
      refine ⟨_, results_tmp rfl _ _ _, ?_⟩
      exact ⟨.slice a' n' c', rfl, HZ.out.2.1.mono (by omega), HZ.out.2.2⟩
    · exact hq.elim
theorem appSeq_any (w : World) (c : Nat) (v : Value) (vs : List Value) (hc : w.cell? ⟨c, 0, none⟩ = some v) (hrow : RdV w v vs) (hone : ∀ u ∈ vs, ∃ a n c, u = .slice a n c) (hl : vs.length ≤ 6000000000000) :
    Calls Tryz.prog 118 #[.slice none 0 0, .func (.func 115) #[] #[.pointer (some ⟨c, 0, none⟩)]] w fun e w' => ∃ v', e = .returned v' ∧ OwnVs w' w.heap.size v' vs ∧ w.grownBy w' none := callsIn_wide.1 (appSeq_in 8 (by omega) w c v vs hc hrow hone hl)
set_option maxHeartbeats 1600000 in
theorem collect_any (w : World) (c : Nat) (v : Value) (vs : List Value) (hc : w.cell? ⟨c, 0, none⟩ = some v) (hrow : RdV w v vs) (hone : ∀ u ∈ vs, ∃ a n c, u = .slice a n c) (hl : vs.length ≤ 6000000000000) :
    Calls Tryz.prog 113 #[.func (.func 115) #[] #[.pointer (some ⟨c, 0, none⟩)]] w fun e w' => ∃ v', e = .returned v' ∧ OwnVs w' w.heap.size v' vs ∧ w.grownBy w' none := by
  have HA := hidJ (appSeq_any w c v vs hc hrow hone hl)
  clear hc hrow hone hl
  go_enter Tryz.func113, Tryz.ntmps113
  go_wp2_with fail
  refine HA.out.mono ?_
  rintro e w1 ⟨v', rfl, H1⟩
  have H1 := hidJ H1
  obtain ⟨a', c', rfl⟩ := H1.out.1.shape
  clear HA
  go_wp2
  go_ret
  exact ⟨_, rfl, H1.out⟩
end Go.Proofs.YtbnieljkadcaoabGreatDoor
