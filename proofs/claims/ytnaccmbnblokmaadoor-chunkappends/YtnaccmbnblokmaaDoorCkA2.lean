/-
  every: what All tells, up to most: plain facts.
-/
import Derived.Test.YtnaccmbnblokmaaDoorCkA1
namespace Go.Proofs.YtnaccmbnblokmaaDoor
open Go.RowKit Go.Shelf

/-- one round that goes on, or breaks -/
theorem yield_br {F : Fence} {n l k : Nat} {P : Program} {W : World} {args : Array Value} {rc : Loop} {R Rx : World → Prop} {A B : Code} {ps : Array Tmp} {tm : Array Value} (ha : rc.assign = A) (hb : rc.body = B) (hp : rc.params = ps) (ht : rc.tmps = tm) (hl : W.heap[l]? = some (.loop rc)) (hrd : rc.state = .ready) (hps : args.size = ps.size) (hF : F.fn rc.fn)
    (h : A.wpIn (F.inRound l) n P (Exit.then (fun a₁ w₁ => w₁.heap[l]? = some (.loop rc) ∧ B.wpIn (F.inRound l) n P (fun e _ w₂ => w₂.heap[l]? = some (.loop { rc with state := .busy }) ∧ ((e = .normal ∧ R (w₂.putObj l (.loop { rc with state := .ready, pending := none }))) ∨ (e = .exit k ∧ Rx (w₂.putObj l (.loop { rc with state := .done, pending := some (.exit k) }))))) a₁ (w₁.putObj l (.loop { rc with state := .busy }))) (fun _ _ _ => False))
      { tmps := (ps.zip args).foldl (fun tmps (t, a) => tmps.setIfInBounds t a) tm, defers := [] } W) :
    YieldAt F n P l args W fun e W' => (e = .returned (.bool true) ∧ R W') ∨ (e = .returned (.bool false) ∧ Rx W') := by
  subst ha hb hp ht
  refine ⟨_, _, _, _, run_yield hl hps, roundIn_of_wpIn hF (wpIn_mono h ?_)⟩
  intro e a₁ w₁ hq
  cases e with
  | normal =>
    obtain ⟨h1, h2⟩ := hq
    refine ⟨_, run_beginRound h1 hrd, wpIn_mono h2 ?_⟩
    rintro e a₂ w₂ ⟨h3, ⟨rfl, h4⟩ | ⟨rfl, h4⟩⟩
    · exact ⟨_, _, run_endRound none h3, .inl ⟨rfl, h4⟩⟩
    · exact ⟨_, _, run_endRound (some (.exit k)) h3, .inr ⟨rfl, h4⟩⟩
  | _ => exact hq.elim
/-- the statement: the function returns, and no round has left, or one has broken -/
theorem range_br {F : Fence} {n k : Nat} {P : Program} {g : Operand} {ps : Array Tmp} {assign body : Code} {Q : Exit → Act → World → Prop} {a : Act} {w : World} (hro : F.round = none) (h1 : 1 ≤ n) {gf : Nat} {lb : Array Value} (hg : a.eval g = .func (.func gf) #[] lb) (hFg : F.fn gf) (eg : ∀ args w, (callFunc gf args).run P w = .ok (.enter gf args) w)
    (h : ∀ rc : Loop, F.fn rc.fn → rc.state = .ready → rc.pending = none → rc.params = ps → rc.tmps = a.tmps → rc.assign = assign → rc.body = body → CallsIn F (n - 1) P gf (#[.func (.yield (w.heap.size + 1)) #[] #[]] ++ lb) ((w.alloc (.deferred (some []))).alloc (.loop rc)) fun e W' =>
      (∃ v, e = .returned v) ∧ ((W'.heap[w.heap.size + 1]? = some (.loop rc) ∧ Q .normal { a with defers := { target := .collected w.heap.size, args := #[] } :: a.defers } (W'.putObj (w.heap.size + 1) (.loop { rc with state := .exhausted }))) ∨
        (W'.heap[w.heap.size + 1]? = some (.loop { rc with state := .done, pending := some (.exit k) }) ∧ Q (.exit k) { a with defers := { target := .collected w.heap.size, args := #[] } :: a.defers } (W'.putObj (w.heap.size + 1) (.loop { rc with state := .exhausted, pending := some (.exit k) }))))) :
    (Code.rangeFunc g ps assign body).wpIn F n P Q a w := by
  refine wpIn_rangeFunc ?_
  intro fn hfn
  rw [hro]
  have he := run_enterLoop_outer (P := P) (w := w) fn a.tmps ps assign body
  have hc := h (recOf fn a.tmps ps assign body w) hfn rfl rfl rfl rfl rfl rfl
  obtain ⟨W1, hW1⟩ : ∃ W1, (w.alloc (.deferred (some []))).alloc (.loop (recOf fn a.tmps ps assign body w)) = W1 := ⟨_, rfl⟩
  rw [hW1] at hc
  have hW2 := hW1
  unfold recOf at hW2
  refine ⟨w.heap.size + 1, [{ target := .collected w.heap.size, args := #[] }], W1, { target := .fn (.func gf) lb, args := #[.func (.yield (w.heap.size + 1)) #[] #[]] }, W1, gf, #[.func (.yield (w.heap.size + 1)) #[] #[]] ++ lb, W1, ?_, ?_, ?_, ?_, fun _ => h1, ?_⟩
  · rw [hW2] at he
    exact he
  · simp only [resolve, hg]
    simp [go_sem]
  · intro f' hf'
    simp [Target.leads] at hf'
    subst hf'
    exact hFg
  · simp [invoke, go_sem, eg]
  · refine CallsIn.mono hc ?_
    intro e W' hx
    obtain ⟨⟨v, hv⟩, h2⟩ := hx
    rw [hv]
    rcases h2 with ⟨h3, h4⟩ | ⟨h3, h4⟩
    · have hend := run_endLoop (P := P) h3 (by simp [recOf])
      exact ⟨none, _, hend, h4⟩
    · have hend := run_endLoop (P := P) h3 (by simp)
      exact ⟨some (.exit k), _, hend, wpIn_exit h4⟩

/-- every between two rounds -/
structure EvJ (w : World) (ag : Nat) (most : Int) (rc : Loop) (B : Nat) (l : List SmpT) (W : World) : Prop where
  old : w.grownBy W none
  place : w.heap.size + 2 ≤ ag ∧ ag + 2 ≤ B ∧ B ≤ W.heap.size
  b0 : Boxed W w.heap.size 3 (.int .i64 most)
  df : W.heap[ag]? = some (.deferred (some []))
  rcd : W.heap[ag + 1]? = some (.loop rc)
  row : ∃ vL, Boxed W (w.heap.size + 1) 22 vL ∧ W.ownsRow B 27 2 vL l.length (smC l)
section
variable {w W W' : World} {ag B : Nat} {most : Int} {rc rc' : Loop} {l : List SmpT}
theorem EvJ.far (h : EvJ w ag most rc B l W) (hc : Ch W W' (fun k => ag + 2 ≤ k ∧ k < B)) : EvJ w ag most rc B l W' := by
  have hp := h.place
  have hz := hc.size
  obtain ⟨vL, c3, c4⟩ := h.row
  refine ⟨gb_ch h.old hc (fun k e => by omega), by omega, bxch h.b0 hc (by omega), (hc.block (some_lt2 h.df) (by omega)).trans h.df, (hc.block (some_lt2 h.rcd) (by omega)).trans h.rcd, vL, bxch c3 hc (by omega), row_ch c4 hc (fun k hk e => ?_)⟩
  have := (World.ownsRow.lt c4 k hk).1
  omega
theorem EvJ.put (h : EvJ w ag most rc B l W) : EvJ w ag most rc' B l (W.putObj (ag + 1) (.loop rc')) := by
  have hp := h.place
  have hc := putRec_ch W (ag + 1) (.loop rc')
  obtain ⟨vL, c3, c4⟩ := h.row
  refine ⟨gb_ch h.old hc (fun k e => by omega), by simpa using hp, bxch h.b0 hc (by omega), (hc.block (some_lt2 h.df) (by omega)).trans h.df, World.putObj_heap_same (some_lt2 h.rcd), vL, bxch c3 hc (by omega), row_ch c4 hc (fun k hk e => ?_)⟩
  have := (World.ownsRow.lt c4 k hk).1
  omega
theorem EvJ.low {B' : Nat} (h : EvJ w ag most rc B l W) (h1 : ag + 2 ≤ B') (h2 : B' ≤ B) : EvJ w ag most rc B' l W := by
  have hp := h.place
  obtain ⟨vL, c3, c4⟩ := h.row
  refine ⟨h.old, by omega, h.b0, h.df, h.rcd, vL, c3, c4.1, ?_⟩
  rcases c4.2 with e | ⟨b, cap, cur, e, q1, q2⟩
  · exact .inl e
  · exact .inr ⟨b, cap, cur, e, by omega, q2⟩
/-- what is written in a round -/
def EvF (w : World) (B : Nat) : Nat → Prop := fun k => k = w.heap.size + 1 ∨ B ≤ k
theorem EvJ.more (T : Int) (F : Nat) (h : EvJ w ag most rc B l W) (hl : l.length ≤ 1000) :
    ∃ aL cL a2 c2 W2, W.cell? ⟨w.heap.size + 1, 0, none⟩ = some (.slice aL l.length cL) ∧ (Builtin.append_ #[22, 22] 22 #[.slice aL l.length cL, .slice (some ⟨W.heap.size, 0, none⟩) 1 1]).run Tryd.prog (W.alloc (.cells #[.int .i64 T, .float .f64 F] 27)) = .ok (.slice a2 (l.length + 1) c2) W2 ∧
      W2.cell? ⟨w.heap.size + 1, 0, none⟩ = some (.slice aL l.length cL) ∧ W2.frozen? ⟨w.heap.size + 1, 0, none⟩ = false ∧ EvJ w ag most rc B (l ++ [(T, F)]) (W2.setCell ⟨w.heap.size + 1, 0, none⟩ (.slice a2 (l.length + 1) c2)) ∧ Ch W (W2.setCell ⟨w.heap.size + 1, 0, none⟩ (.slice a2 (l.length + 1) c2)) (EvF w B) ∧ (W2.setCell ⟨w.heap.size + 1, 0, none⟩ (.slice a2 (l.length + 1) c2)).cell? ⟨w.heap.size + 1, 0, none⟩ = some (.slice a2 (l.length + 1) c2) := by
  have hp := h.place
  obtain ⟨vL, c3, c4⟩ := h.row
  obtain ⟨i0, hi, hz0, hz1, hz2⟩ := info_parts infoSm
  have hal := alloc_gb W (.cells #[.int .i64 T, .float .f64 F] 27)
  have hnew := Go.heap_alloc_new W (.cells #[.int .i64 T, .float .f64 F] 27)
  obtain ⟨v2, W2, hrun, ho, hfr⟩ := run_appG (W.alloc (.cells #[.int .i64 T, .float .f64 F] 27)) 22 22 27 i0 _ 2 16 B Tryd.underlying22 hi hz0 hz1 hz2 rfl (by decide) (by decide) vL l.length (smC l) (World.ownsRow.alloc c4 _) (some ⟨W.heap.size, 0, none⟩) 1 1 [.int .i64 T, .float .f64 F] rfl
    (fun j u hj => by
      refine ⟨_, rfl, ?_⟩
      rw [Go.WideShapes.add_plain]
      simp only [World.cell?, hnew]
      simpa using hj) (fun e => by cases e)
    (fun u hu => by
      simp only [List.mem_cons, List.not_mem_nil, or_false] at hu
      rcases hu with rfl | rfl <;> rfl) (by omega) (by simp; omega)
  obtain ⟨aL, cL, rfl⟩ : ∃ a c, vL = .slice a l.length c := by
    rcases c4.2 with ⟨e, e2⟩ | ⟨b, cap, cur, e, -⟩
    · exact ⟨none, 0, by rw [e, e2]⟩
    · exact ⟨_, _, e⟩
  obtain ⟨a2, cc, rfl⟩ : ∃ a c, v2 = .slice a (l.length + 1) c := by
    rcases ho.2 with ⟨e, e2⟩ | ⟨b, cap, cur, e, -⟩
    · omega
    · exact ⟨_, _, e⟩
  have hvL := World.ownsRow.lt c4
  have k1 : Ch W (W.alloc (.cells #[.int .i64 T, .float .f64 F] 27)) (fun k => (Value.slice aL l.length cL).ownBlock = some k) := Ch.of_gb hal (fun k hk => by cases hk)
  have k2 : Ch W W2 (fun k => (Value.slice aL l.length cL).ownBlock = some k) := k1.trans (Ch.of_gb (S := fun k => (Value.slice aL l.length cL).ownBlock = some k) hfr.1 (fun k hk _ => hk)) (fun _ _ e => e)
  have n1 : ∀ k, k < B → ¬ (Value.slice aL l.length cL).ownBlock = some k := fun k hk e => by have := (hvL k e).1; omega
  have bL := bxch c3 k2 (n1 _ (by omega))
  have k3 := set_ch W2 (w.heap.size + 1) 0 (.slice a2 (l.length + 1) cc)
  have hz2' := k2.size
  have hz3 : (W2.setCell ⟨w.heap.size + 1, 0, none⟩ (.slice a2 (l.length + 1) cc)).heap.size = W2.heap.size := by simp
  refine ⟨aL, cL, a2, cc, W2, c3.cell, hrun, bL.cell, bL.frozen, ?_, ?_, (bL.set _).cell⟩
  · have d1 := (k2.block (some_lt2 h.df) (n1 _ (by omega))).trans h.df
    have r1 := (k2.block (some_lt2 h.rcd) (n1 _ (by omega))).trans h.rcd
    refine ⟨gb_ch (gb_ch h.old k2 (fun k e => by have := (hvL k e).1; omega)) k3 (fun k e => by omega), by omega, bxch (bxch h.b0 k2 (n1 _ (by omega))) k3 (by omega), (k3.block (some_lt2 d1) (by omega)).trans d1, (k3.block (some_lt2 r1) (by omega)).trans r1, .slice a2 (l.length + 1) cc, bL.set _, ?_⟩
    have ho' : W2.ownsRow B 27 2 (.slice a2 (l.length + 1) cc) (l ++ [(T, F)]).length (smC (l ++ [(T, F)])) := by
      rw [smC_snoc]
      simpa using ho
    refine row_ch ho' k3 (fun k hk e => ?_)
    have := (World.ownsRow.lt ho' k hk).1
    omega
  · refine (k2.mono (T := EvF w B) (fun k _ e => ?_)).trans k3 (fun k _ e => ?_)
    · have := (hvL k e).1
      unfold EvF
      omega
    · have e' : k = w.heap.size + 1 := e
      unfold EvF
      omega
end
theorem ckAll_any (w : World) (S : Nat → Prop) (g : Nat) (m : List SmpT) (h : CkO w S g m) : Calls Tryd.prog 34 #[.pointer (some ⟨g, 0, none⟩)] w fun e w' => ∃ Bn v, e = .returned (.func (.func 58) #[] #[.pointer (some ⟨Bn, 0, none⟩)]) ∧ w'.cell? ⟨Bn, 0, none⟩ = some v ∧ Rd w' v (ckB m) ∧ w.grownBy w' none := by
  have HB := hidJ (ckBytes_any w S g m h)
  clear h
  go_enter Tryd.func34, Tryd.ntmps34
  go_wp2_with fail
  refine HB.out.mono ?_
  rintro e w1 ⟨v, rfl, ho, hg⟩
  obtain ⟨a, c, rfl⟩ := ho.shape
  have HO := hidJ (And.intro ho hg)
  clear ho hg HB
  go_wp2
  go_ret
  exact ⟨_, _, rfl, (Boxed.new w1 _ _).cell, HO.out.1.rd.keep (alloc_gb _ _), gb_none HO.out.2 (alloc_gb _ _)⟩
end Go.Proofs.YtnaccmbnblokmaaDoor
