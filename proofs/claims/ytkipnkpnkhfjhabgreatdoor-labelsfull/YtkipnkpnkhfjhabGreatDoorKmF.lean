/-
  LbKa, LbKb, LbKc, LbKe, LbKf, LbKd, in one text.
-/
import Derived.Test.YtkipnkpnkhfjhabGreatDoorKmE
import Derived.RangeFuncNested
import Derived.RangeFuncBound
import Derived.RangeFuncCalls
import Derived.RangeFuncLeaves
import Derived.Shelf.Abstract
import Derived.OwnWalkIn
import Derived.TacticsInMore
import Derived.LoopNIn
import Derived.LoopIn
import Derived.Sort.QuietIn
import Derived.Laws.Rows
/- LbKa -/
namespace Go.Proofs.YtkipnkpnkhfjhabGreatDoor
open Go.RowKit Go.Shelf

/-- one round that goes on -/
theorem yield_on {F : Fence} {n l : Nat} {P : Program} {W : World} {args : Array Value} {rc : Loop} {R : World → Prop} (hl : W.heap[l]? = some (.loop rc)) (hrd : rc.state = .ready) (hps : args.size = rc.params.size) (hF : F.fn rc.fn)
    (h : rc.assign.wpIn (F.inRound l) n P (Exit.then (fun a₁ w₁ => w₁.heap[l]? = some (.loop rc) ∧ rc.body.wpIn (F.inRound l) n P (fun e _ w₂ => e = .normal ∧ w₂.heap[l]? = some (.loop { rc with state := .busy }) ∧ R (w₂.putObj l (.loop { rc with state := .ready, pending := none }))) a₁ (w₁.putObj l (.loop { rc with state := .busy }))) (fun _ _ _ => False))
      { tmps := (rc.params.zip args).foldl (fun tmps (t, a) => tmps.setIfInBounds t a) rc.tmps, defers := [] } W) :
    YieldAt F n P l args W fun e W' => e = .returned (.bool true) ∧ R W' := by
  refine ⟨_, _, _, _, run_yield hl hps, roundIn_of_wpIn hF (wpIn_mono h ?_)⟩
  intro e a₁ w₁ hq
  cases e with
  | normal =>
    obtain ⟨h1, h2⟩ := hq
    refine ⟨_, run_beginRound h1 hrd, wpIn_mono h2 ?_⟩
    rintro e a₂ w₂ ⟨rfl, h3, h4⟩
    exact ⟨_, _, run_endRound none h3, rfl, h4⟩
  | _ => exact hq.elim

/-- the record of a range that begins in w -/
def recOf (fn : FuncId) (tmps : Array Value) (ps : Array Tmp) (assign body : Code) (w : World) : Loop := { state := .ready, pending := none, fn, tmps, params := ps, assign, body, defers := w.heap.size }
/-- the statement, where the function that is ranged over returns and no round has left -/
theorem range_on {F : Fence} {n : Nat} {P : Program} {g : Operand} {ps : Array Tmp} {assign body : Code} {Q : Exit → Act → World → Prop} {a : Act} {w : World} (hro : F.round = none) (h1 : 1 ≤ n) {gf : Nat} {lb : Array Value} (hg : a.eval g = .func (.func gf) #[] lb) (hFg : F.fn gf) (eg : ∀ args w, (callFunc gf args).run P w = .ok (.enter gf args) w)
    (h : ∀ fn, F.fn fn → CallsIn F (n - 1) P gf (#[.func (.yield (w.heap.size + 1)) #[] #[]] ++ lb) ((w.alloc (.deferred (some []))).alloc (.loop (recOf fn a.tmps ps assign body w))) fun e W' =>
      (∃ v, e = .returned v) ∧ W'.heap[w.heap.size + 1]? = some (.loop (recOf fn a.tmps ps assign body w)) ∧ Q .normal { a with defers := { target := .collected w.heap.size, args := #[] } :: a.defers } (W'.putObj (w.heap.size + 1) (.loop { recOf fn a.tmps ps assign body w with state := .exhausted }))) :
    (Code.rangeFunc g ps assign body).wpIn F n P Q a w := by
  refine wpIn_rangeFunc ?_
  intro fn hfn
  rw [hro]
  have he := run_enterLoop_outer (P := P) (w := w) fn a.tmps ps assign body
  have hc := h fn hfn
  obtain ⟨W1, hW1⟩ : ∃ W1, (w.alloc (.deferred (some []))).alloc (.loop (recOf fn a.tmps ps assign body w)) = W1 := ⟨_, rfl⟩
  rw [hW1] at hc
  have hW2 := hW1
  unfold recOf at hW2
  refine ⟨w.heap.size + 1, [{ target := .collected w.heap.size, args := #[] }], W1, { target := .fn (.func gf) lb, args := #[.func (.yield (w.heap.size + 1)) #[] #[]] }, W1, gf, #[.func (.yield (w.heap.size + 1)) #[] #[]] ++ lb, W1, ?_, ?_, ?_, ?_, fun _ => h1, ?_⟩
  · rw [hW2] at he
    exact he
  · simp only [resolve, hg]
    simp [go_sem]
  · intro f' hf'
    simp [Target.leads] at hf'
    subst hf'
    exact hFg
  · simp [invoke, go_sem, eg]
  · refine CallsIn.mono hc ?_
    intro e W' hx
    obtain ⟨⟨v, hv⟩, h2, h3⟩ := hx
    rw [hv]
    have hend := run_endLoop (P := P) h2 (by simp [recOf])
    exact ⟨none, _, hend, h3⟩
end Go.Proofs.YtkipnkpnkhfjhabGreatDoor

/- LbKb -/
namespace Go.Proofs.YtkipnkpnkhfjhabGreatDoor
open Go.RowKit Go.Shelf

attribute [local go_sem] Oper.semAt_some

set_option maxRecDepth 8000 in
set_option maxHeartbeats 3200000 in
theorem prjAll_any (w : World) (S : Nat → Prop) (gx last : Nat) (rs : List IdR) (h : PrjOK w S gx rs last) :
    Calls Tryz.prog 23 #[.pointer (some ⟨gx, 0, none⟩)] w fun e w' => ∃ Bn g1 c1 g2 c2, e = .returned (.func (.func 38) #[] #[.pointer (some ⟨Bn, 0, none⟩), .pointer (some ⟨Bn + 1, 0, none⟩)]) ∧ w.heap.size ≤ Bn ∧ Boxed w' Bn 71 (.slice (some ⟨g1, 0, none⟩) rs.length c1) ∧ Boxed w' (Bn + 1) 76 (.slice (some ⟨g2, 0, none⟩) rs.length c2) ∧
      OwnN w' w.heap.size (.slice (some ⟨g1, 0, none⟩) rs.length c1) (numsI rs) ∧ OwnV w' w.heap.size (.slice (some ⟨g2, 0, none⟩) rs.length c2) (valsI rs) ∧ w.grownBy w' none := by
  have HR := hidJ (prjRising_any w S gx last rs h)
  clear h
  go_enter Tryz.func23, Tryz.ntmps23
  go_wp2_with fail
  refine HR.out.mono ?_
  rintro e w1 ⟨g1, c1, g2, c2, rfl, ho1, ho2, hg1⟩
  have H1 := hidJ (And.intro ho1 (And.intro ho2 hg1))
  clear ho1 ho2 hg1 HR
  go_wp2
  go_ret
  obtain ⟨q1, q2, q3⟩ := H1.out
  have k1 := World.grownBy_alloc w1 (.cells #[.slice (some ⟨g1, 0, none⟩) rs.length c1] 71) none
  have k2 := World.grownBy_alloc (w1.alloc (.cells #[.slice (some ⟨g1, 0, none⟩) rs.length c1] 71)) (.cells #[.slice (some ⟨g2, 0, none⟩) rs.length c2] 76) none
  have bx := (Boxed.new w1 71 (.slice (some ⟨g1, 0, none⟩) rs.length c1)).alloc (.cells #[.slice (some ⟨g2, 0, none⟩) rs.length c2] 76)
  have by' := Boxed.new (w1.alloc (.cells #[.slice (some ⟨g1, 0, none⟩) rs.length c1] 71)) 76 (.slice (some ⟨g2, 0, none⟩) rs.length c2)
  rw [World.size_alloc] at by'
  exact ⟨w1.heap.size, g1, c1, g2, c2, rfl, q3.size, bx, by', q1.keep (gb_none k1 k2), q2.keep (gb_none k1 k2), gb_none q3 (gb_none k1 k2)⟩

set_option maxRecDepth 100000 in
set_option maxHeartbeats 3200000 in
theorem all1_on (n : Nat) (hn1 : 1 ≤ n) (l Bn Bm g1 c1 g2 c2 : Nat) (rs : List IdR) (J : Nat → World → Prop) (W : World) (hlen : ∀ r ∈ rs, r.lbs.length ≤ 16) (hmost : rs.length ≤ 1000)
    (hJr : ∀ k W, J k W → W.cell? ⟨Bn, 0, none⟩ = some (.slice (some ⟨g1, 0, none⟩) rs.length c1) ∧ W.cell? ⟨Bm, 0, none⟩ = some (.slice (some ⟨g2, 0, none⟩) rs.length c2) ∧ ∀ j, j < rs.length → W.cell? ⟨g1, j, none⟩ = some (.int .i64 ((rs.getD j idZ).num : Int)) ∧ W.cell? ⟨g2, j, none⟩ = some (rs.getD j idZ).val ∧ RdL W (rs.getD j idZ).val (rs.getD j idZ).lbs)
    (hY : ∀ k W W1 b, k < rs.length → J k W → W.grownBy W1 none → OwnL W1 W.heap.size (.slice (some ⟨b, 0, none⟩) (rs.getD k idZ).lbs.length (rs.getD k idZ).lbs.length) (rs.getD k idZ).lbs → YieldAt Fence.wide (n - 1) Tryz.prog l #[.int .i64 ((rs.getD k idZ).num : Int), .slice (some ⟨b, 0, none⟩) (rs.getD k idZ).lbs.length (rs.getD k idZ).lbs.length] W1 fun e W' => e = .returned (.bool true) ∧ J (k + 1) W')
    (h0 : J 0 W) :
    CallsIn Fence.wide n Tryz.prog 38 (#[.func (.yield l) #[] #[]] ++ #[.pointer (some ⟨Bn, 0, none⟩), .pointer (some ⟨Bm, 0, none⟩)]) W fun e W' => (∃ v, e = .returned v) ∧ J rs.length W' := by
  have HJ := hidJ hJr
  have HY := hidJ hY
  have HL := hidJ hlen
  obtain ⟨N, hN⟩ : ∃ N, N = rs.length := ⟨_, rfl⟩
  have HN : Hid (rs.length = N) := hN.symm
  have h0' := hidJ h0
  have cn := (hJr 0 W h0).1
  rw [← hN] at cn
  rw [← hN] at hmost
  rw [← hN]
  clear hlen hJr hY h0 hN
  refine callsIn_of_wp Tryz.func38 rfl trivial ?_ rfl
  simp only [Tryz.ntmps38, List.size_toArray, List.length_cons, List.length_nil, Nat.reduceAdd, Nat.reduceSub, Array.replicate_succ, Array.replicate_zero, List.push_toArray, List.append_toArray, List.nil_append, List.cons_append]
  gi_wp2
  gi_loopw [8] (fun i wr => ∃ z : Nat, z ≤ N ∧ i = .int .i64 z ∧ Hid (J z wr)) (fun i _ => N - (intOf i).toNat)
  case atStart => exact ⟨0, by omega, rfl, h0'⟩
  case round =>
    obtain ⟨z, hzN, rfl, hj⟩ := hrel
    by_cases hzl : z < N
    · have hzi : (z : Int) < (N : Int) := by omega
      have hzr : z < rs.length := by rw [HN.out]; exact hzl
      obtain ⟨-, cm, hc⟩ := HJ.out z wr hj.out
      obtain ⟨d1, d2, d3⟩ := hc z hzr
      rw [HN.out] at cm
      have hln := HL.out _ (getI_mem hzr)
      have HCP : Hid (Calls Tryz.prog 36 #[(rs.getD z idZ).val] wr fun e w1 => ∃ b, e = .returned (.slice (some ⟨b, 0, none⟩) (rs.getD z idZ).lbs.length (rs.getD z idZ).lbs.length) ∧ YieldAt Fence.wide (n - 1) Tryz.prog l #[.int .i64 ((rs.getD z idZ).num : Int), .slice (some ⟨b, 0, none⟩) (rs.getD z idZ).lbs.length (rs.getD z idZ).lbs.length] w1 fun e W' => e = .returned (.bool true) ∧ J (z + 1) W') :=
        (copyOf_any wr _ _ d3 (by omega)).mono fun e w1 ⟨q1, q2, q3⟩ => ⟨wr.heap.size, q1, HY.out z wr w1 wr.heap.size hzr hj.out q3 (copy_own q2 (by omega))⟩
      obtain ⟨va, vc, hval⟩ : ∃ a c, (rs.getD z idZ).val = .slice a (rs.getD z idZ).lbs.length c := by obtain ⟨a, c, h, _⟩ := d3; exact ⟨a, c, h⟩
      rw [hval] at d2 HCP
      clear d3 hc hval hln HJ HY HL h0' hzr
      generalize (rs.getD z idZ).num = m at *
      generalize (rs.getD z idZ).lbs.length = nl at *
      gi_wp2_with (refine ⟨trivial, ?_⟩; gi_at_call 36; refine (callsIn_wide.2 HCP.out).mono ?_; rintro e w1 ⟨b, rfl, fn, tmps, assign, body, hy, hR⟩)
      gi_wp2
      refine hR.mono ?_
      rintro e W3 ⟨rfl, hJ3⟩
      have HJ3 := hidJ hJ3
      clear hJ3
      gi_wp2
      go_roundw
      case rel => exact ⟨z + 1, by omega, by simp, HJ3⟩
      case measure => simp [intOf]; omega
    · have hzi : ¬ (z : Int) < (N : Int) := by omega
      have hze : z = N := by omega
      subst hze
      gi_wp2
      first
      | (refine bodyPost_ret (results_none rfl _ _ _) rfl ?_
         exact ⟨⟨_, rfl⟩, hj.out⟩)
      | (go_end0; exact ⟨⟨_, rfl⟩, hj.out⟩)
end Go.Proofs.YtkipnkpnkhfjhabGreatDoor

/- LbKc -/
namespace Go.Proofs.YtkipnkpnkhfjhabGreatDoor
open Go.RowKit Go.Shelf

set_option maxRecDepth 8000 in
set_option maxHeartbeats 3200000 in
theorem sameQ (w : World) (v u : Value) (ls : List LbT) (hv : RdL w v ls) (hu : RdL w u ls) :
    Calls Tryz.prog 22 #[v, u] w fun e w' => e = .returned (.bool true) ∧ ∃ m, w' = w.drewN m := by
  have HV : Hid (RdL w v ls ∧ RdL w u ls) := ⟨hv, hu⟩
  obtain ⟨a, c, rfl, hc1, hc2, -, -⟩ := hv
  obtain ⟨b, d, rfl, hd1, hd2, -, -⟩ := hu
  unfold maxLen at hc2 hd2
  go_enter Tryz.func22, Tryz.ntmps22
  go_wp2
  go_loopw [13] (fun i wr => ∃ z : Nat, z ≤ ls.length ∧ i = .int .i64 z ∧ Hid (∃ m, wr = w.drewN m)) (fun i _ => ls.length - (intOf i).toNat)
  case atStart => exact ⟨0, by omega, rfl, 0, rfl⟩
  case round =>
    obtain ⟨z, hzN, rfl, hr⟩ := hrel
    obtain ⟨m, hm⟩ := hr.out
    have HG : Hid (wr = w.drewN m) := hm
    have hgb : w.grownBy wr none := by rw [hm]; exact ⟨rfl, rfl, rfl, Nat.le_refl _, fun _ _ _ => rfl⟩
    clear hr hm
    by_cases hzl : z < ls.length
    · obtain ⟨a', c', he, -, -, h3, -⟩ := HV.out.1.keep hgb
      simp only [Value.slice.injEq] at he
      obtain ⟨rfl, -, rfl⟩ := he
      obtain ⟨b1, o1, rfl, c0, c1⟩ := h3 z hzl
      obtain ⟨a2, c2, he2, -, -, h4, -⟩ := HV.out.2.keep hgb
      simp only [Value.slice.injEq] at he2
      obtain ⟨rfl, -, rfl⟩ := he2
      obtain ⟨b2, o2, rfl, d0, d1⟩ := h4 z hzl
      clear h3 h4 hgb
      have hzi : (z : Int) < (ls.length : Int) := by omega
      generalize ByteArray.mk ⟨(ls.getD z ([], [])).1⟩ = sn at *
      generalize ByteArray.mk ⟨(ls.getD z ([], [])).2⟩ = sv at *
      have q1 : (sn.toList == sn.toList) = true := by simp
      have q2 : (sv.toList == sv.toList) = true := by simp
      go_wp2_with fail
      go_region
      go_wp2
      go_roundw
      case rel => exact ⟨z + 1, by omega, by go_num, m + 1, by rw [HG.out]; rfl⟩
      case measure => simp [intOf]; omega
    · have hzi : ¬ (z : Int) < (ls.length : Int) := by omega
      clear hgb
      go_wp2
      go_ret
      exact ⟨rfl, m, HG.out⟩
theorem gb_drewN (w : World) (m : Nat) : w.grownBy (w.drewN m) none := ⟨rfl, rfl, rfl, Nat.le_refl _, fun _ _ _ => rfl⟩
theorem gb_put (w : World) (l : Nat) (o : Obj) : w.grownBy (w.putObj l o) (some l) := grownBy_putObj' w l o
end Go.Proofs.YtkipnkpnkhfjhabGreatDoor

/- LbKe -/
namespace Go.Proofs.YtkipnkpnkhfjhabGreatDoor
open Go.RowKit Go.Shelf

/-- the statement, the record a name -/
theorem range_rc {F : Fence} {n : Nat} {P : Program} {g : Operand} {ps : Array Tmp} {assign body : Code} {Q : Exit → Act → World → Prop} {a : Act} {w : World} (hro : F.round = none) (h1 : 1 ≤ n) {gf : Nat} {lb : Array Value} (hg : a.eval g = .func (.func gf) #[] lb) (hFg : F.fn gf) (eg : ∀ args w, (callFunc gf args).run P w = .ok (.enter gf args) w)
    (h : ∀ rc : Loop, F.fn rc.fn → rc.state = .ready → rc.pending = none → rc.params = ps → rc.tmps = a.tmps → rc.assign = assign → rc.body = body → CallsIn F (n - 1) P gf (#[.func (.yield (w.heap.size + 1)) #[] #[]] ++ lb) ((w.alloc (.deferred (some []))).alloc (.loop rc)) fun e W' =>
      (∃ v, e = .returned v) ∧ W'.heap[w.heap.size + 1]? = some (.loop rc) ∧ Q .normal { a with defers := { target := .collected w.heap.size, args := #[] } :: a.defers } (W'.putObj (w.heap.size + 1) (.loop { rc with state := .exhausted }))) :
    (Code.rangeFunc g ps assign body).wpIn F n P Q a w :=
  range_on hro h1 hg hFg eg (fun fn hfn => h (recOf fn a.tmps ps assign body w) hfn rfl rfl rfl rfl rfl rfl)
/-- between two rounds -/
def JT (W6 : World) (b4 : Nat) (rc : Loop) (k : Nat) (W : World) : Prop := Ch W6 W (fun j => j = b4) ∧ Boxed W b4 3 (.int .i64 (k : Int)) ∧ W.heap[W6.heap.size]? = some (.deferred (some [])) ∧ W.heap[W6.heap.size + 1]? = some (.loop rc)
theorem JT.start (W6 : World) (b4 : Nat) (rc : Loop) (h : Boxed W6 b4 3 (.int .i64 0)) : JT W6 b4 rc 0 ((W6.alloc (.deferred (some []))).alloc (.loop rc)) := by
  have e1 := World.alloc_heap_new W6 (.deferred (some []))
  have e2 := World.alloc_heap_new (W6.alloc (.deferred (some []))) (.loop rc)
  rw [World.size_alloc] at e2
  have g1 := World.grownBy_alloc W6 (.deferred (some [])) none
  have g2 := World.grownBy_alloc (W6.alloc (.deferred (some []))) (.loop rc) none
  exact ⟨Ch.of_gb (gb_none g1 g2) (fun k hk => by cases hk), (h.alloc _).alloc _, (g2.block _ (by simp) (by simp)).trans e1, e2⟩
theorem JT.keep {W6 W W1 : World} {b4 k : Nat} {rc : Loop} (h : JT W6 b4 rc k W) (hg : W.grownBy W1 none) : JT W6 b4 rc k W1 :=
  ⟨Ch.trans h.1 (Ch.of_gb (S := fun j => j = b4) hg (fun k hk => by cases hk)) (fun _ _ h => h), h.2.1.kept hg (by simp), (hg.block _ (some_lt h.2.2.1) (by simp)).trans h.2.2.1, (hg.block _ (some_lt h.2.2.2) (by simp)).trans h.2.2.2⟩
theorem JT.cell {W6 W : World} {b4 k : Nat} {rc : Loop} (h : JT W6 b4 rc k W) {g j : Nat} {u : Value} (hne : g ≠ b4) (hc : W6.cell? ⟨g, j, none⟩ = some u) : W.cell? ⟨g, j, none⟩ = some u :=
  (World.cell?_of_block (h.1.block (block_lt hc) hne)).trans hc
theorem JT.rd {W6 W : World} {b4 k : Nat} {rc : Loop} (h : JT W6 b4 rc k W) {v : Value} {ls : List LbT} (hv : RdL W6 v ls) (hne : ∀ j, v.ownBlock = some j → j ≠ b4) : RdL W v ls := hv.ch h.1 (fun j hj _ => hne j hj)
theorem JT.reads {W6 W : World} {b4 k Bn Bm g1 c1 g2 c2 base N : Nat} {rc : Loop} {rs : List IdR} (h : JT W6 b4 rc k W) (hN : rs.length = N) (hbn : Boxed W6 Bn 71 (.slice (some ⟨g1, 0, none⟩) N c1)) (hbm : Boxed W6 Bm 76 (.slice (some ⟨g2, 0, none⟩) N c2))
    (hn : OwnN W6 base (.slice (some ⟨g1, 0, none⟩) N c1) (numsI rs)) (hv : OwnV W6 base (.slice (some ⟨g2, 0, none⟩) N c2) (valsI rs)) (l1 : Bn ≠ b4) (l1' : Bm ≠ b4) (l2 : g1 ≠ b4) (l3 : g2 ≠ b4) (hr : ∀ r ∈ rs, RdL W6 r.val r.lbs ∧ ∀ j, r.val.ownBlock = some j → j ≠ b4) :
    W.cell? ⟨Bn, 0, none⟩ = some (.slice (some ⟨g1, 0, none⟩) rs.length c1) ∧ W.cell? ⟨Bm, 0, none⟩ = some (.slice (some ⟨g2, 0, none⟩) rs.length c2) ∧ ∀ j, j < rs.length → W.cell? ⟨g1, j, none⟩ = some (.int .i64 ((rs.getD j idZ).num : Int)) ∧ W.cell? ⟨g2, j, none⟩ = some (rs.getD j idZ).val ∧ RdL W (rs.getD j idZ).val (rs.getD j idZ).lbs := by
  rw [hN]
  refine ⟨h.cell l1 hbn.cell, h.cell l1' hbm.cell, fun j hj => ?_⟩
  have hj' : j < rs.length := by omega
  have e1 := hn.cells j (by unfold numsI; simpa using hj')
  have e2 := hv.cells j (by unfold valsI; simpa using hj')
  have en : (numsI rs).getD j 0 = ((rs.getD j idZ).num : Int) := by simp [numsI, hj']
  have ev : (valsI rs).getD j .nilFunc = (rs.getD j idZ).val := by simp [valsI, hj']
  rw [en] at e1
  rw [ev] at e2
  have := hr _ (getI_mem hj')
  exact ⟨h.cell l2 e1, h.cell l3 e2, h.rd this.1 this.2⟩
/-- a round: the record is busy, the sets read, the copy spoilt, the count one more -/
theorem JT.round {W6 W W1 w2 : World} {b4 k b m : Nat} {rc : Loop} (h : JT W6 b4 rc k W) (hb4 : b4 < W6.heap.size) (hg : W.grownBy W1 none) (hb : W.heap.size ≤ b) (hg2 : ((W1.putObj (W6.heap.size + 1) (.loop { rc with state := .busy })).drewN m).grownBy w2 (some b)) (hrd : rc.state = .ready) (hpe : rc.pending = none) :
    (w2.setCell ⟨b4, 0, none⟩ (.int .i64 ((k + 1 : Nat) : Int))).heap[W6.heap.size + 1]? = some (.loop { rc with state := .busy }) ∧
    JT W6 b4 rc (k + 1) ((w2.setCell ⟨b4, 0, none⟩ (.int .i64 ((k + 1 : Nat) : Int))).putObj (W6.heap.size + 1) (.loop { rc with state := .ready, pending := none })) := by
  have h1 := h.keep hg
  have z0 := h.1.size
  have hl := some_lt h.2.2.2
  have hl1 := some_lt h1.2.2.2
  have z1 := hg.size
  have z2 := hg2.size
  have zb : (W1.putObj (W6.heap.size + 1) (.loop { rc with state := .busy })).heap.size = W1.heap.size := by simp
  have zb' : ((W1.putObj (W6.heap.size + 1) (.loop { rc with state := .busy })).drewN m).heap.size = W1.heap.size := by simp
  have es : ∀ j, j ≠ b4 → (w2.setCell ⟨b4, 0, none⟩ (.int .i64 ((k + 1 : Nat) : Int))).heap[j]? = w2.heap[j]? := fun j hj => Below.heap_setCell _ _ _ _ hj
  have e2 : ∀ j, j < W1.heap.size → j ≠ b → w2.heap[j]? = (W1.putObj (W6.heap.size + 1) (.loop { rc with state := .busy })).heap[j]? := fun j hj hne => hg2.block j (by rw [zb']; exact hj) (fun e => hne (Option.some.inj e))
  have eb : (W1.putObj (W6.heap.size + 1) (.loop { rc with state := .busy })).heap[W6.heap.size + 1]? = some (.loop { rc with state := .busy }) := World.putObj_heap_same hl1
  have eo : ∀ j, j ≠ W6.heap.size + 1 → (W1.putObj (W6.heap.size + 1) (.loop { rc with state := .busy })).heap[j]? = W1.heap[j]? := fun j hj => World.putObj_heap_other hj
  have hbusy : (w2.setCell ⟨b4, 0, none⟩ (.int .i64 ((k + 1 : Nat) : Int))).heap[W6.heap.size + 1]? = some (.loop { rc with state := .busy }) := by
    rw [es _ (by omega), e2 _ hl1 (by omega)]
    exact eb
  have ep : ∀ j, j ≠ W6.heap.size + 1 → ((w2.setCell ⟨b4, 0, none⟩ (.int .i64 ((k + 1 : Nat) : Int))).putObj (W6.heap.size + 1) (.loop { rc with state := .ready, pending := none })).heap[j]? = (w2.setCell ⟨b4, 0, none⟩ (.int .i64 ((k + 1 : Nat) : Int))).heap[j]? := fun j hj => World.putObj_heap_other hj
  have hbx2 : Boxed w2 b4 3 (.int .i64 (k : Int)) := by
    show w2.heap[b4]? = _
    rw [e2 b4 (by omega) (by omega), eo b4 (by omega)]
    exact h1.2.1
  have hrc : ({ rc with state := .ready, pending := none } : Loop) = rc := by
    cases rc
    simp only at hrd hpe
    subst hrd
    subst hpe
    rfl
  refine ⟨hbusy, ?_⟩
  refine ⟨⟨?_, ?_, ?_, ?_, fun j hj hn => ?_⟩, ?_, ?_, ?_⟩
  · exact (show w2.os = W1.os from hg2.os).trans h1.1.1
  · exact (show w2.tape = W1.tape from hg2.tape).trans h1.1.2.1
  · exact (show w2.output = W1.output from hg2.output).trans h1.1.2.2.1
  · show W6.heap.size ≤ _
    simp
    omega
  · rw [ep j (by omega), es j hn, e2 j (by omega) (by omega), eo j (by omega)]
    exact h1.1.block hj hn
  · show ((w2.setCell ⟨b4, 0, none⟩ (.int .i64 ((k + 1 : Nat) : Int))).putObj (W6.heap.size + 1) (.loop { rc with state := .ready, pending := none })).heap[b4]? = _
    rw [ep b4 (by omega)]
    exact hbx2.set _
  · rw [ep _ (by omega), es _ (by omega), e2 _ (by omega) (by omega), eo _ (by omega)]
    exact h1.2.2.1
  · rw [World.putObj_heap_same (by have := some_lt hbusy; exact this), hrc]
end Go.Proofs.YtkipnkpnkhfjhabGreatDoor

/- LbKf -/
namespace Go.Proofs.YtkipnkpnkhfjhabGreatDoor
open Go.RowKit Go.Shelf

theorem operIn_round {n l : Nat} {P : Program} {o : Oper} {a : Act} {w : World} {K : Act → World → Prop} {Q : Exit → Act → World → Prop} (hd : ∀ c, o.op ≠ .defer c) (h : o.wpIn Fence.wide n P a w K Q) : o.wpIn (Fence.wide.inRound l) n P a w K Q := by
  unfold Oper.wpIn at *
  refine ⟨h.1, ?_⟩
  have h2 := h.2
  rw [show o.semAt (Fence.wide.inRound l).round a.eval = execOp a.eval o from Oper.semAt_some l a.eval o hd]
  rw [show o.semAt Fence.wide.round a.eval = execOp a.eval o from rfl] at h2
  generalize (execOp a.eval o).run P w = r at *
  cases r with
  | ok x w' => cases x <;> exact h2
  | halt x w' => cases x <;> exact h2
theorem opsIn_round {n l : Nat} {P : Program} {ops : Array Oper} {Q : Exit → Act → World → Prop} (hd : ∀ (i : Nat) o, ops[i]? = some o → ∀ c, o.op ≠ .defer c) : ∀ (is : List Nat) (a : Act) (w : World), wpOpsIn Fence.wide n P ops Q is a w → wpOpsIn (Fence.wide.inRound l) n P ops Q is a w
  | [], _, _, h => h
  | i :: rest, a, w, h => by
    rw [wpOpsIn_cons] at h ⊢
    unfold wpOpIn at *
    split
    · rename_i ho
      simp only [ho] at h
      exact opsIn_round hd rest _ _ h
    · rename_i o ho
      simp only [ho] at h
      split
      · rename_i hw
        simp only [hw, if_true] at h
        exact operIn_round (hd i o ho) (Oper.wpIn_mono (fun a w => opsIn_round hd rest a w) h)
      · rename_i hw
        simp only [hw] at h
        exact ⟨h.1, opsIn_round hd rest _ _ h.2⟩
/-- one round that goes on, the record a name -/
theorem yield_rc {F : Fence} {n l : Nat} {P : Program} {W : World} {args : Array Value} {rc : Loop} {R : World → Prop} {A B : Code} {ps : Array Tmp} {tm : Array Value} (ha : rc.assign = A) (hb : rc.body = B) (hp : rc.params = ps) (ht : rc.tmps = tm) (hl : W.heap[l]? = some (.loop rc)) (hrd : rc.state = .ready) (hps : args.size = ps.size) (hF : F.fn rc.fn)
    (h : A.wpIn (F.inRound l) n P (Exit.then (fun a₁ w₁ => w₁.heap[l]? = some (.loop rc) ∧ B.wpIn (F.inRound l) n P (fun e _ w₂ => e = .normal ∧ w₂.heap[l]? = some (.loop { rc with state := .busy }) ∧ R (w₂.putObj l (.loop { rc with state := .ready, pending := none }))) a₁ (w₁.putObj l (.loop { rc with state := .busy }))) (fun _ _ _ => False))
      { tmps := (ps.zip args).foldl (fun tmps (t, a) => tmps.setIfInBounds t a) tm, defers := [] } W) :
    YieldAt F n P l args W fun e W' => e = .returned (.bool true) ∧ R W' := by
  subst ha hb hp ht
  exact yield_on hl hrd hps hF h
def noDefer (o : Oper) : Bool := match o.op with | .defer _ => false | _ => true
theorem noDefer_spec {o : Oper} (h : noDefer o = true) : ∀ c, o.op ≠ .defer c := fun c e => by
  unfold noDefer at h
  rw [e] at h
  cases h
theorem quiet_round {n l id : Nat} {P : Program} {Q : Exit → Act → World → Prop} {a : Act} {w : World} {ls : List Oper} (hd : ls.all noDefer = true) (hm : P.follows .mixedOrders = true) (hB : Region.lexB .any ls.toArray = true)
    (h : wpQuietIn Fence.wide n P ls.toArray (fun w' => ∃ n, w' = w.drewN n) (fun a' => ∀ w', (∃ n, w' = w.drewN n) → Q .normal a' w') ls a) : (Code.region id ls.toArray true).wpIn (Fence.wide.inRound l) n P Q a w := by
  refine wpIn_region_draw fun t => ?_
  simp only [Region.lexB, Bool.and_eq_true] at hB
  have h1 := wpAnyQIn_lex (F := Fence.wide) (n := n) (C := fun w' => ∃ n, w' = w.drewN n) (md := .any) hB.1 ls 0 (Array.replicate ls.toArray.size false) a (by simp) (by simpa using hB.2) h
  have h2 := wpAnyIn_of_quiet (F := Fence.wide) (Q := fun a' => ∀ w', (∃ n, w' = w.drewN n) → Q .normal a' w') (Q' := Q) rfl (fun _ w' hw' h => h w' hw') _ _ _ { w with drawn := w.drawn + 1 } ⟨1, rfl⟩ h1
  refine opsIn_round (fun i o ho => noDefer_spec (List.all_eq_true.1 hd o (by simpa using List.mem_of_getElem? (by simpa using ho)))) _ _ _ ?_
  simp only [Region.schedule, hm, Bool.true_or, if_true]
  exact wpAnyIn_sound _ t _ a _ h2
theorem wide_fn (f : FuncId) : Fence.wide.fn f = True := rfl
end Go.Proofs.YtkipnkpnkhfjhabGreatDoor

/- LbKd -/
namespace Go.Proofs.YtkipnkpnkhfjhabGreatDoor
open Go.RowKit Go.Shelf

attribute [local go_sem] Oper.semAt_some wide_fn

/-- two numberings tell the same -/
def Agr (rs qs : List IdR) : Prop := rs.map (fun r => (r.num, r.lbs)) = qs.map (fun r => (r.num, r.lbs))
theorem Agr.len {rs qs : List IdR} (h : Agr rs qs) : rs.length = qs.length := by simpa using congrArg List.length h
theorem Agr.at' {rs qs : List IdR} (h : Agr rs qs) {j : Nat} (hj : j < rs.length) : (rs.getD j idZ).num = (qs.getD j idZ).num ∧ (rs.getD j idZ).lbs = (qs.getD j idZ).lbs := by
  have hj2 : j < qs.length := by rw [← h.len]; exact hj
  have e : (rs.map (fun r => (r.num, r.lbs)))[j]? = (qs.map (fun r => (r.num, r.lbs)))[j]? := by rw [h]
  simp [hj, hj2] at e
  simpa [hj, hj2] using e

set_option maxRecDepth 100000 in
set_option maxHeartbeats 6400000 in
theorem toldB_in (n : Nat) (hn : 12 ≤ n) (w : World) (S T : Nat → Prop) (gx gr last last2 : Nat) (v : Value) (rs qs : List IdR) (hp : PrjOK w S gx rs last) (hr : RefI w T gr v qs last2) (hag : Agr rs qs) (hlen : ∀ r ∈ rs, r.lbs.length ≤ 16) :
    CallsIn Fence.wide n Tryz.prog 8 #[.pointer (some ⟨gx, 0, none⟩), .pointer (some ⟨gr, 0, none⟩)] w fun e w' => e = .returned (.bool true) ∧ w.grownBy w' none := by
  have h1 : 1 ≤ n := by omega
  obtain ⟨gs, gh, Ds, Dh, hv, hp⟩ := hp
  obtain ⟨N, hN⟩ : ∃ N, N = rs.length := ⟨_, rfl⟩
  have hNq : qs.length = N := by rw [hN]; exact hag.len.symm
  obtain ⟨va, vc, rfl, hvc1, hvc2⟩ := hr.shape
  rw [hNq] at hvc1
  have HW : Hid (PrjI w S gx rs last gs gh Ds Dh hv ∧ RefI w T gr (.slice va qs.length vc) qs last2 ∧ Agr rs qs ∧ (∀ r ∈ rs, r.lbs.length ≤ 16) ∧ rs.length = N ∧ qs.length = N) := ⟨hp, hr, hag, hlen, hN.symm, hNq⟩
  have hmost : N ≤ 1000 := by rw [hN]; exact hp.most
  have HAll : Hid (∀ W, w.grownBy W none → Calls Tryz.prog 23 #[.pointer (some ⟨gx, 0, none⟩)] W fun e w' => ∃ Bn g1 c1 g2 c2, e = .returned (.func (.func 38) #[] #[.pointer (some ⟨Bn, 0, none⟩), .pointer (some ⟨Bn + 1, 0, none⟩)]) ∧ Hid (W.heap.size ≤ Bn ∧ Boxed w' Bn 71 (.slice (some ⟨g1, 0, none⟩) rs.length c1) ∧ Boxed w' (Bn + 1) 76 (.slice (some ⟨g2, 0, none⟩) rs.length c2) ∧
      OwnN w' W.heap.size (.slice (some ⟨g1, 0, none⟩) rs.length c1) (numsI rs) ∧ OwnV w' W.heap.size (.slice (some ⟨g2, 0, none⟩) rs.length c2) (valsI rs) ∧ W.grownBy w' none)) := fun W hW =>
    (prjAll_any W S gx last rs ⟨_, _, _, _, _, HW.out.1.keep hW⟩).mono fun e w' ⟨Bn, g1, c1, g2, c2, q0, q⟩ => ⟨Bn, g1, c1, g2, c2, q0, q⟩
  have HLen : Hid (∀ W, w.grownBy W none → Calls Tryz.prog 24 #[.pointer (some ⟨gx, 0, none⟩)] W fun e w' => e = .returned (.int .i64 (N : Int)) ∧ w' = W) := fun W hW => by
    have := prjLen_any W S gx last gs gh rs Ds Dh hv (HW.out.1.keep hW)
    rw [HW.out.2.2.2.2.1] at this
    exact this
  have hnf : ∀ (lb : Array Value) (W : World), (binOp .eql 56 (.func (.func 38) #[] lb) .nilFunc).run Tryz.prog W = .ok (.bool false) W := fun _ _ => rfl
  have hlr : gr < w.heap.size := some_lt hr.box
  clear hp hr hag hlen hN
  refine callsIn_of_wp_marks Tryz.func8 rfl trivial ?_ rfl
  simp only [Tryz.ntmps8, List.size_toArray, List.length_cons, List.length_nil, Nat.reduceAdd, Nat.reduceSub, Array.replicate_succ, Array.replicate_zero, List.push_toArray, List.append_toArray, List.nil_append, List.cons_append]
  gi_wp2_with (gi_at_call 23; refine (callsIn_wide.2 (HAll.out _ (gb_none (World.grownBy_alloc _ _ none) (World.grownBy_alloc _ _ none)))).mono ?_; rintro e W3 ⟨Bn, g1, c1, g2, c2, rfl, H3⟩)
  have HG3 : Hid (w.grownBy W3 none) := gb_none (gb_none (World.grownBy_alloc _ _ none) (World.grownBy_alloc _ _ none)) H3.out.2.2.2.2.2
  have HG3d : Hid (w.grownBy W3.drew none) := gb_none HG3.out (gb_drew _ none)
  have HB : Hid (Boxed W3 w.heap.size 25 (.pointer (some ⟨gr, 0, none⟩)) ∧ Boxed W3 (w.heap.size + 1) 4 (.bool false) ∧ w.heap.size + 2 ≤ Bn ∧ Boxed W3 Bn 71 (.slice (some ⟨g1, 0, none⟩) N c1) ∧ Boxed W3 (Bn + 1) 76 (.slice (some ⟨g2, 0, none⟩) N c2) ∧ OwnN W3 (w.heap.size + 2) (.slice (some ⟨g1, 0, none⟩) N c1) (numsI rs) ∧ OwnV W3 (w.heap.size + 2) (.slice (some ⟨g2, 0, none⟩) N c2) (valsI rs)) := by
    obtain ⟨q1, q2, q3, q4, q5, q6⟩ := H3.out
    rw [HW.out.2.2.2.2.1] at q2 q3 q4 q5
    have bR := (Boxed.new w 25 (.pointer (some ⟨gr, 0, none⟩))).alloc (.cells #[.bool false] 4)
    have bO := Boxed.new (w.alloc (.cells #[.pointer (some ⟨gr, 0, none⟩)] 25)) 4 (.bool false)
    rw [World.size_alloc] at bO
    rw [World.size_alloc, World.size_alloc] at q1 q4 q5
    exact ⟨bR.kept q6 (by simp), bO.kept q6 (by simp), q1, q2, q3, q4, q5⟩
  clear H3 HAll
  have cR := HB.out.1.cell
  have cG : W3.cell? ⟨gr, 0, none⟩ = some (.slice va N vc) := by
    have := (HW.out.2.1.keep HG3.out).boxes.1
    rw [hNq] at this
    exact this
  generalize hb1 : w.heap.size + 1 = b1 at *
  generalize hb0 : w.heap.size = b0 at *
  have HBS : Hid (w.heap.size = b0 ∧ b0 + 1 = b1 ∧ gr < b0) := ⟨hb0, hb1, hlr⟩
  clear hb0 hb1 hlr
  refine wpIn_wide.2 ?_
  go_region_held3 (fun w' => w'.cell? ⟨b0, 0, none⟩ = some (.pointer (some ⟨gr, 0, none⟩)) ∧ w'.cell? ⟨gr, 0, none⟩ = some (.slice va N vc)) (go_keep)
    (first | (go_at_call 24; with_reducible refine (HLen.out _ ?_).mono ?_; (first | exact HG3.out | exact HG3d.out); rintro e w' ⟨rfl, rfl⟩))
  have HG5 : Hid (w.grownBy W3.drew none ∧ Boxed W3.drew b0 25 (.pointer (some ⟨gr, 0, none⟩)) ∧ Boxed W3.drew b1 4 (.bool false) ∧ b0 + 2 ≤ Bn ∧ Boxed W3.drew Bn 71 (.slice (some ⟨g1, 0, none⟩) N c1) ∧ Boxed W3.drew (Bn + 1) 76 (.slice (some ⟨g2, 0, none⟩) N c2) ∧ OwnN W3.drew (b0 + 2) (.slice (some ⟨g1, 0, none⟩) N c1) (numsI rs) ∧ OwnV W3.drew (b0 + 2) (.slice (some ⟨g2, 0, none⟩) N c2) (valsI rs)) := ⟨HG3d.out, HB.out⟩
  clear HB HG3 HG3d cR cG HLen
  generalize W3.drew = W5 at *
  gi_wp2
  have H6 : Hid (w.grownBy (W5.alloc (.cells #[.int .i64 0] 3)) none ∧ Boxed (W5.alloc (.cells #[.int .i64 0] 3)) b0 25 (.pointer (some ⟨gr, 0, none⟩)) ∧ Boxed (W5.alloc (.cells #[.int .i64 0] 3)) b1 4 (.bool false) ∧ Boxed (W5.alloc (.cells #[.int .i64 0] 3)) Bn 71 (.slice (some ⟨g1, 0, none⟩) N c1) ∧ Boxed (W5.alloc (.cells #[.int .i64 0] 3)) (Bn + 1) 76 (.slice (some ⟨g2, 0, none⟩) N c2) ∧ OwnN (W5.alloc (.cells #[.int .i64 0] 3)) (b0 + 2) (.slice (some ⟨g1, 0, none⟩) N c1) (numsI rs) ∧ OwnV (W5.alloc (.cells #[.int .i64 0] 3)) (b0 + 2) (.slice (some ⟨g2, 0, none⟩) N c2) (valsI rs) ∧ Boxed (W5.alloc (.cells #[.int .i64 0] 3)) W5.heap.size 3 (.int .i64 0) ∧ (W5.alloc (.cells #[.int .i64 0] 3)).heap.size = W5.heap.size + 1 ∧ b1 < W5.heap.size ∧ Bn + 1 < W5.heap.size ∧ g1 < W5.heap.size ∧ g2 < W5.heap.size ∧ b0 < b1 ∧ b1 < Bn) := by
    obtain ⟨h0, h1, h2, h3, h4, h5, h6, h7⟩ := HG5.out
    have hk := World.grownBy_alloc W5 (.cells #[.int .i64 0] 3) none
    have hbs := HBS.out
    exact ⟨gb_none h0 hk, h1.alloc _, h2.alloc _, h4.alloc _, h5.alloc _, h6.keep hk, h7.keep hk, Boxed.new _ _ _, by simp, h2.lt, h5.lt, h6.caps.2.2.2.1, h7.len.2.1, by omega, by omega⟩
  generalize W5.alloc (.cells #[.int .i64 0] 3) = W6 at *
  generalize W5.heap.size = b4 at *
  clear HG5
  refine range_rc rfl h1 (gf := 38) (lb := #[.pointer (some ⟨Bn, 0, none⟩), .pointer (some ⟨Bn + 1, 0, none⟩)]) rfl trivial (enters_of Tryz.func38 (by kernel_rfl) rfl) ?_
  intro rc hfn hrd hpe hps htm has hbo
  have HRd : Hid (∀ r ∈ rs, RdL W6 r.val r.lbs ∧ ∀ j, r.val.ownBlock = some j → j ≠ b4) := fun r hr => by
    have he := HW.out.1.each r hr
    refine ⟨he.1.keep H6.out.1, fun j hj => ?_⟩
    obtain ⟨-, cur, fr, hc⟩ := he.2 j hj
    have hlt := some_lt hc
    have h6 := H6.out
    have hbs := HBS.out
    omega
  refine CallsIn.mono (all1_on (n - 1) (by omega) (W6.heap.size + 1) Bn (Bn + 1) g1 c1 g2 c2 rs (JT W6 b4 rc) _ HW.out.2.2.2.1 (by rw [HW.out.2.2.2.2.1]; exact hmost) ?_ ?_ (JT.start W6 b4 _ H6.out.2.2.2.2.2.2.2.1)) ?_
  · intro k W hJ
    have h6 := H6.out
    exact hJ.reads HW.out.2.2.2.2.1 h6.2.2.2.1 h6.2.2.2.2.1 h6.2.2.2.2.2.1 h6.2.2.2.2.2.2.1 (by omega) (by omega) (by omega) (by omega) HRd.out
  · intro k W W1 b hk hJ hg ho
    have hl := (hJ.keep hg).2.2.2
    refine yield_rc (R := JT W6 b4 rc (k + 1)) has hbo hps htm hl hrd rfl hfn ?_
    clear has hbo hps htm
    have hk' : k < rs.length := hk
    have hkq : k < qs.length := by rw [HW.out.2.2.2.2.2, ← HW.out.2.2.2.2.1]; exact hk
    have hkN : (k : Int) < (N : Int) := by rw [← HW.out.2.2.2.2.1]; omega
    have hkN2 : ¬ (N : Int) ≤ (k : Int) := by omega
    obtain ⟨a1, a2⟩ := HW.out.2.2.1.at' hk'
    have hqn : qs ≠ [] := fun e => by rw [e] at hkq; simp at hkq
    have HR6 := HW.out.2.1.keep H6.out.1
    obtain ⟨g, cap, hvv, hca1, hca2, hgl, hcc⟩ := HR6.cells hqn
    simp only [Value.slice.injEq] at hvv
    obtain ⟨rfl, -, rfl⟩ := hvv
    have hRlq := HW.out.2.1.each _ (getI_mem hkq)
    have hln := HW.out.2.2.2.1 _ (getI_mem hk')
    have h6 := H6.out
    have hbs := HBS.out
    have hgb4 : g ≠ b4 := by
      have := (HW.out.2.1.row.lt g rfl).2
      omega
    have hvb4 : ∀ j, (qs.getD k idZ).val.ownBlock = some j → j < b4 := fun j hj => by
      obtain ⟨-, cur, fr, hc⟩ := hRlq.2 j hj
      have := some_lt hc
      omega
    have hJ1 := hJ.keep hg
    have hsz := hJ.1.size
    have hltl := some_lt hJ.2.2.2
    have eW : ∀ j, j ≠ W6.heap.size + 1 → (W1.putObj (W6.heap.size + 1) (.loop { rc with state := .busy })).heap[j]? = W1.heap[j]? := fun j hj => World.putObj_heap_other hj
    have eC : ∀ (j o : Nat), j ≠ W6.heap.size + 1 → (W1.putObj (W6.heap.size + 1) (.loop { rc with state := .busy })).cell? ⟨j, o, none⟩ = W1.cell? ⟨j, o, none⟩ := fun j o hj => World.cell?_of_block (eW j hj)
    have k4 : (W1.putObj (W6.heap.size + 1) (.loop { rc with state := .busy })).cell? ⟨b4, 0, none⟩ = some (.int .i64 (k : Int)) := (eC b4 0 (by omega)).trans hJ1.2.1.cell
    have k0 : (W1.putObj (W6.heap.size + 1) (.loop { rc with state := .busy })).cell? ⟨b0, 0, none⟩ = some (.pointer (some ⟨gr, 0, none⟩)) := (eC b0 0 (by omega)).trans (hJ1.cell (by omega) h6.2.1.cell)
    have kr : (W1.putObj (W6.heap.size + 1) (.loop { rc with state := .busy })).cell? ⟨gr, 0, none⟩ = some (.slice (some ⟨g, 0, none⟩) N vc) := (eC gr 0 (by omega)).trans (hJ1.cell (by omega) (by have := HR6.boxes.1; rw [hNq] at this; exact this))
    have d0 : (W1.putObj (W6.heap.size + 1) (.loop { rc with state := .busy })).cell? ⟨g, k * 2, none⟩ = some (.int .i64 ((qs.getD k idZ).num : Int)) := (eC g _ (by omega)).trans (hJ1.cell hgb4 (hcc k hkq).1)
    have d1 : (W1.putObj (W6.heap.size + 1) (.loop { rc with state := .busy })).cell? ⟨g, k * 2 + 1, none⟩ = some (qs.getD k idZ).val := (eC g _ (by omega)).trans (hJ1.cell hgb4 (hcc k hkq).2)
    have hrdq : RdL (W1.putObj (W6.heap.size + 1) (.loop { rc with state := .busy })) (qs.getD k idZ).val (rs.getD k idZ).lbs := by
      rw [a2]
      refine (hJ1.rd (hRlq.1.keep h6.1) (fun j hj => by have := hvb4 j hj; omega)).via (fun j hj _ => eW j ?_)
      have := hvb4 j hj
      omega
    have hob := World.ownsRow.lt ho b rfl
    have how : OwnL (W1.putObj (W6.heap.size + 1) (.loop { rc with state := .busy })) W.heap.size (.slice (some ⟨b, 0, none⟩) (rs.getD k idZ).lbs.length (rs.getD k idZ).lbs.length) (rs.getD k idZ).lbs := row_via ho (fun j hj => eW j (fun e => by have e' : b = j := Option.some.inj hj; have := hob.1; omega))
    have HSame : Hid (∀ m, Calls Tryz.prog 22 #[.slice (some ⟨b, 0, none⟩) (rs.getD k idZ).lbs.length (rs.getD k idZ).lbs.length, (qs.getD k idZ).val] ((W1.putObj (W6.heap.size + 1) (.loop { rc with state := .busy })).drewN m) fun e w' => e = .returned (.bool true) ∧ ∃ m', w' = ((W1.putObj (W6.heap.size + 1) (.loop { rc with state := .busy })).drewN m).drewN m') := fun m =>
      sameQ _ _ _ _ (how.rd.keep (gb_drewN _ m)) (hrdq.keep (gb_drewN _ m))
    have HSp : Hid (∀ m, Calls Tryz.prog 19 #[.slice (some ⟨b, 0, none⟩) (rs.getD k idZ).lbs.length (rs.getD k idZ).lbs.length] ((W1.putObj (W6.heap.size + 1) (.loop { rc with state := .busy })).drewN m) fun e w2 => e = .returned (.tuple #[]) ∧ w2.cell? ⟨b4, 0, none⟩ = some (.int .i64 (k : Int)) ∧ w2.frozen? ⟨b4, 0, none⟩ = false ∧ Hid ((w2.setCell ⟨b4, 0, none⟩ (.int .i64 ((k + 1 : Nat) : Int))).heap[W6.heap.size + 1]? = some (.loop { rc with state := .busy }) ∧
      JT W6 b4 rc (k + 1) ((w2.setCell ⟨b4, 0, none⟩ (.int .i64 ((k + 1 : Nat) : Int))).putObj (W6.heap.size + 1) (.loop { rc with state := .ready, pending := none })))) := fun m =>
      (spoilL_any _ _ W.heap.size _ (World.ownsRow.kept how (gb_drewN _ m) (.inr (by simp [Value.ownBlock]))) (by simp; exact hg.size) (by omega)).mono fun e w2 ⟨q1, q2⟩ => by
        have hbx : w2.heap[b4]? = some (.cells #[.int .i64 (k : Int)] 3) := (q2.block b4 (by simp; omega) (by simp [Value.ownBlock]; omega)).trans ((eW b4 (by omega)).trans hJ1.2.1)
        exact ⟨q1, by simp [World.cell?, hbx], by simp [World.frozen?, hbx], hJ.round (by omega) hg hob.1 q2 hrd hpe⟩
    obtain ⟨ua, uc, hval⟩ : ∃ a c, (qs.getD k idZ).val = .slice a (rs.getD k idZ).lbs.length c := by obtain ⟨a, c, h, _⟩ := hrdq; exact ⟨a, c, h⟩
    rw [hval] at d1 HSame
    rw [a1]
    have HL := hidJ hl
    clear hval hrdq how hob eW eC hJ1 hJ hg ho hRlq hvb4 HR6 hcc hl a1 a2 h6 hbs hln hqn hsz hltl hk' hkq hk hca1 hca2 hgl hgb4 HRd H6
    clear hrd hpe
    have hd1 : decide (N ≤ k) = false := decide_eq_false (by omega)
    generalize (qs.getD k idZ).num = num at *
    generalize (rs.getD k idZ).lbs.length = nl at *
    have hn4 : 1 ≤ n - 1 - 1 := by omega
    gi_wp2
    refine ⟨HL.out, ?_⟩
    generalize W1.putObj (W6.heap.size + 1) (.loop { rc with state := .busy }) = Wb at *
    gi_wp2
    refine quiet_round (by kernel_rfl) (by kernel_rfl) (by kernel_rfl) ?_
    repeat (gi_big_quiet_step (exact CallsIn.quiet_of (callsIn_wide.2 (HSame.out _))))
    refine wpQuietIn_nil ?_
    intro _ hw'
    obtain ⟨nq, rfl⟩ := hw'
    gi_wp2_with (gi_at_call 19; refine (CallsIn.inRound _ (callsIn_wide.2 (HSp.out _))).mono ?_; rintro e w2 ⟨rfl, e4, f4, H2⟩)
    have H2' := H2.out
    rw [show ((k + 1 : Nat) : Int) = (k : Int) + 1 by omega] at H2'
    exact H2'
  · rintro e W' ⟨⟨v, rfl⟩, hJ⟩
    refine ⟨⟨v, rfl⟩, hJ.2.2.2, ?_⟩
    clear has hbo hps htm
    have h6 := H6.out
    have hbs := HBS.out
    have hbJ := hJ.2.1
    rw [HW.out.2.2.2.2.1] at hbJ
    have eW : ∀ j, j ≠ W6.heap.size + 1 → (W'.putObj (W6.heap.size + 1) (.loop { rc with state := .exhausted })).heap[j]? = W'.heap[j]? := fun j hj => World.putObj_heap_other hj
    have eC : ∀ (j o : Nat), j ≠ W6.heap.size + 1 → (W'.putObj (W6.heap.size + 1) (.loop { rc with state := .exhausted })).cell? ⟨j, o, none⟩ = W'.cell? ⟨j, o, none⟩ := fun j o hj => World.cell?_of_block (eW j hj)
    have e2 : (W'.putObj (W6.heap.size + 1) (.loop { rc with state := .exhausted })).cell? ⟨b4, 0, none⟩ = some (.int .i64 (N : Int)) := (eC b4 0 (by omega)).trans hbJ.cell
    have e1 : (W'.putObj (W6.heap.size + 1) (.loop { rc with state := .exhausted })).cell? ⟨b0, 0, none⟩ = some (.pointer (some ⟨gr, 0, none⟩)) := (eC b0 0 (by omega)).trans (hJ.cell (by omega) h6.2.1.cell)
    have e3 : (W'.putObj (W6.heap.size + 1) (.loop { rc with state := .exhausted })).heap[b1]? = some (.cells #[.bool false] 4) := (eW b1 (by omega)).trans ((hJ.1.block h6.2.2.1.lt (by omega)).trans h6.2.2.1)
    have e4 : (W'.putObj (W6.heap.size + 1) (.loop { rc with state := .exhausted })).cell? ⟨gr, 0, none⟩ = some (.slice va N vc) := (eC gr 0 (by omega)).trans (hJ.cell (by omega) (by have := (HW.out.2.1.keep h6.1).boxes.1; rw [hNq] at this; exact this))
    have hJs := hJ.1.size
    have HK : Hid ((W'.putObj (W6.heap.size + 1) (.loop { rc with state := .exhausted })).heap[W6.heap.size]? = some (.deferred (some [])) ∧ w.grownBy (W'.putObj (W6.heap.size + 1) (.loop { rc with state := .exhausted })) none ∧ b1 < W6.heap.size ∧ w.heap.size < b1 ∧ w.heap.size < W6.heap.size) := by
      refine ⟨(eW _ (by omega)).trans hJ.2.2.1, ⟨(hJ.1.1).trans h6.1.os, (hJ.1.2.1).trans h6.1.tape, (hJ.1.2.2.1).trans h6.1.output, ?_, fun j hj _ => ?_⟩, by omega, by omega, by omega⟩
      · simp
        omega
      · rw [eW j (by omega), hJ.1.block (by omega) (by show ¬ j = b4; omega)]
        exact h6.1.block j hj (by simp)
    have d3 : (W'.putObj (W6.heap.size + 1) (.loop { rc with state := .exhausted })).cell? ⟨b1, 0, none⟩ = some (.bool false) := by simp [World.cell?, e3]
    have f3 : (W'.putObj (W6.heap.size + 1) (.loop { rc with state := .exhausted })).frozen? ⟨b1, 0, none⟩ = false := by simp [World.frozen?, e3]
    clear e3 eW eC hJ hJs hbJ h6 hbs H6 HRd hrd hpe
    generalize W'.putObj (W6.heap.size + 1) (.loop { rc with state := .exhausted }) = W7 at *
    gi_wp2
    refine wpIn_wide.2 ?_
    go_region
    gi_wp2
    obtain ⟨kD, kg, kb, kw, kw6⟩ := HK.out
    have hs : ∀ j, j ≠ b1 → ((W7.setCell ⟨b1, 0, none⟩ (.bool true)).drew).heap[j]? = W7.heap[j]? := fun j hj => Below.heap_setCell _ _ _ _ hj
    have hD2 : ((W7.setCell ⟨b1, 0, none⟩ (.bool true)).drew).heap[W6.heap.size]? = some (.deferred (some [])) := (hs _ (by omega)).trans kD
    have hcr : ((W7.setCell ⟨b1, 0, none⟩ (.bool true)).drew).cell? ⟨b1, 0, none⟩ = some (.bool true) := World.cell?_setCell_same' _ _ _ (by rw [d3]; rfl)
    refine ⟨by simp, .inl ⟨_, _, rfl, run_takeDeferred hD2, ?_⟩⟩
    have hc2 : (((W7.setCell ⟨b1, 0, none⟩ (.bool true)).drew).putObj W6.heap.size (.deferred none)).cell? ⟨b1, 0, none⟩ = some (.bool true) := (World.cell?_of_block (World.putObj_heap_other (by show b1 ≠ W6.heap.size; omega))).trans hcr
    refine ⟨.bool true, ?_, rfl, ?_⟩
    · simp [results, Tryz.f8, go_sem, hc2]
    · refine ⟨kg.os, kg.tape, kg.output, ?_, fun j hj _ => ?_⟩
      · have := kg.size
        simpa using this
      · rw [World.putObj_heap_other (by omega), hs j (by omega)]
        exact kg.block j hj (by simp)

/-- what told comes to where both numberings agree -/
theorem toldB_any (w : World) (S T : Nat → Prop) (gx gr last last2 : Nat) (v : Value) (rs qs : List IdR) (hp : PrjOK w S gx rs last) (hr : RefI w T gr v qs last2) (hag : Agr rs qs) (hlen : ∀ r ∈ rs, r.lbs.length ≤ 16) :
    Calls Tryz.prog 8 #[.pointer (some ⟨gx, 0, none⟩), .pointer (some ⟨gr, 0, none⟩)] w fun e w' => e = .returned (.bool true) ∧ w.grownBy w' none :=
  callsIn_wide.1 (toldB_in 12 (Nat.le_refl _) w S T gx gr last last2 v rs qs hp hr hag hlen)
end Go.Proofs.YtkipnkpnkhfjhabGreatDoor
