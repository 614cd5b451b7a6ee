/-
  slices.Values of label sets, slices.AppendSeq, slices.Collect: the walks.
-/
import Derived.Test.YtbnieljkadcaoabGreatDoorNf1
namespace Go.Proofs.YtbnieljkadcaoabGreatDoor
open Go.RowKit Go.Shelf Go.Sort

attribute [local go_sem] Oper.semAt_some

/-- Values' function between two rounds -/
structure VlJ (W : World) (v : Value) (vs : List Value) (J : List Value → World → Prop) (z : Nat) (wr : World) : Prop where
  size : W.heap.size ≤ wr.heap.size
  row : RdV wr v vs
  out : J (vs.take z) wr

set_option maxRecDepth 100000 in
set_option maxHeartbeats 6400000 in
theorem val1_any (n : Nat) (hn : 2 ≤ n) (lp c : Nat) (v : Value) (vs : List Value) (W : World) (T : Nat → Prop) (hc : W.cell? ⟨c, 0, none⟩ = some v) (hrow : RdV W v vs) (hone : ∀ u ∈ vs, ∃ a n c, u = .slice a n c) (hT : ∀ k, v.ownBlock = some k → ¬ T k)
    (J : List Value → World → Prop) (Jx : World → Prop) (h0 : J [] W)
    (hY : ∀ z W0, z < vs.length → J (vs.take z) W0 → W.heap.size ≤ W0.heap.size → YieldAt Fence.wide (n - 1) Tryz.prog lp #[vs.getD z nilV] W0 fun e W' => ((e = .returned (.bool true) ∧ J (vs.take (z + 1)) W') ∨ (e = .returned (.bool false) ∧ Jx W')) ∧ Ch W0 W' (fun k => T k ∨ W.heap.size ≤ k)) :
    CallsIn Fence.wide n Tryz.prog 115 (#[.func (.yield lp) #[] #[]] ++ #[.pointer (some ⟨c, 0, none⟩)]) W fun e W' => (∃ x, e = .returned x) ∧ (J vs W' ∨ Jx W') := by
  have HY := hidJ hY
  have HT := hidJ (And.intro hT (And.intro hrow hone))
  have H0 : Hid (VlJ W v vs J 0 W) := ⟨Nat.le_refl _, hrow, h0⟩
  obtain ⟨a, cc, rfl, hl1, hl2, -, -⟩ := hrow
  unfold maxLen at hl2
  obtain ⟨N, hN⟩ : ∃ N, vs.length = N := ⟨_, rfl⟩
  have HN := hidJ hN
  rw [hN] at hc H0 HT hl1
  clear h0 hY hT hN hone
  have hn1 : 1 ≤ n := by omega
  refine callsIn_of_wp Tryz.func115 rfl trivial ?_ rfl
  simp only [Tryz.ntmps115, List.size_toArray, List.length_cons, List.length_nil, Nat.reduceAdd, Nat.reduceSub, Array.replicate_succ, Array.replicate_zero, List.push_toArray, List.append_toArray, List.nil_append, List.cons_append]
  gi_wp2
  clear hc
  gi_loopw [7] (fun i wr => ∃ z : Nat, i = .int .i64 z ∧ z ≤ N ∧ Hid (VlJ W (.slice a N cc) vs J z wr)) (fun i _ => N - (intOf i).toNat)
  case atStart => exact ⟨0, rfl, by omega, H0.out⟩
  case round =>
    obtain ⟨z, rfl, hzN, HI⟩ := hrel
    by_cases hzl : z < N
    · have hzi : (z : Int) < (N : Int) := by omega
      have hzM : z < vs.length := by rw [HN.out]; exact hzl
      obtain ⟨a', c', he, -, -, h4, -⟩ := HI.out.row
      simp only [Value.slice.injEq] at he
      obtain ⟨rfl, -, rfl⟩ := he
      obtain ⟨b, o, rfl, d0⟩ := h4 z hzM
      have hbW : b < W.heap.size := by
        obtain ⟨a2, c2, he2, -, -, h42, -⟩ := HT.out.2.1
        simp only [Value.slice.injEq] at he2
        obtain ⟨rfl, -, rfl⟩ := he2
        obtain ⟨b2, o2, e2, d2⟩ := h42 z hzM
        cases e2
        exact block_lt d2
      have HYa := HY.out z wr hzM HI.out.out HI.out.size
      obtain ⟨ua, un, uc, hu⟩ : ∃ a n c, vs.getD z nilV = .slice a n c := HT.out.2.2 _ (by simp [List.getD, hzM])
      rw [hu] at d0 HYa
      clear h4 hu
      obtain ⟨fn, tmps, assign, body, hy, hR⟩ := HYa
      gi_wp2
      refine hR.mono ?_
      rintro e W6 ⟨hq, hc6⟩
      have H6 : Hid (W.heap.size ≤ W6.heap.size ∧ RdV W6 (.slice (some ⟨b, o, none⟩) N cc) vs) := by
        refine ⟨Nat.le_trans HI.out.size hc6.size, HI.out.row.via (fun k hk hlt => hc6.block hlt (fun e => ?_))⟩
        rcases e with e | e
        · exact HT.out.1 k hk e
        · simp only [Value.ownBlock, Option.some.injEq] at hk
          omega
      clear hc6 hy hR d0
      rcases hq with ⟨rfl, hj6⟩ | ⟨rfl, hx6⟩
      · have H7 : Hid (VlJ W (.slice (some ⟨b, o, none⟩) N cc) vs J (z + 1) W6) := ⟨H6.out.1, H6.out.2, hj6⟩
        clear hj6 H6 HI
        gi_wp2
        go_roundw
        case rel => exact ⟨z + 1, by go_num, by omega, H7⟩
        case measure => simp [intOf]; omega
      · have HX := hidJ hx6
        clear hx6 H6 HI
        gi_wp2
        refine bodyPost_ret (results_none rfl _ _ _) rfl ?_
        exact ⟨⟨_, rfl⟩, .inr HX.out⟩
    · have hzi : ¬ (z : Int) < (N : Int) := by omega
      have HF : Hid (J vs wr) := by
        have q := HI.out.out
        rw [List.take_of_length_le (by rw [HN.out]; omega)] at q
        exact q
      clear HI HY HT
      gi_wp2
      first
        | (refine bodyPost_ret (results_none rfl _ _ _) rfl ?_
           exact ⟨⟨_, rfl⟩, .inl HF.out⟩)
        | (go_end0
           exact ⟨⟨_, rfl⟩, .inl HF.out⟩)

/-- a row of label sets between two rounds: the box, what is put off, the record, the row behind -/
structure SqJ (w : World) (rc : Loop) (l : List Value) (W : World) : Prop where
  old : w.grownBy W none
  place : w.heap.size + 3 ≤ W.heap.size
  df : W.heap[w.heap.size + 1]? = some (.deferred (some []))
  rcd : W.heap[w.heap.size + 2]? = some (.loop rc)
  row : ∃ vL, Boxed W w.heap.size 22 vL ∧ OwnVs W (w.heap.size + 3) vL l
section
variable {w W W' : World} {rc rc' : Loop} {l : List Value}
theorem SqJ.keep (h : SqJ w rc l W) (hg : W.grownBy W' none) : SqJ w rc l W' := by
  have hp := h.place
  have hz := hg.size
  obtain ⟨vL, c3, c4⟩ := h.row
  exact ⟨gb_none h.old hg, by omega, (hg.block _ (some_lt2 h.df) (by simp)).trans h.df, (hg.block _ (some_lt2 h.rcd) (by simp)).trans h.rcd, ⟨vL, c3.kept hg (by simp), c4.keep hg⟩⟩
theorem SqJ.put (h : SqJ w rc l W) : SqJ w rc' l (W.putObj (w.heap.size + 2) (.loop rc')) := by
  have hp := h.place
  have hc := putRec_ch W (w.heap.size + 2) (.loop rc')
  obtain ⟨vL, c3, c4⟩ := h.row
  refine ⟨gb_ch h.old hc (fun k e => by omega), by simpa using hp, (hc.block (some_lt2 h.df) (by omega)).trans h.df, World.putObj_heap_same (some_lt2 h.rcd), ⟨vL, bxch c3 hc (by omega), row_ch c4 hc (fun k hk e => ?_)⟩⟩
  have := (World.ownsRow.lt c4 k hk).1
  omega
/-- what is written in a round -/
def SqF (w : World) : Nat → Prop := fun k => k = w.heap.size ∨ w.heap.size + 3 ≤ k
theorem SqJ.more (u : Value) (h : SqJ w rc l W) (hl : l.length ≤ 6000000000000) (hu1 : u.oneCell' = true) :
    ∃ aL cL a2 c2 W2, W.cell? ⟨w.heap.size, 0, none⟩ = some (.slice aL l.length cL) ∧ (Builtin.append_ #[22, 22] 22 #[.slice aL l.length cL, .slice (some ⟨W.heap.size, 0, none⟩) 1 1]).run Tryz.prog (W.alloc (.cells #[u] 25)) = .ok (.slice a2 (l.length + 1) c2) W2 ∧
      W2.cell? ⟨w.heap.size, 0, none⟩ = some (.slice aL l.length cL) ∧ W2.frozen? ⟨w.heap.size, 0, none⟩ = false ∧ SqJ w rc (l ++ [u]) (W2.setCell ⟨w.heap.size, 0, none⟩ (.slice a2 (l.length + 1) c2)) ∧ Ch W (W2.setCell ⟨w.heap.size, 0, none⟩ (.slice a2 (l.length + 1) c2)) (SqF w) ∧ (W2.setCell ⟨w.heap.size, 0, none⟩ (.slice a2 (l.length + 1) c2)).cell? ⟨w.heap.size, 0, none⟩ = some (.slice a2 (l.length + 1) c2) := by
  have hp := h.place
  obtain ⟨vL, c3, c4⟩ := h.row
  have hal := World.grownBy_alloc W (.cells #[u] 25) none
  obtain ⟨a2, cc, W2, hrun, ho, hfr⟩ := OwnVs.push c4 u hu1 hl (by omega) hal rfl
  obtain ⟨aL, cL, rfl⟩ := c4.shape
  have hvL := World.ownsRow.lt c4
  have k1 : Ch W (W.alloc (.cells #[u] 25)) (fun k => (Value.slice aL l.length cL).ownBlock = some k) := Ch.of_gb hal (fun k hk => by cases hk)
  have k2 : Ch W W2 (fun k => (Value.slice aL l.length cL).ownBlock = some k) := k1.trans (Ch.of_gb (S := fun k => (Value.slice aL l.length cL).ownBlock = some k) hfr.1 (fun k hk _ => hk)) (fun _ _ e => e)
  have n1 : ∀ k, k < w.heap.size + 3 → ¬ (Value.slice aL l.length cL).ownBlock = some k := fun k hk e => by have := (hvL k e).1; omega
  have bL := bxch c3 k2 (n1 _ (by omega))
  have k3 := set_ch W2 w.heap.size 0 (.slice a2 (l.length + 1) cc)
  have hz2' := k2.size
  have hz3 : (W2.setCell ⟨w.heap.size, 0, none⟩ (.slice a2 (l.length + 1) cc)).heap.size = W2.heap.size := by simp
  refine ⟨aL, cL, a2, cc, W2, c3.cell, hrun, bL.cell, bL.frozen, ?_, ?_, (bL.set _).cell⟩
  · have d1 := (k2.block (some_lt2 h.df) (n1 _ (by omega))).trans h.df
    have r1 := (k2.block (some_lt2 h.rcd) (n1 _ (by omega))).trans h.rcd
    refine ⟨gb_ch (gb_ch h.old k2 (fun k e => by have := (hvL k e).1; omega)) k3 (fun k e => by omega), by omega, (k3.block (some_lt2 d1) (by omega)).trans d1, (k3.block (some_lt2 r1) (by omega)).trans r1, ⟨.slice a2 (l.length + 1) cc, bL.set _, ?_⟩⟩
    refine row_ch (show OwnVs W2 (w.heap.size + 3) (.slice a2 (l.length + 1) cc) (l ++ [u]) from ho) k3 (fun k hk e => ?_)
    have := (World.ownsRow.lt ho k hk).1
    omega
  · refine (k2.mono (T := SqF w) (fun k _ e => ?_)).trans k3 (fun k _ e => ?_)
    · have := (hvL k e).1
      unfold SqF
      omega
    · have e' : k = w.heap.size := e
      unfold SqF
      omega
/-- how it ends -/
theorem SqJ.fin (h : SqJ w rc l W) : W.heap[w.heap.size + 1]? = some (.deferred (some [])) ∧ ∃ a n c, W.cell? ⟨w.heap.size, 0, none⟩ = some (.slice a n c) ∧ OwnVs (W.putObj (w.heap.size + 1) (.deferred none)) (w.heap.size + 3) (.slice a n c) l ∧ w.grownBy (W.putObj (w.heap.size + 1) (.deferred none)) none := by
  obtain ⟨vL, c3, c4⟩ := h.row
  have hp := h.place
  have k2 := putRec_ch W (w.heap.size + 1) (.deferred none)
  obtain ⟨a, c, rfl⟩ := c4.shape
  refine ⟨h.df, a, _, c, c3.cell, row_ch c4 k2 (fun k hk e => ?_), gb_ch h.old k2 (fun k e => by omega)⟩
  have := (World.ownsRow.lt c4 k hk).1
  omega
end
end Go.Proofs.YtbnieljkadcaoabGreatDoor
