/-
  Nf1, Nf2, Nf3, in one text.
-/
import Derived.Test.YtpglhdnepmcahaaGreatDoorNfX
/- Nf1 -/
namespace Go.Proofs.YtpglhdnepmcahaaGreatDoor
open Go.RowKit Go.Shelf

def nilV : Value := .slice none 0 0
theorem RdL.nil (w : World) : RdL w nilV [] := ⟨none, 0, rfl, Nat.le_refl _, by unfold maxLen; omega, fun j hj => by simp at hj, fun _ => rfl⟩
theorem RdL.shape {w : World} {v : Value} {ls : List LbT} (h : RdL w v ls) : ∃ a c, v = .slice a ls.length c := by
  obtain ⟨a, c, h, _⟩ := h
  exact ⟨a, c, h⟩
theorem RdL.one {w : World} {v : Value} {ls : List LbT} (h : RdL w v ls) : v.oneCell' = true := by
  obtain ⟨a, c, rfl⟩ := h.shape
  rfl
/-- the value is a slice of these cells -/
def RdV (w : World) (v : Value) (vs : List Value) : Prop :=
  ∃ a c, v = .slice a vs.length c ∧ vs.length ≤ c ∧ c ≤ maxLen ∧ (∀ j, j < vs.length → ∃ b o, a = some ⟨b, o, none⟩ ∧ w.cell? ⟨b, o + j, none⟩ = some (vs.getD j nilV)) ∧ (a = none → c = 0)
theorem RdV.keep {w w' : World} {v : Value} {vs : List Value} (h : RdV w v vs) (hg : w.grownBy w' none) : RdV w' v vs := by
  obtain ⟨a, c, h1, h2, h3, h4, h5⟩ := h
  refine ⟨a, c, h1, h2, h3, fun j hj => ?_, h5⟩
  obtain ⟨b, o, e, c0⟩ := h4 j hj
  exact ⟨b, o, e, (World.cell?_of_block (hg.block b (block_lt c0) (by simp))).trans c0⟩
theorem RdV.nil (w : World) : RdV w nilV [] := ⟨none, 0, rfl, Nat.le_refl _, by unfold maxLen; omega, fun j hj => by simp at hj, fun _ => rfl⟩
theorem RdV.via {w w' : World} {v : Value} {vs : List Value} (h : RdV w v vs) (hk : ∀ k, v.ownBlock = some k → k < w.heap.size → w'.heap[k]? = w.heap[k]?) : RdV w' v vs := by
  obtain ⟨a, c, rfl, h2, h3, h4, h5⟩ := h
  refine ⟨a, c, rfl, h2, h3, fun j hj => ?_, h5⟩
  obtain ⟨b, o, rfl, c0⟩ := h4 j hj
  exact ⟨b, o, rfl, (World.cell?_of_block (hk b rfl (block_lt c0))).trans c0⟩
/-- each of them reads as its labels -/
def RdS (w : World) (vs : List Value) (lss : List (List LbT)) : Prop := vs.length = lss.length ∧ ∀ j, RdL w (vs.getD j nilV) (lss.getD j [])
theorem RdS.keep {w w' : World} {vs : List Value} {lss : List (List LbT)} (h : RdS w vs lss) (hg : w.grownBy w' none) : RdS w' vs lss := ⟨h.1, fun j => (h.2 j).keep hg⟩
theorem RdS.nil (w : World) : RdS w [] [] := ⟨rfl, fun j => by simpa using RdL.nil w⟩
theorem RdS.one {w : World} {vs : List Value} {lss : List (List LbT)} (h : RdS w vs lss) : ∀ u ∈ vs, u.oneCell' = true := by
  intro u hu
  obtain ⟨j, hj, rfl⟩ := List.mem_iff_getElem.1 hu
  have := (h.2 j).one
  simpa [List.getD, hj] using this
/-- the value is a slice that reads as these label sets -/
def RdLL (w : World) (v : Value) (lss : List (List LbT)) : Prop := ∃ vs, RdV w v vs ∧ RdS w vs lss
theorem RdLL.keep {w w' : World} {v : Value} {lss : List (List LbT)} (h : RdLL w v lss) (hg : w.grownBy w' none) : RdLL w' v lss := by
  obtain ⟨vs, h1, h2⟩ := h
  exact ⟨vs, h1.keep hg, h2.keep hg⟩
theorem RdLL.nil (w : World) : RdLL w nilV [] := ⟨[], RdV.nil w, RdS.nil w⟩
theorem RdLL.shape {w : World} {v : Value} {lss : List (List LbT)} (h : RdLL w v lss) : ∃ a c, v = .slice a lss.length c ∧ lss.length ≤ c ∧ c ≤ 9223372036854775807 := by
  obtain ⟨vs, ⟨a, c, h1, h2, h3, -⟩, h4, -⟩ := h
  rw [h4] at h1 h2
  unfold maxLen at h3
  exact ⟨a, c, h1, h2, h3⟩
/-- one of them -/
theorem RdLL.at {w : World} {a : Option Addr} {n c : Nat} {lss : List (List LbT)} (h : RdLL w (.slice a n c) lss) {j : Nat} (hj : j < lss.length) : ∃ b o a' c', a = some ⟨b, o, none⟩ ∧ w.cell? ⟨b, o + j, none⟩ = some (.slice a' (lss.getD j []).length c') ∧ RdL w (.slice a' (lss.getD j []).length c') (lss.getD j []) := by
  obtain ⟨vs, ⟨a1, c1, h1, h2, h3, h4, h5⟩, h6, h7⟩ := h
  simp only [Value.slice.injEq] at h1
  obtain ⟨rfl, rfl, rfl⟩ := h1
  obtain ⟨b, o, rfl, c0⟩ := h4 j (by omega)
  have h8 := h7 j
  obtain ⟨a', c', e⟩ := h8.shape
  rw [e] at h8 c0
  exact ⟨b, o, a', c', rfl, c0, h8⟩
/-- all of their texts can be -/
def LLIn (lss : List (List LbT)) : Prop := lss.length ≤ 1000000000000000000 ∧ ∀ j, LbIn (lss.getD j [])
theorem LbIn.nil : LbIn [] := ⟨by simp, fun j => by simp⟩
/-- all right -/
def allR (lss : List (List LbT)) : Bool := lss.all fun l => decide ((rightS l).1 = 0)
/-- a row of label sets of the call's own -/
def OwnVs (w : World) (base : Nat) (v : Value) (vs : List Value) : Prop := w.ownsRow base 52 1 v vs.length vs
theorem infoLs : (Tryz.prog.info? 52).map (fun i => (i.zero, i.size, i.bytes)) = some (some (.slice none 0 0), 1, 24) := by kernel_rfl
theorem OwnVs.nil (w : World) (base : Nat) : OwnVs w base (.slice none 0 0) [] := World.ownsRow_nil w base _ _
theorem OwnVs.keep {w w' : World} {base : Nat} {v : Value} {vs : List Value} (h : OwnVs w base v vs) (hg : w.grownBy w' none) : OwnVs w' base v vs := World.ownsRow.kept h hg (by cases v.ownBlock <;> simp)
theorem OwnVs.lt {w : World} {base : Nat} {v : Value} {vs : List Value} (h : OwnVs w base v vs) : ∀ k, v.ownBlock = some k → base ≤ k ∧ k < w.heap.size := World.ownsRow.lt h
theorem OwnVs.shape {w : World} {base : Nat} {v : Value} {vs : List Value} (h : OwnVs w base v vs) : ∃ a c, v = .slice a vs.length c := by
  rcases h.2 with ⟨rfl, hn⟩ | ⟨g, cap, cur, rfl, _⟩
  · exact ⟨none, 0, by rw [hn]⟩
  · exact ⟨_, _, rfl⟩
theorem OwnVs.mono {w : World} {base base' : Nat} {v : Value} {vs : List Value} (h : OwnVs w base v vs) (hb : base' ≤ base) : OwnVs w base' v vs := by
  obtain ⟨h1, h2⟩ := h
  refine ⟨h1, ?_⟩
  rcases h2 with h2 | ⟨g, cap, cur, hv, hg, r⟩
  · exact .inl h2
  · exact .inr ⟨g, cap, cur, hv, by omega, r⟩
theorem OwnVs.rd {w : World} {base : Nat} {v : Value} {vs : List Value} (h : OwnVs w base v vs) : RdV w v vs := by
  have h0 := h
  rcases h.2 with ⟨rfl, hn⟩ | ⟨g, cap, cur, rfl, hg, hh, hnc, hcm, hcs, ht⟩
  · have : vs = [] := List.eq_nil_of_length_eq_zero hn
    subst this
    exact RdV.nil w
  · refine ⟨_, _, rfl, hnc, hcm, fun j hj => ⟨g, 0, rfl, ?_⟩, fun h => by cases h⟩
    have := World.ownsRow.cellAt h0 j (by omega)
    rw [Nat.zero_add, this]
    simp [List.getD, hj]
/-- one more -/
theorem OwnVs.push {W X : World} {base : Nat} {v : Value} {vs : List Value} (h : OwnVs W base v vs) (x : Value) (hx : x.oneCell' = true) (hl : vs.length ≤ 6000000000000) (hb : base ≤ W.heap.size) (hX : W.grownBy X none) (hh : X.heap = (W.alloc (.cells #[x] 52)).heap) :
    ∃ a2 c2 W2, (Builtin.append_ #[32, 32] 32 #[v, .slice (some ⟨W.heap.size, 0, none⟩) 1 1]).run Tryz.prog X = .ok (.slice a2 (vs.length + 1) c2) W2 ∧ OwnVs W2 base (.slice a2 (vs.length + 1) c2) (vs ++ [x]) ∧ Fr X W2 v (.slice a2 (vs.length + 1) c2) := by
  obtain ⟨i0, hi, hz0, hz1, hz2⟩ := info_parts infoLs
  have hnew : X.heap[W.heap.size]? = some (.cells #[x] 52 (0, 0)) := by rw [hh]; exact Go.heap_alloc_new W _
  have hsz : X.heap.size = W.heap.size + 1 := by rw [hh]; simp
  obtain ⟨v2, W2, hrun, ho, hfr⟩ := run_appH X 32 32 52 i0 _ 1 24 base Tryz.underlying32 hi hz0 hz1 hz2 rfl (by decide) v vs.length vs (World.ownsRow.kept h hX (by cases v.ownBlock <;> simp)) (some ⟨W.heap.size, 0, none⟩) 1 1 [x] rfl
    (fun j u hj => by
      refine ⟨_, rfl, ?_⟩
      rw [Go.WideShapes.add_plain]
      simp only [World.cell?, hnew]
      simpa using hj) (fun e => by cases e) (fun u hu => by rw [List.mem_singleton] at hu; subst hu; exact hx) (by omega) (by omega) (by omega)
  obtain ⟨a2, cc, rfl⟩ : ∃ a c, v2 = .slice a (vs.length + 1) c := by
    rcases ho.2 with ⟨e, e2⟩ | ⟨b, cap, cur, e, -⟩
    · omega
    · exact ⟨_, _, e⟩
  refine ⟨a2, cc, W2, hrun, ?_, hfr⟩
  unfold OwnVs
  rw [List.length_append]
  exact ho
end Go.Proofs.YtpglhdnepmcahaaGreatDoor

/- Nf2 -/
namespace Go.Proofs.YtpglhdnepmcahaaGreatDoor
open Go.RowKit Go.Shelf Go.Sort

attribute [local go_sem] Oper.semAt_some

/-- Values' function between two rounds -/
structure VlJ (W : World) (v : Value) (vs : List Value) (J : List Value → World → Prop) (z : Nat) (wr : World) : Prop where
  size : W.heap.size ≤ wr.heap.size
  row : RdV wr v vs
  out : J (vs.take z) wr

set_option maxRecDepth 100000 in
set_option maxHeartbeats 6400000 in
theorem val1_any (n : Nat) (hn : 2 ≤ n) (lp c : Nat) (v : Value) (vs : List Value) (W : World) (T : Nat → Prop) (hc : W.cell? ⟨c, 0, none⟩ = some v) (hrow : RdV W v vs) (hone : ∀ u ∈ vs, ∃ a n c, u = .slice a n c) (hT : ∀ k, v.ownBlock = some k → ¬ T k)
    (J : List Value → World → Prop) (Jx : World → Prop) (h0 : J [] W)
    (hY : ∀ z W0, z < vs.length → J (vs.take z) W0 → W.heap.size ≤ W0.heap.size → YieldAt Fence.wide (n - 1) Tryz.prog lp #[vs.getD z nilV] W0 fun e W' => ((e = .returned (.bool true) ∧ J (vs.take (z + 1)) W') ∨ (e = .returned (.bool false) ∧ Jx W')) ∧ Ch W0 W' (fun k => T k ∨ W.heap.size ≤ k)) :
    CallsIn Fence.wide n Tryz.prog 143 (#[.func (.yield lp) #[] #[]] ++ #[.pointer (some ⟨c, 0, none⟩)]) W fun e W' => (∃ x, e = .returned x) ∧ (J vs W' ∨ Jx W') := by
  have HY := hidJ hY
  have HT := hidJ (And.intro hT (And.intro hrow hone))
  have H0 : Hid (VlJ W v vs J 0 W) := ⟨Nat.le_refl _, hrow, h0⟩
  obtain ⟨a, cc, rfl, hl1, hl2, -, -⟩ := hrow
  unfold maxLen at hl2
  obtain ⟨N, hN⟩ : ∃ N, vs.length = N := ⟨_, rfl⟩
  have HN := hidJ hN
  rw [hN] at hc H0 HT hl1
  clear h0 hY hT hN hone
  have hn1 : 1 ≤ n := by omega
  refine callsIn_of_wp Tryz.func143 rfl trivial ?_ rfl
  simp only [Tryz.ntmps143, List.size_toArray, List.length_cons, List.length_nil, Nat.reduceAdd, Nat.reduceSub, Array.replicate_succ, Array.replicate_zero, List.push_toArray, List.append_toArray, List.nil_append, List.cons_append]
  gi_wp2
  clear hc
  gi_loopw [7] (fun i wr => ∃ z : Nat, i = .int .i64 z ∧ z ≤ N ∧ Hid (VlJ W (.slice a N cc) vs J z wr)) (fun i _ => N - (intOf i).toNat)
  case atStart => exact ⟨0, rfl, by omega, H0.out⟩
  case round =>
    obtain ⟨z, rfl, hzN, HI⟩ := hrel
    by_cases hzl : z < N
    · have hzi : (z : Int) < (N : Int) := by omega
      have hzM : z < vs.length := by rw [HN.out]; exact hzl
      obtain ⟨a', c', he, -, -, h4, -⟩ := HI.out.row
      simp only [Value.slice.injEq] at he
      obtain ⟨rfl, -, rfl⟩ := he
      obtain ⟨b, o, rfl, d0⟩ := h4 z hzM
      have hbW : b < W.heap.size := by
        obtain ⟨a2, c2, he2, -, -, h42, -⟩ := HT.out.2.1
        simp only [Value.slice.injEq] at he2
        obtain ⟨rfl, -, rfl⟩ := he2
        obtain ⟨b2, o2, e2, d2⟩ := h42 z hzM
        cases e2
        exact block_lt d2
      have HYa := HY.out z wr hzM HI.out.out HI.out.size
      obtain ⟨ua, un, uc, hu⟩ : ∃ a n c, vs.getD z nilV = .slice a n c := HT.out.2.2 _ (by simp [List.getD, hzM])
      rw [hu] at d0 HYa
      clear h4 hu
      obtain ⟨fn, tmps, assign, body, hy, hR⟩ := HYa
      gi_wp2
      refine hR.mono ?_
      rintro e W6 ⟨hq, hc6⟩
      have H6 : Hid (W.heap.size ≤ W6.heap.size ∧ RdV W6 (.slice (some ⟨b, o, none⟩) N cc) vs) := by
        refine ⟨Nat.le_trans HI.out.size hc6.size, HI.out.row.via (fun k hk hlt => hc6.block hlt (fun e => ?_))⟩
        rcases e with e | e
        · exact HT.out.1 k hk e
        · simp only [Value.ownBlock, Option.some.injEq] at hk
          omega
      clear hc6 hy hR d0
      rcases hq with ⟨rfl, hj6⟩ | ⟨rfl, hx6⟩
      · have H7 : Hid (VlJ W (.slice (some ⟨b, o, none⟩) N cc) vs J (z + 1) W6) := ⟨H6.out.1, H6.out.2, hj6⟩
        clear hj6 H6 HI
        gi_wp2
        go_roundw
        case rel => exact ⟨z + 1, by go_num, by omega, H7⟩
        case measure => simp [intOf]; omega
      · have HX := hidJ hx6
        clear hx6 H6 HI
        gi_wp2
        refine bodyPost_ret (results_none rfl _ _ _) rfl ?_
        exact ⟨⟨_, rfl⟩, .inr HX.out⟩
    · have hzi : ¬ (z : Int) < (N : Int) := by omega
      have HF : Hid (J vs wr) := by
        have q := HI.out.out
        rw [List.take_of_length_le (by rw [HN.out]; omega)] at q
        exact q
      clear HI HY HT
      gi_wp2
      first
        | (refine bodyPost_ret (results_none rfl _ _ _) rfl ?_
           exact ⟨⟨_, rfl⟩, .inl HF.out⟩)
        | (go_end0
           exact ⟨⟨_, rfl⟩, .inl HF.out⟩)

/-- a row of label sets between two rounds: the box, what is put off, the record, the row behind -/
structure SqJ (w : World) (rc : Loop) (l : List Value) (W : World) : Prop where
  old : w.grownBy W none
  place : w.heap.size + 3 ≤ W.heap.size
  df : W.heap[w.heap.size + 1]? = some (.deferred (some []))
  rcd : W.heap[w.heap.size + 2]? = some (.loop rc)
  row : ∃ vL, Boxed W w.heap.size 32 vL ∧ OwnVs W (w.heap.size + 3) vL l
section
variable {w W W' : World} {rc rc' : Loop} {l : List Value}
theorem SqJ.keep (h : SqJ w rc l W) (hg : W.grownBy W' none) : SqJ w rc l W' := by
  have hp := h.place
  have hz := hg.size
  obtain ⟨vL, c3, c4⟩ := h.row
  exact ⟨gb_none h.old hg, by omega, (hg.block _ (some_lt2 h.df) (by simp)).trans h.df, (hg.block _ (some_lt2 h.rcd) (by simp)).trans h.rcd, ⟨vL, c3.kept hg (by simp), c4.keep hg⟩⟩
theorem SqJ.put (h : SqJ w rc l W) : SqJ w rc' l (W.putObj (w.heap.size + 2) (.loop rc')) := by
  have hp := h.place
  have hc := putRec_ch W (w.heap.size + 2) (.loop rc')
  obtain ⟨vL, c3, c4⟩ := h.row
  refine ⟨gb_ch h.old hc (fun k e => by omega), by simpa using hp, (hc.block (some_lt2 h.df) (by omega)).trans h.df, World.putObj_heap_same (some_lt2 h.rcd), ⟨vL, bxch c3 hc (by omega), row_ch c4 hc (fun k hk e => ?_)⟩⟩
  have := (World.ownsRow.lt c4 k hk).1
  omega
/-- what is written in a round -/
def SqF (w : World) : Nat → Prop := fun k => k = w.heap.size ∨ w.heap.size + 3 ≤ k
theorem SqJ.more (u : Value) (h : SqJ w rc l W) (hl : l.length ≤ 6000000000000) (hu1 : u.oneCell' = true) :
    ∃ aL cL a2 c2 W2, W.cell? ⟨w.heap.size, 0, none⟩ = some (.slice aL l.length cL) ∧ (Builtin.append_ #[32, 32] 32 #[.slice aL l.length cL, .slice (some ⟨W.heap.size, 0, none⟩) 1 1]).run Tryz.prog (W.alloc (.cells #[u] 52)) = .ok (.slice a2 (l.length + 1) c2) W2 ∧
      W2.cell? ⟨w.heap.size, 0, none⟩ = some (.slice aL l.length cL) ∧ W2.frozen? ⟨w.heap.size, 0, none⟩ = false ∧ SqJ w rc (l ++ [u]) (W2.setCell ⟨w.heap.size, 0, none⟩ (.slice a2 (l.length + 1) c2)) ∧ Ch W (W2.setCell ⟨w.heap.size, 0, none⟩ (.slice a2 (l.length + 1) c2)) (SqF w) ∧ (W2.setCell ⟨w.heap.size, 0, none⟩ (.slice a2 (l.length + 1) c2)).cell? ⟨w.heap.size, 0, none⟩ = some (.slice a2 (l.length + 1) c2) := by
  have hp := h.place
  obtain ⟨vL, c3, c4⟩ := h.row
  have hal := World.grownBy_alloc W (.cells #[u] 52) none
  obtain ⟨a2, cc, W2, hrun, ho, hfr⟩ := OwnVs.push c4 u hu1 hl (by omega) hal rfl
  obtain ⟨aL, cL, rfl⟩ := c4.shape
  have hvL := World.ownsRow.lt c4
  have k1 : Ch W (W.alloc (.cells #[u] 52)) (fun k => (Value.slice aL l.length cL).ownBlock = some k) := Ch.of_gb hal (fun k hk => by cases hk)
  have k2 : Ch W W2 (fun k => (Value.slice aL l.length cL).ownBlock = some k) := k1.trans (Ch.of_gb (S := fun k => (Value.slice aL l.length cL).ownBlock = some k) hfr.1 (fun k hk _ => hk)) (fun _ _ e => e)
  have n1 : ∀ k, k < w.heap.size + 3 → ¬ (Value.slice aL l.length cL).ownBlock = some k := fun k hk e => by have := (hvL k e).1; omega
  have bL := bxch c3 k2 (n1 _ (by omega))
  have k3 := set_ch W2 w.heap.size 0 (.slice a2 (l.length + 1) cc)
  have hz2' := k2.size
  have hz3 : (W2.setCell ⟨w.heap.size, 0, none⟩ (.slice a2 (l.length + 1) cc)).heap.size = W2.heap.size := by simp
  refine ⟨aL, cL, a2, cc, W2, c3.cell, hrun, bL.cell, bL.frozen, ?_, ?_, (bL.set _).cell⟩
  · have d1 := (k2.block (some_lt2 h.df) (n1 _ (by omega))).trans h.df
    have r1 := (k2.block (some_lt2 h.rcd) (n1 _ (by omega))).trans h.rcd
    refine ⟨gb_ch (gb_ch h.old k2 (fun k e => by have := (hvL k e).1; omega)) k3 (fun k e => by omega), by omega, (k3.block (some_lt2 d1) (by omega)).trans d1, (k3.block (some_lt2 r1) (by omega)).trans r1, ⟨.slice a2 (l.length + 1) cc, bL.set _, ?_⟩⟩
    refine row_ch (show OwnVs W2 (w.heap.size + 3) (.slice a2 (l.length + 1) cc) (l ++ [u]) from ho) k3 (fun k hk e => ?_)
    have := (World.ownsRow.lt ho k hk).1
    omega
  · refine (k2.mono (T := SqF w) (fun k _ e => ?_)).trans k3 (fun k _ e => ?_)
    · have := (hvL k e).1
      unfold SqF
      omega
    · have e' : k = w.heap.size := e
      unfold SqF
      omega
/-- how it ends -/
theorem SqJ.fin (h : SqJ w rc l W) : W.heap[w.heap.size + 1]? = some (.deferred (some [])) ∧ ∃ a n c, W.cell? ⟨w.heap.size, 0, none⟩ = some (.slice a n c) ∧ OwnVs (W.putObj (w.heap.size + 1) (.deferred none)) (w.heap.size + 3) (.slice a n c) l ∧ w.grownBy (W.putObj (w.heap.size + 1) (.deferred none)) none := by
  obtain ⟨vL, c3, c4⟩ := h.row
  have hp := h.place
  have k2 := putRec_ch W (w.heap.size + 1) (.deferred none)
  obtain ⟨a, c, rfl⟩ := c4.shape
  refine ⟨h.df, a, _, c, c3.cell, row_ch c4 k2 (fun k hk e => ?_), gb_ch h.old k2 (fun k e => by omega)⟩
  have := (World.ownsRow.lt c4 k hk).1
  omega
end
end Go.Proofs.YtpglhdnepmcahaaGreatDoor

/- Nf3 -/
namespace Go.Proofs.YtpglhdnepmcahaaGreatDoor
open Go.RowKit Go.Shelf Go.Sort

attribute [local go_sem] Oper.semAt_some

set_option maxRecDepth 100000 in
set_option maxHeartbeats 6400000 in
theorem appSeq_in (n : Nat) (hn : 8 ≤ n) (w : World) (c : Nat) (v : Value) (vs : List Value) (hc : w.cell? ⟨c, 0, none⟩ = some v) (hrow : RdV w v vs) (hone : ∀ u ∈ vs, ∃ a n c, u = .slice a n c) (hl : vs.length ≤ 6000000000000) :
    CallsIn Fence.wide n Tryz.prog 146 #[.slice none 0 0, .func (.func 143) #[] #[.pointer (some ⟨c, 0, none⟩)]] w fun e w' => ∃ v', e = .returned v' ∧ OwnVs w' w.heap.size v' vs ∧ w.grownBy w' none := by
  have h1 : 1 ≤ n := by omega
  have HV := hidJ (And.intro hc (And.intro hrow (And.intro hone hl)))
  clear hc hrow hone hl
  refine callsIn_of_wp_marks Tryz.func146 rfl trivial ?_ rfl
  simp only [Tryz.ntmps146, List.size_toArray, List.length_cons, List.length_nil, Nat.reduceAdd, Nat.reduceSub, Array.replicate_succ, Array.replicate_zero, List.push_toArray, List.append_toArray, List.nil_append, List.cons_append]
  gi_wp2_with fail
  have HB0 := hidJ (Boxed.new w 32 (.slice none 0 0))
  have HG0 := hidJ (World.grownBy_alloc w (.cells #[.slice none 0 0] 32) none)
  have HZ0 : Hid ((w.alloc (.cells #[.slice none 0 0] 32)).heap.size = w.heap.size + 1) := by show _ = _; simp
  generalize w.alloc (.cells #[.slice none 0 0] 32) = W0 at *
  refine range_br (k := 0) rfl h1 (gf := 143) (lb := #[.pointer (some ⟨c, 0, none⟩)]) rfl trivial (enters_of Tryz.func143 (by kernel_rfl) rfl) ?_
  intro rc hfn hrd hpe hps htm has hbo
  rw [HZ0.out]
  have HS : Hid (((W0.alloc (.deferred (some []))).alloc (.loop rc)).heap.size = w.heap.size + 3 ∧ ((W0.alloc (.deferred (some []))).alloc (.loop rc)).heap[w.heap.size + 1]? = some (.deferred (some [])) ∧ ((W0.alloc (.deferred (some []))).alloc (.loop rc)).heap[w.heap.size + 2]? = some (.loop rc) ∧ W0.grownBy ((W0.alloc (.deferred (some []))).alloc (.loop rc)) none) := by
    have q2 := HZ0.out
    have k1 := World.grownBy_alloc W0 (.deferred (some [])) none
    have k2 := World.grownBy_alloc (W0.alloc (.deferred (some []))) (.loop rc) none
    have e1 := World.alloc_heap_new W0 (.deferred (some []))
    have e2 := World.alloc_heap_new (W0.alloc (.deferred (some []))) (.loop rc)
    rw [World.size_alloc] at e2
    rw [q2] at e1 e2
    exact ⟨by simp [q2], (k2.block _ (by simp [q2]) (by simp)).trans e1, e2, gb_none k1 k2⟩
  generalize (W0.alloc (.deferred (some []))).alloc (.loop rc) = Ws at *
  obtain ⟨s1, s2, s3, s4⟩ := HS.out
  have gWs : w.grownBy Ws none := gb_none HG0.out s4
  obtain ⟨p1, p2, p3, p4⟩ := HV.out
  have hvlt : ∀ k, v.ownBlock = some k → k < w.heap.size ∨ vs = [] := fun k hk => by
    obtain ⟨a, cc, rfl, q1, q2, q3, q4⟩ := p2
    cases vs with
    | nil => exact .inr rfl
    | cons x r =>
      obtain ⟨b, o, rfl, d⟩ := q3 0 (by simp)
      simp only [Value.ownBlock, Option.some.injEq] at hk
      subst hk
      exact .inl (block_lt d)
  refine CallsIn.mono (val1_any (n - 1) (by omega) (w.heap.size + 2) c v vs Ws (fun k => vs ≠ [] ∧ (k = w.heap.size ∨ k = w.heap.size + 2)) ?cell ?row p3 ?hT (fun l W' => SqJ w rc l W') (fun _ => False) ?h0 ?hY) ?post
  case cell => exact (World.cell?_of_block (gWs.block c (block_lt p1) (by simp))).trans p1
  case row => exact p2.keep gWs
  case hT =>
    rintro k hk ⟨hne, e⟩
    rcases hvlt k hk with h | h
    · omega
    · exact hne h
  case h0 => exact ⟨gWs, by omega, s2, s3, ⟨_, HB0.out.kept s4 (by simp), OwnVs.nil _ _⟩⟩
  case hY =>
    intro z Wr hz hj hsz
    have hne : vs ≠ [] := fun e => by rw [e] at hz; simp at hz
    obtain ⟨ua, un, uc, hu⟩ : ∃ a n c, vs.getD z nilV = .slice a n c := p3 _ (by simp [List.getD, hz])
    have htk : vs.take (z + 1) = vs.take z ++ [.slice ua un uc] := by
      rw [List.take_succ_eq_append_getElem hz]
      have : vs.getD z nilV = vs[z] := by simp [List.getD, hz]
      rw [← this, hu]
    rw [hu, s1]
    refine YieldAt.mono (yield_br (k := 0) (R := fun W' => SqJ w rc (vs.take (z + 1)) W' ∧ Ch Wr W' (fun k => (k = w.heap.size ∨ k = w.heap.size + 2) ∨ w.heap.size + 3 ≤ k)) (Rx := fun _ => False) has hbo hps htm hj.rcd hrd rfl hfn ?_) ?_
    · clear has hbo hps htm
      have hB0 := hj.put (rc' := { rc with state := .busy })
      have hcb := putRec_ch Wr (w.heap.size + 2) (.loop { rc with state := .busy })
      have HRC := hidJ hj.rcd
      have HCB := hidJ hcb
      have hlen : (vs.take z).length ≤ 6000000000000 := by rw [List.length_take]; omega
      obtain ⟨aL, cL, a2, c2, W4, r1, r2, r3, r4, r5, r6, r7⟩ := hB0.more (.slice ua un uc) hlen rfl
      have HX := hidJ (And.intro hrd (And.intro hpe htk))
      have H5 := hidJ (And.intro r5 r6)
      clear hB0 hcb hj hrd hpe hfn r5 r6 hlen htk
      obtain ⟨nl, hnl⟩ : ∃ nl, (vs.take z).length = nl := ⟨_, rfl⟩
      rw [hnl] at r1 r2 r3 r7
      have HNL := hidJ hnl
      clear hnl
      gi_wp2
      refine ⟨HRC.out, ?_⟩
      generalize Wr.putObj (w.heap.size + 2) (.loop { rc with state := .busy }) = Wb at *
      clear HRC
      gi_wp2_with (gi_at_builtin; refine wpIn_appRun rfl _ _ 32 rfl _ _ _ rfl rfl r2 ?_)
      have hfin := H5.out
      rw [HNL.out] at hfin
      have hp := hfin.1.place
      refine ⟨hfin.1.rcd, ?_, ?_⟩
      · have := hfin.1.put (rc' := { rc with state := .ready, pending := none })
        rw [ready_same HX.out.1 HX.out.2.1] at this ⊢
        rw [HX.out.2.2]
        exact this
      · refine ((HCB.out.mono (T := fun k => (k = w.heap.size ∨ k = w.heap.size + 2) ∨ w.heap.size + 3 ≤ k) (fun k _ e => by omega)).trans hfin.2 (fun k _ e => by unfold SqF at e; omega)).trans (putRec_ch _ _ _) (fun k _ e => by omega)
    · rintro e W' (⟨q1, q2, q4⟩ | ⟨q1, q2⟩)
      · exact ⟨.inl ⟨q1, q2⟩, q4.mono (fun k _ e => by rcases e with e | e; exact .inl ⟨hne, e⟩; exact .inr e)⟩
      · exact q2.elim
  case post =>
    rintro e W' ⟨⟨x, rfl⟩, hq⟩
    refine ⟨⟨x, rfl⟩, ?_⟩
    rcases hq with hj | hq
    · refine .inl ⟨hj.rcd, ?_⟩
      have hj7 := hj.put (rc' := { rc with state := .exhausted })
      clear has hbo hps htm hrd hpe hfn hj
      generalize W'.putObj (w.heap.size + 2) (.loop { rc with state := .exhausted }) = W7 at *
      obtain ⟨d1, a', n', c', z0, z1, z2⟩ := hj7.fin
      have HZ := hidJ (And.intro d1 (And.intro z1 z2))
      clear d1 z1 z2 hj7
      gi_wp2
      refine ⟨by simp, .inl ⟨_, _, rfl, run_takeDeferred HZ.out.1, ?_⟩⟩
      refine ⟨_, results_tmp rfl _ _ _, ?_⟩
      exact ⟨.slice a' n' c', rfl, HZ.out.2.1.mono (by omega), HZ.out.2.2⟩
    · exact hq.elim
theorem appSeq_any (w : World) (c : Nat) (v : Value) (vs : List Value) (hc : w.cell? ⟨c, 0, none⟩ = some v) (hrow : RdV w v vs) (hone : ∀ u ∈ vs, ∃ a n c, u = .slice a n c) (hl : vs.length ≤ 6000000000000) :
    Calls Tryz.prog 146 #[.slice none 0 0, .func (.func 143) #[] #[.pointer (some ⟨c, 0, none⟩)]] w fun e w' => ∃ v', e = .returned v' ∧ OwnVs w' w.heap.size v' vs ∧ w.grownBy w' none := callsIn_wide.1 (appSeq_in 8 (by omega) w c v vs hc hrow hone hl)
set_option maxHeartbeats 1600000 in
theorem collect_any (w : World) (c : Nat) (v : Value) (vs : List Value) (hc : w.cell? ⟨c, 0, none⟩ = some v) (hrow : RdV w v vs) (hone : ∀ u ∈ vs, ∃ a n c, u = .slice a n c) (hl : vs.length ≤ 6000000000000) :
    Calls Tryz.prog 141 #[.func (.func 143) #[] #[.pointer (some ⟨c, 0, none⟩)]] w fun e w' => ∃ v', e = .returned v' ∧ OwnVs w' w.heap.size v' vs ∧ w.grownBy w' none := by
  have HA := hidJ (appSeq_any w c v vs hc hrow hone hl)
  clear hc hrow hone hl
  go_enter Tryz.func141, Tryz.ntmps141
  go_wp2_with fail
  refine HA.out.mono ?_
  rintro e w1 ⟨v', rfl, H1⟩
  have H1 := hidJ H1
  obtain ⟨a', c', rfl⟩ := H1.out.1.shape
  clear HA
  go_wp2
  go_ret
  exact ⟨_, rfl, H1.out⟩
end Go.Proofs.YtpglhdnepmcahaaGreatDoor
