/-
  Lists of label sets in memory. Plain facts.
-/
import Derived.Test.YtbnieljkadcaoabGreatDoorNfG
namespace Go.Proofs.YtbnieljkadcaoabGreatDoor
open Go.RowKit Go.Shelf

def nilV : Value := .slice none 0 0
theorem RdL.nil (w : World) : RdL w nilV [] := ⟨none, 0, rfl, Nat.le_refl _, by unfold maxLen; omega, fun j hj => by simp at hj, fun _ => rfl⟩
theorem RdL.shape {w : World} {v : Value} {ls : List LbT} (h : RdL w v ls) : ∃ a c, v = .slice a ls.length c := by
  obtain ⟨a, c, h, _⟩ := h
  exact ⟨a, c, h⟩
theorem RdL.one {w : World} {v : Value} {ls : List LbT} (h : RdL w v ls) : v.oneCell' = true := by
  obtain ⟨a, c, rfl⟩ := h.shape
  rfl
/-- the value is a slice of these cells -/
def RdV (w : World) (v : Value) (vs : List Value) : Prop :=
  ∃ a c, v = .slice a vs.length c ∧ vs.length ≤ c ∧ c ≤ maxLen ∧ (∀ j, j < vs.length → ∃ b o, a = some ⟨b, o, none⟩ ∧ w.cell? ⟨b, o + j, none⟩ = some (vs.getD j nilV)) ∧ (a = none → c = 0)
theorem RdV.keep {w w' : World} {v : Value} {vs : List Value} (h : RdV w v vs) (hg : w.grownBy w' none) : RdV w' v vs := by
  obtain ⟨a, c, h1, h2, h3, h4, h5⟩ := h
  refine ⟨a, c, h1, h2, h3, fun j hj => ?_, h5⟩
  obtain ⟨b, o, e, c0⟩ := h4 j hj
  exact ⟨b, o, e, (World.cell?_of_block (hg.block b (block_lt c0) (by simp))).trans c0⟩
theorem RdV.nil (w : World) : RdV w nilV [] := ⟨none, 0, rfl, Nat.le_refl _, by unfold maxLen; omega, fun j hj => by simp at hj, fun _ => rfl⟩
theorem RdV.via {w w' : World} {v : Value} {vs : List Value} (h : RdV w v vs) (hk : ∀ k, v.ownBlock = some k → k < w.heap.size → w'.heap[k]? = w.heap[k]?) : RdV w' v vs := by
  obtain ⟨a, c, rfl, h2, h3, h4, h5⟩ := h
  refine ⟨a, c, rfl, h2, h3, fun j hj => ?_, h5⟩
  obtain ⟨b, o, rfl, c0⟩ := h4 j hj
  exact ⟨b, o, rfl, (World.cell?_of_block (hk b rfl (block_lt c0))).trans c0⟩
/-- each of them reads as its labels -/
def RdS (w : World) (vs : List Value) (lss : List (List LbT)) : Prop := vs.length = lss.length ∧ ∀ j, RdL w (vs.getD j nilV) (lss.getD j [])
theorem RdS.keep {w w' : World} {vs : List Value} {lss : List (List LbT)} (h : RdS w vs lss) (hg : w.grownBy w' none) : RdS w' vs lss := ⟨h.1, fun j => (h.2 j).keep hg⟩
theorem RdS.nil (w : World) : RdS w [] [] := ⟨rfl, fun j => by simpa using RdL.nil w⟩
theorem RdS.one {w : World} {vs : List Value} {lss : List (List LbT)} (h : RdS w vs lss) : ∀ u ∈ vs, u.oneCell' = true := by
  intro u hu
  obtain ⟨j, hj, rfl⟩ := List.mem_iff_getElem.1 hu
  have := (h.2 j).one
  simpa [List.getD, hj] using this
/-- the value is a slice that reads as these label sets -/
def RdLL (w : World) (v : Value) (lss : List (List LbT)) : Prop := ∃ vs, RdV w v vs ∧ RdS w vs lss
theorem RdLL.keep {w w' : World} {v : Value} {lss : List (List LbT)} (h : RdLL w v lss) (hg : w.grownBy w' none) : RdLL w' v lss := by
  obtain ⟨vs, h1, h2⟩ := h
  exact ⟨vs, h1.keep hg, h2.keep hg⟩
theorem RdLL.nil (w : World) : RdLL w nilV [] := ⟨[], RdV.nil w, RdS.nil w⟩
theorem RdLL.shape {w : World} {v : Value} {lss : List (List LbT)} (h : RdLL w v lss) : ∃ a c, v = .slice a lss.length c ∧ lss.length ≤ c ∧ c ≤ 9223372036854775807 := by
  obtain ⟨vs, ⟨a, c, h1, h2, h3, -⟩, h4, -⟩ := h
  rw [h4] at h1 h2
  unfold maxLen at h3
  exact ⟨a, c, h1, h2, h3⟩
/-- one of them -/
theorem RdLL.at {w : World} {a : Option Addr} {n c : Nat} {lss : List (List LbT)} (h : RdLL w (.slice a n c) lss) {j : Nat} (hj : j < lss.length) : ∃ b o a' c', a = some ⟨b, o, none⟩ ∧ w.cell? ⟨b, o + j, none⟩ = some (.slice a' (lss.getD j []).length c') ∧ RdL w (.slice a' (lss.getD j []).length c') (lss.getD j []) := by
  obtain ⟨vs, ⟨a1, c1, h1, h2, h3, h4, h5⟩, h6, h7⟩ := h
  simp only [Value.slice.injEq] at h1
  obtain ⟨rfl, rfl, rfl⟩ := h1
  obtain ⟨b, o, rfl, c0⟩ := h4 j (by omega)
  have h8 := h7 j
  obtain ⟨a', c', e⟩ := h8.shape
  rw [e] at h8 c0
  exact ⟨b, o, a', c', rfl, c0, h8⟩
/-- all of their texts can be -/
def LLIn (lss : List (List LbT)) : Prop := lss.length ≤ 1000000000000000000 ∧ ∀ j, LbIn (lss.getD j [])
theorem LbIn.nil : LbIn [] := ⟨by simp, fun j => by simp⟩
/-- all right -/
def allR (lss : List (List LbT)) : Bool := lss.all fun l => decide ((rightS l).1 = 0)
/-- a row of label sets of the call's own -/
def OwnVs (w : World) (base : Nat) (v : Value) (vs : List Value) : Prop := w.ownsRow base 25 1 v vs.length vs
theorem infoLs : (Tryz.prog.info? 25).map (fun i => (i.zero, i.size, i.bytes)) = some (some (.slice none 0 0), 1, 24) := by kernel_rfl
theorem OwnVs.nil (w : World) (base : Nat) : OwnVs w base (.slice none 0 0) [] := World.ownsRow_nil w base _ _
theorem OwnVs.keep {w w' : World} {base : Nat} {v : Value} {vs : List Value} (h : OwnVs w base v vs) (hg : w.grownBy w' none) : OwnVs w' base v vs := World.ownsRow.kept h hg (by cases v.ownBlock <;> simp)
theorem OwnVs.lt {w : World} {base : Nat} {v : Value} {vs : List Value} (h : OwnVs w base v vs) : ∀ k, v.ownBlock = some k → base ≤ k ∧ k < w.heap.size := World.ownsRow.lt h
theorem OwnVs.shape {w : World} {base : Nat} {v : Value} {vs : List Value} (h : OwnVs w base v vs) : ∃ a c, v = .slice a vs.length c := by
  rcases h.2 with ⟨rfl, hn⟩ | ⟨g, cap, cur, rfl, _⟩
  · exact ⟨none, 0, by rw [hn]⟩
  · exact ⟨_, _, rfl⟩
theorem OwnVs.mono {w : World} {base base' : Nat} {v : Value} {vs : List Value} (h : OwnVs w base v vs) (hb : base' ≤ base) : OwnVs w base' v vs := by
  obtain ⟨h1, h2⟩ := h
  refine ⟨h1, ?_⟩
  rcases h2 with h2 | ⟨g, cap, cur, hv, hg, r⟩
  · exact .inl h2
  · exact .inr ⟨g, cap, cur, hv, by omega, r⟩
theorem OwnVs.rd {w : World} {base : Nat} {v : Value} {vs : List Value} (h : OwnVs w base v vs) : RdV w v vs := by
  have h0 := h
  rcases h.2 with ⟨rfl, hn⟩ | ⟨g, cap, cur, rfl, hg, hh, hnc, hcm, hcs, ht⟩
  · have : vs = [] := List.eq_nil_of_length_eq_zero hn
    subst this
    exact RdV.nil w
  · refine ⟨_, _, rfl, hnc, hcm, fun j hj => ⟨g, 0, rfl, ?_⟩, fun h => by cases h⟩
    have := World.ownsRow.cellAt h0 j (by omega)
    rw [Nat.zero_add, this]
    simp [List.getD, hj]
/-- one more -/
theorem OwnVs.push {W X : World} {base : Nat} {v : Value} {vs : List Value} (h : OwnVs W base v vs) (x : Value) (hx : x.oneCell' = true) (hl : vs.length ≤ 6000000000000) (hb : base ≤ W.heap.size) (hX : W.grownBy X none) (hh : X.heap = (W.alloc (.cells #[x] 25)).heap) :
    ∃ a2 c2 W2, (Builtin.append_ #[22, 22] 22 #[v, .slice (some ⟨W.heap.size, 0, none⟩) 1 1]).run Tryz.prog X = .ok (.slice a2 (vs.length + 1) c2) W2 ∧ OwnVs W2 base (.slice a2 (vs.length + 1) c2) (vs ++ [x]) ∧ Fr X W2 v (.slice a2 (vs.length + 1) c2) := by
  obtain ⟨i0, hi, hz0, hz1, hz2⟩ := info_parts infoLs
  have hnew : X.heap[W.heap.size]? = some (.cells #[x] 25 (0, 0)) := by rw [hh]; exact Go.heap_alloc_new W _
  have hsz : X.heap.size = W.heap.size + 1 := by rw [hh]; simp
  obtain ⟨v2, W2, hrun, ho, hfr⟩ := run_appH X 22 22 25 i0 _ 1 24 base Tryz.underlying22 hi hz0 hz1 hz2 rfl (by decide) v vs.length vs (World.ownsRow.kept h hX (by cases v.ownBlock <;> simp)) (some ⟨W.heap.size, 0, none⟩) 1 1 [x] rfl
    (fun j u hj => by
      refine ⟨_, rfl, ?_⟩
      rw [Go.WideShapes.add_plain]
      simp only [World.cell?, hnew]
      simpa using hj) (fun e => by cases e) (fun u hu => by rw [List.mem_singleton] at hu; subst hu; exact hx) (by omega) (by omega) (by omega)
  obtain ⟨a2, cc, rfl⟩ : ∃ a c, v2 = .slice a (vs.length + 1) c := by
    rcases ho.2 with ⟨e, e2⟩ | ⟨b, cap, cur, e, -⟩
    · omega
    · exact ⟨_, _, e⟩
  refine ⟨a2, cc, W2, hrun, ?_, hfr⟩
  unfold OwnVs
  rw [List.length_append]
  exact ho
end Go.Proofs.YtbnieljkadcaoabGreatDoor
