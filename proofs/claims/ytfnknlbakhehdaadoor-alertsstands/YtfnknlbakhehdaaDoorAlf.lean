/-
  Who hears of alerts and lays them in a row: between two rounds. Plain facts.
-/
import Derived.Test.YtfnknlbakhehdaaDoorAle
namespace Go.Proofs.YtfnknlbakhehdaaDoor
open Go.RowKit Go.Shelf Go.Sort Go.Maps Go.WideMaps

/-- a row of alerts between two rounds -/
structure CnJ (w : World) (ag : Nat) (t0 : TypeId) (p : Int) (rc : Loop) (l : List AlX) (W : World) : Prop where
  old : w.grownBy W none
  place : w.heap.size + 2 ≤ ag ∧ ag + 2 ≤ W.heap.size
  b0 : Boxed W w.heap.size t0 (.int .i64 p)
  df : W.heap[ag]? = some (.deferred (some []))
  rcd : W.heap[ag + 1]? = some (.loop rc)
  row : ∃ vL, Boxed W (w.heap.size + 1) 38 vL ∧ OwnX W (ag + 2) vL l
  lab : ∀ x ∈ l, OwnL W (ag + 2) x.1 x.2.lbs
section
variable {w W W' : World} {ag : Nat} {t0 : TypeId} {p : Int} {rc rc' : Loop} {l : List AlX}
theorem CnJ.keep (h : CnJ w ag t0 p rc l W) (hg : W.grownBy W' none) : CnJ w ag t0 p rc l W' := by
  have hp := h.place
  have hz := hg.size
  obtain ⟨vL, c3, c4⟩ := h.row
  exact ⟨gb_none h.old hg, by omega, h.b0.kept hg (by simp), (hg.block _ (some_lt2 h.df) (by simp)).trans h.df, (hg.block _ (some_lt2 h.rcd) (by simp)).trans h.rcd, ⟨vL, c3.kept hg (by simp), c4.keep hg⟩, fun x hx => (h.lab x hx).keep hg⟩
theorem CnJ.put (h : CnJ w ag t0 p rc l W) : CnJ w ag t0 p rc' l (W.putObj (ag + 1) (.loop rc')) := by
  have hp := h.place
  have hc := putRec_ch W (ag + 1) (.loop rc')
  obtain ⟨vL, c3, c4⟩ := h.row
  refine ⟨gb_ch h.old hc (fun k e => by omega), by simpa using hp, bxch h.b0 hc (by omega), (hc.block (some_lt2 h.df) (by omega)).trans h.df, World.putObj_heap_same (some_lt2 h.rcd), ⟨vL, bxch c3 hc (by omega), row_ch c4 hc (fun k hk e => ?_)⟩, fun x hx => row_ch (h.lab x hx) hc (fun k hk e => ?_)⟩
  · have := (World.ownsRow.lt c4 k hk).1
    omega
  · have := ((h.lab x hx).lt k hk).1
    omega
/-- what is written in a round -/
def CnF (w : World) (ag : Nat) : Nat → Prop := fun k => k = w.heap.size + 1 ∨ ag + 2 ≤ k
theorem CnJ.more (u : Value) (a : AlR) (h : CnJ w ag t0 p rc l W) (hl : l.length ≤ 1000) (hu : OwnL W (ag + 2) u a.lbs) :
    ∃ aL cL a2 c2 W2, W.cell? ⟨w.heap.size + 1, 0, none⟩ = some (.slice aL l.length cL) ∧ (Builtin.append_ #[38, 38] 38 #[.slice aL l.length cL, .slice (some ⟨W.heap.size, 0, none⟩) 1 1]).run Tryd.prog (W.alloc (.cells #[u, .int .i64 a.st, .int .i64 a.en] 34)) = .ok (.slice a2 (l.length + 1) c2) W2 ∧
      W2.cell? ⟨w.heap.size + 1, 0, none⟩ = some (.slice aL l.length cL) ∧ W2.frozen? ⟨w.heap.size + 1, 0, none⟩ = false ∧ CnJ w ag t0 p rc (l ++ [(u, a)]) (W2.setCell ⟨w.heap.size + 1, 0, none⟩ (.slice a2 (l.length + 1) c2)) ∧ Ch W (W2.setCell ⟨w.heap.size + 1, 0, none⟩ (.slice a2 (l.length + 1) c2)) (CnF w ag) ∧ (W2.setCell ⟨w.heap.size + 1, 0, none⟩ (.slice a2 (l.length + 1) c2)).cell? ⟨w.heap.size + 1, 0, none⟩ = some (.slice a2 (l.length + 1) c2) := by
  have hp := h.place
  obtain ⟨vL, c3, c4⟩ := h.row
  have hal := World.grownBy_alloc W (.cells #[u, .int .i64 a.st, .int .i64 a.en] 34) none
  have hu1 : u.oneCell' = true := by obtain ⟨a', c', rfl⟩ := hu.shape; rfl
  obtain ⟨a2, cc, W2, hrun, ho, hfr⟩ := OwnX.push c4 (u, a) hu1 (by omega) (by omega) hal rfl
  obtain ⟨aL, cL, rfl⟩ := c4.shape
  have hvL := World.ownsRow.lt c4
  have k1 : Ch W (W.alloc (.cells #[u, .int .i64 a.st, .int .i64 a.en] 34)) (fun k => (Value.slice aL l.length cL).ownBlock = some k) := Ch.of_gb hal (fun k hk => by cases hk)
  have k2 : Ch W W2 (fun k => (Value.slice aL l.length cL).ownBlock = some k) := k1.trans (Ch.of_gb (S := fun k => (Value.slice aL l.length cL).ownBlock = some k) hfr.1 (fun k hk _ => hk)) (fun _ _ e => e)
  have n1 : ∀ k, k < ag + 2 → ¬ (Value.slice aL l.length cL).ownBlock = some k := fun k hk e => by have := (hvL k e).1; omega
  have bL := bxch c3 k2 (n1 _ (by omega))
  have k3 := set_ch W2 (w.heap.size + 1) 0 (.slice a2 (l.length + 1) cc)
  have hz2' := k2.size
  have hz3 : (W2.setCell ⟨w.heap.size + 1, 0, none⟩ (.slice a2 (l.length + 1) cc)).heap.size = W2.heap.size := by simp
  have nl : ∀ (v : Value) (ls : List LbT), OwnL W (ag + 2) v ls → ∀ k, v.ownBlock = some k → ¬ (Value.slice aL l.length cL).ownBlock = some k := fun v ls hv k hk e => by
    obtain ⟨cur, h1⟩ := row_objE hv hk
    obtain ⟨cur', h2⟩ := row_objE c4 e
    rw [h1] at h2
    simp at h2
  refine ⟨aL, cL, a2, cc, W2, c3.cell, hrun, bL.cell, bL.frozen, ?_, ?_, (bL.set _).cell⟩
  · have d1 := (k2.block (some_lt2 h.df) (n1 _ (by omega))).trans h.df
    have r1 := (k2.block (some_lt2 h.rcd) (n1 _ (by omega))).trans h.rcd
    refine ⟨gb_ch (gb_ch h.old k2 (fun k e => by have := (hvL k e).1; omega)) k3 (fun k e => by omega), by omega, bxch (bxch h.b0 k2 (n1 _ (by omega))) k3 (by omega), (k3.block (some_lt2 d1) (by omega)).trans d1, (k3.block (some_lt2 r1) (by omega)).trans r1, ⟨.slice a2 (l.length + 1) cc, bL.set _, ?_⟩, fun x hx => ?_⟩
    · have e : (l ++ [(u, a)]).length = l.length + 1 := by simp
      refine row_ch (show OwnX W2 (ag + 2) (.slice a2 (l.length + 1) cc) (l ++ [(u, a)]) from ho) k3 (fun k hk e => ?_)
      have := (World.ownsRow.lt ho k hk).1
      omega
    · have hx0 : OwnL W (ag + 2) x.1 x.2.lbs := by
        rcases List.mem_append.1 hx with hx | hx
        · exact h.lab x hx
        · rw [List.mem_singleton] at hx
          subst hx
          exact hu
      have hx1 := row_ch hx0 k2 (fun k hk => nl _ _ hx0 k hk)
      exact row_ch hx1 k3 (fun k hk e => by have := (World.ownsRow.lt hx1 k hk).1; omega)
  · refine (k2.mono (T := CnF w ag) (fun k _ e => ?_)).trans k3 (fun k _ e => ?_)
    · have := (hvL k e).1
      unfold CnF
      omega
    · have e' : k = w.heap.size + 1 := e
      unfold CnF
      omega
/-- how it ends -/
theorem CnJ.fin (h : CnJ w ag t0 p rc l W) : W.heap[ag]? = some (.deferred (some [])) ∧ ∃ a n c, W.cell? ⟨w.heap.size + 1, 0, none⟩ = some (.slice a n c) ∧ OwnX (W.putObj ag (.deferred none)) (w.heap.size + 2) (.slice a n c) l ∧ (∀ x ∈ l, OwnL (W.putObj ag (.deferred none)) (w.heap.size + 2) x.1 x.2.lbs) ∧ w.grownBy (W.putObj ag (.deferred none)) none := by
  obtain ⟨vL, c3, c4⟩ := h.row
  have hp := h.place
  have k2 := putRec_ch W ag (.deferred none)
  obtain ⟨a, c, rfl⟩ := c4.shape
  refine ⟨h.df, a, _, c, c3.cell, OwnX.mono (base := ag + 2) (row_ch c4 k2 (fun k hk e => ?_)) (by omega), fun x hx => OwnL.mono (base := ag + 2) (row_ch (h.lab x hx) k2 (fun k hk e => ?_)) (by omega), gb_ch h.old k2 (fun k e => by omega)⟩
  · have := (World.ownsRow.lt c4 k hk).1
    omega
  · have := ((h.lab x hx).lt k hk).1
    omega
end
/-- a set, or none -/
def PtrA (w : World) (pv : Value) (M : List AlR) : Prop := (pv = .pointer none ∧ M = []) ∨ ∃ S gx R most, pv = .pointer (some ⟨gx, 0, none⟩) ∧ PrjOK w S gx R most M ∧ ∀ k, S k → k < w.heap.size
theorem PtrA.keep {w w' : World} {pv : Value} {M : List AlR} (h : PtrA w pv M) (hg : w.grownBy w' none) : PtrA w' pv M := by
  rcases h with h | ⟨S, gx, R, most, h1, h2, h3⟩
  · exact .inl h
  · exact .inr ⟨S, gx, R, most, h1, h2.keep hg, fun k hk => Nat.lt_of_lt_of_le (h3 k hk) hg.size⟩
theorem allP_any (w w0 : World) (pv : Value) (M : List AlR) (h : PtrA w0 pv M) (hw : w0.grownBy w none) :
    Calls Tryd.prog 10 #[pv] w fun e w' => ∃ c v hv, e = .returned (.func (.func 25) #[] #[.pointer (some ⟨c, 0, none⟩)]) ∧ w.heap.size ≤ c ∧ Boxed w' c 38 v ∧ OwnX w' w.heap.size v (xsM hv M) ∧ (∀ a ∈ M, RdL w' (hv a.lbs) a.lbs) ∧ (∀ a ∈ M, a.lbs.length ≤ 16) ∧ M.length ≤ 500 ∧ (∀ a ∈ M, ∀ k, (hv a.lbs).ownBlock = some k → k < w0.heap.size) ∧ w.grownBy w' none := by
  rcases h with ⟨rfl, rfl⟩ | ⟨S, gx, R, most, rfl, ⟨gm, D, hv, h2⟩, h3⟩
  · refine (all_nil w).mono ?_
    rintro e w' ⟨c, v, q1, q2, q3, q4, q5⟩
    exact ⟨c, v, fun _ => .slice none 0 0, q1, q2, q3, q4, (fun a ha => by cases ha), (fun a ha => by cases ha), by simp, (fun a ha => by cases ha), q5⟩
  · have hk := h2.keep hw
    refine (all_any w S gx R most M gm D hv hk (fun k hk => Nat.lt_of_lt_of_le (h3 k hk) hw.size)).mono ?_
    rintro e w' ⟨c, v, q1, q2, q3, q4, q5⟩
    have hm := h2.ok.2.2.2
    exact ⟨c, v, hv, q1, q2, q3, q4, fun a ha => ((hk.keep q5).each a ha).1, fun a ha => (right_short (h2.ok.2.1 a ha)).1, by omega, fun a ha k hk' => h3 k ((h2.each a ha).2 k hk').1, q5⟩
end Go.Proofs.YtfnknlbakhehdaaDoor
