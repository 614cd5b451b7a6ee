/-
  Rows of alerts in memory; All: the walk.
-/
import Derived.Test.YtfnknlbakhehdaaDoorAla
namespace Go.Proofs.YtfnknlbakhehdaaDoor
open Go.RowKit Go.Shelf Go.Sort Go.Maps Go.WideMaps

/-- an alert with the slice of its labels -/
abbrev AlX := Value × AlR
def xZ : AlX := (.slice none 0 0, alZ)
def alc (x : AlX) : List Value := [x.1, .int .i64 x.2.st, .int .i64 x.2.en]
def alf (xs : List AlX) : List Value := xs.flatMap alc
theorem alf_len (xs : List AlX) : (alf xs).length = xs.length * 3 := by
  induction xs with
  | nil => rfl
  | cons o xs ih =>
    have : alf (o :: xs) = alc o ++ alf xs := rfl
    rw [this, List.length_append, ih]
    simp [alc]
    omega
theorem alf_append (a b : List AlX) : alf (a ++ b) = alf a ++ alf b := by simp [alf]
theorem alf_get (xs : List AlX) : ∀ j f, j < xs.length → f < 3 → (alf xs)[j * 3 + f]? = (alc (xs.getD j xZ))[f]? := by
  induction xs with
  | nil => intro j f hj; simp at hj
  | cons o xs ih =>
    intro j f hj hf
    have e : alf (o :: xs) = alc o ++ alf xs := rfl
    have hl : (alc o).length = 3 := rfl
    rw [e]
    cases j with
    | zero =>
      rw [Nat.zero_mul, Nat.zero_add, List.getElem?_append_left (by omega)]
      rfl
    | succ j =>
      rw [List.getElem?_append_right (by omega), hl]
      have e2 : (j + 1) * 3 + f - 3 = j * 3 + f := by omega
      rw [e2, ih j f (by simpa using hj) hf]
      rfl
theorem infoAl : (Tryd.prog.info? 34).map (fun i => (i.zero, i.size, i.bytes)) = some (some zAl, 3, 40) := by kernel_rfl
/-- a row of alerts of the call's own -/
def OwnX (w : World) (base : Nat) (v : Value) (xs : List AlX) : Prop := w.ownsRow base 34 3 v xs.length (alf xs)
theorem OwnX.nil (w : World) (base : Nat) : OwnX w base (.slice none 0 0) [] := World.ownsRow_nil w base _ _
theorem OwnX.shape {w : World} {base : Nat} {v : Value} {xs : List AlX} (h : OwnX w base v xs) : ∃ a c, v = .slice a xs.length c := by
  rcases h.2 with ⟨rfl, hn⟩ | ⟨g, cap, cur, rfl, _⟩
  · exact ⟨none, 0, by rw [hn]⟩
  · exact ⟨_, _, rfl⟩
theorem OwnX.keep {w w' : World} {base : Nat} {v : Value} {xs : List AlX} (h : OwnX w base v xs) (hg : w.grownBy w' none) : OwnX w' base v xs := World.ownsRow.kept h hg (by cases v.ownBlock <;> simp)
theorem OwnX.lt {w : World} {base : Nat} {v : Value} {xs : List AlX} (h : OwnX w base v xs) : ∀ k, v.ownBlock = some k → base ≤ k ∧ k < w.heap.size := World.ownsRow.lt h
theorem OwnX.mono {w : World} {base base' : Nat} {v : Value} {xs : List AlX} (h : OwnX w base v xs) (hb : base' ≤ base) : OwnX w base' v xs := by
  obtain ⟨h1, h2⟩ := h
  refine ⟨h1, ?_⟩
  rcases h2 with h2 | ⟨g, cap, cur, hv, hg, r⟩
  · exact .inl h2
  · exact .inr ⟨g, cap, cur, hv, by omega, r⟩
/-- its cells -/
theorem OwnX.cells {w : World} {base : Nat} {v : Value} {xs : List AlX} (h : OwnX w base v xs) {j : Nat} (hj : j < xs.length) : ∃ g c, v = .slice (some ⟨g, 0, none⟩) xs.length c ∧ xs.length ≤ c ∧ w.cell? ⟨g, j * 3, none⟩ = some (xs.getD j xZ).1 ∧ w.cell? ⟨g, j * 3 + 1, none⟩ = some (.int .i64 (xs.getD j xZ).2.st) ∧ w.cell? ⟨g, j * 3 + 2, none⟩ = some (.int .i64 (xs.getD j xZ).2.en) := by
  have h0 := h
  rcases h.2 with ⟨-, hn⟩ | ⟨g, cap, cur, rfl, hg, hh, hnc, hcm, hcs, ht⟩
  · omega
  · have hc := fun f (hf : f < 3) => World.ownsRow.cellAt h0 (j * 3 + f) (by omega)
    have e := fun f (hf : f < 3) => (hc f hf).trans (alf_get xs j f hj hf)
    exact ⟨g, cap, rfl, hnc, e 0 (by omega), e 1 (by omega), e 2 (by omega)⟩
theorem oneX {x : AlX} (h : x.1.oneCell' = true) : ∀ u ∈ alc x, u.oneCell' = true := by
  intro u hu
  unfold alc at hu
  simp only [List.mem_cons, List.not_mem_nil, or_false] at hu
  rcases hu with rfl | rfl | rfl
  · exact h
  · rfl
  · rfl
/-- one more -/
theorem OwnX.push {W X : World} {base : Nat} {v : Value} {xs : List AlX} (h : OwnX W base v xs) (x : AlX) (hx : x.1.oneCell' = true) (hl : xs.length ≤ 1000000) (hb : base ≤ W.heap.size) (hX : W.grownBy X none) (hh : X.heap = (W.alloc (.cells (alc x).toArray 34)).heap) :
    ∃ a2 c2 W2, (Builtin.append_ #[38, 38] 38 #[v, .slice (some ⟨W.heap.size, 0, none⟩) 1 1]).run Tryd.prog X = .ok (.slice a2 (xs.length + 1) c2) W2 ∧ OwnX W2 base (.slice a2 (xs.length + 1) c2) (xs ++ [x]) ∧ Fr X W2 v (.slice a2 (xs.length + 1) c2) := by
  obtain ⟨i0, hi, hz0, hz1, hz2⟩ := info_parts infoAl
  have hnew : X.heap[W.heap.size]? = some (.cells (alc x).toArray 34 (0, 0)) := by rw [hh]; exact Go.heap_alloc_new W _
  have hsz : X.heap.size = W.heap.size + 1 := by rw [hh]; simp
  obtain ⟨v2, W2, hrun, ho, hfr⟩ := run_appH X 38 38 34 i0 _ 3 40 base Tryd.underlying38 hi hz0 hz1 hz2 rfl (by decide) v xs.length (alf xs) (World.ownsRow.kept h hX (by cases v.ownBlock <;> simp)) (some ⟨W.heap.size, 0, none⟩) 1 1 (alc x) rfl
    (fun j u hj => by
      refine ⟨_, rfl, ?_⟩
      rw [Go.WideShapes.add_plain]
      simp only [World.cell?, hnew]
      simpa using hj) (fun e => by cases e) (oneX hx) (by omega) (by omega) (by omega)
  obtain ⟨a2, cc, rfl⟩ : ∃ a c, v2 = .slice a (xs.length + 1) c := by
    rcases ho.2 with ⟨e, e2⟩ | ⟨b, cap, cur, e, -⟩
    · omega
    · exact ⟨_, _, e⟩
  refine ⟨a2, cc, W2, hrun, ?_, hfr⟩
  have e : alf (xs ++ [x]) = alf xs ++ alc x := by rw [alf_append]; simp [alf]
  unfold OwnX
  rw [e, List.length_append]
  exact ho
/-- the set's alerts with their slices -/
def xsM (hv : List LbT → Value) (M : List AlR) : List AlX := M.map fun a => (hv a.lbs, a)
theorem xsM_len (hv : List LbT → Value) (M : List AlR) : (xsM hv M).length = M.length := by simp [xsM]
theorem xsM_take {hv : List LbT → Value} {M : List AlR} {z : Nat} (hz : z < M.length) : (xsM hv M).take (z + 1) = (xsM hv M).take z ++ [(hv (M.getD z alZ).lbs, M.getD z alZ)] := by
  rw [List.take_succ_eq_append_getElem (by rw [xsM_len]; exact hz)]
  congr 1
  simp [xsM, hz]
theorem getA_mem {M : List AlR} {z : Nat} (hz : z < M.length) : M.getD z alZ ∈ M := by
  simp [List.getD, hz]
theorem OwnK.keep {M : List AlR} {w w' : World} {base : Nat} {v : Value} {os : List AlR} (h : OwnK M w base v os) (hg : w.grownBy w' none) : OwnK M w' base v os := World.ownsRow.kept h hg (by cases v.ownBlock <;> simp)
theorem OwnK.cell {M : List AlR} {w : World} {base g n c : Nat} {os : List AlR} (h : OwnK M w base (.slice (some ⟨g, 0, none⟩) n c) os) {z : Nat} (hz : z < os.length) : w.cell? ⟨g, z, none⟩ = some (encK M (os.getD z alZ)) := by
  rcases h.2 with ⟨h', _⟩ | ⟨g', cap', cur, h', _⟩
  · simp at h'
  · simp only [Value.slice.injEq] at h'
    obtain ⟨-, h2, -⟩ := h'
    subst h2
    have := World.ownsRow.cellAt h z (by omega)
    rw [this]
    simp [List.getD, hz]
/-- All between two rounds -/
structure AllJ (w : World) (hv : List LbT → Value) (M : List AlR) (g n c : Nat) (z : Nat) (wr : World) : Prop where
  old : w.grownBy wr none
  keys : OwnK M wr (w.heap.size + 1) (.slice (some ⟨g, 0, none⟩) n c) M
  row : ∃ v, Boxed wr w.heap.size 38 v ∧ OwnX wr (w.heap.size + 1) v ((xsM hv M).take z)
theorem AllJ.ne {w wr : World} {hv : List LbT → Value} {M : List AlR} {g n c z : Nat} (h : AllJ w hv M g n c z wr) {v : Value} (hv' : OwnX wr (w.heap.size + 1) v ((xsM hv M).take z)) : v.ownBlock ≠ some g := fun e => by
  obtain ⟨cur, h1⟩ := row_objE hv' e
  obtain ⟨cur', h2⟩ := row_objE h.keys (k := g) rfl
  rw [h1] at h2
  simp at h2
end Go.Proofs.YtfnknlbakhehdaaDoor
