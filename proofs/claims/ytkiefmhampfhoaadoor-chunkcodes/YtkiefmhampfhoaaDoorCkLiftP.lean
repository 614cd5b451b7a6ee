/-
  Lists of bytes among the arguments: how they read.
-/
import Derived.Test.YtkiefmhampfhoaaDoorCkLiftS
import Derived.Test.YtkiefmhampfhoaaDoorGH
namespace Go.Proofs.YtkiefmhampfhoaaDoor
open Go.ChangeShapes Go.WideShapes Go.ChangeAt Go.RowKit

theorem toU8 (zs : List Int) (h : ∀ n ∈ zs, (Lit.int .u8 n).wf = true) : ∃ l : List UInt8, zs = l.map fun b => (b.toNat : Int) := by
  induction zs with
  | nil => exact ⟨[], rfl⟩
  | cons z zs ih =>
    obtain ⟨l, rfl⟩ := ih (fun n hn => h n (List.mem_cons_of_mem _ hn))
    have hz : 0 ≤ z ∧ z ≤ 255 := by simpa [Lit.wf, IntKind.min, IntKind.max, IntKind.signed, IntKind.bits] using h z List.mem_cons_self
    refine ⟨UInt8.ofNat z.toNat :: l, ?_⟩
    simp only [List.map_cons, List.cons.injEq, and_true]
    rw [UInt8.toNat_ofNat']
    omega

theorem bulkAll_len {H : Type} (l : List (DataW H)) : l.length ≤ Rows.uptoBulkAll l := by
  induction l with
  | nil => simp [Rows.uptoBulkAll]
  | cons x r ih =>
    have h1 : 1 ≤ Rows.uptoBulk x := by
      cases x with
      | lit v => cases v <;> simp [Rows.uptoBulk]
      | _ => simp [Rows.uptoBulk]
    simp only [Rows.uptoBulkAll, List.length_cons]
    omega

set_option maxRecDepth 8000 in
theorem open_bytes {H : Type} {enc : TypeId × Value → H} {W : World} {base : Nat} {v : Value} {d : DataW H} {p : List MemPlace} (hval : Value.okWide Tryd.prog W .any base 36 v)
    (h : DataW.Trod enc Tryd.prog W 0 (fun _ => true) true 36 v d p) : ∃ l, Rd W v l ∧ l.length ≤ Rows.uptoBulk d ∧ ∃ n : Nat, l.length ≤ n ∧ (d = .nil ∧ n = 0 ∨ ∃ es sp, d = .slice es sp ∧ n = es.length + sp.length) := by
  obtain ⟨a0, len, cap, rfl⟩ := okWide_slice Tryd.underlying36 hval
  obtain ⟨fuel, hf⟩ := h
  rcases open_ints Tryd.underlying36 Tryd.underlying5 cellsU8 hf with ⟨hcs, hx⟩ | ⟨x, l, c, zs, hcs, _, hl, hm, hz, hx, hcell, hwz⟩
  · simp [Value.cells] at hcs
    obtain ⟨rfl, rfl, rfl⟩ := hcs
    simp only [Prod.mk.injEq] at hx
    exact ⟨[], Rd.nil W, by simp, 0, by simp, .inl ⟨hx.1, rfl⟩⟩
  · simp [Value.cells] at hcs
    obtain ⟨rfl, rfl, rfl⟩ := hcs
    simp only [Prod.mk.injEq] at hx
    obtain ⟨bs, rfl⟩ := toU8 zs hwz
    simp only [if_true, List.length_map] at hz hcell
    have hlt : (bs.take len).length = len := by simp; omega
    refine ⟨bs.take len, ⟨some x, cap, by rw [hlt], by rw [hlt]; exact hl, hm, ?_, fun h => by cases h⟩, ?_, bs.length, by rw [hlt]; omega, .inr ⟨_, _, hx.1, ?_⟩⟩
    · intro j hj
      rw [hlt] at hj
      have h0 := hcell 0 (by omega)
      obtain ⟨b, off, spot⟩ := x
      have hspot : spot = none := by simpa [Addr.add] using World.cell?_spot h0
      subst hspot
      refine ⟨b, off, rfl, ?_⟩
      have hj' : j < bs.length := by omega
      have := hcell j hj'
      rw [Go.WideShapes.add_plain] at this
      rw [this]
      simp [hj, hj']
    · rw [hx.1]
      have := bulkAll_len (lits (H := H) .u8 (((bs.map fun b => (b.toNat : Int))).take len))
      simp only [Rows.uptoBulk]
      simp only [lits, List.length_map, List.length_take] at this ⊢
      omega
    · simp [lits]
      omega

set_option maxRecDepth 8000 in
/-- an argument of bytes reads behind the call as it did -/
theorem back_bytes {H : Type} {enc : TypeId × Value → H} {W W' : World} {v : Value} {d : DataW H} {p : List MemPlace} (h : DataW.Trod enc Tryd.prog W 0 (fun _ => true) true 36 v d p) (hb : Below W.heap.size W W') :
    DataW.Trod enc Tryd.prog W' 0 (fun b => decide (b < W.heap.size)) true 36 v d p :=
  Below.trod laidOut (by kernel_rfl) (of_decide_eq_true (by kernel_rfl)) h hb (by obtain ⟨m, hm⟩ := h; exact DataW.trod_lt m _ _ _ hm)

theorem bytesU8 : Tryd.prog.bytesOf 5 = 1 := by kernel_rfl
set_option maxRecDepth 8000 in
/-- the form's own reach, of an argument of bytes -/
theorem sz_bytes {H : Type} {ts : List TypeId} {ds : List (DataW H)} (hk : (DataW.weightsEach Tryd.prog ts ds).all (· ≤ reachBytes) = true) (j : Nat) {d : DataW H} (ht : ts[j]? = some 36) (hd : ds[j]? = some d) {l : List UInt8} {n : Nat}
    (hl : l.length ≤ n) (nd : d = .nil ∧ n = 0 ∨ ∃ es sp, d = .slice es sp ∧ n = es.length + sp.length) : l.length ≤ 140737488351232 := by
  rcases nd with ⟨-, rfl⟩ | ⟨es, sp, rfl, rfl⟩
  · omega
  · have := sized_slice hk (j := j) (t := 36) (e := 5) ht hd Tryd.underlying36
    rw [bytesU8] at this
    simp only [reachBytes] at this
    omega

/-- what an argument weighs is within reach -/
def Wt {H : Type} (t : TypeId) (d : DataW H) : Prop := ∀ n ∈ d.weights Tryd.prog t, n ≤ reachBytes
theorem Wt.of {H : Type} {ts : List TypeId} {ds : List (DataW H)} (hk : (DataW.weightsEach Tryd.prog ts ds).all (· ≤ reachBytes) = true) (j : Nat) {t : TypeId} {d : DataW H} (ht : ts[j]? = some t) (hd : ds[j]? = some d) : Wt t d := fun n hn => by
  simpa using List.all_eq_true.1 hk n (DataW.weights_mem_each ht hd n hn)
theorem Wt.elem {H : Type} {t e : TypeId} {elems spare : List (DataW H)} (h : Wt t (.slice elems spare)) (hu : Tryd.prog.underlying t = some (.slice e)) : (elems.length + spare.length) * Tryd.prog.bytesOf e ≤ reachBytes ∧ ∀ d ∈ elems, Wt e d := by
  have hmem : ∀ (l : List (DataW H)) (d : DataW H), d ∈ l → ∀ n ∈ d.weights Tryd.prog e, n ∈ DataW.weightsAll Tryd.prog e l := by
    intro l
    induction l with
    | nil => intro d hd; cases hd
    | cons y l ih =>
      intro d hd n hn
      simp only [DataW.weightsAll, List.mem_append]
      cases hd with
      | head => exact .inl hn
      | tail _ h => exact .inr (ih d h n hn)
  refine ⟨h _ (by simp [DataW.weights, hu]), fun d hd n hn => h n ?_⟩
  simp only [DataW.weights, hu, List.mem_cons, List.mem_append]
  exact .inr (.inl (hmem _ d hd n hn))
theorem cellsB : Tryd.prog.cellsOf 36 = 1 := by kernel_rfl
set_option maxRecDepth 8000 in
theorem bytes_cellW {H : Type} {enc : TypeId × Value → H} {W : World} {fuel : Nat} {u : Value} {x : DataW H × List MemPlace} (hw : Wt 36 x.1) (hf : DataW.trod enc Tryd.prog W 0 (fun _ => true) true fuel 36 [u] = some x) : ∃ l, Rd W u l ∧ l.length ≤ 140737488351232 := by
  rcases open_ints Tryd.underlying36 Tryd.underlying5 cellsU8 hf with ⟨hcs, hx⟩ | ⟨ad, l, c, zs, hcs, _, hl, hm, hz, hx, hcell, hwz⟩
  · simp only [List.cons.injEq, and_true] at hcs
    subst hcs
    exact ⟨[], Rd.nil W, by simp⟩
  · simp only [List.cons.injEq, and_true] at hcs
    subst hcs
    rw [hx] at hw
    have hwe := (Wt.elem hw Tryd.underlying36).1
    rw [bytesU8] at hwe
    obtain ⟨bs, rfl⟩ := toU8 zs hwz
    simp only [if_true, List.length_map] at hz hcell
    have hlt : (bs.take l).length = l := by simp; omega
    refine ⟨bs.take l, ⟨some ad, c, by rw [hlt], by rw [hlt]; exact hl, hm, ?_, fun h => by cases h⟩, ?_⟩
    · intro j hj
      rw [hlt] at hj
      have h0 := hcell 0 (by omega)
      obtain ⟨b, off, spot⟩ := ad
      have hspot : spot = none := by simpa [Addr.add] using World.cell?_spot h0
      subst hspot
      refine ⟨b, off, rfl, ?_⟩
      have hj' : j < bs.length := by omega
      have := hcell j hj'
      rw [Go.WideShapes.add_plain] at this
      rw [this]
      simp [hj, hj']
    · simp only [lits, List.length_map, List.length_take, List.length_drop, reachBytes] at hwe ⊢
      omega
set_option maxRecDepth 8000 in
theorem open_bss {H : Type} {enc : TypeId × Value → H} {W : World} {base : Nat} {v : Value} {d : DataW H} {p : List MemPlace} (hw : Wt 51 d) (hval : Value.okWide Tryd.prog W .any base 51 v)
    (h : DataW.Trod enc Tryd.prog W 0 (fun _ => true) true 51 v d p) : ∃ ps : List (List UInt8), RdBs W v ps.length (fun j => ps.getD j []) ∧ ∀ j, j < ps.length → (ps.getD j []).length ≤ 140737488351232 := by
  obtain ⟨a0, len, cap, rfl⟩ := okWide_slice Tryd.underlying51 hval
  obtain ⟨fuel, hf⟩ := h
  rcases Go.Deep.open_slice Tryd.underlying51 hf with ⟨hcs, hx⟩ | ⟨a, l, c, m, n, D, Pl, hcs, hb, hl, hm, hmm, hx, hel⟩
  · simp [Value.cells] at hcs
    obtain ⟨rfl, rfl, rfl⟩ := hcs
    exact ⟨[], ⟨none, 0, rfl, by simp, by simp [maxLen], fun j hj => by simp at hj⟩, fun j hj => by simp at hj⟩
  · simp [Value.cells] at hcs
    obtain ⟨rfl, rfl, rfl⟩ := hcs
    simp only [if_true] at hmm
    have hd : d = .slice ((List.range len).map D) ((List.range (m - len)).map fun j => D (len + j)) := by
      have := congrArg Prod.fst hx
      exact this
    rw [hd] at hw
    have hwe := (Wt.elem hw Tryd.underlying51).2
    have each : ∀ j, j < len → ∃ q : Value × List UInt8, W.cell? (a.add j) = some q.1 ∧ Rd W q.1 q.2 ∧ q.2.length ≤ 140737488351232 := by
      intro j hj
      obtain ⟨cs', h1, h2⟩ := hel j (by omega)
      rw [cellsB, Nat.mul_one] at h1
      obtain ⟨_, hlen, hcell⟩ := World.cells?_some h1
      match cs', hlen with
      | [u], _ =>
        have e0 := hcell 0 (by omega)
        obtain ⟨lu, hu, hb⟩ := bytes_cellW (hwe (D j) (List.mem_map.2 ⟨j, List.mem_range.2 hj, rfl⟩)) h2
        exact ⟨(u, lu), by rw [Go.Deep.add_add] at e0; simpa using e0, hu, hb⟩
    obtain ⟨q, hq⟩ := Go.Deep.choose_lt (α := Value × List UInt8) each
    have hg : ∀ j, j < len → ((List.range len).map fun j => (q j).2).getD j [] = (q j).2 := fun j hj => by simp [List.getD, hj]
    refine ⟨(List.range len).map fun j => (q j).2, ⟨some a, cap, by simp, by simp; omega, hm, fun j hj => ?_⟩, fun j hj => ?_⟩
    · simp only [List.length_map, List.length_range] at hj
      obtain ⟨h0, h1, -⟩ := hq j hj
      have h00 := (hq 0 (by omega)).1
      obtain ⟨b, off, spot⟩ := a
      have hspot : spot = none := by simpa [Addr.add] using World.cell?_spot h00
      subst hspot
      rw [Go.WideShapes.add_plain] at h0
      obtain ⟨ax, cx, e, -⟩ := id h1
      rw [e] at h0 h1
      exact ⟨b, off, ax, _, cx, rfl, h0, by show Rd W _ (((List.range len).map fun j => (q j).2).getD j []); rw [hg j hj]; exact h1⟩
    · simp only [List.length_map, List.length_range] at hj
      rw [hg j hj]
      exact (hq j hj).2.2
theorem back_bss {H : Type} {enc : TypeId × Value → H} {W W' : World} {v : Value} {d : DataW H} {p : List MemPlace} (h : DataW.Trod enc Tryd.prog W 0 (fun _ => true) true 51 v d p) (hb : Below W.heap.size W W') :
    DataW.Trod enc Tryd.prog W' 0 (fun b => decide (b < W.heap.size)) true 51 v d p :=
  Below.trod laidOut (by kernel_rfl) (of_decide_eq_true (by kernel_rfl)) h hb (by obtain ⟨m, hm⟩ := h; exact DataW.trod_lt m _ _ _ hm)
end Go.Proofs.YtkiefmhampfhoaaDoor
