/-
  Lists of lists of bytes among the arguments, and how long they are together: how they read.
-/
import Derived.Test.YtgafmplmngbbfaaLiftD
import Derived.Test.YtgafmplmngbbfaaDiskY
import Derived.Deep.Slices
namespace Go.Proofs.Ytgafmplmngbbfaa
open Go.ChangeShapes Go.WideShapes Go.ChangeAt Go.RowKit

/-! ### lists of lists of bytes among the arguments -/
def LL (w : World) (v : Value) (ps : List (List UInt8)) : Prop :=
  ∃ a c, v = .slice a ps.length c ∧ ps.length ≤ maxLen ∧ ∀ j, j < ps.length → ∃ b o u, a = some ⟨b, o, none⟩ ∧ w.cell? ⟨b, o + j, none⟩ = some u ∧ Rd w u (ps.getD j [])
theorem LL.keep {w w' : World} {v : Value} {ps : List (List UInt8)} (h : LL w v ps) (hg : w.grownBy w' none) : LL w' v ps := by
  obtain ⟨a, c, h1, h2, h3⟩ := h
  refine ⟨a, c, h1, h2, fun j hj => ?_⟩
  obtain ⟨b, o, u, ha, hc, hr⟩ := h3 j hj
  exact ⟨b, o, u, ha, by rw [← hc]; exact World.cell?_of_block (hg.block b (block_lt hc) (by simp)), hr.keep hg⟩
theorem cellsB : Try.prog.cellsOf 31 = 1 := by kernel_rfl
set_option maxRecDepth 8000 in
theorem bytes_cellB {H : Type} {enc : TypeId × Value → H} {W : World} {fuel : Nat} {u : Value} {x : DataW H × List MemPlace} (hf : DataW.trod enc Try.prog W 0 (fun _ => true) true fuel 31 [u] = some x) : ∃ l, Rd W u l ∧ l.length ≤ Rows.uptoBulk x.1 := by
  rcases open_ints Try.underlying31 Try.underlying5 cellsU8 hf with ⟨hcs, hx⟩ | ⟨ad, l, c, zs, hcs, _, hl, hm, hz, hx, hcell, hwz⟩
  · simp only [List.cons.injEq, and_true] at hcs
    subst hcs
    exact ⟨[], Rd.nil W, by simp⟩
  · simp only [List.cons.injEq, and_true] at hcs
    subst hcs
    obtain ⟨bs, rfl⟩ := toU8 zs hwz
    simp only [if_true, List.length_map] at hz hcell
    have hlt : (bs.take l).length = l := by simp; omega
    refine ⟨bs.take l, ⟨some ad, c, by rw [hlt], by rw [hlt]; exact hl, hm, ?_, fun h => by cases h⟩, ?_⟩
    · intro j hj
      rw [hlt] at hj
      have h0 := hcell 0 (by omega)
      obtain ⟨b, off, spot⟩ := ad
      have hspot : spot = none := by simpa [Addr.add] using World.cell?_spot h0
      subst hspot
      refine ⟨b, off, rfl, ?_⟩
      have hj' : j < bs.length := by omega
      have := hcell j hj'
      rw [Go.WideShapes.add_plain] at this
      rw [this]
      simp [hj, hj']
    · rw [hx]
      have := bulkAll_len (lits (H := H) .u8 (((bs.map fun b => (b.toNat : Int))).take l))
      simp only [Rows.uptoBulk]
      simp only [lits, List.length_map, List.length_take] at this ⊢
      omega
theorem bulk_sum {H : Type} (f : Nat → Nat) (D : Nat → DataW H) : ∀ l : List Nat, (∀ j ∈ l, f j ≤ Rows.uptoBulk (D j)) → (l.map f).sum ≤ Rows.uptoBulkAll (l.map D)
  | [], _ => by simp
  | j :: l, h => by
    have h1 := h j (by simp)
    have h2 := bulk_sum f D l (fun k hk => h k (by simp [hk]))
    simp only [List.map_cons, List.sum_cons, Rows.uptoBulkAll]
    omega
set_option maxRecDepth 8000 in
theorem open_llB {H : Type} {enc : TypeId × Value → H} {W : World} {base : Nat} {v : Value} {d : DataW H} {p : List MemPlace} (hval : Value.okWide Try.prog W .any base 52 v)
    (h : DataW.Trod enc Try.prog W 0 (fun _ => true) true 52 v d p) : ∃ ps, LL W v ps ∧ (ps.map List.length).sum ≤ Rows.uptoBulk d ∧ ps.length ≤ Rows.uptoBulk d := by
  obtain ⟨a0, len, cap, rfl⟩ := okWide_slice Try.underlying52 hval
  obtain ⟨fuel, hf⟩ := h
  rcases Go.Deep.open_slice Try.underlying52 hf with ⟨hcs, hx⟩ | ⟨a, l, c, m, n, D, Pl, hcs, hb, hl, hm, hmm, hx, hel⟩
  · simp [Value.cells] at hcs
    obtain ⟨rfl, rfl, rfl⟩ := hcs
    exact ⟨[], ⟨none, 0, rfl, by simp, fun j hj => by simp at hj⟩, by simp, by simp⟩
  · simp [Value.cells] at hcs
    obtain ⟨rfl, rfl, rfl⟩ := hcs
    simp only [if_true] at hmm
    have each : ∀ j, j < len → ∃ q : Value × List UInt8, W.cell? (a.add j) = some q.1 ∧ Rd W q.1 q.2 ∧ q.2.length ≤ Rows.uptoBulk (D j) := by
      intro j hj
      obtain ⟨cs', h1, h2⟩ := hel j (by omega)
      rw [cellsB, Nat.mul_one] at h1
      obtain ⟨_, hlen, hcell⟩ := World.cells?_some h1
      match cs', hlen with
      | [u], _ =>
        have e0 := hcell 0 (by omega)
        obtain ⟨lu, hu, hb⟩ := bytes_cellB h2
        exact ⟨(u, lu), by rw [Go.Deep.add_add] at e0; simpa using e0, hu, hb⟩
    obtain ⟨q, hq⟩ := Go.Deep.choose_lt (α := Value × List UInt8) each
    have hd : d = .slice ((List.range len).map D) ((List.range (m - len)).map fun j => D (len + j)) := by
      have := congrArg Prod.fst hx
      exact this
    have hbs : Rows.uptoBulkAll ((List.range len).map D) ≤ Rows.uptoBulk d := by
      rw [hd]; simp only [Rows.uptoBulk]; omega
    refine ⟨(List.range len).map fun j => (q j).2, ⟨some a, cap, by simp, by simp; omega, fun j hj => ?_⟩, ?_, ?_⟩
    · simp only [List.length_map, List.length_range] at hj
      have hg : ((List.range len).map fun j => (q j).2).getD j [] = (q j).2 := by simp [List.getD, hj]
      obtain ⟨h0, h1, -⟩ := hq j hj
      have h00 := (hq 0 (by omega)).1
      obtain ⟨b, off, spot⟩ := a
      have hspot : spot = none := by simpa [Addr.add] using World.cell?_spot h00
      subst hspot
      rw [Go.WideShapes.add_plain] at h0
      exact ⟨b, off, (q j).1, rfl, h0, by rw [hg]; exact h1⟩
    · rw [List.map_map]
      have := bulk_sum (fun j => (q j).2.length) D (List.range len) (fun j hj => (hq j (List.mem_range.1 hj)).2.2)
      have e : (List.length ∘ fun j => (q j).2) = fun j => (q j).2.length := rfl
      rw [e]
      omega
    · have := bulkAll_len ((List.range len).map D)
      simp only [List.length_map, List.length_range] at this ⊢
      omega
theorem back_ll {H : Type} {enc : TypeId × Value → H} {W W' : World} {v : Value} {d : DataW H} {p : List MemPlace} (h : DataW.Trod enc Try.prog W 0 (fun _ => true) true 52 v d p) (hb : Below W.heap.size W W') :
    DataW.Trod enc Try.prog W' 0 (fun b => decide (b < W.heap.size)) true 52 v d p :=
  Below.trod laidOut (by kernel_rfl) (of_decide_eq_true (by kernel_rfl)) h hb (by obtain ⟨m, hm⟩ := h; exact DataW.trod_lt m _ _ _ hm)

end Go.Proofs.Ytgafmplmngbbfaa
