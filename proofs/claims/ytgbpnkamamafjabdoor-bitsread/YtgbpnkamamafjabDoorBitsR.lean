/-
  The document's streams in memory: what width, In, Row, Low, Write and Form come to: the walks.
-/
import Derived.Test.YtgbpnkamamafjabDoorBitsI
namespace Go.Proofs.YtgbpnkamamafjabDoor
open Go.RowKit

theorem infoL : (Tryd.prog.info? 4).map (fun i => (i.zero, i.size, i.bytes)) = some (some (.bool false), 1, 1) := by kernel_rfl
/-- a list of bools of the call's own -/
def OwnB (w : World) (v : Value) (l : List Bool) : Prop := w.ownsRow 0 4 1 v l.length (l.map Value.bool)
theorem OwnB.nil (w : World) : OwnB w (.slice none 0 0) [] := World.ownsRow_nil w 0 _ _
theorem OwnB.shape {w : World} {v : Value} {l : List Bool} (h : OwnB w v l) : ∃ a c, v = .slice a l.length c := by
  rcases h.2 with ⟨rfl, hn⟩ | ⟨g, cap, cur, rfl, _⟩
  · exact ⟨none, 0, by rw [hn]⟩
  · exact ⟨_, _, rfl⟩
/-- a stream at block g -/
def St (w : World) (g : Nat) (v : Value) (l : List Bool) (p : Nat) : Prop := w.heap[g]? = some (.cells #[v, .int .i64 (p : Int)] 28 (0, 0)) ∧ OwnB w v l
theorem St.cells {w : World} {g : Nat} {v : Value} {l : List Bool} {p : Nat} (h : St w g v l p) : w.cell? ⟨g, 0, none⟩ = some v ∧ w.cell? ⟨g, 1, none⟩ = some (.int .i64 (p : Int)) ∧ w.frozen? ⟨g, 0, none⟩ = false ∧ g < w.heap.size := by
  refine ⟨?_, ?_, ?_, (Array.getElem?_eq_some_iff.1 h.1).1⟩
  · simp [World.cell?, h.1]
  · simp [World.cell?, h.1]
  · simp [World.frozen?, h.1]
theorem St.apart {w : World} {g : Nat} {v : Value} {l : List Bool} {p : Nat} (h : St w g v l p) : v.ownBlock ≠ some g := by
  rcases h.2.2 with ⟨rfl, _⟩ | ⟨g', cap, cur, rfl, _, hh, _⟩
  · simp [Value.ownBlock]
  · intro he
    simp only [Value.ownBlock, Option.some.injEq] at he
    subst he
    rw [h.1] at hh
    simp at hh

/-- one bool more, run -/
theorem run_appB (w : World) (ty : TypeId) (v : Value) (l : List Bool) (hown : OwnB w v l) (b : Bool) (gx : Nat) (hx : w.cell? ⟨gx, 0, none⟩ = some (.bool b)) (hsz : l.length + 1 ≤ 175921860444160) :
    ∃ v' w', (Builtin.append_ #[26, 26] ty #[v, .slice (some ⟨gx, 0, none⟩) 1 1]).run Tryd.prog w = .ok v' w' ∧ OwnB w' v' (l ++ [b]) ∧ Fr w w' v v' := by
  obtain ⟨i0, hi, hz0, hz1, hz2⟩ := info_parts infoL
  have hlen : [Value.bool b].length = 1 * 1 := rfl
  have hnews : ∀ j u, [Value.bool b][j]? = some u → w.cell? ((⟨gx, 0, none⟩ : Addr).add j) = some u := by
    intro j u hj
    match j, hj with
    | 0, hj => simp at hj; subst hj; simpa [Addr.add] using hx
  have hone : ∀ u ∈ [Value.bool b], u.oneCell' = true := by intro u hu; simp at hu; subst hu; rfl
  obtain ⟨v', w', hr, ho, hg, _⟩ := run_append_own_wide (P := Tryd.prog) w 0 26 ty 4 i0 (.bool false) 1 1 Tryd.underlying26 hi hz0 hz1 hz2 rfl (by decide) v l.length (l.map Value.bool) hown
    ⟨gx, 0, none⟩ 1 1 [.bool b] hlen hnews hone (by unfold maxLen; omega) (by omega) (Nat.zero_le _)
  refine ⟨v', w', hr, ?_, hg, ?_⟩
  · have : OwnB w' v' (l ++ [b]) = w'.ownsRow 0 4 1 v' (l.length + 1) (l.map Value.bool ++ [.bool b]) := by simp [OwnB]
    rw [this]
    exact ho
  · intro k hk
    rcases hown.2 with ⟨rfl, hn⟩ | ⟨g, cap, cur, rfl, hbg, hh, hnc, hcm', hcs, htake⟩
    · have hn' := run_append_nil (P := Tryd.prog) w 26 ty 4 i0 (.bool false) Tryd.underlying26 hi hz0 ⟨gx, 0, none⟩ 1 1 [.bool b] (by rw [hz1]; exact hlen) hnews (by omega) (by omega) (by rw [hz2]; omega)
      rw [hr] at hn'
      injection hn' with e1 e2
      subst e1
      simp [Value.ownBlock] at hk
      exact .inr (by omega)
    · by_cases hroom : l.length + 1 ≤ cap
      · have hn' := run_append_room (P := Tryd.prog) w 26 ty 4 i0 Tryd.underlying26 hi g l.length cap cur hh ⟨gx, 0, none⟩ 1 1 [.bool b] (by rw [hz1]; exact hlen) hnews hone hroom (by rw [hz1, hlen, hcs]; omega)
        rw [hr] at hn'
        injection hn' with e1 e2
        subst e1
        exact .inl (by simpa [Value.ownBlock] using hk.symm)
      · have hn' := run_append_grow (P := Tryd.prog) w 26 ty 4 i0 (.bool false) Tryd.underlying26 hi hz0 ⟨g, 0, none⟩ l.length cap (l.map Value.bool) (by rw [hz1]; simp) (World.ownsRow.cells hown rfl) ⟨gx, 0, none⟩ 1 1 [.bool b] (by rw [hz1]; exact hlen) hnews (by omega) (by omega) (by rw [hz2]; exact growslice_fits_wide (by omega) (by omega))
        rw [hr] at hn'
        injection hn' with e1 e2
        subst e1
        simp [Value.ownBlock] at hk
        exact .inr (by omega)
theorem wp_appB {w : World} {ops : Array Oper} {rest : List Oper} {o : Oper} {a : Act} {Q : Exit → Act → World → Prop} (hgd : o.guard = none) (s x : Operand)
    (ho : o.op = .call { callee := .builtin .append, args := #[s, x], argTypes := #[26, 26] })
    (v : Value) (l : List Bool) (b : Bool) (gx : Nat) (hs : a.eval s = v) (hx : a.eval x = .slice (some ⟨gx, 0, none⟩) 1 1) (hc : w.cell? ⟨gx, 0, none⟩ = some (.bool b)) (hown : OwnB w v l) (hsz : l.length + 1 ≤ 175921860444160)
    (h : ∀ v' w', OwnB w' v' (l ++ [b]) → Fr w w' v v' → wpList Tryd.prog ops Q rest (a.put o.dst v') w') : wpList Tryd.prog ops Q (o :: rest) a w := by
  refine wpList_plain hgd fun K hK => ?_
  obtain ⟨v', w', hrun, h2, h3⟩ := run_appB w o.type v l hown b gx hc hsz
  unfold Oper.wp execOp
  simp only [ho, resolve, invoke, builtin, Sem.run_bind, Sem.run_pure, Result.andThen_ok, List.map_toArray, List.map_cons, List.map_nil, hs, hx, hrun]
  exact hK _ _ (h v' w' h2 h3)
theorem OwnB.keep {w w' : World} {v : Value} {l : List Bool} (h : OwnB w v l) (hg : w.grownBy w' none) : OwnB w' v l := by
  refine World.ownsRow.kept h hg ?_
  cases hv : v.ownBlock with
  | none => exact .inl rfl
  | some k => exact .inr (by simp)

/-- the list has been moved, and the stream has it -/
theorem St.grow {wr w1 : World} {g p : Nat} {v' v1 : Value} {cur l : List Bool} {o : Obj} (h : St wr g v' cur p) (hf : Fr (wr.alloc o) w1 v' v1) (ho : OwnB w1 v1 l) :
    w1.heap[g]? = wr.heap[g]? ∧ St (w1.setCell ⟨g, 0, none⟩ v1) g v1 l p ∧ Fw wr (w1.setCell ⟨g, 0, none⟩ v1) g v' v1 := by
  have hlt : g < wr.heap.size := h.cells.2.2.2
  have h1 : w1.heap[g]? = wr.heap[g]? := by
    rw [hf.1.block g (by simp; omega) (fun e => h.apart e.symm)]
    exact Below.heap_alloc wr o g hlt
  have h2 : v1.ownBlock ≠ some g := by
    rcases ho.2 with ⟨rfl, _⟩ | ⟨g', cap, cu, rfl, _, hh, _⟩
    · simp [Value.ownBlock]
    · intro he
      simp only [Value.ownBlock, Option.some.injEq] at he
      subst he
      rw [h1, h.1] at hh
      simp at hh
  refine ⟨h1, ⟨?_, ?_⟩, ?_⟩
  · have := heap_setCell_same w1 g 0 _ _ v1 (h1.trans h.1)
    rw [this]
    rfl
  · exact World.ownsRow.kept (row := some g) ho ⟨rfl, rfl, rfl, by simp, fun k _ hk => Below.heap_setCell _ _ _ _ (fun e => hk (by rw [e]))⟩ (.inr h2)
  · refine ⟨hf.1.os, hf.1.tape, hf.1.output, ?_, fun k hk hk1 hk2 => ?_, fun k hk => ?_⟩
    · have := hf.1.size
      simp at this ⊢
      omega
    · rw [Below.heap_setCell _ _ _ _ (by simpa using hk1), hf.1.block k (by simp; omega) hk2]
      exact Below.heap_alloc wr o k hk
    · rcases hf.2 k hk with h3 | h3
      · exact .inl h3
      · right
        simp at h3
        omega
theorem litB (w : World) (b : Bool) (t : TypeId) : (w.alloc (.cells #[Value.bool b] t)).cell? ⟨w.heap.size, 0, none⟩ = some (.bool b) := by
  rw [World.cell?_alloc_at _ _ _ _ rfl]; rfl

/-! ### rows, once more -/
theorem width_any (r : Nat) (w : World) (hr : r ≤ 8) : Calls Tryd.prog 42 #[.int .i64 (r : Int)] w fun e w' => e = .returned (.int .i64 (wd r : Int)) ∧ w.grownBy w' none := by
  rcases (show r = 0 ∨ r = 1 ∨ r = 2 ∨ r = 3 ∨ r = 4 ∨ r = 5 ∨ r = 6 ∨ r = 7 ∨ r = 8 by omega) with rfl | rfl | rfl | rfl | rfl | rfl | rfl | rfl | rfl
  all_goals go_enter Tryd.func42, Tryd.ntmps42
  all_goals go_wp2
  all_goals go_ret
  all_goals exact ⟨rfl, alloc_gb _ _⟩
end Go.Proofs.YtgbpnkamamafjabDoor
