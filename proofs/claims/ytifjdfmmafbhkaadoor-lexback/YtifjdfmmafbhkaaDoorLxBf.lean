/-
  A list of tokens behind a row of the call's own: append.
-/
import Derived.Test.YtifjdfmmafbhkaaDoorLxBe
import Derived.Test.YtifjdfmmafbhkaaDoorLxW
import Derived.Laws.OwnMore
namespace Go.Proofs.YtifjdfmmafbhkaaDoor
open Go.RowKit

theorem tkf_at (l : List Tok) : ∀ i, i < l.length → (tkf l)[i * 3]? = some (.int .i64 (l.getD i tkD).1) ∧ (tkf l)[i * 3 + 1]? = some (.string (ByteArray.mk ⟨(l.getD i tkD).2.1⟩)) ∧ (tkf l)[i * 3 + 2]? = some (.int .i64 (l.getD i tkD).2.2) := by
  induction l with
  | nil => intro i hi; simp at hi
  | cons t l ih =>
    intro i hi
    cases i with
    | zero => exact ⟨rfl, rfl, rfl⟩
    | succ i =>
      have := ih i (by simpa using hi)
      rw [show (i + 1) * 3 = i * 3 + 1 + 1 + 1 by omega]
      exact this
/-- nil slices have no room -/
def NilZ (v : Value) : Prop := ∀ n c, v = .slice none n c → c = 0
theorem OwnT.nilz {w : World} {base : Nat} {v : Value} {l : List Tok} (h : OwnT w base v l) : NilZ v := fun n c e => by
  rcases h.2 with ⟨rfl, hn⟩ | ⟨g, cap, cur, rfl, _⟩
  · cases e; rfl
  · cases e
theorem run_appT (w : World) (ty : TypeId) (base : Nat) (v : Value) (l : List Tok) (hown : OwnT w base v l) (x : Value) (m : List Tok) (hx : RdT w x m) (hx0 : NilZ x)
    (hsz : l.length + m.length ≤ 1000000000) (hbase : base ≤ w.heap.size) :
    ∃ v' w', (Builtin.append_ #[22, 22] ty #[v, x]).run Tryd.prog w = .ok v' w' ∧ OwnT w' base v' (l ++ m) ∧ w.grownBy w' v.ownBlock := by
  obtain ⟨i0, hi, hz0, hz1, hz2⟩ := info_parts infoT
  obtain ⟨a, c, rfl, hmc, hcm, hra⟩ := hx
  cases a with
  | none =>
    have hc := hx0 _ _ rfl
    subst hc
    have hm0 : m = [] := List.eq_nil_of_length_eq_zero (by omega)
    subst hm0
    exact ⟨v, w, run_append_owned_none w base 22 ty 28 i0 3 Tryd.underlying22 hi v l.length _ hown, by simpa using hown, gb_refl _ _⟩
  | some ad =>
    have hnews : ∀ j u, (tkf m)[j]? = some u → w.cell? (ad.add j) = some u := by
      intro j u hj
      have hjl : j < (tkf m).length := by
        apply Decidable.byContradiction
        intro hc
        rw [List.getElem?_eq_none (by omega)] at hj
        cases hj
      rw [tkf_len] at hjl
      obtain ⟨b, o, e, c0, c1, c2⟩ := hra (j / 3) (by omega)
      cases e
      obtain ⟨t0, t1, t2⟩ := tkf_at m (j / 3) (by omega)
      rw [Go.WideShapes.add_plain]
      have hj3 : j = j / 3 * 3 ∨ j = j / 3 * 3 + 1 ∨ j = j / 3 * 3 + 2 := by omega
      generalize j / 3 = i at *
      rcases hj3 with rfl | rfl | rfl
      · rw [t0] at hj; cases hj; exact c0
      · rw [t1] at hj; cases hj; exact c1
      · rw [t2] at hj; cases hj; exact c2
    have hone : ∀ u ∈ tkf m, u.oneCell' = true := by
      intro u hu
      obtain ⟨t, -, ht⟩ := List.mem_flatMap.1 hu
      simp only [List.mem_cons, List.not_mem_nil, or_false] at ht
      rcases ht with rfl | rfl | rfl <;> rfl
    obtain ⟨v', w', hr, ho, hg, _⟩ := run_append_own (P := Tryd.prog) w base 22 ty 28 i0 _ 3 32 Tryd.underlying22 hi hz0 hz1 hz2 rfl (by decide) v l.length (tkf l) hown
      ad m.length c (tkf m) (tkf_len m) hnews hone (by unfold maxLen; omega) (by omega) hbase
    refine ⟨v', w', hr, ?_, hg⟩
    show w'.ownsRow base 28 3 v' (l ++ m).length (tkf (l ++ m))
    rw [tkf_app, List.length_append]
    exact ho
/-- APPEND of a list, for the walk. -/
theorem wp_appTs {w : World} {ops : Array Oper} {rest : List Oper} {o : Oper} {a : Act} {Q : Exit → Act → World → Prop} (hgd : o.guard = none) (s x : Operand)
    (ho : o.op = .call { callee := .builtin .append, args := #[s, x], argTypes := #[22, 22] })
    (base : Nat) (v xv : Value) (l m : List Tok) (hs : a.eval s = v) (hx : a.eval x = xv) (hown : OwnT w base v l) (hr : RdT w xv m) (hr0 : NilZ xv) (hsz : l.length + m.length ≤ 1000000000) (hbase : base ≤ w.heap.size)
    (h : ∀ v' w', OwnT w' base v' (l ++ m) → w.grownBy w' v.ownBlock → wpList Tryd.prog ops Q rest (a.put o.dst v') w') : wpList Tryd.prog ops Q (o :: rest) a w := by
  refine wpList_plain hgd fun K hK => ?_
  obtain ⟨v', w', hrun, h2, h3⟩ := run_appT w o.type base v l hown xv m hr hr0 hsz hbase
  unfold Oper.wp execOp
  simp only [ho, resolve, invoke, builtin, Sem.run_bind, Sem.run_pure, Result.andThen_ok, List.map_toArray, List.map_cons, List.map_nil, hs, hx, hrun]
  exact hK _ _ (h v' w' h2 h3)
end Go.Proofs.YtifjdfmmafbhkaaDoor
