/-
  Texts in a row of the call's own: one more of them; all of them joined.
-/
import Derived.Test.YtkcgikgihbglnabDoorLbPr
import Derived.Test.YtkcgikgihbglnabDoorLbJn
import Derived.Test.YtkcgikgihbglnabDoorLbH
namespace Go.Proofs.YtkcgikgihbglnabDoor
open Go.RowKit

theorem infoSt : (Tryd.prog.info? 9).map (fun i => (i.zero, i.size, i.bytes)) = some (some (.string ⟨#[]⟩), 1, 16) := by kernel_rfl
def OwnT (w : World) (base : Nat) (v : Value) (xs : List (List UInt8)) : Prop := w.ownsRow base 9 1 v xs.length (xs.map fun x => Value.string (ByteArray.mk ⟨x⟩))
theorem OwnT.nil (w : World) (base : Nat) : OwnT w base (.slice none 0 0) [] := World.ownsRow_nil w base _ _
theorem OwnT.keep {w w' : World} {base : Nat} {v : Value} {xs : List (List UInt8)} (h : OwnT w base v xs) (hg : w.grownBy w' none) : OwnT w' base v xs := by
  refine World.ownsRow.kept h hg ?_
  cases hv : v.ownBlock with
  | none => exact .inl rfl
  | some k => exact .inr (by simp)
theorem OwnT.lt {w : World} {base : Nat} {v : Value} {xs : List (List UInt8)} (h : OwnT w base v xs) : ∀ k, v.ownBlock = some k → base ≤ k ∧ k < w.heap.size := World.ownsRow.lt h
theorem OwnT.shape {w : World} {base : Nat} {v : Value} {xs : List (List UInt8)} (h : OwnT w base v xs) : ∃ a c, v = .slice a xs.length c := by
  rcases h.2 with ⟨hv, hn⟩ | ⟨g, cap, cur, hv, _⟩
  · exact ⟨none, 0, by rw [hv, hn]⟩
  · exact ⟨_, _, hv⟩
theorem step_appS {w : World} {ops : Array Oper} {o : Oper} {a : Act} {K : Act → World → Prop} {Q : Exit → Act → World → Prop} {E : Prop} (hgd : o.guard = none) (s x : Operand)
    (ho : o.op = .call { callee := .builtin .append, args := #[s, x], argTypes := #[38, 38] })
    (base : Nat) (v : Value) (xs : List (List UInt8)) (ad : Addr) (y : List UInt8) (hs : a.eval s = v) (hx : a.eval x = .slice (some ad) 1 1) (hown : OwnT w base v xs) (hra : RdC w (some ad) [.string (ByteArray.mk ⟨y⟩)]) (hsz : xs.length ≤ 256) (hbase : base ≤ w.heap.size)
    (h : ∀ v' w', OwnT w' base v' (xs ++ [y]) → Fr w w' v v' → K (a.put o.dst v') w') :
    if Region.wanted o (yielded ops a.tmps) = true then Oper.wp Tryd.prog o a w K Q else E := by
  have hw : Region.wanted o (yielded ops a.tmps) = true := by simp [Region.wanted, hgd]
  rw [if_pos hw]
  obtain ⟨i0, hi, hz0, hz1, hz2⟩ := info_parts infoSt
  obtain ⟨v', w', hrun, h2, h3⟩ := run_appH w o.type 38 9 i0 _ 1 16 base Tryd.underlying38 hi hz0 hz1 hz2 rfl (by decide) v xs.length _ hown (some ad) 1 1 [.string (ByteArray.mk ⟨y⟩)] rfl hra (fun h => by cases h) (by intro u hu; simp only [List.mem_cons, List.not_mem_nil, or_false] at hu; subst hu; rfl) (by omega) (by omega) hbase
  unfold Oper.wp execOp
  simp only [ho, resolve, invoke, builtin, Sem.run_bind, Sem.run_pure, Result.andThen_ok, List.map_toArray, List.map_cons, List.map_nil, hs, hx, hrun]
  refine h v' w' ?_ h3
  unfold OwnT
  rw [List.length_append, List.map_append]
  exact h2
theorem hid_cells {w3 w5 : World} {C : Obj} {u : Value} {b0 : Nat} {x y : Value} (hf : (w3.alloc C).grownBy w5 u.ownBlock) (d0 : w3.cell? ⟨b0, 0, none⟩ = some x) (d1 : w3.cell? ⟨b0, 1, none⟩ = some y) (h : ∀ k, u.ownBlock = some k → k < b0) : w5.cell? ⟨b0, 0, none⟩ = some x ∧ w5.cell? ⟨b0, 1, none⟩ = some y := by
  have hlt := block_lt d0
  have hb := hf.block b0 (by simp; omega) (by intro e; have := h b0 (by first | exact e | exact e.symm); omega)
  have ha := (World.grownBy_alloc w3 C none).block b0 hlt (by simp)
  exact ⟨(World.cell?_of_block hb).trans ((World.cell?_of_block ha).trans d0), (World.cell?_of_block hb).trans ((World.cell?_of_block ha).trans d1)⟩
theorem rdc_str (w : World) (x : ByteArray) : RdC (w.alloc (.cells #[.string x] 9)) (some ⟨w.heap.size, 0, none⟩) [.string x] := by
  intro j u hj
  refine ⟨_, rfl, ?_⟩
  rw [Go.WideShapes.add_plain]
  have ha := Go.heap_alloc_new w (.cells #[.string x] 9)
  simp only [World.cell?, ha]
  simpa using hj
theorem joinT (w : World) (base : Nat) (u : Value) (rs : List LbT) (h : OwnT w base u (rs.map itemB)) (hf : fewL rs) :
    Calls Tryd.prog 20 #[u, .string (ByteArray.mk #[44])] w fun e w' => e = .returned (.string (ByteArray.mk ⟨joinI rs rs.length⟩)) ∧ w.grownBy w' none := by
  have hJ : joinI rs rs.length = Lib.join (rs.map itemB) [44] := by unfold joinI; rw [List.take_length]
  have hjl := joinI_len hf rs.length (Nat.le_refl _)
  have h16 := hf.1
  rw [hJ] at hjl ⊢
  have hlen : (rs.map itemB).length = rs.length := List.length_map _
  rcases h.2 with ⟨hv, hn⟩ | ⟨g, cap, cur, hv, hb, hh, hcap, hm, hcs, hxs⟩
  · have e0 : rs.map itemB = [] := List.eq_nil_of_length_eq_zero hn
    rw [e0]
    subst hv
    refine (joinS_none w none 0 _).mono ?_
    rintro e w' ⟨h1, h2⟩
    subst h2
    exact ⟨h1, gb_refl _ _⟩
  · subst hv
    have hc := fun j (hj : j < rs.length) => World.ownsRow.cellAt h j (by rw [hlen]; omega)
    have key := joinS_any w g 0 cap ((rs.map itemB).map fun x => ByteArray.mk ⟨x⟩) (ByteArray.mk #[44]) ?_ ((OwnT.lt h g rfl).2) (by simp; omega) (by simpa using hcap) ?_
    · have e2 : ((rs.map itemB).map fun x => ByteArray.mk ⟨x⟩).map (·.data.toList) = rs.map itemB := by simp
      have e3 : ((rs.map itemB).map fun x => ByteArray.mk ⟨x⟩).length = (rs.map itemB).length := by simp
      rw [e2, e3] at key
      refine key.mono ?_
      rintro e w' ⟨h1, h2⟩
      exact ⟨h1, gb_of_below h2⟩
    · intro j x hj
      have hjl2 : j < rs.length := by
        have := (List.getElem?_eq_some_iff.1 hj).1
        simpa using this
      rw [Nat.zero_add, hc j hjl2]
      simp only [List.getElem?_map] at hj ⊢
      cases hq : rs[j]? with
      | none => rw [hq] at hj; cases hj
      | some q => rw [hq] at hj; simp at hj ⊢; exact hj
    · have e2 : ((rs.map itemB).map fun x => ByteArray.mk ⟨x⟩).map (·.data.toList) = rs.map itemB := by simp
      rw [e2]
      show (Lib.join (rs.map itemB) [44]).length ≤ _
      omega
end Go.Proofs.YtkcgikgihbglnabDoor
