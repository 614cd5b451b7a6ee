/-
  Bytes that grow by texts; whole numbers that are read; the law's blanks in memory.
-/
import Derived.Test.YtifjdfmmafbhkaaGreatDoorLxGC
import Derived.Test.YtifjdfmmafbhkaaGreatDoorLxW
import Derived.Lib.ConvBytes
import Derived.Lib.AppendStr
namespace Go.Proofs.YtifjdfmmafbhkaaGreatDoor
open Go.RowKit

/-- 'append(b, s...)' of a text, behind a row of the call's own -/
theorem wp_appT8 {w : World} {ops : Array Oper} {rest : List Oper} {o : Oper} {a : Act} {Q : Exit → Act → World → Prop} (hgd : o.guard = none) (s x : Operand)
    (ho : o.op = .call { callee := .builtin .append, args := #[s, x], argTypes := #[36, 9] })
    (base : Nat) (v : Value) (l : List UInt8) (t : ByteArray) (hs : a.eval s = v) (hx : a.eval x = .string t) (hown : Own w base v l) (hsz : l.length + t.size ≤ 140737488355328) (hbase : base ≤ w.heap.size)
    (h : ∀ v' w', Own w' base v' (l ++ t.data.toList) → w.grownBy w' v.ownBlock → wpList Tryz.prog ops Q rest (a.put o.dst v') w') : wpList Tryz.prog ops Q (o :: rest) a w := by
  refine wpList_plain hgd fun K hK => ?_
  obtain ⟨i0, hi, hz0, hz1, hz2⟩ := info_parts infoB
  obtain ⟨v', w', hrun, h2, h3, -⟩ := Lib.run_append_own_string (P := Tryz.prog) w base 36 9 o.type 5 i0 Tryz.underlying36 Tryz.underlying9 hi hz0 hz1 hz2 v l.length (l.map bv) hown t (by unfold maxLen; omega) hsz hbase
  unfold Oper.wp execOp
  simp only [ho, resolve, invoke, builtin, Sem.run_bind, Sem.run_pure, Result.andThen_ok, List.map_toArray, List.map_cons, List.map_nil, hs, hx, hrun]
  have e : (l ++ t.data.toList).length = l.length + t.size := by rw [List.length_append, Array.length_toList]; rfl
  have e2 : (l ++ t.data.toList).map bv = l.map bv ++ Lib.strCells t := by
    rw [List.map_append]
    rfl
  refine hK _ _ (h v' w' ?_ h3)
  unfold Own
  rw [e, e2]
  exact h2
/-- 'string(b)' of whatever bytes -/
theorem run_strB8 {w : World} {v : Value} {l : List UInt8} (h : Rd w v l) : (convert 36 9 v).run Tryz.prog w = .ok (.string (ByteArray.mk ⟨l⟩)) w := by
  obtain ⟨a, c, rfl, h1, h2, h3, h4⟩ := h
  cases a with
  | none =>
    have := h4 rfl
    have hl : l = [] := List.eq_nil_of_length_eq_zero (by omega)
    subst hl
    rw [run_convert_bytes_string w 36 9 5 none _ c Tryz.underlying36 Tryz.underlying5 Tryz.underlying9]
    simp [Conv.bytesToString]
    rfl
  | some ad =>
    refine run_convert_bytes_back w 36 9 5 ad c l Tryz.underlying36 Tryz.underlying5 Tryz.underlying9 (fun j hj => ?_)
    obtain ⟨b, o, hb, hc⟩ := h3 j hj
    cases hb
    rw [Go.WideShapes.add_plain, hc]
    simp [hj]
/-- the value is a slice that reads as these numbers -/
def RdI (w : World) (v : Value) (l : List Int) : Prop := ∃ a c, v = .slice a l.length c ∧ l.length ≤ 9223372036854775807 ∧ ∀ j, j < l.length → ∃ b o, a = some ⟨b, o, none⟩ ∧ w.cell? ⟨b, o + j, none⟩ = some (.int .i64 (l.getD j 0))
theorem addG_size (e : Nat → LxS) (he : ∀ i, (e i).length ≤ 9) (P : List (LxS × LxS)) : ∀ i, (gapT (addG e i P)).length ≤ (gapT P).length + 9 * P.length := by
  induction P with
  | nil => intro i; exact Nat.le_refl _
  | cons x P ih =>
    intro i
    have h1 := ih (i + 1)
    have h2 := he i
    show (gapT ((x.1, x.2 ++ e i) :: addG e (i + 1) P)).length ≤ _
    rw [gapT_cons, gapT_cons, List.length_cons]
    simp only [List.length_append]
    omega
theorem morL_len (g : Nat) : (32 :: morL g).length ≤ 9 := by
  unfold morL
  (repeat' split) <;> decide
/-- the law's blanks -/
def MorB (w : World) (b : Nat) : Prop := ∀ g, g < 5 → w.cell? ⟨b, g, none⟩ = some (.string (ByteArray.mk ⟨morL g⟩))
theorem MorB.keep {w w' : World} {b : Nat} (h : MorB w b) (hg : w.grownBy w' none) : MorB w' b := fun g hl => cell_keep hg (h g hl)
theorem MorB.new (w : World) : MorB (w.alloc (.cells #[.string ⟨#[32]⟩, .string ⟨#[10]⟩, .string ⟨#[9, 13, 32]⟩, .string ⟨#[32, 35, 32, 105, 116, 39, 115, 10]⟩, .string ⟨#[35, 10]⟩] 9)) w.heap.size := fun g hg => by
  rw [Lib.cell_of_heap (alloc_at w _)]
  have : g = 0 ∨ g = 1 ∨ g = 2 ∨ g = 3 ∨ g = 4 := by omega
  rcases this with rfl | rfl | rfl | rfl | rfl <;> rfl
end Go.Proofs.YtifjdfmmafbhkaaGreatDoor
