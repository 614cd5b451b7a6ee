/-
  U8Text, LbBp, in one text.
-/
import Derived.Test.YtkcgikgihbglnabDoorMgB
import Derived.Test.YtkcgikgihbglnabDoorVmF
import Derived.Test.YtkcgikgihbglnabDoorVmB
import Derived.Test.YtkcgikgihbglnabDoorMgC
/- U8Text -/
namespace Go.Proofs.YtkcgikgihbglnabDoor
open Go.RowKit Go.Lib

/-- 'string(b)' of whatever bytes -/
theorem run_strU {w : World} {v : Value} {l : List UInt8} (h : Rd w v l) : (convert 23 9 v).run Tryd.prog w = .ok (.string (ByteArray.mk ⟨l⟩)) w := by
  obtain ⟨a, c, rfl, h1, h2, h3, h4⟩ := h
  cases a with
  | none =>
    have := h4 rfl
    have hl : l = [] := List.eq_nil_of_length_eq_zero (by omega)
    subst hl
    rw [run_convert_bytes_string w 23 9 5 none _ c Tryd.underlying23 Tryd.underlying5 Tryd.underlying9]
    simp [Conv.bytesToString]
    rfl
  | some ad =>
    refine run_convert_bytes_back w 23 9 5 ad c l Tryd.underlying23 Tryd.underlying5 Tryd.underlying9 (fun j hj => ?_)
    obtain ⟨b, o, hb, hc⟩ := h3 j hj
    cases hb
    rw [Go.WideShapes.add_plain, hc]
    simp [hj]
/-- what Text answers -/
def tSpec (l : List UInt8) (a m : Int) : List UInt8 × Int × Int :=
  if a < 0 ∨ (l.length : Int) < a ∨ m < 0 then ([], 0, 1)
  else if (uSpec l a).2.2 ≠ 0 then ([], 0, (uSpec l a).2.2)
  else if m < ((uSpec l a).1 : Int) then ([], 0, 4)
  else if (l.length : Int) - (uSpec l a).2.1 < ((uSpec l a).1 : Int) then ([], 0, 9)
  else if validD ((l.drop (uSpec l a).2.1.toNat).take (uSpec l a).1) = false then ([], 0, 12)
  else ((l.drop (uSpec l a).2.1.toNat).take (uSpec l a).1, (uSpec l a).2.1 + ((uSpec l a).1 : Int), 0)
def tupT (r : List UInt8 × Int × Int) : Value := .tuple #[.string (ByteArray.mk ⟨r.1⟩), .int .i64 r.2.1, .int .i64 r.2.2]

end Go.Proofs.YtkcgikgihbglnabDoor

/- LbBp -/
namespace Go.Proofs.YtkcgikgihbglnabDoor
open Go.RowKit

theorem Bx.frozen {w W : World} {b0 : Nat} {x y : ByteArray} (h : Bx w b0 x y W) (j : Nat) : W.frozen? ⟨b0, j, none⟩ = false := by simp [World.frozen?, h.1]
theorem Bx.put0 {w W : World} {b0 : Nat} {x y : ByteArray} (h : Bx w b0 x y W) (hb : w.heap.size ≤ b0) (x' : ByteArray) : Bx w b0 x' y (W.setCell ⟨b0, 0, none⟩ (.string x')) := by
  refine ⟨by have := heap_setCell_same W b0 0 _ _ (.string x') h.1; simpa using this, gb_new h.2 (g' := some b0) ⟨rfl, rfl, rfl, by simp, fun k _ hk => Below.heap_setCell _ _ _ _ (fun e => hk (by rw [e]))⟩ (fun k hk => by cases hk; exact hb)⟩
theorem Bx.put1 {w W : World} {b0 : Nat} {x y : ByteArray} (h : Bx w b0 x y W) (hb : w.heap.size ≤ b0) (y' : ByteArray) : Bx w b0 x y' (W.setCell ⟨b0, 1, none⟩ (.string y')) := by
  refine ⟨by have := heap_setCell_same W b0 1 _ _ (.string y') h.1; simpa using this, gb_new h.2 (g' := some b0) ⟨rfl, rfl, rfl, by simp, fun k _ hk => Below.heap_setCell _ _ _ _ (fun e => hk (by rw [e]))⟩ (fun k hk => by cases hk; exact hb)⟩
/-- one label at a place: its name, its value, the place behind it, what is wrong -/
def oneS (l : List UInt8) (p : Int) : List UInt8 × List UInt8 × Int × Int :=
  if (tSpec l p 64).2.2 ≠ 0 then ([], [], 0, (tSpec l p 64).2.2)
  else if (tSpec l (tSpec l p 64).2.1 256).2.2 ≠ 0 then ([], [], 0, (tSpec l (tSpec l p 64).2.1 256).2.2)
  else ((tSpec l p 64).1, (tSpec l (tSpec l p 64).2.1 256).1, (tSpec l (tSpec l p 64).2.1 256).2.1, 0)
def readN (l : List UInt8) : Nat → Int → List LbT → List LbT × Int × Int
  | 0, p, acc => (acc, p, 0)
  | n + 1, p, acc => if (oneS l p).2.2.2 ≠ 0 then ([], 0, (oneS l p).2.2.2) else readN l n (oneS l p).2.2.1 (acc ++ [((oneS l p).1, (oneS l p).2.1)])
def readS (l : List UInt8) (p : Int) : List LbT × Int × Int :=
  if (uSpec l p).2.2 ≠ 0 then ([], 0, (uSpec l p).2.2) else if 16 < (uSpec l p).1 then ([], 0, 8)
  else if (readN l (uSpec l p).1 (uSpec l p).2.1 []).2.2 ≠ 0 then ([], 0, (readN l (uSpec l p).1 (uSpec l p).2.1 []).2.2)
  else if (rightS (readN l (uSpec l p).1 (uSpec l p).2.1 []).1).1 ≠ 0 then ([], 0, (rightS (readN l (uSpec l p).1 (uSpec l p).2.1 []).1).1)
  else ((readN l (uSpec l p).1 (uSpec l p).2.1 []).1, (readN l (uSpec l p).1 (uSpec l p).2.1 []).2.1, 0)
theorem tSpec_short (l : List UInt8) (p m : Int) : (tSpec l p m).1.length ≤ l.length := by
  unfold tSpec
  split
  · simp
  · split
    · simp
    · split
      · simp
      · split
        · simp
        · split
          · simp
          · show ((l.drop _).take _).length ≤ l.length
            rw [List.length_take, List.length_drop]
            omega
theorem oneS_short (l : List UInt8) (p : Int) : (oneS l p).1.length ≤ l.length ∧ (oneS l p).2.1.length ≤ l.length := by
  unfold oneS
  split
  · simp
  · split
    · simp
    · exact ⟨tSpec_short _ _ _, tSpec_short _ _ _⟩
theorem uSpec_nat {l : List UInt8} {p : Int} (h : (uSpec l p).2.2 = 0) : (uSpec l p).1 < 18446744073709551616 := by
  obtain ⟨n, k, e, hn, -⟩ := uSpec_ok h
  rw [e]; exact hn
/-- a list of labels grown by one, within bounds -/
theorem LbIn.snoc {acc : List LbT} {x y : List UInt8} (h : LbIn acc) (hl : acc.length + 1 ≤ 1000000000000000000) (hx : x.length ≤ 1000000000000000000) (hy : y.length ≤ 1000000000000000000) : LbIn (acc ++ [(x, y)]) := by
  refine ⟨by simp; omega, fun j => ?_⟩
  by_cases hj : j < acc.length
  · have : (acc ++ [(x, y)]).getD j ([], []) = acc.getD j ([], []) := by simp [List.getElem?_append_left hj]
    rw [this]; exact h.2 j
  · by_cases hj2 : j = acc.length
    · have : (acc ++ [(x, y)]).getD j ([], []) = (x, y) := by subst hj2; simp
      rw [this]; exact ⟨hx, hy⟩
    · have : (acc ++ [(x, y)]).getD j ([], []) = ([], []) := by
        have h0 : (acc ++ [(x, y)])[j]? = none := List.getElem?_eq_none (by simp; omega)
        rw [List.getD, h0]; rfl
      rw [this]; simp


theorem readN_step (l : List UInt8) {n z : Nat} (q : Int) (acc : List LbT) (hz : z < n) : readN l (n - z) q acc = if (oneS l q).2.2.2 ≠ 0 then ([], 0, (oneS l q).2.2.2) else readN l (n - (z + 1)) (oneS l q).2.2.1 (acc ++ [((oneS l q).1, (oneS l q).2.1)]) := by
  obtain ⟨m, hm⟩ : ∃ m, n - z = m + 1 := ⟨n - z - 1, by omega⟩
  rw [hm, readN, show n - (z + 1) = m by omega]
end Go.Proofs.YtkcgikgihbglnabDoor
