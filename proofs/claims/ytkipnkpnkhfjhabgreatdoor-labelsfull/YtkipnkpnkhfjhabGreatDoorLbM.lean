/-
  Labels sorted: the row ahead of the sort and behind it, as a list.
-/
import Derived.Test.YtkipnkpnkhfjhabGreatDoorLbS
import Derived.Test.YtkipnkpnkhfjhabGreatDoorLbK
namespace Go.Proofs.YtkipnkpnkhfjhabGreatDoor
open Go.RowKit Go.Shelf Go.Sort

theorem holds_of_block {w : World} {g : Nat} {ls : List LbT} (h : w.heap[g]? = some (.cells (lbf ls).toArray 70 (0, 0))) : HoldsK encL 2 w g 0 ls.toArray := by
  intro j hj
  rw [size_flatK] at hj
  have hj' : j < ls.length * 2 := by simpa using hj
  rw [get_flatK _ _ _ _ hj]
  have hg := lbf_get ls (j / 2) (by omega)
  have hd : ls.toArray[j / 2]! = ls.getD (j / 2) ([], []) := by
    have hlt : j / 2 < ls.length := by omega
    simp [hlt, getElem!_pos]
  refine ⟨?_, by simp [World.frozen?, h]⟩
  have hc : w.cell? ⟨g, 0 + j, none⟩ = (lbf ls)[j]? := by simp [World.cell?, h]
  rw [hc, hd]
  by_cases hp : j % 2 = 0
  · have e : j / 2 * 2 = j := by omega
    rw [e] at hg
    rw [hg.1, hp]
    rfl
  · have hp' : j % 2 = 1 := by omega
    have e : j / 2 * 2 + 1 = j := by omega
    rw [e] at hg
    rw [hg.2, hp']
    rfl
theorem rd_of_holds {w : World} {g cap : Nat} {d : Array LbT} (h : HoldsK encL 2 w g 0 d) (hc : d.size ≤ cap) (hm : cap ≤ maxLen) : RdL w (.slice (some ⟨g, 0, none⟩) d.size cap) d.toList := by
  refine ⟨some ⟨g, 0, none⟩, cap, by simp, by simpa using hc, hm, fun j hj => ?_, fun h => by cases h⟩
  have hj' : j < d.size := by simpa using hj
  have hd : d[j]! = d.toList.getD j ([], []) := by simp [hj', getElem!_pos]
  have h0 := (h (j * 2) (by rw [size_flatK]; omega)).1
  have h1 := (h (j * 2 + 1) (by rw [size_flatK]; omega)).1
  rw [get_flatK _ _ _ _ (by omega)] at h0 h1
  rw [show j * 2 / 2 = j by omega, show j * 2 % 2 = 0 by omega, hd] at h0
  rw [show (j * 2 + 1) / 2 = j by omega, show (j * 2 + 1) % 2 = 1 by omega, hd] at h1
  exact ⟨g, 0, rfl, h0, h1⟩
theorem sortW_holds {w : World} {g n : Nat} {d d' : Array LbT} {os : Array Obj} (h : HoldsK encL 2 w g 0 d) (hs : d'.size = d.size) (hg : g < w.heap.size) : HoldsK encL 2 (sortWorldK encL 2 w g 0 n d' os) g 0 d' := by
  refine holds_grow _ _ _ _ _ _ ?_ (holds_putRow _ _ _ _ (flatK encL 2 d) _ h (by rw [size_flatK, size_flatK, hs]))
  unfold putRowK
  rw [size_putRow]
  exact hg
theorem sortW_grown (w : World) (g n : Nat) (d' : Array LbT) (os : Array Obj) : w.grownBy (sortWorldK encL 2 w g 0 n d' os) (some g) := by
  refine ⟨rfl, rfl, rfl, ?_, fun k hk hne => ?_⟩
  · simp [sortWorldK, putRowK, putRow, mapBlock, grow]
  · have hkg : k ≠ g := fun e => hne (by rw [e])
    simp only [sortWorldK, putRowK, putRow, mapBlock, grow]
    rw [Array.getElem?_append_left (by simpa using hk), Array.getElem?_modify, if_neg (fun e => hkg e.symm)]
    rfl
/-- two labels that stand in order stay -/
theorem sort_two {x y : LbT} {d' : Array LbT} (hp : PermIn 0 (#[x, y] : Array LbT).size #[x, y] d') (hs : SortedIn (ltOf cmpL) 0 (#[x, y] : Array LbT).size d') (hlt : ltOf cmpL x y = true) : d' = #[x, y] := by
  obtain ⟨h1, -, h3⟩ := hp
  have h1 : d'.size = 2 := h1
  have e : d' = #[d'[0]!, d'[1]!] := by
    apply Array.ext
    · rw [h1]; rfl
    · intro i hi hi2
      have : i = 0 ∨ i = 1 := by rw [h1] at hi; omega
      rcases this with rfl | rfl
      · simp [getElem!_pos, hi]
      · simp [getElem!_pos, hi]
  have h4 := hs 0 1 (by omega) (by omega) (by show 1 < 2; omega)
  rw [e] at h3
  have h5 : [d'[0]!, d'[1]!].Perm [x, y] := by simpa using h3
  generalize d'[0]! = p at *
  generalize d'[1]! = q at *
  have hpm : p ∈ [x, y] := h5.mem_iff.1 (by simp)
  rw [e]
  simp only [List.mem_cons, List.not_mem_nil, or_false] at hpm
  rcases hpm with rfl | rfl
  · have h6 : [q].Perm [y] := List.Perm.cons_inv h5
    have h7 : q = y := by simpa using h6
    rw [h7]
  · have h6 : [p, q].Perm [p, x] := h5.trans (List.Perm.swap _ _ _)
    have h7 : [q].Perm [x] := List.Perm.cons_inv h6
    have h8 : q = x := by simpa using h7
    rw [h8, hlt] at h4
    cases h4
end Go.Proofs.YtkipnkpnkhfjhabGreatDoor
