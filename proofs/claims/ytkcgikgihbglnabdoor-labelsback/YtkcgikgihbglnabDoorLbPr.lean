/-
  The text of a label set: what it is, in words.
-/
import Derived.Test.YtkcgikgihbglnabDoorMgF
import Derived.Test.YtkcgikgihbglnabDoorLbPk
import Derived.Test.YtkcgikgihbglnabDoorLbA4
import Derived.Test.YtkcgikgihbglnabDoorLbGt
import Derived.Lib.Join
namespace Go.Proofs.YtkcgikgihbglnabDoor
open Go.RowKit

theorem firstAt_ok (ls : List LbT) : ∀ (f i : Nat), (firstAt ls f i).1 = 0 → ∀ j, i ≤ j → j < i + f → errAt ls j = 0
  | 0, i, _, j, h1, h2 => by omega
  | f + 1, i, h, j, h1, h2 => by
    rw [firstAt] at h
    by_cases he : errAt ls i = 0
    · rw [if_neg (by simpa using he)] at h
      by_cases hj : j = i
      · rw [hj]; exact he
      · exact firstAt_ok ls f (i + 1) h j (by omega) (by omega)
    · rw [if_pos he] at h
      exact absurd h he
/-- a right label set is small -/
theorem right_few {ls : List LbT} (h : (rightS ls).1 = 0) : ls.length ≤ 16 ∧ ∀ j, (ls.getD j ([], [])).1.length ≤ 64 ∧ (ls.getD j ([], [])).2.length ≤ 256 := by
  unfold rightS at h
  by_cases h16 : 16 < ls.length
  · rw [if_pos h16] at h; cases h
  · rw [if_neg h16] at h
    refine ⟨by omega, fun j => ?_⟩
    by_cases hj : j < ls.length
    · have he := firstAt_ok ls _ _ h j (by omega) (by omega)
      unfold errAt at he
      by_cases h3 : oneE (ls.getD j ([], [])).1 (ls.getD j ([], [])).2 = 0
      · generalize ls.getD j ([], []) = x at *
        unfold oneE at h3
        by_cases h4 : nameB x.1 = false
        · rw [if_pos h4] at h3; cases h3
        · rw [if_neg h4] at h3
          refine ⟨?_, ?_⟩
          · by_cases h5 : 64 < x.1.length
            · exact absurd (longName x.1 h5) h4
            · omega
          · by_cases h5 : x.2 = []
            · rw [h5]; simp
            · rw [if_neg h5] at h3
              by_cases h6 : 256 < x.2.length
              · rw [if_pos h6] at h3; cases h3
              · omega
      · rw [if_pos h3] at he
        exact absurd he h3
    · have : ls.getD j ([], []) = ([], []) := by simp [List.getD, hj]
      rw [this]; simp
theorem at_mem {ls : List LbT} {x : LbT} (h : x ∈ ls) : ∃ j, j < ls.length ∧ ls.getD j ([], []) = x := by
  obtain ⟨j, hj, e⟩ := List.getElem_of_mem h
  exact ⟨j, hj, by simp [List.getD, hj, e]⟩
def fewL (ls : List LbT) : Prop := ls.length ≤ 16 ∧ ∀ x ∈ ls, x.1.length ≤ 64 ∧ x.2.length ≤ 256
theorem right_fewL {ls : List LbT} (h : (rightS ls).1 = 0) : fewL ls := by
  refine ⟨(right_few h).1, fun x hx => ?_⟩
  obtain ⟨j, _, rfl⟩ := at_mem hx
  exact (right_few h).2 j
theorem fewL.pick {ls : List LbT} (h : fewL ls) (p : List UInt8 → Bool) : fewL (pickL p ls) := ⟨Nat.le_trans (pick_len p ls) h.1, fun x hx => h.2 x (List.mem_filter.1 hx).1⟩
theorem fewL.at {ls : List LbT} (h : fewL ls) (j : Nat) : (ls.getD j ([], [])).1.length ≤ 64 ∧ (ls.getD j ([], [])).2.length ≤ 256 := by
  by_cases hj : j < ls.length
  · have e : ls.getD j ([], []) = ls[j] := by simp [List.getD, hj]
    rw [e]
    exact h.2 _ (List.getElem_mem hj)
  · have : ls.getD j ([], []) = ([], []) := by simp [List.getD, hj]
    rw [this]; simp
theorem getL_few : ∀ {ls : List LbT} (nm : List UInt8), (∀ x ∈ ls, x.1.length ≤ 64 ∧ x.2.length ≤ 256) → (getL ls nm).length ≤ 256
  | [], nm, _ => by simp [getL]
  | x :: t, nm, h => by
    rw [getL]
    by_cases e : x.1 = nm
    · rw [if_pos e]; exact (h x List.mem_cons_self).2
    · rw [if_neg e]; exact getL_few nm (fun y hy => h y (List.mem_cons_of_mem _ hy))
/-- a label in braces -/
def itemB (x : LbT) : List UInt8 := x.1 ++ [61] ++ quoS x.2
def joinI (rs : List LbT) (z : Nat) : List UInt8 := Lib.join ((rs.take z).map itemB) [44]
theorem join_snoc (xs : List (List UInt8)) (x sep : List UInt8) : Lib.join (xs ++ [x]) sep = (if xs = [] then [] else Lib.join xs sep ++ sep) ++ x := by
  cases xs with
  | nil => rw [List.nil_append, Lib.join_one, if_pos rfl]; rfl
  | cons y r =>
    rw [List.cons_append, Lib.join_cons, Lib.join_cons, if_neg (by simp)]
    simp [Lib.joinTail]
theorem joinI_step {rs : List LbT} {z : Nat} (h : z < rs.length) : joinI rs (z + 1) = (if z = 0 then [] else joinI rs z ++ [44]) ++ itemB (rs.getD z ([], [])) := by
  have e : rs.getD z ([], []) = rs[z] := by simp [List.getD, h]
  unfold joinI
  rw [List.take_succ_eq_append_getElem h, List.map_append, List.map_cons, List.map_nil, join_snoc, e]
  by_cases hz : z = 0
  · subst hz; simp
  · rw [if_neg hz, if_neg]
    intro h2
    have := congrArg List.length h2
    rw [List.length_map, List.length_take] at this
    simp only [List.length_nil] at this
    omega
theorem quoS_len {s : List UInt8} (h : s.length ≤ 256) : (quoS s).length ≤ 514 := by
  have := quoP_len s s.length (Nat.le_refl _)
  unfold quoS
  rw [List.length_append]
  simp
  omega
theorem itemB_len {x : LbT} (h : x.1.length ≤ 64 ∧ x.2.length ≤ 256) : (itemB x).length ≤ 579 := by
  have := quoS_len h.2
  unfold itemB
  simp only [List.length_append, List.length_cons, List.length_nil]
  omega
theorem joinI_len {rs : List LbT} (h : fewL rs) : ∀ z, z ≤ rs.length → (joinI rs z).length ≤ 580 * z
  | 0, _ => by simp [joinI, Lib.join_nil]
  | z + 1, hz => by
    have ih := joinI_len h z (by omega)
    have := itemB_len (h.at z)
    rw [joinI_step (by omega)]
    by_cases e : z = 0
    · rw [if_pos e, List.nil_append]; omega
    · rw [if_neg e]; simp only [List.length_append, List.length_cons, List.length_nil]; omega
def aheadP (ls : List LbT) : List UInt8 := if metricB (getL ls mnB) = true then getL ls mnB else []
def restP (ls : List LbT) : List LbT := if metricB (getL ls mnB) = true then pickL (p_Without [mnB]) ls else ls
def printS (ls : List LbT) : List UInt8 × Int :=
  if (rightS ls).1 ≠ 0 then ([], (rightS ls).1)
  else if metricB (getL ls mnB) = true ∧ restP ls = [] then (aheadP ls, 0)
  else (aheadP ls ++ [123] ++ joinI (restP ls) (restP ls).length ++ [125], 0)
theorem mk_app2 (a b : List UInt8) : ByteArray.mk ⟨a⟩ ++ ByteArray.mk ⟨b⟩ = ByteArray.mk ⟨a ++ b⟩ := by
  apply ByteArray.ext
  apply Array.toList_inj.1
  simp
theorem one_nameP (w : World) (nm : List UInt8) : RdN (w.alloc (.cells #[.string (ByteArray.mk ⟨nm⟩)] 9)) (.slice (some ⟨w.heap.size, 0, none⟩) 1 1) [nm] := by
  refine ⟨some ⟨w.heap.size, 0, none⟩, 1, rfl, by simp, by simp [maxLen], fun j hj => ⟨w.heap.size, 0, rfl, ?_⟩, fun h => by cases h⟩
  have hj0 : j = 0 := by simp at hj; exact hj
  subst hj0
  have ha := Go.heap_alloc_new w (.cells #[.string (ByteArray.mk ⟨nm⟩)] 9)
  rw [World.cell?, ha]
  rfl
/-- where a slice's end begins -/
def tailA (a : Option Addr) (c q : Nat) : Option Addr := if c = q then a else a.map (·.add (q * 2))
end Go.Proofs.YtkcgikgihbglnabDoor
