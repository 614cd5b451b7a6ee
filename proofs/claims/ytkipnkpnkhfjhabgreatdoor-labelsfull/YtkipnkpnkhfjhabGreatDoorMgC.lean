/-
  LbRf, LbRs, LbRt, LbRm, in one text.
-/
import Derived.Test.YtkipnkpnkhfjhabGreatDoorLbMd
import Derived.Test.YtkipnkpnkhfjhabGreatDoorLbSp
/- LbRf -/
namespace Go.Proofs.YtkipnkpnkhfjhabGreatDoor
open Go.RowKit

/-- one label in a new box, to be appended -/
theorem box_rdc (w : World) (x y : ByteArray) : RdC (w.alloc (.cells #[.string x, .string y] 70)) (some ⟨w.heap.size, 0, none⟩) [.string x, .string y] := by
  intro j u hj
  refine ⟨_, rfl, ?_⟩
  rw [Go.WideShapes.add_plain]
  have ha := Go.heap_alloc_new w (.cells #[.string x, .string y] 70)
  simp only [World.cell?, ha]
  simpa using hj
theorem box_rdc1 (w : World) (C : Obj) (x y : ByteArray) : RdC ((w.alloc C).alloc (.cells #[.string x, .string y] 70)) (some ⟨w.heap.size + 1, 0, none⟩) [.string x, .string y] := by
  have h := box_rdc (w.alloc C) x y
  rwa [World.size_alloc] at h
theorem two_one (x y : ByteArray) : ∀ u ∈ [Value.string x, Value.string y], u.oneCell' = true := by
  intro u hu
  simp only [List.mem_cons, List.not_mem_nil, or_false] at hu
  rcases hu with rfl | rfl <;> rfl
theorem OwnL.snoc {w : World} {base : Nat} {v : Value} {ls : List LbT} {x y : List UInt8} (h : w.ownsRow base 70 2 v (ls.length + 1) (lbf ls ++ [.string (ByteArray.mk ⟨x⟩), .string (ByteArray.mk ⟨y⟩)])) : OwnL w base v (ls ++ [(x, y)]) := by
  unfold OwnL
  rw [List.length_append, lbf_append]
  exact h
theorem OwnL.nil (w : World) (base : Nat) : OwnL w base (.slice none 0 0) [] := World.ownsRow_nil w base _ _

end Go.Proofs.YtkipnkpnkhfjhabGreatDoor

/- LbRs -/
namespace Go.Proofs.YtkipnkpnkhfjhabGreatDoor
open Go.RowKit

/-- a list with a gap, in which y stands -/
def gapL (P : List LbT) (k : Nat) (y : LbT) : List LbT := P.take k ++ y :: P.drop k
theorem gap_len (P : List LbT) (k : Nat) (y : LbT) (hk : k ≤ P.length) : (gapL P k y).length = P.length + 1 := by simp [gapL]; omega
theorem gap_at (P : List LbT) (k : Nat) (y : LbT) (hk : k ≤ P.length) : (gapL P k y).getD k ([], []) = y := by
  have h : (P.take k).length = k := by simp; omega
  simp [gapL, List.getD, h]
theorem gap_ahead (P : List LbT) (k j : Nat) (y : LbT) (hk : k ≤ P.length) (hj : j < k) : (gapL P k y).getD j ([], []) = P.getD j ([], []) := by
  have h : (P.take k).length = k := by simp; omega
  simp only [gapL, List.getD]
  rw [List.getElem?_append_left (by omega), List.getElem?_take, if_pos hj]
theorem gap_set (P : List LbT) (k : Nat) (y z : LbT) (hk : k ≤ P.length) : (gapL P k y).set k z = gapL P k z := by
  have h : (P.take k).length = k := by simp; omega
  unfold gapL
  rw [List.set_append_right _ _ (by omega), h, Nat.sub_self, List.set_cons_zero]
theorem gap_move (P : List LbT) (k : Nat) (z : LbT) (hk : k < P.length) (hz : z = P.getD k ([], [])) : gapL P (k + 1) z = gapL P k z := by
  have e : P.getD k ([], []) = P[k] := by simp [List.getD, hk]
  rw [e] at hz
  subst hz
  unfold gapL
  rw [List.take_succ_eq_append_getElem hk, List.append_assoc, List.drop_eq_getElem_cons hk]
  rfl
theorem gap_end (P : List LbT) (x : LbT) : gapL P P.length x = P ++ [x] := by simp [gapL]
theorem gap_perm (P : List LbT) (k : Nat) (x : LbT) : (gapL P k x).Perm (P ++ [x]) := by
  unfold gapL
  refine List.perm_middle.trans ?_
  rw [List.take_append_drop]
  exact (List.perm_append_comm (l₁ := [x]) (l₂ := P))
theorem gap_srt {P : List LbT} {k : Nat} {x : LbT} (hs : srtN P) (hb : ∀ p ∈ P.drop k, x.1 < p.1) (ha : ∀ p ∈ P.take k, ¬ x.1 < p.1) : srtN (gapL P k x) := by
  have hs2 : srtN (P.take k ++ P.drop k) := by rw [List.take_append_drop]; exact hs
  obtain ⟨h1, h2, h3⟩ := List.pairwise_append.1 hs2
  refine List.pairwise_append.2 ⟨h1, List.pairwise_cons.2 ⟨fun p hp h => List.lt_irrefl _ (List.lt_trans h (hb p hp)), h2⟩, fun p hp q hq => ?_⟩
  rcases List.mem_cons.1 hq with rfl | hq
  · exact ha p hp
  · exact h3 p hp q hq
/-- where the one ahead of the gap is not above x, none is -/
theorem ahead_all {P : List LbT} {k : Nat} {x : LbT} (hk : k < P.length) (hs : srtN P) (h : ¬ x.1 < (P.getD k ([], [])).1) : ∀ p ∈ P.take (k + 1), ¬ x.1 < p.1 := by
  intro p hp hlt
  have e : P.getD k ([], []) = P[k] := by simp [List.getD, hk]
  rw [e] at h
  rw [List.take_succ_eq_append_getElem hk] at hp
  rcases List.mem_append.1 hp with hp | hp
  · obtain ⟨j, hj, rfl⟩ := List.getElem_of_mem hp
    have hj' : j < k := by simp at hj; omega
    have := List.pairwise_iff_getElem.1 hs j k (by omega) hk hj'
    rw [List.getElem_take] at hlt
    rcases lt_tri P[j].1 P[k].1 with h1 | h1 | h1
    · exact h (List.lt_trans hlt h1)
    · rw [h1] at hlt; exact h hlt
    · exact this h1
  · have : p = P[k] := by simpa using hp
    subst this
    exact h hlt

theorem str_aft {a b : List UInt8} (h : a < b) : Op.bytesLess (ByteArray.mk ⟨b⟩).toList (ByteArray.mk ⟨a⟩).toList = false ∧ ((ByteArray.mk ⟨b⟩).toList == (ByteArray.mk ⟨a⟩).toList) = false := by
  rw [ByteArray.toList_eq, ByteArray.toList_eq, bytesLess_eq]
  refine ⟨decide_eq_false (fun h2 => List.lt_irrefl a (List.lt_trans h h2)), ?_⟩
  rw [beq_eq_false_iff_ne]
  intro e
  have e : b = a := e
  subst e
  exact List.lt_irrefl b h
theorem str_upt {a b : List UInt8} (h : ¬ a < b) : (Op.bytesLess (ByteArray.mk ⟨b⟩).toList (ByteArray.mk ⟨a⟩).toList || (ByteArray.mk ⟨b⟩).toList == (ByteArray.mk ⟨a⟩).toList) = true := by
  rw [ByteArray.toList_eq, ByteArray.toList_eq, bytesLess_eq, Bool.or_eq_true]
  rcases lt_tri a b with h1 | h1 | h1
  · exact absurd h1 h
  · right; subst h1; exact beq_self_eq_true _
  · left; exact decide_eq_true h1

end Go.Proofs.YtkipnkpnkhfjhabGreatDoor

/- LbRt -/
namespace Go.Proofs.YtkipnkpnkhfjhabGreatDoor
open Go.RowKit

theorem nd_of_all {ls : List LbT} (h : ∀ j, j < ls.length → ∀ i, i < j → (ls.getD i ([], [])).1 ≠ (ls.getD j ([], [])).1) : ndN ls := by
  refine List.pairwise_iff_getElem.2 fun i j hi hj hij => ?_
  have := h j hj i hij
  have e1 : ls.getD j ([], []) = ls[j] := by simp [List.getD, hj]
  have e2 : ls.getD i ([], []) = ls[i] := by simp [List.getD, hi]
  rwa [e1, e2] at this
theorem not_nd_of {ls : List LbT} {i j : Nat} (hj : j < ls.length) (hi : i < j) (h : (ls.getD i ([], [])).1 = (ls.getD j ([], [])).1) : ¬ ndN ls := by
  intro hn
  have := List.pairwise_iff_getElem.1 hn i j (by omega) hj hi
  have e1 : ls.getD j ([], []) = ls[j] := by simp [List.getD, hj]
  have e2 : ls.getD i ([], []) = ls[i]'(by omega) := by simp [List.getD, show i < ls.length by omega]
  rw [e1, e2] at h
  exact this h

end Go.Proofs.YtkipnkpnkhfjhabGreatDoor

/- LbRm -/
namespace Go.Proofs.YtkipnkpnkhfjhabGreatDoor
open Go.RowKit

theorem OwnL.mono {w : World} {base base' : Nat} {v : Value} {ls : List LbT} (h : OwnL w base v ls) (hb : base' ≤ base) : OwnL w base' v ls := by
  obtain ⟨h1, h2⟩ := h
  refine ⟨h1, ?_⟩
  rcases h2 with h2 | ⟨g, cap, cur, hv, hg, r⟩
  · exact .inl h2
  · exact .inr ⟨g, cap, cur, hv, by omega, r⟩
theorem madeS_nd {ls : List LbT} (hn : ndN ls) : madeS ls = if (rightS (sortN (fullL ls))).1 = 0 then (sortN (fullL ls), 0, 0) else ([], (rightS (sortN (fullL ls))).1, (rightS (sortN (fullL ls))).2) := by
  unfold madeS
  rw [if_pos hn]
theorem madeS_dup {ls : List LbT} (hn : ¬ ndN ls) : madeS ls = ([], 6, 0) := by
  unfold madeS
  rw [if_neg hn]
theorem sort_len (ls : List LbT) : (sortN (fullL ls)).length ≤ ls.length := by rw [(sortN_perm _).length_eq]; exact full_len ls

end Go.Proofs.YtkipnkpnkhfjhabGreatDoor
