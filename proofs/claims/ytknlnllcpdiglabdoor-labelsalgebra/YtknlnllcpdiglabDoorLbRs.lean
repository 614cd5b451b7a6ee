/-
  The document's sorted: the walk.
-/
import Derived.Test.YtknlnllcpdiglabDoorLbRf
namespace Go.Proofs.YtknlnllcpdiglabDoor
open Go.RowKit

/-- a list with a gap, in which y stands -/
def gapL (P : List LbT) (k : Nat) (y : LbT) : List LbT := P.take k ++ y :: P.drop k
theorem gap_len (P : List LbT) (k : Nat) (y : LbT) (hk : k ≤ P.length) : (gapL P k y).length = P.length + 1 := by simp [gapL]; omega
theorem gap_at (P : List LbT) (k : Nat) (y : LbT) (hk : k ≤ P.length) : (gapL P k y).getD k ([], []) = y := by
  have h : (P.take k).length = k := by simp; omega
  simp [gapL, List.getD, h]
theorem gap_ahead (P : List LbT) (k j : Nat) (y : LbT) (hk : k ≤ P.length) (hj : j < k) : (gapL P k y).getD j ([], []) = P.getD j ([], []) := by
  have h : (P.take k).length = k := by simp; omega
  simp only [gapL, List.getD]
  rw [List.getElem?_append_left (by omega), List.getElem?_take, if_pos hj]
theorem gap_set (P : List LbT) (k : Nat) (y z : LbT) (hk : k ≤ P.length) : (gapL P k y).set k z = gapL P k z := by
  have h : (P.take k).length = k := by simp; omega
  unfold gapL
  rw [List.set_append_right _ _ (by omega), h, Nat.sub_self, List.set_cons_zero]
theorem gap_move (P : List LbT) (k : Nat) (z : LbT) (hk : k < P.length) (hz : z = P.getD k ([], [])) : gapL P (k + 1) z = gapL P k z := by
  have e : P.getD k ([], []) = P[k] := by simp [List.getD, hk]
  rw [e] at hz
  subst hz
  unfold gapL
  rw [List.take_succ_eq_append_getElem hk, List.append_assoc, List.drop_eq_getElem_cons hk]
  rfl
theorem gap_end (P : List LbT) (x : LbT) : gapL P P.length x = P ++ [x] := by simp [gapL]
theorem gap_perm (P : List LbT) (k : Nat) (x : LbT) : (gapL P k x).Perm (P ++ [x]) := by
  unfold gapL
  refine List.perm_middle.trans ?_
  rw [List.take_append_drop]
  exact (List.perm_append_comm (l₁ := [x]) (l₂ := P))
theorem gap_srt {P : List LbT} {k : Nat} {x : LbT} (hs : srtN P) (hb : ∀ p ∈ P.drop k, x.1 < p.1) (ha : ∀ p ∈ P.take k, ¬ x.1 < p.1) : srtN (gapL P k x) := by
  have hs2 : srtN (P.take k ++ P.drop k) := by rw [List.take_append_drop]; exact hs
  obtain ⟨h1, h2, h3⟩ := List.pairwise_append.1 hs2
  refine List.pairwise_append.2 ⟨h1, List.pairwise_cons.2 ⟨fun p hp h => List.lt_irrefl _ (List.lt_trans h (hb p hp)), h2⟩, fun p hp q hq => ?_⟩
  rcases List.mem_cons.1 hq with rfl | hq
  · exact ha p hp
  · exact h3 p hp q hq
/-- where the one ahead of the gap is not above x, none is -/
theorem ahead_all {P : List LbT} {k : Nat} {x : LbT} (hk : k < P.length) (hs : srtN P) (h : ¬ x.1 < (P.getD k ([], [])).1) : ∀ p ∈ P.take (k + 1), ¬ x.1 < p.1 := by
  intro p hp hlt
  have e : P.getD k ([], []) = P[k] := by simp [List.getD, hk]
  rw [e] at h
  rw [List.take_succ_eq_append_getElem hk] at hp
  rcases List.mem_append.1 hp with hp | hp
  · obtain ⟨j, hj, rfl⟩ := List.getElem_of_mem hp
    have hj' : j < k := by simp at hj; omega
    have := List.pairwise_iff_getElem.1 hs j k (by omega) hk hj'
    rw [List.getElem_take] at hlt
    rcases lt_tri P[j].1 P[k].1 with h1 | h1 | h1
    · exact h (List.lt_trans hlt h1)
    · rw [h1] at hlt; exact h hlt
    · exact this h1
  · have : p = P[k] := by simpa using hp
    subst this
    exact h hlt

theorem str_aft {a b : List UInt8} (h : a < b) : Op.bytesLess (ByteArray.mk ⟨b⟩).toList (ByteArray.mk ⟨a⟩).toList = false ∧ ((ByteArray.mk ⟨b⟩).toList == (ByteArray.mk ⟨a⟩).toList) = false := by
  rw [ByteArray.toList_eq, ByteArray.toList_eq, bytesLess_eq]
  refine ⟨decide_eq_false (fun h2 => List.lt_irrefl a (List.lt_trans h h2)), ?_⟩
  rw [beq_eq_false_iff_ne]
  intro e
  have e : b = a := e
  subst e
  exact List.lt_irrefl b h
theorem str_upt {a b : List UInt8} (h : ¬ a < b) : (Op.bytesLess (ByteArray.mk ⟨b⟩).toList (ByteArray.mk ⟨a⟩).toList || (ByteArray.mk ⟨b⟩).toList == (ByteArray.mk ⟨a⟩).toList) = true := by
  rw [ByteArray.toList_eq, ByteArray.toList_eq, bytesLess_eq, Bool.or_eq_true]
  rcases lt_tri a b with h1 | h1 | h1
  · exact absurd h1 h
  · right; subst h1; exact beq_self_eq_true _
  · left; exact decide_eq_true h1

end Go.Proofs.YtknlnllcpdiglabDoor
