/-
  What a label set made of labels is: sorted by name, those with a value alone: plain facts of lists.
-/
import Derived.Test.YtkipnkpnkhfjhabGreatDoorLbL
namespace Go.Proofs.YtkipnkpnkhfjhabGreatDoor

/-- those with a value -/
def fullL (ls : List LbT) : List LbT := ls.filter fun x => !x.2.isEmpty
/-- rising by name -/
def insN (x : LbT) : List LbT → List LbT
  | [] => [x]
  | y :: t => if x.1 < y.1 then x :: y :: t else y :: insN x t
def sortN (ls : List LbT) : List LbT := ls.foldr insN []
/-- no name is there twice -/
def ndN (ls : List LbT) : Prop := ls.Pairwise fun a b => a.1 ≠ b.1
/-- by name, none ahead of a lesser one -/
def srtN (ls : List LbT) : Prop := ls.Pairwise fun a b => ¬ b.1 < a.1
open Classical in
/-- what made answers -/
noncomputable def madeS (ls : List LbT) : List LbT × Int × Nat :=
  if ndN ls then (if (rightS (sortN (fullL ls))).1 = 0 then (sortN (fullL ls), 0, 0) else ([], (rightS (sortN (fullL ls))).1, (rightS (sortN (fullL ls))).2)) else ([], 6, 0)

open Classical in
/-- a name is there twice -/
noncomputable def dupB (ls : List LbT) : Bool := if ndN ls then false else true
theorem dupB_nd {ls : List LbT} (h : ndN ls) : dupB ls = false := by unfold dupB; rw [if_pos h]
theorem dupB_dup {ls : List LbT} (h : ¬ ndN ls) : dupB ls = true := by unfold dupB; rw [if_neg h]
theorem lt_tri (a b : List UInt8) : a < b ∨ a = b ∨ b < a := by
  by_cases h : a < b
  · exact .inl h
  · by_cases h2 : b < a
    · exact .inr (.inr h2)
    · right; left
      rcases List.le_total a b with h' | h'
      · exact List.le_antisymm h' (List.not_lt.1 h)
      · exact List.le_antisymm (List.not_lt.1 h2) h'
theorem insN_perm (x : LbT) : ∀ l : List LbT, (insN x l).Perm (x :: l)
  | [] => .refl _
  | y :: t => by
    unfold insN
    split
    · exact .refl _
    · exact ((insN_perm x t).cons y).trans (.swap x y t)
theorem sortN_perm : ∀ l : List LbT, (sortN l).Perm l
  | [] => .refl _
  | x :: t => (insN_perm x (sortN t)).trans ((sortN_perm t).cons x)
theorem insN_srt (x : LbT) : ∀ l : List LbT, srtN l → srtN (insN x l)
  | [], _ => by unfold insN srtN; simp
  | y :: t, h => by
    have h' := List.pairwise_cons.1 h
    unfold insN
    split
    · rename_i hlt
      refine List.pairwise_cons.2 ⟨fun z hz => ?_, h⟩
      rcases List.mem_cons.1 hz with rfl | hz
      · exact fun h2 => List.lt_irrefl _ (List.lt_trans hlt h2)
      · intro h2
        exact h'.1 z hz (List.lt_trans h2 hlt)
    · rename_i hlt
      refine List.pairwise_cons.2 ⟨fun z hz => ?_, insN_srt x t h'.2⟩
      rcases List.mem_cons.1 ((insN_perm x t).mem_iff.1 hz) with rfl | hz
      · exact hlt
      · exact h'.1 z hz
theorem sortN_srt : ∀ l : List LbT, srtN (sortN l)
  | [] => List.Pairwise.nil
  | x :: t => insN_srt x _ (sortN_srt t)
theorem ndN_perm {a b : List LbT} (h : a.Perm b) : ndN a ↔ ndN b := h.pairwise_iff (fun hxy e => hxy e.symm)
theorem srt_uniq : ∀ {a b : List LbT}, a.Perm b → srtN a → srtN b → ndN a → a = b
  | [], b, hp, _, _, _ => (List.perm_nil.1 hp.symm).symm
  | x :: a, [], hp, _, _, _ => List.perm_nil.1 hp
  | x :: a, y :: b, hp, ha, hb, hn => by
    have ha' := List.pairwise_cons.1 ha
    have hb' := List.pairwise_cons.1 hb
    have hn' := List.pairwise_cons.1 hn
    have hxy : x = y := by
      have h1 := hp.mem_iff.1 (List.mem_cons_self (a := x) (l := a))
      have h2 := hp.mem_iff.2 (List.mem_cons_self (a := y) (l := b))
      rcases List.mem_cons.1 h1 with h1 | h1
      · exact h1
      · rcases List.mem_cons.1 h2 with h2 | h2
        · exact h2.symm
        · rcases lt_tri x.1 y.1 with h | h | h
          · exact absurd h (hb'.1 x h1)
          · exact absurd h (hn'.1 y h2)
          · exact absurd h (ha'.1 y h2)
    subst hxy
    rw [srt_uniq (List.Perm.cons_inv hp) ha'.2 hb'.2 hn'.2]
theorem full_perm {a b : List LbT} (h : a.Perm b) : (fullL a).Perm (fullL b) := h.filter _
theorem full_nd {a : List LbT} (h : ndN a) : ndN (fullL a) := h.filter _
theorem full_srt {a : List LbT} (h : srtN a) : srtN (fullL a) := h.filter _
/-- what is sorted, less the empty ones -/
theorem made_uniq {a ls : List LbT} (hp : a.Perm ls) (hs : srtN a) (hn : ndN ls) : fullL a = sortN (fullL ls) :=
  srt_uniq ((full_perm hp).trans (sortN_perm _).symm) (full_srt hs) (sortN_srt _) (full_nd ((ndN_perm hp).2 hn))
theorem sort_uniq {a ls : List LbT} (hp : a.Perm ls) (hs : srtN a) (hn : ndN ls) : a = sortN ls :=
  srt_uniq (hp.trans (sortN_perm _).symm) hs (sortN_srt _) ((ndN_perm hp).2 hn)
/-- sorted, and no name beside its like: none is there twice -/
theorem nd_of_adj : ∀ {a : List LbT}, srtN a → (∀ j, 1 ≤ j → j < a.length → (a.getD j ([], [])).1 ≠ (a.getD (j - 1) ([], [])).1) → ndN a
  | [], _, _ => List.Pairwise.nil
  | x :: a, hs, hj => by
    have hs' := List.pairwise_cons.1 hs
    refine List.pairwise_cons.2 ⟨fun z hz e => ?_, nd_of_adj hs'.2 (fun j h1 h2 => ?_)⟩
    · cases a with
      | nil => cases hz
      | cons y a =>
        have h1 := hj 1 (Nat.le_refl _) (by simp)
        have h1 : y.1 ≠ x.1 := by simpa using h1
        rcases List.mem_cons.1 hz with rfl | hz
        · exact h1 e.symm
        · have h2 := hs'.1 y (List.mem_cons_self ..)
          have h3 := (List.pairwise_cons.1 hs'.2).1 z hz
          rcases lt_tri x.1 y.1 with h | h | h
          · rw [e] at h; exact h3 h
          · exact h1 h.symm
          · exact h2 h
    · have := hj (j + 1) (by omega) (by simpa using h2)
      obtain ⟨k, rfl⟩ : ∃ k, j = k + 1 := ⟨j - 1, by omega⟩
      simpa using this
theorem adj_not_nd {a : List LbT} {j : Nat} (h1 : 1 ≤ j) (h2 : j < a.length) (h : (a.getD j ([], [])).1 = (a.getD (j - 1) ([], [])).1) : ¬ ndN a := by
  intro hn
  have := List.pairwise_iff_getElem.1 hn (j - 1) j (by omega) h2 (by omega)
  refine this ?_
  have e1 : a.getD j ([], []) = a[j] := by simp [List.getD, h2]
  have e2 : a.getD (j - 1) ([], []) = a[j - 1]'(by omega) := by simp [List.getD, show j - 1 < a.length by omega]
  rw [e1, e2] at h
  exact h.symm
theorem getD_mem {a : List LbT} (j : Nat) : a.getD j ([], []) ∈ a ∨ a.getD j ([], []) = ([], []) := by
  by_cases h : j < a.length
  · left
    have e1 : a.getD j ([], []) = a[j] := by simp [List.getD, h]
    rw [e1]
    exact List.getElem_mem h
  · right
    simp [List.getD, h]
theorem LbIn.mem {ls : List LbT} (h : LbIn ls) : ∀ x ∈ ls, x.1.length ≤ 1000000000000000000 ∧ x.2.length ≤ 1000000000000000000 := by
  intro x hx
  obtain ⟨j, hj, rfl⟩ := List.getElem_of_mem hx
  have := h.2 j
  have e1 : ls.getD j ([], []) = ls[j] := by simp [List.getD, hj]
  rwa [e1] at this
theorem LbIn.of {a : List LbT} (hl : a.length ≤ 1000000000000000000) (h : ∀ x ∈ a, x.1.length ≤ 1000000000000000000 ∧ x.2.length ≤ 1000000000000000000) : LbIn a := by
  refine ⟨hl, fun j => ?_⟩
  rcases getD_mem (a := a) j with h1 | h1
  · exact h _ h1
  · rw [h1]; simp
theorem full_len (ls : List LbT) : (fullL ls).length ≤ ls.length := List.length_filter_le _ _
theorem full_mem {ls : List LbT} {x : LbT} (h : x ∈ fullL ls) : x ∈ ls := (List.mem_filter.1 h).1
theorem LbIn.full {ls : List LbT} (h : LbIn ls) : LbIn (fullL ls) := .of (Nat.le_trans (full_len _) h.1) (fun x hx => h.mem x (full_mem hx))
theorem LbIn.perm {a b : List LbT} (h : LbIn b) (hp : a.Perm b) : LbIn a := .of (by rw [hp.length_eq]; exact h.1) (fun x hx => h.mem x (hp.mem_iff.1 hx))
theorem LbIn.made {ls : List LbT} (h : LbIn ls) : LbIn (sortN (fullL ls)) := h.full.perm (sortN_perm _)
/-- the first label of a name -/
def getL : List LbT → List UInt8 → List UInt8
  | [], _ => []
  | x :: t, nm => if x.1 = nm then x.2 else getL t nm
theorem getL_hit : ∀ (ls : List LbT) (nm : List UInt8) (k : Nat), k < ls.length → (ls.getD k ([], [])).1 = nm → (∀ j, j < k → (ls.getD j ([], [])).1 ≠ nm) → getL ls nm = (ls.getD k ([], [])).2
  | [], _, _, hk, _, _ => by simp at hk
  | x :: t, nm, 0, _, h1, _ => by
    have h1 : x.1 = nm := by simpa using h1
    simp [getL, h1]
  | x :: t, nm, k + 1, hk, h1, h2 => by
    have h0 : x.1 ≠ nm := by simpa using h2 0 (by omega)
    rw [getL, if_neg h0, getL_hit t nm k (by simpa using hk) (by simpa using h1) (fun j hj => by simpa using h2 (j + 1) (by omega))]
    simp
theorem getL_none : ∀ (ls : List LbT) (nm : List UInt8), (∀ j, j < ls.length → (ls.getD j ([], [])).1 ≠ nm) → getL ls nm = []
  | [], _, _ => rfl
  | x :: t, nm, h => by
    have h0 : x.1 ≠ nm := by simpa using h 0 (by simp)
    rw [getL, if_neg h0]
    exact getL_none t nm (fun j hj => by simpa using h (j + 1) (by simpa using hj))
theorem full_take_step {ls : List LbT} {z : Nat} (hz : z < ls.length) : fullL (ls.take (z + 1)) = fullL (ls.take z) ++ (if (ls.getD z ([], [])).2 = [] then [] else [ls.getD z ([], [])]) := by
  have e1 : ls.getD z ([], []) = ls[z] := by simp [List.getD, hz]
  rw [List.take_succ_eq_append_getElem hz, fullL, List.filter_append, e1]
  congr 1
  by_cases h : ls[z].2 = []
  · simp [h]
  · have : ls[z].2.isEmpty = false := by cases hh : ls[z].2 with | nil => exact absurd hh h | cons _ _ => rfl
    simp [this, h]
end Go.Proofs.YtkipnkpnkhfjhabGreatDoor
