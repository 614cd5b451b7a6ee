/-
  A label set with another label: plain facts of lists.
-/
import Derived.Test.YtknlnllcpdiglaaDoorLbBs
import Derived.Test.YtknlnllcpdiglaaDoorLbPk
namespace Go.Proofs.YtknlnllcpdiglaaDoor

theorem firstAt_ok (ls : List LbT) : ∀ (f i : Nat), (firstAt ls f i).1 = 0 → ∀ j, i ≤ j → j < i + f → errAt ls j = 0
  | 0, i, _, j, h1, h2 => by omega
  | f + 1, i, h, j, h1, h2 => by
    rw [firstAt] at h
    by_cases he : errAt ls i = 0
    · rw [if_neg (by simpa using he)] at h
      by_cases hj : j = i
      · rw [hj]; exact he
      · exact firstAt_ok ls f (i + 1) h j (by omega) (by omega)
    · rw [if_pos he] at h
      exact absurd h he
theorem ris_of_adj : ∀ {a : List LbT}, (∀ j, 0 < j → j < a.length → (a.getD (j - 1) ([], [])).1 < (a.getD j ([], [])).1) → risN a
  | [], _ => List.Pairwise.nil
  | x :: a, h => by
    have ih : risN a := ris_of_adj (fun j h1 h2 => by
      have := h (j + 1) (by omega) (by simpa using h2)
      obtain ⟨k, rfl⟩ : ∃ k, j = k + 1 := ⟨j - 1, by omega⟩
      simpa using this)
    refine List.pairwise_cons.2 ⟨fun z hz => ?_, ih⟩
    cases a with
    | nil => cases hz
    | cons y a =>
      have h1 : x.1 < y.1 := by simpa using h 1 (by omega) (by simp)
      rcases List.mem_cons.1 hz with rfl | hz
      · exact h1
      · exact List.lt_trans h1 ((List.pairwise_cons.1 ih).1 z hz)
/-- a right label set rises, and has at most sixteen labels -/
theorem right_ris {ls : List LbT} (h : (rightS ls).1 = 0) : ls.length ≤ 16 ∧ risN ls := by
  unfold rightS at h
  by_cases h16 : 16 < ls.length
  · rw [if_pos h16] at h; cases h
  · rw [if_neg h16] at h
    refine ⟨by omega, ris_of_adj fun j h1 h2 => ?_⟩
    have he := firstAt_ok ls _ _ h j (by omega) (by omega)
    unfold errAt at he
    by_cases h3 : oneE (ls.getD j ([], [])).1 (ls.getD j ([], [])).2 = 0
    · rw [if_neg (by simpa using h3)] at he
      by_cases h4 : (ls.getD (j - 1) ([], [])).1 < (ls.getD j ([], [])).1
      · exact h4
      · rw [if_pos ⟨h1, h4⟩] at he; cases he
    · rw [if_pos h3] at he
      exact absurd he h3
theorem ris_srt {a : List LbT} (h : risN a) : srtN a := h.imp fun hab hba => List.lt_irrefl _ (List.lt_trans hab hba)
theorem ris_nd {a : List LbT} (h : risN a) : ndN a := h.imp fun hab e => by rw [e] at hab; exact List.lt_irrefl _ hab

theorem has_one (nm s : List UInt8) : hasN [nm] s = decide (s = nm) := by unfold hasN; simp
theorem pW_one (nm s : List UInt8) : p_Without [nm] s = !decide (s = nm) := by unfold p_Without; rw [has_one]
/-- what is behind the place of a name -/
def behindN (ls : List LbT) (nm : List UInt8) (p : Nat) : Nat := if p < ls.length ∧ (ls.getD p ([], [])).1 = nm then p + 1 else p
theorem behind_le {ls : List LbT} {nm : List UInt8} {p : Nat} (h : AtN ls nm p) : p ≤ behindN ls nm p ∧ behindN ls nm p ≤ ls.length := by
  unfold behindN
  have := h.1
  split <;> omega
theorem drop_gt {ls : List LbT} {nm : List UInt8} {p : Nat} (hs : risN ls) (h : AtN ls nm p) : ∀ x ∈ ls.drop (behindN ls nm p), nm < x.1 := by
  intro x hx
  obtain ⟨j, hj, rfl⟩ := List.getElem_of_mem hx
  rw [List.getElem_drop]
  have hjl : behindN ls nm p + j < ls.length := by simp at hj; omega
  have hge := h.2.2 (behindN ls nm p + j) (by have := (behind_le h).1; omega) hjl
  have e1 : ls.getD (behindN ls nm p + j) ([], []) = ls[behindN ls nm p + j] := by simp [List.getD, hjl]
  rw [e1] at hge
  rcases lt_tri ls[behindN ls nm p + j].1 nm with h1 | h1 | h1
  · exact absurd h1 hge
  · exfalso
    by_cases hth : p < ls.length ∧ (ls.getD p ([], [])).1 = nm
    · have hb : behindN ls nm p = p + 1 := by unfold behindN; rw [if_pos hth]
      have := ris_lt hs (show p < behindN ls nm p + j by omega) hjl
      rw [e1, h1, hth.2] at this
      exact List.lt_irrefl _ this
    · have hb : behindN ls nm p = p := by unfold behindN; rw [if_neg hth]
      by_cases hj0 : j = 0
      · subst hj0
        simp only [hb, Nat.add_zero] at h1 hjl
        refine hth ⟨hjl, ?_⟩
        have e2 : ls.getD p ([], []) = ls[p] := by simp [List.getD, hjl]
        rw [e2]; exact h1
      · have hpl : p < ls.length := by omega
        have h2 := ris_lt hs (show p < behindN ls nm p + j by omega) hjl
        rw [e1, h1] at h2
        exact h.2.2 p (Nat.le_refl _) hpl h2
  · exact h1
theorem take_lt {ls : List LbT} {nm : List UInt8} {p : Nat} (h : AtN ls nm p) : ∀ x ∈ ls.take p, x.1 < nm := by
  intro x hx
  obtain ⟨j, hj, rfl⟩ := List.getElem_of_mem hx
  have hj' : j < p ∧ j < ls.length := by simp at hj; omega
  rw [List.getElem_take]
  have := h.2.1 j hj'.1
  have e1 : ls.getD j ([], []) = ls[j] := by simp [List.getD, hj'.2]
  rwa [e1] at this
theorem pick_all {p : List UInt8 → Bool} {a : List LbT} (h : ∀ x ∈ a, p x.1 = true) : pickL p a = a := List.filter_eq_self.2 h
/-- without a name: what is ahead of its place, and what is behind -/
theorem pick_parts {ls : List LbT} {nm : List UInt8} {p : Nat} (hs : risN ls) (h : AtN ls nm p) : pickL (p_Without [nm]) ls = ls.take p ++ ls.drop (behindN ls nm p) := by
  have ht : pickL (p_Without [nm]) (ls.take p) = ls.take p := pick_all fun x hx => by
    rw [pW_one]
    have := take_lt h x hx
    have hne : x.1 ≠ nm := fun e => by rw [e] at this; exact List.lt_irrefl _ this
    simp [hne]
  have hd : pickL (p_Without [nm]) (ls.drop (behindN ls nm p)) = ls.drop (behindN ls nm p) := pick_all fun x hx => by
    rw [pW_one]
    have := drop_gt hs h x hx
    have hne : x.1 ≠ nm := fun e => by rw [e] at this; exact List.lt_irrefl _ this
    simp [hne]
  have hm : pickL (p_Without [nm]) (ls.drop p) = pickL (p_Without [nm]) (ls.drop (behindN ls nm p)) := by
    by_cases hth : p < ls.length ∧ (ls.getD p ([], [])).1 = nm
    · have hb : behindN ls nm p = p + 1 := by unfold behindN; rw [if_pos hth]
      rw [hb, List.drop_eq_getElem_cons hth.1]
      have e2 : ls.getD p ([], []) = ls[p]'hth.1 := by simp [List.getD, hth.1]
      have hpn : p_Without [nm] (ls[p]'hth.1).1 = false := by rw [pW_one, ← e2, hth.2]; simp
      unfold pickL
      rw [List.filter_cons, hpn]
      rfl
    · have hb : behindN ls nm p = p := by unfold behindN; rw [if_neg hth]
      rw [hb]
  have : pickL (p_Without [nm]) (ls.take p ++ ls.drop p) = pickL (p_Without [nm]) (ls.take p) ++ pickL (p_Without [nm]) (ls.drop p) := List.filter_append ..
  rw [List.take_append_drop] at this
  rw [this, ht, hm, hd]
/-- the set with the label in its place -/
theorem with_eq {ls : List LbT} {nm val : List UInt8} {p : Nat} (hs : risN ls) (h : AtN ls nm p) : ls.take p ++ [(nm, val)] ++ ls.drop (behindN ls nm p) = sortN (pickL (p_Without [nm]) ls ++ [(nm, val)]) := by
  have hr : risN (ls.take p ++ [(nm, val)] ++ ls.drop (behindN ls nm p)) := by
    rw [List.append_assoc]
    refine List.pairwise_append.2 ⟨List.Pairwise.sublist (List.take_sublist _ _) hs, List.pairwise_cons.2 ⟨fun x hx => drop_gt hs h x (by simpa using hx), by simpa using List.Pairwise.sublist (List.drop_sublist _ _) hs⟩, fun x hx y hy => ?_⟩
    have h1 := take_lt h x hx
    rcases List.mem_cons.1 hy with rfl | hy
    · exact h1
    · exact List.lt_trans h1 (drop_gt hs h y (by simpa using hy))
  have hp : (ls.take p ++ [(nm, val)] ++ ls.drop (behindN ls nm p)).Perm (pickL (p_Without [nm]) ls ++ [(nm, val)]) := by
    rw [pick_parts hs h, List.append_assoc, List.append_assoc]
    exact List.Perm.append_left _ List.perm_append_comm
  exact sort_uniq hp (ris_srt hr) ((ndN_perm hp).1 (ris_nd hr))
/-- what With answers -/
def withS (ls : List LbT) (nm val : List UInt8) : List LbT × Int :=
  if (rightS ls).1 ≠ 0 then ([], (rightS ls).1) else if nameB nm = false then ([], 40) else if val = [] then (pickL (p_Without [nm]) ls, 0)
  else if valueE val ≠ 0 then ([], valueE val) else if 16 < (sortN (pickL (p_Without [nm]) ls ++ [(nm, val)])).length then ([], 8) else (sortN (pickL (p_Without [nm]) ls ++ [(nm, val)]), 0)
theorem one_value {nm val : List UInt8} (h1 : nameB nm = true) (h2 : val ≠ []) : oneE nm val = valueE val := by
  unfold oneE valueE
  rw [if_neg (by rw [h1]; simp), if_neg h2]
end Go.Proofs.YtknlnllcpdiglaaDoor
