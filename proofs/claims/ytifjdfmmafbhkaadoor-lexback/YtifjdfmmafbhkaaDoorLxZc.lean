/-
  A text of tokens joined, and with more blanks put in: words alone.
-/
import Derived.Test.YtifjdfmmafbhkaaDoorLxZb
namespace Go.Proofs.YtifjdfmmafbhkaaDoor
open Go.RowKit

theorem Blank.nil : Blank [] := fun rest => by simp
theorem Blank.app {a b : LxS} (h : Blank a) (k : Blank b) : Blank (a ++ b) := fun rest => by
  rw [List.append_assoc, h, k, List.length_append]
  omega
theorem blank32 : Blank [32] := fun rest => by
  simp [blN]
/-- one blank between two -/
def spc : List LxS → List (LxS × LxS)
  | [] => []
  | [w] => [(w, [])]
  | w :: v :: ws => (w, [32]) :: spc (v :: ws)
theorem spc_len (ws : List LxS) : (spc ws).length = ws.length := by
  induction ws with
  | nil => rfl
  | cons w ws ih =>
    cases ws with
    | nil => rfl
    | cons v ws => show (spc (v :: ws)).length + 1 = (v :: ws).length + 1; rw [ih]
theorem spc_join (ws : List LxS) : Lib.join ws [32] = gapT (spc ws) := by
  induction ws with
  | nil => rfl
  | cons w ws ih =>
    cases ws with
    | nil => rw [Lib.join_one]; show w = w ++ [] ++ []; simp
    | cons v ws =>
      show _ = gapT ((w, [32]) :: spc (v :: ws))
      rw [gapT_cons, ← ih, Lib.join_cons, Lib.join_cons]
      simp [Lib.joinTail]
theorem spc_ok (ws : List LxS) (h : ∀ w ∈ ws, Good w) : GapOk (spc ws) := by
  induction ws with
  | nil => exact trivial
  | cons w ws ih =>
    cases ws with
    | nil => exact ⟨h w (by simp), Blank.nil, Or.inl ⟨rfl, rfl⟩, trivial⟩
    | cons v ws => exact ⟨h w (by simp), blank32, Or.inr ⟨[], rfl⟩, ih (fun x hx => h x (by simp [hx]))⟩
/-- more blanks behind each token -/
def addG (e : Nat → LxS) : Nat → List (LxS × LxS) → List (LxS × LxS)
  | _, [] => []
  | i, x :: P => (x.1, x.2 ++ e i) :: addG e (i + 1) P
theorem addG_len (e : Nat → LxS) (P : List (LxS × LxS)) : ∀ i, (addG e i P).length = P.length := by
  induction P with
  | nil => intro i; rfl
  | cons x P ih => intro i; show (addG e (i + 1) P).length + 1 = _; rw [ih, List.length_cons]
theorem addG_app (e : Nat → LxS) (P Q : List (LxS × LxS)) : ∀ i, addG e i (P ++ Q) = addG e i P ++ addG e (i + P.length) Q := by
  induction P with
  | nil => intro i; rfl
  | cons x P ih =>
    intro i
    show _ :: addG e (i + 1) (P ++ Q) = _ :: (addG e (i + 1) P ++ _)
    rw [ih, List.length_cons, Nat.add_right_comm, Nat.add_assoc i]
theorem addG_ok (e : Nat → LxS) (he : ∀ i, Blank (e i) ∧ ∃ g, e i = 32 :: g) (P : List (LxS × LxS)) : ∀ i, GapOk P → GapOk (addG e i P) := by
  induction P with
  | nil => intro i _; exact trivial
  | cons x P ih =>
    intro i h
    obtain ⟨h1, h2, h3, h4⟩ := h
    obtain ⟨g, hg⟩ := (he i).2
    refine ⟨h1, h2.app (he i).1, Or.inr ?_, ih (i + 1) h4⟩
    rcases h3 with ⟨-, e2⟩ | ⟨g', e2⟩
    · exact ⟨g, by dsimp only; rw [e2, List.nil_append, hg]⟩
    · exact ⟨g' ++ e i, by dsimp only; rw [e2, List.cons_append]⟩
theorem addG_same (e : Nat → LxS) (P : List (LxS × LxS)) : ∀ i p q, sameB (gapK p (addG e i P)) (gapK q P) = true := by
  induction P with
  | nil => intro i p q; rfl
  | cons x P ih =>
    intro i p q
    show (tkEq _ _ && sameB (gapK _ (addG e (i + 1) P)) (gapK _ P)) = true
    rw [ih]
    simp [tkEq]
theorem gapT_step (P : List (LxS × LxS)) (i : Nat) (h : i < P.length) : gapT (P.take (i + 1)) = gapT (P.take i) ++ ((P.getD i ([], [])).1 ++ (P.getD i ([], [])).2) := by
  rw [List.take_succ_eq_append_getElem h, gapT_app, gapT_cons]
  simp [gapT, List.getD, List.getElem?_eq_getElem h]
theorem addG_step (e : Nat → LxS) (P : List (LxS × LxS)) (i : Nat) (h : i < P.length) : gapT (addG e 0 (P.take (i + 1))) = gapT (addG e 0 (P.take i)) ++ ((P.getD i ([], [])).1 ++ (P.getD i ([], [])).2) ++ e i := by
  rw [List.take_succ_eq_append_getElem h, addG_app, gapT_app]
  have hl : (P.take i).length = i := by rw [List.length_take]; omega
  rw [hl]
  show _ ++ gapT [(P[i].1, P[i].2 ++ e (0 + i))] = _
  rw [gapT_cons]
  simp [gapT, List.getD, List.getElem?_eq_getElem h]
/-- where a token stands -/
theorem gapK_at (P : List (LxS × LxS)) : ∀ (i p : Nat), i ≤ P.length → ((gapK p P).getD i tkD).2.2 = ((p + (gapT (P.take i)).length : Nat) : Int) := by
  induction P with
  | nil =>
    intro i p h
    obtain rfl : i = 0 := by simpa using h
    rfl
  | cons x P ih =>
    intro i p h
    cases i with
    | zero => rfl
    | succ i =>
      show ((gapK (p + (x.1.length + x.2.length)) P).getD i tkD).2.2 = _
      rw [ih i _ (by simpa using h), List.take_succ_cons, gapT_cons, List.length_append, List.length_append]
      congr 1
      omega
theorem gapT_sub (P : List (LxS × LxS)) (i : Nat) (h : i < P.length) : (gapT P).extract (gapT (P.take i)).length (gapT (P.take (i + 1))).length = (P.getD i ([], [])).1 ++ (P.getD i ([], [])).2 := by
  have e : gapT P = gapT (P.take (i + 1)) ++ gapT (P.drop (i + 1)) := by rw [← gapT_app, List.take_append_drop]
  rw [List.extract_eq_take_drop]
  conv => lhs; rw [e, gapT_step P i h, List.append_assoc, List.drop_left]
  rw [List.length_append, Nat.add_sub_cancel_left]
  exact List.take_left
theorem gapT_mono (P : List (LxS × LxS)) (i : Nat) : (gapT (P.take i)).length ≤ (gapT P).length := by
  have e : gapT P = gapT (P.take i) ++ gapT (P.drop i) := by rw [← gapT_app, List.take_append_drop]
  rw [e, List.length_append]
  omega
/-- what Join's text is -/
theorem join_ok (l : List Tok) (t : LxS) (h : joinW l = (t, 0)) : ∃ P, t = gapT P ∧ GapOk P ∧ (gapT P).length ≤ 65536 ∧ P.length + 1 ≤ 4096 ∧ P = spc (wrtL (dropE l)) ∧ wrtAll (dropE l) = true := by
  unfold joinW joinD at h
  by_cases c1 : wrtAll (dropE l) = true
  · rw [if_pos c1] at h
    by_cases c2 : 65536 < (Lib.join (wrtL (dropE l)) [32]).length
    · rw [if_pos c2] at h; cases h
    · rw [if_neg c2] at h
      by_cases c3 : 4096 < (dropE l).length + 1
      · rw [if_pos c3] at h; cases h
      · rw [if_neg c3] at h
        obtain rfl := (Prod.mk.inj h).1
        refine ⟨spc (wrtL (dropE l)), spc_join _, spc_ok _ ?_, by rw [← spc_join]; omega, ?_, rfl, c1⟩
        · intro w hw
          obtain ⟨t, ht, rfl⟩ := List.mem_map.1 hw
          exact (wrt_good t (List.all_eq_true.1 c1 t ht)).1
        · rw [spc_len]
          unfold wrtL
          rw [List.length_map]
          omega
  · rw [if_neg c1] at h; cases h
/-- the law's blanks -/
def morL (g : Nat) : LxS := if g = 0 then [32] else if g = 1 then [10] else if g = 2 then [9, 13, 32] else if g = 3 then [32, 35, 32, 105, 116, 39, 115, 10] else [35, 10]
theorem morL_blank (g : Nat) : Blank (32 :: morL g) := by
  have h : Blank (morL g) := by
    unfold morL
    (repeat' split)
    · exact blank32
    · intro rest; simp [blN]
    · intro rest; simp [blN]; omega
    · intro rest; simp [blN]; omega
    · intro rest; simp [blN]; omega
  exact blank32.app h
/-- which of them stands behind the i-th token -/
def gapN (gs : List Int) (i : Nat) : Nat := if i < gs.length then ((gs.getD i 0).tmod 5).natAbs else 0
theorem gapN_lt (gs : List Int) (i : Nat) : gapN gs i < 5 := by
  unfold gapN
  split
  · rw [Int.natAbs_tmod]
    exact Nat.mod_lt _ (by decide)
  · omega
end Go.Proofs.YtifjdfmmafbhkaaDoor
