/-
  What the tokens of a text are known by: places rise, texts stand where they are told, a text that is cut ahead of a token has the tokens ahead of it; nothing of the program is in it.
-/
import Derived.Test.YtifjdfmmafbhkaaGreatDoorLxC
namespace Go.Proofs.YtifjdfmmafbhkaaGreatDoor
open Go.RowKit

theorem cutW_form (l : LxS) (h0 : (cutW l).2.2 ≠ 0) : 1 ≤ (cutW l).1 ∧ (cutW l).1 ≤ 5 ∧ ((cutW l).1 ≠ 4 → (cutW l).2.1 = l.take (cutW l).2.2) := by
  unfold cutW at h0 ⊢
  by_cases c1 : wdB (byN l 0) = true ∧ dgB (byN l 0) = false
  · rw [if_pos c1]
    exact ⟨by show (1 : Int) ≤ 1; decide, by show (1 : Int) ≤ 5; decide, fun _ => rfl⟩
  · rw [if_neg c1] at h0 ⊢
    by_cases c2 : dgB (byN l 0) = true ∨ byN l 0 = 46
    · rw [if_pos c2] at h0 ⊢
      by_cases c3 : nubB l = true
      · rw [if_pos c3] at h0; exact absurd rfl h0
      · rw [if_neg c3]
        have : nukW l = 2 ∨ nukW l = 3 := by unfold nukW; split <;> simp
        refine ⟨?_, ?_, fun _ => rfl⟩
        · show 1 ≤ nukW l; omega
        · show nukW l ≤ 5; omega
    · rw [if_neg c2] at h0 ⊢
      by_cases c3 : byN l 0 = 34 ∨ byN l 0 = 39
      · rw [if_pos c3]
        exact ⟨by show (1 : Int) ≤ 4; decide, by show (4 : Int) ≤ 5; decide, fun h => absurd rfl h⟩
      · rw [if_neg c3]
        exact ⟨by show (1 : Int) ≤ 5; decide, by show (5 : Int) ≤ 5; decide, fun _ => rfl⟩
theorem stpN_pos (l : LxS) (h0 : (cutW l).2.2 ≠ 0) : 0 < stpN l := by unfold stpN; omega
/-- tokens from a place on; none: there is a fault -/
def tokR : Nat → LxS → Nat → Option (List Tok)
  | 0, _, _ => none
  | f + 1, l, at' => if l = [] then some [(0, [], (at' : Int))] else if (cutW l).2.2 = 0 then none else (tokR f (l.drop (stpN l)) (at' + stpN l)).map fun r => ((cutW l).1, (cutW l).2.1, (at' : Int)) :: r
theorem tokG_some (f : Nat) (l : LxS) (at' : Nat) (acc r : List Tok) (h : tokR f l at' = some r) : tokG f l at' acc = (none, acc ++ r) := by
  induction f generalizing l at' acc r with
  | zero => cases h
  | succ f ih =>
    unfold tokR at h
    unfold tokG
    by_cases c : l = []
    · rw [if_pos c] at h ⊢
      obtain rfl := Option.some.inj h
      rfl
    · rw [if_neg c] at h ⊢
      by_cases d : (cutW l).2.2 = 0
      · rw [if_pos d] at h; cases h
      · rw [if_neg d] at h ⊢
        obtain ⟨y, hy, rfl⟩ := Option.map_eq_some_iff.1 h
        rw [ih _ _ _ _ hy, List.append_assoc]
        rfl
theorem tokG_none (f : Nat) (l : LxS) (at' : Nat) (acc : List Tok) (hf : l.length < f) (h : tokR f l at' = none) : ∃ p, tokG f l at' acc = (some p, []) ∧ at' ≤ p ∧ p < at' + l.length := by
  induction f generalizing l at' acc with
  | zero => omega
  | succ f ih =>
    unfold tokR at h
    unfold tokG
    by_cases c : l = []
    · rw [if_pos c] at h; cases h
    · rw [if_neg c] at h ⊢
      have hl : 0 < l.length := List.length_pos_iff.2 c
      by_cases d : (cutW l).2.2 = 0
      · rw [if_pos d]
        exact ⟨at', rfl, Nat.le_refl _, by omega⟩
      · rw [if_neg d] at h ⊢
        have h1 := stpN_pos l d
        have h2 := stpN_le l
        obtain ⟨p, e, h3, h4⟩ := ih (l.drop (stpN l)) (at' + stpN l) (acc ++ [((cutW l).1, (cutW l).2.1, (at' : Int))]) (by rw [List.length_drop]; omega) (Option.map_eq_none_iff.1 h)
        rw [List.length_drop] at h4
        exact ⟨p, e, by omega, by omega⟩
theorem tokR_fuel (f g : Nat) (l : LxS) (at' : Nat) (hf : l.length < f) (hg : l.length < g) : tokR f l at' = tokR g l at' := by
  induction f generalizing l at' g with
  | zero => omega
  | succ f ih =>
    obtain ⟨g, rfl⟩ : ∃ k, g = k + 1 := ⟨g - 1, by omega⟩
    unfold tokR
    by_cases c : l = []
    · rw [if_pos c, if_pos c]
    · rw [if_neg c, if_neg c]
      by_cases d : (cutW l).2.2 = 0
      · rw [if_pos d, if_pos d]
      · have h1 := stpN_pos l d
        have h2 := stpN_le l
        have hl : 0 < l.length := List.length_pos_iff.2 c
        rw [if_neg d, if_neg d, ih g _ _ (by rw [List.length_drop]; omega) (by rw [List.length_drop]; omega)]
def tkD : Tok := (0, [], 0)
/-- how far the token has gone: behind it, or, of a string and of the end, where it begins -/
def tkTo (t : Tok) : Int := if t.1 = 4 ∨ t.1 = 0 then t.2.2 else t.2.2 + t.2.1.length
/-- what is known of one of the tokens of s, with those ahead of it gone as far as a place -/
structure TkF (s : LxS) (n i : Nat) (frm : Int) (t : Tok) : Prop where
  from' : frm ≤ t.2.2
  low : 0 ≤ t.2.2
  high : t.2.2 ≤ s.length
  last : t.1 = 0 ↔ i + 1 = n
  kind : 0 ≤ t.1 ∧ t.1 ≤ 5
  text : t.1 ≠ 4 → t.1 ≠ 0 → t.2.1 ≠ [] ∧ t.2.2 + t.2.1.length ≤ s.length ∧ t.2.1 = (s.drop t.2.2.toNat).take t.2.1.length
theorem tokR_facts (s : LxS) (f p : Nat) (hp : p ≤ s.length) (r : List Tok) (h : tokR f (s.drop p) p = some r) : 0 < r.length ∧ r.getD (r.length - 1) tkD = (0, [], (s.length : Int)) ∧ (r.getD 0 tkD).2.2 = p ∧
    ∀ i, i < r.length → TkF s r.length i (if i = 0 then (p : Int) else tkTo (r.getD (i - 1) tkD)) (r.getD i tkD) := by
  induction f generalizing p r with
  | zero => cases h
  | succ f ih =>
    unfold tokR at h
    have hlen : (s.drop p).length = s.length - p := List.length_drop
    by_cases c : s.drop p = []
    · rw [if_pos c] at h
      obtain rfl := Option.some.inj h
      have : p = s.length := by have := congrArg List.length c; rw [hlen] at this; simp only [List.length_nil] at this; omega
      subst this
      refine ⟨Nat.one_pos, rfl, rfl, fun i hi => ?_⟩
      obtain rfl : i = 0 := by simp only [List.length_cons, List.length_nil] at hi; omega
      exact ⟨Int.le_refl _, Int.natCast_nonneg _, Int.le_refl _, ⟨fun _ => rfl, fun _ => rfl⟩, ⟨by show (0 : Int) ≤ 0; decide, by show (0 : Int) ≤ 5; decide⟩, fun _ h => absurd rfl h⟩
    · rw [if_neg c] at h
      by_cases d : (cutW (s.drop p)).2.2 = 0
      · rw [if_pos d] at h; cases h
      · rw [if_neg d] at h
        obtain ⟨y, hy, rfl⟩ := Option.map_eq_some_iff.1 h
        have h1 := stpN_pos _ d
        have h2 := stpN_le (s.drop p)
        have h2' := cutW_le (s.drop p)
        obtain ⟨k1, k2, k3⟩ := cutW_form _ d
        rw [hlen] at h2 h2'
        have h3 : (cutW (s.drop p)).2.2 ≤ stpN (s.drop p) := Nat.le_add_right _ _
        rw [List.drop_drop] at hy
        obtain ⟨g1, g2, g3, g4⟩ := ih (p + stpN (s.drop p)) (by omega) y hy
        have htx : (cutW (s.drop p)).1 ≠ 4 → (cutW (s.drop p)).2.1.length = (cutW (s.drop p)).2.2 := fun e => by rw [k3 e, List.length_take, hlen]; omega
        refine ⟨by simp, ?_, rfl, fun i hi => ?_⟩
        · have : ((((cutW (s.drop p)).1, (cutW (s.drop p)).2.1, (p : Int)) : Tok) :: y).length - 1 = (y.length - 1) + 1 := by simp only [List.length_cons]; omega
          rw [this]
          exact g2
        · cases i with
          | zero =>
            refine ⟨Int.le_refl _, Int.natCast_nonneg _, by show (p : Int) ≤ s.length; omega, ⟨fun e => ?_, fun e => ?_⟩, ⟨by show 0 ≤ (cutW (s.drop p)).1; omega, k2⟩, fun e4 e0 => ?_⟩
            · have e : (cutW (s.drop p)).1 = 0 := e
              omega
            · simp only [List.length_cons] at e
              omega
            · have e4 : (cutW (s.drop p)).1 ≠ 4 := e4
              have ht := htx e4
              refine ⟨fun e => ?_, ?_, ?_⟩
              · have e : (cutW (s.drop p)).2.1 = [] := e
                rw [e] at ht
                exact d ht.symm
              · show (p : Int) + ((cutW (s.drop p)).2.1.length : Int) ≤ s.length
                rw [ht]
                omega
              · show (cutW (s.drop p)).2.1 = (s.drop (Int.toNat (p : Int))).take (cutW (s.drop p)).2.1.length
                rw [ht, Int.toNat_natCast]
                exact k3 e4
          | succ i =>
            have g := g4 i (by simpa using hi)
            have e : (((cutW (s.drop p)).1, (cutW (s.drop p)).2.1, (p : Int)) :: y).getD (i + 1) tkD = y.getD i tkD := rfl
            rw [e]
            refine ⟨?_, g.low, g.high, g.last.trans ⟨fun e => by simp only [List.length_cons]; omega, fun e => by simp only [List.length_cons] at e; omega⟩, g.kind, g.text⟩
            rw [if_neg (by omega)]
            cases i with
            | zero =>
              show tkTo ((cutW (s.drop p)).1, (cutW (s.drop p)).2.1, (p : Int)) ≤ _
              rw [show y.getD 0 tkD = y.getD 0 tkD from rfl]
              have g' := g.from'
              rw [if_pos rfl] at g'
              refine Int.le_trans ?_ g'
              unfold tkTo
              split
              · show (p : Int) ≤ _; omega
              · rename_i e4
                have e4 : ¬ ((cutW (s.drop p)).1 = 4 ∨ (cutW (s.drop p)).1 = 0) := e4
                show (p : Int) + ((cutW (s.drop p)).2.1.length : Int) ≤ _
                rw [htx (fun e => e4 (Or.inl e))]
                omega
            | succ i =>
              have g' := g.from'
              rw [if_neg (by omega)] at g'
              exact g'
theorem tokR_cut (s : LxS) (f p : Nat) (hp : p ≤ s.length) (r : List Tok) (h : tokR f (s.drop p) p = some r) (i : Nat) (hi : i < r.length) (q : Nat) (hq : ((r.getD i tkD).2.2) = (q : Int)) : p ≤ q ∧ q ≤ s.length ∧ tokR f ((s.take q).drop p) p = some (r.take i ++ [(0, [], (q : Int))]) := by
  induction f generalizing p r i with
  | zero => cases h
  | succ f ih =>
    have h' := h
    unfold tokR at h
    have hlen : (s.drop p).length = s.length - p := List.length_drop
    have hF := tokR_facts s (f + 1) p hp r h'
    cases i with
    | zero =>
      have : q = p := by rw [hF.2.2.1] at hq; omega
      subst this
      refine ⟨Nat.le_refl _, hp, ?_⟩
      unfold tokR
      rw [take_drop, Nat.sub_self, List.take_zero, if_pos rfl]
      rfl
    | succ i =>
      by_cases c : s.drop p = []
      · rw [if_pos c] at h
        obtain rfl := Option.some.inj h
        simp at hi
      · rw [if_neg c] at h
        by_cases d : (cutW (s.drop p)).2.2 = 0
        · rw [if_pos d] at h; cases h
        · rw [if_neg d] at h
          obtain ⟨y, hy, rfl⟩ := Option.map_eq_some_iff.1 h
          have h1 := stpN_pos _ d
          have h2 := stpN_le (s.drop p)
          rw [hlen] at h2
          have h3 : stpN (s.drop p) = (cutW (s.drop p)).2.2 + blN false ((s.drop p).drop (cutW (s.drop p)).2.2) := rfl
          rw [List.drop_drop] at hy
          obtain ⟨a1, a2, a3⟩ := ih (p + stpN (s.drop p)) (by omega) y hy i (by simpa using hi) hq
          refine ⟨by omega, a2, ?_⟩
          have hcut : cutW ((s.take q).drop p) = cutW (s.drop p) := by
            rw [take_drop]
            exact cutW_take _ _ (by omega) d
          have hstp : stpN ((s.take q).drop p) = stpN (s.drop p) := by
            unfold stpN
            rw [hcut, take_drop, take_drop, blN_take _ _ _ (by omega)]
          unfold tokR
          rw [hcut, hstp, if_neg, if_neg d, List.drop_drop, a3]
          · rfl
          · intro e
            have := congrArg List.length e
            rw [List.length_drop, List.length_take] at this
            simp only [List.length_nil] at this
            omega
/-- a text's tokens, where there is no fault -/
theorem tokW_ok (s : LxS) (r : List Tok) (h : tokW s = (r, 0, 0)) : s.length ≤ 65536 ∧ r.length ≤ 4096 ∧ tokR (s.length + 1) (s.drop (blN false s)) (blN false s) = some r := by
  unfold tokW at h
  by_cases c : 65536 < s.length
  · rw [if_pos c] at h
    have := congrArg (fun x => x.2.1) h
    cases this
  · rw [if_neg c] at h
    cases hr : tokR (s.length + 1) (s.drop (blN false s)) (blN false s) with
    | none =>
      obtain ⟨p, e, _⟩ := tokG_none _ _ _ [] (by rw [List.length_drop]; omega) hr
      rw [e] at h
      have := congrArg (fun x => x.2.1) h
      cases this
    | some y =>
      rw [tokG_some _ _ _ [] _ hr] at h
      dsimp only at h
      split at h
      · have := congrArg (fun x => x.2.1) h
        cases this
      · have := congrArg (fun x => x.1) h
        have this : [] ++ y = r := this
        rw [List.nil_append] at this
        subst this
        rename_i e
        rw [List.nil_append] at e
        exact ⟨by omega, by omega, rfl⟩
theorem tokW_of (s : LxS) (r : List Tok) (h1 : s.length ≤ 65536) (h2 : r.length ≤ 4096) (h3 : tokR (s.length + 1) (s.drop (blN false s)) (blN false s) = some r) : tokW s = (r, 0, 0) := by
  unfold tokW
  rw [if_neg (by omega), tokG_some _ _ _ [] _ h3]
  dsimp only
  rw [List.nil_append, if_neg (by omega)]
theorem tokW_cases (s : LxS) : (tokW s).2 = (0, 0) ∨ ((tokW s).1 = [] ∧ ((tokW s).2.1 = 4 ∨ (tokW s).2.1 = 7 ∨ (tokW s).2.1 = 130) ∧ 0 ≤ (tokW s).2.2 ∧ (tokW s).2.2 ≤ s.length) := by
  unfold tokW
  by_cases c : 65536 < s.length
  · rw [if_pos c]
    exact Or.inr ⟨rfl, Or.inl rfl, Int.le_refl _, Int.natCast_nonneg _⟩
  · rw [if_neg c]
    cases hr : tokR (s.length + 1) (s.drop (blN false s)) (blN false s) with
    | none =>
      obtain ⟨p, e, h1, h2⟩ := tokG_none _ _ _ [] (by rw [List.length_drop]; omega) hr
      have hb := blN_le false s
      rw [List.length_drop] at h2
      rw [e]
      exact Or.inr ⟨rfl, Or.inr (Or.inr rfl), Int.natCast_nonneg _, by show (p : Int) ≤ _; omega⟩
    | some y =>
      rw [tokG_some _ _ _ [] _ hr]
      dsimp only
      split
      · exact Or.inr ⟨rfl, Or.inr (Or.inl rfl), Int.le_refl _, Int.natCast_nonneg _⟩
      · exact Or.inl rfl
/-- a text that is cut ahead of a token -/
theorem tokW_cut (s : LxS) (r : List Tok) (h : tokW s = (r, 0, 0)) (i : Nat) (hi : i < r.length) (q : Nat) (hq : (r.getD i tkD).2.2 = (q : Int)) : q ≤ s.length ∧ tokW (s.take q) = (r.take i ++ [(0, [], (q : Int))], 0, 0) := by
  obtain ⟨h1, h2, h3⟩ := tokW_ok s r h
  have hb := blN_le false s
  obtain ⟨a1, a2, a3⟩ := tokR_cut s _ _ hb r h3 i hi q hq
  refine ⟨a2, tokW_of _ _ (by rw [List.length_take]; omega) ?_ ?_⟩
  · rw [List.length_append, List.length_take]
    simp only [List.length_cons, List.length_nil]
    omega
  · rw [blN_take _ _ _ a1, ← a3]
    exact tokR_fuel _ _ _ _ (by rw [List.length_drop]; omega) (by rw [List.length_drop, List.length_take]; omega)
theorem tokW_facts (s : LxS) (r : List Tok) (h : tokW s = (r, 0, 0)) : 0 < r.length ∧ r.length ≤ 4096 ∧ r.getD (r.length - 1) tkD = (0, [], (s.length : Int)) ∧ ∀ i, i < r.length → TkF s r.length i (if i = 0 then 0 else tkTo (r.getD (i - 1) tkD)) (r.getD i tkD) := by
  obtain ⟨h1, h2, h3⟩ := tokW_ok s r h
  obtain ⟨a1, a2, a3, a4⟩ := tokR_facts s _ _ (blN_le false s) r h3
  refine ⟨a1, h2, a2, fun i hi => ?_⟩
  have g := a4 i hi
  cases i with
  | zero => exact ⟨g.low, g.low, g.high, g.last, g.kind, g.text⟩
  | succ i =>
    rw [if_neg (by omega)]
    have g' := g.from'
    rw [if_neg (by omega)] at g'
    exact ⟨g', g.low, g.high, g.last, g.kind, g.text⟩
end Go.Proofs.YtifjdfmmafbhkaaGreatDoor
