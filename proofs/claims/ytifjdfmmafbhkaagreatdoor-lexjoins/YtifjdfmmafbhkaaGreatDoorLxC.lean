/-
  Tokens, by bytes: signs, the longest token, all tokens; that a token does not look behind what it takes; nothing of the program is in it.
-/
import Derived.Test.YtifjdfmmafbhkaaGreatDoorLxB
namespace Go.Proofs.YtifjdfmmafbhkaaGreatDoor
open Go.RowKit

theorem decN_take (n m b0 b1 b2 b3 : Nat) (hm : 0 < m) (h1 : (Lib.decodeN n b0 b1 b2 b3).2 ≤ m) (h2 : ¬ ((Lib.decodeN n b0 b1 b2 b3).1 = 65533 ∧ (Lib.decodeN n b0 b1 b2 b3).2 < 3)) :
    Lib.decodeN (min n m) b0 (if 1 < m then b1 else 0) (if 2 < m then b2 else 0) (if 3 < m then b3 else 0) = Lib.decodeN n b0 b1 b2 b3 := by
  by_cases a : b0 < 128
  · rw [Lib.decodeN_ascii _ _ _ _ _ a, Lib.decodeN_ascii _ _ _ _ _ a]
  · unfold Lib.decodeN at h1 h2 ⊢
    rw [if_neg a] at h1 h2
    rw [if_neg a, if_neg a]
    by_cases b : b0 / 32 = 6 ∧ (1 < n ∧ b1 / 64 = 2)
    · rw [if_pos b] at h1 h2
      by_cases c : b0 % 32 * 64 + b1 % 64 ≥ 128
      · rw [if_pos c] at h1 h2
        have h1 : 2 ≤ m := h1
        rw [if_pos (show 1 < m by omega), if_pos (show b0 / 32 = 6 ∧ (1 < min n m ∧ b1 / 64 = 2) from ⟨b.1, by omega, b.2.2⟩), if_pos b]
      · rw [if_neg c] at h2
        exact absurd ⟨rfl, (by decide : 1 < 3)⟩ h2
    · rw [if_neg b] at h1 h2
      have b' : ¬ (b0 / 32 = 6 ∧ (1 < min n m ∧ (if 1 < m then b1 else 0) / 64 = 2)) := by
        rintro ⟨x, y, z⟩
        rw [if_pos (show 1 < m by omega)] at z
        exact b ⟨x, by omega, z⟩
      rw [if_neg b', if_neg b]
      by_cases c : b0 / 16 = 14 ∧ (1 < n ∧ b1 / 64 = 2) ∧ (2 < n ∧ b2 / 64 = 2)
      · rw [if_pos c] at h1 h2
        split at h1
        · rename_i d
          have h1 : 3 ≤ m := h1
          rw [if_pos (show 1 < m by omega), if_pos (show 2 < m by omega), if_pos (show b0 / 16 = 14 ∧ (1 < min n m ∧ b1 / 64 = 2) ∧ (2 < min n m ∧ b2 / 64 = 2) from ⟨c.1, ⟨by omega, c.2.1.2⟩, by omega, c.2.2.2⟩), if_pos c]
        · rename_i d
          rw [if_neg d] at h2
          exact absurd ⟨rfl, (by decide : 1 < 3)⟩ h2
      · rw [if_neg c] at h1 h2
        have c' : ¬ (b0 / 16 = 14 ∧ (1 < min n m ∧ (if 1 < m then b1 else 0) / 64 = 2) ∧ (2 < min n m ∧ (if 2 < m then b2 else 0) / 64 = 2)) := by
          rintro ⟨x, ⟨y, z⟩, y2, z2⟩
          rw [if_pos (show 1 < m by omega)] at z
          rw [if_pos (show 2 < m by omega)] at z2
          exact c ⟨x, ⟨by omega, z⟩, by omega, z2⟩
        rw [if_neg c', if_neg c]
        by_cases d : b0 / 8 = 30 ∧ (1 < n ∧ b1 / 64 = 2) ∧ (2 < n ∧ b2 / 64 = 2) ∧ (3 < n ∧ b3 / 64 = 2)
        · rw [if_pos d] at h1 h2
          split at h1
          · have h1 : 4 ≤ m := h1
            rw [if_pos (show 1 < m by omega), if_pos (show 2 < m by omega), if_pos (show 3 < m by omega), if_pos (show b0 / 8 = 30 ∧ (1 < min n m ∧ b1 / 64 = 2) ∧ (2 < min n m ∧ b2 / 64 = 2) ∧ (3 < min n m ∧ b3 / 64 = 2) from ⟨d.1, ⟨by omega, d.2.1.2⟩, ⟨by omega, d.2.2.1.2⟩, by omega, d.2.2.2.2⟩), if_pos d]
          · rename_i e
            rw [if_neg e] at h2
            exact absurd ⟨rfl, (by decide : 1 < 3)⟩ h2
        · rw [if_neg d] at h2
          exact absurd ⟨rfl, (by decide : 1 < 3)⟩ h2
theorem dcG_N (l : LxS) (h : l ≠ []) : dcG l = Lib.decodeN l.length (byN l 0) (byN l 1) (byN l 2) (byN l 3) := by
  unfold dcG
  rw [if_neg h, Lib.decodeL_N]
  rfl
theorem dcG_take (l : LxS) (m : Nat) (hl : l ≠ []) (h1 : (dcG l).2 ≤ m) (h2 : ¬ ((dcG l).1 = 65533 ∧ (dcG l).2 < 3)) : dcG (l.take m) = dcG l := by
  have hm : 0 < m := by have := dcG_bounds l hl; omega
  have hl' : l.take m ≠ [] := by
    intro e
    have := congrArg List.length e
    rw [List.length_take] at this
    have h3 : 0 < l.length := List.length_pos_iff.2 hl
    simp only [List.length_nil] at this
    omega
  rw [dcG_N l hl] at h1 h2 ⊢
  rw [dcG_N _ hl', List.length_take, byN_take, byN_take, byN_take, byN_take, if_pos hm, Nat.min_comm]
  exact decN_take _ _ _ _ _ _ hm h1 h2
theorem strG_nil (q f : Nat) (hq : q < 65533) : strG q f [] = none := by
  cases f with
  | zero => rfl
  | succ f =>
    unfold strG
    have h : dcG [] = (65533, 0) := rfl
    rw [h, if_neg (by show ¬ (65533 = q); omega), if_pos (Or.inr ⟨rfl, by decide⟩)]
theorem strG_le (q f : Nat) (l : LxS) (hq : q < 65533) (x : LxS × Nat) (h : strG q f l = some x) : x.2 ≤ l.length ∧ 1 ≤ x.2 := by
  induction f generalizing l x with
  | zero => cases h
  | succ f ih =>
    by_cases hl : l = []
    · subst hl
      rw [strG_nil q _ hq] at h
      cases h
    have hb := dcG_bounds l hl
    unfold strG at h
    split at h
    · obtain rfl := Option.some.inj h
      exact ⟨hb.2.1, hb.1⟩
    · split at h
      · cases h
      · split at h
        · split at h
          · cases h
          · have he := escW_le (l.drop (dcG l).2)
            rw [List.length_drop] at he
            obtain ⟨y, hy, rfl⟩ := Option.map_eq_some_iff.1 h
            have := ih _ y hy
            rw [List.length_drop] at this
            show _ + _ + y.2 ≤ _ ∧ 1 ≤ _ + _ + y.2
            omega
        · obtain ⟨y, hy, rfl⟩ := Option.map_eq_some_iff.1 h
          have := ih _ y hy
          rw [List.length_drop] at this
          show _ + y.2 ≤ _ ∧ 1 ≤ _ + y.2
          omega
theorem strG_take (q f : Nat) (l : LxS) (m : Nat) (hq : q < 65533) (x : LxS × Nat) (h : strG q f l = some x) (hm : x.2 ≤ m) : strG q f (l.take m) = some x := by
  induction f generalizing l x m with
  | zero => cases h
  | succ f ih =>
    by_cases hl : l = []
    · subst hl
      rw [strG_nil q _ hq] at h
      cases h
    have hb := dcG_bounds l hl
    by_cases c1 : (dcG l).1 = q
    · unfold strG at h ⊢
      rw [if_pos c1] at h
      obtain rfl := Option.some.inj h
      have e := dcG_take l m hl hm (fun e => by omega)
      rw [e, if_pos c1]
    · by_cases c2 : (dcG l).1 = 10 ∨ ((dcG l).1 = 65533 ∧ (dcG l).2 < 3)
      · unfold strG at h
        rw [if_neg c1, if_pos c2] at h
        cases h
      · have c3 : ¬ ((dcG l).1 = 65533 ∧ (dcG l).2 < 3) := fun e => c2 (Or.inr e)
        by_cases c4 : (dcG l).1 = 92
        · unfold strG at h
          rw [if_neg c1, if_neg c2, if_pos c4] at h
          by_cases c5 : (escW (l.drop (dcG l).2)).2 = 0
          · rw [if_pos c5] at h; cases h
          · rw [if_neg c5] at h
            obtain ⟨y, hy, rfl⟩ := Option.map_eq_some_iff.1 h
            have hm : (dcG l).2 + (escW (l.drop (dcG l).2)).2 + y.2 ≤ m := hm
            have e := dcG_take l m hl (by omega) c3
            have e2 := escW_take (l.drop (dcG l).2) (m - (dcG l).2) (by omega) c5
            unfold strG
            rw [e, if_neg c1, if_neg c2, if_pos c4, take_drop, e2, if_neg c5, take_drop, ih _ _ y hy (by omega)]
            rfl
        · unfold strG at h
          rw [if_neg c1, if_neg c2, if_neg c4] at h
          obtain ⟨y, hy, rfl⟩ := Option.map_eq_some_iff.1 h
          have hm : (dcG l).2 + y.2 ≤ m := hm
          have e := dcG_take l m hl (by omega) c3
          unfold strG
          rw [e, if_neg c1, if_neg c2, if_neg c4, take_drop, ih _ _ y hy (by omega), List.take_take, Nat.min_eq_left (by omega)]
          rfl
/-- how deep it is asked is of no matter -/
theorem strG_fuel (q f g : Nat) (l : LxS) (hq : q < 65533) (hf : l.length < f) (hg : l.length < g) : strG q f l = strG q g l := by
  induction f generalizing l g with
  | zero => omega
  | succ f ih =>
    obtain ⟨g, rfl⟩ : ∃ k, g = k + 1 := ⟨g - 1, by omega⟩
    by_cases hl : l = []
    · subst hl
      rw [strG_nil _ _ hq, strG_nil _ _ hq]
    have hb := dcG_bounds l hl
    unfold strG
    have h1 := ih g (l.drop ((dcG l).2 + (escW (l.drop (dcG l).2)).2)) (by rw [List.length_drop]; omega) (by rw [List.length_drop]; omega)
    have h2 := ih g (l.drop (dcG l).2) (by rw [List.length_drop]; omega) (by rw [List.length_drop]; omega)
    rw [h1, h2]
theorem strW_le (l : LxS) (hq : byN l 0 < 65533) (x : LxS × Nat) (h : strW l = some x) : x.2 ≤ l.length ∧ 2 ≤ x.2 := by
  unfold strW at h
  obtain ⟨y, hy, rfl⟩ := Option.map_eq_some_iff.1 h
  have := strG_le _ _ _ hq y hy
  rw [List.length_drop] at this
  show 1 + y.2 ≤ _ ∧ 2 ≤ 1 + y.2
  omega
theorem strW_take (l : LxS) (m : Nat) (x : LxS × Nat) (h : strW l = some x) (hm : x.2 ≤ m) : strW (l.take m) = some x := by
  have hq : byN l 0 < 65533 := by have := byN_lt l 0; omega
  have hx := strW_le l hq x h
  unfold strW at h ⊢
  obtain ⟨y, hy, rfl⟩ := Option.map_eq_some_iff.1 h
  have hx : 1 + y.2 ≤ l.length ∧ 2 ≤ 1 + y.2 := hx
  have hm : 1 + y.2 ≤ m := hm
  rw [byN_take, if_pos (by omega), take_drop, strG_fuel _ _ (l.length + 1) _ hq (by rw [List.length_take, List.length_take, List.length_drop]; omega) (by rw [List.length_take, List.length_drop]; omega), strG_take _ _ _ _ hq y hy (by omega)]
  rfl

/-! signs, tokens -/
def sgB (c : Nat) : Bool := decide (c ∈ [40, 41, 123, 125, 91, 93, 44, 61, 43, 45, 42, 47, 37, 94, 62, 60])
def sg2 (a b : Nat) : Bool := (a == 61 && (b == 61 || b == 126)) || (a == 33 && (b == 61 || b == 126)) || (a == 62 && b == 61) || (a == 60 && b == 61)
def sgnW (l : LxS) : Nat := if sg2 (byN l 0) (byN l 1) = true then 2 else if sgB (byN l 0) = true then 1 else 0
theorem sgnW_le (l : LxS) : sgnW l ≤ l.length := by
  have h0 : l.length ≤ 0 → byN l 0 = 0 := byN_out l 0
  have h1 : l.length ≤ 1 → byN l 1 = 0 := byN_out l 1
  unfold sgnW
  split
  · rename_i h
    refine Nat.le_of_not_lt fun e => ?_
    rw [h1 (by omega)] at h
    have : sg2 (byN l 0) 0 = false := by unfold sg2; simp
    rw [this] at h
    cases h
  · split
    · rename_i h
      refine Nat.le_of_not_lt fun e => ?_
      rw [h0 (by omega)] at h
      exact absurd h (by decide)
    · exact Nat.zero_le _
theorem sgnW_take (l : LxS) (m : Nat) (h : sgnW l ≤ m) (h0 : sgnW l ≠ 0) : sgnW (l.take m) = sgnW l := by
  have hm : 0 < m := by omega
  unfold sgnW at h h0 ⊢
  rw [byN_take, byN_take, if_pos hm]
  by_cases c : sg2 (byN l 0) (byN l 1) = true
  · rw [if_pos c] at h ⊢
    rw [if_pos (show 1 < m by omega), if_pos c]
  · rw [if_neg c] at h h0 ⊢
    rw [if_neg]
    split
    · exact c
    · have : sg2 (byN l 0) 0 = false := by unfold sg2; simp
      rw [this]
      exact fun e => by cases e
abbrev Tok := Int × LxS × Int
/-- the longest token with which l begins: its kind, what it says, its bytes; none: no bytes -/
def cutW (l : LxS) : Int × LxS × Nat :=
  if wdB (byN l 0) = true ∧ dgB (byN l 0) = false then (1, l.take (tkN wdB l), tkN wdB l)
  else if dgB (byN l 0) = true ∨ byN l 0 = 46 then (if nubB l = true then (0, [], 0) else (nukW l, l.take (nucW l), nucW l))
  else if byN l 0 = 34 ∨ byN l 0 = 39 then (4, ((strW l).map (·.1)).getD [], ((strW l).map (·.2)).getD 0)
  else (5, l.take (sgnW l), sgnW l)
theorem hexW_le (l : LxS) : hexW l ≤ l.length := by
  have h := tkN_le hxB (l.drop 2)
  rw [List.length_drop] at h
  unfold hexW
  (repeat' split) <;> omega
theorem expW_le (l : LxS) : expW l ≤ l.length := by
  have h := tkN_le dgB (l.drop 2)
  rw [List.length_drop] at h
  have h' := tkN_le dgB (l.drop 1)
  rw [List.length_drop] at h'
  unfold expW
  (repeat' split) <;> omega
theorem decW_le (l : LxS) : decW l ≤ l.length := by
  have h := tkN_le dgB l
  have h' := tkN_le dgB (l.drop (tkN dgB l + 1))
  rw [List.length_drop] at h'
  have h0 : l.length ≤ tkN dgB l → byN l (tkN dgB l) = 0 := byN_out l _
  unfold decW
  (repeat' split) <;> omega
theorem numW_le (l : LxS) : numW l ≤ l.length := by
  have h1 := hexW_le l
  have h2 := decW_le l
  have h3 := expW_le (l.drop (decW l))
  rw [List.length_drop] at h3
  unfold numW
  (repeat' split) <;> omega
theorem nucW_le (l : LxS) : nucW l ≤ l.length := by
  have h1 := numW_le l
  have h2 := spW_le l
  unfold nucW
  split <;> omega
theorem cutW_le (l : LxS) : (cutW l).2.2 ≤ l.length := by
  unfold cutW
  split
  · exact tkN_le _ _
  · split
    · split
      · exact Nat.zero_le _
      · exact nucW_le l
    · split
      · cases h : strW l with
        | none => exact Nat.zero_le _
        | some x => exact (strW_le l (by have := byN_lt l 0; omega) x h).1
      · exact sgnW_le l
theorem cutW_take (l : LxS) (m : Nat) (h : (cutW l).2.2 ≤ m) (h0 : (cutW l).2.2 ≠ 0) : cutW (l.take m) = cutW l := by
  have hm : 0 < m := by omega
  unfold cutW at h h0 ⊢
  rw [byN_take, if_pos hm]
  by_cases c1 : wdB (byN l 0) = true ∧ dgB (byN l 0) = false
  · rw [if_pos c1] at h ⊢
    have h : tkN wdB l ≤ m := h
    rw [if_pos c1, tkN_take, Nat.min_eq_left h, List.take_take, Nat.min_eq_left h]
  · rw [if_neg c1] at h h0
    rw [if_neg c1, if_neg c1]
    by_cases c2 : dgB (byN l 0) = true ∨ byN l 0 = 46
    · rw [if_pos c2] at h h0
      rw [if_pos c2, if_pos c2]
      cases c3 : nubB l with
      | true => rw [c3, if_pos rfl] at h0; exact absurd rfl h0
      | false =>
        rw [c3] at h h0
        have h : nucW l ≤ m := h
        obtain ⟨e1, e2, e3⟩ := nuc_take l m h c3
        rw [e1, e2, e3, List.take_take, Nat.min_eq_left h]
    · rw [if_neg c2] at h h0
      rw [if_neg c2, if_neg c2]
      by_cases c3 : byN l 0 = 34 ∨ byN l 0 = 39
      · rw [if_pos c3] at h h0
        rw [if_pos c3, if_pos c3]
        cases c4 : strW l with
        | none => rw [c4] at h0; exact absurd rfl h0
        | some x =>
          rw [c4] at h
          rw [strW_take l m x c4 h]
      · rw [if_neg c3] at h h0
        rw [if_neg c3, if_neg c3]
        have h : sgnW l ≤ m := h
        rw [sgnW_take l m h h0, List.take_take, Nat.min_eq_left h]
theorem blN_take (r : Bool) (l : LxS) (m : Nat) (h : blN r l ≤ m) : blN r (l.take m) = blN r l := by
  induction l generalizing r m with
  | nil => rw [List.take_nil]
  | cons c t ih =>
    cases m with
    | zero =>
      have : blN r (c :: t) = 0 := by omega
      rw [this]
      rfl
    | succ m =>
      rw [List.take_succ_cons]
      unfold blN at h ⊢
      by_cases c1 : c = 10
      · rw [if_pos c1] at h ⊢
        rw [if_pos c1, ih _ _ (by omega)]
      · rw [if_neg c1] at h
        rw [if_neg c1, if_neg c1]
        by_cases c2 : r = true
        · rw [if_pos c2] at h
          rw [if_pos c2, if_pos c2, ih _ _ (by omega)]
        · rw [if_neg c2] at h
          rw [if_neg c2, if_neg c2]
          by_cases c3 : c = 32 ∨ c = 9 ∨ c = 13
          · rw [if_pos c3] at h
            rw [if_pos c3, if_pos c3, ih _ _ (by omega)]
          · rw [if_neg c3] at h
            rw [if_neg c3, if_neg c3]
            by_cases c4 : c = 35
            · rw [if_pos c4] at h
              rw [if_pos c4, if_pos c4, ih _ _ (by omega)]
            · rw [if_neg c4, if_neg c4]
/-- the bytes of a token and of the blanks behind it -/
def stpN (l : LxS) : Nat := (cutW l).2.2 + blN false (l.drop (cutW l).2.2)
theorem stpN_le (l : LxS) : stpN l ≤ l.length := by
  have h1 := cutW_le l
  have h2 := blN_le false (l.drop (cutW l).2.2)
  rw [List.length_drop] at h2
  unfold stpN
  omega
/-- the tokens from a place on, behind others: the place at fault, or all tokens -/
def tokG : Nat → LxS → Nat → List Tok → Option Nat × List Tok
  | 0, _, _, acc => (none, acc)
  | f + 1, l, at', acc =>
    if l = [] then (none, acc ++ [(0, [], (at' : Int))])
    else if (cutW l).2.2 = 0 then (some at', [])
    else tokG f (l.drop (stpN l)) (at' + stpN l) (acc ++ [((cutW l).1, (cutW l).2.1, (at' : Int))])
/-- a text's tokens, the fault and its place -/
def tokW (s : LxS) : List Tok × Int × Int :=
  if 65536 < s.length then ([], 4, 0)
  else match tokG (s.length + 1) (s.drop (blN false s)) (blN false s) [] with
    | (some p, _) => ([], 130, (p : Int))
    | (none, r) => if 4096 < r.length then ([], 7, 0) else (r, 0, 0)
end Go.Proofs.YtifjdfmmafbhkaaGreatDoor
