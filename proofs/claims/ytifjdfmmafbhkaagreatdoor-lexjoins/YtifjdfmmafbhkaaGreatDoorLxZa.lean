/-
  A token with a blank behind it is the token: words alone.
-/
import Derived.Test.YtifjdfmmafbhkaaGreatDoorLxD
namespace Go.Proofs.YtifjdfmmafbhkaaGreatDoor
open Go.RowKit

theorem byN_appL (a b : LxS) (j : Nat) (h : j < a.length) : byN (a ++ b) j = byN a j := by
  unfold byN
  simp [List.getD, List.getElem?_append_left h]
theorem byN_appR (a b : LxS) (j : Nat) : byN (a ++ b) (a.length + j) = byN b j := by
  unfold byN
  simp [List.getD, List.getElem?_append_right]
/-- no blank ahead of a place -/
def NoBl (l : LxS) (a b : Nat) : Prop := ∀ j, a ≤ j → j < b → byN l j ≠ 32
theorem NoBl.le {tok r : LxS} {N : Nat} (h : NoBl (tok ++ 32 :: r) 0 N) : N ≤ tok.length := by
  apply Nat.le_of_not_lt
  intro hc
  refine h tok.length (Nat.zero_le _) hc ?_
  have := byN_appR tok (32 :: r) 0
  rw [Nat.add_zero] at this
  rw [this]
  rfl
theorem NoBl.cat {l : LxS} {a b c : Nat} (h : NoBl l a b) (k : NoBl l b c) : NoBl l a c := fun j h1 h2 => by
  by_cases hb : j < b
  · exact h j h1 hb
  · exact k j (by omega) h2
theorem NoBl.tk (p : Nat → Bool) (hp : p 32 = false) (l : LxS) (a : Nat) : NoBl l a (a + tkN p (l.drop a)) := fun j h1 h2 e => by
  have := tkN_in p (l.drop a) (j - a) (by omega)
  rw [byN_drop, show a + (j - a) = j by omega, e, hp] at this
  cases this
theorem NoBl.one {l : LxS} {a : Nat} (h : byN l a ≠ 32) : NoBl l a (a + 1) := fun j h1 h2 => by
  obtain rfl : j = a := by omega
  exact h
theorem NoBl.none (l : LxS) (a : Nat) : NoBl l a a := fun j h1 h2 => absurd h2 (by omega)
theorem NoBl.off {l : LxS} {k a b : Nat} (h : NoBl (l.drop k) a b) : NoBl l (k + a) (k + b) := fun j h1 h2 => by
  have := h (j - k) (by omega) (by omega)
  rw [byN_drop, show k + (j - k) = j by omega] at this
  exact this
theorem hexW_nb (l : LxS) : NoBl l 0 (hexW l) := by
  unfold hexW
  split
  · rename_i c
    split
    · exact NoBl.none _ _
    · exact ((NoBl.one (l := l) (a := 0) (by omega)).cat (NoBl.one (by show byN l 1 ≠ 32; omega))).cat (NoBl.tk hxB (by decide) l 2)
  · exact NoBl.none _ _
theorem expW_nb (l : LxS) : NoBl l 0 (expW l) := by
  unfold expW
  split
  · rename_i c
    split
    · rename_i d
      split
      · exact NoBl.none _ _
      · exact ((NoBl.one (l := l) (a := 0) (by omega)).cat (NoBl.one (by show byN l 1 ≠ 32; omega))).cat (NoBl.tk dgB (by decide) l 2)
    · split
      · exact NoBl.none _ _
      · exact (NoBl.one (l := l) (a := 0) (by omega)).cat (NoBl.tk dgB (by decide) l 1)
  · exact NoBl.none _ _
theorem decW_nb (l : LxS) : NoBl l 0 (decW l) := by
  have h1 : NoBl l 0 (tkN dgB l) := by have := NoBl.tk dgB (by decide) l 0; rwa [Nat.zero_add, List.drop_zero] at this
  unfold decW
  split
  · rename_i c
    split
    · exact NoBl.none _ _
    · exact (h1.cat (NoBl.one (by omega))).cat (NoBl.tk dgB (by decide) l _)
  · exact h1
theorem numW_nb (l : LxS) : NoBl l 0 (numW l) := by
  unfold numW
  split
  · exact hexW_nb l
  · split
    · exact NoBl.none _ _
    · exact (decW_nb l).cat (NoBl.off (expW_nb _))
theorem unP_nb (l : LxS) (i : Nat) (h : unP l i = true) : NoBl l 0 (unL i) := by
  rw [unP_iff] at h
  intro j _ hj
  unfold unL at hj
  have : j = 0 ∨ j = 1 := by split at hj <;> omega
  rcases this with rfl | rfl
  · omega
  · split at hj <;> omega
theorem spG_nb (l : LxS) (f frm w : Nat) (n : Int) : NoBl l w (spG l f frm w n).2 := by
  induction f generalizing frm w n with
  | zero => exact NoBl.none _ _
  | succ f ih =>
    unfold spG
    split
    · exact NoBl.none _ _
    · split
      · exact NoBl.none _ _
      · rename_i h1 h2
        have hr := unG_range (l.drop (w + tkN dgB (l.drop w))) frm 7 (Nat.le_refl _)
        rcases hr with hr | ⟨-, -, hr⟩
        · exact absurd hr h2
        · have h3 := NoBl.off (unP_nb _ _ hr)
          rw [Nat.add_zero] at h3
          exact ((NoBl.tk dgB (by decide) l w).cat h3).cat (ih _ _ _)
theorem spW_nb (l : LxS) : NoBl l 0 (spW l).2 := spG_nb l 8 0 0 0
theorem nucW_nb (l : LxS) : NoBl l 0 (nucW l) := by
  unfold nucW
  split
  · exact spW_nb l
  · exact numW_nb l
theorem sgnW_nb (l : LxS) : NoBl l 0 (sgnW l) := by
  unfold sgnW
  split
  · rename_i h
    have hb : byN l 0 ≠ 32 ∧ byN l 1 ≠ 32 := by
      unfold sg2 at h
      simp only [Bool.or_eq_true, Bool.and_eq_true, beq_iff_eq] at h
      omega
    exact (NoBl.one (l := l) (a := 0) hb.1).cat (NoBl.one hb.2)
  · split
    · rename_i h
      refine NoBl.one (fun e => ?_)
      rw [e] at h
      exact absurd h (by decide)
    · exact NoBl.none _ _
/-! strings: what stands behind them is not looked at -/
theorem decN_more (n m b0 b1 b2 b3 : Nat) (hm : 0 < m)
    (h2 : ¬ ((Lib.decodeN (min n m) b0 (if 1 < m then b1 else 0) (if 2 < m then b2 else 0) (if 3 < m then b3 else 0)).1 = 65533 ∧ (Lib.decodeN (min n m) b0 (if 1 < m then b1 else 0) (if 2 < m then b2 else 0) (if 3 < m then b3 else 0)).2 < 3)) :
    (Lib.decodeN n b0 b1 b2 b3).2 ≤ m ∧ ¬ ((Lib.decodeN n b0 b1 b2 b3).1 = 65533 ∧ (Lib.decodeN n b0 b1 b2 b3).2 < 3) := by
  by_cases a : b0 < 128
  · rw [Lib.decodeN_ascii _ _ _ _ _ a]
    exact ⟨hm, fun e => by omega⟩
  · unfold Lib.decodeN at h2 ⊢
    rw [if_neg a] at h2
    rw [if_neg a]
    have hx : ¬ ((65533, 1) : Nat × Nat).1 = 65533 ∨ ¬ ((65533, 1) : Nat × Nat).2 < 3 → False := by rintro (h | h) <;> exact h (by decide)
    by_cases b : b0 / 32 = 6 ∧ (1 < min n m ∧ (if 1 < m then b1 else 0) / 64 = 2)
    · rw [if_pos b, if_pos (show 1 < m by omega)] at h2
      rw [if_pos (show 1 < m by omega)] at b
      rw [if_pos (show b0 / 32 = 6 ∧ (1 < n ∧ b1 / 64 = 2) from ⟨b.1, by omega, b.2.2⟩)]
      split at h2
      · rename_i c
        rw [if_pos c]
        exact ⟨by show 2 ≤ m; omega, h2⟩
      · exact absurd ⟨rfl, (by decide : 1 < 3)⟩ h2
    · rw [if_neg b] at h2
      by_cases c : b0 / 16 = 14 ∧ (1 < min n m ∧ (if 1 < m then b1 else 0) / 64 = 2) ∧ (2 < min n m ∧ (if 2 < m then b2 else 0) / 64 = 2)
      · rw [if_pos c, if_pos (show 1 < m by omega), if_pos (show 2 < m by omega)] at h2
        rw [if_pos (show 1 < m by omega), if_pos (show 2 < m by omega)] at c
        rw [if_neg (by omega), if_pos (show b0 / 16 = 14 ∧ (1 < n ∧ b1 / 64 = 2) ∧ (2 < n ∧ b2 / 64 = 2) from ⟨c.1, ⟨by omega, c.2.1.2⟩, by omega, c.2.2.2⟩)]
        split at h2
        · rename_i d
          rw [if_pos d]
          exact ⟨by show 3 ≤ m; omega, h2⟩
        · exact absurd ⟨rfl, (by decide : 1 < 3)⟩ h2
      · rw [if_neg c] at h2
        by_cases d : b0 / 8 = 30 ∧ (1 < min n m ∧ (if 1 < m then b1 else 0) / 64 = 2) ∧ (2 < min n m ∧ (if 2 < m then b2 else 0) / 64 = 2) ∧ (3 < min n m ∧ (if 3 < m then b3 else 0) / 64 = 2)
        · rw [if_pos d, if_pos (show 1 < m by omega), if_pos (show 2 < m by omega), if_pos (show 3 < m by omega)] at h2
          rw [if_pos (show 1 < m by omega), if_pos (show 2 < m by omega), if_pos (show 3 < m by omega)] at d
          rw [if_neg (by omega), if_neg (by omega), if_pos (show b0 / 8 = 30 ∧ (1 < n ∧ b1 / 64 = 2) ∧ (2 < n ∧ b2 / 64 = 2) ∧ (3 < n ∧ b3 / 64 = 2) from ⟨d.1, ⟨by omega, d.2.1.2⟩, ⟨by omega, d.2.2.1.2⟩, by omega, d.2.2.2.2⟩)]
          split at h2
          · rename_i e
            rw [if_pos e]
            exact ⟨by show 4 ≤ m; omega, h2⟩
          · exact absurd ⟨rfl, (by decide : 1 < 3)⟩ h2
        · rw [if_neg d] at h2
          exact absurd ⟨rfl, (by decide : 1 < 3)⟩ h2
theorem dcG_more (l x : LxS) (hl : l ≠ []) (h2 : ¬ ((dcG l).1 = 65533 ∧ (dcG l).2 < 3)) : dcG (l ++ x) = dcG l := by
  have hne : l ++ x ≠ [] := by simp [hl]
  have hlt : 0 < l.length := List.length_pos_iff.2 hl
  have htk : (l ++ x).take l.length = l := List.take_left
  have hm : min (l ++ x).length l.length = l.length := by rw [List.length_append]; omega
  have hb : ∀ j, byN l j = if j < l.length then byN (l ++ x) j else 0 := fun j => by
    have := byN_take (l ++ x) l.length j
    rwa [htk] at this
  have h3 := h2
  rw [dcG_N l hl, hb 0, hb 1, hb 2, hb 3, if_pos hlt] at h3
  rw [← hm] at h3
  have hk := decN_more (l ++ x).length l.length (byN (l ++ x) 0) (byN (l ++ x) 1) (byN (l ++ x) 2) (byN (l ++ x) 3) hlt (by simpa only [hm] using h3)
  have := dcG_take (l ++ x) l.length hne (by rw [dcG_N _ hne]; exact hk.1) (by rw [dcG_N _ hne]; exact hk.2)
  rw [htk] at this
  exact this.symm
theorem escW_more (l x : LxS) (h0 : (escW l).2 ≠ 0) : escW (l ++ x) = escW l := by
  have hz : l ≠ [] := by rintro rfl; exact h0 (by decide)
  have hlt : 0 < l.length := List.length_pos_iff.2 hz
  have e0 := byN_appL l x 0 hlt
  have h1 : l.length ≤ 1 → byN l 1 = 0 := byN_out l 1
  have h2 : l.length ≤ 2 → byN l 2 = 0 := byN_out l 2
  by_cases c : byN l 0 = 120
  · have h3 : 2 < l.length := by
      apply Nat.lt_of_not_le
      intro hc
      apply h0
      unfold escW
      rw [if_pos c, if_neg]
      rintro ⟨-, hb, -⟩
      rw [h2 hc] at hb
      exact absurd hb (by decide)
    have e1 := byN_appL l x 1 (by omega)
    have e2 := byN_appL l x 2 h3
    unfold escW
    rw [e0, e1, e2]
  · unfold escW
    rw [e0, if_neg c, if_neg c]
theorem strG_more (q f : Nat) (l x : LxS) (hq : q < 65533) (y : LxS × Nat) (h : strG q f l = some y) : strG q f (l ++ x) = some y := by
  induction f generalizing l y with
  | zero => cases h
  | succ f ih =>
    by_cases hl : l = []
    · subst hl
      rw [strG_nil q _ hq] at h
      cases h
    have hb := dcG_bounds l hl
    by_cases c1 : (dcG l).1 = q
    · have e := dcG_more l x hl (fun e => by omega)
      unfold strG at h ⊢
      rw [if_pos c1] at h
      rw [e, if_pos c1]
      exact h
    · by_cases c2 : (dcG l).1 = 10 ∨ ((dcG l).1 = 65533 ∧ (dcG l).2 < 3)
      · unfold strG at h
        rw [if_neg c1, if_pos c2] at h
        cases h
      · have e := dcG_more l x hl (fun e => c2 (Or.inr e))
        have hd : ∀ k, k ≤ l.length → (l ++ x).drop k = l.drop k ++ x := fun k hk => by rw [List.drop_append_of_le_length hk]
        unfold strG at h ⊢
        rw [e]
        rw [if_neg c1, if_neg c2] at h ⊢
        by_cases c4 : (dcG l).1 = 92
        · rw [if_pos c4] at h ⊢
          by_cases c5 : (escW (l.drop (dcG l).2)).2 = 0
          · rw [if_pos c5] at h; cases h
          · rw [if_neg c5] at h
            have he := escW_more (l.drop (dcG l).2) x c5
            have hel := (escW_le (l.drop (dcG l).2)).1
            rw [List.length_drop] at hel
            rw [hd _ hb.2.1, he, if_neg c5, hd _ (by omega)]
            obtain ⟨z, hz, rfl⟩ := Option.map_eq_some_iff.1 h
            rw [ih _ z hz]
            rfl
        · rw [if_neg c4] at h ⊢
          obtain ⟨z, hz, rfl⟩ := Option.map_eq_some_iff.1 h
          rw [hd _ hb.2.1, ih _ z hz, List.take_append_of_le_length hb.2.1]
          rfl
theorem strW_more (l x : LxS) (hq : byN l 0 < 65533) (hl : l ≠ []) (y : LxS × Nat) (h : strW l = some y) : strW (l ++ x) = some y := by
  have hlt : 0 < l.length := List.length_pos_iff.2 hl
  unfold strW at h ⊢
  obtain ⟨z, hz, rfl⟩ := Option.map_eq_some_iff.1 h
  rw [strG_fuel _ _ (l.length + 1 + x.length) _ hq (by simp only [List.length_drop]; omega) (by simp only [List.length_drop]; omega)] at hz
  have h1 := strG_more _ _ _ x hq z hz
  rw [byN_appL l x 0 hlt, List.drop_append_of_le_length (by omega), strG_fuel _ _ (l.length + 1 + x.length) _ hq (by simp only [List.length_append, List.length_drop]; omega) (by simp only [List.length_append, List.length_drop]; omega)]
  rw [h1]
  rfl
/-- a token with a blank behind it -/
theorem cutW_blank (tok r : LxS) (h : (cutW tok).2.2 = tok.length) (h0 : tok ≠ []) : cutW (tok ++ 32 :: r) = cutW tok := by
  have hlt : 0 < tok.length := List.length_pos_iff.2 h0
  have htk : (tok ++ 32 :: r).take tok.length = tok := List.take_left
  have e0 := byN_appL tok (32 :: r) 0 hlt
  have e32 : byN (tok ++ 32 :: r) tok.length = 32 := by
    have := byN_appR tok (32 :: r) 0
    rw [Nat.add_zero] at this
    rw [this]
    rfl
  suffices hs : (cutW (tok ++ 32 :: r)).2.2 ≤ tok.length ∧ (cutW (tok ++ 32 :: r)).2.2 ≠ 0 by
    have := cutW_take (tok ++ 32 :: r) tok.length hs.1 hs.2
    rw [htk] at this
    exact this.symm
  unfold cutW at h ⊢
  rw [e0]
  by_cases c1 : wdB (byN tok 0) = true ∧ dgB (byN tok 0) = false
  · rw [if_pos c1]
    have h1 : NoBl (tok ++ 32 :: r) 0 (tkN wdB (tok ++ 32 :: r)) := by have := NoBl.tk wdB (by decide) (tok ++ 32 :: r) 0; rwa [Nat.zero_add, List.drop_zero] at this
    refine ⟨h1.le, fun e => ?_⟩
    have := tkN_out wdB wdB_zero (tok ++ 32 :: r)
    have e' : tkN wdB (tok ++ 32 :: r) = 0 := e
    rw [e', e0, c1.1] at this
    cases this
  · rw [if_neg c1] at h ⊢
    by_cases c2 : dgB (byN tok 0) = true ∨ byN tok 0 = 46
    · rw [if_pos c2] at h ⊢
      have h1 := (numW_nb (tok ++ 32 :: r)).le
      have h2 := (spW_nb (tok ++ 32 :: r)).le
      have e1 := numW_take _ _ h1
      have e2 := spW_take _ _ h2
      rw [htk] at e1 e2
      have e3 : nucW (tok ++ 32 :: r) = nucW tok := by unfold nucW; rw [e1, e2]
      by_cases c3 : nubB tok = true
      · rw [if_pos c3] at h
        have h : (0 : Nat) = tok.length := h
        omega
      · rw [if_neg c3] at h
        have h : nucW tok = tok.length := h
        have c4 : ¬ nubB (tok ++ 32 :: r) = true := by
          unfold nubB
          rw [e3, h, e32]
          decide
        rw [if_neg c4]
        show nucW _ ≤ _ ∧ nucW _ ≠ 0
        rw [e3, h]
        omega
    · rw [if_neg c2] at h ⊢
      by_cases c3 : byN tok 0 = 34 ∨ byN tok 0 = 39
      · rw [if_pos c3] at h ⊢
        cases hs : strW tok with
        | none =>
          rw [hs] at h
          have h : (0 : Nat) = tok.length := h
          omega
        | some y =>
          rw [strW_more tok (32 :: r) (by omega) h0 y hs]
          rw [hs] at h
          have h : y.2 = tok.length := h
          show y.2 ≤ _ ∧ y.2 ≠ 0
          omega
      · rw [if_neg c3] at h ⊢
        have h : sgnW tok = tok.length := h
        refine ⟨(sgnW_nb (tok ++ 32 :: r)).le, fun e => ?_⟩
        have e : sgnW (tok ++ 32 :: r) = 0 := e
        unfold sgnW at e h
        rw [e0] at e
        by_cases d : sgB (byN tok 0) = true
        · rw [if_pos d] at e
          split at e <;> cases e
        · rw [if_neg d] at h
          split at h
          · rename_i d2
            have e1 := byN_appL tok (32 :: r) 1 (by omega)
            rw [e1, if_pos d2] at e
            cases e
          · omega
end Go.Proofs.YtifjdfmmafbhkaaGreatDoor
