/-
  Tokens that are joined are read as they were; what is read can be joined: words alone.
-/
import Derived.Test.YtifjdfmmafbhkaaDoorLxZc
import Derived.Test.YtifjdfmmafbhkaaDoorLxBc
namespace Go.Proofs.YtifjdfmmafbhkaaDoor
open Go.RowKit

theorem validD_rune (l y : LxS) (hl : l ≠ []) (h : ¬ ((dcG l).1 = 65533 ∧ (dcG l).2 < 3)) : Lib.validD (l.take (dcG l).2 ++ y) = Lib.validD y := by
  have hb := dcG_bounds l hl
  have htl : (l.take (dcG l).2).length = (dcG l).2 := by rw [List.length_take]; omega
  have hnt : l.take (dcG l).2 ≠ [] := by
    intro e
    rw [e] at htl
    simp only [List.length_nil] at htl
    omega
  have e1 := dcG_take l (dcG l).2 hl (Nat.le_refl _) h
  have e2 := dcG_more (l.take (dcG l).2) y hnt (by rw [e1]; exact h)
  rw [e1] at e2
  have hne : l.take (dcG l).2 ++ y ≠ [] := by simp [hnt]
  rw [Lib.validD_step _ hne]
  have e3 : dcG (l.take (dcG l).2 ++ y) = Lib.decodeL (l.take (dcG l).2 ++ y) := if_neg hne
  rw [← e3, e2, if_neg (fun e => h ⟨e.1, by omega⟩)]
  congr 1
  exact List.drop_left' htl
theorem strG_valid (q f : Nat) (l : LxS) (hq : q < 65533) (x : LxS × Nat) (h : strG q f l = some x) : Lib.validD x.1 = true := by
  induction f generalizing l x with
  | zero => cases h
  | succ f ih =>
    by_cases hl : l = []
    · subst hl
      rw [strG_nil q _ hq] at h
      cases h
    unfold strG at h
    by_cases c1 : (dcG l).1 = q
    · rw [if_pos c1] at h
      obtain rfl := Option.some.inj h
      rfl
    · rw [if_neg c1] at h
      by_cases c2 : (dcG l).1 = 10 ∨ ((dcG l).1 = 65533 ∧ (dcG l).2 < 3)
      · rw [if_pos c2] at h
        cases h
      · rw [if_neg c2] at h
        by_cases c3 : (dcG l).1 = 92
        · rw [if_pos c3] at h
          by_cases c4 : (escW (l.drop (dcG l).2)).2 = 0
          · rw [if_pos c4] at h
            cases h
          · rw [if_neg c4] at h
            obtain ⟨z, hz, rfl⟩ := Option.map_eq_some_iff.1 h
            have he := (escW_le (l.drop (dcG l).2)).2.2 c4
            show Lib.validD (_ :: z.1) = true
            rw [Lib.validD_cons _ _ (by
              rw [UInt8.toNat_ofNat']
              omega)]
            exact ih _ z hz
        · rw [if_neg c3] at h
          obtain ⟨z, hz, rfl⟩ := Option.map_eq_some_iff.1 h
          show Lib.validD (l.take (dcG l).2 ++ z.1) = true
          rw [validD_rune l z.1 hl (fun e => c2 (Or.inr e))]
          exact ih _ z hz
theorem strW_valid (l : LxS) (hq : byN l 0 < 65533) (x : LxS × Nat) (h : strW l = some x) : Lib.validD x.1 = true := by
  unfold strW at h
  obtain ⟨z, hz, rfl⟩ := Option.map_eq_some_iff.1 h
  exact strG_valid _ _ _ hq z hz
theorem cutW_text (l : LxS) (h0 : (cutW l).2.2 ≠ 0) (h4 : (cutW l).1 = 4) : Lib.validD (cutW l).2.1 = true := by
  unfold cutW at h0 h4 ⊢
  by_cases c1 : wdB (byN l 0) = true ∧ dgB (byN l 0) = false
  · rw [if_pos c1] at h4
    exact absurd h4 (by show ¬ ((1 : Int) = 4); decide)
  · rw [if_neg c1] at h0 h4 ⊢
    by_cases c2 : dgB (byN l 0) = true ∨ byN l 0 = 46
    · rw [if_pos c2] at h0 h4
      by_cases c3 : nubB l = true
      · rw [if_pos c3] at h0
        exact absurd rfl h0
      · rw [if_neg c3] at h4
        have h4 : nukW l = 4 := h4
        unfold nukW at h4
        split at h4 <;> exact absurd h4 (by decide)
    · rw [if_neg c2] at h0 h4 ⊢
      by_cases c3 : byN l 0 = 34 ∨ byN l 0 = 39
      · rw [if_pos c3] at h0 ⊢
        cases hs : strW l with
        | none =>
          rw [hs] at h0
          exact absurd rfl h0
        | some x => exact strW_valid l (by omega) x hs
      · rw [if_neg c3] at h4
        exact absurd h4 (by show ¬ ((5 : Int) = 4); decide)
/-- a token that is cut can be written -/
theorem cut_wrt (l : LxS) (p : Int) (h0 : (cutW l).2.2 ≠ 0) : (wrtW ((cutW l).1, (cutW l).2.1, p)).2 = true := by
  unfold wrtW
  dsimp only
  by_cases c : (cutW l).1 = 4
  · rw [if_pos c]
    have hv := cutW_text l h0 c
    unfold quW
    rw [if_pos hv]
    rfl
  · rw [if_neg c]
    have ht := (cutW_form l h0).2.2 c
    have hc := cutW_take l (cutW l).2.2 (Nat.le_refl _) h0
    have hle := cutW_le l
    rw [ht]
    unfold jusB
    rw [hc, List.length_take]
    simp only [Bool.and_eq_true, decide_eq_true_eq]
    exact ⟨⟨Nat.pos_of_ne_zero h0, (Nat.min_eq_left hle).symm⟩, trivial⟩
theorem strG_tlen (q f : Nat) (l : LxS) (hq : q < 65533) (x : LxS × Nat) (h : strG q f l = some x) : x.1.length ≤ x.2 := by
  induction f generalizing l x with
  | zero => cases h
  | succ f ih =>
    by_cases hl : l = []
    · subst hl
      rw [strG_nil q _ hq] at h
      cases h
    have hb := dcG_bounds l hl
    unfold strG at h
    by_cases c1 : (dcG l).1 = q
    · rw [if_pos c1] at h
      obtain rfl := Option.some.inj h
      exact Nat.zero_le _
    · rw [if_neg c1] at h
      by_cases c2 : (dcG l).1 = 10 ∨ ((dcG l).1 = 65533 ∧ (dcG l).2 < 3)
      · rw [if_pos c2] at h
        cases h
      · rw [if_neg c2] at h
        by_cases c3 : (dcG l).1 = 92
        · rw [if_pos c3] at h
          by_cases c4 : (escW (l.drop (dcG l).2)).2 = 0
          · rw [if_pos c4] at h
            cases h
          · rw [if_neg c4] at h
            obtain ⟨z, hz, rfl⟩ := Option.map_eq_some_iff.1 h
            have := ih _ z hz
            show z.1.length + 1 ≤ _
            dsimp only
            omega
        · rw [if_neg c3] at h
          obtain ⟨z, hz, rfl⟩ := Option.map_eq_some_iff.1 h
          have := ih _ z hz
          show (l.take (dcG l).2 ++ z.1).length ≤ (dcG l).2 + z.2
          rw [List.length_append, List.length_take]
          omega
theorem cutW_tlen (l : LxS) (h0 : (cutW l).2.2 ≠ 0) : (cutW l).2.1.length ≤ l.length := by
  by_cases c : (cutW l).1 = 4
  · unfold cutW at h0 c ⊢
    by_cases c1 : wdB (byN l 0) = true ∧ dgB (byN l 0) = false
    · rw [if_pos c1]
      show (l.take _).length ≤ _
      rw [List.length_take]
      omega
    · rw [if_neg c1] at h0 ⊢
      by_cases c2 : dgB (byN l 0) = true ∨ byN l 0 = 46
      · rw [if_pos c2] at h0 ⊢
        split
        · exact Nat.zero_le _
        · show (l.take _).length ≤ _
          rw [List.length_take]
          omega
      · rw [if_neg c2] at h0 ⊢
        by_cases c3 : byN l 0 = 34 ∨ byN l 0 = 39
        · rw [if_pos c3] at h0 ⊢
          cases hs : strW l with
          | none => exact Nat.zero_le _
          | some x =>
            have h1 := (strW_le l (by omega) x hs).1
            unfold strW at hs
            obtain ⟨z, hz, rfl⟩ := Option.map_eq_some_iff.1 hs
            have h2 := strG_tlen _ _ _ (by omega) z hz
            show z.1.length ≤ _
            dsimp only at h1
            omega
        · rw [if_neg c3]
          show (l.take _).length ≤ _
          rw [List.length_take]
          omega
  · rw [(cutW_form l h0).2.2 c, List.length_take]
    omega
theorem toks_wrt (f : Nat) : ∀ (l : LxS) (p : Nat) (r : List Tok), tokR f l p = some r → ∃ L e, r = L ++ [((0 : Int), ([] : LxS), (e : Int))] ∧ wrtAll L = true ∧ (∀ t ∈ L, t.2.1.length ≤ l.length) := by
  induction f with
  | zero => intro l p r h; cases h
  | succ f ih =>
    intro l p r h
    rw [tokR] at h
    by_cases c : l = []
    · rw [if_pos c] at h
      obtain rfl := Option.some.inj h
      exact ⟨[], _, rfl, rfl, fun t ht => by cases ht⟩
    · rw [if_neg c] at h
      by_cases d : (cutW l).2.2 = 0
      · rw [if_pos d] at h; cases h
      · rw [if_neg d] at h
        obtain ⟨r', hr', rfl⟩ := Option.map_eq_some_iff.1 h
        obtain ⟨L, e, hL, hw, hb⟩ := ih _ _ r' hr'
        refine ⟨((cutW l).1, (cutW l).2.1, (p : Int)) :: L, e, by rw [hL]; rfl, ?_, ?_⟩
        · unfold wrtAll at hw ⊢
          rw [List.all_cons, cut_wrt l _ d, hw]
          rfl
        · intro t ht
          rcases List.mem_cons.1 ht with rfl | ht
          · exact cutW_tlen l d
          · have := hb t ht
            rw [List.length_drop] at this
            omega
theorem spc_fst (ws : List LxS) : (spc ws).map (·.1) = ws := by
  induction ws with
  | nil => rfl
  | cons w ws ih =>
    cases ws with
    | nil => rfl
    | cons v ws => show w :: (spc (v :: ws)).map (·.1) = _; rw [ih]
theorem gapK_back (L : List Tok) : ∀ (P : List (LxS × LxS)) (p : Nat) (x : Int), P.map (·.1) = wrtL L → wrtAll L = true → sameB (gapK p P) (L ++ [((0 : Int), ([] : LxS), x)]) = true := by
  induction L with
  | nil =>
    intro P p x h _
    obtain rfl : P = [] := by simpa [wrtL] using h
    rfl
  | cons t L ih =>
    intro P p x h hw
    cases P with
    | nil => simp [wrtL] at h
    | cons y P =>
      have h1 : y.1 = (wrtW t).1 := (List.cons.inj h).1
      have h2 : P.map (·.1) = wrtL L := (List.cons.inj h).2
      unfold wrtAll at hw
      rw [List.all_cons, Bool.and_eq_true] at hw
      have hg := wrt_good t hw.1
      show (tkEq _ t && sameB (gapK _ P) (L ++ [_])) = true
      rw [ih P _ x h2 hw.2]
      rw [← h1] at hg
      simp [tkEq, hg.2.1, hg.2.2]
/-- the law's list: the tokens with their end -/
def wantW (l : List Tok) : List Tok := if l = [] ∨ (l.getD (l.length - 1) tkD).1 ≠ 0 then l ++ [((0 : Int), ([] : LxS), (0 : Int))] else l
theorem want_form (l : List Tok) (h : wrtAll (dropE l) = true) : ∃ x, wantW l = dropE l ++ [((0 : Int), ([] : LxS), x)] := by
  unfold wantW
  by_cases hl : l = []
  · subst hl
    exact ⟨0, rfl⟩
  · have hn : 0 < l.length := List.length_pos_iff.2 hl
    obtain ⟨m, hm⟩ : ∃ m, l.length = m + 1 := ⟨l.length - 1, by omega⟩
    have hD := dropE_get l m hm
    rw [hm, Nat.add_sub_cancel]
    have hsp : l = l.take m ++ [l.getD m tkD] := by
      have := List.take_succ_eq_append_getElem (l := l) (i := m) (by omega)
      rw [List.take_of_length_le (by omega)] at this
      rw [List.getD, List.getElem?_eq_getElem (by omega)]
      exact this
    by_cases c : (l.getD m tkD).1 = 0
    · rw [if_neg (fun e => e.elim hl (fun e => e c))]
      by_cases d : (l.getD m tkD).2.1 = []
      · rw [if_pos ⟨c, d⟩] at hD
        refine ⟨(l.getD m tkD).2.2, ?_⟩
        rw [hD]
        conv => lhs; rw [hsp]
        congr 2
        exact Prod.ext c (Prod.ext d rfl)
      · rw [if_neg (fun e => d e.2)] at hD
        rw [hD] at h
        have hw := List.all_eq_true.1 h (l.getD m tkD) (by
          rw [List.getD, List.getElem?_eq_getElem (by omega)]
          exact List.getElem_mem _)
        exfalso
        have hg := wrt_good _ hw
        have h0 : (cutW (wrtW (l.getD m tkD)).1).2.2 ≠ 0 := by
          rw [hg.1.2]
          have := List.length_pos_iff.2 hg.1.1
          omega
        have := (cutW_form _ h0).1
        rw [hg.2.1, c] at this
        omega
    · rw [if_pos (Or.inr c)]
      rw [if_neg (fun e => c e.1)] at hD
      exact ⟨0, by rw [hD]⟩
/-- the joined text's tokens are the list's -/
theorem back_join (l : List Tok) (t : LxS) (h : joinW l = (t, 0)) : ∃ r, tokW t = (r, 0, 0) ∧ sameB r (wantW l) = true := by
  obtain ⟨P, h1, h2, h3, h4, h5, h6⟩ := join_ok l t h
  obtain ⟨x, hx⟩ := want_form l h6
  refine ⟨gapK 0 P, by rw [h1]; exact gapW P h2 h3 h4, ?_⟩
  rw [hx, h5]
  exact gapK_back (dropE l) _ 0 x (spc_fst _) h6
/-- a text's tokens can be joined, unless what is joined is too long -/
theorem back_toks2 (s : LxS) (r : List Tok) (h : tokW s = (r, 0, 0)) : ((joinW r).2 = 0 ∨ (joinW r).2 = 4) ∧ (∀ t ∈ r, t.2.1.length ≤ 65536) ∧ r.length ≤ 4096 ∧ wantW r = r := by
  obtain ⟨h1, h2, h3⟩ := tokW_ok s r h
  obtain ⟨L, e, hL, hw, hb⟩ := toks_wrt _ _ _ r h3
  have hD : dropE r = L := by
    have := dropE_get r L.length (by rw [hL]; simp)
    rw [this]
    have hg : r.getD L.length tkD = ((0 : Int), ([] : LxS), (e : Int)) := by rw [hL]; simp [List.getD]
    rw [hg, if_pos ⟨rfl, rfl⟩, hL, List.take_left]
  refine ⟨?_, ?_, h2, ?_⟩
  · unfold joinW joinD
    rw [hD, if_pos hw]
    by_cases c : 65536 < (Lib.join (wrtL L) [32]).length
    · rw [if_pos c]; exact Or.inr rfl
    · rw [if_neg c, if_neg (by rw [hL, List.length_append] at h2; simp only [List.length_cons, List.length_nil] at h2; omega)]
      exact Or.inl rfl
  · intro t ht
    rw [hL] at ht
    rcases List.mem_append.1 ht with ht | ht
    · have := hb t ht
      rw [List.length_drop] at this
      omega
    · obtain rfl : t = ((0 : Int), ([] : LxS), (e : Int)) := by simpa using ht
      exact Nat.zero_le _
  · unfold wantW
    rw [if_neg]
    rintro (e1 | e1)
    · rw [hL] at e1; simp at e1
    · apply e1
      rw [hL]
      simp [List.getD]
end Go.Proofs.YtifjdfmmafbhkaaDoor
