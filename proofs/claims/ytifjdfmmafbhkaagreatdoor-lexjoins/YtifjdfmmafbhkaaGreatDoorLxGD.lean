/-
  LxDh, LxDi, in one text.
-/
import Derived.Test.YtifjdfmmafbhkaaGreatDoorLxGC
/- LxDh -/
namespace Go.Proofs.YtifjdfmmafbhkaaGreatDoor
open Go.RowKit

/-- what a string's bytes say up to its end, and how many they are: the document's way, by bytes -/
def refT (q : Nat) : Nat → LxS → Option (LxS × Nat)
  | 0, _ => none
  | _ + 1, [] => none
  | f + 1, c :: t =>
    if c.toNat = q then some ([], 1)
    else if c.toNat = 10 then none
    else if c.toNat = 92 then (if (escW t).2 = 0 then none else (refT q f (t.drop (escW t).2)).map fun x => (UInt8.ofNat (escW t).1 :: x.1, 1 + (escW t).2 + x.2))
    else (refT q f t).map fun x => (c :: x.1, 1 + x.2)
theorem refT_mono (q f : Nat) : ∀ (g : Nat) (l : LxS) (x : LxS × Nat), f ≤ g → refT q f l = some x → refT q g l = some x := by
  induction f with
  | zero => intro g l x _ h; cases h
  | succ f ih =>
    intro g l x hg h
    obtain ⟨g, rfl⟩ : ∃ k, g = k + 1 := ⟨g - 1, by omega⟩
    cases l with
    | nil => cases h
    | cons c t =>
      unfold refT at h ⊢
      by_cases c1 : c.toNat = q
      · rw [if_pos c1] at h ⊢; exact h
      · rw [if_neg c1] at h ⊢
        by_cases c2 : c.toNat = 10
        · rw [if_pos c2] at h; cases h
        · rw [if_neg c2] at h ⊢
          by_cases c3 : c.toNat = 92
          · rw [if_pos c3] at h ⊢
            by_cases c4 : (escW t).2 = 0
            · rw [if_pos c4] at h; cases h
            · rw [if_neg c4] at h ⊢
              obtain ⟨z, hz, rfl⟩ := Option.map_eq_some_iff.1 h
              rw [ih g _ z (by omega) hz]
              rfl
          · rw [if_neg c3] at h ⊢
            obtain ⟨z, hz, rfl⟩ := Option.map_eq_some_iff.1 h
            rw [ih g _ z (by omega) hz]
            rfl
theorem refT_len (q f : Nat) : ∀ (l : LxS) (x : LxS × Nat), refT q f l = some x → 1 ≤ x.2 ∧ x.2 ≤ l.length := by
  induction f with
  | zero => intro l x h; cases h
  | succ f ih =>
    intro l x h
    cases l with
    | nil => cases h
    | cons c t =>
      unfold refT at h
      by_cases c1 : c.toNat = q
      · rw [if_pos c1] at h
        obtain rfl := Option.some.inj h
        exact ⟨Nat.le_refl _, by simp⟩
      · rw [if_neg c1] at h
        by_cases c2 : c.toNat = 10
        · rw [if_pos c2] at h; cases h
        · rw [if_neg c2] at h
          by_cases c3 : c.toNat = 92
          · rw [if_pos c3] at h
            by_cases c4 : (escW t).2 = 0
            · rw [if_pos c4] at h; cases h
            · rw [if_neg c4] at h
              obtain ⟨z, hz, rfl⟩ := Option.map_eq_some_iff.1 h
              have h1 := ih _ z hz
              have h2 := (escW_le t).1
              rw [List.length_drop] at h1
              show 1 ≤ 1 + (escW t).2 + z.2 ∧ 1 + (escW t).2 + z.2 ≤ t.length + 1
              omega
          · rw [if_neg c3] at h
            obtain ⟨z, hz, rfl⟩ := Option.map_eq_some_iff.1 h
            have h1 := ih _ z hz
            show 1 ≤ 1 + z.2 ∧ 1 + z.2 ≤ t.length + 1
            omega
/-- bytes of no ASCII are taken as they are -/
theorem refT_high (q : Nat) (hq : q < 128) (w : Nat) : ∀ (f : Nat) (l : LxS), w ≤ l.length → (∀ j, j < w → 128 ≤ byN l j) → refT q (w + f) l = (refT q f (l.drop w)).map fun x => (l.take w ++ x.1, w + x.2) := by
  induction w with
  | zero =>
    intro f l _ _
    rw [Nat.zero_add, List.drop_zero, List.take_zero]
    cases refT q f l with
    | none => rfl
    | some x => simp
  | succ w ih =>
    intro f l hl h
    cases l with
    | nil => simp at hl
    | cons c t =>
      have h0 : 128 ≤ c.toNat := h 0 (by omega)
      rw [show w + 1 + f = (w + f) + 1 by omega]
      rw [refT, if_neg (by omega), if_neg (by omega), if_neg (by omega), ih f t (by simpa using hl) (fun j hj => h (j + 1) (by omega)), Option.map_map]
      show _ = (refT q f (t.drop w)).map _
      congr 1
      funext x
      simp only [Function.comp, List.take_succ_cons, List.cons_append, Prod.mk.injEq, true_and]
      omega
theorem escW_asc (t : LxS) (_h : (escW t).2 ≠ 0) : ∀ j, j < (escW t).2 → byN t j < 128 := by
  unfold escW
  simp only [hxB_iff]
  intro j hj
  (repeat' split at hj) <;> simp only [] at hj <;> first | (exact absurd hj (by omega)) | skip
  all_goals (have : j = 0 ∨ j = 1 ∨ j = 2 := by omega)
  all_goals (rcases this with rfl | rfl | rfl <;> omega)
theorem esc_valid (c : UInt8) (t : LxS) (n : Nat) (hc : c.toNat < 128) (h : (escW t).2 ≠ 0) (hn : 1 ≤ n) : Lib.validD ((c :: t).take (1 + (escW t).2 + n - 1)) = Lib.validD ((t.drop (escW t).2).take (n - 1)) := by
  have ha := escW_asc t h
  have h1 := Lib.validD_ascii (1 + (escW t).2) ((c :: t).take (1 + (escW t).2 + n - 1)) (fun b hb => by
    rw [List.take_take] at hb
    obtain ⟨j, hj, rfl⟩ := List.mem_iff_getElem.1 hb
    rw [List.length_take] at hj
    rw [List.getElem_take]
    cases j with
    | zero => exact hc
    | succ j =>
      have := ha j (by omega)
      unfold byN at this
      have hjt : j < t.length := by simp only [List.length_cons] at hj; omega
      rw [List.getD, List.getElem?_eq_getElem hjt] at this
      exact this)
  rw [h1, take_drop, show (c :: t).drop (1 + (escW t).2) = t.drop (escW t).2 by rw [Nat.add_comm]; rfl, show 1 + (escW t).2 + n - 1 - (1 + (escW t).2) = n - 1 by omega]
theorem valid_dc (l : LxS) (hl : l ≠ []) (hv : Lib.validD l = true) : ¬ ((dcG l).1 = 65533 ∧ (dcG l).2 < 3) ∧ Lib.validD (l.drop (dcG l).2) = true := by
  have hdc : dcG l = Lib.decodeL l := if_neg hl
  rw [Lib.validD_step _ hl, ← hdc] at hv
  by_cases bad : (dcG l).1 = 65533 ∧ (dcG l).2 = 1
  · rw [if_pos bad] at hv; cases hv
  · rw [if_neg bad] at hv
    refine ⟨?_, hv⟩
    rintro ⟨e1, e2⟩
    have hen := Lib.encode_decode l hl (by rw [← hdc]; exact bad)
    rw [← hdc, e1] at hen
    have := congrArg List.length hen
    rw [List.length_take, show (Lib.encodeRune ((65533 : Nat) : Int)).length = 3 by decide] at this
    omega
theorem dc_high (l : LxS) (hl : l ≠ []) (hc : 128 ≤ byN l 0) : 128 ≤ (dcG l).1 ∧ ∀ j, j < (dcG l).2 → 128 ≤ byN l j := by
  have hh := dec_hi (l := l) (p := 0) (List.length_pos_iff.2 hl) hc
  have hdc : dcG l = Lib.decodeL l := if_neg hl
  rw [dec_dcG l 0 (List.length_pos_iff.2 hl), List.drop_zero, ← hdc] at hh
  refine ⟨hh.1, fun j hj => ?_⟩
  have := hh.2.2.2 j hj
  rwa [Nat.zero_add] at this
/-- by runes: then by bytes, and right UTF-8 -/
theorem strG_ref (q : Nat) (hq : q < 128) (f : Nat) : ∀ (l : LxS) (x : LxS × Nat), strG q f l = some x → (∃ g, refT q g l = some x) ∧ Lib.validD (l.take (x.2 - 1)) = true := by
  induction f with
  | zero => intro l x h; cases h
  | succ f ih =>
    intro l x h
    by_cases hl : l = []
    · subst hl
      rw [strG_nil q _ (by omega)] at h
      cases h
    obtain ⟨c, t, rfl⟩ := List.exists_cons_of_ne_nil hl
    have hb := dcG_bounds (c :: t) hl
    unfold strG at h
    by_cases hc : c.toNat < 128
    · rw [dcG_asc c t hc] at h
      dsimp only at h
      have hd1 : (c :: t).drop 1 = t := rfl
      rw [hd1] at h
      by_cases c1 : c.toNat = q
      · rw [if_pos c1] at h
        obtain rfl := Option.some.inj h
        exact ⟨⟨1, by rw [refT, if_pos c1]⟩, rfl⟩
      · rw [if_neg c1] at h
        by_cases c2 : c.toNat = 10
        · rw [if_pos (Or.inl c2)] at h
          cases h
        · rw [if_neg (by omega)] at h
          by_cases c3 : c.toNat = 92
          · rw [if_pos c3] at h
            by_cases c4 : (escW t).2 = 0
            · rw [if_pos c4] at h; cases h
            · rw [if_neg c4] at h
              obtain ⟨z, hz, rfl⟩ := Option.map_eq_some_iff.1 h
              rw [show (c :: t).drop (1 + (escW t).2) = t.drop (escW t).2 by rw [Nat.add_comm]; rfl] at hz
              obtain ⟨⟨g, hg⟩, hv⟩ := ih _ z hz
              have hz1 := refT_len q g _ z hg
              refine ⟨⟨g + 1, by rw [refT, if_neg c1, if_neg c2, if_pos c3, if_neg c4, hg]; rfl⟩, ?_⟩
              show Lib.validD ((c :: t).take (1 + (escW t).2 + z.2 - 1)) = true
              rw [esc_valid c t z.2 hc c4 hz1.1]
              exact hv
          · rw [if_neg c3] at h
            obtain ⟨z, hz, rfl⟩ := Option.map_eq_some_iff.1 h
            obtain ⟨⟨g, hg⟩, hv⟩ := ih _ z hz
            have hz1 := refT_len q g _ z hg
            refine ⟨⟨g + 1, by rw [refT, if_neg c1, if_neg c2, if_neg c3, hg]; rfl⟩, ?_⟩
            show Lib.validD ((c :: t).take (1 + z.2 - 1)) = true
            obtain ⟨m, hm⟩ : ∃ m, z.2 = m + 1 := ⟨z.2 - 1, by omega⟩
            rw [show 1 + z.2 - 1 = m + 1 by omega, List.take_succ_cons, Lib.validD_cons _ _ hc]
            rw [hm, Nat.add_sub_cancel] at hv
            exact hv
    · obtain ⟨k1, k2⟩ := dc_high (c :: t) hl (Nat.le_of_not_lt hc)
      rw [if_neg (by omega)] at h
      by_cases bad : (dcG (c :: t)).1 = 10 ∨ ((dcG (c :: t)).1 = 65533 ∧ (dcG (c :: t)).2 < 3)
      · rw [if_pos bad] at h; cases h
      · rw [if_neg bad, if_neg (by omega)] at h
        obtain ⟨z, hz, rfl⟩ := Option.map_eq_some_iff.1 h
        obtain ⟨⟨g, hg⟩, hv⟩ := ih _ z hz
        have hz1 := refT_len q g _ z hg
        refine ⟨⟨(dcG (c :: t)).2 + g, by rw [refT_high q hq _ g _ hb.2.1 k2, hg]; rfl⟩, ?_⟩
        show Lib.validD ((c :: t).take ((dcG (c :: t)).2 + z.2 - 1)) = true
        rw [show (dcG (c :: t)).2 + z.2 - 1 = (dcG (c :: t)).2 + (z.2 - 1) by omega, List.take_add, validD_rune _ _ hl (fun e => bad (Or.inr e))]
        exact hv
/-- by bytes and right UTF-8: then by runes -/
theorem ref_strG (q : Nat) (hq : q < 128) (_hq2 : q ≠ 10 ∧ q ≠ 92) (m : Nat) : ∀ (l : LxS) (g f : Nat) (x : LxS × Nat), l.length ≤ m → refT q g l = some x → Lib.validD (l.take (x.2 - 1)) = true → l.length < f → strG q f l = some x := by
  induction m with
  | zero =>
    intro l g f x hm h _ _
    obtain rfl : l = [] := List.eq_nil_of_length_eq_zero (by omega)
    have := refT_len q g [] x h
    simp only [List.length_nil] at this
    omega
  | succ m ih =>
    intro l g f x hm h hv hf
    obtain ⟨f, rfl⟩ : ∃ k, f = k + 1 := ⟨f - 1, by omega⟩
    obtain ⟨g, rfl⟩ : ∃ k, g = k + 1 := by cases g with | zero => cases h | succ g => exact ⟨g, rfl⟩
    cases l with
    | nil => cases h
    | cons c t =>
      have hl : c :: t ≠ [] := by simp
      have hlc : (c :: t).length = t.length + 1 := rfl
      by_cases hc : c.toNat < 128
      · rw [strG, dcG_asc c t hc]
        dsimp only
        rw [show (c :: t).drop 1 = t from rfl]
        rw [refT] at h
        by_cases c1 : c.toNat = q
        · rw [if_pos c1] at h ⊢
          obtain rfl := Option.some.inj h
          rfl
        · rw [if_neg c1] at h ⊢
          by_cases c2 : c.toNat = 10
          · rw [if_pos c2] at h; cases h
          · rw [if_neg c2] at h
            rw [if_neg (by omega)]
            by_cases c3 : c.toNat = 92
            · rw [if_pos c3] at h ⊢
              by_cases c4 : (escW t).2 = 0
              · rw [if_pos c4] at h; cases h
              · rw [if_neg c4] at h ⊢
                obtain ⟨z, hz, rfl⟩ := Option.map_eq_some_iff.1 h
                have hz1 := refT_len q g _ z hz
                have hv : Lib.validD ((c :: t).take (1 + (escW t).2 + z.2 - 1)) = true := hv
                rw [esc_valid c t z.2 hc c4 hz1.1] at hv
                rw [show (c :: t).drop (1 + (escW t).2) = t.drop (escW t).2 by rw [Nat.add_comm]; rfl, ih (t.drop (escW t).2) g f z (by rw [List.length_drop]; omega) hz hv (by rw [List.length_drop]; omega)]
                rfl
            · rw [if_neg c3] at h ⊢
              obtain ⟨z, hz, rfl⟩ := Option.map_eq_some_iff.1 h
              have hz1 := refT_len q g _ z hz
              obtain ⟨n, hn⟩ : ∃ n, z.2 = n + 1 := ⟨z.2 - 1, by omega⟩
              have hv : Lib.validD ((c :: t).take (1 + z.2 - 1)) = true := hv
              rw [show 1 + z.2 - 1 = n + 1 by omega, List.take_succ_cons, Lib.validD_cons _ _ hc] at hv
              rw [ih t g f z (by omega) hz (by rw [hn, Nat.add_sub_cancel]; exact hv) (by omega)]
              rfl
      · have hx2 := refT_len q (g + 1) (c :: t) x h
        have hx3 : 2 ≤ x.2 := by
          rw [refT, if_neg (by omega), if_neg (by omega), if_neg (by omega)] at h
          obtain ⟨z, hz, rfl⟩ := Option.map_eq_some_iff.1 h
          have := refT_len q g _ z hz
          show 2 ≤ 1 + z.2
          omega
        have hCl : ((c :: t).take (x.2 - 1)).length = x.2 - 1 := by rw [List.length_take]; omega
        have hCne : (c :: t).take (x.2 - 1) ≠ [] := by
          intro e
          rw [e] at hCl
          simp only [List.length_nil] at hCl
          omega
        obtain ⟨b1, b2⟩ := valid_dc _ hCne hv
        have hbC := dcG_bounds _ hCne
        have hdl : dcG (c :: t) = dcG ((c :: t).take (x.2 - 1)) := by
          have := dcG_more ((c :: t).take (x.2 - 1)) ((c :: t).drop (x.2 - 1)) hCne b1
          rwa [List.take_append_drop] at this
        rw [← hdl] at b1 b2 hbC
        obtain ⟨k1, k2⟩ := dc_high (c :: t) hl (Nat.le_of_not_lt hc)
        have hb := dcG_bounds (c :: t) hl
        have h2 := refT_mono q (g + 1) ((dcG (c :: t)).2 + (g + 1)) _ x (by omega) h
        rw [refT_high q hq _ _ _ hb.2.1 k2] at h2
        obtain ⟨z, hz, rfl⟩ := Option.map_eq_some_iff.1 h2
        have hz1 := refT_len q (g + 1) _ z hz
        rw [strG, if_neg (by omega), if_neg (by
          rintro (e | e)
          · omega
          · exact b1 e), if_neg (by omega)]
        have hv2 : Lib.validD (((c :: t).drop (dcG (c :: t)).2).take (z.2 - 1)) = true := by
          have e := b2
          rw [take_drop] at e
          rw [show z.2 - 1 = (dcG (c :: t)).2 + z.2 - 1 - (dcG (c :: t)).2 by omega]
          exact e
        rw [ih _ (g + 1) f z (by rw [List.length_drop]; omega) hz hv2 (by rw [List.length_drop]; omega)]
        rfl
end Go.Proofs.YtifjdfmmafbhkaaGreatDoor

/- LxDi -/
namespace Go.Proofs.YtifjdfmmafbhkaaGreatDoor
open Go.RowKit

theorem refT_fuel (q g : Nat) : ∀ (l : LxS) (f : Nat) (x : LxS × Nat), refT q g l = some x → l.length ≤ f → refT q f l = some x := by
  induction g with
  | zero => intro l f x h; cases h
  | succ g ih =>
    intro l f x h hf
    cases l with
    | nil => cases h
    | cons c t =>
      obtain ⟨f, rfl⟩ : ∃ k, f = k + 1 := ⟨f - 1, by simp only [List.length_cons] at hf; omega⟩
      simp only [List.length_cons] at hf
      rw [refT] at h ⊢
      by_cases c1 : c.toNat = q
      · rw [if_pos c1] at h ⊢; exact h
      · rw [if_neg c1] at h ⊢
        by_cases c2 : c.toNat = 10
        · rw [if_pos c2] at h; cases h
        · rw [if_neg c2] at h ⊢
          by_cases c3 : c.toNat = 92
          · rw [if_pos c3] at h ⊢
            by_cases c4 : (escW t).2 = 0
            · rw [if_pos c4] at h; cases h
            · rw [if_neg c4] at h ⊢
              obtain ⟨z, hz, rfl⟩ := Option.map_eq_some_iff.1 h
              rw [ih _ f z hz (by rw [List.length_drop]; omega)]
              rfl
          · rw [if_neg c3] at h ⊢
            obtain ⟨z, hz, rfl⟩ := Option.map_eq_some_iff.1 h
            rw [ih _ f z hz (by omega)]
            rfl
/-- a string at the head of a text, the document's way -/
def txW (l : LxS) : Option (LxS × Nat) := (refT (byN l 0) l.length (l.drop 1)).bind fun x => if Lib.validD ((l.drop 1).take (x.2 - 1)) = true then some (x.1, 1 + x.2) else none
theorem strW_ref (l : LxS) (hq : byN l 0 = 34 ∨ byN l 0 = 39) : strW l = txW l := by
  unfold strW txW
  cases hS : strG (byN l 0) (l.length + 1) (l.drop 1) with
  | some x =>
    obtain ⟨⟨g, hg⟩, hv⟩ := strG_ref _ (by omega) _ _ x hS
    rw [refT_fuel _ g _ l.length x hg (by rw [List.length_drop]; omega)]
    show some (x.1, 1 + x.2) = if Lib.validD ((l.drop 1).take (x.2 - 1)) = true then some (x.1, 1 + x.2) else none
    rw [if_pos hv]
  | none =>
    cases hR : refT (byN l 0) l.length (l.drop 1) with
    | none => rfl
    | some x =>
      show none = if Lib.validD ((l.drop 1).take (x.2 - 1)) = true then some (x.1, 1 + x.2) else none
      rw [if_neg]
      intro hv
      have := ref_strG (byN l 0) (by omega) (by omega) (l.drop 1).length (l.drop 1) l.length (l.length + 1) x (Nat.le_refl _) hR hv (by rw [List.length_drop]; omega)
      rw [hS] at this
      cases this
end Go.Proofs.YtifjdfmmafbhkaaGreatDoor
