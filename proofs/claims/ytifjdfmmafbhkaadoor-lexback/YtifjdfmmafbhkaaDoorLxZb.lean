/-
  A string in quotes is read as it was; tokens with blanks between them: words alone.
-/
import Derived.Test.YtifjdfmmafbhkaaDoorLxZa
import Derived.Test.YtifjdfmmafbhkaaDoorLxYb
namespace Go.Proofs.YtifjdfmmafbhkaaDoor
open Go.RowKit

theorem escW_hex (c : Nat) (r : LxS) (hc : c < 32 ∨ c = 127) : escW (120 :: hexd (c / 16) :: hexd (c % 16) :: r) = (c, 3) := by
  have key : ∀ c, c < 128 → (c < 32 ∨ c = 127) → (hxB (hexd (c / 16)).toNat = true ∧ hxB (hexd (c % 16)).toNat = true ∧ (hexd (c / 16)).toNat < 56) ∧ (if (hexd (c / 16)).toNat ≤ 57 then (hexd (c / 16)).toNat - 48 else if 97 ≤ (hexd (c / 16)).toNat then (hexd (c / 16)).toNat - 87 else (hexd (c / 16)).toNat - 55) * 16 + (if (hexd (c % 16)).toNat ≤ 57 then (hexd (c % 16)).toNat - 48 else if 97 ≤ (hexd (c % 16)).toNat then (hexd (c % 16)).toNat - 87 else (hexd (c % 16)).toNat - 55) = c := by decide
  obtain ⟨h1, h2⟩ := key c (by omega) hc
  unfold escW
  show (if (120 : Nat) = 120 then (if hxB (hexd (c / 16)).toNat = true ∧ hxB (hexd (c % 16)).toNat = true ∧ (hexd (c / 16)).toNat < 56 then (_, 3) else (0, 0)) else _) = _
  rw [if_pos rfl, if_pos h1]
  exact congrArg (fun x => (x, 3)) h2
theorem dcG_asc (c : UInt8) (t : LxS) (h : c.toNat < 128) : dcG (c :: t) = (c.toNat, 1) := dcG_lo (l := c :: t) (by simp) h
theorem strG_esc (f : Nat) (r : LxS) (s k : Nat) (he : escW r = (s, k)) (hk : k ≠ 0) : strG 34 (f + 1) (92 :: r) = (strG 34 f (r.drop k)).map fun x => (UInt8.ofNat s :: x.1, 1 + k + x.2) := by
  rw [strG, dcG_asc 92 r (by decide)]
  rw [if_neg (by decide), if_neg (by decide), if_pos (by decide)]
  have hd : (92 :: r).drop ((92 : UInt8).toNat, 1).snd = r := rfl
  rw [hd, he, if_neg hk]
  show (strG 34 f ((92 :: r).drop (1 + k))).map (fun x => (UInt8.ofNat s :: x.1, 1 + k + x.2)) = _
  rw [show (92 :: r).drop (1 + k) = r.drop k by rw [Nat.add_comm]; rfl]
theorem strG_plain (f : Nat) (c : UInt8) (t : LxS) (h : c.toNat < 128) (h1 : c.toNat ≠ 34) (h2 : c.toNat ≠ 10) (h3 : c.toNat ≠ 92) : strG 34 (f + 1) (c :: t) = (strG 34 f t).map fun x => (c :: x.1, 1 + x.2) := by
  rw [strG, dcG_asc c t h]
  rw [if_neg h1, if_neg (by rintro (e | ⟨e, -⟩) <;> dsimp only at e <;> omega), if_neg h3]
  rfl
theorem strG_qu (n : Nat) : ∀ (s : LxS) (f : Nat), s.length ≤ n → Lib.validD s = true → (quB s ++ [34]).length < f → strG 34 f (quB s ++ [34]) = some (s, (quB s).length + 1) := by
  induction n with
  | zero =>
    intro s f hs _ hf
    obtain rfl : s = [] := List.eq_nil_of_length_eq_zero (by omega)
    obtain ⟨f, rfl⟩ : ∃ g, f = g + 1 := ⟨f - 1, by omega⟩
    show strG 34 (f + 1) [34] = some ([], 1)
    rw [strG, dcG_asc 34 [] (by decide), if_pos (by decide)]
  | succ n ih =>
    intro s f hs hv hf
    obtain ⟨f, rfl⟩ : ∃ g, f = g + 1 := ⟨f - 1, by omega⟩
    cases s with
    | nil =>
      show strG 34 (f + 1) [34] = some ([], 1)
      rw [strG, dcG_asc 34 [] (by decide), if_pos (by decide)]
    | cons c t =>
      have hq : quB (c :: t) = qcB c.toNat ++ quB t := rfl
      by_cases hc : c.toNat < 128
      · rw [Lib.validD_cons c t hc] at hv
        have ht : t.length ≤ n := by simp only [List.length_cons] at hs; omega
        have hcu : UInt8.ofNat c.toNat = c := by simp
        rw [hq] at hf ⊢
        have hfl : (qcB c.toNat).length + (quB t ++ [34]).length < f + 1 := by simpa [List.length_append, Nat.add_assoc] using hf
        have H := fun g hg => ih t g ht hv hg
        have hone := (qcB_len c.toNat).1
        have esc : ∀ (r : LxS) (k : Nat), qcB c.toNat = 92 :: r → escW (r ++ (quB t ++ [34])) = (c.toNat, k) → k = r.length → k ≠ 0 → strG 34 (f + 1) (qcB c.toNat ++ quB t ++ [34]) = some (c :: t, (qcB c.toNat ++ quB t).length + 1) := by
          intro r k e1 e2 e3 e4
          rw [e1] at hfl ⊢
          simp only [List.length_cons] at hfl
          rw [List.append_assoc, List.cons_append, strG_esc f _ _ k e2 e4, e3, List.drop_left, H f (by omega)]
          simp only [Option.map_some, hcu, List.length_append, List.length_cons, Option.some.injEq, Prod.mk.injEq, true_and]
          omega
        by_cases c1 : c.toNat = 10
        · exact esc [110] 1 (by unfold qcB; rw [if_pos c1]) (by rw [c1]; rfl) rfl (by decide)
        by_cases c2 : c.toNat = 9
        · exact esc [116] 1 (by unfold qcB; rw [if_neg c1, if_pos c2]) (by rw [c2]; rfl) rfl (by decide)
        by_cases c3 : c.toNat = 13
        · exact esc [114] 1 (by unfold qcB; rw [if_neg c1, if_neg c2, if_pos c3]) (by rw [c3]; rfl) rfl (by decide)
        by_cases c4 : c.toNat < 32 ∨ c.toNat = 127
        · exact esc [120, hexd (c.toNat / 16), hexd (c.toNat % 16)] 3 (by unfold qcB; rw [if_neg c1, if_neg c2, if_neg c3, if_pos c4]) (escW_hex _ _ c4) rfl (by decide)
        by_cases c5 : c.toNat = 92 ∨ c.toNat = 34
        · refine esc [c] 1 (by unfold qcB; rw [if_neg c1, if_neg c2, if_neg c3, if_neg c4, if_pos c5, hcu]) ?_ rfl (by decide)
          unfold escW
          have hb : byN ([c] ++ (quB t ++ [34])) 0 = c.toNat := rfl
          rw [hb, if_neg (by omega), if_neg (by omega), if_neg (by omega), if_neg (by omega), if_pos (by omega)]
        · have e1 : qcB c.toNat = [c] := by unfold qcB; rw [if_neg c1, if_neg c2, if_neg c3, if_neg c4, if_neg c5, hcu]
          rw [e1] at hfl ⊢
          simp only [List.length_cons, List.length_nil] at hfl
          rw [List.append_assoc, List.singleton_append, strG_plain f c _ hc (by omega) c1 (by omega), H f (by omega)]
          simp only [Option.map_some, List.length_append, List.length_cons, List.length_nil, Option.some.injEq, Prod.mk.injEq, true_and]
          omega
      · have hne : c :: t ≠ [] := by simp
        have hst := hv
        rw [Lib.validD_step _ hne] at hst
        have hdc : dcG (c :: t) = Lib.decodeL (c :: t) := if_neg hne
        rw [← hdc] at hst
        by_cases bad : (dcG (c :: t)).1 = 65533 ∧ (dcG (c :: t)).2 = 1
        · rw [if_pos bad] at hst; cases hst
        rw [if_neg bad] at hst
        have hh := dec_hi (l := c :: t) (p := 0) (by simp) (show 128 ≤ byN (c :: t) 0 from Nat.le_of_not_lt hc)
        rw [dec_dcG (c :: t) 0 (by simp), List.drop_zero, ← hdc] at hh
        obtain ⟨h1, h2, h3, h4⟩ := hh
        have hwd : ¬ ((dcG (c :: t)).1 = 65533 ∧ (dcG (c :: t)).2 < 3) := by
          rintro ⟨e1, e2⟩
          have hen := Lib.encode_decode (c :: t) hne (by rw [← hdc]; exact bad)
          rw [← hdc, e1] at hen
          have := congrArg List.length hen
          rw [List.length_take, show (Lib.encodeRune ((65533 : Nat) : Int)).length = 3 by decide] at this
          omega
        generalize hd : dcG (c :: t) = d at *
        obtain ⟨r, w⟩ := d
        dsimp only at h1 h2 h3 h4 hst hwd
        have htk : quB ((c :: t).take w) = (c :: t).take w := quB_hi _ (fun j hj => by
          have hj2 : j < w := by rw [List.length_take] at hj; omega
          rw [byN_take, if_pos hj2]
          have := h4 j hj2
          rwa [Nat.zero_add] at this)
        have hsp : quB (c :: t) = (c :: t).take w ++ quB ((c :: t).drop w) := by
          conv => lhs; rw [← List.take_append_drop w (c :: t)]
          rw [quB_app, htk]
        have hlw : ((c :: t).take w).length = w := by rw [List.length_take]; omega
        have hdt : dcG ((c :: t).take w) = (r, w) := by
          have := dcG_take (c :: t) w hne (by rw [hd]; exact Nat.le_refl _) (by rw [hd]; exact hwd)
          rw [this, hd]
        have hnt : (c :: t).take w ≠ [] := by
          intro e
          rw [e] at hlw
          simp only [List.length_nil] at hlw
          omega
        have hda : dcG ((c :: t).take w ++ (quB ((c :: t).drop w) ++ [34])) = (r, w) := by rw [dcG_more _ _ hnt (by rw [hdt]; exact hwd), hdt]
        have hlen : ((c :: t).drop w).length ≤ n := by rw [List.length_drop]; omega
        rw [hsp] at hf ⊢
        have hfl : w + (quB ((c :: t).drop w) ++ [34]).length < f + 1 := by
          have := hf
          rw [List.append_assoc, List.length_append, hlw] at this
          exact this
        have hih := ih ((c :: t).drop w) f hlen hst (by omega)
        rw [List.append_assoc, strG, hda]
        rw [if_neg (by show ¬ r = 34; omega), if_neg (by rintro (e | e) <;> dsimp only at e <;> omega), if_neg (by show ¬ r = 92; omega)]
        show (strG 34 f (((c :: t).take w ++ (quB ((c :: t).drop w) ++ [34])).drop w)).map (fun x => (((c :: t).take w ++ (quB ((c :: t).drop w) ++ [34])).take w ++ x.1, w + x.2)) = _
        have e1 : ((c :: t).take w ++ (quB ((c :: t).drop w) ++ [34])).drop w = quB ((c :: t).drop w) ++ [34] := List.drop_left' hlw
        have e2 : ((c :: t).take w ++ (quB ((c :: t).drop w) ++ [34])).take w = (c :: t).take w := List.take_left' hlw
        rw [e1, e2, hih]
        simp only [Option.map_some, List.take_append_drop, List.length_append, hlw, Option.some.injEq, Prod.mk.injEq, true_and]
        omega
/-- a text in quotes is one token that says the text -/
theorem cutW_qu (s : LxS) (hv : Lib.validD s = true) : cutW (34 :: (quB s ++ [34])) = (4, s, (34 :: (quB s ++ [34])).length) := by
  have hs : strW (34 :: (quB s ++ [34])) = some (s, 1 + ((quB s).length + 1)) := by
    unfold strW
    show (strG 34 _ (quB s ++ [34])).map _ = _
    rw [strG_qu s.length s _ (Nat.le_refl _) hv (by simp only [List.length_cons]; omega)]
    rfl
  unfold cutW
  have hb : byN (34 :: (quB s ++ [34])) 0 = 34 := rfl
  rw [hb, if_neg (by decide), if_neg (by decide), if_pos (Or.inl rfl), hs]
  simp only [Option.map_some, Option.getD_some, List.length_cons, List.length_append, List.length_nil]
  congr 2
  omega
/-- the text is one token and nothing more -/
def Good (w : LxS) : Prop := w ≠ [] ∧ (cutW w).2.2 = w.length
theorem wrt_good (t : Tok) (h : (wrtW t).2 = true) : Good (wrtW t).1 ∧ (cutW (wrtW t).1).1 = t.1 ∧ (cutW (wrtW t).1).2.1 = t.2.1 := by
  unfold wrtW at h ⊢
  by_cases c : t.1 = 4
  · rw [if_pos c] at h ⊢
    have h : (quW t.2.1).2 = 0 := of_decide_eq_true h
    by_cases hv : Lib.validD t.2.1 = true
    · have e : (quW t.2.1).1 = 34 :: (quB t.2.1 ++ [34]) := by unfold quW; rw [if_pos hv]
      dsimp only
      rw [e]
      have hc := cutW_qu t.2.1 hv
      exact ⟨⟨by simp, by rw [hc]⟩, by rw [hc, c], by rw [hc]⟩
    · unfold quW at h
      rw [if_neg hv] at h
      cases h
  · rw [if_neg c] at h ⊢
    dsimp only at h ⊢
    unfold jusB at h
    simp only [Bool.and_eq_true, decide_eq_true_eq] at h
    obtain ⟨⟨h1, h2⟩, h3⟩ := h
    refine ⟨⟨?_, h2⟩, h3, ?_⟩
    · intro e
      rw [e] at h1 h2
      simp only [List.length_nil] at h2
      omega
    · have := (cutW_form t.2.1 (by omega)).2.2 (by rw [h3]; exact c)
      rw [this, h2, List.take_length]
theorem blN_good (w x : LxS) (h : Good w) : blN false (w ++ x) = 0 := by
  obtain ⟨h0, h1⟩ := h
  cases w with
  | nil => exact absurd rfl h0
  | cons c t =>
    have key : ¬ (c.toNat = 10 ∨ c.toNat = 32 ∨ c.toNat = 9 ∨ c.toNat = 13 ∨ c.toNat = 35) := by
      intro hc
      have hz : (cutW (c :: t)).2.2 = 0 := by
        unfold cutW
        have hb : byN (c :: t) 0 = c.toNat := rfl
        rw [hb]
        have h2 : sgnW (c :: t) = 0 := by
          unfold sgnW
          rw [hb]
          have a1 : sg2 c.toNat (byN (c :: t) 1) = false := by
            unfold sg2
            rcases hc with e | e | e | e | e <;> rw [e] <;> simp
          have a2 : sgB c.toNat = false := by rcases hc with e | e | e | e | e <;> rw [e] <;> decide
          rw [a1, a2]
          rfl
        have b1 : wdB c.toNat = false := by rcases hc with e | e | e | e | e <;> rw [e] <;> decide
        have b2 : dgB c.toNat = false := by rcases hc with e | e | e | e | e <;> rw [e] <;> decide
        rw [b1, b2, if_neg (by simp), if_neg (by simp; omega), if_neg (by omega)]
        exact h2
      rw [hz] at h1
      simp at h1
    show blN false (c :: (t ++ x)) = 0
    unfold blN
    rw [if_neg (by rw [show (10 : UInt8) = UInt8.ofNat 10 from rfl, u8_eq (by decide)]; omega), if_neg (by decide), if_neg (by
      rw [show (32 : UInt8) = UInt8.ofNat 32 from rfl, show (9 : UInt8) = UInt8.ofNat 9 from rfl, show (13 : UInt8) = UInt8.ofNat 13 from rfl, u8_eq (by decide), u8_eq (by decide), u8_eq (by decide)]; omega), if_neg (by rw [show (35 : UInt8) = UInt8.ofNat 35 from rfl, u8_eq (by decide)]; omega)]
/-- tokens, each with what stands behind it -/
def gapT (P : List (LxS × LxS)) : LxS := P.flatMap fun x => x.1 ++ x.2
def gapK : Nat → List (LxS × LxS) → List Tok
  | p, [] => [(0, [], (p : Int))]
  | p, x :: P => ((cutW x.1).1, (cutW x.1).2.1, (p : Int)) :: gapK (p + (x.1.length + x.2.length)) P
/-- nothing but blanks and whole remarks -/
def Blank (g : LxS) : Prop := ∀ rest, blN false (g ++ rest) = g.length + blN false rest
def GapOk : List (LxS × LxS) → Prop
  | [] => True
  | x :: P => Good x.1 ∧ Blank x.2 ∧ ((P = [] ∧ x.2 = []) ∨ ∃ g, x.2 = 32 :: g) ∧ GapOk P
theorem gapT_cons (x : LxS × LxS) (P : List (LxS × LxS)) : gapT (x :: P) = x.1 ++ (x.2 ++ gapT P) := by unfold gapT; rw [List.flatMap_cons, List.append_assoc]
theorem gapT_app (P Q : List (LxS × LxS)) : gapT (P ++ Q) = gapT P ++ gapT Q := List.flatMap_append
theorem gapT_blank (P : List (LxS × LxS)) (h : GapOk P) : blN false (gapT P) = 0 := by
  cases P with
  | nil => rfl
  | cons x P =>
    rw [gapT_cons]
    exact blN_good _ _ h.1
theorem gap_toks (P : List (LxS × LxS)) : ∀ (f p : Nat), GapOk P → (gapT P).length < f → tokR f (gapT P) p = some (gapK p P) := by
  induction P with
  | nil =>
    intro f p _ hf
    obtain ⟨f, rfl⟩ : ∃ g, f = g + 1 := ⟨f - 1, by omega⟩
    rfl
  | cons x P ih =>
    intro f p h hf
    obtain ⟨f, rfl⟩ : ∃ g, f = g + 1 := ⟨f - 1, by omega⟩
    obtain ⟨h1, h2, h3, h4⟩ := h
    obtain ⟨w, g⟩ := x
    dsimp only at h1 h2 h3
    have hw : 0 < w.length := List.length_pos_iff.2 h1.1
    have hne : gapT ((w, g) :: P) ≠ [] := by rw [gapT_cons]; simp [h1.1]
    have hcut : cutW (gapT ((w, g) :: P)) = cutW w := by
      rw [gapT_cons]
      rcases h3 with ⟨e1, e2⟩ | ⟨g', e⟩
      · rw [e1, e2]
        show cutW (w ++ ([] ++ [])) = cutW w
        rw [List.append_nil, List.append_nil]
      · dsimp only
        rw [e, List.cons_append]
        exact cutW_blank w _ h1.2 h1.1
    have hst : stpN (gapT ((w, g) :: P)) = w.length + g.length := by
      unfold stpN
      rw [hcut, h1.2, gapT_cons]
      dsimp only
      rw [List.drop_left, h2, gapT_blank P h4, Nat.add_zero]
    have hdr : (gapT ((w, g) :: P)).drop (w.length + g.length) = gapT P := by
      rw [gapT_cons]
      dsimp only
      rw [← List.append_assoc]
      exact List.drop_left' (by rw [List.length_append])
    rw [tokR, if_neg hne, hst, hcut, if_neg (by rw [h1.2]; omega), hdr, ih f _ h4 (by
      rw [gapT_cons, List.length_append, List.length_append] at hf
      dsimp only at hf
      omega)]
    rfl
theorem gapK_len (P : List (LxS × LxS)) : ∀ p, (gapK p P).length = P.length + 1 := by
  induction P with
  | nil => intro p; rfl
  | cons x P ih => intro p; show (gapK _ P).length + 1 = _; rw [ih, List.length_cons]
theorem gapW (P : List (LxS × LxS)) (h : GapOk P) (h1 : (gapT P).length ≤ 65536) (h2 : P.length + 1 ≤ 4096) : tokW (gapT P) = (gapK 0 P, 0, 0) := by
  refine tokW_of _ _ h1 (by rw [gapK_len]; exact h2) ?_
  rw [gapT_blank P h, List.drop_zero]
  exact gap_toks P _ 0 h (Nat.lt_succ_self _)
end Go.Proofs.YtifjdfmmafbhkaaDoor
