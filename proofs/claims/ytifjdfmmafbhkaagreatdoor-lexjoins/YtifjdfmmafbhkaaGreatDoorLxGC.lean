/-
  LxZb, LxZc, LxBc, LxBe, in one text.
-/
import Derived.Test.YtifjdfmmafbhkaaGreatDoorLxZa
import Derived.Test.YtifjdfmmafbhkaaGreatDoorLxGB
import Derived.Test.YtifjdfmmafbhkaaGreatDoorLxV
import Derived.Lib.ItoaNum
import Derived.Lib.ItoaMem
import Derived.Lib.ItoaLen
/- LxZb -/
namespace Go.Proofs.YtifjdfmmafbhkaaGreatDoor
open Go.RowKit

theorem escW_hex (c : Nat) (r : LxS) (hc : c < 32 ∨ c = 127) : escW (120 :: hexd (c / 16) :: hexd (c % 16) :: r) = (c, 3) := by
  have key : ∀ c, c < 128 → (c < 32 ∨ c = 127) → (hxB (hexd (c / 16)).toNat = true ∧ hxB (hexd (c % 16)).toNat = true ∧ (hexd (c / 16)).toNat < 56) ∧ (if (hexd (c / 16)).toNat ≤ 57 then (hexd (c / 16)).toNat - 48 else if 97 ≤ (hexd (c / 16)).toNat then (hexd (c / 16)).toNat - 87 else (hexd (c / 16)).toNat - 55) * 16 + (if (hexd (c % 16)).toNat ≤ 57 then (hexd (c % 16)).toNat - 48 else if 97 ≤ (hexd (c % 16)).toNat then (hexd (c % 16)).toNat - 87 else (hexd (c % 16)).toNat - 55) = c := by decide
  obtain ⟨h1, h2⟩ := key c (by omega) hc
  unfold escW
  show (if (120 : Nat) = 120 then (if hxB (hexd (c / 16)).toNat = true ∧ hxB (hexd (c % 16)).toNat = true ∧ (hexd (c / 16)).toNat < 56 then (_, 3) else (0, 0)) else _) = _
  rw [if_pos rfl, if_pos h1]
  exact congrArg (fun x => (x, 3)) h2
theorem dcG_asc (c : UInt8) (t : LxS) (h : c.toNat < 128) : dcG (c :: t) = (c.toNat, 1) := dcG_lo (l := c :: t) (by simp) h
theorem strG_esc (f : Nat) (r : LxS) (s k : Nat) (he : escW r = (s, k)) (hk : k ≠ 0) : strG 34 (f + 1) (92 :: r) = (strG 34 f (r.drop k)).map fun x => (UInt8.ofNat s :: x.1, 1 + k + x.2) := by
  rw [strG, dcG_asc 92 r (by decide)]
  rw [if_neg (by decide), if_neg (by decide), if_pos (by decide)]
  have hd : (92 :: r).drop ((92 : UInt8).toNat, 1).snd = r := rfl
  rw [hd, he, if_neg hk]
  show (strG 34 f ((92 :: r).drop (1 + k))).map (fun x => (UInt8.ofNat s :: x.1, 1 + k + x.2)) = _
  rw [show (92 :: r).drop (1 + k) = r.drop k by rw [Nat.add_comm]; rfl]
theorem strG_plain (f : Nat) (c : UInt8) (t : LxS) (h : c.toNat < 128) (h1 : c.toNat ≠ 34) (h2 : c.toNat ≠ 10) (h3 : c.toNat ≠ 92) : strG 34 (f + 1) (c :: t) = (strG 34 f t).map fun x => (c :: x.1, 1 + x.2) := by
  rw [strG, dcG_asc c t h]
  rw [if_neg h1, if_neg (by rintro (e | ⟨e, -⟩) <;> dsimp only at e <;> omega), if_neg h3]
  rfl
theorem strG_qu (n : Nat) : ∀ (s : LxS) (f : Nat), s.length ≤ n → Lib.validD s = true → (quB s ++ [34]).length < f → strG 34 f (quB s ++ [34]) = some (s, (quB s).length + 1) := by
  induction n with
  | zero =>
    intro s f hs _ hf
    obtain rfl : s = [] := List.eq_nil_of_length_eq_zero (by omega)
    obtain ⟨f, rfl⟩ : ∃ g, f = g + 1 := ⟨f - 1, by omega⟩
    show strG 34 (f + 1) [34] = some ([], 1)
    rw [strG, dcG_asc 34 [] (by decide), if_pos (by decide)]
  | succ n ih =>
    intro s f hs hv hf
    obtain ⟨f, rfl⟩ : ∃ g, f = g + 1 := ⟨f - 1, by omega⟩
    cases s with
    | nil =>
      show strG 34 (f + 1) [34] = some ([], 1)
      rw [strG, dcG_asc 34 [] (by decide), if_pos (by decide)]
    | cons c t =>
      have hq : quB (c :: t) = qcB c.toNat ++ quB t := rfl
      by_cases hc : c.toNat < 128
      · rw [Lib.validD_cons c t hc] at hv
        have ht : t.length ≤ n := by simp only [List.length_cons] at hs; omega
        have hcu : UInt8.ofNat c.toNat = c := by simp
        rw [hq] at hf ⊢
        have hfl : (qcB c.toNat).length + (quB t ++ [34]).length < f + 1 := by simpa [List.length_append, Nat.add_assoc] using hf
        have H := fun g hg => ih t g ht hv hg
        have hone := (qcB_len c.toNat).1
        have esc : ∀ (r : LxS) (k : Nat), qcB c.toNat = 92 :: r → escW (r ++ (quB t ++ [34])) = (c.toNat, k) → k = r.length → k ≠ 0 → strG 34 (f + 1) (qcB c.toNat ++ quB t ++ [34]) = some (c :: t, (qcB c.toNat ++ quB t).length + 1) := by
          intro r k e1 e2 e3 e4
          rw [e1] at hfl ⊢
          simp only [List.length_cons] at hfl
          rw [List.append_assoc, List.cons_append, strG_esc f _ _ k e2 e4, e3, List.drop_left, H f (by omega)]
          simp only [Option.map_some, hcu, List.length_append, List.length_cons, Option.some.injEq, Prod.mk.injEq, true_and]
          omega
        by_cases c1 : c.toNat = 10
        · exact esc [110] 1 (by unfold qcB; rw [if_pos c1]) (by rw [c1]; rfl) rfl (by decide)
        by_cases c2 : c.toNat = 9
        · exact esc [116] 1 (by unfold qcB; rw [if_neg c1, if_pos c2]) (by rw [c2]; rfl) rfl (by decide)
        by_cases c3 : c.toNat = 13
        · exact esc [114] 1 (by unfold qcB; rw [if_neg c1, if_neg c2, if_pos c3]) (by rw [c3]; rfl) rfl (by decide)
        by_cases c4 : c.toNat < 32 ∨ c.toNat = 127
        · exact esc [120, hexd (c.toNat / 16), hexd (c.toNat % 16)] 3 (by unfold qcB; rw [if_neg c1, if_neg c2, if_neg c3, if_pos c4]) (escW_hex _ _ c4) rfl (by decide)
        by_cases c5 : c.toNat = 92 ∨ c.toNat = 34
        · refine esc [c] 1 (by unfold qcB; rw [if_neg c1, if_neg c2, if_neg c3, if_neg c4, if_pos c5, hcu]) ?_ rfl (by decide)
          unfold escW
          have hb : byN ([c] ++ (quB t ++ [34])) 0 = c.toNat := rfl
          rw [hb, if_neg (by omega), if_neg (by omega), if_neg (by omega), if_neg (by omega), if_pos (by omega)]
        · have e1 : qcB c.toNat = [c] := by unfold qcB; rw [if_neg c1, if_neg c2, if_neg c3, if_neg c4, if_neg c5, hcu]
          rw [e1] at hfl ⊢
          simp only [List.length_cons, List.length_nil] at hfl
          rw [List.append_assoc, List.singleton_append, strG_plain f c _ hc (by omega) c1 (by omega), H f (by omega)]
          simp only [Option.map_some, List.length_append, List.length_cons, List.length_nil, Option.some.injEq, Prod.mk.injEq, true_and]
          omega
      · have hne : c :: t ≠ [] := by simp
        have hst := hv
        rw [Lib.validD_step _ hne] at hst
        have hdc : dcG (c :: t) = Lib.decodeL (c :: t) := if_neg hne
        rw [← hdc] at hst
        by_cases bad : (dcG (c :: t)).1 = 65533 ∧ (dcG (c :: t)).2 = 1
        · rw [if_pos bad] at hst; cases hst
        rw [if_neg bad] at hst
        have hh := dec_hi (l := c :: t) (p := 0) (by simp) (show 128 ≤ byN (c :: t) 0 from Nat.le_of_not_lt hc)
        rw [dec_dcG (c :: t) 0 (by simp), List.drop_zero, ← hdc] at hh
        obtain ⟨h1, h2, h3, h4⟩ := hh
        have hwd : ¬ ((dcG (c :: t)).1 = 65533 ∧ (dcG (c :: t)).2 < 3) := by
          rintro ⟨e1, e2⟩
          have hen := Lib.encode_decode (c :: t) hne (by rw [← hdc]; exact bad)
          rw [← hdc, e1] at hen
          have := congrArg List.length hen
          rw [List.length_take, show (Lib.encodeRune ((65533 : Nat) : Int)).length = 3 by decide] at this
          omega
        generalize hd : dcG (c :: t) = d at *
        obtain ⟨r, w⟩ := d
        dsimp only at h1 h2 h3 h4 hst hwd
        have htk : quB ((c :: t).take w) = (c :: t).take w := quB_hi _ (fun j hj => by
          have hj2 : j < w := by rw [List.length_take] at hj; omega
          rw [byN_take, if_pos hj2]
          have := h4 j hj2
          rwa [Nat.zero_add] at this)
        have hsp : quB (c :: t) = (c :: t).take w ++ quB ((c :: t).drop w) := by
          conv => lhs; rw [← List.take_append_drop w (c :: t)]
          rw [quB_app, htk]
        have hlw : ((c :: t).take w).length = w := by rw [List.length_take]; omega
        have hdt : dcG ((c :: t).take w) = (r, w) := by
          have := dcG_take (c :: t) w hne (by rw [hd]; exact Nat.le_refl _) (by rw [hd]; exact hwd)
          rw [this, hd]
        have hnt : (c :: t).take w ≠ [] := by
          intro e
          rw [e] at hlw
          simp only [List.length_nil] at hlw
          omega
        have hda : dcG ((c :: t).take w ++ (quB ((c :: t).drop w) ++ [34])) = (r, w) := by rw [dcG_more _ _ hnt (by rw [hdt]; exact hwd), hdt]
        have hlen : ((c :: t).drop w).length ≤ n := by rw [List.length_drop]; omega
        rw [hsp] at hf ⊢
        have hfl : w + (quB ((c :: t).drop w) ++ [34]).length < f + 1 := by
          have := hf
          rw [List.append_assoc, List.length_append, hlw] at this
          exact this
        have hih := ih ((c :: t).drop w) f hlen hst (by omega)
        rw [List.append_assoc, strG, hda]
        rw [if_neg (by show ¬ r = 34; omega), if_neg (by rintro (e | e) <;> dsimp only at e <;> omega), if_neg (by show ¬ r = 92; omega)]
        show (strG 34 f (((c :: t).take w ++ (quB ((c :: t).drop w) ++ [34])).drop w)).map (fun x => (((c :: t).take w ++ (quB ((c :: t).drop w) ++ [34])).take w ++ x.1, w + x.2)) = _
        have e1 : ((c :: t).take w ++ (quB ((c :: t).drop w) ++ [34])).drop w = quB ((c :: t).drop w) ++ [34] := List.drop_left' hlw
        have e2 : ((c :: t).take w ++ (quB ((c :: t).drop w) ++ [34])).take w = (c :: t).take w := List.take_left' hlw
        rw [e1, e2, hih]
        simp only [Option.map_some, List.take_append_drop, List.length_append, hlw, Option.some.injEq, Prod.mk.injEq, true_and]
        omega
/-- a text in quotes is one token that says the text -/
theorem cutW_qu (s : LxS) (hv : Lib.validD s = true) : cutW (34 :: (quB s ++ [34])) = (4, s, (34 :: (quB s ++ [34])).length) := by
  have hs : strW (34 :: (quB s ++ [34])) = some (s, 1 + ((quB s).length + 1)) := by
    unfold strW
    show (strG 34 _ (quB s ++ [34])).map _ = _
    rw [strG_qu s.length s _ (Nat.le_refl _) hv (by simp only [List.length_cons]; omega)]
    rfl
  unfold cutW
  have hb : byN (34 :: (quB s ++ [34])) 0 = 34 := rfl
  rw [hb, if_neg (by decide), if_neg (by decide), if_pos (Or.inl rfl), hs]
  simp only [Option.map_some, Option.getD_some, List.length_cons, List.length_append, List.length_nil]
  congr 2
  omega
/-- the text is one token and nothing more -/
def Good (w : LxS) : Prop := w ≠ [] ∧ (cutW w).2.2 = w.length
theorem wrt_good (t : Tok) (h : (wrtW t).2 = true) : Good (wrtW t).1 ∧ (cutW (wrtW t).1).1 = t.1 ∧ (cutW (wrtW t).1).2.1 = t.2.1 := by
  unfold wrtW at h ⊢
  by_cases c : t.1 = 4
  · rw [if_pos c] at h ⊢
    have h : (quW t.2.1).2 = 0 := of_decide_eq_true h
    by_cases hv : Lib.validD t.2.1 = true
    · have e : (quW t.2.1).1 = 34 :: (quB t.2.1 ++ [34]) := by unfold quW; rw [if_pos hv]
      dsimp only
      rw [e]
      have hc := cutW_qu t.2.1 hv
      exact ⟨⟨by simp, by rw [hc]⟩, by rw [hc, c], by rw [hc]⟩
    · unfold quW at h
      rw [if_neg hv] at h
      cases h
  · rw [if_neg c] at h ⊢
    dsimp only at h ⊢
    unfold jusB at h
    simp only [Bool.and_eq_true, decide_eq_true_eq] at h
    obtain ⟨⟨h1, h2⟩, h3⟩ := h
    refine ⟨⟨?_, h2⟩, h3, ?_⟩
    · intro e
      rw [e] at h1 h2
      simp only [List.length_nil] at h2
      omega
    · have := (cutW_form t.2.1 (by omega)).2.2 (by rw [h3]; exact c)
      rw [this, h2, List.take_length]
theorem blN_good (w x : LxS) (h : Good w) : blN false (w ++ x) = 0 := by
  obtain ⟨h0, h1⟩ := h
  cases w with
  | nil => exact absurd rfl h0
  | cons c t =>
    have key : ¬ (c.toNat = 10 ∨ c.toNat = 32 ∨ c.toNat = 9 ∨ c.toNat = 13 ∨ c.toNat = 35) := by
      intro hc
      have hz : (cutW (c :: t)).2.2 = 0 := by
        unfold cutW
        have hb : byN (c :: t) 0 = c.toNat := rfl
        rw [hb]
        have h2 : sgnW (c :: t) = 0 := by
          unfold sgnW
          rw [hb]
          have a1 : sg2 c.toNat (byN (c :: t) 1) = false := by
            unfold sg2
            rcases hc with e | e | e | e | e <;> rw [e] <;> simp
          have a2 : sgB c.toNat = false := by rcases hc with e | e | e | e | e <;> rw [e] <;> decide
          rw [a1, a2]
          rfl
        have b1 : wdB c.toNat = false := by rcases hc with e | e | e | e | e <;> rw [e] <;> decide
        have b2 : dgB c.toNat = false := by rcases hc with e | e | e | e | e <;> rw [e] <;> decide
        rw [b1, b2, if_neg (by simp), if_neg (by simp; omega), if_neg (by omega)]
        exact h2
      rw [hz] at h1
      simp at h1
    show blN false (c :: (t ++ x)) = 0
    unfold blN
    rw [if_neg (by rw [show (10 : UInt8) = UInt8.ofNat 10 from rfl, u8_eq (by decide)]; omega), if_neg (by decide), if_neg (by
      rw [show (32 : UInt8) = UInt8.ofNat 32 from rfl, show (9 : UInt8) = UInt8.ofNat 9 from rfl, show (13 : UInt8) = UInt8.ofNat 13 from rfl, u8_eq (by decide), u8_eq (by decide), u8_eq (by decide)]; omega), if_neg (by rw [show (35 : UInt8) = UInt8.ofNat 35 from rfl, u8_eq (by decide)]; omega)]
/-- tokens, each with what stands behind it -/
def gapT (P : List (LxS × LxS)) : LxS := P.flatMap fun x => x.1 ++ x.2
def gapK : Nat → List (LxS × LxS) → List Tok
  | p, [] => [(0, [], (p : Int))]
  | p, x :: P => ((cutW x.1).1, (cutW x.1).2.1, (p : Int)) :: gapK (p + (x.1.length + x.2.length)) P
/-- nothing but blanks and whole remarks -/
def Blank (g : LxS) : Prop := ∀ rest, blN false (g ++ rest) = g.length + blN false rest
def GapOk : List (LxS × LxS) → Prop
  | [] => True
  | x :: P => Good x.1 ∧ Blank x.2 ∧ ((P = [] ∧ x.2 = []) ∨ ∃ g, x.2 = 32 :: g) ∧ GapOk P
theorem gapT_cons (x : LxS × LxS) (P : List (LxS × LxS)) : gapT (x :: P) = x.1 ++ (x.2 ++ gapT P) := by unfold gapT; rw [List.flatMap_cons, List.append_assoc]
theorem gapT_app (P Q : List (LxS × LxS)) : gapT (P ++ Q) = gapT P ++ gapT Q := List.flatMap_append
theorem gapT_blank (P : List (LxS × LxS)) (h : GapOk P) : blN false (gapT P) = 0 := by
  cases P with
  | nil => rfl
  | cons x P =>
    rw [gapT_cons]
    exact blN_good _ _ h.1
theorem gap_toks (P : List (LxS × LxS)) : ∀ (f p : Nat), GapOk P → (gapT P).length < f → tokR f (gapT P) p = some (gapK p P) := by
  induction P with
  | nil =>
    intro f p _ hf
    obtain ⟨f, rfl⟩ : ∃ g, f = g + 1 := ⟨f - 1, by omega⟩
    rfl
  | cons x P ih =>
    intro f p h hf
    obtain ⟨f, rfl⟩ : ∃ g, f = g + 1 := ⟨f - 1, by omega⟩
    obtain ⟨h1, h2, h3, h4⟩ := h
    obtain ⟨w, g⟩ := x
    dsimp only at h1 h2 h3
    have hw : 0 < w.length := List.length_pos_iff.2 h1.1
    have hne : gapT ((w, g) :: P) ≠ [] := by rw [gapT_cons]; simp [h1.1]
    have hcut : cutW (gapT ((w, g) :: P)) = cutW w := by
      rw [gapT_cons]
      rcases h3 with ⟨e1, e2⟩ | ⟨g', e⟩
      · rw [e1, e2]
        show cutW (w ++ ([] ++ [])) = cutW w
        rw [List.append_nil, List.append_nil]
      · dsimp only
        rw [e, List.cons_append]
        exact cutW_blank w _ h1.2 h1.1
    have hst : stpN (gapT ((w, g) :: P)) = w.length + g.length := by
      unfold stpN
      rw [hcut, h1.2, gapT_cons]
      dsimp only
      rw [List.drop_left, h2, gapT_blank P h4, Nat.add_zero]
    have hdr : (gapT ((w, g) :: P)).drop (w.length + g.length) = gapT P := by
      rw [gapT_cons]
      dsimp only
      rw [← List.append_assoc]
      exact List.drop_left' (by rw [List.length_append])
    rw [tokR, if_neg hne, hst, hcut, if_neg (by rw [h1.2]; omega), hdr, ih f _ h4 (by
      rw [gapT_cons, List.length_append, List.length_append] at hf
      dsimp only at hf
      omega)]
    rfl
theorem gapK_len (P : List (LxS × LxS)) : ∀ p, (gapK p P).length = P.length + 1 := by
  induction P with
  | nil => intro p; rfl
  | cons x P ih => intro p; show (gapK _ P).length + 1 = _; rw [ih, List.length_cons]
theorem gapW (P : List (LxS × LxS)) (h : GapOk P) (h1 : (gapT P).length ≤ 65536) (h2 : P.length + 1 ≤ 4096) : tokW (gapT P) = (gapK 0 P, 0, 0) := by
  refine tokW_of _ _ h1 (by rw [gapK_len]; exact h2) ?_
  rw [gapT_blank P h, List.drop_zero]
  exact gap_toks P _ 0 h (Nat.lt_succ_self _)
end Go.Proofs.YtifjdfmmafbhkaaGreatDoor

/- LxZc -/
namespace Go.Proofs.YtifjdfmmafbhkaaGreatDoor
open Go.RowKit

theorem Blank.nil : Blank [] := fun rest => by simp
theorem Blank.app {a b : LxS} (h : Blank a) (k : Blank b) : Blank (a ++ b) := fun rest => by
  rw [List.append_assoc, h, k, List.length_append]
  omega
theorem blank32 : Blank [32] := fun rest => by
  simp [blN]
/-- one blank between two -/
def spc : List LxS → List (LxS × LxS)
  | [] => []
  | [w] => [(w, [])]
  | w :: v :: ws => (w, [32]) :: spc (v :: ws)
theorem spc_len (ws : List LxS) : (spc ws).length = ws.length := by
  induction ws with
  | nil => rfl
  | cons w ws ih =>
    cases ws with
    | nil => rfl
    | cons v ws => show (spc (v :: ws)).length + 1 = (v :: ws).length + 1; rw [ih]
theorem spc_join (ws : List LxS) : Lib.join ws [32] = gapT (spc ws) := by
  induction ws with
  | nil => rfl
  | cons w ws ih =>
    cases ws with
    | nil => rw [Lib.join_one]; show w = w ++ [] ++ []; simp
    | cons v ws =>
      show _ = gapT ((w, [32]) :: spc (v :: ws))
      rw [gapT_cons, ← ih, Lib.join_cons, Lib.join_cons]
      simp [Lib.joinTail]
theorem spc_ok (ws : List LxS) (h : ∀ w ∈ ws, Good w) : GapOk (spc ws) := by
  induction ws with
  | nil => exact trivial
  | cons w ws ih =>
    cases ws with
    | nil => exact ⟨h w (by simp), Blank.nil, Or.inl ⟨rfl, rfl⟩, trivial⟩
    | cons v ws => exact ⟨h w (by simp), blank32, Or.inr ⟨[], rfl⟩, ih (fun x hx => h x (by simp [hx]))⟩
/-- more blanks behind each token -/
def addG (e : Nat → LxS) : Nat → List (LxS × LxS) → List (LxS × LxS)
  | _, [] => []
  | i, x :: P => (x.1, x.2 ++ e i) :: addG e (i + 1) P
theorem addG_len (e : Nat → LxS) (P : List (LxS × LxS)) : ∀ i, (addG e i P).length = P.length := by
  induction P with
  | nil => intro i; rfl
  | cons x P ih => intro i; show (addG e (i + 1) P).length + 1 = _; rw [ih, List.length_cons]
theorem addG_app (e : Nat → LxS) (P Q : List (LxS × LxS)) : ∀ i, addG e i (P ++ Q) = addG e i P ++ addG e (i + P.length) Q := by
  induction P with
  | nil => intro i; rfl
  | cons x P ih =>
    intro i
    show _ :: addG e (i + 1) (P ++ Q) = _ :: (addG e (i + 1) P ++ _)
    rw [ih, List.length_cons, Nat.add_right_comm, Nat.add_assoc i]
theorem addG_ok (e : Nat → LxS) (he : ∀ i, Blank (e i) ∧ ∃ g, e i = 32 :: g) (P : List (LxS × LxS)) : ∀ i, GapOk P → GapOk (addG e i P) := by
  induction P with
  | nil => intro i _; exact trivial
  | cons x P ih =>
    intro i h
    obtain ⟨h1, h2, h3, h4⟩ := h
    obtain ⟨g, hg⟩ := (he i).2
    refine ⟨h1, h2.app (he i).1, Or.inr ?_, ih (i + 1) h4⟩
    rcases h3 with ⟨-, e2⟩ | ⟨g', e2⟩
    · exact ⟨g, by dsimp only; rw [e2, List.nil_append, hg]⟩
    · exact ⟨g' ++ e i, by dsimp only; rw [e2, List.cons_append]⟩
theorem addG_same (e : Nat → LxS) (P : List (LxS × LxS)) : ∀ i p q, sameB (gapK p (addG e i P)) (gapK q P) = true := by
  induction P with
  | nil => intro i p q; rfl
  | cons x P ih =>
    intro i p q
    show (tkEq _ _ && sameB (gapK _ (addG e (i + 1) P)) (gapK _ P)) = true
    rw [ih]
    simp [tkEq]
theorem gapT_step (P : List (LxS × LxS)) (i : Nat) (h : i < P.length) : gapT (P.take (i + 1)) = gapT (P.take i) ++ ((P.getD i ([], [])).1 ++ (P.getD i ([], [])).2) := by
  rw [List.take_succ_eq_append_getElem h, gapT_app, gapT_cons]
  simp [gapT, List.getD, List.getElem?_eq_getElem h]
theorem addG_step (e : Nat → LxS) (P : List (LxS × LxS)) (i : Nat) (h : i < P.length) : gapT (addG e 0 (P.take (i + 1))) = gapT (addG e 0 (P.take i)) ++ ((P.getD i ([], [])).1 ++ (P.getD i ([], [])).2) ++ e i := by
  rw [List.take_succ_eq_append_getElem h, addG_app, gapT_app]
  have hl : (P.take i).length = i := by rw [List.length_take]; omega
  rw [hl]
  show _ ++ gapT [(P[i].1, P[i].2 ++ e (0 + i))] = _
  rw [gapT_cons]
  simp [gapT, List.getD, List.getElem?_eq_getElem h]
/-- where a token stands -/
theorem gapK_at (P : List (LxS × LxS)) : ∀ (i p : Nat), i ≤ P.length → ((gapK p P).getD i tkD).2.2 = ((p + (gapT (P.take i)).length : Nat) : Int) := by
  induction P with
  | nil =>
    intro i p h
    obtain rfl : i = 0 := by simpa using h
    rfl
  | cons x P ih =>
    intro i p h
    cases i with
    | zero => rfl
    | succ i =>
      show ((gapK (p + (x.1.length + x.2.length)) P).getD i tkD).2.2 = _
      rw [ih i _ (by simpa using h), List.take_succ_cons, gapT_cons, List.length_append, List.length_append]
      congr 1
      omega
theorem gapT_sub (P : List (LxS × LxS)) (i : Nat) (h : i < P.length) : (gapT P).extract (gapT (P.take i)).length (gapT (P.take (i + 1))).length = (P.getD i ([], [])).1 ++ (P.getD i ([], [])).2 := by
  have e : gapT P = gapT (P.take (i + 1)) ++ gapT (P.drop (i + 1)) := by rw [← gapT_app, List.take_append_drop]
  rw [List.extract_eq_take_drop]
  conv => lhs; rw [e, gapT_step P i h, List.append_assoc, List.drop_left]
  rw [List.length_append, Nat.add_sub_cancel_left]
  exact List.take_left
theorem gapT_mono (P : List (LxS × LxS)) (i : Nat) : (gapT (P.take i)).length ≤ (gapT P).length := by
  have e : gapT P = gapT (P.take i) ++ gapT (P.drop i) := by rw [← gapT_app, List.take_append_drop]
  rw [e, List.length_append]
  omega
/-- what Join's text is -/
theorem join_ok (l : List Tok) (t : LxS) (h : joinW l = (t, 0)) : ∃ P, t = gapT P ∧ GapOk P ∧ (gapT P).length ≤ 65536 ∧ P.length + 1 ≤ 4096 ∧ P = spc (wrtL (dropE l)) ∧ wrtAll (dropE l) = true := by
  unfold joinW joinD at h
  by_cases c1 : wrtAll (dropE l) = true
  · rw [if_pos c1] at h
    by_cases c2 : 65536 < (Lib.join (wrtL (dropE l)) [32]).length
    · rw [if_pos c2] at h; cases h
    · rw [if_neg c2] at h
      by_cases c3 : 4096 < (dropE l).length + 1
      · rw [if_pos c3] at h; cases h
      · rw [if_neg c3] at h
        obtain rfl := (Prod.mk.inj h).1
        refine ⟨spc (wrtL (dropE l)), spc_join _, spc_ok _ ?_, by rw [← spc_join]; omega, ?_, rfl, c1⟩
        · intro w hw
          obtain ⟨t, ht, rfl⟩ := List.mem_map.1 hw
          exact (wrt_good t (List.all_eq_true.1 c1 t ht)).1
        · rw [spc_len]
          unfold wrtL
          rw [List.length_map]
          omega
  · rw [if_neg c1] at h; cases h
/-- the law's blanks -/
def morL (g : Nat) : LxS := if g = 0 then [32] else if g = 1 then [10] else if g = 2 then [9, 13, 32] else if g = 3 then [32, 35, 32, 105, 116, 39, 115, 10] else [35, 10]
theorem morL_blank (g : Nat) : Blank (32 :: morL g) := by
  have h : Blank (morL g) := by
    unfold morL
    (repeat' split)
    · exact blank32
    · intro rest; simp [blN]
    · intro rest; simp [blN]; omega
    · intro rest; simp [blN]; omega
    · intro rest; simp [blN]; omega
  exact blank32.app h
/-- which of them stands behind the i-th token -/
def gapN (gs : List Int) (i : Nat) : Nat := if i < gs.length then ((gs.getD i 0).tmod 5).natAbs else 0
theorem gapN_lt (gs : List Int) (i : Nat) : gapN gs i < 5 := by
  unfold gapN
  split
  · rw [Int.natAbs_tmod]
    exact Nat.mod_lt _ (by decide)
  · omega
end Go.Proofs.YtifjdfmmafbhkaaGreatDoor

/- LxBc -/
namespace Go.Proofs.YtifjdfmmafbhkaaGreatDoor
open Go.RowKit

theorem dd_pos (u : Nat) : 1 ≤ (Lib.decDigits u).length := by rw [Lib.decDigits_length]; exact Lib.nDigits_pos u
theorem dd_dig (u : Nat) : ∀ c ∈ Lib.decDigits u, dgB c.toNat = true := by
  induction u using Nat.strongRecOn with
  | ind u ih =>
    intro c hc
    rw [Lib.decDigits] at hc
    have key : ∀ d, d < 10 → dgB (UInt8.ofNat (48 + d)).toNat = true := by decide
    by_cases h : u < 10
    · rw [dif_pos h] at hc
      obtain rfl : c = UInt8.ofNat (48 + u) := by simpa using hc
      exact key u h
    · rw [dif_neg h] at hc
      rcases List.mem_append.1 hc with hc | hc
      · exact ih (u / 10) (by omega) c hc
      · obtain rfl : c = UInt8.ofNat (48 + u % 10) := by simpa using hc
        exact key _ (by omega)
theorem dd_val (u : Nat) (hu : u ≤ 1099511627776) : timA (Lib.decDigits u) 0 = (u : Int) := by
  induction u using Nat.strongRecOn with
  | ind u ih =>
    rw [Lib.decDigits]
    have key : ∀ d, d < 10 → (UInt8.ofNat (48 + d)).toNat = 48 + d := by decide
    by_cases h : u < 10
    · rw [dif_pos h]
      show min (10 * (0 : Int) + (((UInt8.ofNat (48 + u)).toNat : Int) - 48)) tooL = _
      rw [key u h]
      unfold tooL
      omega
    · rw [dif_neg h]
      have h1 := ih (u / 10) (by omega) (by omega)
      unfold timA at h1 ⊢
      rw [List.foldl_append, h1]
      show min (10 * ((u / 10 : Nat) : Int) + (((UInt8.ofNat (48 + u % 10)).toNat : Int) - 48)) tooL = _
      rw [key _ (by omega)]
      unfold tooL
      omega
theorem unG_eq (l : LxS) (frm k i : Nat) (h1 : ∀ k', i < k' → k' < k → unP l k' = false) (h2 : i < k) (h3 : frm ≤ i) (h4 : unP l i = true) : unG l frm k = i := by
  induction k with
  | zero => omega
  | succ k ih =>
    unfold unG
    by_cases c : i = k
    · subst c
      rw [if_neg (by omega), if_pos h4]
    · rw [if_neg (by omega), if_neg (by rw [h1 k (by omega) (by omega)]; simp)]
      exact ih (fun k' a b => h1 k' a (by omega)) (by omega)
theorem unS_b0 (i : Nat) (hi : i < 7) (r : LxS) : byN (unS i ++ r) 0 = (if i = 0 then 121 else if i = 1 then 119 else if i = 2 then 100 else if i = 3 then 104 else if i = 4 then 109 else if i = 5 then 115 else 109) ∧ (i = 6 → byN (unS i ++ r) 1 = 115) ∧ (i ≠ 6 → byN (unS i ++ r) 1 = byN r 0) := by
  have : i = 0 ∨ i = 1 ∨ i = 2 ∨ i = 3 ∨ i = 4 ∨ i = 5 ∨ i = 6 := by omega
  rcases this with rfl | rfl | rfl | rfl | rfl | rfl | rfl <;> refine ⟨rfl, fun h => ?_, fun h => ?_⟩ <;> first | rfl | (exact absurd h (by decide)) | (exact absurd rfl h)
theorem unG_unS (i frm : Nat) (hi : i < 7) (hf : frm ≤ i) (r : LxS) (hr : byN r 0 ≠ 115) : unG (unS i ++ r) frm 7 = i := by
  obtain ⟨h0, h1, h2⟩ := unS_b0 i hi r
  refine unG_eq _ _ _ _ (fun k' a b => ?_) hi hf ?_
  · rw [Bool.eq_false_iff]
    intro hc
    rw [unP_iff] at hc
    have : i = 0 ∨ i = 1 ∨ i = 2 ∨ i = 3 ∨ i = 4 ∨ i = 5 ∨ i = 6 := by omega
    rcases this with rfl | rfl | rfl | rfl | rfl | rfl | rfl <;> simp at h0 h1 h2 <;> omega
  · rw [unP_iff]
    have : i = 0 ∨ i = 1 ∨ i = 2 ∨ i = 3 ∨ i = 4 ∨ i = 5 ∨ i = 6 := by omega
    rcases this with rfl | rfl | rfl | rfl | rfl | rfl | rfl <;> simp at h0 h1 h2 <;> omega
theorem spS_acc (f : Nat) : ∀ (i m : Nat) (acc : LxS), spS f i m acc = acc ++ spS f i m [] := by
  induction f with
  | zero => intro i m acc; show acc = acc ++ []; simp
  | succ f ih =>
    intro i m acc
    unfold spS
    split
    · rw [ih _ _ (acc ++ _), ih _ _ ([] ++ _)]
      simp
    · exact ih _ _ acc
theorem spS_step (f i m : Nat) (h : 0 < m / unM i) : spS (f + 1) i m [] = Lib.decDigits (m / unM i) ++ (unS i ++ spS f (i + 1) (m - m / unM i * unM i) []) := by
  rw [spS, if_pos h, spS_acc, Lib.itoa_nonneg]
  simp
theorem spS_head (f : Nat) : ∀ (i m : Nat), byN (spS f i m []) 0 ≠ 115 := by
  induction f with
  | zero => intro i m; show byN [] 0 ≠ 115; decide
  | succ f ih =>
    intro i m
    by_cases h : 0 < m / unM i
    · rw [spS_step f i m h]
      have h1 := dd_pos (m / unM i)
      obtain ⟨c, t, ht⟩ := List.exists_cons_of_length_pos (show 0 < (Lib.decDigits (m / unM i)).length by omega)
      have h2 := dd_dig (m / unM i) c (by rw [ht]; simp)
      rw [ht]
      show c.toNat ≠ 115
      rw [dgB_iff] at h2
      omega
    · rw [spS, if_neg h]
      exact ih _ _
theorem tk_dd (u : Nat) (i : Nat) (hi : i < 7) (r : LxS) : tkN dgB (Lib.decDigits u ++ (unS i ++ r)) = (Lib.decDigits u).length := by
  refine tkN_eq dgB _ _ (by rw [List.length_append]; omega) (fun j hj => ?_) (Or.inr ?_)
  · unfold byN
    rw [List.getD, List.getElem?_append_left hj, List.getElem?_eq_getElem hj]
    exact dd_dig u _ (List.getElem_mem hj)
  · have h0 := (unS_b0 i hi r).1
    have : byN (Lib.decDigits u ++ (unS i ++ r)) (Lib.decDigits u).length = byN (unS i ++ r) 0 := by
      unfold byN
      simp [List.getD, List.getElem?_append_right]
    rw [this, h0]
    have : i = 0 ∨ i = 1 ∨ i = 2 ∨ i = 3 ∨ i = 4 ∨ i = 5 ∨ i = 6 := by omega
    rcases this with rfl | rfl | rfl | rfl | rfl | rfl | rfl <;> decide
theorem unM_pos (i : Nat) : 1 ≤ unM i := by unfold unM; (repeat' split) <;> decide
theorem sp_back (f : Nat) : ∀ (i m : Nat) (l : LxS) (w frm n g : Nat), i + f = 7 → (f = 0 → m = 0) → l.drop w = spS f i m [] → frm ≤ i → f ≤ g → n + m ≤ 1099511627776 → w ≤ l.length → spG l g frm w (n : Int) = (((n + m : Nat) : Int), l.length) := by
  induction f with
  | zero =>
    intro i m l w frm n g hi hm hd hfr hg hn hw
    obtain rfl := hm rfl
    have hd : l.drop w = [] := hd
    have hwl : w = l.length := by
      have := congrArg List.length hd
      rw [List.length_drop, List.length_nil] at this
      omega
    cases g with
    | zero => rw [spG, Nat.add_zero, hwl]
    | succ g =>
      rw [spG, hd, if_pos (by rfl), Nat.add_zero, hwl]
  | succ f ih =>
    intro i m l w frm n g hi hm hd hfr hg hn hw
    have hmp := unM_pos i
    by_cases h : 0 < m / unM i
    · obtain ⟨g, rfl⟩ : ∃ k, g = k + 1 := ⟨g - 1, by omega⟩
      rw [spS_step f i m h] at hd
      have hi7 : i < 7 := by omega
      have hq := Nat.div_mul_le_self m (unM i)
      have hr := spS_head f (i + 1) (m - m / unM i * unM i)
      have hlast : f = 0 → m - m / unM i * unM i = 0 := fun e => by
        have : i = 6 := by omega
        subst this
        show m - m / 1 * 1 = 0
        omega
      generalize hrr : spS f (i + 1) (m - m / unM i * unM i) [] = r at *
      have hq2 : m / unM i ≤ 1099511627776 := Nat.le_trans (Nat.div_le_self _ _) (by omega)
      have hv := dd_val (m / unM i) hq2
      have htk := tk_dd (m / unM i) i hi7 r
      have hdp := dd_pos (m / unM i)
      generalize hD : Lib.decDigits (m / unM i) = D at *
      generalize hqq : m / unM i = q at *
      have hd2 : l.drop (w + D.length) = unS i ++ r := by rw [← List.drop_drop, hd, List.drop_left]
      have hd3 : l.drop (w + D.length + unL i) = r := by rw [← List.drop_drop, hd2, ← unS_len i hi7, List.drop_left]
      have hlen : l.length = w + (D.length + (unL i + r.length)) := by
        have := congrArg List.length hd
        rw [List.length_drop, List.length_append, List.length_append, unS_len i hi7] at this
        omega
      rw [spG, hd, htk, if_neg (by omega), hd2, unG_unS i frm hi7 hfr r hr, if_neg (by omega), List.take_left]
      have htw : timW D (unM i) = ((q * unM i : Nat) : Int) := by
        unfold timW
        rw [hv, if_neg, Int.natCast_mul]
        intro hc
        have h1 : (q : Int) * (unM i : Int) ≤ 1099511627776 := by
          rw [← Int.natCast_mul]
          omega
        have h2 : (q : Int) ≤ 1099511627776 / (unM i : Int) := (Int.le_ediv_iff_mul_le (by omega)).2 h1
        omega
      rw [htw]
      have hmin : min ((n : Int) + ((q * unM i : Nat) : Int)) tooL = ((n + q * unM i : Nat) : Int) := by
        unfold tooL
        omega
      rw [hmin, ih (i + 1) (m - q * unM i) l _ (i + 1) (n + q * unM i) g (by omega) hlast (by rw [hd3]; exact hrr.symm) (Nat.le_refl _) (by omega) (by omega) (by omega)]
      congr 2
      omega
    · rw [spS, if_neg h] at hd
      refine ih (i + 1) m l w frm n g (by omega) (fun e => ?_) hd (by omega) (by omega) hn hw
      have : i = 6 := by omega
      subst this
      have h : ¬ 0 < m / 1 := h
      omega
theorem spS_first (f : Nat) : ∀ (i m : Nat), i + f = 7 → (f = 0 → m = 0) → 0 < m → ∃ u k r, k < 7 ∧ spS f i m [] = Lib.decDigits u ++ (unS k ++ r) := by
  induction f with
  | zero => intro i m _ h h2; have := h rfl; omega
  | succ f ih =>
    intro i m hi hm h0
    by_cases h : 0 < m / unM i
    · exact ⟨_, i, _, by omega, spS_step f i m h⟩
    · rw [spS, if_neg h]
      refine ih (i + 1) m (by omega) (fun e => ?_) h0
      have : i = 6 := by omega
      subst this
      have h : ¬ 0 < m / 1 := h
      omega
/-- a duration's text is one token and says the duration -/
theorem span_back (n : Int) (h0 : 0 ≤ n) (h1 : n ≤ 1099511627776) : (spT n).2 = 0 ∧ spV (spT n).1 = (n, 0) := by
  unfold spT
  rw [if_neg (by omega)]
  by_cases hz : n = 0
  · subst hz
    rw [if_pos rfl]
    exact ⟨rfl, by decide⟩
  · rw [if_neg hz]
    refine ⟨rfl, ?_⟩
    obtain ⟨N, rfl⟩ : ∃ N : Nat, n = (N : Int) := ⟨n.toNat, by omega⟩
    rw [Int.toNat_natCast]
    dsimp only
    have hb := sp_back 7 0 N (spS 7 0 N []) 0 0 0 8 (by omega) (by omega) rfl (Nat.le_refl _) (by omega) (by omega) (Nat.zero_le _)
    rw [Nat.zero_add] at hb
    have hb : spW (spS 7 0 N []) = ((N : Int), (spS 7 0 N []).length) := hb
    obtain ⟨u, k, r, hk, hf⟩ := spS_first 7 0 N (by omega) (by omega) (by omega)
    generalize spS 7 0 N [] = t at *
    have hdp := dd_pos u
    have htk := tk_dd u k hk r
    have hb0 := unS_b0 k hk r
    have hat : byN t (Lib.decDigits u).length = byN (unS k ++ r) 0 := by
      rw [hf]
      unfold byN
      simp [List.getD, List.getElem?_append_right]
    have hdr : t.drop (Lib.decDigits u).length = unS k ++ r := by rw [hf, List.drop_left]
    have hdg : ∀ j, j < (Lib.decDigits u).length → dgB (byN t j) = true := fun j hj => by
      rw [← hf] at htk
      exact tkN_in dgB t j (by omega)
    rw [← hf] at htk
    have hu0 : byN (unS k ++ r) 0 ≠ 46 ∧ byN (unS k ++ r) 0 ≠ 101 ∧ byN (unS k ++ r) 0 ≠ 69 ∧ byN (unS k ++ r) 0 ≠ 120 ∧ byN (unS k ++ r) 0 ≠ 88 := by
      rw [hb0.1]
      have : k = 0 ∨ k = 1 ∨ k = 2 ∨ k = 3 ∨ k = 4 ∨ k = 5 ∨ k = 6 := by omega
      rcases this with rfl | rfl | rfl | rfl | rfl | rfl | rfl <;> decide
    have hx : hexW t = 0 := by
      unfold hexW
      rw [if_neg]
      rintro ⟨-, h⟩
      by_cases c : 1 < (Lib.decDigits u).length
      · have := hdg 1 c
        rw [dgB_iff] at this
        omega
      · have e : (Lib.decDigits u).length = 1 := by omega
        rw [e] at hat
        omega
    have hdec : decW t = (Lib.decDigits u).length := by
      unfold decW
      rw [htk, hat, if_neg hu0.1]
    have hnum : numW t = (Lib.decDigits u).length := by
      unfold numW
      rw [if_neg (by omega), hdec, if_neg (by omega), hdr]
      have : expW (unS k ++ r) = 0 := by unfold expW; rw [if_neg (by omega)]
      omega
    have hlen : t.length = (Lib.decDigits u).length + ((unS k).length + r.length) := by rw [hf, List.length_append, List.length_append]
    have huk : 1 ≤ (unS k).length := by rw [unS_len k hk]; unfold unL; split <;> decide
    have hnu : nucW t = t.length ∧ nukW t = 3 := by
      unfold nucW nukW
      rw [hnum, hb, if_pos (by dsimp only; omega), if_pos (by dsimp only; omega)]
      exact ⟨rfl, rfl⟩
    have hnb : nubB t = false := by
      unfold nubB
      rw [hnu.1, byN_out t _ (Nat.le_refl _)]
      decide
    have hcut : cutW t = (3, t, t.length) := by
      unfold cutW
      have h0 := hdg 0 (by omega)
      rw [if_neg (by rw [h0]; simp), if_pos (Or.inl h0), hnb, if_neg (by simp), hnu.1, hnu.2, List.take_length]
    unfold spV jusB
    rw [hcut, hb]
    have h2 : 0 < t.length := by omega
    simp only [h2, decide_true, Bool.and_true]
    rw [if_pos trivial, if_neg (by omega)]
theorem spS_len (f : Nat) : ∀ (i m : Nat) (acc : LxS), m ≤ 1099511627776 → (spS f i m acc).length ≤ acc.length + 23 * f := by
  induction f with
  | zero => intro i m acc _; exact Nat.le_refl _
  | succ f ih =>
    intro i m acc hm
    unfold spS
    split
    · have h1 := Lib.itoa_length_le ((m / unM i : Nat) : Int) (by omega) (by have := Nat.div_le_self m (unM i); omega)
      have h2 := ih (i + 1) (m - m / unM i * unM i) (acc ++ (Lib.itoa ((m / unM i : Nat) : Int) ++ unS i)) (by omega)
      have h3 : (unS i).length ≤ 2 := by unfold unS; (repeat' split) <;> decide
      rw [List.length_append, List.length_append] at h2
      omega
    · have h2 := ih (i + 1) m acc hm
      omega
theorem spT_len (n : Int) : (spT n).1.length ≤ 200 := by
  unfold spT
  split
  · exact Nat.zero_le _
  · split
    · decide
    · have := spS_len 7 0 n.toNat [] (by omega)
      simp only [List.length_nil] at this
      show (spS 7 0 n.toNat []).length ≤ 200
      omega
end Go.Proofs.YtifjdfmmafbhkaaGreatDoor

/- LxBe -/
namespace Go.Proofs.YtifjdfmmafbhkaaGreatDoor
open Go.RowKit

theorem validD_rune (l y : LxS) (hl : l ≠ []) (h : ¬ ((dcG l).1 = 65533 ∧ (dcG l).2 < 3)) : Lib.validD (l.take (dcG l).2 ++ y) = Lib.validD y := by
  have hb := dcG_bounds l hl
  have htl : (l.take (dcG l).2).length = (dcG l).2 := by rw [List.length_take]; omega
  have hnt : l.take (dcG l).2 ≠ [] := by
    intro e
    rw [e] at htl
    simp only [List.length_nil] at htl
    omega
  have e1 := dcG_take l (dcG l).2 hl (Nat.le_refl _) h
  have e2 := dcG_more (l.take (dcG l).2) y hnt (by rw [e1]; exact h)
  rw [e1] at e2
  have hne : l.take (dcG l).2 ++ y ≠ [] := by simp [hnt]
  rw [Lib.validD_step _ hne]
  have e3 : dcG (l.take (dcG l).2 ++ y) = Lib.decodeL (l.take (dcG l).2 ++ y) := if_neg hne
  rw [← e3, e2, if_neg (fun e => h ⟨e.1, by omega⟩)]
  congr 1
  exact List.drop_left' htl
theorem strG_valid (q f : Nat) (l : LxS) (hq : q < 65533) (x : LxS × Nat) (h : strG q f l = some x) : Lib.validD x.1 = true := by
  induction f generalizing l x with
  | zero => cases h
  | succ f ih =>
    by_cases hl : l = []
    · subst hl
      rw [strG_nil q _ hq] at h
      cases h
    unfold strG at h
    by_cases c1 : (dcG l).1 = q
    · rw [if_pos c1] at h
      obtain rfl := Option.some.inj h
      rfl
    · rw [if_neg c1] at h
      by_cases c2 : (dcG l).1 = 10 ∨ ((dcG l).1 = 65533 ∧ (dcG l).2 < 3)
      · rw [if_pos c2] at h
        cases h
      · rw [if_neg c2] at h
        by_cases c3 : (dcG l).1 = 92
        · rw [if_pos c3] at h
          by_cases c4 : (escW (l.drop (dcG l).2)).2 = 0
          · rw [if_pos c4] at h
            cases h
          · rw [if_neg c4] at h
            obtain ⟨z, hz, rfl⟩ := Option.map_eq_some_iff.1 h
            have he := (escW_le (l.drop (dcG l).2)).2.2 c4
            show Lib.validD (_ :: z.1) = true
            rw [Lib.validD_cons _ _ (by
              rw [UInt8.toNat_ofNat']
              omega)]
            exact ih _ z hz
        · rw [if_neg c3] at h
          obtain ⟨z, hz, rfl⟩ := Option.map_eq_some_iff.1 h
          show Lib.validD (l.take (dcG l).2 ++ z.1) = true
          rw [validD_rune l z.1 hl (fun e => c2 (Or.inr e))]
          exact ih _ z hz
theorem strW_valid (l : LxS) (hq : byN l 0 < 65533) (x : LxS × Nat) (h : strW l = some x) : Lib.validD x.1 = true := by
  unfold strW at h
  obtain ⟨z, hz, rfl⟩ := Option.map_eq_some_iff.1 h
  exact strG_valid _ _ _ hq z hz
theorem cutW_text (l : LxS) (h0 : (cutW l).2.2 ≠ 0) (h4 : (cutW l).1 = 4) : Lib.validD (cutW l).2.1 = true := by
  unfold cutW at h0 h4 ⊢
  by_cases c1 : wdB (byN l 0) = true ∧ dgB (byN l 0) = false
  · rw [if_pos c1] at h4
    exact absurd h4 (by show ¬ ((1 : Int) = 4); decide)
  · rw [if_neg c1] at h0 h4 ⊢
    by_cases c2 : dgB (byN l 0) = true ∨ byN l 0 = 46
    · rw [if_pos c2] at h0 h4
      by_cases c3 : nubB l = true
      · rw [if_pos c3] at h0
        exact absurd rfl h0
      · rw [if_neg c3] at h4
        have h4 : nukW l = 4 := h4
        unfold nukW at h4
        split at h4 <;> exact absurd h4 (by decide)
    · rw [if_neg c2] at h0 h4 ⊢
      by_cases c3 : byN l 0 = 34 ∨ byN l 0 = 39
      · rw [if_pos c3] at h0 ⊢
        cases hs : strW l with
        | none =>
          rw [hs] at h0
          exact absurd rfl h0
        | some x => exact strW_valid l (by omega) x hs
      · rw [if_neg c3] at h4
        exact absurd h4 (by show ¬ ((5 : Int) = 4); decide)
/-- a token that is cut can be written -/
theorem cut_wrt (l : LxS) (p : Int) (h0 : (cutW l).2.2 ≠ 0) : (wrtW ((cutW l).1, (cutW l).2.1, p)).2 = true := by
  unfold wrtW
  dsimp only
  by_cases c : (cutW l).1 = 4
  · rw [if_pos c]
    have hv := cutW_text l h0 c
    unfold quW
    rw [if_pos hv]
    rfl
  · rw [if_neg c]
    have ht := (cutW_form l h0).2.2 c
    have hc := cutW_take l (cutW l).2.2 (Nat.le_refl _) h0
    have hle := cutW_le l
    rw [ht]
    unfold jusB
    rw [hc, List.length_take]
    simp only [Bool.and_eq_true, decide_eq_true_eq]
    exact ⟨⟨Nat.pos_of_ne_zero h0, (Nat.min_eq_left hle).symm⟩, trivial⟩
theorem strG_tlen (q f : Nat) (l : LxS) (hq : q < 65533) (x : LxS × Nat) (h : strG q f l = some x) : x.1.length ≤ x.2 := by
  induction f generalizing l x with
  | zero => cases h
  | succ f ih =>
    by_cases hl : l = []
    · subst hl
      rw [strG_nil q _ hq] at h
      cases h
    have hb := dcG_bounds l hl
    unfold strG at h
    by_cases c1 : (dcG l).1 = q
    · rw [if_pos c1] at h
      obtain rfl := Option.some.inj h
      exact Nat.zero_le _
    · rw [if_neg c1] at h
      by_cases c2 : (dcG l).1 = 10 ∨ ((dcG l).1 = 65533 ∧ (dcG l).2 < 3)
      · rw [if_pos c2] at h
        cases h
      · rw [if_neg c2] at h
        by_cases c3 : (dcG l).1 = 92
        · rw [if_pos c3] at h
          by_cases c4 : (escW (l.drop (dcG l).2)).2 = 0
          · rw [if_pos c4] at h
            cases h
          · rw [if_neg c4] at h
            obtain ⟨z, hz, rfl⟩ := Option.map_eq_some_iff.1 h
            have := ih _ z hz
            show z.1.length + 1 ≤ _
            dsimp only
            omega
        · rw [if_neg c3] at h
          obtain ⟨z, hz, rfl⟩ := Option.map_eq_some_iff.1 h
          have := ih _ z hz
          show (l.take (dcG l).2 ++ z.1).length ≤ (dcG l).2 + z.2
          rw [List.length_append, List.length_take]
          omega
theorem cutW_tlen (l : LxS) (h0 : (cutW l).2.2 ≠ 0) : (cutW l).2.1.length ≤ l.length := by
  by_cases c : (cutW l).1 = 4
  · unfold cutW at h0 c ⊢
    by_cases c1 : wdB (byN l 0) = true ∧ dgB (byN l 0) = false
    · rw [if_pos c1]
      show (l.take _).length ≤ _
      rw [List.length_take]
      omega
    · rw [if_neg c1] at h0 ⊢
      by_cases c2 : dgB (byN l 0) = true ∨ byN l 0 = 46
      · rw [if_pos c2] at h0 ⊢
        split
        · exact Nat.zero_le _
        · show (l.take _).length ≤ _
          rw [List.length_take]
          omega
      · rw [if_neg c2] at h0 ⊢
        by_cases c3 : byN l 0 = 34 ∨ byN l 0 = 39
        · rw [if_pos c3] at h0 ⊢
          cases hs : strW l with
          | none => exact Nat.zero_le _
          | some x =>
            have h1 := (strW_le l (by omega) x hs).1
            unfold strW at hs
            obtain ⟨z, hz, rfl⟩ := Option.map_eq_some_iff.1 hs
            have h2 := strG_tlen _ _ _ (by omega) z hz
            show z.1.length ≤ _
            dsimp only at h1
            omega
        · rw [if_neg c3]
          show (l.take _).length ≤ _
          rw [List.length_take]
          omega
  · rw [(cutW_form l h0).2.2 c, List.length_take]
    omega
theorem toks_wrt (f : Nat) : ∀ (l : LxS) (p : Nat) (r : List Tok), tokR f l p = some r → ∃ L e, r = L ++ [((0 : Int), ([] : LxS), (e : Int))] ∧ wrtAll L = true ∧ (∀ t ∈ L, t.2.1.length ≤ l.length) := by
  induction f with
  | zero => intro l p r h; cases h
  | succ f ih =>
    intro l p r h
    rw [tokR] at h
    by_cases c : l = []
    · rw [if_pos c] at h
      obtain rfl := Option.some.inj h
      exact ⟨[], _, rfl, rfl, fun t ht => by cases ht⟩
    · rw [if_neg c] at h
      by_cases d : (cutW l).2.2 = 0
      · rw [if_pos d] at h; cases h
      · rw [if_neg d] at h
        obtain ⟨r', hr', rfl⟩ := Option.map_eq_some_iff.1 h
        obtain ⟨L, e, hL, hw, hb⟩ := ih _ _ r' hr'
        refine ⟨((cutW l).1, (cutW l).2.1, (p : Int)) :: L, e, by rw [hL]; rfl, ?_, ?_⟩
        · unfold wrtAll at hw ⊢
          rw [List.all_cons, cut_wrt l _ d, hw]
          rfl
        · intro t ht
          rcases List.mem_cons.1 ht with rfl | ht
          · exact cutW_tlen l d
          · have := hb t ht
            rw [List.length_drop] at this
            omega
theorem spc_fst (ws : List LxS) : (spc ws).map (·.1) = ws := by
  induction ws with
  | nil => rfl
  | cons w ws ih =>
    cases ws with
    | nil => rfl
    | cons v ws => show w :: (spc (v :: ws)).map (·.1) = _; rw [ih]
theorem gapK_back (L : List Tok) : ∀ (P : List (LxS × LxS)) (p : Nat) (x : Int), P.map (·.1) = wrtL L → wrtAll L = true → sameB (gapK p P) (L ++ [((0 : Int), ([] : LxS), x)]) = true := by
  induction L with
  | nil =>
    intro P p x h _
    obtain rfl : P = [] := by simpa [wrtL] using h
    rfl
  | cons t L ih =>
    intro P p x h hw
    cases P with
    | nil => simp [wrtL] at h
    | cons y P =>
      have h1 : y.1 = (wrtW t).1 := (List.cons.inj h).1
      have h2 : P.map (·.1) = wrtL L := (List.cons.inj h).2
      unfold wrtAll at hw
      rw [List.all_cons, Bool.and_eq_true] at hw
      have hg := wrt_good t hw.1
      show (tkEq _ t && sameB (gapK _ P) (L ++ [_])) = true
      rw [ih P _ x h2 hw.2]
      rw [← h1] at hg
      simp [tkEq, hg.2.1, hg.2.2]
/-- the law's list: the tokens with their end -/
def wantW (l : List Tok) : List Tok := if l = [] ∨ (l.getD (l.length - 1) tkD).1 ≠ 0 then l ++ [((0 : Int), ([] : LxS), (0 : Int))] else l
theorem want_form (l : List Tok) (h : wrtAll (dropE l) = true) : ∃ x, wantW l = dropE l ++ [((0 : Int), ([] : LxS), x)] := by
  unfold wantW
  by_cases hl : l = []
  · subst hl
    exact ⟨0, rfl⟩
  · have hn : 0 < l.length := List.length_pos_iff.2 hl
    obtain ⟨m, hm⟩ : ∃ m, l.length = m + 1 := ⟨l.length - 1, by omega⟩
    have hD := dropE_get l m hm
    rw [hm, Nat.add_sub_cancel]
    have hsp : l = l.take m ++ [l.getD m tkD] := by
      have := List.take_succ_eq_append_getElem (l := l) (i := m) (by omega)
      rw [List.take_of_length_le (by omega)] at this
      rw [List.getD, List.getElem?_eq_getElem (by omega)]
      exact this
    by_cases c : (l.getD m tkD).1 = 0
    · rw [if_neg (fun e => e.elim hl (fun e => e c))]
      by_cases d : (l.getD m tkD).2.1 = []
      · rw [if_pos ⟨c, d⟩] at hD
        refine ⟨(l.getD m tkD).2.2, ?_⟩
        rw [hD]
        conv => lhs; rw [hsp]
        congr 2
        exact Prod.ext c (Prod.ext d rfl)
      · rw [if_neg (fun e => d e.2)] at hD
        rw [hD] at h
        have hw := List.all_eq_true.1 h (l.getD m tkD) (by
          rw [List.getD, List.getElem?_eq_getElem (by omega)]
          exact List.getElem_mem _)
        exfalso
        have hg := wrt_good _ hw
        have h0 : (cutW (wrtW (l.getD m tkD)).1).2.2 ≠ 0 := by
          rw [hg.1.2]
          have := List.length_pos_iff.2 hg.1.1
          omega
        have := (cutW_form _ h0).1
        rw [hg.2.1, c] at this
        omega
    · rw [if_pos (Or.inr c)]
      rw [if_neg (fun e => c e.1)] at hD
      exact ⟨0, by rw [hD]⟩
/-- the joined text's tokens are the list's -/
theorem back_join (l : List Tok) (t : LxS) (h : joinW l = (t, 0)) : ∃ r, tokW t = (r, 0, 0) ∧ sameB r (wantW l) = true := by
  obtain ⟨P, h1, h2, h3, h4, h5, h6⟩ := join_ok l t h
  obtain ⟨x, hx⟩ := want_form l h6
  refine ⟨gapK 0 P, by rw [h1]; exact gapW P h2 h3 h4, ?_⟩
  rw [hx, h5]
  exact gapK_back (dropE l) _ 0 x (spc_fst _) h6
/-- a text's tokens can be joined, unless what is joined is too long -/
theorem back_toks2 (s : LxS) (r : List Tok) (h : tokW s = (r, 0, 0)) : ((joinW r).2 = 0 ∨ (joinW r).2 = 4) ∧ (∀ t ∈ r, t.2.1.length ≤ 65536) ∧ r.length ≤ 4096 ∧ wantW r = r := by
  obtain ⟨h1, h2, h3⟩ := tokW_ok s r h
  obtain ⟨L, e, hL, hw, hb⟩ := toks_wrt _ _ _ r h3
  have hD : dropE r = L := by
    have := dropE_get r L.length (by rw [hL]; simp)
    rw [this]
    have hg : r.getD L.length tkD = ((0 : Int), ([] : LxS), (e : Int)) := by rw [hL]; simp [List.getD]
    rw [hg, if_pos ⟨rfl, rfl⟩, hL, List.take_left]
  refine ⟨?_, ?_, h2, ?_⟩
  · unfold joinW joinD
    rw [hD, if_pos hw]
    by_cases c : 65536 < (Lib.join (wrtL L) [32]).length
    · rw [if_pos c]; exact Or.inr rfl
    · rw [if_neg c, if_neg (by rw [hL, List.length_append] at h2; simp only [List.length_cons, List.length_nil] at h2; omega)]
      exact Or.inl rfl
  · intro t ht
    rw [hL] at ht
    rcases List.mem_append.1 ht with ht | ht
    · have := hb t ht
      rw [List.length_drop] at this
      omega
    · obtain rfl : t = ((0 : Int), ([] : LxS), (e : Int)) := by simpa using ht
      exact Nat.zero_le _
  · unfold wantW
    rw [if_neg]
    rintro (e1 | e1)
    · rw [hL] at e1; simp at e1
    · apply e1
      rw [hL]
      simp [List.getD]
end Go.Proofs.YtifjdfmmafbhkaaGreatDoor
