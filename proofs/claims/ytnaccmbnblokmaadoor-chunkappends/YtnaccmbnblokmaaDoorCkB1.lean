/-
  A chunk's bytes are read as what was written, and Decode answers so.
-/
import Derived.Test.YtnaccmbnblokmaaDoorCkR4
namespace Go.Proofs.YtnaccmbnblokmaaDoor
open Go.RowKit

theorem okL_app {st : Pst} {l r : List SmpT} : okL st (l ++ r) ↔ okL st l ∧ okL (stA st l) r := by
  induction l generalizing st with
  | nil => simp [okL, stA]
  | cons y l ih =>
    simp only [List.cons_append, okL, stA, ih]
    constructor
    · rintro ⟨a, b, c, d⟩; exact ⟨⟨a, b, c⟩, d⟩
    · rintro ⟨⟨a, b, c⟩, d⟩; exact ⟨a, b, c, d⟩
theorem encB_app (st : Pst) (l r : List SmpT) : encB st (l ++ r) = encB st l ++ encB (stA st l) r := by
  induction l generalizing st with
  | nil => rfl
  | cons y l ih => simp only [List.cons_append, encB, stA, ih, List.append_assoc]
theorem okL_most {l : List SmpT} (h : okL startP l) : l.length ≤ 120 := by
  have := (stA_ok startOk h).most
  rw [stA_n] at this
  simpa [startP] using this
theorem ckB_strL (m : List SmpT) : strL (ckB m) = pack (encB startP m) := by simp [strL, ckB]
theorem ckB_small {m : List SmpT} (h : okL startP m) : (ckB m).length ≤ 3000 ∧ 2 ≤ (ckB m).length := by
  have h1 := encB_len startOk h
  have h2 := okL_most h
  unfold ckB
  simp only [List.length_append, List.length_cons, List.length_nil, pack_len]
  omega
theorem ckB_strS {m : List SmpT} (h : okL startP m) : strS (ckB m) = 8 * (pack (encB startP m)).length := by
  have h1 := ckB_small h
  unfold strS
  rw [if_pos (by omega)]
  simp [ckB]
theorem ckB_cnt {m : List SmpT} (h : okL startP m) : cntN (ckB m) = m.length := by
  have := okL_most h
  unfold cntN ckB
  simp
  omega
/-- of a chunk's bytes: what has been read is how it began -/
theorem Dec.chunk {m : List SmpT} (hm : okL startP m) {l : List SmpT} {st : Pst} {p : Nat} (hD : Dec (strL (ckB m)) (strS (ckB m)) l st p) : l.length ≤ m.length → st = stA startP l ∧ p = (encB startP l).length ∧ ∃ r, m = l ++ r := by
  induction hD with
  | nil => intro _; exact ⟨rfl, rfl, m, rfl⟩
  | @snoc l st p T F wd p' h0 hx hf hw hr ih =>
    intro hl
    simp only [List.length_append, List.length_cons, List.length_nil] at hl
    obtain ⟨rfl, rfl, r, hmr⟩ := ih (by omega)
    match r with
    | [] => rw [List.append_nil] at hmr; rw [hmr] at hl; omega
    | x :: r =>
      have hok := hm
      rw [hmr, okL_app] at hok
      have hat := packAt (encB startP m)
      rw [← ckB_strS hm, ← ckB_strL] at hat
      have he : encB startP m = encB startP l ++ (smpB (stA startP l) x.1 x.2 ++ encB (nextP (stA startP l) x.1 x.2) r) := by rw [hmr, encB_app]; rfl
      rw [he] at hat
      have ha := hat.app.2.app.1
      rw [Nat.zero_add] at ha
      have hs := stA_ok startOk hok.1
      have q := wrongN_ok hok.2.1 hs.most
      rw [nexO_at hs q.1 q.2.1 hok.2.2.1 ha] at hx
      simp only [Option.some.injEq, Prod.mk.injEq] at hx
      obtain ⟨rfl, rfl, rfl, rfl⟩ := hx
      refine ⟨by rw [stA_snoc]; rfl, by rw [encB_snoc, List.length_append], r, ?_⟩
      rw [hmr]
      simp
/-- at a chunk's bytes there is no fault -/
theorem no_why {m : List SmpT} (hm : okL startP m) : ¬ WhyD (ckB m) := by
  rintro (h | ⟨l, st, p, hD, hl, hx⟩)
  · have := ckB_small hm
    omega
  · rw [ckB_cnt hm] at hl
    obtain ⟨rfl, rfl, r, hmr⟩ := hD.chunk hm (by omega)
    match r with
    | [] => rw [List.append_nil] at hmr; rw [hmr] at hl; omega
    | x :: r =>
      have hok := hm
      rw [hmr, okL_app] at hok
      have hat := packAt (encB startP m)
      rw [← ckB_strS hm, ← ckB_strL] at hat
      have he : encB startP m = encB startP l ++ (smpB (stA startP l) x.1 x.2 ++ encB (nextP (stA startP l) x.1 x.2) r) := by rw [hmr, encB_app]; rfl
      rw [he] at hat
      have ha := hat.app.2.app.1
      rw [Nat.zero_add] at ha
      have hs := stA_ok startOk hok.1
      have q := wrongN_ok hok.2.1 hs.most
      rw [nexO_at hs q.1 q.2.1 hok.2.2.1 ha] at hx
      rcases hx with hx | ⟨T, F, wd, p', hx, hne⟩
      · cases hx
      · simp only [Option.some.injEq, Prod.mk.injEq] at hx
        rw [← hx.1] at hne
        exact hne hok.2.1
/-- a chunk tells its samples -/
theorem ckB_inj {l m : List SmpT} (hl : okL startP l) (hm : okL startP m) (h : ckB l = ckB m) : l = m := by
  have e1 := ckB_cnt hl
  rw [h, ckB_cnt hm] at e1
  have a1 := packAt (encB startP l)
  have a2 := packAt (encB startP m)
  have h2 : pack (encB startP l) = pack (encB startP m) := by rw [← ckB_strL, ← ckB_strL, h]
  rw [← h2] at a2
  exact enc_unique l m startP 0 startOk hl hm e1.symm a1 a2
theorem decode_any (w : World) (v : Value) (b : List UInt8) (hv : Rd w v b) (hb : b.length < 281474976710656) (hT : Tk w) :
    Calls Tryd.prog 23 #[v] w fun e w' => DecA b w' e ∧ w.grownBy w' none := (callsIn_wide (n := 8)).1 (ckDecode_any 8 (Nat.le_refl _) w v b hv hb hT)
/-- Decode, of any bytes: a chunk's, or none's -/
theorem decode_two (w : World) (v : Value) (b : List UInt8) (hv : Rd w v b) (hb : b.length < 281474976710656) (hT : Tk w) :
    Calls Tryd.prog 23 #[v] w fun e w' => ((∃ l v', e = .returned (.tuple #[v', .int .i64 0]) ∧ okL startP l ∧ b = ckB l ∧ RdP w' v' l) ∨ (e = .returned (.tuple #[.slice none 0 0, .int .i64 3]) ∧ ∀ m, okL startP m → b ≠ ckB m)) ∧ w.grownBy w' none := by
  refine (decode_any w v b hv hb hT).mono ?_
  rintro e w' ⟨h | ⟨he, h⟩, hg⟩
  · exact ⟨.inl h, hg⟩
  · refine ⟨.inr ⟨he, fun m hm e => ?_⟩, hg⟩
    subst e
    rcases h with h | ⟨l, st, p, hD, hl, hne⟩
    · exact no_why hm h
    · rw [ckB_cnt hm] at hl
      obtain ⟨-, -, r, hmr⟩ := hD.chunk hm (by omega)
      have : r = [] := List.eq_nil_of_length_eq_zero (by rw [hmr, List.length_append] at hl; omega)
      subst this
      rw [List.append_nil] at hmr
      rw [hmr] at hne
      exact hne rfl
/-- Decode of a chunk's bytes -/
theorem decode_ok (w : World) (v : Value) (l : List SmpT) (hl : okL startP l) (hv : Rd w v (ckB l)) (hT : Tk w) :
    Calls Tryd.prog 23 #[v] w fun e w' => ∃ v', e = .returned (.tuple #[v', .int .i64 0]) ∧ RdP w' v' l ∧ w.grownBy w' none := by
  refine (decode_two w v (ckB l) hv (by have := ckB_small hl; omega) hT).mono ?_
  rintro e w' ⟨⟨m, v', h1, h2, h3, h4⟩ | ⟨-, h⟩, hg⟩
  · have := ckB_inj hl h2 h3
    subst this
    exact ⟨v', h1, h4, hg⟩
  · exact absurd rfl (h l hl)
end Go.Proofs.YtnaccmbnblokmaaDoor
