/-
  A chunk's reader: what turned and value come to: the walks.
-/
import Derived.Test.YtkiefmhampfhoaaDoorGD
namespace Go.Proofs.YtkiefmhampfhoaaDoor
open Go.RowKit
variable {B : Nat}

/-- what a value's bits come to: there, with their window, or a fault -/
def RdW (o : Option (Nat × (Bool × Nat × Nat) × Nat)) (st : Pst) (fl : Bool) (x p' : Nat) (fl' : Bool) (R' : Rst) : Prop :=
  (∃ wd, o = some (x, wd, p') ∧ fl' = fl ∧ R' = past st.n st.t st.f st.gap wd.1 (wd.2.1 : Int) (wd.2.2 : Int) ∧ wd.2.1 ≤ 31 ∧ wd.2.1 + wd.2.2 < 64) ∨ (o = none ∧ fl' = true ∧ ∃ th' ld' tl', R' = past st.n st.t st.f st.gap th' ld' tl')
/-- the window is written -/
theorem RC.window {w0 w : World} {gR p s : Nat} {ptr : Value} {st : Pst} {th : Bool} {ld tl : Int} {fl : Bool} {L : List UInt8} (h : RC B w0 w gR ptr (past st.n st.t st.f st.gap th ld tl) fl L p s) (th' : Bool) (ld' tl' : Int) : RC B w0 (((w.setCell ⟨gR, 5, none⟩ (.bool th')).setCell ⟨gR, 6, none⟩ (.int .i64 ld')).setCell ⟨gR, 7, none⟩ (.int .i64 tl')) gR ptr (past st.n st.t st.f st.gap th' ld' tl') fl L p s ∧ Ch w (((w.setCell ⟨gR, 5, none⟩ (.bool th')).setCell ⟨gR, 6, none⟩ (.int .i64 ld')).setCell ⟨gR, 7, none⟩ (.int .i64 tl')) (RSt gR ptr) := by
  have h1 := heap_setCell_same w gR 5 _ _ (.bool th') h.box
  have h2 := heap_setCell_same _ gR 6 _ _ (.int .i64 ld') h1
  have h3 := heap_setCell_same _ gR 7 _ _ (.int .i64 tl') h2
  have hs : ∀ (A C : World) (j : Nat) (x : Value), A.grownBy C (some gR) → A.grownBy (C.setCell ⟨gR, j, none⟩ x) (some gR) := fun A C j x h => gb_trans h (gb_set C gR j x) (fun _ h _ => h.symm)
  have hG : w.grownBy (((w.setCell ⟨gR, 5, none⟩ (.bool th')).setCell ⟨gR, 6, none⟩ (.int .i64 ld')).setCell ⟨gR, 7, none⟩ (.int .i64 tl')) (some gR) := hs _ _ _ _ (hs _ _ _ _ (gb_set _ _ _ _))
  exact ⟨h.turned (by rw [h3]; rfl) hG, RC.ch hG⟩
theorem shl_fit {v z tl ld : Nat} (hv : v < 2 ^ z) (h : z = 64 - ld - tl) (hw : ld + tl < 64) : v * 2 ^ tl < 18446744073709551616 := by
  have h1 : v * 2 ^ tl < 2 ^ z * 2 ^ tl := Nat.mul_lt_mul_of_pos_right hv (Nat.pow_pos (by decide))
  rw [← Nat.pow_add] at h1
  exact Nat.lt_of_lt_of_le h1 (Nat.pow_le_pow_right (by decide : 2 > 0) (by omega : z + tl ≤ 64))

set_option maxRecDepth 8000 in
set_option maxHeartbeats 6400000 in
theorem turned_any (w0 w : World) (gR p s : Nat) (ptr : Value) (st : Pst) (fl : Bool) (L : List UInt8) (h : RC B w0 w gR ptr (pst st) fl L p s) (hB : B ≤ w.heap.size) (hwin : st.ld ≤ 31 ∧ st.ld + st.tl < 64) :
    Calls Tryd.prog 103 #[.pointer (some ⟨gR, 0, none⟩)] w fun e w' => ∃ (x p' : Nat) (fl' : Bool) (R' : Rst), e = .returned (.int .u64 (x : Int)) ∧ x < 18446744073709551616 ∧ RC B w0 w' gR ptr R' fl' L p' s ∧ RdW (turnedO st L s p) st fl x p' fl' R' ∧ Ch w w' (RSt gR ptr) := by
  have HT1 := hidJ (take_any w0 w gR p s 1 ptr (pst st) fl L h (by omega) (.inr (.inl (by omega))))
  clear h
  go_enter Tryd.func103, Tryd.ntmps103
  go_wp2_with fail
  refine HT1.out.mono ?_
  rintro e w1 ⟨x1, p1, fl1, rfl, h1, h2, h3⟩
  have H1 := hidJ (And.intro h1 (And.intro h2 h3))
  clear HT1 h1 h2 h3
  by_cases hx1 : x1 = 1
  · subst hx1
    have H1s : Hid (tkO L s p 1 = some (1, p1) ∧ fl1 = fl) := by
      rcases H1.out.2.1 with q | ⟨-, q, -⟩
      · exact q
      · cases q
    have HT5 : Hid (Calls Tryd.prog 89 #[.pointer (some ⟨gR, 0, none⟩), .int .i64 5] w1 fun e w' => ∃ (x : Nat), e = .returned (.int .u64 (x : Int)) ∧ x < 32 ∧ Hid (∃ (p' : Nat) (fl' : Bool), RC B w0 w' gR ptr (pst st) fl' L p' s ∧ Tkn L s p1 5 fl1 x p' fl' ∧ Ch w w' (RSt gR ptr))) :=
      (take_any w0 w1 gR p1 s 5 ptr (pst st) fl1 L H1.out.1 (by omega) (.inr (.inl (by omega)))).mono fun e w' ⟨x, p', fl', g1, g2, g3, g4⟩ => ⟨x, g1, by simpa using g3.lt, p', fl', g2, g3, H1.out.2.2.trans g4 (fun _ _ e => e)⟩
    go_wp2_with fail
    refine HT5.out.mono ?_
    rintro e w2 ⟨x5, rfl, hx5, H2⟩
    clear HT5
    have HT6 : Hid (Calls Tryd.prog 89 #[.pointer (some ⟨gR, 0, none⟩), .int .i64 6] w2 fun e w' => ∃ (x : Nat), e = .returned (.int .u64 (x : Int)) ∧ x < 64 ∧ w'.cell? ⟨gR, 5, none⟩ = some (.bool st.th) ∧ w'.cell? ⟨gR, 6, none⟩ = some (.int .i64 (st.ld : Int)) ∧ w'.cell? ⟨gR, 7, none⟩ = some (.int .i64 (st.tl : Int)) ∧ (∃ b8, w'.cell? ⟨gR, 8, none⟩ = some (.bool b8)) ∧ (∀ j, w'.frozen? ⟨gR, j, none⟩ = false) ∧ Hid (∃ (p2 p' : Nat) (fl2 fl' : Bool), RC B w0 w' gR ptr (pst st) fl' L p' s ∧ Tkn L s p1 5 fl1 x5 p2 fl2 ∧ Tkn L s p2 6 fl2 x p' fl' ∧ Ch w w' (RSt gR ptr))) := by
      obtain ⟨p2, fl2, h1, h2, h3⟩ := H2.out
      refine (take_any w0 w2 gR p2 s 6 ptr (pst st) fl2 L h1 (by omega) (.inr (.inl (by omega)))).mono fun e w' ⟨x, p', fl', g1, g2, g3, g4⟩ => ?_
      have hc := g2.cell
      exact ⟨x, g1, by simpa using g3.lt, hc.2.2.2.2.2.1, hc.2.2.2.2.2.2.1, hc.2.2.2.2.2.2.2.1, ⟨fl', hc.2.2.2.2.2.2.2.2.1⟩, hc.2.2.2.2.2.2.2.2.2, p2, p', fl2, fl', g2, h2, g3, h3.trans g4 (fun _ _ e => e)⟩
    go_wp2_with fail
    refine HT6.out.mono ?_
    rintro e w3 ⟨x6, rfl, hx6, i5, i6, i7, ⟨b8, i8⟩, fz, H3⟩
    clear HT6 H2
    have HWn : Hid (∀ z, z = (if x6 = 0 then 64 else x6) → ∃ p3 fl3, RC B w0 w3 gR ptr (pst st) fl3 L p3 s ∧ Ch w w3 (RSt gR ptr) ∧ ((fl3 = fl ∧ winO st L s p = (if 64 < x5 + z then none else some ((true, x5, 64 - x5 - z), p3))) ∨ (fl3 = true ∧ winO st L s p = none))) := by
      intro z hz
      obtain ⟨p2, p3, fl2, fl3, e1, e2, e3, e4⟩ := H3.out
      refine ⟨p3, fl3, e1, e4, ?_⟩
      unfold winO
      rw [H1s.out.1]
      simp only [if_true]
      rcases e2 with ⟨a1, a2⟩ | ⟨a1, -, a3, a2⟩
      · rw [a1]
        simp only
        rcases e3 with ⟨b1, b2⟩ | ⟨b1, -, -, b2⟩
        · rw [b1]
          simp only
          rw [← hz]
          exact .inl ⟨by rw [b2, a2, H1s.out.2], rfl⟩
        · rw [b1]
          exact .inr ⟨b2, rfl⟩
      · rw [a1]
        refine .inr ⟨?_, rfl⟩
        rcases e3 with ⟨-, b2⟩ | ⟨-, -, -, b2⟩
        · rw [b2, a2]
        · exact b2
    have hzz : 1 ≤ (if x6 = 0 then 64 else x6) ∧ (if x6 = 0 then 64 else x6) ≤ 64 := by split <;> omega
    have hnew : ¬ gR = w3.heap.size := by have := block_lt i5; omega
    have hnew2 : ¬ w3.heap.size = gR := by omega
    have HBX : Hid (∃ cs, w3.heap[gR]? = some (.cells cs 119 (0, 0)) ∧ cs[8]? = some (.bool b8) ∧ cs.size = 9) := by
      obtain ⟨p2, p3, fl2, fl3, e1, -⟩ := H3.out
      refine ⟨_, e1.box, ?_, rfl⟩
      have := i8
      simp [World.cell?, e1.box] at this
      simp [this]
    have hc8 : ∀ (TL : Int) (C : Obj), ((((w3.setCell ⟨gR, 5, none⟩ (.bool true)).setCell ⟨gR, 6, none⟩ (.int .i64 (x5 : Int))).setCell ⟨gR, 7, none⟩ (.int .i64 TL)).alloc C).cell? ⟨gR, 8, none⟩ = some (.bool b8) := by
      intro TL C
      obtain ⟨cs, hb, h8, -⟩ := HBX.out
      have h1 := heap_setCell_same w3 gR 5 _ _ (.bool true) hb
      have h2 := heap_setCell_same _ gR 6 _ _ (.int .i64 (x5 : Int)) h1
      have h3 := heap_setCell_same _ gR 7 _ _ (.int .i64 TL) h2
      have h4 := ((alloc_gb (((w3.setCell ⟨gR, 5, none⟩ (.bool true)).setCell ⟨gR, 6, none⟩ (.int .i64 (x5 : Int))).setCell ⟨gR, 7, none⟩ (.int .i64 TL)) C).block gR (Array.getElem?_eq_some_iff.1 h3).1 (by simp)).trans h3
      simp only [World.cell?, h4]
      simpa using h8
    have hf8 : ∀ (TL : Int) (C : Obj), ((((w3.setCell ⟨gR, 5, none⟩ (.bool true)).setCell ⟨gR, 6, none⟩ (.int .i64 (x5 : Int))).setCell ⟨gR, 7, none⟩ (.int .i64 TL)).alloc C).frozen? ⟨gR, 8, none⟩ = false := by
      intro TL C
      obtain ⟨cs, hb, h8, -⟩ := HBX.out
      have h1 := heap_setCell_same w3 gR 5 _ _ (.bool true) hb
      have h2 := heap_setCell_same _ gR 6 _ _ (.int .i64 (x5 : Int)) h1
      have h3 := heap_setCell_same _ gR 7 _ _ (.int .i64 TL) h2
      have h4 := ((alloc_gb (((w3.setCell ⟨gR, 5, none⟩ (.bool true)).setCell ⟨gR, 6, none⟩ (.int .i64 (x5 : Int))).setCell ⟨gR, 7, none⟩ (.int .i64 TL)) C).block gR (Array.getElem?_eq_some_iff.1 h3).1 (by simp)).trans h3
      simp [World.frozen?, h4]
    have f5 := fz 5
    have f6 := fz 6
    have f7 := fz 7
    have f8 := fz 8
    clear H3 H1 H1s fz
    by_cases hz0 : x6 = 0
    · subst hz0
      simp only [if_true] at HWn hzz
      by_cases hbad : 64 < x5 + 64
      · have hneg : (64 : Int) - (x5 : Int) - 64 < 0 := by omega
        have HEnd : Hid (∀ C, ∃ (x p' : Nat) (fl' : Bool) (R' : Rst), Ending.returned (.int .u64 0) = .returned (.int .u64 (x : Int)) ∧ x < 18446744073709551616 ∧ RC B w0 (((((w3.setCell ⟨gR, 5, none⟩ (.bool true)).setCell ⟨gR, 6, none⟩ (.int .i64 (x5 : Int))).setCell ⟨gR, 7, none⟩ (.int .i64 (64 - (x5 : Int) - 64))).alloc C).setCell ⟨gR, 8, none⟩ (.bool true)) gR ptr R' fl' L p' s ∧ RdW (turnedO st L s p) st fl x p' fl' R' ∧ Ch w (((((w3.setCell ⟨gR, 5, none⟩ (.bool true)).setCell ⟨gR, 6, none⟩ (.int .i64 (x5 : Int))).setCell ⟨gR, 7, none⟩ (.int .i64 (64 - (x5 : Int) - 64))).alloc C).setCell ⟨gR, 8, none⟩ (.bool true)) (RSt gR ptr)) := by
          intro C
          obtain ⟨p3, fl3, e1, e2, e3⟩ := HWn.out 64 rfl
          have hw := (show RC B w0 w3 gR ptr (past st.n st.t st.f st.gap st.th (st.ld : Int) (st.tl : Int)) fl3 L p3 s from e1).window true (x5 : Int) (64 - (x5 : Int) - 64)
          have hno : winO st L s p = none := by
            rcases e3 with ⟨-, r⟩ | ⟨-, r⟩
            · rw [r, if_pos hbad]
            · exact r
          refine ⟨0, p3, true, _, rfl, by decide, (hw.1.keep (alloc_gb _ C)).fault true, .inr ⟨by unfold turnedO; rw [hno], rfl, _, _, _, rfl⟩, ?_⟩
          exact ((e2.trans hw.2 (fun _ _ e => e)).trans (Ch.of_gb (S := RSt gR ptr) (alloc_gb _ C) (fun k hk => by cases hk)) (fun _ _ e => e)).trans (RC.ch (gb_set _ _ _ _)) (fun _ _ e => e)
        clear HWn
        go_wp2
        go_ret
        exact HEnd.out _
      · obtain ⟨tt, htt⟩ : ∃ tt : Nat, 64 - x5 - 64 = tt := ⟨_, rfl⟩
        have hpos : (64 : Int) - (x5 : Int) - 64 = (tt : Int) := by omega
        have hl31 : x5 ≤ 31 := by omega
        have hlt64 : x5 + tt < 64 := by omega
        have HO0 : Hid (∃ q fl3, RC B w0 (((w3.setCell ⟨gR, 5, none⟩ (.bool true)).setCell ⟨gR, 6, none⟩ (.int .i64 (x5 : Int))).setCell ⟨gR, 7, none⟩ (.int .i64 (tt : Int))) gR ptr (past st.n st.t st.f st.gap true (x5 : Int) (tt : Int)) fl3 L q s ∧ Ch w (((w3.setCell ⟨gR, 5, none⟩ (.bool true)).setCell ⟨gR, 6, none⟩ (.int .i64 (x5 : Int))).setCell ⟨gR, 7, none⟩ (.int .i64 (tt : Int))) (RSt gR ptr) ∧ ((fl3 = fl ∧ winO st L s p = some ((true, x5, tt), q)) ∨ (fl3 = true ∧ winO st L s p = none))) := by
          obtain ⟨p3, fl3, e1, e2, e3⟩ := HWn.out 64 rfl
          have hw := (show RC B w0 w3 gR ptr (past st.n st.t st.f st.gap st.th (st.ld : Int) (st.tl : Int)) fl3 L p3 s from e1).window true (x5 : Int) (tt : Int)
          rw [if_neg hbad, htt] at e3
          exact ⟨p3, fl3, hw.1, e2.trans hw.2 (fun _ _ e => e), e3⟩
        have hw3 : w.heap.size ≤ w3.heap.size := by
          obtain ⟨p3, fl3, -, e2, -⟩ := HWn.out 64 rfl
          exact e2.size
        clear HWn hbad htt
        go_wp2_with fail
        have HA5 : Hid (∃ q fl3, RC B w0 ((((w3.setCell ⟨gR, 5, none⟩ (.bool true)).setCell ⟨gR, 6, none⟩ (.int .i64 (x5 : Int))).setCell ⟨gR, 7, none⟩ (.int .i64 (tt : Int))).alloc (.cells #[.bool true, .int .i64 (x5 : Int), .int .i64 (tt : Int)] 64)) gR ptr (past st.n st.t st.f st.gap true (x5 : Int) (tt : Int)) fl3 L q s ∧ Ch w ((((w3.setCell ⟨gR, 5, none⟩ (.bool true)).setCell ⟨gR, 6, none⟩ (.int .i64 (x5 : Int))).setCell ⟨gR, 7, none⟩ (.int .i64 (tt : Int))).alloc (.cells #[.bool true, .int .i64 (x5 : Int), .int .i64 (tt : Int)] 64)) (RSt gR ptr) ∧ ((fl3 = fl ∧ winO st L s p = some ((true, x5, tt), q)) ∨ (fl3 = true ∧ winO st L s p = none))) := by
          obtain ⟨q, fl3, e1, e2, e3⟩ := HO0.out
          exact ⟨q, fl3, e1.keep (alloc_gb _ _), e2.trans (Ch.of_gb (S := RSt gR ptr) (alloc_gb _ _) (fun k hk => by cases hk)) (fun _ _ e => e), e3⟩
        have HBx : Hid (((((w3.setCell ⟨gR, 5, none⟩ (.bool true)).setCell ⟨gR, 6, none⟩ (.int .i64 (x5 : Int))).setCell ⟨gR, 7, none⟩ (.int .i64 (tt : Int))).alloc (.cells #[.bool true, .int .i64 (x5 : Int), .int .i64 (tt : Int)] 64)).heap[w3.heap.size]? = some (.cells #[.bool true, .int .i64 (x5 : Int), .int .i64 (tt : Int)] 64 (0, 0)) ∧ B ≤ w3.heap.size) := by
          refine ⟨?_, by omega⟩
          have := Go.heap_alloc_new (((w3.setCell ⟨gR, 5, none⟩ (.bool true)).setCell ⟨gR, 6, none⟩ (.int .i64 (x5 : Int))).setCell ⟨gR, 7, none⟩ (.int .i64 (tt : Int))) (.cells #[.bool true, .int .i64 (x5 : Int), .int .i64 (tt : Int)] 64)
          simpa using this
        have HO := HA5
        clear HA5 HO0 hc8 hf8 HBX i5 i6 i7 i8 f5 f6 f7 f8 hnew hnew2
        generalize (((w3.setCell ⟨gR, 5, none⟩ (.bool true)).setCell ⟨gR, 6, none⟩ (.int .i64 (x5 : Int))).setCell ⟨gR, 7, none⟩ (.int .i64 (tt : Int))).alloc (.cells #[.bool true, .int .i64 (x5 : Int), .int .i64 (tt : Int)] 64) = W5 at *
        generalize w3.heap.size = b0 at *
        have HCs : Hid (∀ W (S : Nat → Prop), Ch W5 W S → (∀ k, S k → k < B) → W.cell? ⟨b0, 0, none⟩ = some (.bool true) ∧ W.cell? ⟨b0, 1, none⟩ = some (.int .i64 (x5 : Int)) ∧ W.cell? ⟨b0, 2, none⟩ = some (.int .i64 (tt : Int))) := fun W S hc hS => by
          have hb : W.heap[b0]? = _ := (hc.block (Array.getElem?_eq_some_iff.1 HBx.out.1).1 (fun e => by have := hS b0 e; have := HBx.out.2; omega)).trans HBx.out.1
          exact ⟨by simp [World.cell?, hb], by simp [World.cell?, hb], by simp [World.cell?, hb]⟩
        have HSz : Hid (∀ W, W5.grownBy W none → Calls Tryd.prog 97 #[.agg #[.bool true, .int .i64 (x5 : Int), .int .i64 (tt : Int)]] W fun e w' => e = .returned (.int .i64 ((64 - x5 - tt : Nat) : Int)) ∧ (w'.cell? ⟨b0, 0, none⟩ = some (.bool true) ∧ w'.cell? ⟨b0, 1, none⟩ = some (.int .i64 (x5 : Int)) ∧ w'.cell? ⟨b0, 2, none⟩ = some (.int .i64 (tt : Int))) ∧ Hid (W5.grownBy w' none)) := fun W hW =>
          (wsize_any true x5 tt (by omega) W).mono fun e w' ⟨q1, q2⟩ => ⟨q1, HCs.out w' (fun _ => False) (Ch.of_gb (gb_none hW q2) (fun k hk => by cases hk)) (fun _ e => e.elim), gb_none hW q2⟩
        have HTk : Hid (∀ W, W5.grownBy W none → Calls Tryd.prog 89 #[.pointer (some ⟨gR, 0, none⟩), .int .i64 ((64 - x5 - tt : Nat) : Int)] W fun e w' => ∃ (v : Nat), e = .returned (.int .u64 (v : Int)) ∧ (w'.cell? ⟨b0, 0, none⟩ = some (.bool true) ∧ w'.cell? ⟨b0, 1, none⟩ = some (.int .i64 (x5 : Int)) ∧ w'.cell? ⟨b0, 2, none⟩ = some (.int .i64 (tt : Int))) ∧ v < 2 ^ (64 - x5 - tt) ∧ Hid (∃ p' fl' R', RC B w0 w' gR ptr R' fl' L p' s ∧ RdW (turnedO st L s p) st fl (v * 2 ^ tt) p' fl' R' ∧ Ch w w' (RSt gR ptr))) := fun W hW => by
          obtain ⟨q, fl3, e1, e2, e3⟩ := HO.out
          refine (take_any w0 W gR q s (64 - x5 - tt) ptr _ fl3 L (e1.keep hW) (by omega) (.inr (.inl (by omega)))).mono ?_
          rintro e w' ⟨v, p', fl', g1, g2, g3, g4⟩
          have hc5 : Ch W5 w' (RSt gR ptr) := Ch.trans (Ch.of_gb (S := RSt gR ptr) hW (fun k hk => by cases hk)) g4 (fun _ _ e => e)
          refine ⟨v, g1, HCs.out w' _ hc5 (fun k hk => (e1.blocks k hk).2), g3.lt, p', fl', _, g2, ?_, e2.trans hc5 (fun _ _ e => e)⟩
          unfold turnedO
          rcases e3 with ⟨r1, r2⟩ | ⟨r1, r2⟩
          · rw [r2]
            simp only
            rcases g3 with ⟨k1, k2⟩ | ⟨k1, -, -, k2⟩
            · rw [k1]
              exact .inl ⟨_, rfl, by rw [k2, r1], rfl, hl31, hlt64⟩
            · rw [k1]
              exact .inr ⟨rfl, k2, _, _, _, rfl⟩
          · rw [r2]
            refine .inr ⟨rfl, ?_, _, _, _, rfl⟩
            rcases g3 with ⟨-, k2⟩ | ⟨-, -, -, k2⟩
            · rw [k2, r1]
            · exact k2
        obtain ⟨m0, m1, m2⟩ := HCs.out W5 (fun _ => False) (Ch.refl _ _) (fun _ e => e.elim)
        have HFit : Hid (∀ v : Nat, v < 2 ^ (64 - x5 - tt) → IntKind.u64.wrap ((v : Int) * 2 ^ tt) = ((v * 2 ^ tt : Nat) : Int) ∧ v * 2 ^ tt < 18446744073709551616) := fun v hv => by
          have := shl_fit hv rfl hlt64
          refine ⟨?_, this⟩
          have e : (v : Int) * 2 ^ tt = ((v * 2 ^ tt : Nat) : Int) := by rw [Int.natCast_mul, Int.natCast_pow]; rfl
          rw [e]
          exact wrapu_nat this
        clear HCs HO HBx
        have hszb : 64 - x5 - tt ≤ 64 := by omega
        generalize 64 - x5 - tt = sz at *
        go_region_held3 (fun w' => w'.cell? ⟨b0, 0, none⟩ = some (.bool true) ∧ w'.cell? ⟨b0, 1, none⟩ = some (.int .i64 (x5 : Int)) ∧ w'.cell? ⟨b0, 2, none⟩ = some (.int .i64 (tt : Int))) (go_keep)
          (first
            | (go_at_call 97; refine (HSz.out _ ?_).mono ?_; (first | exact gb_refl _ _ | exact gb_drew _ _); rintro e w6 ⟨rfl, ⟨n0, n1, n2⟩, HG6⟩)
            | (go_at_call 89; refine (HTk.out _ HG6.out).mono ?_; rintro e w7 ⟨v7, rfl, ⟨k0, k1, k2⟩, hv7, H7⟩))
        clear HSz HTk m0 m1 m2
        have HF7 := HFit.out v7 hv7
        have hfe := HF7.1
        have HF8 := hidJ HF7.2
        clear HFit HF7 hv7
        go_wp2
        go_ret
        obtain ⟨p', fl', R', r1, r2, r3⟩ := H7.out
        exact ⟨v7 * 2 ^ tt, p', fl', R', by first | rfl | (rw [← hfe]; rfl), HF8.out, by first | exact r1 | exact r1.keep (gb_drew _ _), r2, by first | exact r3 | exact r3.trans (Ch.of_gb (S := RSt gR ptr) (gb_drew _ none) (fun k hk => by cases hk)) (fun _ _ e => e)⟩
    · simp only [if_neg hz0] at HWn hzz
      have hzb : ((x6 : Int) == 0) = false := by rw [beq_eq_false_iff_ne]; omega
      by_cases hbad : 64 < x5 + x6
      · have hneg : (64 : Int) - (x5 : Int) - (x6 : Int) < 0 := by omega
        have HEnd : Hid (∀ C, ∃ (x p' : Nat) (fl' : Bool) (R' : Rst), Ending.returned (.int .u64 0) = .returned (.int .u64 (x : Int)) ∧ x < 18446744073709551616 ∧ RC B w0 (((((w3.setCell ⟨gR, 5, none⟩ (.bool true)).setCell ⟨gR, 6, none⟩ (.int .i64 (x5 : Int))).setCell ⟨gR, 7, none⟩ (.int .i64 (64 - (x5 : Int) - (x6 : Int)))).alloc C).setCell ⟨gR, 8, none⟩ (.bool true)) gR ptr R' fl' L p' s ∧ RdW (turnedO st L s p) st fl x p' fl' R' ∧ Ch w (((((w3.setCell ⟨gR, 5, none⟩ (.bool true)).setCell ⟨gR, 6, none⟩ (.int .i64 (x5 : Int))).setCell ⟨gR, 7, none⟩ (.int .i64 (64 - (x5 : Int) - (x6 : Int)))).alloc C).setCell ⟨gR, 8, none⟩ (.bool true)) (RSt gR ptr)) := by
          intro C
          obtain ⟨p3, fl3, e1, e2, e3⟩ := HWn.out x6 rfl
          have hw := (show RC B w0 w3 gR ptr (past st.n st.t st.f st.gap st.th (st.ld : Int) (st.tl : Int)) fl3 L p3 s from e1).window true (x5 : Int) (64 - (x5 : Int) - (x6 : Int))
          have hno : winO st L s p = none := by
            rcases e3 with ⟨-, r⟩ | ⟨-, r⟩
            · rw [r, if_pos hbad]
            · exact r
          refine ⟨0, p3, true, _, rfl, by decide, (hw.1.keep (alloc_gb _ C)).fault true, .inr ⟨by unfold turnedO; rw [hno], rfl, _, _, _, rfl⟩, ?_⟩
          exact ((e2.trans hw.2 (fun _ _ e => e)).trans (Ch.of_gb (S := RSt gR ptr) (alloc_gb _ C) (fun k hk => by cases hk)) (fun _ _ e => e)).trans (RC.ch (gb_set _ _ _ _)) (fun _ _ e => e)
        clear HWn
        go_wp2
        go_ret
        exact HEnd.out _
      · obtain ⟨tt, htt⟩ : ∃ tt : Nat, 64 - x5 - x6 = tt := ⟨_, rfl⟩
        have hpos : (64 : Int) - (x5 : Int) - (x6 : Int) = (tt : Int) := by omega
        have hl31 : x5 ≤ 31 := by omega
        have hlt64 : x5 + tt < 64 := by omega
        have HO0 : Hid (∃ q fl3, RC B w0 (((w3.setCell ⟨gR, 5, none⟩ (.bool true)).setCell ⟨gR, 6, none⟩ (.int .i64 (x5 : Int))).setCell ⟨gR, 7, none⟩ (.int .i64 (tt : Int))) gR ptr (past st.n st.t st.f st.gap true (x5 : Int) (tt : Int)) fl3 L q s ∧ Ch w (((w3.setCell ⟨gR, 5, none⟩ (.bool true)).setCell ⟨gR, 6, none⟩ (.int .i64 (x5 : Int))).setCell ⟨gR, 7, none⟩ (.int .i64 (tt : Int))) (RSt gR ptr) ∧ ((fl3 = fl ∧ winO st L s p = some ((true, x5, tt), q)) ∨ (fl3 = true ∧ winO st L s p = none))) := by
          obtain ⟨p3, fl3, e1, e2, e3⟩ := HWn.out x6 rfl
          have hw := (show RC B w0 w3 gR ptr (past st.n st.t st.f st.gap st.th (st.ld : Int) (st.tl : Int)) fl3 L p3 s from e1).window true (x5 : Int) (tt : Int)
          rw [if_neg hbad, htt] at e3
          exact ⟨p3, fl3, hw.1, e2.trans hw.2 (fun _ _ e => e), e3⟩
        have hw3 : w.heap.size ≤ w3.heap.size := by
          obtain ⟨p3, fl3, -, e2, -⟩ := HWn.out x6 rfl
          exact e2.size
        clear HWn hbad htt
        go_wp2_with fail
        have HA5 : Hid (∃ q fl3, RC B w0 ((((w3.setCell ⟨gR, 5, none⟩ (.bool true)).setCell ⟨gR, 6, none⟩ (.int .i64 (x5 : Int))).setCell ⟨gR, 7, none⟩ (.int .i64 (tt : Int))).alloc (.cells #[.bool true, .int .i64 (x5 : Int), .int .i64 (tt : Int)] 64)) gR ptr (past st.n st.t st.f st.gap true (x5 : Int) (tt : Int)) fl3 L q s ∧ Ch w ((((w3.setCell ⟨gR, 5, none⟩ (.bool true)).setCell ⟨gR, 6, none⟩ (.int .i64 (x5 : Int))).setCell ⟨gR, 7, none⟩ (.int .i64 (tt : Int))).alloc (.cells #[.bool true, .int .i64 (x5 : Int), .int .i64 (tt : Int)] 64)) (RSt gR ptr) ∧ ((fl3 = fl ∧ winO st L s p = some ((true, x5, tt), q)) ∨ (fl3 = true ∧ winO st L s p = none))) := by
          obtain ⟨q, fl3, e1, e2, e3⟩ := HO0.out
          exact ⟨q, fl3, e1.keep (alloc_gb _ _), e2.trans (Ch.of_gb (S := RSt gR ptr) (alloc_gb _ _) (fun k hk => by cases hk)) (fun _ _ e => e), e3⟩
        have HBx : Hid (((((w3.setCell ⟨gR, 5, none⟩ (.bool true)).setCell ⟨gR, 6, none⟩ (.int .i64 (x5 : Int))).setCell ⟨gR, 7, none⟩ (.int .i64 (tt : Int))).alloc (.cells #[.bool true, .int .i64 (x5 : Int), .int .i64 (tt : Int)] 64)).heap[w3.heap.size]? = some (.cells #[.bool true, .int .i64 (x5 : Int), .int .i64 (tt : Int)] 64 (0, 0)) ∧ B ≤ w3.heap.size) := by
          refine ⟨?_, by omega⟩
          have := Go.heap_alloc_new (((w3.setCell ⟨gR, 5, none⟩ (.bool true)).setCell ⟨gR, 6, none⟩ (.int .i64 (x5 : Int))).setCell ⟨gR, 7, none⟩ (.int .i64 (tt : Int))) (.cells #[.bool true, .int .i64 (x5 : Int), .int .i64 (tt : Int)] 64)
          simpa using this
        have HO := HA5
        clear HA5 HO0 hc8 hf8 HBX i5 i6 i7 i8 f5 f6 f7 f8 hnew hnew2
        generalize (((w3.setCell ⟨gR, 5, none⟩ (.bool true)).setCell ⟨gR, 6, none⟩ (.int .i64 (x5 : Int))).setCell ⟨gR, 7, none⟩ (.int .i64 (tt : Int))).alloc (.cells #[.bool true, .int .i64 (x5 : Int), .int .i64 (tt : Int)] 64) = W5 at *
        generalize w3.heap.size = b0 at *
        have HCs : Hid (∀ W (S : Nat → Prop), Ch W5 W S → (∀ k, S k → k < B) → W.cell? ⟨b0, 0, none⟩ = some (.bool true) ∧ W.cell? ⟨b0, 1, none⟩ = some (.int .i64 (x5 : Int)) ∧ W.cell? ⟨b0, 2, none⟩ = some (.int .i64 (tt : Int))) := fun W S hc hS => by
          have hb : W.heap[b0]? = _ := (hc.block (Array.getElem?_eq_some_iff.1 HBx.out.1).1 (fun e => by have := hS b0 e; have := HBx.out.2; omega)).trans HBx.out.1
          exact ⟨by simp [World.cell?, hb], by simp [World.cell?, hb], by simp [World.cell?, hb]⟩
        have HSz : Hid (∀ W, W5.grownBy W none → Calls Tryd.prog 97 #[.agg #[.bool true, .int .i64 (x5 : Int), .int .i64 (tt : Int)]] W fun e w' => e = .returned (.int .i64 ((64 - x5 - tt : Nat) : Int)) ∧ (w'.cell? ⟨b0, 0, none⟩ = some (.bool true) ∧ w'.cell? ⟨b0, 1, none⟩ = some (.int .i64 (x5 : Int)) ∧ w'.cell? ⟨b0, 2, none⟩ = some (.int .i64 (tt : Int))) ∧ Hid (W5.grownBy w' none)) := fun W hW =>
          (wsize_any true x5 tt (by omega) W).mono fun e w' ⟨q1, q2⟩ => ⟨q1, HCs.out w' (fun _ => False) (Ch.of_gb (gb_none hW q2) (fun k hk => by cases hk)) (fun _ e => e.elim), gb_none hW q2⟩
        have HTk : Hid (∀ W, W5.grownBy W none → Calls Tryd.prog 89 #[.pointer (some ⟨gR, 0, none⟩), .int .i64 ((64 - x5 - tt : Nat) : Int)] W fun e w' => ∃ (v : Nat), e = .returned (.int .u64 (v : Int)) ∧ (w'.cell? ⟨b0, 0, none⟩ = some (.bool true) ∧ w'.cell? ⟨b0, 1, none⟩ = some (.int .i64 (x5 : Int)) ∧ w'.cell? ⟨b0, 2, none⟩ = some (.int .i64 (tt : Int))) ∧ v < 2 ^ (64 - x5 - tt) ∧ Hid (∃ p' fl' R', RC B w0 w' gR ptr R' fl' L p' s ∧ RdW (turnedO st L s p) st fl (v * 2 ^ tt) p' fl' R' ∧ Ch w w' (RSt gR ptr))) := fun W hW => by
          obtain ⟨q, fl3, e1, e2, e3⟩ := HO.out
          refine (take_any w0 W gR q s (64 - x5 - tt) ptr _ fl3 L (e1.keep hW) (by omega) (.inr (.inl (by omega)))).mono ?_
          rintro e w' ⟨v, p', fl', g1, g2, g3, g4⟩
          have hc5 : Ch W5 w' (RSt gR ptr) := Ch.trans (Ch.of_gb (S := RSt gR ptr) hW (fun k hk => by cases hk)) g4 (fun _ _ e => e)
          refine ⟨v, g1, HCs.out w' _ hc5 (fun k hk => (e1.blocks k hk).2), g3.lt, p', fl', _, g2, ?_, e2.trans hc5 (fun _ _ e => e)⟩
          unfold turnedO
          rcases e3 with ⟨r1, r2⟩ | ⟨r1, r2⟩
          · rw [r2]
            simp only
            rcases g3 with ⟨k1, k2⟩ | ⟨k1, -, -, k2⟩
            · rw [k1]
              exact .inl ⟨_, rfl, by rw [k2, r1], rfl, hl31, hlt64⟩
            · rw [k1]
              exact .inr ⟨rfl, k2, _, _, _, rfl⟩
          · rw [r2]
            refine .inr ⟨rfl, ?_, _, _, _, rfl⟩
            rcases g3 with ⟨-, k2⟩ | ⟨-, -, -, k2⟩
            · rw [k2, r1]
            · exact k2
        obtain ⟨m0, m1, m2⟩ := HCs.out W5 (fun _ => False) (Ch.refl _ _) (fun _ e => e.elim)
        have HFit : Hid (∀ v : Nat, v < 2 ^ (64 - x5 - tt) → IntKind.u64.wrap ((v : Int) * 2 ^ tt) = ((v * 2 ^ tt : Nat) : Int) ∧ v * 2 ^ tt < 18446744073709551616) := fun v hv => by
          have := shl_fit hv rfl hlt64
          refine ⟨?_, this⟩
          have e : (v : Int) * 2 ^ tt = ((v * 2 ^ tt : Nat) : Int) := by rw [Int.natCast_mul, Int.natCast_pow]; rfl
          rw [e]
          exact wrapu_nat this
        clear HCs HO HBx
        have hszb : 64 - x5 - tt ≤ 64 := by omega
        generalize 64 - x5 - tt = sz at *
        go_region_held3 (fun w' => w'.cell? ⟨b0, 0, none⟩ = some (.bool true) ∧ w'.cell? ⟨b0, 1, none⟩ = some (.int .i64 (x5 : Int)) ∧ w'.cell? ⟨b0, 2, none⟩ = some (.int .i64 (tt : Int))) (go_keep)
          (first
            | (go_at_call 97; refine (HSz.out _ ?_).mono ?_; (first | exact gb_refl _ _ | exact gb_drew _ _); rintro e w6 ⟨rfl, ⟨n0, n1, n2⟩, HG6⟩)
            | (go_at_call 89; refine (HTk.out _ HG6.out).mono ?_; rintro e w7 ⟨v7, rfl, ⟨k0, k1, k2⟩, hv7, H7⟩))
        clear HSz HTk m0 m1 m2
        have HF7 := HFit.out v7 hv7
        have hfe := HF7.1
        have HF8 := hidJ HF7.2
        clear HFit HF7 hv7
        go_wp2
        go_ret
        obtain ⟨p', fl', R', r1, r2, r3⟩ := H7.out
        exact ⟨v7 * 2 ^ tt, p', fl', R', by first | rfl | (rw [← hfe]; rfl), HF8.out, by first | exact r1 | exact r1.keep (gb_drew _ _), r2, by first | exact r3 | exact r3.trans (Ch.of_gb (S := RSt gR ptr) (gb_drew _ none) (fun k hk => by cases hk)) (fun _ _ e => e)⟩
  · have hxb : ((x1 : Int) == 1) = false := by rw [beq_eq_false_iff_ne]; omega
    have hxi : ¬ (x1 : Int) = 1 := by omega
    have hc := H1.out.1.cell
    have i5 := hc.2.2.2.2.2.1
    have i6 := hc.2.2.2.2.2.2.1
    have i7 := hc.2.2.2.2.2.2.2.1
    have hnew : ¬ gR = w1.heap.size := by have := H1.out.1.lt; omega
    have hnew2 : ¬ w1.heap.size = gR := by omega
    have hc8 : ∀ C, (w1.alloc C).cell? ⟨gR, 8, none⟩ = some (.bool fl1) := fun C => ((H1.out.1.keep (alloc_gb w1 C)).cell).2.2.2.2.2.2.2.2.1
    have hf8 : ∀ C, (w1.alloc C).frozen? ⟨gR, 8, none⟩ = false := fun C => ((H1.out.1.keep (alloc_gb w1 C)).cell).2.2.2.2.2.2.2.2.2 8
    have HW1 : Hid ((fl1 = fl ∧ winO st L s p = (if st.th = true then some ((true, st.ld, st.tl), p1) else none)) ∨ (fl1 = true ∧ winO st L s p = none)) := by
      unfold winO
      rcases H1.out.2.1 with ⟨e1, e2⟩ | ⟨e1, -, -, e2⟩
      · rw [e1]
        simp only [if_neg hx1]
        exact .inl ⟨e2, by first | rfl | trivial⟩
      · rw [e1]
        exact .inr ⟨e2, rfl⟩
    have hw1 := H1.out.2.2.size
    clear hc
    simp only [pst, past] at i5 i6 i7
    cases hth : st.th with
    | false =>
      rw [hth] at i5 HW1
      have HEnd : Hid (∀ C, ∃ (x p' : Nat) (fl' : Bool) (R' : Rst), Ending.returned (.int .u64 0) = .returned (.int .u64 (x : Int)) ∧ x < 18446744073709551616 ∧ RC B w0 ((w1.alloc C).setCell ⟨gR, 8, none⟩ (.bool true)) gR ptr R' fl' L p' s ∧ RdW (turnedO st L s p) st fl x p' fl' R' ∧ Ch w ((w1.alloc C).setCell ⟨gR, 8, none⟩ (.bool true)) (RSt gR ptr)) := by
        intro C
        have hno : winO st L s p = none := by
          rcases HW1.out with ⟨-, r⟩ | ⟨-, r⟩
          · rw [r]; rfl
          · exact r
        refine ⟨0, p1, true, _, rfl, by decide, (H1.out.1.keep (alloc_gb _ C)).fault true, .inr ⟨by unfold turnedO; rw [hno], rfl, _, _, _, rfl⟩, ?_⟩
        exact (H1.out.2.2.trans (Ch.of_gb (S := RSt gR ptr) (alloc_gb _ C) (fun k hk => by cases hk)) (fun _ _ e => e)).trans (RC.ch (gb_set _ _ _ _)) (fun _ _ e => e)
      clear H1 HW1
      go_wp2
      go_ret
      exact HEnd.out _
    | true =>
      rw [hth] at i5 HW1
      simp only [if_true] at HW1
      have hl31 := hwin.1
      have hlt64 := hwin.2
      have HR1 : Hid (RC B w0 w1 gR ptr (past st.n st.t st.f st.gap true (st.ld : Int) (st.tl : Int)) fl1 L p1 s ∧ Ch w w1 (RSt gR ptr)) := by
        have := H1.out.1
        unfold pst at this
        rw [hth] at this
        exact ⟨this, H1.out.2.2⟩
      clear H1 hth hwin
      generalize st.tl = tt at *
      go_wp2_with fail
      have HO : Hid (∃ q fl3, RC B w0 (w1.alloc (.cells #[.bool true, .int .i64 (st.ld : Int), .int .i64 (tt : Int)] 64)) gR ptr (past st.n st.t st.f st.gap true (st.ld : Int) (tt : Int)) fl3 L q s ∧ Ch w (w1.alloc (.cells #[.bool true, .int .i64 (st.ld : Int), .int .i64 (tt : Int)] 64)) (RSt gR ptr) ∧ ((fl3 = fl ∧ winO st L s p = some ((true, st.ld, tt), q)) ∨ (fl3 = true ∧ winO st L s p = none))) :=
        ⟨p1, fl1, HR1.out.1.keep (alloc_gb _ _), HR1.out.2.trans (Ch.of_gb (S := RSt gR ptr) (alloc_gb _ _) (fun k hk => by cases hk)) (fun _ _ e => e), HW1.out⟩
      have HBx : Hid ((w1.alloc (.cells #[.bool true, .int .i64 (st.ld : Int), .int .i64 (tt : Int)] 64)).heap[w1.heap.size]? = some (.cells #[.bool true, .int .i64 (st.ld : Int), .int .i64 (tt : Int)] 64 (0, 0)) ∧ B ≤ w1.heap.size) := ⟨Go.heap_alloc_new w1 _, by omega⟩
      clear HR1 HW1 hc8 hf8 i5 i6 i7 hnew hnew2 hw1
      generalize w1.alloc (.cells #[.bool true, .int .i64 (st.ld : Int), .int .i64 (tt : Int)] 64) = W5 at *
      generalize w1.heap.size = b0 at *
      have HCs : Hid (∀ W (S : Nat → Prop), Ch W5 W S → (∀ k, S k → k < B) → W.cell? ⟨b0, 0, none⟩ = some (.bool true) ∧ W.cell? ⟨b0, 1, none⟩ = some (.int .i64 (st.ld : Int)) ∧ W.cell? ⟨b0, 2, none⟩ = some (.int .i64 (tt : Int))) := fun W S hc hS => by
        have hb : W.heap[b0]? = _ := (hc.block (Array.getElem?_eq_some_iff.1 HBx.out.1).1 (fun e => by have := hS b0 e; have := HBx.out.2; omega)).trans HBx.out.1
        exact ⟨by simp [World.cell?, hb], by simp [World.cell?, hb], by simp [World.cell?, hb]⟩
      have HSz : Hid (∀ W, W5.grownBy W none → Calls Tryd.prog 97 #[.agg #[.bool true, .int .i64 (st.ld : Int), .int .i64 (tt : Int)]] W fun e w' => e = .returned (.int .i64 ((64 - st.ld - tt : Nat) : Int)) ∧ (w'.cell? ⟨b0, 0, none⟩ = some (.bool true) ∧ w'.cell? ⟨b0, 1, none⟩ = some (.int .i64 (st.ld : Int)) ∧ w'.cell? ⟨b0, 2, none⟩ = some (.int .i64 (tt : Int))) ∧ Hid (W5.grownBy w' none)) := fun W hW =>
        (wsize_any true st.ld tt (by omega) W).mono fun e w' ⟨q1, q2⟩ => ⟨q1, HCs.out w' (fun _ => False) (Ch.of_gb (gb_none hW q2) (fun k hk => by cases hk)) (fun _ e => e.elim), gb_none hW q2⟩
      have HTk : Hid (∀ W, W5.grownBy W none → Calls Tryd.prog 89 #[.pointer (some ⟨gR, 0, none⟩), .int .i64 ((64 - st.ld - tt : Nat) : Int)] W fun e w' => ∃ (v : Nat), e = .returned (.int .u64 (v : Int)) ∧ (w'.cell? ⟨b0, 0, none⟩ = some (.bool true) ∧ w'.cell? ⟨b0, 1, none⟩ = some (.int .i64 (st.ld : Int)) ∧ w'.cell? ⟨b0, 2, none⟩ = some (.int .i64 (tt : Int))) ∧ v < 2 ^ (64 - st.ld - tt) ∧ Hid (∃ p' fl' R', RC B w0 w' gR ptr R' fl' L p' s ∧ RdW (turnedO st L s p) st fl (v * 2 ^ tt) p' fl' R' ∧ Ch w w' (RSt gR ptr))) := fun W hW => by
        obtain ⟨q, fl3, e1, e2, e3⟩ := HO.out
        refine (take_any w0 W gR q s (64 - st.ld - tt) ptr _ fl3 L (e1.keep hW) (by omega) (.inr (.inl (by omega)))).mono ?_
        rintro e w' ⟨v, p', fl', g1, g2, g3, g4⟩
        have hc5 : Ch W5 w' (RSt gR ptr) := Ch.trans (Ch.of_gb (S := RSt gR ptr) hW (fun k hk => by cases hk)) g4 (fun _ _ e => e)
        refine ⟨v, g1, HCs.out w' _ hc5 (fun k hk => (e1.blocks k hk).2), g3.lt, p', fl', _, g2, ?_, e2.trans hc5 (fun _ _ e => e)⟩
        unfold turnedO
        rcases e3 with ⟨r1, r2⟩ | ⟨r1, r2⟩
        · rw [r2]
          simp only
          rcases g3 with ⟨k1, k2⟩ | ⟨k1, -, -, k2⟩
          · rw [k1]
            exact .inl ⟨_, rfl, by rw [k2, r1], rfl, hl31, hlt64⟩
          · rw [k1]
            exact .inr ⟨rfl, k2, _, _, _, rfl⟩
        · rw [r2]
          refine .inr ⟨rfl, ?_, _, _, _, rfl⟩
          rcases g3 with ⟨-, k2⟩ | ⟨-, -, -, k2⟩
          · rw [k2, r1]
          · exact k2
      obtain ⟨m0, m1, m2⟩ := HCs.out W5 (fun _ => False) (Ch.refl _ _) (fun _ e => e.elim)
      have HFit : Hid (∀ v : Nat, v < 2 ^ (64 - st.ld - tt) → IntKind.u64.wrap ((v : Int) * 2 ^ tt) = ((v * 2 ^ tt : Nat) : Int) ∧ v * 2 ^ tt < 18446744073709551616) := fun v hv => by
        have := shl_fit hv rfl hlt64
        refine ⟨?_, this⟩
        have e : (v : Int) * 2 ^ tt = ((v * 2 ^ tt : Nat) : Int) := by rw [Int.natCast_mul, Int.natCast_pow]; rfl
        rw [e]
        exact wrapu_nat this
      clear HCs HO HBx
      have hszb : 64 - st.ld - tt ≤ 64 := by omega
      generalize 64 - st.ld - tt = sz at *
      go_region_held3 (fun w' => w'.cell? ⟨b0, 0, none⟩ = some (.bool true) ∧ w'.cell? ⟨b0, 1, none⟩ = some (.int .i64 (st.ld : Int)) ∧ w'.cell? ⟨b0, 2, none⟩ = some (.int .i64 (tt : Int))) (go_keep)
        (first
          | (go_at_call 97; refine (HSz.out _ ?_).mono ?_; (first | exact gb_refl _ _ | exact gb_drew _ _); rintro e w6 ⟨rfl, ⟨n0, n1, n2⟩, HG6⟩)
          | (go_at_call 89; refine (HTk.out _ HG6.out).mono ?_; rintro e w7 ⟨v7, rfl, ⟨k0, k1, k2⟩, hv7, H7⟩))
      clear HSz HTk m0 m1 m2
      have HF7 := HFit.out v7 hv7
      have hfe := HF7.1
      have HF8 := hidJ HF7.2
      clear HFit HF7 hv7
      go_wp2
      go_ret
      obtain ⟨p', fl', R', r1, r2, r3⟩ := H7.out
      exact ⟨v7 * 2 ^ tt, p', fl', R', by first | rfl | (rw [← hfe]; rfl), HF8.out, by first | exact r1 | exact r1.keep (gb_drew _ _), r2, by first | exact r3 | exact r3.trans (Ch.of_gb (S := RSt gR ptr) (gb_drew _ none) (fun k hk => by cases hk)) (fun _ _ e => e)⟩
end Go.Proofs.YtkiefmhampfhoaaDoor
