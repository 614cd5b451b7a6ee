/-
  A chunk's reader: what value, (*past).add and next come to: the walks.
-/
import Derived.Test.YtkiefmhampfhoaaDoorCkQ5
namespace Go.Proofs.YtkiefmhampfhoaaDoor
open Go.RowKit
variable {B : Nat}

theorem ffrom_run (b : Nat) (_hb : b < 18446744073709551616) (w : World) : (callFunc 46 #[.int .u64 (b : Int)]).run Tryd.prog w = .ok (.value (.float .f64 b)) w := by
  rw [run_callFunc_extern (e := Extern.MathFloatBits.float64frombits) Tryd.func46 (by kernel_rfl) (by kernel_rfl) (by kernel_rfl) (by kernel_rfl)]
  rfl
set_option maxHeartbeats 1600000 in
theorem value_any (w0 w : World) (gR p s : Nat) (ptr : Value) (st : Pst) (fl : Bool) (L : List UInt8) (h : RC B w0 w gR ptr (pst st) fl L p s) (hB : B ≤ w.heap.size) (hwin : st.ld ≤ 31 ∧ st.ld + st.tl < 64) (hf : st.f < 18446744073709551616) :
    Calls Tryd.prog 91 #[.pointer (some ⟨gR, 0, none⟩)] w fun e w' => ∃ (F p' : Nat) (fl' : Bool) (R' : Rst), e = .returned (.float .f64 F) ∧ F < 18446744073709551616 ∧ RC B w0 w' gR ptr R' fl' L p' s ∧ RdW (valO st L s p) st fl F p' fl' R' ∧ Ch w w' (RSt gR ptr) := by
  have HT1 := hidJ (take_any w0 w gR p s 1 ptr (pst st) fl L h (by omega) (.inr (.inl (by omega))))
  have c3 := h.cell.2.2.2.1
  simp only [pst, past] at c3
  have hfb := fbits_run st.f
  have hff := ffrom_run st.f hf
  clear h
  go_enter Tryd.func91, Tryd.ntmps91
  go_wp2_with fail
  refine HT1.out.mono ?_
  rintro e w1 ⟨x1, p1, fl1, rfl, h1, h2, h3⟩
  have H1 := hidJ (And.intro h1 (And.intro h2 h3))
  clear HT1 h1 h2 h3
  by_cases hx1 : x1 = 1
  · subst hx1
    have H1s : Hid (tkO L s p 1 = some (1, p1) ∧ fl1 = fl) := by
      rcases H1.out.2.1 with q | ⟨-, q, -⟩
      · exact q
      · cases q
    have HTd := hidJ (turned_any w0 w1 gR p1 s ptr st fl1 L H1.out.1 (Nat.le_trans hB H1.out.2.2.size) hwin)
    go_wp2_with fail
    refine HTd.out.mono ?_
    rintro e w2 ⟨x, p2, fl2, R2, rfl, hx, h1, h2, h3⟩
    have hxl : st.f ^^^ x < 18446744073709551616 := xor_lt hf hx
    have hxr : bits .xor .u64 (st.f : Int) (x : Int) = ((st.f ^^^ x : Nat) : Int) := by
      have h := I64_xor (BitVec.ofNat 64 st.f) (BitVec.ofNat 64 x)
      rw [I64_of hf, I64_of hx] at h
      rw [h]
      unfold I64
      rw [BitVec.toNat_xor, BitVec.toNat_ofNat, BitVec.toNat_ofNat, Nat.mod_eq_of_lt hf, Nat.mod_eq_of_lt hx]
    have hff2 := ffrom_run (st.f ^^^ x) hxl
    have HE : Hid (∃ (F p' : Nat) (fl' : Bool) (R' : Rst), Ending.returned (.float .f64 (st.f ^^^ x)) = .returned (.float .f64 F) ∧ F < 18446744073709551616 ∧ RC B w0 w2 gR ptr R' fl' L p' s ∧ RdW (valO st L s p) st fl F p' fl' R' ∧ Ch w w2 (RSt gR ptr)) := by
      refine ⟨_, p2, fl2, R2, rfl, hxl, h1, ?_, H1.out.2.2.trans h3 (fun _ _ e => e)⟩
      unfold valO
      rw [H1s.out.1]
      simp only [if_true]
      rcases h2 with ⟨wd, e1, e2, e3, e4⟩ | ⟨e1, e2, e3⟩
      · rw [e1]
        exact .inl ⟨wd, rfl, by rw [e2, H1s.out.2], e3, e4⟩
      · rw [e1]
        exact .inr ⟨rfl, e2, e3⟩
    clear h1 h2 h3 HTd H1 H1s hx hxl
    generalize st.f ^^^ x = y at *
    go_wp2
    go_ret
    exact HE.out
  · have hxb : ((x1 : Int) == 1) = false := by rw [beq_eq_false_iff_ne]; omega
    have hxi : ¬ (x1 : Int) = 1 := by omega
    have HE : Hid (∃ (F p' : Nat) (fl' : Bool) (R' : Rst), Ending.returned (.float .f64 st.f) = .returned (.float .f64 F) ∧ F < 18446744073709551616 ∧ RC B w0 w1 gR ptr R' fl' L p' s ∧ RdW (valO st L s p) st fl F p' fl' R' ∧ Ch w w1 (RSt gR ptr)) := by
      refine ⟨st.f, p1, fl1, _, rfl, hf, H1.out.1, ?_, H1.out.2.2⟩
      unfold valO
      rcases H1.out.2.1 with ⟨e1, e2⟩ | ⟨e1, -, -, e2⟩
      · rw [e1]
        simp only [if_neg hx1]
        exact .inl ⟨(st.th, st.ld, st.tl), rfl, e2, rfl, hwin⟩
      · rw [e1]
        exact .inr ⟨rfl, e2, _, _, _, rfl⟩
    clear H1
    go_wp2
    go_ret
    exact HE.out

set_option maxHeartbeats 1600000 in
theorem addR_any (w0 w : World) (gR p s n f f' : Nat) (t t' gap : Int) (th : Bool) (ld tl : Int) (ptr : Value) (fl : Bool) (L : List UInt8) (h : RC B w0 w gR ptr (past n t f gap th ld tl) fl L p s) (hn : n ≤ 1000) :
    Calls Tryd.prog 57 #[.pointer (some ⟨gR, 1, none⟩), .agg #[.int .i64 t', .float .f64 f']] w fun e w' => e = .returned (.tuple #[]) ∧ RC B w0 w' gR ptr (past (n + 1) t' f' (wrap64 (t' - t)) th ld tl) fl L p s ∧ Ch w w' (RSt gR ptr) := by
  have HW := hidJ h
  obtain ⟨-, c1, c2, c3, c4, -, -, -, -, fz⟩ := h.cell
  have f1 := fz 1
  have f2 := fz 2
  have f3 := fz 3
  have f4 := fz 4
  have hlt := h.lt
  simp only [past] at c1 c2 c3 c4
  clear h fz
  go_enter Tryd.func57, Tryd.ntmps57
  go_wp2
  obtain ⟨W1, hW1⟩ : ∃ W1, w.alloc (.cells #[.int .i64 t', .float .f64 f'] 27) = W1 := ⟨_, rfl⟩
  have hal : w.grownBy W1 none := by rw [← hW1]; exact alloc_gb _ _
  have hb0 : W1.heap[w.heap.size]? = some (.cells #[.int .i64 t', .float .f64 f'] 27 (0, 0)) := by rw [← hW1]; exact Go.heap_alloc_new w _
  have hgb := hal.block gR hlt (by simp)
  have HB := hidJ (And.intro hgb hal)
  have e0 : W1.cell? ⟨w.heap.size, 0, none⟩ = some (.int .i64 t') := by simp [World.cell?, hb0]
  have e1 : W1.cell? ⟨w.heap.size, 1, none⟩ = some (.float .f64 f') := by simp [World.cell?, hb0]
  have d1 : W1.cell? ⟨gR, 1, none⟩ = _ := (World.cell?_of_block hgb).trans c1
  have d2 : W1.cell? ⟨gR, 2, none⟩ = _ := (World.cell?_of_block hgb).trans c2
  have d3 : W1.cell? ⟨gR, 3, none⟩ = _ := (World.cell?_of_block hgb).trans c3
  have d4 : W1.cell? ⟨gR, 4, none⟩ = _ := (World.cell?_of_block hgb).trans c4
  have g1 : W1.frozen? ⟨gR, 1, none⟩ = _ := (World.frozen?_of_block hgb).trans f1
  have g2 : W1.frozen? ⟨gR, 2, none⟩ = _ := (World.frozen?_of_block hgb).trans f2
  have g3 : W1.frozen? ⟨gR, 3, none⟩ = _ := (World.frozen?_of_block hgb).trans f3
  have g4 : W1.frozen? ⟨gR, 4, none⟩ = _ := (World.frozen?_of_block hgb).trans f4
  have hne : ¬ w.heap.size = gR := by omega
  have hne2 : ¬ gR = w.heap.size := by omega
  rw [hW1]
  clear hW1 hal hb0 hgb c1 c2 c3 c4 f1 f2 f3 f4 hlt
  generalize w.heap.size = b0 at *
  have hsf := store_float
  go_region
  go_wp2
  go_end0
  have h0 := HB.out.1.trans HW.out.box
  have h1 := heap_setCell_same W1 gR 4 _ _ (.int .i64 (wrap64 (t' - t))) h0
  have h2 := heap_setCell_same _ gR 2 _ _ (.int .i64 t') h1
  have h3 := heap_setCell_same _ gR 3 _ _ (.float .f64 f') h2
  have h4 := heap_setCell_same _ gR 1 _ _ (.int .i64 ((n : Int) + 1)) h3
  have hs : ∀ (A C : World) (j : Nat) (x : Value), A.grownBy C (some gR) → A.grownBy (C.setCell ⟨gR, j, none⟩ x) (some gR) := fun A C j x h => gb_trans h (gb_set C gR j x) (fun _ h _ => h.symm)
  have hG : w.grownBy ((((W1.setCell ⟨gR, 4, none⟩ (.int .i64 (wrap64 (t' - t)))).setCell ⟨gR, 2, none⟩ (.int .i64 t')).setCell ⟨gR, 3, none⟩ (.float .f64 f')).setCell ⟨gR, 1, none⟩ (.int .i64 ((n : Int) + 1))).drew (some gR) :=
    gb_none (hs _ _ _ _ (hs _ _ _ _ (hs _ _ _ _ (hs _ _ _ _ (gb_any HB.out.2 _))))) (gb_drew _ _)
  refine ⟨rfl, HW.out.turned ?_ hG, RC.ch hG⟩
  show ((((W1.setCell ⟨gR, 4, none⟩ (.int .i64 (wrap64 (t' - t)))).setCell ⟨gR, 2, none⟩ (.int .i64 t')).setCell ⟨gR, 3, none⟩ (.float .f64 f')).setCell ⟨gR, 1, none⟩ (.int .i64 ((n : Int) + 1))).heap[gR]? = _
  rw [h4]
  rfl

theorem timO_zero {st : Pst} {L : List UInt8} {s p : Nat} (h : st.n = 0) : timO st L s p = timeZ L s p := by
  unfold timO timeZ
  rw [if_pos h]
  cases numO L s (s / 8 + 1) p <;> rfl
theorem timO_one {st : Pst} {L : List UInt8} {s p : Nat} (h : st.n = 1) : timO st L s p = match gapZ L s p with | none => none | some (g, p1) => some (wrap64 (st.t + g), p1) := by
  unfold timO gapZ
  rw [if_neg (by omega), if_pos h]
  cases numO L s (s / 8 + 1) p with
  | none => rfl
  | some r =>
    obtain ⟨bs, p1⟩ := r
    simp only
    by_cases h0 : (uSpec bs 0).2.2 = 0
    · rw [if_pos h0, if_pos h0]
    · rw [if_neg h0, if_neg h0]
theorem timO_two {st : Pst} {L : List UInt8} {s p : Nat} (h : 2 ≤ st.n) : timO st L s p = match turnO L s p with | none => none | some (d, p1) => some (wrap64 (wrap64 (st.t + st.gap) + d), p1) := by
  unfold timO
  rw [if_neg (by omega), if_neg (by omega)]
  cases turnO L s p <;> rfl
theorem i64wrap_eq (x : Int) : IntKind.i64.wrap x = wrap64 x := by
  rw [IntKind.wrap_i64]
  unfold wrap64
  omega
/-- what the next sample comes to: there, or a fault -/
def RdN (st : Pst) (L : List UInt8) (s p : Nat) (fl : Bool) (T : Int) (F p' : Nat) (fl' : Bool) (R' : Rst) : Prop :=
  (∃ wd, nexO st L s p = some (T, F, wd, p') ∧ fl' = fl ∧ R' = past (st.n + 1) T F (wrap64 (T - st.t)) wd.1 (wd.2.1 : Int) (wd.2.2 : Int) ∧ wd.2.1 ≤ 31 ∧ wd.2.1 + wd.2.2 < 64) ∨ (nexO st L s p = none ∧ fl' = true)
/-- ahead of add -/
def RdM (st : Pst) (L : List UInt8) (s p : Nat) (fl : Bool) (T : Int) (F p' : Nat) (fl' : Bool) (th : Bool) (ld tl : Int) : Prop :=
  (∃ wd : Bool × Nat × Nat, nexO st L s p = some (T, F, wd, p') ∧ fl' = fl ∧ th = wd.1 ∧ ld = (wd.2.1 : Int) ∧ tl = (wd.2.2 : Int) ∧ wd.2.1 ≤ 31 ∧ wd.2.1 + wd.2.2 < 64) ∨ (nexO st L s p = none ∧ fl' = true)
theorem smpSet {w : World} {b : Nat} {x y : Value} {j : Nat} (z : Value) (h : w.heap[b]? = some (.cells #[x, y] 27 (0, 0))) : (w.setCell ⟨b, j, none⟩ z).heap[b]? = some (.cells (#[x, y].setIfInBounds j z) 27 (0, 0)) := heap_setCell_same w b j _ _ z h

set_option maxRecDepth 8000 in
set_option maxHeartbeats 3200000 in
theorem next_any (w0 w : World) (gR p s : Nat) (ptr : Value) (st : Pst) (fl : Bool) (L : List UInt8) (h : RC B w0 w gR ptr (pst st) fl L p s) (hB : B ≤ w.heap.size) (hs : OkP st) (hT : TabC w0) :
    Calls Tryd.prog 67 #[.pointer (some ⟨gR, 0, none⟩)] w fun e w' => ∃ (T : Int) (F p' : Nat) (fl' : Bool) (R' : Rst), e = .returned (.agg #[.int .i64 T, .float .f64 F]) ∧ F < 18446744073709551616 ∧ RC B w0 w' gR ptr R' fl' L p' s ∧ RdN st L s p fl T F p' fl' R' ∧ Ch w w' (RSt gR ptr) := by
  have hc := h.cell
  have c1 := hc.2.1
  have c2 := hc.2.2.1
  have c4 := hc.2.2.2.2.1
  simp only [pst, past] at c1 c2 c4
  have hlt := h.lt
  have hnew : ¬ gR = w.heap.size := by omega
  have hnew1 : ¬ gR = w.heap.size + 1 := by omega
  have hnew2 : ¬ w.heap.size = gR := by omega
  have hnew3 : ¬ w.heap.size + 1 = gR := by omega
  have hz := w.heap.size
  have HA : Hid (RC B w0 ((w.alloc (.cells #[.int .i64 0, .float .f64 0] 27)).alloc (.cells #[.int .i64 0, .float .f64 0] 27)) gR ptr (pst st) fl L p s ∧ w.grownBy ((w.alloc (.cells #[.int .i64 0, .float .f64 0] 27)).alloc (.cells #[.int .i64 0, .float .f64 0] 27)) none ∧ ((w.alloc (.cells #[.int .i64 0, .float .f64 0] 27)).alloc (.cells #[.int .i64 0, .float .f64 0] 27)).heap[w.heap.size]? = some (.cells #[.int .i64 0, .float .f64 0] 27 (0, 0)) ∧ ((w.alloc (.cells #[.int .i64 0, .float .f64 0] 27)).alloc (.cells #[.int .i64 0, .float .f64 0] 27)).heap[w.heap.size + 1]? = some (.cells #[.int .i64 0, .float .f64 0] 27 (0, 0)) ∧ ((w.alloc (.cells #[.int .i64 0, .float .f64 0] 27)).alloc (.cells #[.int .i64 0, .float .f64 0] 27)).heap.size = w.heap.size + 2) := by
    have k1 := alloc_gb w (.cells #[.int .i64 0, .float .f64 0] 27)
    have k2 := alloc_gb (w.alloc (.cells #[.int .i64 0, .float .f64 0] 27)) (.cells #[.int .i64 0, .float .f64 0] 27)
    have n1 := Go.heap_alloc_new w (.cells #[.int .i64 0, .float .f64 0] 27)
    have n2 := Go.heap_alloc_new (w.alloc (.cells #[.int .i64 0, .float .f64 0] 27)) (.cells #[.int .i64 0, .float .f64 0] 27)
    refine ⟨h.keep (gb_none k1 k2), gb_none k1 k2, ?_, ?_, by simp⟩
    · exact (k2.block _ (by simp) (by simp)).trans n1
    · simpa using n2
  clear h hc
  by_cases hn0 : st.n = 0
  · have hn0i : ((st.n : Int) == 0) = true := by simp [hn0]
    have hn0j : (st.n : Int) = 0 := by omega
    rw [hn0j] at c1
    have HBk : Hid (∀ W W' b x, Ch W W' (RSt gR ptr) → W.heap[b]? = some x → B ≤ b → W'.heap[b]? = some x) := fun W W' b x hc hb hbB => (hc.block (Array.getElem?_eq_some_iff.1 hb).1 (fun e => by have := (HA.out.1.blocks b e).2; omega)).trans hb
    have hno : st.n ≤ 120 := hs.most
    have HTm : Hid (∀ W, RC B w0 W gR ptr (pst st) fl L p s → B ≤ W.heap.size → Calls Tryd.prog 88 #[.pointer (some ⟨gR, 0, none⟩)] W fun e w' => ∃ (T : Int) (p' : Nat) (fl' : Bool), e = .returned (.int .i64 T) ∧ (-9223372036854775808 ≤ T ∧ T ≤ 9223372036854775807) ∧ RC B w0 w' gR ptr (pst st) fl' L p' s ∧ Rdg (timeZ L s p) fl T p' fl' ∧ Ch W w' (RSt gR ptr)) := fun W hW hb => time_any w0 W gR p s ptr (pst st) fl L hW hb
    have hsf := store_float
    clear c2 c4
    go_enter Tryd.func67, Tryd.ntmps67
    go_wp2_with fail
    generalize (w.alloc (.cells #[.int .i64 0, .float .f64 0] 27)).alloc (.cells #[.int .i64 0, .float .f64 0] 27) = W2 at *
    generalize hb0 : w.heap.size + 1 = b0 at *
    generalize hr0 : w.heap.size = r0 at *
    have hBr : B ≤ r0 := hB
    have hBb : B ≤ b0 := by omega
    have hrb : ¬ r0 = b0 := by omega
    have hbr : ¬ b0 = r0 := by omega
    have HZ := hidJ (And.intro hb0 hr0)
    clear hb0 hr0 hB c1 hnew hnew1 hnew2 hnew3 hlt
    refine (HTm.out W2 HA.out.1 (by have := HA.out.2.2.2.2; omega)).mono ?_
    rintro e w3 ⟨T6, p3, fl3, rfl, hTb, h1, h2, h3⟩
    have x0 := HBk.out W2 w3 b0 _ h3 HA.out.2.2.2.1 (by omega)
    have x1 := HBk.out W2 w3 r0 _ h3 HA.out.2.2.1 (by omega)
    have k0 : w3.cell? ⟨b0, 0, none⟩ = some (.int .i64 0) := by simp [World.cell?, x0]
    have g0 : w3.frozen? ⟨b0, 0, none⟩ = false := by simp [World.frozen?, x0]
    have HC3 : Hid (Ch w w3 (RSt gR ptr)) := Ch.trans (Ch.of_gb (S := RSt gR ptr) HA.out.2.1 (fun k hk => by cases hk)) h3 (fun _ _ e => e)
    have H4 : Hid (RC B w0 (w3.setCell ⟨b0, 0, none⟩ (.int .i64 T6)) gR ptr (pst st) fl3 L p3 s ∧ Rdg (timeZ L s p) fl T6 p3 fl3 ∧ Ch w (w3.setCell ⟨b0, 0, none⟩ (.int .i64 T6)) (RSt gR ptr) ∧ (w3.setCell ⟨b0, 0, none⟩ (.int .i64 T6)).heap[b0]? = some (.cells #[.int .i64 T6, .float .f64 0] 27 (0, 0)) ∧ (w3.setCell ⟨b0, 0, none⟩ (.int .i64 T6)).heap[r0]? = some (.cells #[.int .i64 0, .float .f64 0] 27 (0, 0))) := by
      have hG := gb_set w3 b0 0 (.int .i64 T6)
      refine ⟨h1.far hG (fun k hk => by cases hk; exact hBb), h2, HC3.out.trans (Ch.of_gb (S := fun k => k = b0) hG (fun k hk _ => by cases hk; rfl)) (fun k hk e => ?_), ?_, ?_⟩
      · have e' : k = b0 := e
        have := HZ.out
        omega
      · rw [smpSet (j := 0) (.int .i64 T6) x0]
        rfl
      · exact (hG.block r0 (Array.getElem?_eq_some_iff.1 x1).1 (by simp; omega)).trans x1
    clear h1 h2 h3 x0 x1 HTm HA HC3
    go_wp2_with fail
    generalize w3.setCell ⟨b0, 0, none⟩ (.int .i64 T6) = W4 at *
    refine (take_any w0 W4 gR p3 s 64 ptr (pst st) fl3 L H4.out.1 (by omega) (.inr (.inl (by omega)))).mono ?_
    rintro e w5 ⟨F6, p5, fl5, rfl, h1, h2, h3⟩
    have hF6 : F6 < 18446744073709551616 := by simpa using h2.lt
    have hff := ffrom_run F6 hF6
    have x0 := HBk.out W4 w5 b0 _ h3 H4.out.2.2.2.1 (by omega)
    have x1 := HBk.out W4 w5 r0 _ h3 H4.out.2.2.2.2 (by omega)
    have k1 : w5.cell? ⟨b0, 1, none⟩ = some (.float .f64 0) := by simp [World.cell?, x0]
    have g1 : w5.frozen? ⟨b0, 1, none⟩ = false := by simp [World.frozen?, x0]
    have HC5 : Hid (Ch w w5 (RSt gR ptr)) := Ch.trans H4.out.2.2.1 h3 (fun _ _ e => e)
    have H6 : Hid (∃ p' fl' th ld tl, RC B w0 (w5.setCell ⟨b0, 1, none⟩ (.float .f64 F6)) gR ptr (past st.n st.t st.f st.gap th ld tl) fl' L p' s ∧ RdM st L s p fl T6 F6 p' fl' th ld tl ∧ Ch w (w5.setCell ⟨b0, 1, none⟩ (.float .f64 F6)) (RSt gR ptr) ∧ (w5.setCell ⟨b0, 1, none⟩ (.float .f64 F6)).heap[b0]? = some (.cells #[.int .i64 T6, .float .f64 F6] 27 (0, 0)) ∧ (w5.setCell ⟨b0, 1, none⟩ (.float .f64 F6)).heap[r0]? = some (.cells #[.int .i64 0, .float .f64 0] 27 (0, 0))) := by
      have hG := gb_set w5 b0 1 (.float .f64 F6)
      refine ⟨p5, fl5, st.th, (st.ld : Int), (st.tl : Int), h1.far hG (fun k hk => by cases hk; exact hBb), ?_, HC5.out.trans (Ch.of_gb (S := fun k => k = b0) hG (fun k hk _ => by cases hk; rfl)) (fun k hk e => ?_), ?_, ?_⟩
      · unfold RdM nexO
        rw [timO_zero hn0]
        have ht := H4.out.2.1
        rcases ht with ⟨a1, a2⟩ | ⟨a1, a2⟩
        · rw [a1]
          simp only [hn0, if_true]
          rcases h2 with ⟨b1, b2⟩ | ⟨b1, -, -, b2⟩
          · rw [b1]
            exact .inl ⟨(st.th, st.ld, st.tl), rfl, by rw [b2, a2], rfl, rfl, rfl, hs.win⟩
          · rw [b1]
            exact .inr ⟨rfl, b2⟩
        · rw [a1]
          refine .inr ⟨rfl, ?_⟩
          rcases h2 with ⟨-, b2⟩ | ⟨-, -, -, b2⟩
          · rw [b2, a2]
          · exact b2
      · have e' : k = b0 := e
        have := HZ.out
        omega
      · rw [smpSet (j := 1) (.float .f64 F6) x0]
        rfl
      · exact (hG.block r0 (Array.getElem?_eq_some_iff.1 x1).1 (by simp; omega)).trans x1
    clear h1 h2 h3 x0 x1 H4 HC5 k0 g0
    go_wp2_with fail
    generalize w5.setCell ⟨b0, 1, none⟩ (.float .f64 F6) = W6 at *
    clear k1 g1
    have HAd : Hid (∀ W, W6.grownBy W none → Calls Tryd.prog 57 #[.pointer (some ⟨gR, 1, none⟩), .agg #[.int .i64 T6, .float .f64 F6]] W fun e w' => e = .returned (.tuple #[]) ∧ (w'.cell? ⟨b0, 0, none⟩ = some (.int .i64 T6) ∧ w'.cell? ⟨b0, 1, none⟩ = some (.float .f64 F6)) ∧ (w'.cell? ⟨r0, 0, none⟩ = some (.int .i64 0) ∧ w'.cell? ⟨r0, 1, none⟩ = some (.float .f64 0) ∧ w'.frozen? ⟨r0, 0, none⟩ = false ∧ w'.frozen? ⟨r0, 1, none⟩ = false) ∧ Hid (∃ p' fl' R', RC B w0 w' gR ptr R' fl' L p' s ∧ RdN st L s p fl T6 F6 p' fl' R' ∧ Ch w w' (RSt gR ptr) ∧ w'.heap[r0]? = some (.cells #[.int .i64 0, .float .f64 0] 27 (0, 0)))) := fun W hW => by
      obtain ⟨p', fl', th, ld, tl, e1, e2, e3, e4, e5⟩ := H6.out
      refine (addR_any w0 W gR p' s st.n st.f F6 st.t T6 st.gap th ld tl ptr fl' L (e1.keep hW) (by omega)).mono ?_
      rintro e w' ⟨q1, q2, q3⟩
      have hb : w'.heap[b0]? = _ := HBk.out W w' b0 _ q3 ((hW.block b0 (Array.getElem?_eq_some_iff.1 e4).1 (by simp)).trans e4) (by omega)
      have hr : w'.heap[r0]? = _ := HBk.out W w' r0 _ q3 ((hW.block r0 (Array.getElem?_eq_some_iff.1 e5).1 (by simp)).trans e5) (by omega)
      refine ⟨q1, ⟨by simp [World.cell?, hb], by simp [World.cell?, hb]⟩, ⟨by simp [World.cell?, hr], by simp [World.cell?, hr], by simp [World.frozen?, hr], by simp [World.frozen?, hr]⟩, p', fl', _, q2, ?_, ?_, hr⟩
      · rcases e2 with ⟨wd, a1, a2, a3, a4, a5, a6⟩ | a1
        · exact .inl ⟨wd, a1, a2, by rw [a3, a4, a5], a6⟩
        · exact .inr a1
      · exact (e3.trans (Ch.of_gb (S := RSt gR ptr) hW (fun k hk => by cases hk)) (fun _ _ e => e)).trans q3 (fun _ _ e => e)
    have HS6 : Hid (W6.cell? ⟨b0, 0, none⟩ = some (.int .i64 T6) ∧ W6.cell? ⟨b0, 1, none⟩ = some (.float .f64 F6)) := by
      obtain ⟨p', fl', th, ld, tl, e1, e2, e3, e4, e5⟩ := H6.out
      exact ⟨by simp [World.cell?, e4], by simp [World.cell?, e4]⟩
    obtain ⟨m0, m1⟩ := HS6.out
    clear H6 HS6
    go_region_held3 (fun w' => w'.cell? ⟨b0, 0, none⟩ = some (.int .i64 T6) ∧ w'.cell? ⟨b0, 1, none⟩ = some (.float .f64 F6)) (go_keep)
      (first | (go_at_call 57; refine (HAd.out _ ?_).mono ?_; (first | exact gb_refl _ _ | exact gb_drew _ _); rintro e w7 ⟨rfl, ⟨n0, n1⟩, ⟨s0, s1, z0, z1⟩, H7⟩))
    clear HAd m0 m1
    go_wp2
    have HF8 : Hid (∃ p' fl' R', RC B w0 ((w7.setCell ⟨r0, 0, none⟩ (.int .i64 T6)).setCell ⟨r0, 1, none⟩ (.float .f64 F6)) gR ptr R' fl' L p' s ∧ RdN st L s p fl T6 F6 p' fl' R' ∧ Ch w ((w7.setCell ⟨r0, 0, none⟩ (.int .i64 T6)).setCell ⟨r0, 1, none⟩ (.float .f64 F6)) (RSt gR ptr) ∧ ((w7.setCell ⟨r0, 0, none⟩ (.int .i64 T6)).setCell ⟨r0, 1, none⟩ (.float .f64 F6)).heap[r0]? = some (.cells #[.int .i64 T6, .float .f64 F6] 27 (0, 0))) := by
      obtain ⟨p', fl', R', e1, e2, e3, e4⟩ := H7.out
      have hG : w7.grownBy ((w7.setCell ⟨r0, 0, none⟩ (.int .i64 T6)).setCell ⟨r0, 1, none⟩ (.float .f64 F6)) (some r0) := gb_trans (gb_set _ _ _ _) (gb_set _ _ _ _) (fun _ h _ => h.symm)
      have h1 := smpSet (j := 0) (.int .i64 T6) e4
      have h2 := heap_setCell_same _ r0 1 _ _ (.float .f64 F6) h1
      refine ⟨p', fl', R', e1.far hG (fun k hk => by cases hk; omega), e2, e3.trans (Ch.of_gb (S := fun k => k = r0) hG (fun k hk _ => by cases hk; rfl)) (fun k hk e => ?_), ?_⟩
      · have e' : k = r0 := e
        have := HZ.out
        omega
      · rw [h2]
        rfl
    clear H7 n0 n1 s0 s1 z0 z1
    generalize (w7.setCell ⟨r0, 0, none⟩ (.int .i64 T6)).setCell ⟨r0, 1, none⟩ (.float .f64 F6) = W8 at *
    obtain ⟨p', fl', R', e1, e2, e3, e4⟩ := HF8.out
    have y0 : W8.cell? ⟨r0, 0, none⟩ = some (.int .i64 T6) := by simp [World.cell?, e4]
    have y1 : W8.cell? ⟨r0, 1, none⟩ = some (.float .f64 F6) := by simp [World.cell?, e4]
    refine bodyPost_ret (v := .agg #[.int .i64 T6, .float .f64 F6]) ?_ rfl ?_
    · simp [results, Tryd.f67, go_sem, y0, y1]
    · exact ⟨T6, F6, p', fl', R', rfl, hF6, e1, e2, e3⟩
  · have HBk : Hid (∀ W W' b x, Ch W W' (RSt gR ptr) → W.heap[b]? = some x → B ≤ b → W'.heap[b]? = some x) := fun W W' b x hc hb hbB => (hc.block (Array.getElem?_eq_some_iff.1 hb).1 (fun e => by have := (HA.out.1.blocks b e).2; omega)).trans hb
    have hno : st.n ≤ 120 := hs.most
    have hn0b : ((st.n : Int) == 0) = false := by simp; omega
    have hn0i : ¬ (st.n : Int) = 0 := by omega
    have hsf := store_float
    have c1a : ∀ C D, ((w.alloc C).alloc D).cell? ⟨gR, 1, none⟩ = some (.int .i64 (st.n : Int)) := fun C D => (World.cell?_of_block ((gb_none (alloc_gb w C) (alloc_gb (w.alloc C) D)).block gR hlt (by simp))).trans c1
    by_cases hn1 : st.n = 1
    · have hn1i : (st.n : Int) = 1 := by omega
      have hn1b : ((st.n : Int) == 1) = true := by simp [hn1]
      rw [hn1i] at c1 c1a hn0b hn0i
      clear hn1b hn1i hn0b hn0i
      go_enter Tryd.func67, Tryd.ntmps67
      go_wp2_with fail
      generalize (w.alloc (.cells #[.int .i64 0, .float .f64 0] 27)).alloc (.cells #[.int .i64 0, .float .f64 0] 27) = W2 at *
      generalize hb0 : w.heap.size + 1 = b0 at *
      generalize hr0 : w.heap.size = r0 at *
      have hBr : B ≤ r0 := hB
      have hBb : B ≤ b0 := by omega
      have hrb : ¬ r0 = b0 := by omega
      have hbr : ¬ b0 = r0 := by omega
      have hgb : ¬ gR = b0 := by omega
      have hgb2 : ¬ b0 = gR := by omega
      have HZ := hidJ (And.intro hb0 hr0)
      clear hb0 hr0 hB c1 c1a c2 c4 hnew hnew1 hnew2 hnew3 hlt
      have HGp : Hid (∀ W, W2.grownBy W none → Calls Tryd.prog 90 #[.pointer (some ⟨gR, 0, none⟩)] W fun e w' => ∃ (G : Int), e = .returned (.int .i64 G) ∧ (w'.cell? ⟨gR, 2, none⟩ = some (.int .i64 st.t) ∧ ∀ x, (w'.setCell ⟨b0, 0, none⟩ x).cell? ⟨gR, 2, none⟩ = some (.int .i64 st.t)) ∧ (w'.cell? ⟨b0, 0, none⟩ = some (.int .i64 0) ∧ w'.frozen? ⟨b0, 0, none⟩ = false) ∧ Hid (∃ p' fl', RC B w0 w' gR ptr (pst st) fl' L p' s ∧ Rdg (gapZ L s p) fl G p' fl' ∧ Ch w w' (RSt gR ptr) ∧ w'.heap[b0]? = some (.cells #[.int .i64 0, .float .f64 0] 27 (0, 0)) ∧ w'.heap[r0]? = some (.cells #[.int .i64 0, .float .f64 0] 27 (0, 0)))) := fun W hW => by
        refine (gap_any w0 W gR p s ptr (pst st) fl L (HA.out.1.keep hW) (by have := HA.out.2.2.2.2; have := hW.size; omega)).mono ?_
        rintro e w' ⟨G, p', fl', q1, -, q2, q3, q4⟩
        have x0 := HBk.out W w' b0 _ q4 ((hW.block b0 (Array.getElem?_eq_some_iff.1 HA.out.2.2.2.1).1 (by simp)).trans HA.out.2.2.2.1) (by omega)
        have x1 := HBk.out W w' r0 _ q4 ((hW.block r0 (Array.getElem?_eq_some_iff.1 HA.out.2.2.1).1 (by simp)).trans HA.out.2.2.1) (by omega)
        exact ⟨G, q1, ⟨q2.cell.2.2.1, fun x => (World.cell?_of_block (Below.heap_setCell _ _ _ _ (by simpa using hgb))).trans q2.cell.2.2.1⟩, ⟨by simp [World.cell?, x0], by simp [World.frozen?, x0]⟩, p', fl', q2, q3, Ch.trans (Ch.of_gb (S := RSt gR ptr) (gb_none HA.out.2.1 hW) (fun k hk => by cases hk)) q4 (fun _ _ e => e), x0, x1⟩
      have d2 : W2.cell? ⟨gR, 2, none⟩ = some (.int .i64 st.t) := HA.out.1.cell.2.2.1
      clear HA
      go_region_held3 (fun w' => w'.cell? ⟨gR, 2, none⟩ = some (.int .i64 st.t)) (go_keep)
        (first | (go_at_call 90; refine (HGp.out _ ?_).mono ?_; (first | exact gb_refl _ _ | exact gb_drew _ _); rintro e w3 ⟨G3, rfl, ⟨k2, k3⟩, ⟨k0, g0⟩, H3⟩))
      have H4 : Hid (∃ p3 fl3, RC B w0 (w3.setCell ⟨b0, 0, none⟩ (.int .i64 (IntKind.i64.wrap (st.t + G3)))) gR ptr (pst st) fl3 L p3 s ∧ Rdg (timO st L s p) fl ((IntKind.i64.wrap (st.t + G3))) p3 fl3 ∧ Ch w (w3.setCell ⟨b0, 0, none⟩ (.int .i64 (IntKind.i64.wrap (st.t + G3)))) (RSt gR ptr) ∧ (w3.setCell ⟨b0, 0, none⟩ (.int .i64 (IntKind.i64.wrap (st.t + G3)))).heap[b0]? = some (.cells #[.int .i64 (IntKind.i64.wrap (st.t + G3)), .float .f64 0] 27 (0, 0)) ∧ (w3.setCell ⟨b0, 0, none⟩ (.int .i64 (IntKind.i64.wrap (st.t + G3)))).heap[r0]? = some (.cells #[.int .i64 0, .float .f64 0] 27 (0, 0))) := by
        obtain ⟨p3, fl3, e1, e2, e3, e4, e5⟩ := H3.out
        have hG := gb_set w3 b0 0 (.int .i64 (IntKind.i64.wrap (st.t + G3)))
        refine ⟨p3, fl3, e1.far hG (fun k hk => by cases hk; exact hBb), ?_, e3.trans (Ch.of_gb (S := fun k => k = b0) hG (fun k hk _ => by cases hk; rfl)) (fun k hk e => ?_), ?_, ?_⟩
        · rw [timO_one hn1]
          rcases e2 with ⟨b1, b2⟩ | ⟨b1, b2⟩
          · rw [b1]
            exact .inl ⟨by simp only [i64wrap_eq], b2⟩
          · rw [b1]
            exact .inr ⟨rfl, b2⟩
        · have e' : k = b0 := e
          have := HZ.out
          omega
        · rw [smpSet (j := 0) (.int .i64 (IntKind.i64.wrap (st.t + G3))) e4]
          rfl
        · exact (hG.block r0 (Array.getElem?_eq_some_iff.1 e5).1 (by simp; omega)).trans e5
      clear H3 HGp k0 g0 k2 k3 d2
      generalize hT6 : (IntKind.i64.wrap (st.t + G3)) = T6 at *
      clear hT6
      generalize w3.setCell ⟨b0, 0, none⟩ (.int .i64 T6) = W4 at *
      have HV : Hid (Calls Tryd.prog 91 #[.pointer (some ⟨gR, 0, none⟩)] W4 fun e w' => ∃ (F : Nat), e = .returned (.float .f64 F) ∧ F < 18446744073709551616 ∧ (w'.cell? ⟨b0, 1, none⟩ = some (.float .f64 0) ∧ w'.frozen? ⟨b0, 1, none⟩ = false) ∧ Hid (∃ p' fl' th ld tl, RC B w0 w' gR ptr (past st.n st.t st.f st.gap th ld tl) fl' L p' s ∧ RdM st L s p fl T6 F p' fl' th ld tl ∧ Ch w w' (RSt gR ptr) ∧ w'.heap[b0]? = some (.cells #[.int .i64 T6, .float .f64 0] 27 (0, 0)) ∧ w'.heap[r0]? = some (.cells #[.int .i64 0, .float .f64 0] 27 (0, 0)))) := by
        obtain ⟨p3, fl3, e1, e2, e3, e4, e5⟩ := H4.out
        have hsz : B ≤ W4.heap.size := by have := (Array.getElem?_eq_some_iff.1 e4).1; omega
        refine (value_any w0 W4 gR p3 s ptr st fl3 L e1 hsz hs.win hs.bits).mono ?_
        rintro e w' ⟨F, p', fl', R', q1, q2, q3, q4, q5⟩
        have x0 := HBk.out W4 w' b0 _ q5 e4 (by omega)
        have x1 := HBk.out W4 w' r0 _ q5 e5 (by omega)
        have hch : Ch w w' (RSt gR ptr) := e3.trans q5 (fun _ _ e => e)
        refine ⟨F, q1, q2, ⟨by simp [World.cell?, x0], by simp [World.frozen?, x0]⟩, ?_⟩
        rcases q4 with ⟨wd, a1, a2, a3, a4⟩ | ⟨a1, a2, th', ld', tl', a3⟩
        · rw [a3] at q3
          refine ⟨p', fl', wd.1, (wd.2.1 : Int), (wd.2.2 : Int), q3, ?_, hch, x0, x1⟩
          unfold RdM nexO
          rcases e2 with ⟨b1, b2⟩ | ⟨b1, b2⟩
          · rw [b1]
            simp only [hn0, if_false]
            rw [a1]
            exact .inl ⟨wd, rfl, by rw [a2, b2], rfl, rfl, rfl, a4⟩
          · rw [b1]
            exact .inr ⟨rfl, by rw [a2, b2]⟩
        · rw [a3] at q3
          refine ⟨p', fl', th', ld', tl', q3, ?_, hch, x0, x1⟩
          unfold RdM nexO
          rcases e2 with ⟨b1, b2⟩ | ⟨b1, b2⟩
          · rw [b1]
            simp only [hn0, if_false]
            rw [a1]
            exact .inr ⟨rfl, a2⟩
          · rw [b1]
            exact .inr ⟨rfl, a2⟩
      clear H4
      go_wp2_with fail
      refine HV.out.mono ?_
      rintro e w5 ⟨F6, rfl, hF6, ⟨k1, g1⟩, H5⟩
      have H6 : Hid (∃ p' fl' th ld tl, RC B w0 (w5.setCell ⟨b0, 1, none⟩ (.float .f64 F6)) gR ptr (past st.n st.t st.f st.gap th ld tl) fl' L p' s ∧ RdM st L s p fl T6 F6 p' fl' th ld tl ∧ Ch w (w5.setCell ⟨b0, 1, none⟩ (.float .f64 F6)) (RSt gR ptr) ∧ (w5.setCell ⟨b0, 1, none⟩ (.float .f64 F6)).heap[b0]? = some (.cells #[.int .i64 T6, .float .f64 F6] 27 (0, 0)) ∧ (w5.setCell ⟨b0, 1, none⟩ (.float .f64 F6)).heap[r0]? = some (.cells #[.int .i64 0, .float .f64 0] 27 (0, 0))) := by
        obtain ⟨p', fl', th, ld, tl, e1, e2, e3, e4, e5⟩ := H5.out
        have hG := gb_set w5 b0 1 (.float .f64 F6)
        refine ⟨p', fl', th, ld, tl, e1.far hG (fun k hk => by cases hk; exact hBb), e2, e3.trans (Ch.of_gb (S := fun k => k = b0) hG (fun k hk _ => by cases hk; rfl)) (fun k hk e => ?_), ?_, ?_⟩
        · have e' : k = b0 := e
          have := HZ.out
          omega
        · rw [smpSet (j := 1) (.float .f64 F6) e4]
          rfl
        · exact (hG.block r0 (Array.getElem?_eq_some_iff.1 e5).1 (by simp; omega)).trans e5
      clear H5 HV
      go_wp2_with fail
      generalize w5.setCell ⟨b0, 1, none⟩ (.float .f64 F6) = W6 at *
      clear k1 g1
      have HAd : Hid (∀ W, W6.grownBy W none → Calls Tryd.prog 57 #[.pointer (some ⟨gR, 1, none⟩), .agg #[.int .i64 T6, .float .f64 F6]] W fun e w' => e = .returned (.tuple #[]) ∧ (w'.cell? ⟨b0, 0, none⟩ = some (.int .i64 T6) ∧ w'.cell? ⟨b0, 1, none⟩ = some (.float .f64 F6)) ∧ (w'.cell? ⟨r0, 0, none⟩ = some (.int .i64 0) ∧ w'.cell? ⟨r0, 1, none⟩ = some (.float .f64 0) ∧ w'.frozen? ⟨r0, 0, none⟩ = false ∧ w'.frozen? ⟨r0, 1, none⟩ = false) ∧ Hid (∃ p' fl' R', RC B w0 w' gR ptr R' fl' L p' s ∧ RdN st L s p fl T6 F6 p' fl' R' ∧ Ch w w' (RSt gR ptr) ∧ w'.heap[r0]? = some (.cells #[.int .i64 0, .float .f64 0] 27 (0, 0)))) := fun W hW => by
        obtain ⟨p', fl', th, ld, tl, e1, e2, e3, e4, e5⟩ := H6.out
        refine (addR_any w0 W gR p' s st.n st.f F6 st.t T6 st.gap th ld tl ptr fl' L (e1.keep hW) (by omega)).mono ?_
        rintro e w' ⟨q1, q2, q3⟩
        have hb : w'.heap[b0]? = _ := HBk.out W w' b0 _ q3 ((hW.block b0 (Array.getElem?_eq_some_iff.1 e4).1 (by simp)).trans e4) (by omega)
        have hr : w'.heap[r0]? = _ := HBk.out W w' r0 _ q3 ((hW.block r0 (Array.getElem?_eq_some_iff.1 e5).1 (by simp)).trans e5) (by omega)
        refine ⟨q1, ⟨by simp [World.cell?, hb], by simp [World.cell?, hb]⟩, ⟨by simp [World.cell?, hr], by simp [World.cell?, hr], by simp [World.frozen?, hr], by simp [World.frozen?, hr]⟩, p', fl', _, q2, ?_, ?_, hr⟩
        · rcases e2 with ⟨wd, a1, a2, a3, a4, a5, a6⟩ | a1
          · exact .inl ⟨wd, a1, a2, by rw [a3, a4, a5], a6⟩
          · exact .inr a1
        · exact (e3.trans (Ch.of_gb (S := RSt gR ptr) hW (fun k hk => by cases hk)) (fun _ _ e => e)).trans q3 (fun _ _ e => e)
      have HS6 : Hid (W6.cell? ⟨b0, 0, none⟩ = some (.int .i64 T6) ∧ W6.cell? ⟨b0, 1, none⟩ = some (.float .f64 F6)) := by
        obtain ⟨p', fl', th, ld, tl, e1, e2, e3, e4, e5⟩ := H6.out
        exact ⟨by simp [World.cell?, e4], by simp [World.cell?, e4]⟩
      obtain ⟨m0, m1⟩ := HS6.out
      clear H6 HS6
      go_region_held3 (fun w' => w'.cell? ⟨b0, 0, none⟩ = some (.int .i64 T6) ∧ w'.cell? ⟨b0, 1, none⟩ = some (.float .f64 F6)) (go_keep)
        (first | (go_at_call 57; refine (HAd.out _ ?_).mono ?_; (first | exact gb_refl _ _ | exact gb_drew _ _); rintro e w7 ⟨rfl, ⟨n0, n1⟩, ⟨s0, s1, z0, z1⟩, H7⟩))
      clear HAd m0 m1
      go_wp2
      have HF8 : Hid (∃ p' fl' R', RC B w0 ((w7.setCell ⟨r0, 0, none⟩ (.int .i64 T6)).setCell ⟨r0, 1, none⟩ (.float .f64 F6)) gR ptr R' fl' L p' s ∧ RdN st L s p fl T6 F6 p' fl' R' ∧ Ch w ((w7.setCell ⟨r0, 0, none⟩ (.int .i64 T6)).setCell ⟨r0, 1, none⟩ (.float .f64 F6)) (RSt gR ptr) ∧ ((w7.setCell ⟨r0, 0, none⟩ (.int .i64 T6)).setCell ⟨r0, 1, none⟩ (.float .f64 F6)).heap[r0]? = some (.cells #[.int .i64 T6, .float .f64 F6] 27 (0, 0))) := by
        obtain ⟨p', fl', R', e1, e2, e3, e4⟩ := H7.out
        have hG : w7.grownBy ((w7.setCell ⟨r0, 0, none⟩ (.int .i64 T6)).setCell ⟨r0, 1, none⟩ (.float .f64 F6)) (some r0) := gb_trans (gb_set _ _ _ _) (gb_set _ _ _ _) (fun _ h _ => h.symm)
        have h1 := smpSet (j := 0) (.int .i64 T6) e4
        have h2 := heap_setCell_same _ r0 1 _ _ (.float .f64 F6) h1
        refine ⟨p', fl', R', e1.far hG (fun k hk => by cases hk; omega), e2, e3.trans (Ch.of_gb (S := fun k => k = r0) hG (fun k hk _ => by cases hk; rfl)) (fun k hk e => ?_), ?_⟩
        · have e' : k = r0 := e
          have := HZ.out
          omega
        · rw [h2]
          rfl
      clear H7 n0 n1 s0 s1 z0 z1
      generalize (w7.setCell ⟨r0, 0, none⟩ (.int .i64 T6)).setCell ⟨r0, 1, none⟩ (.float .f64 F6) = W8 at *
      obtain ⟨p', fl', R', e1, e2, e3, e4⟩ := HF8.out
      have y0 : W8.cell? ⟨r0, 0, none⟩ = some (.int .i64 T6) := by simp [World.cell?, e4]
      have y1 : W8.cell? ⟨r0, 1, none⟩ = some (.float .f64 F6) := by simp [World.cell?, e4]
      refine bodyPost_ret (v := .agg #[.int .i64 T6, .float .f64 F6]) ?_ rfl ?_
      · simp [results, Tryd.f67, go_sem, y0, y1]
      · exact ⟨T6, F6, p', fl', R', rfl, hF6, e1, e2, e3⟩
    · have hn2 : 2 ≤ st.n := by omega
      have hn1b : ((st.n : Int) == 1) = false := by simp; omega
      have hn1i : ¬ (st.n : Int) = 1 := by omega
      go_enter Tryd.func67, Tryd.ntmps67
      go_wp2_with fail
      generalize (w.alloc (.cells #[.int .i64 0, .float .f64 0] 27)).alloc (.cells #[.int .i64 0, .float .f64 0] 27) = W2 at *
      generalize hb0 : w.heap.size + 1 = b0 at *
      generalize hr0 : w.heap.size = r0 at *
      have hBr : B ≤ r0 := hB
      have hBb : B ≤ b0 := by omega
      have hrb : ¬ r0 = b0 := by omega
      have hbr : ¬ b0 = r0 := by omega
      have hgb : ¬ gR = b0 := by omega
      have hgb2 : ¬ b0 = gR := by omega
      have HZ := hidJ (And.intro hb0 hr0)
      clear hb0 hr0 hB c1 c1a c2 c4 hnew hnew1 hnew2 hnew3 hlt
      have HGp : Hid (∀ W, W2.grownBy W none → Calls Tryd.prog 92 #[.pointer (some ⟨gR, 0, none⟩)] W fun e w' => ∃ (G : Int), e = .returned (.int .i64 G) ∧ ((w'.cell? ⟨gR, 2, none⟩ = some (.int .i64 st.t) ∧ ∀ x, (w'.setCell ⟨b0, 0, none⟩ x).cell? ⟨gR, 2, none⟩ = some (.int .i64 st.t)) ∧ (w'.cell? ⟨gR, 4, none⟩ = some (.int .i64 st.gap) ∧ ∀ x, (w'.setCell ⟨b0, 0, none⟩ x).cell? ⟨gR, 4, none⟩ = some (.int .i64 st.gap))) ∧ (w'.cell? ⟨b0, 0, none⟩ = some (.int .i64 0) ∧ w'.frozen? ⟨b0, 0, none⟩ = false) ∧ Hid (∃ p' fl', RC B w0 w' gR ptr (pst st) fl' L p' s ∧ Rdg (turnO L s p) fl G p' fl' ∧ Ch w w' (RSt gR ptr) ∧ w'.heap[b0]? = some (.cells #[.int .i64 0, .float .f64 0] 27 (0, 0)) ∧ w'.heap[r0]? = some (.cells #[.int .i64 0, .float .f64 0] 27 (0, 0)))) := fun W hW => by
        refine (turnR_any w0 W gR p s ptr (pst st) fl L (HA.out.1.keep hW) hT).mono ?_
        rintro e w' ⟨G, p', fl', q1, q2, q3, q4⟩
        have x0 := HBk.out W w' b0 _ q4 ((hW.block b0 (Array.getElem?_eq_some_iff.1 HA.out.2.2.2.1).1 (by simp)).trans HA.out.2.2.2.1) (by omega)
        have x1 := HBk.out W w' r0 _ q4 ((hW.block r0 (Array.getElem?_eq_some_iff.1 HA.out.2.2.1).1 (by simp)).trans HA.out.2.2.1) (by omega)
        exact ⟨G, q1, ⟨⟨q2.cell.2.2.1, fun x => (World.cell?_of_block (Below.heap_setCell _ _ _ _ (by simpa using hgb))).trans q2.cell.2.2.1⟩, ⟨q2.cell.2.2.2.2.1, fun x => (World.cell?_of_block (Below.heap_setCell _ _ _ _ (by simpa using hgb))).trans q2.cell.2.2.2.2.1⟩⟩, ⟨by simp [World.cell?, x0], by simp [World.frozen?, x0]⟩, p', fl', q2, q3, Ch.trans (Ch.of_gb (S := RSt gR ptr) (gb_none HA.out.2.1 hW) (fun k hk => by cases hk)) q4 (fun _ _ e => e), x0, x1⟩
      have d2 : W2.cell? ⟨gR, 2, none⟩ = some (.int .i64 st.t) := HA.out.1.cell.2.2.1
      have d4 : W2.cell? ⟨gR, 4, none⟩ = some (.int .i64 st.gap) := HA.out.1.cell.2.2.2.2.1
      clear HA
      go_region_held3 (fun w' => w'.cell? ⟨gR, 2, none⟩ = some (.int .i64 st.t) ∧ w'.cell? ⟨gR, 4, none⟩ = some (.int .i64 st.gap)) (go_keep)
        (first | (go_at_call 92; refine (HGp.out _ ?_).mono ?_; (first | exact gb_refl _ _ | exact gb_drew _ _); rintro e w3 ⟨G3, rfl, ⟨⟨k2, k3⟩, k4, k5⟩, ⟨k0, g0⟩, H3⟩))
      have H4 : Hid (∃ p3 fl3, RC B w0 (w3.setCell ⟨b0, 0, none⟩ (.int .i64 (IntKind.i64.wrap (IntKind.i64.wrap (st.t + st.gap) + G3)))) gR ptr (pst st) fl3 L p3 s ∧ Rdg (timO st L s p) fl ((IntKind.i64.wrap (IntKind.i64.wrap (st.t + st.gap) + G3))) p3 fl3 ∧ Ch w (w3.setCell ⟨b0, 0, none⟩ (.int .i64 (IntKind.i64.wrap (IntKind.i64.wrap (st.t + st.gap) + G3)))) (RSt gR ptr) ∧ (w3.setCell ⟨b0, 0, none⟩ (.int .i64 (IntKind.i64.wrap (IntKind.i64.wrap (st.t + st.gap) + G3)))).heap[b0]? = some (.cells #[.int .i64 (IntKind.i64.wrap (IntKind.i64.wrap (st.t + st.gap) + G3)), .float .f64 0] 27 (0, 0)) ∧ (w3.setCell ⟨b0, 0, none⟩ (.int .i64 (IntKind.i64.wrap (IntKind.i64.wrap (st.t + st.gap) + G3)))).heap[r0]? = some (.cells #[.int .i64 0, .float .f64 0] 27 (0, 0))) := by
        obtain ⟨p3, fl3, e1, e2, e3, e4, e5⟩ := H3.out
        have hG := gb_set w3 b0 0 (.int .i64 (IntKind.i64.wrap (IntKind.i64.wrap (st.t + st.gap) + G3)))
        refine ⟨p3, fl3, e1.far hG (fun k hk => by cases hk; exact hBb), ?_, e3.trans (Ch.of_gb (S := fun k => k = b0) hG (fun k hk _ => by cases hk; rfl)) (fun k hk e => ?_), ?_, ?_⟩
        · rw [timO_two hn2]
          rcases e2 with ⟨b1, b2⟩ | ⟨b1, b2⟩
          · rw [b1]
            exact .inl ⟨by simp only [i64wrap_eq], b2⟩
          · rw [b1]
            exact .inr ⟨rfl, b2⟩
        · have e' : k = b0 := e
          have := HZ.out
          omega
        · rw [smpSet (j := 0) (.int .i64 (IntKind.i64.wrap (IntKind.i64.wrap (st.t + st.gap) + G3))) e4]
          rfl
        · exact (hG.block r0 (Array.getElem?_eq_some_iff.1 e5).1 (by simp; omega)).trans e5
      clear H3 HGp k0 g0 k2 k3 d2 k4 k5 d4
      generalize hT6 : (IntKind.i64.wrap (IntKind.i64.wrap (st.t + st.gap) + G3)) = T6 at *
      clear hT6
      generalize w3.setCell ⟨b0, 0, none⟩ (.int .i64 T6) = W4 at *
      have HV : Hid (Calls Tryd.prog 91 #[.pointer (some ⟨gR, 0, none⟩)] W4 fun e w' => ∃ (F : Nat), e = .returned (.float .f64 F) ∧ F < 18446744073709551616 ∧ (w'.cell? ⟨b0, 1, none⟩ = some (.float .f64 0) ∧ w'.frozen? ⟨b0, 1, none⟩ = false) ∧ Hid (∃ p' fl' th ld tl, RC B w0 w' gR ptr (past st.n st.t st.f st.gap th ld tl) fl' L p' s ∧ RdM st L s p fl T6 F p' fl' th ld tl ∧ Ch w w' (RSt gR ptr) ∧ w'.heap[b0]? = some (.cells #[.int .i64 T6, .float .f64 0] 27 (0, 0)) ∧ w'.heap[r0]? = some (.cells #[.int .i64 0, .float .f64 0] 27 (0, 0)))) := by
        obtain ⟨p3, fl3, e1, e2, e3, e4, e5⟩ := H4.out
        have hsz : B ≤ W4.heap.size := by have := (Array.getElem?_eq_some_iff.1 e4).1; omega
        refine (value_any w0 W4 gR p3 s ptr st fl3 L e1 hsz hs.win hs.bits).mono ?_
        rintro e w' ⟨F, p', fl', R', q1, q2, q3, q4, q5⟩
        have x0 := HBk.out W4 w' b0 _ q5 e4 (by omega)
        have x1 := HBk.out W4 w' r0 _ q5 e5 (by omega)
        have hch : Ch w w' (RSt gR ptr) := e3.trans q5 (fun _ _ e => e)
        refine ⟨F, q1, q2, ⟨by simp [World.cell?, x0], by simp [World.frozen?, x0]⟩, ?_⟩
        rcases q4 with ⟨wd, a1, a2, a3, a4⟩ | ⟨a1, a2, th', ld', tl', a3⟩
        · rw [a3] at q3
          refine ⟨p', fl', wd.1, (wd.2.1 : Int), (wd.2.2 : Int), q3, ?_, hch, x0, x1⟩
          unfold RdM nexO
          rcases e2 with ⟨b1, b2⟩ | ⟨b1, b2⟩
          · rw [b1]
            simp only [hn0, if_false]
            rw [a1]
            exact .inl ⟨wd, rfl, by rw [a2, b2], rfl, rfl, rfl, a4⟩
          · rw [b1]
            exact .inr ⟨rfl, by rw [a2, b2]⟩
        · rw [a3] at q3
          refine ⟨p', fl', th', ld', tl', q3, ?_, hch, x0, x1⟩
          unfold RdM nexO
          rcases e2 with ⟨b1, b2⟩ | ⟨b1, b2⟩
          · rw [b1]
            simp only [hn0, if_false]
            rw [a1]
            exact .inr ⟨rfl, a2⟩
          · rw [b1]
            exact .inr ⟨rfl, a2⟩
      clear H4
      go_wp2_with fail
      refine HV.out.mono ?_
      rintro e w5 ⟨F6, rfl, hF6, ⟨k1, g1⟩, H5⟩
      have H6 : Hid (∃ p' fl' th ld tl, RC B w0 (w5.setCell ⟨b0, 1, none⟩ (.float .f64 F6)) gR ptr (past st.n st.t st.f st.gap th ld tl) fl' L p' s ∧ RdM st L s p fl T6 F6 p' fl' th ld tl ∧ Ch w (w5.setCell ⟨b0, 1, none⟩ (.float .f64 F6)) (RSt gR ptr) ∧ (w5.setCell ⟨b0, 1, none⟩ (.float .f64 F6)).heap[b0]? = some (.cells #[.int .i64 T6, .float .f64 F6] 27 (0, 0)) ∧ (w5.setCell ⟨b0, 1, none⟩ (.float .f64 F6)).heap[r0]? = some (.cells #[.int .i64 0, .float .f64 0] 27 (0, 0))) := by
        obtain ⟨p', fl', th, ld, tl, e1, e2, e3, e4, e5⟩ := H5.out
        have hG := gb_set w5 b0 1 (.float .f64 F6)
        refine ⟨p', fl', th, ld, tl, e1.far hG (fun k hk => by cases hk; exact hBb), e2, e3.trans (Ch.of_gb (S := fun k => k = b0) hG (fun k hk _ => by cases hk; rfl)) (fun k hk e => ?_), ?_, ?_⟩
        · have e' : k = b0 := e
          have := HZ.out
          omega
        · rw [smpSet (j := 1) (.float .f64 F6) e4]
          rfl
        · exact (hG.block r0 (Array.getElem?_eq_some_iff.1 e5).1 (by simp; omega)).trans e5
      clear H5 HV
      go_wp2_with fail
      generalize w5.setCell ⟨b0, 1, none⟩ (.float .f64 F6) = W6 at *
      clear k1 g1
      have HAd : Hid (∀ W, W6.grownBy W none → Calls Tryd.prog 57 #[.pointer (some ⟨gR, 1, none⟩), .agg #[.int .i64 T6, .float .f64 F6]] W fun e w' => e = .returned (.tuple #[]) ∧ (w'.cell? ⟨b0, 0, none⟩ = some (.int .i64 T6) ∧ w'.cell? ⟨b0, 1, none⟩ = some (.float .f64 F6)) ∧ (w'.cell? ⟨r0, 0, none⟩ = some (.int .i64 0) ∧ w'.cell? ⟨r0, 1, none⟩ = some (.float .f64 0) ∧ w'.frozen? ⟨r0, 0, none⟩ = false ∧ w'.frozen? ⟨r0, 1, none⟩ = false) ∧ Hid (∃ p' fl' R', RC B w0 w' gR ptr R' fl' L p' s ∧ RdN st L s p fl T6 F6 p' fl' R' ∧ Ch w w' (RSt gR ptr) ∧ w'.heap[r0]? = some (.cells #[.int .i64 0, .float .f64 0] 27 (0, 0)))) := fun W hW => by
        obtain ⟨p', fl', th, ld, tl, e1, e2, e3, e4, e5⟩ := H6.out
        refine (addR_any w0 W gR p' s st.n st.f F6 st.t T6 st.gap th ld tl ptr fl' L (e1.keep hW) (by omega)).mono ?_
        rintro e w' ⟨q1, q2, q3⟩
        have hb : w'.heap[b0]? = _ := HBk.out W w' b0 _ q3 ((hW.block b0 (Array.getElem?_eq_some_iff.1 e4).1 (by simp)).trans e4) (by omega)
        have hr : w'.heap[r0]? = _ := HBk.out W w' r0 _ q3 ((hW.block r0 (Array.getElem?_eq_some_iff.1 e5).1 (by simp)).trans e5) (by omega)
        refine ⟨q1, ⟨by simp [World.cell?, hb], by simp [World.cell?, hb]⟩, ⟨by simp [World.cell?, hr], by simp [World.cell?, hr], by simp [World.frozen?, hr], by simp [World.frozen?, hr]⟩, p', fl', _, q2, ?_, ?_, hr⟩
        · rcases e2 with ⟨wd, a1, a2, a3, a4, a5, a6⟩ | a1
          · exact .inl ⟨wd, a1, a2, by rw [a3, a4, a5], a6⟩
          · exact .inr a1
        · exact (e3.trans (Ch.of_gb (S := RSt gR ptr) hW (fun k hk => by cases hk)) (fun _ _ e => e)).trans q3 (fun _ _ e => e)
      have HS6 : Hid (W6.cell? ⟨b0, 0, none⟩ = some (.int .i64 T6) ∧ W6.cell? ⟨b0, 1, none⟩ = some (.float .f64 F6)) := by
        obtain ⟨p', fl', th, ld, tl, e1, e2, e3, e4, e5⟩ := H6.out
        exact ⟨by simp [World.cell?, e4], by simp [World.cell?, e4]⟩
      obtain ⟨m0, m1⟩ := HS6.out
      clear H6 HS6
      go_region_held3 (fun w' => w'.cell? ⟨b0, 0, none⟩ = some (.int .i64 T6) ∧ w'.cell? ⟨b0, 1, none⟩ = some (.float .f64 F6)) (go_keep)
        (first | (go_at_call 57; refine (HAd.out _ ?_).mono ?_; (first | exact gb_refl _ _ | exact gb_drew _ _); rintro e w7 ⟨rfl, ⟨n0, n1⟩, ⟨s0, s1, z0, z1⟩, H7⟩))
      clear HAd m0 m1
      go_wp2
      have HF8 : Hid (∃ p' fl' R', RC B w0 ((w7.setCell ⟨r0, 0, none⟩ (.int .i64 T6)).setCell ⟨r0, 1, none⟩ (.float .f64 F6)) gR ptr R' fl' L p' s ∧ RdN st L s p fl T6 F6 p' fl' R' ∧ Ch w ((w7.setCell ⟨r0, 0, none⟩ (.int .i64 T6)).setCell ⟨r0, 1, none⟩ (.float .f64 F6)) (RSt gR ptr) ∧ ((w7.setCell ⟨r0, 0, none⟩ (.int .i64 T6)).setCell ⟨r0, 1, none⟩ (.float .f64 F6)).heap[r0]? = some (.cells #[.int .i64 T6, .float .f64 F6] 27 (0, 0))) := by
        obtain ⟨p', fl', R', e1, e2, e3, e4⟩ := H7.out
        have hG : w7.grownBy ((w7.setCell ⟨r0, 0, none⟩ (.int .i64 T6)).setCell ⟨r0, 1, none⟩ (.float .f64 F6)) (some r0) := gb_trans (gb_set _ _ _ _) (gb_set _ _ _ _) (fun _ h _ => h.symm)
        have h1 := smpSet (j := 0) (.int .i64 T6) e4
        have h2 := heap_setCell_same _ r0 1 _ _ (.float .f64 F6) h1
        refine ⟨p', fl', R', e1.far hG (fun k hk => by cases hk; omega), e2, e3.trans (Ch.of_gb (S := fun k => k = r0) hG (fun k hk _ => by cases hk; rfl)) (fun k hk e => ?_), ?_⟩
        · have e' : k = r0 := e
          have := HZ.out
          omega
        · rw [h2]
          rfl
      clear H7 n0 n1 s0 s1 z0 z1
      generalize (w7.setCell ⟨r0, 0, none⟩ (.int .i64 T6)).setCell ⟨r0, 1, none⟩ (.float .f64 F6) = W8 at *
      obtain ⟨p', fl', R', e1, e2, e3, e4⟩ := HF8.out
      have y0 : W8.cell? ⟨r0, 0, none⟩ = some (.int .i64 T6) := by simp [World.cell?, e4]
      have y1 : W8.cell? ⟨r0, 1, none⟩ = some (.float .f64 F6) := by simp [World.cell?, e4]
      refine bodyPost_ret (v := .agg #[.int .i64 T6, .float .f64 F6]) ?_ rfl ?_
      · simp [results, Tryd.f67, go_sem, y0, y1]
      · exact ⟨T6, F6, p', fl', R', rfl, hF6, e1, e2, e3⟩
end Go.Proofs.YtkiefmhampfhoaaDoor
