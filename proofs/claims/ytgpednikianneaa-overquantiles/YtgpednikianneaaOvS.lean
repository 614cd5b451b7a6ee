/-
  How much a counter has grown: the walk.
-/
import Derived.Test.YtgpednikianneaaOvR
namespace Go.Proofs.Ytgpednikianneaa
open Go.RowKit
attribute [local go_sem] fwor_cell fwor_frozen fwor_size

def fallB (l : List SmpT) (z : Nat) : Bool := fo (l.getD (z + 1) smZ).2 (l.getD z smZ).2 == some .lt
def gnC (l : List SmpT) : Nat → Nat
  | 0 => fopC .sub (cz (l.getD (l.length - 1) smZ).2) (cz (l.getD 0 smZ).2)
  | z + 1 => if fallB l z = true then fopC .add (gnC l z) (cz (l.getD z smZ).2) else gnC l z
def gainC (l : List SmpT) : Nat := gnC l (l.length - 1)
/-- a window in memory -/
theorem win_cells {W : World} {B : Nat} {a : Option Addr} {n c : Nat} {frm upt : Int} (h : W.heap[B]? = some (.cells #[.slice a n c, .int .i64 frm, .int .i64 upt] 54 (0, 0))) : W.cell? ⟨B, 0, none⟩ = some (.slice a n c) ∧ W.cell? ⟨B, 1, none⟩ = some (.int .i64 frm) ∧ W.cell? ⟨B, 2, none⟩ = some (.int .i64 upt) ∧ B < W.heap.size := by
  refine ⟨?_, ?_, ?_, some_lt h⟩ <;> (rw [World.cell?, h]; rfl)
set_option maxRecDepth 8000 in
set_option maxHeartbeats 6400000 in
theorem gain_any (w : World) (a : Option Addr) (c : Nat) (l : List SmpT) (frm upt : Int) (hv : RdP w (.slice a l.length c) l) (hl : 1 ≤ l.length) :
    Calls Try.prog 79 #[.agg #[.slice a l.length c, .int .i64 frm, .int .i64 upt]] w fun e w' => ∃ v, e = .returned (.float .f64 v) ∧ cz v = gainC l ∧ w.grownBy w' none := by
  have HV := hidJ hv
  have HL := hidJ hl
  obtain ⟨b, o, rfl, hc1, hc2, hbl, HE0⟩ := hv.at hl
  have HE := hidJ HE0
  obtain ⟨C, hC⟩ : ∃ C : Obj, C = .cells #[.slice (some ⟨b, o, none⟩) l.length c, .int .i64 frm, .int .i64 upt] 54 := ⟨_, rfl⟩
  have hg := alloc_gb w C
  have hb := Go.heap_alloc_new w C
  have HEnd := hidJ ((ends_any (w.alloc C) (some ⟨b, o, none⟩) c l frm upt (hv.keep hg) hl).mono (fun e w' h => (show e = .returned (.tuple #[.agg #[.int .i64 (l.getD 0 smZ).1, .float .f64 (l.getD 0 smZ).2], .agg #[.int .i64 (l.getD (l.length - 1) smZ).1, .float .f64 (l.getD (l.length - 1) smZ).2]]) ∧ Hid (w.grownBy w' none ∧ w'.heap[w.heap.size]? = some C) from ⟨h.1, gb_none hg h.2, (h.2.block _ (some_lt hb) (by simp)).trans hb⟩)))
  have H0 : Hid (gnC l 0 = fopC .sub (cz (l.getD (l.length - 1) smZ).2) (cz (l.getD 0 smZ).2)) := rfl
  generalize (l.getD 0 smZ).1 = ta at *
  generalize (l.getD 0 smZ).2 = fa at *
  generalize (l.getD (l.length - 1) smZ).1 = tb at *
  generalize (l.getD (l.length - 1) smZ).2 = fb at *
  clear hg hb hv HE0
  obtain ⟨M, hM⟩ : ∃ M, l.length = M + 1 := ⟨l.length - 1, by omega⟩
  have HM := hidJ hM
  have HG9 : Hid (gainC l = gnC l M) := by
    unfold gainC
    rw [hM, Nat.add_sub_cancel]
    exact rfl
  rw [hM] at HEnd hc1 hC ⊢
  clear hM hl
  have hM2 : M + 1 ≤ 9223372036854775807 := by omega
  have hsf := store_float
  have hsub : ∀ W, (binOp .sub 22 (.float .f64 fb) (.float .f64 fa)).run Try.prog W = .ok (.float .f64 (fres W .sub fb fa)) (fwor W .sub fb fa) := fun W => run_fop W (.inr (.inl rfl)) _ _ _
  have HZ0 : Hid (∀ W, cz (fres W .sub fb fa) = gnC l 0) := fun W => by rw [H0.out]; exact cz_fres W (.inr (.inl rfl)) _ _
  have HW0 : Hid (∀ W : World, W.grownBy (fwor W .sub fb fa) none ∧ ∀ k, (fwor W .sub fb fa).heap[k]? = W.heap[k]?) := fun W => ⟨fwor_gb W _ _ _, fun k => fwor_heap W _ _ _ k⟩
  subst hC
  go_enter Try.func79, Try.ntmps79
  go_wp2_with fail
  refine HEnd.out.mono ?_
  rintro e w1 ⟨rfl, q1⟩
  clear HEnd
  obtain ⟨C2, hC2⟩ : ∃ C2 : Obj, C2 = .cells #[.int .i64 ta, .float .f64 fa] 33 := ⟨_, rfl⟩
  obtain ⟨C3, hC3⟩ : ∃ C3 : Obj, C3 = .cells #[.int .i64 tb, .float .f64 fb] 33 := ⟨_, rfl⟩
  have H1 : Hid (w.grownBy ((w1.alloc C2).alloc C3) none ∧ ((w1.alloc C2).alloc C3).heap[w.heap.size]? = some (.cells #[.slice (some ⟨b, o, none⟩) (M + 1) c, .int .i64 frm, .int .i64 upt] 54 (0, 0))) := by
    have g2 := gb_none (alloc_gb w1 C2) (alloc_gb (w1.alloc C2) C3)
    exact ⟨gb_none q1.out.1 g2, (g2.block _ (some_lt q1.out.2) (by simp)).trans q1.out.2⟩
  have hne : ¬ w1.heap.size = w1.heap.size + 1 := by omega
  have hne2 : ¬ w1.heap.size + 1 = w1.heap.size := by omega
  subst hC2 hC3
  clear q1
  go_wp2
  go_loopw [5, 6] (fun ur ui wr => ∃ (y z r : Nat), y ≤ M + 1 ∧ ui = .int .i64 (y : Int) ∧ ur = .float .f64 r ∧ (y : Int) - 1 = (z : Int) ∧ Hid (y = z + 1) ∧ Hid (cz r = gnC l z ∧ w.grownBy wr none ∧ wr.heap[w.heap.size]? = some (.cells #[.slice (some ⟨b, o, none⟩) (M + 1) c, .int .i64 frm, .int .i64 upt] 54 (0, 0)))) (fun _ ui _ => M + 1 - (intOf ui).toNat)
  case atStart => exact ⟨1, 0, _, by omega, rfl, rfl, rfl, rfl, HZ0.out _, gb_none H1.out.1 (HW0.out _).1, ((HW0.out _).2 _).trans H1.out.2⟩
  case round =>
    obtain ⟨y, z, r, hyM, rfl, rfl, hyz, hy, hr⟩ := hrel
    clear H1 H0 HZ0 HW0 hsub
    obtain ⟨c0, c1, c2, hlt⟩ := win_cells hr.out.2.2
    by_cases hyl : y < M + 1
    · have hyi : (y : Int) < (M : Int) + 1 := by omega
      have hzM : z < M + 1 := by omega
      have hzi : (z : Int) < (M : Int) + 1 := by omega
      obtain ⟨-, d0⟩ := HE.out z (by have := HM.out; omega) wr hr.out.2.1
      obtain ⟨-, d1⟩ := HE.out y (by have := HM.out; omega) wr hr.out.2.1
      have HS : Hid (gnC l y = if (fo (l.getD y smZ).2 (l.getD z smZ).2 == some .lt) = true then fopC .add (gnC l z) (cz (l.getD z smZ).2) else gnC l z) := by
        rw [hy.out]
        rfl
      have HY : Hid (y + 1 - 1 = y ∧ ((y + 1 : Nat) : Int) - 1 = (y : Int)) := ⟨Nat.add_sub_cancel _ _, by omega⟩
      have HA : Hid (∀ W, cz (fres W .add r (l.getD z smZ).2) = fopC .add (gnC l z) (cz (l.getD z smZ).2)) := fun W => by rw [cz_fres W (.inl rfl), hr.out.1]
      have hadd : ∀ W, (binOp .add 22 (.float .f64 r) (.float .f64 (l.getD z smZ).2)).run Try.prog W = .ok (.float .f64 (fres W .add r (l.getD z smZ).2)) (fwor W .add r (l.getD z smZ).2) := fun W => run_fop W (.inl rfl) _ _ _
      have HW : Hid (∀ W : World, W.grownBy (fwor W .add r (l.getD z smZ).2) none ∧ ∀ k, (fwor W .add r (l.getD z smZ).2).heap[k]? = W.heap[k]?) := fun W => ⟨fwor_gb W _ _ _, fun k => fwor_heap W _ _ _ k⟩
      have HR := hidJ hr.out
      have hfo : (FloatKind.f64.format.order (l.getD y smZ).2 (l.getD z smZ).2 == some .lt) = (fo (l.getD y smZ).2 (l.getD z smZ).2 == some .lt) := rfl
      clear hr HE hy
      generalize (l.getD z smZ).2 = x at *
      generalize (l.getD y smZ).2 = v at *
      generalize (fo v x == some .lt) = q at *
      have hS := HS.out
      clear HS
      cases q with
      | true =>
        have HX : Hid (gnC l y = fopC .add (gnC l z) (cz x)) := by rw [hS]; rfl
        clear hS
        go_wp2
        go_roundw
        case rel => exact ⟨y + 1, y, _, by omega, by go_num, rfl, HY.out.2, rfl, by rw [HX.out]; exact HA.out _, gb_none HR.out.2.1 (HW.out _).1, ((HW.out _).2 _).trans HR.out.2.2⟩
        case measure => simp [intOf]; omega
      | false =>
        have HX : Hid (gnC l y = gnC l z) := by rw [hS]; rfl
        clear hS
        go_wp2
        go_roundw
        case rel => exact ⟨y + 1, y, r, by omega, by go_num, rfl, HY.out.2, rfl, by rw [HX.out]; exact HR.out.1, HR.out.2.1, HR.out.2.2⟩
        case measure => simp [intOf]; omega
    · have hyM2 : y = M + 1 := by omega
      have hyi : ¬ (y : Int) < (M : Int) + 1 := by omega
      have HFF : Hid (cz r = gainC l ∧ w.grownBy wr none) := by
        have e : z = M := by have := hy.out; omega
        rw [HG9.out, ← e]
        exact ⟨hr.out.1, hr.out.2.1⟩
      clear hr HE hy
      go_wp2
      go_ret
      exact ⟨_, rfl, HFF.out⟩
end Go.Proofs.Ytgpednikianneaa
