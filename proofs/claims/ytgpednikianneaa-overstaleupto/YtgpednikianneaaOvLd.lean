/-
  idelta and irate of a window: the walks.
-/
import Derived.Test.YtgpednikianneaaOvSm
namespace Go.Proofs.Ytgpednikianneaa
open Go.RowKit
attribute [local go_sem] fwor_cell fwor_frozen fwor_size

def idlC (l : List SmpT) : Nat := fopC .sub (cz (lst l).2) (cz (bfr l).2)
def dltC (l : List SmpT) : Nat := if (fo (lst l).2 (bfr l).2 == some .lt) = true then cz (lst l).2 else fopC .sub (cz (lst l).2) (cz (bfr l).2)
def irtC (l : List SmpT) : Nat := fopC .quo (dltC l) (secC (wrap64 ((lst l).1 - (bfr l).1)))
set_option maxRecDepth 8000 in
set_option maxHeartbeats 12800000 in
theorem lastDelta_any (w : World) (a : Option Addr) (c : Nat) (l : List SmpT) (frm upt : Int) (hv : RdP w (.slice a l.length c) l) (hl : 2 ≤ l.length) :
    Calls Try.prog 62 #[.agg #[.slice a l.length c, .int .i64 frm, .int .i64 upt]] w fun e w' => ∃ v, e = .returned (.float .f64 v) ∧ cz v = idlC l ∧ w.grownBy w' none := by
  obtain ⟨b, o, rfl, hc1, hc2, hbl, -⟩ := hv.at (by omega)
  obtain ⟨C, hC⟩ : ∃ C : Obj, C = .cells #[.slice (some ⟨b, o, none⟩) l.length c, .int .i64 frm, .int .i64 upt] 54 := ⟨_, rfl⟩
  have hg := alloc_gb w C
  have hb := Go.heap_alloc_new w C
  have HEnd := hidJ ((lastTwo_any (w.alloc C) (some ⟨b, o, none⟩) c l frm upt (hv.keep hg) hl).mono (fun e w' h => (show e = .returned (.tuple #[.agg #[.int .i64 (lst l).1, .float .f64 (lst l).2], .agg #[.int .i64 (bfr l).1, .float .f64 (bfr l).2]]) ∧ Hid (w.grownBy w' none ∧ w'.heap[w.heap.size]? = some C) from ⟨h.1, gb_none hg h.2, (h.2.block _ (some_lt hb) (by simp)).trans hb⟩)))
  have HDe : Hid (fopC .sub (cz (lst l).2) (cz (bfr l).2) = idlC l) := rfl
  generalize (lst l).1 = ta at *
  generalize (lst l).2 = fa at *
  generalize (bfr l).1 = tb at *
  generalize (bfr l).2 = fb at *
  generalize idlC l = DR at *
  clear hb hv hl hg
  generalize l.length = N at *
  subst hC
  have hsf := store_float
  go_enter Try.func62, Try.ntmps62
  go_wp2_with fail
  refine HEnd.out.mono ?_
  rintro e w1 ⟨rfl, q1⟩
  clear HEnd
  obtain ⟨C2, hC2⟩ : ∃ C2 : Obj, C2 = .cells #[.int .i64 ta, .float .f64 fa] 33 := ⟨_, rfl⟩
  obtain ⟨C3, hC3⟩ : ∃ C3 : Obj, C3 = .cells #[.int .i64 tb, .float .f64 fb] 33 := ⟨_, rfl⟩
  obtain ⟨w4, hw4⟩ : ∃ w4, (w1.alloc C2).alloc C3 = w4 := ⟨_, rfl⟩
  have g2 : w1.grownBy w4 none := by rw [← hw4]; exact gb_none (alloc_gb w1 C2) (alloc_gb (w1.alloc C2) C3)
  have hx0 := (g2.block _ (some_lt q1.out.2) (by simp)).trans q1.out.2
  have hx1 : w4.heap[w1.heap.size]? = some C2 := by
    rw [← hw4]
    exact ((alloc_gb (w1.alloc C2) C3).block _ (by simp) (by simp)).trans (Go.heap_alloc_new w1 C2)
  have hx2 : w4.heap[w1.heap.size + 1]? = some C3 := by
    rw [← hw4]
    have := Go.heap_alloc_new (w1.alloc C2) C3
    rw [World.size_alloc] at this
    exact this
  have HG4 := hidJ (gb_none q1.out.1 g2)
  have hne : ¬ w1.heap.size = w1.heap.size + 1 := by omega
  have hne2 : ¬ w1.heap.size + 1 = w1.heap.size := by omega
  have p1 : w4.cell? ⟨w1.heap.size, 1, none⟩ = some (.float .f64 fa) := by rw [World.cell?, hx1, hC2]; rfl
  have p2 : w4.cell? ⟨w1.heap.size + 1, 1, none⟩ = some (.float .f64 fb) := by rw [World.cell?, hx2, hC3]; rfl
  have HZ : Hid (∀ W, cz (fres W .sub fa fb) = DR) := fun W => by rw [cz_fres W (.inr (.inl rfl)), HDe.out]
  have HY : Hid (w.grownBy (fwor w4 .sub fa fb) none) := gb_none HG4.out (fwor_gb _ _ _ _)
  clear q1 hx0 hx1 hx2 g2 HDe HG4
  subst hC2 hC3
  have hsub : ∀ W, (binOp .sub 22 (.float .f64 fa) (.float .f64 fb)).run Try.prog W = .ok (.float .f64 (fres W .sub fa fb)) (fwor W .sub fa fb) := fun W => run_fop W (.inr (.inl rfl)) _ _ _
  go_wp2
  go_ret
  exact ⟨_, rfl, HZ.out _, HY.out⟩
set_option maxRecDepth 8000 in
set_option maxHeartbeats 12800000 in
theorem lastRate_any (w : World) (a : Option Addr) (c : Nat) (l : List SmpT) (frm upt : Int) (hv : RdP w (.slice a l.length c) l) (hl : 2 ≤ l.length) :
    Calls Try.prog 61 #[.agg #[.slice a l.length c, .int .i64 frm, .int .i64 upt]] w fun e w' => ∃ v, e = .returned (.float .f64 v) ∧ cz v = irtC l ∧ w.grownBy w' none := by
  obtain ⟨b, o, rfl, hc1, hc2, hbl, -⟩ := hv.at (by omega)
  obtain ⟨C, hC⟩ : ∃ C : Obj, C = .cells #[.slice (some ⟨b, o, none⟩) l.length c, .int .i64 frm, .int .i64 upt] 54 := ⟨_, rfl⟩
  have hg := alloc_gb w C
  have hb := Go.heap_alloc_new w C
  have HEnd := hidJ ((lastTwo_any (w.alloc C) (some ⟨b, o, none⟩) c l frm upt (hv.keep hg) hl).mono (fun e w' h => (show e = .returned (.tuple #[.agg #[.int .i64 (lst l).1, .float .f64 (lst l).2], .agg #[.int .i64 (bfr l).1, .float .f64 (bfr l).2]]) ∧ Hid (w.grownBy w' none ∧ w'.heap[w.heap.size]? = some C) from ⟨h.1, gb_none hg h.2, (h.2.block _ (some_lt hb) (by simp)).trans hb⟩)))
  have HDe : Hid (fopC .quo (dltC l) (secC (wrap64 ((lst l).1 - (bfr l).1))) = irtC l) := rfl
  have HDl : Hid (dltC l = if (fo (lst l).2 (bfr l).2 == some .lt) = true then cz (lst l).2 else fopC .sub (cz (lst l).2) (cz (bfr l).2)) := rfl
  generalize (lst l).1 = ta at *
  generalize (lst l).2 = fa at *
  generalize (bfr l).1 = tb at *
  generalize (bfr l).2 = fb at *
  generalize irtC l = DR at *
  clear hb hv hl hg
  generalize l.length = N at *
  subst hC
  have hsf := store_float
  go_enter Try.func61, Try.ntmps61
  go_wp2_with fail
  refine HEnd.out.mono ?_
  rintro e w1 ⟨rfl, q1⟩
  clear HEnd
  obtain ⟨C2, hC2⟩ : ∃ C2 : Obj, C2 = .cells #[.int .i64 ta, .float .f64 fa] 33 := ⟨_, rfl⟩
  obtain ⟨C3, hC3⟩ : ∃ C3 : Obj, C3 = .cells #[.int .i64 tb, .float .f64 fb] 33 := ⟨_, rfl⟩
  obtain ⟨w4, hw4⟩ : ∃ w4, (w1.alloc C2).alloc C3 = w4 := ⟨_, rfl⟩
  have g2 : w1.grownBy w4 none := by rw [← hw4]; exact gb_none (alloc_gb w1 C2) (alloc_gb (w1.alloc C2) C3)
  have hx0 := (g2.block _ (some_lt q1.out.2) (by simp)).trans q1.out.2
  have hx1 : w4.heap[w1.heap.size]? = some C2 := by
    rw [← hw4]
    exact ((alloc_gb (w1.alloc C2) C3).block _ (by simp) (by simp)).trans (Go.heap_alloc_new w1 C2)
  have hx2 : w4.heap[w1.heap.size + 1]? = some C3 := by
    rw [← hw4]
    have := Go.heap_alloc_new (w1.alloc C2) C3
    rw [World.size_alloc] at this
    exact this
  have HG4 := hidJ (gb_none q1.out.1 g2)
  have hne : ¬ w1.heap.size = w1.heap.size + 1 := by omega
  have hne2 : ¬ w1.heap.size + 1 = w1.heap.size := by omega
  have p1 : w4.cell? ⟨w1.heap.size, 1, none⟩ = some (.float .f64 fa) := by rw [World.cell?, hx1, hC2]; rfl
  have p2 : w4.cell? ⟨w1.heap.size + 1, 1, none⟩ = some (.float .f64 fb) := by rw [World.cell?, hx2, hC3]; rfl
  have p3 : w4.cell? ⟨w1.heap.size, 0, none⟩ = some (.int .i64 ta) := by rw [World.cell?, hx1, hC2]; rfl
  have p4 : w4.cell? ⟨w1.heap.size + 1, 0, none⟩ = some (.int .i64 tb) := by rw [World.cell?, hx2, hC3]; rfl
  obtain ⟨d, w5, hq5, hd5, hg5, hc5, hs5⟩ := fop_at w4 (op := .sub) (.inr (.inl rfl)) fa fb
  have hsub := hq5 22
  have r1 := (hc5 ⟨w1.heap.size, 1, none⟩).trans p1
  have r2 := (hc5 ⟨w1.heap.size + 1, 1, none⟩).trans p2
  have r3 := (hc5 ⟨w1.heap.size, 0, none⟩).trans p3
  have r4 := (hc5 ⟨w1.heap.size + 1, 0, none⟩).trans p4
  have HG5 := hidJ (gb_none HG4.out hg5)
  have HSe : Hid (Calls Try.prog 81 #[.int .i64 (wrap64 (ta - tb))] w5 fun e w' => ∃ v, e = .returned (.float .f64 v) ∧ Hid (cz v = secC (wrap64 (ta - tb)) ∧ w.grownBy w' none)) := (seconds_any w5 _).mono (by
    rintro e w' ⟨v, h1, h2, h3⟩
    exact ⟨v, h1, h2, gb_none HG5.out h3⟩)
  have hfo : (FloatKind.f64.format.order fa fb == some .lt) = (fo fa fb == some .lt) := rfl
  obtain ⟨lb, hlb⟩ : ∃ lb, (fo fa fb == some .lt) = lb := ⟨_, rfl⟩
  rw [hlb] at hfo HDl
  clear hlb
  -- the difference that goes on
  obtain ⟨x, hx⟩ : ∃ x, x = if lb = true then fa else d := ⟨_, rfl⟩
  have HX : Hid (cz x = dltC l) := by
    rw [HDl.out, hx]
    cases lb with
    | true => rfl
    | false => exact hd5
  have HZ : Hid (∀ W v, cz v = secC (wrap64 (ta - tb)) → cz (fres W .quo x v) = DR) := fun W v hv => by rw [cz_fres W (.inr (.inr (.inr rfl))), HX.out, hv, HDe.out]
  have hquo : ∀ W v, (binOp .quo 22 (.float .f64 x) (.float .f64 v)).run Try.prog W = .ok (.float .f64 (fres W .quo x v)) (fwor W .quo x v) := fun W v => run_fop W (.inr (.inr (.inr rfl))) _ _ _
  clear q1 hx0 hx1 hx2 g2 HDe HG4 HDl HX hq5 hd5 hg5 hc5 hs5
  subst hC2 hC3
  cases lb with
  | true =>
    have hx2 : x = fa := by simpa using hx
    clear hx
    subst hx2
    go_wp2_with fail
    refine HSe.out.mono ?_
    rintro e w6 ⟨v, rfl, h6⟩
    have HZ6 : Hid (∀ W, cz (fres W .quo x v) = DR) := fun W => HZ.out W v h6.out.1
    have HY6 : Hid (w.grownBy (fwor w6 .quo x v) none) := gb_none h6.out.2 (fwor_gb _ _ _ _)
    clear HSe HZ h6 HG5
    go_wp2
    go_ret
    exact ⟨_, rfl, HZ6.out _, HY6.out⟩
  | false =>
    have hx2 : x = d := by simpa using hx
    clear hx
    subst hx2
    go_wp2_with fail
    refine HSe.out.mono ?_
    rintro e w6 ⟨v, rfl, h6⟩
    have HZ6 : Hid (∀ W, cz (fres W .quo x v) = DR) := fun W => HZ.out W v h6.out.1
    have HY6 : Hid (w.grownBy (fwor w6 .quo x v) none) := gb_none h6.out.2 (fwor_gb _ _ _ _)
    clear HSe HZ h6 HG5
    go_wp2
    go_ret
    exact ⟨_, rfl, HZ6.out _, HY6.out⟩
end Go.Proofs.Ytgpednikianneaa
