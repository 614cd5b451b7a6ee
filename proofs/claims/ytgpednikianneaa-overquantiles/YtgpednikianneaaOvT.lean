/-
  By how much the samples' own time is less than the window's: the walk.
-/
import Derived.Test.YtgpednikianneaaOvS
namespace Go.Proofs.Ytgpednikianneaa
open Go.RowKit
attribute [local go_sem] fwor_cell fwor_frozen fwor_size

/-- an operation in a world: its answer, and the world behind -/
theorem fop_at (W : World) {op : BinOp} (ho : Ar op) (a b : Nat) : ∃ r W', (∀ t, (binOp op t (.float .f64 a) (.float .f64 b)).run Try.prog W = .ok (.float .f64 r) W') ∧ cz r = fopC op (cz a) (cz b) ∧ W.grownBy W' none ∧ (∀ x, W'.cell? x = W.cell? x) ∧ W'.heap.size = W.heap.size :=
  ⟨_, _, fun t => run_fop W ho t a b, cz_fres W ho a b, fwor_gb W op a b, fun x => fwor_cell W op a b x, fwor_size W op a b⟩
def widC (l : List SmpT) : Nat := secC (wrap64 ((l.getD (l.length - 1) smZ).1 - (l.getD 0 smZ).1))
def endC (l : List SmpT) (upt : Int) : Nat := secC (wrap64 (upt - (l.getD (l.length - 1) smZ).1))
def aprC (l : List SmpT) : Nat := fopC .quo (widC l) (cz (floatOfInt .f64 (((l.length - 1 : Nat) : Nat) : Int)))
def farC (l : List SmpT) : Nat := fopC .mul (aprC l) (cz 4607632778762754458)
def stpC (l : List SmpT) (y e : Nat) : Nat := if (fo e (farC l) == some .lt) = true then fopC .add y e else fopC .add y (fopC .quo (aprC l) (cz 4611686018427387904))
def strC (l : List SmpT) (upt : Int) (s : Nat) : Nat := fopC .quo (stpC l (stpC l (widC l) s) (endC l upt)) (widC l)
set_option maxRecDepth 8000 in
set_option maxHeartbeats 12800000 in
theorem stretch_any (w : World) (a : Option Addr) (c : Nat) (l : List SmpT) (frm upt : Int) (s : Nat) (hv : RdP w (.slice a l.length c) l) (hl : 1 ≤ l.length) :
    Calls Try.prog 77 #[.agg #[.slice a l.length c, .int .i64 frm, .int .i64 upt], .float .f64 s] w fun e w' => ∃ v, e = .returned (.float .f64 v) ∧ cz v = strC l upt (cz s) ∧ w.grownBy w' none := by
  obtain ⟨b, o, rfl, hc1, hc2, hbl, -⟩ := hv.at hl
  obtain ⟨C, hC⟩ : ∃ C : Obj, C = .cells #[.slice (some ⟨b, o, none⟩) l.length c, .int .i64 frm, .int .i64 upt] 54 := ⟨_, rfl⟩
  have hg := alloc_gb w C
  have hb := Go.heap_alloc_new w C
  have HEnd := hidJ ((ends_any (w.alloc C) (some ⟨b, o, none⟩) c l frm upt (hv.keep hg) hl).mono (fun e w' h => (show e = .returned (.tuple #[.agg #[.int .i64 (l.getD 0 smZ).1, .float .f64 (l.getD 0 smZ).2], .agg #[.int .i64 (l.getD (l.length - 1) smZ).1, .float .f64 (l.getD (l.length - 1) smZ).2]]) ∧ Hid (w.grownBy w' none ∧ w'.heap[w.heap.size]? = some C) from ⟨h.1, gb_none hg h.2, (h.2.block _ (some_lt hb) (by simp)).trans hb⟩)))
  have HWid : Hid (widC l = secC (wrap64 ((l.getD (l.length - 1) smZ).1 - (l.getD 0 smZ).1))) := rfl
  have HEn : Hid (endC l upt = secC (wrap64 (upt - (l.getD (l.length - 1) smZ).1))) := rfl
  obtain ⟨M, hM⟩ : ∃ M, l.length = M + 1 := ⟨l.length - 1, by omega⟩
  have HApr : Hid (aprC l = fopC .quo (widC l) (cz (floatOfInt .f64 (M : Int)))) := by
    unfold aprC
    rw [hM, Nat.add_sub_cancel]
    exact rfl
  have HFar : Hid (farC l = fopC .mul (aprC l) (cz 4607632778762754458)) := rfl
  have HStp : Hid (∀ y e, stpC l y e = if (fo e (farC l) == some .lt) = true then fopC .add y e else fopC .add y (fopC .quo (aprC l) (cz 4611686018427387904))) := fun _ _ => rfl
  have HStr : Hid (strC l upt (cz s) = fopC .quo (stpC l (stpC l (widC l) (cz s)) (endC l upt)) (widC l)) := rfl
  generalize (l.getD 0 smZ).1 = ta at *
  generalize (l.getD 0 smZ).2 = fa at *
  generalize (l.getD (l.length - 1) smZ).1 = tb at *
  generalize (l.getD (l.length - 1) smZ).2 = fb at *
  generalize strC l upt (cz s) = SR at *
  generalize widC l = WD at *
  generalize endC l upt = EN at *
  generalize aprC l = AP at *
  generalize farC l = FA at *
  clear hb hv
  rw [hM] at HEnd hc1 hC ⊢
  clear hM hl hg
  have hM2 : M + 1 ≤ 9223372036854775807 := by omega
  have hsf := store_float
  subst hC
  go_enter Try.func77, Try.ntmps77
  go_wp2_with fail
  refine HEnd.out.mono ?_
  rintro e w1 ⟨rfl, q1⟩
  clear HEnd
  obtain ⟨C2, hC2⟩ : ∃ C2 : Obj, C2 = .cells #[.int .i64 ta, .float .f64 fa] 33 := ⟨_, rfl⟩
  obtain ⟨C3, hC3⟩ : ∃ C3 : Obj, C3 = .cells #[.int .i64 tb, .float .f64 fb] 33 := ⟨_, rfl⟩
  obtain ⟨W2, hW2⟩ : ∃ W2, (w1.alloc C2).alloc C3 = W2 := ⟨_, rfl⟩
  have g2 : w1.grownBy W2 none := by rw [← hW2]; exact gb_none (alloc_gb w1 C2) (alloc_gb (w1.alloc C2) C3)
  have hx0 := (g2.block _ (some_lt q1.out.2) (by simp)).trans q1.out.2
  have hx1 : W2.heap[w1.heap.size]? = some C2 := by
    rw [← hW2]
    exact ((alloc_gb (w1.alloc C2) C3).block _ (by simp) (by simp)).trans (Go.heap_alloc_new w1 C2)
  have hx2 : W2.heap[w1.heap.size + 1]? = some C3 := by
    rw [← hW2]
    have := Go.heap_alloc_new (w1.alloc C2) C3
    rw [World.size_alloc] at this
    exact this
  -- what stays in whatever world comes of it
  have HX : Hid (∀ W, W2.grownBy W none → w.grownBy W none ∧ W.cell? ⟨w.heap.size, 0, none⟩ = some (.slice (some ⟨b, o, none⟩) (M + 1) c) ∧ W.cell? ⟨w.heap.size, 2, none⟩ = some (.int .i64 upt) ∧ W.cell? ⟨w1.heap.size, 0, none⟩ = some (.int .i64 ta) ∧ W.cell? ⟨w1.heap.size + 1, 0, none⟩ = some (.int .i64 tb)) := fun W hW => by
    have k0 := (hW.block _ (some_lt hx0) (by simp)).trans hx0
    have k1 := (hW.block _ (some_lt hx1) (by simp)).trans hx1
    have k2 := (hW.block _ (some_lt hx2) (by simp)).trans hx2
    rw [hC2] at k1
    rw [hC3] at k2
    refine ⟨gb_none q1.out.1 (gb_none g2 hW), ?_, ?_, ?_, ?_⟩
    · rw [World.cell?, k0]; rfl
    · rw [World.cell?, k0]; rfl
    · rw [World.cell?, k1]; rfl
    · rw [World.cell?, k2]; rfl
  have hne : ¬ w1.heap.size = w1.heap.size + 1 := by omega
  have hne2 : ¬ w1.heap.size + 1 = w1.heap.size := by omega
  obtain ⟨-, p0, p2, p3, p4⟩ := HX.out W2 (gb_refl _ _)
  have HSe : Hid (∀ n : Int, ∀ W, W2.grownBy W none → Calls Try.prog 81 #[.int .i64 n] W fun e w' => ∃ v, e = .returned (.float .f64 v) ∧ Hid (cz v = secC n ∧ W2.grownBy w' none)) := fun n W hW => (seconds_any W n).mono (by
    rintro e w' ⟨v, h1, h2, h3⟩
    exact ⟨v, h1, h2, gb_none hW h3⟩)
  subst hC2 hC3
  clear q1 hx0 hx1 hx2 g2
  go_wp2_with fail
  refine (HSe.out _ W2 (gb_refl _ _)).mono ?_
  rintro e w4 ⟨ve, rfl, h4⟩
  clear p0 p2 p3 p4
  obtain ⟨-, p0, p2, p3, p4⟩ := HX.out w4 h4.out.2
  go_wp2_with fail
  refine (HSe.out _ w4 h4.out.2).mono ?_
  rintro e w5 ⟨vw, rfl, h5⟩
  clear p0 p2 p3 p4
  obtain ⟨-, p0, p2, p3, p4⟩ := HX.out w5 h5.out.2
  obtain ⟨ap, W6, hq6, ha6, hg6, hc6, hs6⟩ := fop_at w5 (op := .quo) (.inr (.inr (.inr rfl))) vw (floatOfInt .f64 (M : Int))
  obtain ⟨fr, W7, hq7, ha7, hg7, hc7, hs7⟩ := fop_at W6 (op := .mul) (.inr (.inr (.inl rfl))) ap 4607632778762754458
  have hquo := hq6 22
  have hmul := hq7 22
  have r0 := (hc6 ⟨w.heap.size, 0, none⟩).trans p0
  have HV : Hid (cz vw = WD ∧ cz ve = EN ∧ cz ap = AP ∧ cz fr = FA) := by
    have e1 : cz vw = WD := by rw [HWid.out]; exact h5.out.1
    have e2 : cz ve = EN := by rw [HEn.out]; exact h4.out.1
    have e3 : cz ap = AP := by rw [ha6, e1, HApr.out]
    refine ⟨e1, e2, e3, ?_⟩
    rw [ha7, e3, HFar.out]
  have H7 : Hid (w.grownBy W7 none) := (HX.out W7 (gb_none h5.out.2 (gb_none hg6 hg7))).1
  clear hq6 hq7 ha6 ha7 hg6 hg7 hc6 hc7 hs6 hs7 h4 h5 HX HSe HWid HEn HApr HFar
  obtain ⟨C9, hC9⟩ : ∃ C9 : Obj, C9 = .cells #[.float .f64 s, .float .f64 ve] 22 := ⟨_, rfl⟩
  obtain ⟨en, hen⟩ : ∃ en : Nat → Nat, en = fun z => if z = 0 then s else ve := ⟨_, rfl⟩
  have H8 : Hid (w.grownBy (W7.alloc C9) none ∧ ∀ W, (W7.alloc C9).grownBy W none → ∀ z, z < 2 → W.cell? ⟨W7.heap.size, z, none⟩ = some (.float .f64 (en z))) := by
    refine ⟨gb_none H7.out (alloc_gb _ _), fun W hW z hz => ?_⟩
    have hb := Go.heap_alloc_new W7 C9
    have k0 := (hW.block _ (some_lt hb) (by simp)).trans hb
    rw [hC9] at k0
    have : z = 0 ∨ z = 1 := by omega
    rcases this with rfl | rfl
    · rw [World.cell?, k0, hen]; rfl
    · rw [World.cell?, k0, hen]; rfl
  have HEn : Hid (en 0 = s ∧ en 1 = ve) := by rw [hen]; exact ⟨rfl, rfl⟩
  have H9 : Hid (∀ y z, z < 2 → stpC l (cz y) (cz (en z)) = if (fo (en z) fr == some .lt) = true then fopC .add (cz y) (cz (en z)) else fopC .add (cz y) (fopC .quo (cz ap) (cz 4611686018427387904))) := fun y z _ => by
    rw [HStp.out, ← HV.out.2.2.1, ← HV.out.2.2.2, fo_cz]
  clear HStp H7 hen
  subst hC9
  clear p2 p3 p4
  go_wp2
  go_loopw [11, 45] (fun uy ui wr => ∃ (z y : Nat), z ≤ 2 ∧ ui = .int .i64 (z : Int) ∧ uy = .float .f64 y ∧ Hid ((z = 0 → cz y = WD) ∧ (z = 1 → cz y = stpC l WD (cz s)) ∧ (z = 2 → cz y = stpC l (stpC l WD (cz s)) EN) ∧ (W7.alloc (.cells #[.float .f64 s, .float .f64 ve] 22)).grownBy wr none)) (fun _ ui _ => 2 - (intOf ui).toNat)
  case atStart => exact ⟨0, vw, by omega, rfl, rfl, fun _ => HV.out.1, fun h => by omega, fun h => by omega, gb_refl _ _⟩
  case round =>
    obtain ⟨z, y, hz2, rfl, rfl, hr⟩ := hrel
    by_cases hzl : z < 2
    · have hzi : (z : Int) < 2 := by omega
      have d0 := H8.out.2 wr hr.out.2.2.2 z hzl
      have hS := H9.out y z hzl
      have hadd : ∀ W b, (binOp .add 22 (.float .f64 y) (.float .f64 b)).run Try.prog W = .ok (.float .f64 (fres W .add y b)) (fwor W .add y b) := fun W b => run_fop W (.inl rfl) _ _ _
      have hquo : ∀ W, (binOp .quo 22 (.float .f64 ap) (.float .f64 4611686018427387904)).run Try.prog W = .ok (.float .f64 (fres W .quo ap 4611686018427387904)) (fwor W .quo ap 4611686018427387904) := fun W => run_fop W (.inr (.inr (.inr rfl))) _ _ _
      have HA : Hid (∀ W b, cz (fres W .add y b) = fopC .add (cz y) (cz b)) := fun W b => cz_fres W (.inl rfl) _ _
      have HQ : Hid (∀ W, cz (fres W .quo ap 4611686018427387904) = fopC .quo (cz ap) (cz 4611686018427387904)) := fun W => cz_fres W (.inr (.inr (.inr rfl))) _ _
      have HW : Hid (∀ W : World, ∀ op a b, W.grownBy (fwor W op a b) none) := fun W op a b => fwor_gb W _ _ _
      have HR := hidJ hr.out
      -- what the next round finds
      have HN : Hid (∀ y' wr', cz y' = stpC l (cz y) (cz (en z)) → wr.grownBy wr' none → (z + 1 = 0 → cz y' = WD) ∧ (z + 1 = 1 → cz y' = stpC l WD (cz s)) ∧ (z + 1 = 2 → cz y' = stpC l (stpC l WD (cz s)) EN) ∧ (W7.alloc (.cells #[.float .f64 s, .float .f64 ve] 22)).grownBy wr' none) := fun y' wr' h hg' => by
        refine ⟨fun h0 => by omega, fun h1 => ?_, fun h2 => ?_, gb_none HR.out.2.2.2 hg'⟩
        · have e : z = 0 := by omega
          rw [h, e, HEn.out.1, HR.out.1 e]
        · have e : z = 1 := by omega
          rw [h, e, HEn.out.2, HV.out.2.1, HR.out.2.1 e]
      have hfo : (FloatKind.f64.format.order (en z) fr == some .lt) = (fo (en z) fr == some .lt) := rfl
      clear hr HR H9
      have HS := hidJ hS
      clear hS
      generalize en z = x at *
      obtain ⟨q, hq⟩ : ∃ q, (fo x fr == some .lt) = q := ⟨_, rfl⟩
      rw [hq] at hfo HS
      clear hq
      cases q with
      | true =>
        have HX : Hid (stpC l (cz y) (cz x) = fopC .add (cz y) (cz x)) := by rw [HS.out]; rfl
        clear HS hquo
        go_wp2
        go_roundw
        case rel => exact ⟨z + 1, _, by omega, by go_num, rfl, HN.out _ _ (by rw [HX.out]; exact HA.out _ _) (HW.out _ _ _ _)⟩
        case measure => simp [intOf]; omega
      | false =>
        have HX : Hid (stpC l (cz y) (cz x) = fopC .add (cz y) (fopC .quo (cz ap) (cz 4611686018427387904))) := by rw [HS.out]; rfl
        clear HS
        go_wp2
        go_roundw
        case rel => exact ⟨z + 1, _, by omega, by go_num, rfl, HN.out _ _ (by rw [HX.out, HA.out, HQ.out]) (gb_none (HW.out _ _ _ _) (HW.out _ _ _ _))⟩
        case measure => simp [intOf]; omega
    · have hzn : z = 2 := by omega
      subst hzn
      have hq9 : ∀ W, (binOp .quo 22 (.float .f64 y) (.float .f64 vw)).run Try.prog W = .ok (.float .f64 (fres W .quo y vw)) (fwor W .quo y vw) := fun W => run_fop W (.inr (.inr (.inr rfl))) _ _ _
      have HFF : Hid (∀ W, cz (fres W .quo y vw) = SR) := fun W => by
        rw [cz_fres W (.inr (.inr (.inr rfl))), hr.out.2.2.1 rfl, HV.out.1, HStr.out]
      have HGG : Hid (w.grownBy (fwor wr .quo y vw) none) := gb_none H8.out.1 (gb_none hr.out.2.2.2 (fwor_gb _ _ _ _))
      clear hr H8 H9 HV HStr HEn
      go_wp2
      go_ret
      exact ⟨_, rfl, HFF.out _, HGG.out⟩
end Go.Proofs.Ytgpednikianneaa
