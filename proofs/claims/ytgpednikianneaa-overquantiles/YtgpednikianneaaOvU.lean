/-
  How long ago a counter was 0: the walk.
-/
import Derived.Test.YtgpednikianneaaOvT
namespace Go.Proofs.Ytgpednikianneaa
open Go.RowKit
attribute [local go_sem] fwor_cell fwor_frozen fwor_size

def zerC (l : List SmpT) (r : Nat) : Nat := fopC .mul (widC l) (fopC .quo (cz (l.getD 0 smZ).2) r)
def upB (l : List SmpT) (r : Nat) : Bool := (fo r 0 == some .gt) && (fo (l.getD 0 smZ).2 0 == some .gt || fo (l.getD 0 smZ).2 0 == some .eq)
def szrC (l : List SmpT) (frm : Int) (r : Nat) : Nat := if (upB l r && (fo (zerC l r) (ahdC l frm) == some .lt)) = true then zerC l r else ahdC l frm
theorem cz_zero : cz 0 = 0 := by decide
theorem fo_cz0 (a : Nat) : fo (cz a) 0 = fo a 0 := by
  have := fo_cz a 0
  rw [cz_zero] at this
  exact this
theorem upB_cz (l : List SmpT) (r : Nat) : upB l (cz r) = upB l r := by unfold upB; rw [fo_cz0]
set_option maxRecDepth 8000 in
set_option maxHeartbeats 12800000 in
theorem sinceZero_any (w : World) (a : Option Addr) (c : Nat) (l : List SmpT) (frm upt : Int) (r : Nat) (hv : RdP w (.slice a l.length c) l) (hl : 1 ≤ l.length) :
    Calls Try.prog 80 #[.agg #[.slice a l.length c, .int .i64 frm, .int .i64 upt], .float .f64 r] w fun e w' => ∃ v, e = .returned (.float .f64 v) ∧ cz v = szrC l frm (cz r) ∧ w.grownBy w' none := by
  obtain ⟨b, o, rfl, hc1, hc2, hbl, -⟩ := hv.at hl
  obtain ⟨C, hC⟩ : ∃ C : Obj, C = .cells #[.slice (some ⟨b, o, none⟩) l.length c, .int .i64 frm, .int .i64 upt] 54 := ⟨_, rfl⟩
  have hg := alloc_gb w C
  have hb := Go.heap_alloc_new w C
  have HEnd := hidJ ((ends_any (w.alloc C) (some ⟨b, o, none⟩) c l frm upt (hv.keep hg) hl).mono (fun e w' h => (show e = .returned (.tuple #[.agg #[.int .i64 (l.getD 0 smZ).1, .float .f64 (l.getD 0 smZ).2], .agg #[.int .i64 (l.getD (l.length - 1) smZ).1, .float .f64 (l.getD (l.length - 1) smZ).2]]) ∧ Hid (w.grownBy w' none ∧ w'.heap[w.heap.size]? = some C) from ⟨h.1, gb_none hg h.2, (h.2.block _ (some_lt hb) (by simp)).trans hb⟩)))
  have HAh : Hid (∀ W, w.grownBy W none → Calls Try.prog 78 #[.agg #[.slice (some ⟨b, o, none⟩) l.length c, .int .i64 frm, .int .i64 upt]] W fun e w' => ∃ v, e = .returned (.float .f64 v) ∧ Hid (cz v = ahdC l frm ∧ W.grownBy w' none)) := fun W hW => ahead_any W _ c l frm upt (hv.keep hW) hl
  have HWid : Hid (widC l = secC (wrap64 ((l.getD (l.length - 1) smZ).1 - (l.getD 0 smZ).1))) := rfl
  have HZr : Hid (zerC l (cz r) = fopC .mul (widC l) (fopC .quo (cz (l.getD 0 smZ).2) (cz r))) := rfl
  have HUp : Hid (upB l (cz r) = ((fo r 0 == some .gt) && (fo (l.getD 0 smZ).2 0 == some .gt || fo (l.getD 0 smZ).2 0 == some .eq))) := by rw [upB_cz]; exact rfl
  have HSz : Hid (szrC l frm (cz r) = if (upB l (cz r) && (fo (zerC l (cz r)) (ahdC l frm) == some .lt)) = true then zerC l (cz r) else ahdC l frm) := rfl
  generalize (l.getD 0 smZ).1 = ta at *
  generalize (l.getD 0 smZ).2 = fa at *
  generalize (l.getD (l.length - 1) smZ).1 = tb at *
  generalize (l.getD (l.length - 1) smZ).2 = fb at *
  generalize szrC l frm (cz r) = SR at *
  generalize zerC l (cz r) = ZR at *
  generalize upB l (cz r) = UB at *
  generalize widC l = WD at *
  generalize ahdC l frm = AD at *
  clear hb hv
  generalize l.length = N at *
  clear hg
  have hsf := store_float
  subst hC
  go_enter Try.func80, Try.ntmps80
  go_wp2_with fail
  refine HEnd.out.mono ?_
  rintro e w1 ⟨rfl, q1⟩
  clear HEnd
  obtain ⟨C2, hC2⟩ : ∃ C2 : Obj, C2 = .cells #[.int .i64 ta, .float .f64 fa] 33 := ⟨_, rfl⟩
  obtain ⟨C3, hC3⟩ : ∃ C3 : Obj, C3 = .cells #[.int .i64 tb, .float .f64 fb] 33 := ⟨_, rfl⟩
  obtain ⟨W2, hW2⟩ : ∃ W2, (w1.alloc C2).alloc C3 = W2 := ⟨_, rfl⟩
  have g2 : w1.grownBy W2 none := by rw [← hW2]; exact gb_none (alloc_gb w1 C2) (alloc_gb (w1.alloc C2) C3)
  have hx0 := (g2.block _ (some_lt q1.out.2) (by simp)).trans q1.out.2
  have hx1 : W2.heap[w1.heap.size]? = some C2 := by
    rw [← hW2]
    exact ((alloc_gb (w1.alloc C2) C3).block _ (by simp) (by simp)).trans (Go.heap_alloc_new w1 C2)
  have hx2 : W2.heap[w1.heap.size + 1]? = some C3 := by
    rw [← hW2]
    have := Go.heap_alloc_new (w1.alloc C2) C3
    rw [World.size_alloc] at this
    exact this
  have HX : Hid (∀ W, W2.grownBy W none → w.grownBy W none ∧ W.cell? ⟨w.heap.size, 0, none⟩ = some (.slice (some ⟨b, o, none⟩) N c) ∧ W.cell? ⟨w.heap.size, 1, none⟩ = some (.int .i64 frm) ∧ W.cell? ⟨w.heap.size, 2, none⟩ = some (.int .i64 upt) ∧ W.cell? ⟨w1.heap.size, 0, none⟩ = some (.int .i64 ta) ∧ W.cell? ⟨w1.heap.size, 1, none⟩ = some (.float .f64 fa) ∧ W.cell? ⟨w1.heap.size + 1, 0, none⟩ = some (.int .i64 tb)) := fun W hW => by
    have k0 := (hW.block _ (some_lt hx0) (by simp)).trans hx0
    have k1 := (hW.block _ (some_lt hx1) (by simp)).trans hx1
    have k2 := (hW.block _ (some_lt hx2) (by simp)).trans hx2
    rw [hC2] at k1
    rw [hC3] at k2
    refine ⟨gb_none q1.out.1 (gb_none g2 hW), ?_, ?_, ?_, ?_, ?_, ?_⟩
    · rw [World.cell?, k0]; rfl
    · rw [World.cell?, k0]; rfl
    · rw [World.cell?, k0]; rfl
    · rw [World.cell?, k1]; rfl
    · rw [World.cell?, k1]; rfl
    · rw [World.cell?, k2]; rfl
  have hne : ¬ w1.heap.size = w1.heap.size + 1 := by omega
  have hne2 : ¬ w1.heap.size + 1 = w1.heap.size := by omega
  obtain ⟨hg2, p0, p1, p2, p3, p4, p5⟩ := HX.out W2 (gb_refl _ _)
  have HA2 := hidJ (HAh.out W2 hg2)
  subst hC2 hC3
  clear q1 hx0 hx1 hx2 g2 HAh hg2
  go_wp2_with fail
  refine HA2.out.mono ?_
  rintro e w4 ⟨s, rfl, h4⟩
  clear p0 p1 p2 p3 p4 p5 HA2
  obtain ⟨hg4, p0, p1, p2, p3, p4, p5⟩ := HX.out w4 h4.out.2
  have HG4 := hidJ hg4
  clear hg4 hW2
  have hf1 : (FloatKind.f64.format.order r 0 == some .gt) = (fo r 0 == some .gt) := rfl
  have hf2 : (FloatKind.f64.format.order fa 0 == some .gt || FloatKind.f64.format.order fa 0 == some .eq) = (fo fa 0 == some .gt || fo fa 0 == some .eq) := rfl
  obtain ⟨u1, hu1⟩ : ∃ u1, (fo r 0 == some .gt) = u1 := ⟨_, rfl⟩
  obtain ⟨u2, hu2⟩ : ∃ u2, (fo fa 0 == some .gt || fo fa 0 == some .eq) = u2 := ⟨_, rfl⟩
  rw [hu1] at hf1 HUp
  rw [hu2] at hf2 HUp
  clear hu1 hu2
  -- the way on which it is ahead
  have HNo : Hid ((u1 && u2) = false → cz s = SR) := fun h => by
    rw [HSz.out, HUp.out, h, h4.out.1]; rfl
  cases u1 with
  | false =>
    have hr := HNo.out rfl
    have HRr := hidJ hr
    clear hr HNo HSz HUp hf2 HZr HWid HX h4 p0 p1 p2 p3 p4 p5
    go_wp2
    go_ret
    exact ⟨_, rfl, HRr.out, HG4.out⟩
  | true =>
    cases u2 with
    | false =>
      have hr := HNo.out rfl
      have HRr := hidJ hr
      clear hr HNo HSz HUp HZr HWid HX h4 p0 p1 p2 p3 p5
      go_wp2
      go_ret
      exact ⟨_, rfl, HRr.out, HG4.out⟩
    | true =>
      have HSz2 : Hid (SR = if (fo ZR AD == some .lt) = true then ZR else AD) := by rw [HSz.out, HUp.out]; rfl
      have HSe : Hid (∀ W, w4.grownBy W none → Calls Try.prog 81 #[.int .i64 (wrap64 (tb - ta))] W fun e w' => ∃ v, e = .returned (.float .f64 v) ∧ Hid (w4.grownBy w' none ∧ cz v = WD)) := fun W hW => by
        refine (seconds_any W _).mono ?_
        rintro e w' ⟨v, h1, h2, h3⟩
        exact ⟨v, h1, gb_none hW h3, by rw [HWid.out]; exact h2⟩
      have HSw : Hid (∀ W, w4.grownBy W none → W.cell? ⟨w1.heap.size + 1, 0, none⟩ = some (.int .i64 tb) ∧ W.cell? ⟨w1.heap.size, 0, none⟩ = some (.int .i64 ta) ∧ W.cell? ⟨w1.heap.size, 1, none⟩ = some (.float .f64 fa)) := fun W hW => by
        obtain ⟨-, -, -, -, k1, k2, k3⟩ := HX.out W (gb_none h4.out.2 hW)
        exact ⟨k3, k1, k2⟩
      have hw : IntKind.i64.wrap (tb - ta) = wrap64 (tb - ta) := by rw [IntKind.wrap_i64]; unfold wrap64; omega
      obtain ⟨D, hD⟩ : ∃ D, wrap64 (tb - ta) = D := ⟨_, rfl⟩
      rw [hD] at HSe hw
      clear hD HX
      have HS4 := hidJ h4.out.1
      clear h4 HNo HSz HUp
      -- the end: the answer is z, or s
      have HFin : Hid (∀ v z, cz v = WD → cz z = fopC .mul (cz v) (fopC .quo (cz fa) (cz r)) → cz z = ZR ∧ ((fo z s == some .lt) = true → cz z = SR) ∧ ((fo z s == some .lt) = false → cz s = SR)) := fun v z h1 h2 => by
        have e : cz z = ZR := by rw [h2, h1, HZr.out]
        have e2 : fo z s = fo ZR AD := by rw [← fo_cz, e, HS4.out]
        refine ⟨e, fun h => ?_, fun h => ?_⟩
        · rw [HSz2.out, ← e2, if_pos h, e]
        · rw [HSz2.out, ← e2, h, HS4.out]; rfl
      clear HSz2 HZr HWid
      have hquo : ∀ W, (binOp .quo 22 (.float .f64 fa) (.float .f64 r)).run Try.prog W = .ok (.float .f64 (fres W .quo fa r)) (fwor W .quo fa r) := fun W => run_fop W (.inr (.inr (.inr rfl))) _ _ _
      have hmul : ∀ W v u, (binOp .mul 22 (.float .f64 v) (.float .f64 u)).run Try.prog W = .ok (.float .f64 (fres W .mul v u)) (fwor W .mul v u) := fun W v u => run_fop W (.inr (.inr (.inl rfl))) _ _ _
      generalize w1.heap.size + 1 = B2 at *
      generalize w1.heap.size = B1 at *
      go_wp2
      refine wp_region_held_drew (S := (fun w' => w'.cell? ⟨B2, 0, none⟩ = some (.int .i64 tb) ∧ w'.cell? ⟨B1, 0, none⟩ = some (.int .i64 ta) ∧ w'.cell? ⟨B1, 1, none⟩ = some (.float .f64 fa))) (by kernel_rfl) (HSw.out _ (gb_drew _ _)) (fun _ => ?_)
      refine wpAnyH_take (i := 0) (oi := { dst := some 23, op := Go.Op.fieldAddr 33 (Go.Operand.tmp 6) 0, type := 0, pos := "slope.go:54", after := #[], guard := none }) (v := ?v1k) rfl (by kernel_rfl) (by kernel_rfl) (by kernel_rfl) (fun _ _ _ h => h) (Or.inl ⟨by rfl, ?y1k⟩) (HSw.out _ (gb_drew _ _)) ?r1k
      case y1k => intro wq hSw; obtain ⟨s1, s2, s3⟩ := hSw; go_simp; try with_reducible rfl
      case' r1k => skip
      try simp only [Act.put, List.setIfInBounds_toArray, List.set_cons_zero, List.set_cons_succ]
      refine wpAnyH_take (i := 1) (oi := { dst := some 24, op := Go.Op.load 2 (Go.Operand.tmp 23), type := 2, pos := "slope.go:54", after := #[{ on := 0, ground := Go.Ground.data }], guard := none }) (v := ?v2k) rfl (by kernel_rfl) (by kernel_rfl) (by kernel_rfl) (fun _ _ _ h => h) (Or.inl ⟨by rfl, ?y2k⟩) (HSw.out _ (gb_drew _ _)) ?r2k
      case y2k => intro wq hSw; obtain ⟨s1, s2, s3⟩ := hSw; go_simp; try with_reducible rfl
      case' r2k => skip
      try simp only [Act.put, List.setIfInBounds_toArray, List.set_cons_zero, List.set_cons_succ]
      refine wpAnyH_take (i := 2) (oi := { dst := some 25, op := Go.Op.fieldAddr 33 (Go.Operand.tmp 5) 0, type := 0, pos := "slope.go:54", after := #[], guard := none }) (v := ?v3k) rfl (by kernel_rfl) (by kernel_rfl) (by kernel_rfl) (fun _ _ _ h => h) (Or.inl ⟨by rfl, ?y3k⟩) (HSw.out _ (gb_drew _ _)) ?r3k
      case y3k => intro wq hSw; obtain ⟨s1, s2, s3⟩ := hSw; go_simp; try with_reducible rfl
      case' r3k => skip
      try simp only [Act.put, List.setIfInBounds_toArray, List.set_cons_zero, List.set_cons_succ]
      refine wpAnyH_take (i := 3) (oi := { dst := some 26, op := Go.Op.load 2 (Go.Operand.tmp 25), type := 2, pos := "slope.go:54", after := #[{ on := 2, ground := Go.Ground.data }], guard := none }) (v := ?v4k) rfl (by kernel_rfl) (by kernel_rfl) (by kernel_rfl) (fun _ _ _ h => h) (Or.inl ⟨by rfl, ?y4k⟩) (HSw.out _ (gb_drew _ _)) ?r4k
      case y4k => intro wq hSw; obtain ⟨s1, s2, s3⟩ := hSw; go_simp; try with_reducible rfl
      case' r4k => skip
      try simp only [Act.put, List.setIfInBounds_toArray, List.set_cons_zero, List.set_cons_succ]
      refine wpAnyH_take (i := 4) (oi := { dst := some 27, op := Go.Op.binOp Go.BinOp.sub 2 (Go.Operand.tmp 24) (Go.Operand.tmp 26) 2, type := 2, pos := "slope.go:54", after := #[{ on := 1, ground := Go.Ground.data }, { on := 3, ground := Go.Ground.data }], guard := none }) (v := ?v5k) rfl (by kernel_rfl) (by kernel_rfl) (by kernel_rfl) (fun _ _ _ h => h) (Or.inl ⟨by rfl, ?y5k⟩) (HSw.out _ (gb_drew _ _)) ?r5k
      case y5k => intro wq hSw; obtain ⟨s1, s2, s3⟩ := hSw; go_simp; try with_reducible rfl
      case' r5k => skip
      try simp only [Act.put, List.setIfInBounds_toArray, List.set_cons_zero, List.set_cons_succ]
      refine wpAnyH_take (i := 6) (oi := { dst := some 29, op := Go.Op.fieldAddr 33 (Go.Operand.tmp 5) 1, type := 0, pos := "slope.go:54", after := #[], guard := none }) (v := ?v6k) rfl (by kernel_rfl) (by kernel_rfl) (by kernel_rfl) (fun _ _ _ h => h) (Or.inl ⟨by rfl, ?y6k⟩) (HSw.out _ (gb_drew _ _)) ?r6k
      case y6k => intro wq hSw; obtain ⟨s1, s2, s3⟩ := hSw; go_simp; try with_reducible rfl
      case' r6k => skip
      try simp only [Act.put, List.setIfInBounds_toArray, List.set_cons_zero, List.set_cons_succ]
      refine wpAnyH_take (i := 7) (oi := { dst := some 30, op := Go.Op.load 22 (Go.Operand.tmp 29), type := 22, pos := "slope.go:54", after := #[{ on := 6, ground := Go.Ground.data }], guard := none }) (v := ?v7k) rfl (by kernel_rfl) (by kernel_rfl) (by kernel_rfl) (fun _ _ _ h => h) (Or.inl ⟨by rfl, ?y7k⟩) (HSw.out _ (gb_drew _ _)) ?r7k
      case y7k => intro wq hSw; obtain ⟨s1, s2, s3⟩ := hSw; go_simp; try with_reducible rfl
      case' r7k => skip
      try simp only [Act.put, List.setIfInBounds_toArray, List.set_cons_zero, List.set_cons_succ]
      refine wpAnyH_take (i := 8) (oi := { dst := some 31, op := Go.Op.move (Go.Operand.tmp 1), type := 22, pos := "slope.go:54", after := #[], guard := none }) (v := ?v8k) rfl (by kernel_rfl) (by kernel_rfl) (by kernel_rfl) (fun _ _ _ h => h) (Or.inl ⟨by rfl, ?y8k⟩) (HSw.out _ (gb_drew _ _)) ?r8k
      case y8k => intro wq hSw; obtain ⟨s1, s2, s3⟩ := hSw; go_simp; try with_reducible rfl
      case' r8k => skip
      try simp only [Act.put, List.setIfInBounds_toArray, List.set_cons_zero, List.set_cons_succ]
      refine wpAnyH_ready (rs := [5, 9]) (by kernel_rfl) (by simp) ?_
      refine AllReadyH.cons (o := { dst := some 28, op := Go.Op.call { callee := Go.Callee.value (Go.Operand.func 81), args := #[Go.Operand.tmp 27], argTypes := #[2] }, type := 22, pos := "slope.go:54", after := #[{ on := 4, ground := Go.Ground.data }], guard := none }) rfl (fun K hK => ?_) ?_
      · go_simp
        refine (HSe.out _ (gb_drew _ _)).mono ?_; rintro e wv1 ⟨v1, rfl, hv1⟩
        refine hK.out _ _ (HSw.out _ hv1.out.1) (fun _ => ?_)
        clear hK
        try simp only [Act.put, List.setIfInBounds_toArray, List.set_cons_zero, List.set_cons_succ]
        refine wpAnyH_ready (rs := [9]) (by kernel_rfl) (by simp) ?_
        refine AllReadyH.cons (o := { dst := some 32, op := Go.Op.binOp Go.BinOp.quo 22 (Go.Operand.tmp 30) (Go.Operand.tmp 31) 22, type := 22, pos := "slope.go:54", after := #[{ on := 7, ground := Go.Ground.data }, { on := 8, ground := Go.Ground.data }], guard := none }) rfl (fun K hK => ?_) AllReadyH.nil
        go_simp
        refine hK.out _ _ (HSw.out _ (gb_none hv1.out.1 (fwor_gb _ _ _ _))) (fun _ => ?_)
        clear hK
        try simp only [Act.put, List.setIfInBounds_toArray, List.set_cons_zero, List.set_cons_succ]
        refine wpAnyH_ready (rs := [10]) (by kernel_rfl) (by simp) ?_
        refine AllReadyH.cons (o := { dst := some 33, op := Go.Op.binOp Go.BinOp.mul 22 (Go.Operand.tmp 28) (Go.Operand.tmp 32) 22, type := 22, pos := "slope.go:54", after := #[{ on := 5, ground := Go.Ground.data }, { on := 9, ground := Go.Ground.data }], guard := none }) rfl (fun K hK => ?_) AllReadyH.nil
        go_simp
        refine hK.out _ _ (HSw.out _ (gb_none (gb_none hv1.out.1 (fwor_gb _ _ _ _)) (fwor_gb _ _ _ _))) (fun _ => ?_)
        clear hK
        try simp only [Act.put, List.setIfInBounds_toArray, List.set_cons_zero, List.set_cons_succ]
        refine wpAnyH_ready (rs := [11]) (by kernel_rfl) (by simp) ?_
        refine AllReadyH.cons (o := { dst := some 8, op := Go.Op.assign (Go.Operand.tmp 33), type := 22, pos := "slope.go:54", after := #[{ on := 10, ground := Go.Ground.data }, { on := 5, ground := Go.Ground.chain }, { on := 0, ground := Go.Ground.phase }, { on := 1, ground := Go.Ground.phase }, { on := 2, ground := Go.Ground.phase }, { on := 3, ground := Go.Ground.phase }, { on := 4, ground := Go.Ground.phase }, { on := 5, ground := Go.Ground.phase }, { on := 6, ground := Go.Ground.phase }, { on := 7, ground := Go.Ground.phase }, { on := 8, ground := Go.Ground.phase }, { on := 9, ground := Go.Ground.phase }, { on := 10, ground := Go.Ground.phase }], guard := none }) rfl (fun K hK => ?_) AllReadyH.nil
        go_simp
        refine hK.out _ _ (HSw.out _ (gb_none (gb_none hv1.out.1 (fwor_gb _ _ _ _)) (fwor_gb _ _ _ _))) (fun _ => ?_)
        clear hK
        try simp only [Act.put, List.setIfInBounds_toArray, List.set_cons_zero, List.set_cons_succ]
        refine wpAnyH_done (by kernel_rfl) ?_ _
        obtain ⟨z, hz⟩ : ∃ z, (fres (fwor wv1 .quo fa r) .mul v1 (fres wv1 .quo fa r)) = z := ⟨_, rfl⟩
        obtain ⟨W9, hW9⟩ : ∃ W9, (fwor (fwor wv1 .quo fa r) .mul v1 (fres wv1 .quo fa r)) = W9 := ⟨_, rfl⟩
        rw [hz, hW9]
        have hcz : ∃ v, (w4.grownBy w4 none ∧ cz v = WD) ∧ cz z = fopC .mul (cz v) (fopC .quo (cz fa) (cz r)) := ⟨v1, ⟨gb_refl _ _, hv1.out.2⟩, by rw [← hz, cz_fres _ (.inr (.inr (.inl rfl))), cz_fres _ (.inr (.inr (.inr rfl)))]⟩
        have hg9 : w4.grownBy W9 none := by rw [← hW9]; exact (gb_none (gb_none hv1.out.1 (fwor_gb _ _ _ _)) (fwor_gb _ _ _ _))
        obtain ⟨vz, hvz, hcz2⟩ := hcz
        have HEx1 := hidJ (HFin.out vz z hvz.2 hcz2)
        have HGx1 := hidJ (gb_none HG4.out hg9)
        have hfx1 : (FloatKind.f64.format.order z s == some .lt) = (fo z s == some .lt) := rfl
        obtain ⟨q, hq⟩ : ∃ q, (fo z s == some .lt) = q := ⟨_, rfl⟩
        rw [hq] at hfx1 HEx1
        clear hz hW9 hvz hcz2 hg9 hq hquo hmul HFin HSw HSe HG4
        cases q with
        | true =>
          have HR := hidJ (HEx1.out.2.1 rfl)
          clear HEx1
          go_wp2
          go_ret
          exact ⟨_, rfl, HR.out, HGx1.out⟩
        | false =>
          have HR := hidJ (HEx1.out.2.2 rfl)
          clear HEx1
          go_wp2
          go_ret
          exact ⟨_, rfl, HR.out, HGx1.out⟩
      refine AllReadyH.cons (o := { dst := some 32, op := Go.Op.binOp Go.BinOp.quo 22 (Go.Operand.tmp 30) (Go.Operand.tmp 31) 22, type := 22, pos := "slope.go:54", after := #[{ on := 7, ground := Go.Ground.data }, { on := 8, ground := Go.Ground.data }], guard := none }) rfl (fun K hK => ?_) AllReadyH.nil
      go_simp
      refine hK.out _ _ (HSw.out _ (gb_none (gb_drew _ _) (fwor_gb _ _ _ _))) (fun _ => ?_)
      clear hK
      try simp only [Act.put, List.setIfInBounds_toArray, List.set_cons_zero, List.set_cons_succ]
      refine wpAnyH_ready (rs := [5]) (by kernel_rfl) (by simp) ?_
      refine AllReadyH.cons (o := { dst := some 28, op := Go.Op.call { callee := Go.Callee.value (Go.Operand.func 81), args := #[Go.Operand.tmp 27], argTypes := #[2] }, type := 22, pos := "slope.go:54", after := #[{ on := 4, ground := Go.Ground.data }], guard := none }) rfl (fun K hK => ?_) AllReadyH.nil
      go_simp
      refine (HSe.out _ (gb_none (gb_drew _ _) (fwor_gb _ _ _ _))).mono ?_; rintro e wv2 ⟨v2, rfl, hv2⟩
      refine hK.out _ _ (HSw.out _ hv2.out.1) (fun _ => ?_)
      clear hK
      try simp only [Act.put, List.setIfInBounds_toArray, List.set_cons_zero, List.set_cons_succ]
      refine wpAnyH_ready (rs := [10]) (by kernel_rfl) (by simp) ?_
      refine AllReadyH.cons (o := { dst := some 33, op := Go.Op.binOp Go.BinOp.mul 22 (Go.Operand.tmp 28) (Go.Operand.tmp 32) 22, type := 22, pos := "slope.go:54", after := #[{ on := 5, ground := Go.Ground.data }, { on := 9, ground := Go.Ground.data }], guard := none }) rfl (fun K hK => ?_) AllReadyH.nil
      go_simp
      refine hK.out _ _ (HSw.out _ (gb_none hv2.out.1 (fwor_gb _ _ _ _))) (fun _ => ?_)
      clear hK
      try simp only [Act.put, List.setIfInBounds_toArray, List.set_cons_zero, List.set_cons_succ]
      refine wpAnyH_ready (rs := [11]) (by kernel_rfl) (by simp) ?_
      refine AllReadyH.cons (o := { dst := some 8, op := Go.Op.assign (Go.Operand.tmp 33), type := 22, pos := "slope.go:54", after := #[{ on := 10, ground := Go.Ground.data }, { on := 5, ground := Go.Ground.chain }, { on := 0, ground := Go.Ground.phase }, { on := 1, ground := Go.Ground.phase }, { on := 2, ground := Go.Ground.phase }, { on := 3, ground := Go.Ground.phase }, { on := 4, ground := Go.Ground.phase }, { on := 5, ground := Go.Ground.phase }, { on := 6, ground := Go.Ground.phase }, { on := 7, ground := Go.Ground.phase }, { on := 8, ground := Go.Ground.phase }, { on := 9, ground := Go.Ground.phase }, { on := 10, ground := Go.Ground.phase }], guard := none }) rfl (fun K hK => ?_) AllReadyH.nil
      go_simp
      refine hK.out _ _ (HSw.out _ (gb_none hv2.out.1 (fwor_gb _ _ _ _))) (fun _ => ?_)
      clear hK
      try simp only [Act.put, List.setIfInBounds_toArray, List.set_cons_zero, List.set_cons_succ]
      refine wpAnyH_done (by kernel_rfl) ?_ _
      obtain ⟨z, hz⟩ : ∃ z, (fres wv2 .mul v2 (fres w4.drew .quo fa r)) = z := ⟨_, rfl⟩
      obtain ⟨W9, hW9⟩ : ∃ W9, (fwor wv2 .mul v2 (fres w4.drew .quo fa r)) = W9 := ⟨_, rfl⟩
      rw [hz, hW9]
      have hcz : ∃ v, (w4.grownBy w4 none ∧ cz v = WD) ∧ cz z = fopC .mul (cz v) (fopC .quo (cz fa) (cz r)) := ⟨v2, ⟨gb_refl _ _, hv2.out.2⟩, by rw [← hz, cz_fres _ (.inr (.inr (.inl rfl))), cz_fres _ (.inr (.inr (.inr rfl)))]⟩
      have hg9 : w4.grownBy W9 none := by rw [← hW9]; exact (gb_none hv2.out.1 (fwor_gb _ _ _ _))
      obtain ⟨vz, hvz, hcz2⟩ := hcz
      have HEx2 := hidJ (HFin.out vz z hvz.2 hcz2)
      have HGx2 := hidJ (gb_none HG4.out hg9)
      have hfx2 : (FloatKind.f64.format.order z s == some .lt) = (fo z s == some .lt) := rfl
      obtain ⟨q, hq⟩ : ∃ q, (fo z s == some .lt) = q := ⟨_, rfl⟩
      rw [hq] at hfx2 HEx2
      clear hz hW9 hvz hcz2 hg9 hq hquo hmul HFin HSw HSe HG4
      cases q with
      | true =>
        have HR := hidJ (HEx2.out.2.1 rfl)
        clear HEx2
        go_wp2
        go_ret
        exact ⟨_, rfl, HR.out, HGx2.out⟩
      | false =>
        have HR := hidJ (HEx2.out.2.2 rfl)
        clear HEx2
        go_wp2
        go_ret
        exact ⟨_, rfl, HR.out, HGx2.out⟩
end Go.Proofs.Ytgpednikianneaa
