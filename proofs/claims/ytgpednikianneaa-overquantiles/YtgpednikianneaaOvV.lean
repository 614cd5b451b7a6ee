/-
  delta, increase, rate of a window: the walks.
-/
import Derived.Test.YtgpednikianneaaOvU
namespace Go.Proofs.Ytgpednikianneaa
open Go.RowKit
attribute [local go_sem] fwor_cell fwor_frozen fwor_size

def delC (l : List SmpT) (frm upt : Int) : Nat := fopC .mul (fopC .sub (cz (l.getD (l.length - 1) smZ).2) (cz (l.getD 0 smZ).2)) (strC l upt (ahdC l frm))
def facC (l : List SmpT) (frm upt : Int) : Nat := strC l upt (szrC l frm (gainC l))
def incC (l : List SmpT) (frm upt : Int) : Nat := fopC .mul (gainC l) (facC l frm upt)
def ratC (l : List SmpT) (frm upt : Int) : Nat := fopC .mul (gainC l) (fopC .quo (facC l frm upt) (secC (wrap64 (upt - frm))))
set_option maxRecDepth 8000 in
set_option maxHeartbeats 12800000 in
theorem delta_any (w : World) (a : Option Addr) (c : Nat) (l : List SmpT) (frm upt : Int) (hv : RdP w (.slice a l.length c) l) (hl : 1 ≤ l.length) :
    Calls Try.prog 58 #[.agg #[.slice a l.length c, .int .i64 frm, .int .i64 upt]] w fun e w' => ∃ v, e = .returned (.float .f64 v) ∧ cz v = delC l frm upt ∧ w.grownBy w' none := by
  obtain ⟨b, o, rfl, hc1, hc2, hbl, -⟩ := hv.at hl
  obtain ⟨C, hC⟩ : ∃ C : Obj, C = .cells #[.slice (some ⟨b, o, none⟩) l.length c, .int .i64 frm, .int .i64 upt] 54 := ⟨_, rfl⟩
  have hg := alloc_gb w C
  have hb := Go.heap_alloc_new w C
  have HEnd := hidJ ((ends_any (w.alloc C) (some ⟨b, o, none⟩) c l frm upt (hv.keep hg) hl).mono (fun e w' h => (show e = .returned (.tuple #[.agg #[.int .i64 (l.getD 0 smZ).1, .float .f64 (l.getD 0 smZ).2], .agg #[.int .i64 (l.getD (l.length - 1) smZ).1, .float .f64 (l.getD (l.length - 1) smZ).2]]) ∧ Hid (w.grownBy w' none ∧ w'.heap[w.heap.size]? = some C) from ⟨h.1, gb_none hg h.2, (h.2.block _ (some_lt hb) (by simp)).trans hb⟩)))
  have HDe : Hid (fopC .mul (fopC .sub (cz (l.getD (l.length - 1) smZ).2) (cz (l.getD 0 smZ).2)) (strC l upt (ahdC l frm)) = delC l frm upt) := rfl
  have HA0 : Hid (∀ W, w.grownBy W none → Calls Try.prog 78 #[.agg #[.slice (some ⟨b, o, none⟩) l.length c, .int .i64 frm, .int .i64 upt]] W fun e w' => ∃ v, e = .returned (.float .f64 v) ∧ cz v = ahdC l frm ∧ W.grownBy w' none) := fun W hW => ahead_any W _ c l frm upt (hv.keep hW) hl
  have HS0 : Hid (∀ s W, w.grownBy W none → Calls Try.prog 77 #[.agg #[.slice (some ⟨b, o, none⟩) l.length c, .int .i64 frm, .int .i64 upt], .float .f64 s] W fun e w' => ∃ v, e = .returned (.float .f64 v) ∧ cz v = strC l upt (cz s) ∧ W.grownBy w' none) := fun s W hW => stretch_any W _ c l frm upt s (hv.keep hW) hl
  generalize (l.getD 0 smZ).1 = ta at *
  generalize (l.getD 0 smZ).2 = fa at *
  generalize (l.getD (l.length - 1) smZ).1 = tb at *
  generalize (l.getD (l.length - 1) smZ).2 = fb at *
  generalize delC l frm upt = DR at *
  clear hb hv hl hg
  generalize l.length = N at *
  subst hC
  have hsf := store_float
  go_enter Try.func58, Try.ntmps58
  go_wp2_with fail
  refine HEnd.out.mono ?_
  rintro e w1 ⟨rfl, q1⟩
  clear HEnd
  obtain ⟨C2, hC2⟩ : ∃ C2 : Obj, C2 = .cells #[.int .i64 ta, .float .f64 fa] 33 := ⟨_, rfl⟩
  obtain ⟨C3, hC3⟩ : ∃ C3 : Obj, C3 = .cells #[.int .i64 tb, .float .f64 fb] 33 := ⟨_, rfl⟩
  obtain ⟨w4, hw4⟩ : ∃ w4, (w1.alloc C2).alloc C3 = w4 := ⟨_, rfl⟩
  have g2 : w1.grownBy w4 none := by rw [← hw4]; exact gb_none (alloc_gb w1 C2) (alloc_gb (w1.alloc C2) C3)
  have hx0 := (g2.block _ (some_lt q1.out.2) (by simp)).trans q1.out.2
  have hx1 : w4.heap[w1.heap.size]? = some C2 := by
    rw [← hw4]
    exact ((alloc_gb (w1.alloc C2) C3).block _ (by simp) (by simp)).trans (Go.heap_alloc_new w1 C2)
  have hx2 : w4.heap[w1.heap.size + 1]? = some C3 := by
    rw [← hw4]
    have := Go.heap_alloc_new (w1.alloc C2) C3
    rw [World.size_alloc] at this
    exact this
  have HSw : Hid (∀ W, w4.grownBy W none → (W.cell? ⟨w.heap.size, 0, none⟩ = some (.slice (some ⟨b, o, none⟩) N c) ∧ W.cell? ⟨w.heap.size, 1, none⟩ = some (.int .i64 frm) ∧ W.cell? ⟨w.heap.size, 2, none⟩ = some (.int .i64 upt)) ∧ W.cell? ⟨w1.heap.size, 1, none⟩ = some (.float .f64 fa) ∧ W.cell? ⟨w1.heap.size + 1, 1, none⟩ = some (.float .f64 fb)) := fun W hW => by
    have k0 := (hW.block _ (some_lt hx0) (by simp)).trans hx0
    have k1 := (hW.block _ (some_lt hx1) (by simp)).trans hx1
    have k2 := (hW.block _ (some_lt hx2) (by simp)).trans hx2
    rw [hC2] at k1
    rw [hC3] at k2
    refine ⟨⟨?_, ?_, ?_⟩, ?_, ?_⟩
    · rw [World.cell?, k0]; rfl
    · rw [World.cell?, k0]; rfl
    · rw [World.cell?, k0]; rfl
    · rw [World.cell?, k1]; rfl
    · rw [World.cell?, k2]; rfl
  have HG4 := hidJ (gb_none q1.out.1 g2)
  have HAh : Hid (∀ W, w4.grownBy W none → Calls Try.prog 78 #[.agg #[.slice (some ⟨b, o, none⟩) N c, .int .i64 frm, .int .i64 upt]] W fun e w' => ∃ v, e = .returned (.float .f64 v) ∧ Hid (w4.grownBy w' none ∧ cz v = ahdC l frm)) := fun W hW => (HA0.out W (gb_none HG4.out hW)).mono (by
    rintro e w' ⟨v, h1, h2, h3⟩
    exact ⟨v, h1, gb_none hW h3, h2⟩)
  have HSt : Hid (∀ s W, w4.grownBy W none → Calls Try.prog 77 #[.agg #[.slice (some ⟨b, o, none⟩) N c, .int .i64 frm, .int .i64 upt], .float .f64 s] W fun e w' => ∃ v, e = .returned (.float .f64 v) ∧ Hid (w4.grownBy w' none ∧ cz v = strC l upt (cz s))) := fun s W hW => (HS0.out s W (gb_none HG4.out hW)).mono (by
    rintro e w' ⟨v, h1, h2, h3⟩
    exact ⟨v, h1, gb_none hW h3, h2⟩)
  have hne : ¬ w1.heap.size = w1.heap.size + 1 := by omega
  have hne2 : ¬ w1.heap.size + 1 = w1.heap.size := by omega
  clear q1 hx0 hx1 hx2 g2 HA0 HS0
  subst hC2 hC3
  have hsub : ∀ W, (binOp .sub 22 (.float .f64 fb) (.float .f64 fa)).run Try.prog W = .ok (.float .f64 (fres W .sub fb fa)) (fwor W .sub fb fa) := fun W => run_fop W (.inr (.inl rfl)) _ _ _
  have hmul : ∀ W v u, (binOp .mul 22 (.float .f64 v) (.float .f64 u)).run Try.prog W = .ok (.float .f64 (fres W .mul v u)) (fwor W .mul v u) := fun W v u => run_fop W (.inr (.inr (.inl rfl))) _ _ _
  go_wp2
  clear hw4
  generalize w1.heap.size + 1 = B2 at *
  generalize w1.heap.size = B1 at *
  obtain ⟨B0, hB0⟩ : ∃ B0, w.heap.size = B0 := ⟨_, rfl⟩
  rw [hB0] at HSw ⊢
  clear hB0
  refine wp_region_held_drew (S := (fun w' => (w'.cell? ⟨B0, 0, none⟩ = some (.slice (some ⟨b, o, none⟩) N c) ∧ w'.cell? ⟨B0, 1, none⟩ = some (.int .i64 frm) ∧ w'.cell? ⟨B0, 2, none⟩ = some (.int .i64 upt)) ∧ w'.cell? ⟨B1, 1, none⟩ = some (.float .f64 fa) ∧ w'.cell? ⟨B2, 1, none⟩ = some (.float .f64 fb))) (by kernel_rfl) (HSw.out _ (gb_drew _ _)) (fun _ => ?_)
  refine wpAnyH_take (i := 0) (oi := { dst := some 10, op := Go.Op.fieldAddr 33 (Go.Operand.tmp 4) 1, type := 0, pos := "slope.go:22", after := #[], guard := none }) (v := ?v9k) rfl (by kernel_rfl) (by kernel_rfl) (by kernel_rfl) (fun _ _ _ h => h) (Or.inl ⟨by rfl, ?y9k⟩) (HSw.out _ (gb_drew _ _)) ?r9k
  case y9k => intro wq hSw; obtain ⟨⟨s1, s2, s3⟩, s4, s5⟩ := hSw; go_simp; try with_reducible rfl
  case' r9k => skip
  try simp only [Act.put, List.setIfInBounds_toArray, List.set_cons_zero, List.set_cons_succ]
  refine wpAnyH_take (i := 1) (oi := { dst := some 11, op := Go.Op.load 22 (Go.Operand.tmp 10), type := 22, pos := "slope.go:22", after := #[{ on := 0, ground := Go.Ground.data }], guard := none }) (v := ?v10k) rfl (by kernel_rfl) (by kernel_rfl) (by kernel_rfl) (fun _ _ _ h => h) (Or.inl ⟨by rfl, ?y10k⟩) (HSw.out _ (gb_drew _ _)) ?r10k
  case y10k => intro wq hSw; obtain ⟨⟨s1, s2, s3⟩, s4, s5⟩ := hSw; go_simp; try with_reducible rfl
  case' r10k => skip
  try simp only [Act.put, List.setIfInBounds_toArray, List.set_cons_zero, List.set_cons_succ]
  refine wpAnyH_take (i := 2) (oi := { dst := some 12, op := Go.Op.fieldAddr 33 (Go.Operand.tmp 3) 1, type := 0, pos := "slope.go:22", after := #[], guard := none }) (v := ?v11k) rfl (by kernel_rfl) (by kernel_rfl) (by kernel_rfl) (fun _ _ _ h => h) (Or.inl ⟨by rfl, ?y11k⟩) (HSw.out _ (gb_drew _ _)) ?r11k
  case y11k => intro wq hSw; obtain ⟨⟨s1, s2, s3⟩, s4, s5⟩ := hSw; go_simp; try with_reducible rfl
  case' r11k => skip
  try simp only [Act.put, List.setIfInBounds_toArray, List.set_cons_zero, List.set_cons_succ]
  refine wpAnyH_take (i := 3) (oi := { dst := some 13, op := Go.Op.load 22 (Go.Operand.tmp 12), type := 22, pos := "slope.go:22", after := #[{ on := 2, ground := Go.Ground.data }], guard := none }) (v := ?v12k) rfl (by kernel_rfl) (by kernel_rfl) (by kernel_rfl) (fun _ _ _ h => h) (Or.inl ⟨by rfl, ?y12k⟩) (HSw.out _ (gb_drew _ _)) ?r12k
  case y12k => intro wq hSw; obtain ⟨⟨s1, s2, s3⟩, s4, s5⟩ := hSw; go_simp; try with_reducible rfl
  case' r12k => skip
  try simp only [Act.put, List.setIfInBounds_toArray, List.set_cons_zero, List.set_cons_succ]
  refine wpAnyH_take (i := 5) (oi := { dst := some 15, op := Go.Op.load 54 (Go.Operand.tmp 1), type := 54, pos := "slope.go:22", after := #[], guard := none }) (v := ?v13k) rfl (by kernel_rfl) (by kernel_rfl) (by kernel_rfl) (fun _ _ _ h => h) (Or.inl ⟨by rfl, ?y13k⟩) (HSw.out _ (gb_drew _ _)) ?r13k
  case y13k => intro wq hSw; obtain ⟨⟨s1, s2, s3⟩, s4, s5⟩ := hSw; go_simp; try with_reducible rfl
  case' r13k => skip
  try simp only [Act.put, List.setIfInBounds_toArray, List.set_cons_zero, List.set_cons_succ]
  refine wpAnyH_take (i := 6) (oi := { dst := some 16, op := Go.Op.load 54 (Go.Operand.tmp 1), type := 54, pos := "slope.go:22", after := #[], guard := none }) (v := ?v14k) rfl (by kernel_rfl) (by kernel_rfl) (by kernel_rfl) (fun _ _ _ h => h) (Or.inl ⟨by rfl, ?y14k⟩) (HSw.out _ (gb_drew _ _)) ?r14k
  case y14k => intro wq hSw; obtain ⟨⟨s1, s2, s3⟩, s4, s5⟩ := hSw; go_simp; try with_reducible rfl
  case' r14k => skip
  try simp only [Act.put, List.setIfInBounds_toArray, List.set_cons_zero, List.set_cons_succ]
  refine wpAnyH_ready (rs := [4, 7]) (by kernel_rfl) (by simp) ?_
  refine AllReadyH.cons (o := { dst := some 14, op := Go.Op.binOp Go.BinOp.sub 22 (Go.Operand.tmp 11) (Go.Operand.tmp 13) 22, type := 22, pos := "slope.go:22", after := #[{ on := 1, ground := Go.Ground.data }, { on := 3, ground := Go.Ground.data }], guard := none }) rfl (fun K hK => ?_) ?_
  · go_simp
    refine hK.out _ _ (HSw.out _ (gb_none (gb_drew _ _) (fwor_gb _ _ _ _))) (fun _ => ?_)
    clear hK
    try simp only [Act.put, List.setIfInBounds_toArray, List.set_cons_zero, List.set_cons_succ]
    refine wpAnyH_ready (rs := [7]) (by kernel_rfl) (by simp) ?_
    refine AllReadyH.cons (o := { dst := some 17, op := Go.Op.call { callee := Go.Callee.value (Go.Operand.func 78), args := #[Go.Operand.tmp 16], argTypes := #[54] }, type := 22, pos := "slope.go:22", after := #[{ on := 6, ground := Go.Ground.data }], guard := none }) rfl (fun K hK => ?_) AllReadyH.nil
    go_simp
    refine (HAh.out _ (gb_none (gb_drew _ _) (fwor_gb _ _ _ _))).mono ?_; rintro e ws3 ⟨s3, rfl, hs3⟩
    refine hK.out _ _ (HSw.out _ hs3.out.1) (fun _ => ?_)
    clear hK
    try simp only [Act.put, List.setIfInBounds_toArray, List.set_cons_zero, List.set_cons_succ]
    refine wpAnyH_ready (rs := [8]) (by kernel_rfl) (by simp) ?_
    refine AllReadyH.cons (o := { dst := some 18, op := Go.Op.call { callee := Go.Callee.value (Go.Operand.func 77), args := #[Go.Operand.tmp 15, Go.Operand.tmp 17], argTypes := #[54, 22] }, type := 22, pos := "slope.go:22", after := #[{ on := 5, ground := Go.Ground.data }, { on := 7, ground := Go.Ground.data }, { on := 7, ground := Go.Ground.chain }], guard := none }) rfl (fun K hK => ?_) AllReadyH.nil
    go_simp
    refine (HSt.out s3 _ hs3.out.1).mono ?_; rintro e wt4 ⟨t4, rfl, ht4⟩
    refine hK.out _ _ (HSw.out _ ht4.out.1) (fun _ => ?_)
    clear hK
    try simp only [Act.put, List.setIfInBounds_toArray, List.set_cons_zero, List.set_cons_succ]
    refine wpAnyH_ready (rs := [9]) (by kernel_rfl) (by simp) ?_
    refine AllReadyH.cons (o := { dst := some 19, op := Go.Op.binOp Go.BinOp.mul 22 (Go.Operand.tmp 14) (Go.Operand.tmp 18) 22, type := 22, pos := "slope.go:22", after := #[{ on := 4, ground := Go.Ground.data }, { on := 8, ground := Go.Ground.data }], guard := none }) rfl (fun K hK => ?_) AllReadyH.nil
    go_simp
    refine hK.out _ _ (HSw.out _ (gb_none ht4.out.1 (fwor_gb _ _ _ _))) (fun _ => ?_)
    clear hK
    try simp only [Act.put, List.setIfInBounds_toArray, List.set_cons_zero, List.set_cons_succ]
    refine wpAnyH_ready (rs := [10]) (by kernel_rfl) (by simp) ?_
    refine AllReadyH.cons (o := { dst := some 2, op := Go.Op.assign (Go.Operand.tmp 19), type := 22, pos := "slope.go:22", after := #[{ on := 9, ground := Go.Ground.data }, { on := 8, ground := Go.Ground.chain }, { on := 0, ground := Go.Ground.phase }, { on := 1, ground := Go.Ground.phase }, { on := 2, ground := Go.Ground.phase }, { on := 3, ground := Go.Ground.phase }, { on := 4, ground := Go.Ground.phase }, { on := 5, ground := Go.Ground.phase }, { on := 6, ground := Go.Ground.phase }, { on := 7, ground := Go.Ground.phase }, { on := 8, ground := Go.Ground.phase }, { on := 9, ground := Go.Ground.phase }], guard := none }) rfl (fun K hK => ?_) AllReadyH.nil
    go_simp
    refine hK.out _ _ (HSw.out _ (gb_none ht4.out.1 (fwor_gb _ _ _ _))) (fun _ => ?_)
    clear hK
    try simp only [Act.put, List.setIfInBounds_toArray, List.set_cons_zero, List.set_cons_succ]
    refine wpAnyH_done (by kernel_rfl) ?_ _
    obtain ⟨z, hz⟩ : ∃ z, (fres wt4 .mul (fres w4.drew .sub fb fa) t4) = z := ⟨_, rfl⟩
    obtain ⟨W9, hW9⟩ : ∃ W9, (fwor wt4 .mul (fres w4.drew .sub fb fa) t4) = W9 := ⟨_, rfl⟩
    rw [hz, hW9]
    have hcz : cz z = DR := by rw [← hz, cz_fres _ (.inr (.inr (.inl rfl))), cz_fres _ (.inr (.inl rfl)), ht4.out.2, hs3.out.2]; exact HDe.out
    have hg9 : w4.grownBy W9 none := by rw [← hW9]; exact (gb_none ht4.out.1 (fwor_gb _ _ _ _))
    have HZx1 := hidJ hcz
    have HGx1 := hidJ (gb_none HG4.out hg9)
    clear hz hW9 hcz hg9
    go_wp2
    go_ret
    exact ⟨_, rfl, HZx1.out, HGx1.out⟩
  refine AllReadyH.cons (o := { dst := some 17, op := Go.Op.call { callee := Go.Callee.value (Go.Operand.func 78), args := #[Go.Operand.tmp 16], argTypes := #[54] }, type := 22, pos := "slope.go:22", after := #[{ on := 6, ground := Go.Ground.data }], guard := none }) rfl (fun K hK => ?_) AllReadyH.nil
  go_simp
  refine (HAh.out _ (gb_drew _ _)).mono ?_; rintro e ws5 ⟨s5, rfl, hs5⟩
  refine hK.out _ _ (HSw.out _ hs5.out.1) (fun _ => ?_)
  clear hK
  try simp only [Act.put, List.setIfInBounds_toArray, List.set_cons_zero, List.set_cons_succ]
  refine wpAnyH_ready (rs := [4, 8]) (by kernel_rfl) (by simp) ?_
  refine AllReadyH.cons (o := { dst := some 14, op := Go.Op.binOp Go.BinOp.sub 22 (Go.Operand.tmp 11) (Go.Operand.tmp 13) 22, type := 22, pos := "slope.go:22", after := #[{ on := 1, ground := Go.Ground.data }, { on := 3, ground := Go.Ground.data }], guard := none }) rfl (fun K hK => ?_) ?_
  · go_simp
    refine hK.out _ _ (HSw.out _ (gb_none hs5.out.1 (fwor_gb _ _ _ _))) (fun _ => ?_)
    clear hK
    try simp only [Act.put, List.setIfInBounds_toArray, List.set_cons_zero, List.set_cons_succ]
    refine wpAnyH_ready (rs := [8]) (by kernel_rfl) (by simp) ?_
    refine AllReadyH.cons (o := { dst := some 18, op := Go.Op.call { callee := Go.Callee.value (Go.Operand.func 77), args := #[Go.Operand.tmp 15, Go.Operand.tmp 17], argTypes := #[54, 22] }, type := 22, pos := "slope.go:22", after := #[{ on := 5, ground := Go.Ground.data }, { on := 7, ground := Go.Ground.data }, { on := 7, ground := Go.Ground.chain }], guard := none }) rfl (fun K hK => ?_) AllReadyH.nil
    go_simp
    refine (HSt.out s5 _ (gb_none hs5.out.1 (fwor_gb _ _ _ _))).mono ?_; rintro e wt6 ⟨t6, rfl, ht6⟩
    refine hK.out _ _ (HSw.out _ ht6.out.1) (fun _ => ?_)
    clear hK
    try simp only [Act.put, List.setIfInBounds_toArray, List.set_cons_zero, List.set_cons_succ]
    refine wpAnyH_ready (rs := [9]) (by kernel_rfl) (by simp) ?_
    refine AllReadyH.cons (o := { dst := some 19, op := Go.Op.binOp Go.BinOp.mul 22 (Go.Operand.tmp 14) (Go.Operand.tmp 18) 22, type := 22, pos := "slope.go:22", after := #[{ on := 4, ground := Go.Ground.data }, { on := 8, ground := Go.Ground.data }], guard := none }) rfl (fun K hK => ?_) AllReadyH.nil
    go_simp
    refine hK.out _ _ (HSw.out _ (gb_none ht6.out.1 (fwor_gb _ _ _ _))) (fun _ => ?_)
    clear hK
    try simp only [Act.put, List.setIfInBounds_toArray, List.set_cons_zero, List.set_cons_succ]
    refine wpAnyH_ready (rs := [10]) (by kernel_rfl) (by simp) ?_
    refine AllReadyH.cons (o := { dst := some 2, op := Go.Op.assign (Go.Operand.tmp 19), type := 22, pos := "slope.go:22", after := #[{ on := 9, ground := Go.Ground.data }, { on := 8, ground := Go.Ground.chain }, { on := 0, ground := Go.Ground.phase }, { on := 1, ground := Go.Ground.phase }, { on := 2, ground := Go.Ground.phase }, { on := 3, ground := Go.Ground.phase }, { on := 4, ground := Go.Ground.phase }, { on := 5, ground := Go.Ground.phase }, { on := 6, ground := Go.Ground.phase }, { on := 7, ground := Go.Ground.phase }, { on := 8, ground := Go.Ground.phase }, { on := 9, ground := Go.Ground.phase }], guard := none }) rfl (fun K hK => ?_) AllReadyH.nil
    go_simp
    refine hK.out _ _ (HSw.out _ (gb_none ht6.out.1 (fwor_gb _ _ _ _))) (fun _ => ?_)
    clear hK
    try simp only [Act.put, List.setIfInBounds_toArray, List.set_cons_zero, List.set_cons_succ]
    refine wpAnyH_done (by kernel_rfl) ?_ _
    obtain ⟨z, hz⟩ : ∃ z, (fres wt6 .mul (fres ws5 .sub fb fa) t6) = z := ⟨_, rfl⟩
    obtain ⟨W9, hW9⟩ : ∃ W9, (fwor wt6 .mul (fres ws5 .sub fb fa) t6) = W9 := ⟨_, rfl⟩
    rw [hz, hW9]
    have hcz : cz z = DR := by rw [← hz, cz_fres _ (.inr (.inr (.inl rfl))), cz_fres _ (.inr (.inl rfl)), ht6.out.2, hs5.out.2]; exact HDe.out
    have hg9 : w4.grownBy W9 none := by rw [← hW9]; exact (gb_none ht6.out.1 (fwor_gb _ _ _ _))
    have HZx2 := hidJ hcz
    have HGx2 := hidJ (gb_none HG4.out hg9)
    clear hz hW9 hcz hg9
    go_wp2
    go_ret
    exact ⟨_, rfl, HZx2.out, HGx2.out⟩
  refine AllReadyH.cons (o := { dst := some 18, op := Go.Op.call { callee := Go.Callee.value (Go.Operand.func 77), args := #[Go.Operand.tmp 15, Go.Operand.tmp 17], argTypes := #[54, 22] }, type := 22, pos := "slope.go:22", after := #[{ on := 5, ground := Go.Ground.data }, { on := 7, ground := Go.Ground.data }, { on := 7, ground := Go.Ground.chain }], guard := none }) rfl (fun K hK => ?_) AllReadyH.nil
  go_simp
  refine (HSt.out s5 _ hs5.out.1).mono ?_; rintro e wt7 ⟨t7, rfl, ht7⟩
  refine hK.out _ _ (HSw.out _ ht7.out.1) (fun _ => ?_)
  clear hK
  try simp only [Act.put, List.setIfInBounds_toArray, List.set_cons_zero, List.set_cons_succ]
  refine wpAnyH_ready (rs := [4]) (by kernel_rfl) (by simp) ?_
  refine AllReadyH.cons (o := { dst := some 14, op := Go.Op.binOp Go.BinOp.sub 22 (Go.Operand.tmp 11) (Go.Operand.tmp 13) 22, type := 22, pos := "slope.go:22", after := #[{ on := 1, ground := Go.Ground.data }, { on := 3, ground := Go.Ground.data }], guard := none }) rfl (fun K hK => ?_) AllReadyH.nil
  go_simp
  refine hK.out _ _ (HSw.out _ (gb_none ht7.out.1 (fwor_gb _ _ _ _))) (fun _ => ?_)
  clear hK
  try simp only [Act.put, List.setIfInBounds_toArray, List.set_cons_zero, List.set_cons_succ]
  refine wpAnyH_ready (rs := [9]) (by kernel_rfl) (by simp) ?_
  refine AllReadyH.cons (o := { dst := some 19, op := Go.Op.binOp Go.BinOp.mul 22 (Go.Operand.tmp 14) (Go.Operand.tmp 18) 22, type := 22, pos := "slope.go:22", after := #[{ on := 4, ground := Go.Ground.data }, { on := 8, ground := Go.Ground.data }], guard := none }) rfl (fun K hK => ?_) AllReadyH.nil
  go_simp
  refine hK.out _ _ (HSw.out _ (gb_none (gb_none ht7.out.1 (fwor_gb _ _ _ _)) (fwor_gb _ _ _ _))) (fun _ => ?_)
  clear hK
  try simp only [Act.put, List.setIfInBounds_toArray, List.set_cons_zero, List.set_cons_succ]
  refine wpAnyH_ready (rs := [10]) (by kernel_rfl) (by simp) ?_
  refine AllReadyH.cons (o := { dst := some 2, op := Go.Op.assign (Go.Operand.tmp 19), type := 22, pos := "slope.go:22", after := #[{ on := 9, ground := Go.Ground.data }, { on := 8, ground := Go.Ground.chain }, { on := 0, ground := Go.Ground.phase }, { on := 1, ground := Go.Ground.phase }, { on := 2, ground := Go.Ground.phase }, { on := 3, ground := Go.Ground.phase }, { on := 4, ground := Go.Ground.phase }, { on := 5, ground := Go.Ground.phase }, { on := 6, ground := Go.Ground.phase }, { on := 7, ground := Go.Ground.phase }, { on := 8, ground := Go.Ground.phase }, { on := 9, ground := Go.Ground.phase }], guard := none }) rfl (fun K hK => ?_) AllReadyH.nil
  go_simp
  refine hK.out _ _ (HSw.out _ (gb_none (gb_none ht7.out.1 (fwor_gb _ _ _ _)) (fwor_gb _ _ _ _))) (fun _ => ?_)
  clear hK
  try simp only [Act.put, List.setIfInBounds_toArray, List.set_cons_zero, List.set_cons_succ]
  refine wpAnyH_done (by kernel_rfl) ?_ _
  obtain ⟨z, hz⟩ : ∃ z, (fres (fwor wt7 .sub fb fa) .mul (fres wt7 .sub fb fa) t7) = z := ⟨_, rfl⟩
  obtain ⟨W9, hW9⟩ : ∃ W9, (fwor (fwor wt7 .sub fb fa) .mul (fres wt7 .sub fb fa) t7) = W9 := ⟨_, rfl⟩
  rw [hz, hW9]
  have hcz : cz z = DR := by rw [← hz, cz_fres _ (.inr (.inr (.inl rfl))), cz_fres _ (.inr (.inl rfl)), ht7.out.2, hs5.out.2]; exact HDe.out
  have hg9 : w4.grownBy W9 none := by rw [← hW9]; exact (gb_none (gb_none ht7.out.1 (fwor_gb _ _ _ _)) (fwor_gb _ _ _ _))
  have HZx3 := hidJ hcz
  have HGx3 := hidJ (gb_none HG4.out hg9)
  clear hz hW9 hcz hg9
  go_wp2
  go_ret
  exact ⟨_, rfl, HZx3.out, HGx3.out⟩
set_option maxRecDepth 8000 in
set_option maxHeartbeats 12800000 in
theorem increase_any (w : World) (a : Option Addr) (c : Nat) (l : List SmpT) (frm upt : Int) (hv : RdP w (.slice a l.length c) l) (hl : 1 ≤ l.length) :
    Calls Try.prog 59 #[.agg #[.slice a l.length c, .int .i64 frm, .int .i64 upt]] w fun e w' => ∃ v, e = .returned (.float .f64 v) ∧ cz v = incC l frm upt ∧ w.grownBy w' none := by
  obtain ⟨b, o, rfl, hc1, hc2, hbl, -⟩ := hv.at hl
  obtain ⟨C, hC⟩ : ∃ C : Obj, C = .cells #[.slice (some ⟨b, o, none⟩) l.length c, .int .i64 frm, .int .i64 upt] 54 := ⟨_, rfl⟩
  have hg := alloc_gb w C
  have hb := Go.heap_alloc_new w C
  have HGn := hidJ ((gain_any (w.alloc C) (some ⟨b, o, none⟩) c l frm upt (hv.keep hg) hl).mono (fun e w' h => (show ∃ v, e = .returned (.float .f64 v) ∧ Hid (cz v = gainC l ∧ w.grownBy w' none ∧ w'.heap[w.heap.size]? = some C) from by
    obtain ⟨v, h1, h2, h3⟩ := h
    exact ⟨v, h1, h2, gb_none hg h3, (h3.block _ (some_lt hb) (by simp)).trans hb⟩)))
  have HZ0 : Hid (∀ s W, w.grownBy W none → Calls Try.prog 80 #[.agg #[.slice (some ⟨b, o, none⟩) l.length c, .int .i64 frm, .int .i64 upt], .float .f64 s] W fun e w' => ∃ v, e = .returned (.float .f64 v) ∧ cz v = szrC l frm (cz s) ∧ W.grownBy w' none) := fun s W hW => sinceZero_any W _ c l frm upt s (hv.keep hW) hl
  have HS0 : Hid (∀ s W, w.grownBy W none → Calls Try.prog 77 #[.agg #[.slice (some ⟨b, o, none⟩) l.length c, .int .i64 frm, .int .i64 upt], .float .f64 s] W fun e w' => ∃ v, e = .returned (.float .f64 v) ∧ cz v = strC l upt (cz s) ∧ W.grownBy w' none) := fun s W hW => stretch_any W _ c l frm upt s (hv.keep hW) hl
  have HD0 : Hid (fopC .mul (gainC l) (strC l upt (szrC l frm (gainC l))) = incC l frm upt) := rfl
  generalize incC l frm upt = DR at *
  clear hb hv hl hg
  generalize l.length = N at *
  subst hC
  have hsf := store_float
  go_enter Try.func59, Try.ntmps59
  go_wp2_with fail
  refine HGn.out.mono ?_
  rintro e w4 ⟨r, rfl, q1⟩
  clear HGn
  have HSw : Hid (∀ W, w4.grownBy W none → W.cell? ⟨w.heap.size, 0, none⟩ = some (.slice (some ⟨b, o, none⟩) N c) ∧ W.cell? ⟨w.heap.size, 1, none⟩ = some (.int .i64 frm) ∧ W.cell? ⟨w.heap.size, 2, none⟩ = some (.int .i64 upt)) := fun W hW => by
    have k0 := (hW.block _ (some_lt q1.out.2.2) (by simp)).trans q1.out.2.2
    refine ⟨?_, ?_, ?_⟩ <;> (rw [World.cell?, k0]; rfl)
  have HG4 := hidJ q1.out.2.1
  have HRr := hidJ q1.out.1
  have HZe : Hid (∀ W, w4.grownBy W none → Calls Try.prog 80 #[.agg #[.slice (some ⟨b, o, none⟩) N c, .int .i64 frm, .int .i64 upt], .float .f64 r] W fun e w' => ∃ v, e = .returned (.float .f64 v) ∧ Hid (w4.grownBy w' none ∧ cz v = szrC l frm (cz r))) := fun W hW => (HZ0.out r W (gb_none HG4.out hW)).mono (by
    rintro e w' ⟨v, h1, h2, h3⟩
    exact ⟨v, h1, gb_none hW h3, h2⟩)
  have HSt : Hid (∀ s W, w4.grownBy W none → Calls Try.prog 77 #[.agg #[.slice (some ⟨b, o, none⟩) N c, .int .i64 frm, .int .i64 upt], .float .f64 s] W fun e w' => ∃ v, e = .returned (.float .f64 v) ∧ Hid (w4.grownBy w' none ∧ cz v = strC l upt (cz s))) := fun s W hW => (HS0.out s W (gb_none HG4.out hW)).mono (by
    rintro e w' ⟨v, h1, h2, h3⟩
    exact ⟨v, h1, gb_none hW h3, h2⟩)
  have HDe : Hid (fopC .mul (cz r) (strC l upt (szrC l frm (cz r))) = DR) := by rw [HRr.out]; exact HD0.out
  have hmul : ∀ W u, (binOp .mul 22 (.float .f64 r) (.float .f64 u)).run Try.prog W = .ok (.float .f64 (fres W .mul r u)) (fwor W .mul r u) := fun W u => run_fop W (.inr (.inr (.inl rfl))) _ _ _
  clear HD0 HRr
  clear q1 HZ0 HS0
  go_wp2
  obtain ⟨B0, hB0⟩ : ∃ B0, w.heap.size = B0 := ⟨_, rfl⟩
  rw [hB0] at HSw ⊢
  clear hB0
  refine wp_region_held_drew (S := (fun w' => w'.cell? ⟨B0, 0, none⟩ = some (.slice (some ⟨b, o, none⟩) N c) ∧ w'.cell? ⟨B0, 1, none⟩ = some (.int .i64 frm) ∧ w'.cell? ⟨B0, 2, none⟩ = some (.int .i64 upt))) (by kernel_rfl) (HSw.out _ (gb_drew _ _)) (fun _ => ?_)
  refine wpAnyH_take (i := 0) (oi := { dst := some 6, op := Go.Op.move (Go.Operand.tmp 3), type := 22, pos := "slope.go:27", after := #[], guard := none }) (v := ?v15k) rfl (by kernel_rfl) (by kernel_rfl) (by kernel_rfl) (fun _ _ _ h => h) (Or.inl ⟨by rfl, ?y15k⟩) (HSw.out _ (gb_drew _ _)) ?r15k
  case y15k => intro wq hSw; obtain ⟨s1, s2, s3⟩ := hSw; go_simp; try with_reducible rfl
  case' r15k => skip
  try simp only [Act.put, List.setIfInBounds_toArray, List.set_cons_zero, List.set_cons_succ]
  refine wpAnyH_take (i := 1) (oi := { dst := some 7, op := Go.Op.load 54 (Go.Operand.tmp 1), type := 54, pos := "slope.go:27", after := #[], guard := none }) (v := ?v16k) rfl (by kernel_rfl) (by kernel_rfl) (by kernel_rfl) (fun _ _ _ h => h) (Or.inl ⟨by rfl, ?y16k⟩) (HSw.out _ (gb_drew _ _)) ?r16k
  case y16k => intro wq hSw; obtain ⟨s1, s2, s3⟩ := hSw; go_simp; try with_reducible rfl
  case' r16k => skip
  try simp only [Act.put, List.setIfInBounds_toArray, List.set_cons_zero, List.set_cons_succ]
  refine wpAnyH_take (i := 2) (oi := { dst := some 8, op := Go.Op.load 54 (Go.Operand.tmp 1), type := 54, pos := "slope.go:27", after := #[], guard := none }) (v := ?v17k) rfl (by kernel_rfl) (by kernel_rfl) (by kernel_rfl) (fun _ _ _ h => h) (Or.inl ⟨by rfl, ?y17k⟩) (HSw.out _ (gb_drew _ _)) ?r17k
  case y17k => intro wq hSw; obtain ⟨s1, s2, s3⟩ := hSw; go_simp; try with_reducible rfl
  case' r17k => skip
  try simp only [Act.put, List.setIfInBounds_toArray, List.set_cons_zero, List.set_cons_succ]
  refine wpAnyH_take (i := 3) (oi := { dst := some 9, op := Go.Op.move (Go.Operand.tmp 3), type := 22, pos := "slope.go:27", after := #[], guard := none }) (v := ?v18k) rfl (by kernel_rfl) (by kernel_rfl) (by kernel_rfl) (fun _ _ _ h => h) (Or.inl ⟨by rfl, ?y18k⟩) (HSw.out _ (gb_drew _ _)) ?r18k
  case y18k => intro wq hSw; obtain ⟨s1, s2, s3⟩ := hSw; go_simp; try with_reducible rfl
  case' r18k => skip
  try simp only [Act.put, List.setIfInBounds_toArray, List.set_cons_zero, List.set_cons_succ]
  refine wpAnyH_ready (rs := [4]) (by kernel_rfl) (by simp) ?_
  refine AllReadyH.cons (o := { dst := some 10, op := Go.Op.call { callee := Go.Callee.value (Go.Operand.func 80), args := #[Go.Operand.tmp 8, Go.Operand.tmp 9], argTypes := #[54, 22] }, type := 22, pos := "slope.go:27", after := #[{ on := 2, ground := Go.Ground.data }, { on := 3, ground := Go.Ground.data }], guard := none }) rfl (fun K hK => ?_) AllReadyH.nil
  go_simp
  refine (HZe.out _ (gb_drew _ _)).mono ?_; rintro e ws8 ⟨s8, rfl, hs8⟩
  refine hK.out _ _ (HSw.out _ hs8.out.1) (fun _ => ?_)
  clear hK
  try simp only [Act.put, List.setIfInBounds_toArray, List.set_cons_zero, List.set_cons_succ]
  refine wpAnyH_ready (rs := [5]) (by kernel_rfl) (by simp) ?_
  refine AllReadyH.cons (o := { dst := some 11, op := Go.Op.call { callee := Go.Callee.value (Go.Operand.func 77), args := #[Go.Operand.tmp 7, Go.Operand.tmp 10], argTypes := #[54, 22] }, type := 22, pos := "slope.go:27", after := #[{ on := 1, ground := Go.Ground.data }, { on := 4, ground := Go.Ground.data }, { on := 4, ground := Go.Ground.chain }], guard := none }) rfl (fun K hK => ?_) AllReadyH.nil
  go_simp
  refine (HSt.out s8 _ hs8.out.1).mono ?_; rintro e wt9 ⟨t9, rfl, ht9⟩
  refine hK.out _ _ (HSw.out _ ht9.out.1) (fun _ => ?_)
  clear hK
  try simp only [Act.put, List.setIfInBounds_toArray, List.set_cons_zero, List.set_cons_succ]
  refine wpAnyH_ready (rs := [6]) (by kernel_rfl) (by simp) ?_
  refine AllReadyH.cons (o := { dst := some 12, op := Go.Op.binOp Go.BinOp.mul 22 (Go.Operand.tmp 6) (Go.Operand.tmp 11) 22, type := 22, pos := "slope.go:27", after := #[{ on := 0, ground := Go.Ground.data }, { on := 5, ground := Go.Ground.data }], guard := none }) rfl (fun K hK => ?_) AllReadyH.nil
  go_simp
  refine hK.out _ _ (HSw.out _ (gb_none ht9.out.1 (fwor_gb _ _ _ _))) (fun _ => ?_)
  clear hK
  try simp only [Act.put, List.setIfInBounds_toArray, List.set_cons_zero, List.set_cons_succ]
  refine wpAnyH_ready (rs := [7]) (by kernel_rfl) (by simp) ?_
  refine AllReadyH.cons (o := { dst := some 2, op := Go.Op.assign (Go.Operand.tmp 12), type := 22, pos := "slope.go:27", after := #[{ on := 6, ground := Go.Ground.data }, { on := 5, ground := Go.Ground.chain }, { on := 0, ground := Go.Ground.phase }, { on := 1, ground := Go.Ground.phase }, { on := 2, ground := Go.Ground.phase }, { on := 3, ground := Go.Ground.phase }, { on := 4, ground := Go.Ground.phase }, { on := 5, ground := Go.Ground.phase }, { on := 6, ground := Go.Ground.phase }], guard := none }) rfl (fun K hK => ?_) AllReadyH.nil
  go_simp
  refine hK.out _ _ (HSw.out _ (gb_none ht9.out.1 (fwor_gb _ _ _ _))) (fun _ => ?_)
  clear hK
  try simp only [Act.put, List.setIfInBounds_toArray, List.set_cons_zero, List.set_cons_succ]
  refine wpAnyH_done (by kernel_rfl) ?_ _
  obtain ⟨z, hz⟩ : ∃ z, (fres wt9 .mul r t9) = z := ⟨_, rfl⟩
  obtain ⟨W9, hW9⟩ : ∃ W9, (fwor wt9 .mul r t9) = W9 := ⟨_, rfl⟩
  rw [hz, hW9]
  have hcz : cz z = DR := by rw [← hz, cz_fres _ (.inr (.inr (.inl rfl))), ht9.out.2, hs8.out.2]; exact HDe.out
  have hg9 : w4.grownBy W9 none := by rw [← hW9]; exact (gb_none ht9.out.1 (fwor_gb _ _ _ _))
  have HZx1 := hidJ hcz
  have HGx1 := hidJ (gb_none HG4.out hg9)
  clear hz hW9 hcz hg9
  go_wp2
  go_ret
  exact ⟨_, rfl, HZx1.out, HGx1.out⟩
set_option maxRecDepth 8000 in
set_option maxHeartbeats 12800000 in
theorem rate_any (w : World) (a : Option Addr) (c : Nat) (l : List SmpT) (frm upt : Int) (hv : RdP w (.slice a l.length c) l) (hl : 1 ≤ l.length) :
    Calls Try.prog 60 #[.agg #[.slice a l.length c, .int .i64 frm, .int .i64 upt]] w fun e w' => ∃ v, e = .returned (.float .f64 v) ∧ cz v = ratC l frm upt ∧ w.grownBy w' none := by
  obtain ⟨b, o, rfl, hc1, hc2, hbl, -⟩ := hv.at hl
  obtain ⟨C, hC⟩ : ∃ C : Obj, C = .cells #[.slice (some ⟨b, o, none⟩) l.length c, .int .i64 frm, .int .i64 upt] 54 := ⟨_, rfl⟩
  have hg := alloc_gb w C
  have hb := Go.heap_alloc_new w C
  have HGn := hidJ ((gain_any (w.alloc C) (some ⟨b, o, none⟩) c l frm upt (hv.keep hg) hl).mono (fun e w' h => (show ∃ v, e = .returned (.float .f64 v) ∧ Hid (cz v = gainC l ∧ w.grownBy w' none ∧ w'.heap[w.heap.size]? = some C) from by
    obtain ⟨v, h1, h2, h3⟩ := h
    exact ⟨v, h1, h2, gb_none hg h3, (h3.block _ (some_lt hb) (by simp)).trans hb⟩)))
  have HZ0 : Hid (∀ s W, w.grownBy W none → Calls Try.prog 80 #[.agg #[.slice (some ⟨b, o, none⟩) l.length c, .int .i64 frm, .int .i64 upt], .float .f64 s] W fun e w' => ∃ v, e = .returned (.float .f64 v) ∧ cz v = szrC l frm (cz s) ∧ W.grownBy w' none) := fun s W hW => sinceZero_any W _ c l frm upt s (hv.keep hW) hl
  have HS0 : Hid (∀ s W, w.grownBy W none → Calls Try.prog 77 #[.agg #[.slice (some ⟨b, o, none⟩) l.length c, .int .i64 frm, .int .i64 upt], .float .f64 s] W fun e w' => ∃ v, e = .returned (.float .f64 v) ∧ cz v = strC l upt (cz s) ∧ W.grownBy w' none) := fun s W hW => stretch_any W _ c l frm upt s (hv.keep hW) hl
  have HF0 : Hid (fopC .quo (strC l upt (szrC l frm (gainC l))) (secC (wrap64 (upt - frm))) = fopC .quo (facC l frm upt) (secC (wrap64 (upt - frm)))) := rfl
  obtain ⟨FR, hFR⟩ : ∃ FR, fopC .quo (facC l frm upt) (secC (wrap64 (upt - frm))) = FR := ⟨_, rfl⟩
  have HR0 : Hid (fopC .mul (gainC l) FR = ratC l frm upt) := by rw [← hFR]; exact rfl
  rw [hFR] at HF0
  clear hFR
  generalize ratC l frm upt = RR at *
  clear hb hv hl hg
  generalize l.length = N at *
  subst hC
  have hsf := store_float
  go_enter Try.func60, Try.ntmps60
  go_wp2_with fail
  refine HGn.out.mono ?_
  rintro e w4 ⟨r, rfl, q1⟩
  clear HGn
  have HSw : Hid (∀ W, w4.grownBy W none → W.cell? ⟨w.heap.size, 0, none⟩ = some (.slice (some ⟨b, o, none⟩) N c) ∧ W.cell? ⟨w.heap.size, 1, none⟩ = some (.int .i64 frm) ∧ W.cell? ⟨w.heap.size, 2, none⟩ = some (.int .i64 upt)) := fun W hW => by
    have k0 := (hW.block _ (some_lt q1.out.2.2) (by simp)).trans q1.out.2.2
    refine ⟨?_, ?_, ?_⟩ <;> (rw [World.cell?, k0]; rfl)
  have HG4 := hidJ q1.out.2.1
  have HRr := hidJ q1.out.1
  have HZe : Hid (∀ W, w4.grownBy W none → Calls Try.prog 80 #[.agg #[.slice (some ⟨b, o, none⟩) N c, .int .i64 frm, .int .i64 upt], .float .f64 r] W fun e w' => ∃ v, e = .returned (.float .f64 v) ∧ Hid (w4.grownBy w' none ∧ cz v = szrC l frm (cz r))) := fun W hW => (HZ0.out r W (gb_none HG4.out hW)).mono (by
    rintro e w' ⟨v, h1, h2, h3⟩
    exact ⟨v, h1, gb_none hW h3, h2⟩)
  have HSt : Hid (∀ s W, w4.grownBy W none → Calls Try.prog 77 #[.agg #[.slice (some ⟨b, o, none⟩) N c, .int .i64 frm, .int .i64 upt], .float .f64 s] W fun e w' => ∃ v, e = .returned (.float .f64 v) ∧ Hid (w4.grownBy w' none ∧ cz v = strC l upt (cz s))) := fun s W hW => (HS0.out s W (gb_none HG4.out hW)).mono (by
    rintro e w' ⟨v, h1, h2, h3⟩
    exact ⟨v, h1, gb_none hW h3, h2⟩)
  have HFe : Hid (fopC .quo (strC l upt (szrC l frm (cz r))) (secC (wrap64 (upt - frm))) = FR) := by rw [HRr.out]; exact HF0.out
  have HRe : Hid (fopC .mul (cz r) FR = RR) := by rw [HRr.out]; exact HR0.out
  have HSe : Hid (∀ W, w4.grownBy W none → Calls Try.prog 81 #[.int .i64 (wrap64 (upt - frm))] W fun e w' => ∃ v, e = .returned (.float .f64 v) ∧ Hid (w4.grownBy w' none ∧ cz v = secC (wrap64 (upt - frm)))) := fun W hW => (seconds_any W _).mono (by
    rintro e w' ⟨v, h1, h2, h3⟩
    exact ⟨v, h1, gb_none hW h3, h2⟩)
  have hw : IntKind.i64.wrap (upt - frm) = wrap64 (upt - frm) := by rw [IntKind.wrap_i64]; unfold wrap64; omega
  have hquo : ∀ W v u, (binOp .quo 22 (.float .f64 v) (.float .f64 u)).run Try.prog W = .ok (.float .f64 (fres W .quo v u)) (fwor W .quo v u) := fun W v u => run_fop W (.inr (.inr (.inr rfl))) _ _ _
  clear HF0 HR0 HRr
  clear q1 HZ0 HS0
  go_wp2
  obtain ⟨B0, hB0⟩ : ∃ B0, w.heap.size = B0 := ⟨_, rfl⟩
  rw [hB0] at HSw ⊢
  clear hB0
  refine wp_region_held_drew (S := (fun w' => w'.cell? ⟨B0, 0, none⟩ = some (.slice (some ⟨b, o, none⟩) N c) ∧ w'.cell? ⟨B0, 1, none⟩ = some (.int .i64 frm) ∧ w'.cell? ⟨B0, 2, none⟩ = some (.int .i64 upt))) (by kernel_rfl) (HSw.out _ (gb_drew _ _)) (fun _ => ?_)
  refine wpAnyH_take (i := 0) (oi := { dst := some 7, op := Go.Op.load 54 (Go.Operand.tmp 1), type := 54, pos := "slope.go:32", after := #[], guard := none }) (v := ?v19k) rfl (by kernel_rfl) (by kernel_rfl) (by kernel_rfl) (fun _ _ _ h => h) (Or.inl ⟨by rfl, ?y19k⟩) (HSw.out _ (gb_drew _ _)) ?r19k
  case y19k => intro wq hSw; obtain ⟨s1, s2, s3⟩ := hSw; go_simp; try with_reducible rfl
  case' r19k => skip
  try simp only [Act.put, List.setIfInBounds_toArray, List.set_cons_zero, List.set_cons_succ]
  refine wpAnyH_take (i := 1) (oi := { dst := some 8, op := Go.Op.load 54 (Go.Operand.tmp 1), type := 54, pos := "slope.go:32", after := #[], guard := none }) (v := ?v20k) rfl (by kernel_rfl) (by kernel_rfl) (by kernel_rfl) (fun _ _ _ h => h) (Or.inl ⟨by rfl, ?y20k⟩) (HSw.out _ (gb_drew _ _)) ?r20k
  case y20k => intro wq hSw; obtain ⟨s1, s2, s3⟩ := hSw; go_simp; try with_reducible rfl
  case' r20k => skip
  try simp only [Act.put, List.setIfInBounds_toArray, List.set_cons_zero, List.set_cons_succ]
  refine wpAnyH_take (i := 2) (oi := { dst := some 9, op := Go.Op.move (Go.Operand.tmp 3), type := 22, pos := "slope.go:32", after := #[], guard := none }) (v := ?v21k) rfl (by kernel_rfl) (by kernel_rfl) (by kernel_rfl) (fun _ _ _ h => h) (Or.inl ⟨by rfl, ?y21k⟩) (HSw.out _ (gb_drew _ _)) ?r21k
  case y21k => intro wq hSw; obtain ⟨s1, s2, s3⟩ := hSw; go_simp; try with_reducible rfl
  case' r21k => skip
  try simp only [Act.put, List.setIfInBounds_toArray, List.set_cons_zero, List.set_cons_succ]
  refine wpAnyH_take (i := 5) (oi := { dst := some 12, op := Go.Op.fieldAddr 54 (Go.Operand.tmp 1) 2, type := 0, pos := "slope.go:32", after := #[], guard := none }) (v := ?v22k) rfl (by kernel_rfl) (by kernel_rfl) (by kernel_rfl) (fun _ _ _ h => h) (Or.inl ⟨by rfl, ?y22k⟩) (HSw.out _ (gb_drew _ _)) ?r22k
  case y22k => intro wq hSw; obtain ⟨s1, s2, s3⟩ := hSw; go_simp; try with_reducible rfl
  case' r22k => skip
  try simp only [Act.put, List.setIfInBounds_toArray, List.set_cons_zero, List.set_cons_succ]
  refine wpAnyH_take (i := 6) (oi := { dst := some 13, op := Go.Op.load 2 (Go.Operand.tmp 12), type := 2, pos := "slope.go:32", after := #[{ on := 5, ground := Go.Ground.data }], guard := none }) (v := ?v23k) rfl (by kernel_rfl) (by kernel_rfl) (by kernel_rfl) (fun _ _ _ h => h) (Or.inl ⟨by rfl, ?y23k⟩) (HSw.out _ (gb_drew _ _)) ?r23k
  case y23k => intro wq hSw; obtain ⟨s1, s2, s3⟩ := hSw; go_simp; try with_reducible rfl
  case' r23k => skip
  try simp only [Act.put, List.setIfInBounds_toArray, List.set_cons_zero, List.set_cons_succ]
  refine wpAnyH_take (i := 7) (oi := { dst := some 14, op := Go.Op.fieldAddr 54 (Go.Operand.tmp 1) 1, type := 0, pos := "slope.go:32", after := #[], guard := none }) (v := ?v24k) rfl (by kernel_rfl) (by kernel_rfl) (by kernel_rfl) (fun _ _ _ h => h) (Or.inl ⟨by rfl, ?y24k⟩) (HSw.out _ (gb_drew _ _)) ?r24k
  case y24k => intro wq hSw; obtain ⟨s1, s2, s3⟩ := hSw; go_simp; try with_reducible rfl
  case' r24k => skip
  try simp only [Act.put, List.setIfInBounds_toArray, List.set_cons_zero, List.set_cons_succ]
  refine wpAnyH_take (i := 8) (oi := { dst := some 15, op := Go.Op.load 2 (Go.Operand.tmp 14), type := 2, pos := "slope.go:32", after := #[{ on := 7, ground := Go.Ground.data }], guard := none }) (v := ?v25k) rfl (by kernel_rfl) (by kernel_rfl) (by kernel_rfl) (fun _ _ _ h => h) (Or.inl ⟨by rfl, ?y25k⟩) (HSw.out _ (gb_drew _ _)) ?r25k
  case y25k => intro wq hSw; obtain ⟨s1, s2, s3⟩ := hSw; go_simp; try with_reducible rfl
  case' r25k => skip
  try simp only [Act.put, List.setIfInBounds_toArray, List.set_cons_zero, List.set_cons_succ]
  refine wpAnyH_take (i := 9) (oi := { dst := some 16, op := Go.Op.binOp Go.BinOp.sub 2 (Go.Operand.tmp 13) (Go.Operand.tmp 15) 2, type := 2, pos := "slope.go:32", after := #[{ on := 6, ground := Go.Ground.data }, { on := 8, ground := Go.Ground.data }], guard := none }) (v := ?v26k) rfl (by kernel_rfl) (by kernel_rfl) (by kernel_rfl) (fun _ _ _ h => h) (Or.inl ⟨by rfl, ?y26k⟩) (HSw.out _ (gb_drew _ _)) ?r26k
  case y26k => intro wq hSw; obtain ⟨s1, s2, s3⟩ := hSw; go_simp; try with_reducible rfl
  case' r26k => skip
  try simp only [Act.put, List.setIfInBounds_toArray, List.set_cons_zero, List.set_cons_succ]
  refine wpAnyH_ready (rs := [3]) (by kernel_rfl) (by simp) ?_
  refine AllReadyH.cons (o := { dst := some 10, op := Go.Op.call { callee := Go.Callee.value (Go.Operand.func 80), args := #[Go.Operand.tmp 8, Go.Operand.tmp 9], argTypes := #[54, 22] }, type := 22, pos := "slope.go:32", after := #[{ on := 1, ground := Go.Ground.data }, { on := 2, ground := Go.Ground.data }], guard := none }) rfl (fun K hK => ?_) AllReadyH.nil
  go_simp
  refine (HZe.out _ (gb_drew _ _)).mono ?_; rintro e ws10 ⟨s10, rfl, hs10⟩
  refine hK.out _ _ (HSw.out _ hs10.out.1) (fun _ => ?_)
  clear hK
  try simp only [Act.put, List.setIfInBounds_toArray, List.set_cons_zero, List.set_cons_succ]
  refine wpAnyH_ready (rs := [4]) (by kernel_rfl) (by simp) ?_
  refine AllReadyH.cons (o := { dst := some 11, op := Go.Op.call { callee := Go.Callee.value (Go.Operand.func 77), args := #[Go.Operand.tmp 7, Go.Operand.tmp 10], argTypes := #[54, 22] }, type := 22, pos := "slope.go:32", after := #[{ on := 0, ground := Go.Ground.data }, { on := 3, ground := Go.Ground.data }, { on := 3, ground := Go.Ground.chain }], guard := none }) rfl (fun K hK => ?_) AllReadyH.nil
  go_simp
  refine (HSt.out s10 _ hs10.out.1).mono ?_; rintro e wt11 ⟨t11, rfl, ht11⟩
  refine hK.out _ _ (HSw.out _ ht11.out.1) (fun _ => ?_)
  clear hK
  try simp only [Act.put, List.setIfInBounds_toArray, List.set_cons_zero, List.set_cons_succ]
  refine wpAnyH_ready (rs := [10]) (by kernel_rfl) (by simp) ?_
  refine AllReadyH.cons (o := { dst := some 17, op := Go.Op.call { callee := Go.Callee.value (Go.Operand.func 81), args := #[Go.Operand.tmp 16], argTypes := #[2] }, type := 22, pos := "slope.go:32", after := #[{ on := 9, ground := Go.Ground.data }, { on := 4, ground := Go.Ground.chain }], guard := none }) rfl (fun K hK => ?_) AllReadyH.nil
  go_simp
  refine (HSe.out _ ht11.out.1).mono ?_; rintro e wv12 ⟨v12, rfl, hv12⟩
  refine hK.out _ _ (HSw.out _ hv12.out.1) (fun _ => ?_)
  clear hK
  try simp only [Act.put, List.setIfInBounds_toArray, List.set_cons_zero, List.set_cons_succ]
  refine wpAnyH_ready (rs := [11]) (by kernel_rfl) (by simp) ?_
  refine AllReadyH.cons (o := { dst := some 18, op := Go.Op.binOp Go.BinOp.quo 22 (Go.Operand.tmp 11) (Go.Operand.tmp 17) 22, type := 22, pos := "slope.go:32", after := #[{ on := 4, ground := Go.Ground.data }, { on := 10, ground := Go.Ground.data }], guard := none }) rfl (fun K hK => ?_) AllReadyH.nil
  go_simp
  refine hK.out _ _ (HSw.out _ (gb_none hv12.out.1 (fwor_gb _ _ _ _))) (fun _ => ?_)
  clear hK
  try simp only [Act.put, List.setIfInBounds_toArray, List.set_cons_zero, List.set_cons_succ]
  refine wpAnyH_ready (rs := [12]) (by kernel_rfl) (by simp) ?_
  refine AllReadyH.cons (o := { dst := some 4, op := Go.Op.assign (Go.Operand.tmp 18), type := 22, pos := "slope.go:32", after := #[{ on := 11, ground := Go.Ground.data }, { on := 10, ground := Go.Ground.chain }, { on := 0, ground := Go.Ground.phase }, { on := 1, ground := Go.Ground.phase }, { on := 2, ground := Go.Ground.phase }, { on := 3, ground := Go.Ground.phase }, { on := 4, ground := Go.Ground.phase }, { on := 5, ground := Go.Ground.phase }, { on := 6, ground := Go.Ground.phase }, { on := 7, ground := Go.Ground.phase }, { on := 8, ground := Go.Ground.phase }, { on := 9, ground := Go.Ground.phase }, { on := 10, ground := Go.Ground.phase }, { on := 11, ground := Go.Ground.phase }], guard := none }) rfl (fun K hK => ?_) AllReadyH.nil
  go_simp
  refine hK.out _ _ (HSw.out _ (gb_none hv12.out.1 (fwor_gb _ _ _ _))) (fun _ => ?_)
  clear hK
  try simp only [Act.put, List.setIfInBounds_toArray, List.set_cons_zero, List.set_cons_succ]
  refine wpAnyH_done (by kernel_rfl) ?_ _
  obtain ⟨z, hz⟩ : ∃ z, (fres wv12 .quo t11 v12) = z := ⟨_, rfl⟩
  obtain ⟨W9, hW9⟩ : ∃ W9, (fwor wv12 .quo t11 v12) = W9 := ⟨_, rfl⟩
  rw [hz, hW9]
  have hcz : cz z = FR := by rw [← hz, cz_fres _ (.inr (.inr (.inr rfl))), ht11.out.2, hs10.out.2, hv12.out.2]; exact HFe.out
  have hg9 : w4.grownBy W9 none := by rw [← hW9]; exact (gb_none hv12.out.1 (fwor_gb _ _ _ _))
  have HGx1 := hidJ (gb_none HG4.out hg9)
  have hmul : ∀ W, (binOp .mul 22 (.float .f64 r) (.float .f64 z)).run Try.prog W = .ok (.float .f64 (fres W .mul r z)) (fwor W .mul r z) := fun W => run_fop W (.inr (.inr (.inl rfl))) _ _ _
  have HZx1 : Hid (∀ W, cz (fres W .mul r z) = RR) := fun W => by rw [cz_fres _ (.inr (.inr (.inl rfl))), hcz]; exact HRe.out
  have HYx1 : Hid (w.grownBy (fwor W9 .mul r z) none) := gb_none HGx1.out (fwor_gb _ _ _ _)
  clear hz hW9 hcz hg9 hquo
  go_wp2
  go_ret
  exact ⟨_, rfl, HZx1.out _, HYx1.out⟩
end Go.Proofs.Ytgpednikianneaa
