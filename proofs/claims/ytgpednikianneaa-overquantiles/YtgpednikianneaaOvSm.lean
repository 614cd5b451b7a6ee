/-
  sum, average, idelta and irate of a window: the walks.
-/
import Derived.Test.YtgpednikianneaaOvV
namespace Go.Proofs.Ytgpednikianneaa
open Go.RowKit
attribute [local go_sem] fwor_cell fwor_frozen fwor_size

def smN (l : List SmpT) : Nat → Nat
  | 0 => cz (l.getD 0 smZ).2
  | z + 1 => fopC .add (smN l z) (cz (l.getD (z + 1) smZ).2)
def sumC (l : List SmpT) : Nat := smN l (l.length - 1)
def avgC (l : List SmpT) : Nat := fopC .quo (sumC l) (cz (val_count l))
set_option maxRecDepth 8000 in
set_option maxHeartbeats 3200000 in
theorem sum_any (w : World) (a : Option Addr) (c : Nat) (l : List SmpT) (frm upt : Int) (hv : RdP w (.slice a l.length c) l) (hl : 1 ≤ l.length) :
    Calls Try.prog 48 #[.agg #[.slice a l.length c, .int .i64 frm, .int .i64 upt]] w fun e w' => ∃ v, e = .returned (.float .f64 v) ∧ cz v = sumC l ∧ w.grownBy w' none := by
  obtain ⟨b, o, rfl, hc1, hc2, hbl, HE0⟩ := hv.at hl
  have HE : Hid (∀ j, j < l.length → ∀ wr, w.grownBy wr none → b < wr.heap.size ∧ wr.cell? ⟨b, o + j * 2, none⟩ = some (.int .i64 (l.getD j smZ).1) ∧ wr.cell? ⟨b, o + j * 2 + 1, none⟩ = some (.float .f64 (l.getD j smZ).2)) := fun j hj wr hg => ⟨Nat.lt_of_lt_of_le hbl hg.size, (HE0 j hj wr hg).1, (HE0 j hj wr hg).2⟩
  clear HE0
  obtain ⟨M, hM⟩ : ∃ M, l.length = M + 1 := ⟨l.length - 1, by omega⟩
  have HM := hidJ hM
  have HR9 : Hid (sumC l = smN l M) := by
    unfold sumC
    rw [hM, Nat.add_sub_cancel]
    exact rfl
  rw [hM] at hc1 ⊢
  clear hM hl hv
  obtain ⟨C, hC⟩ : ∃ C : Obj, C = .cells #[.slice (some ⟨b, o, none⟩) (M + 1) c, .int .i64 frm, .int .i64 upt] 54 := ⟨_, rfl⟩
  have hg := alloc_gb w C
  obtain ⟨hbl2, -, hx0⟩ := HE.out 0 (by have := HM.out; omega) (w.alloc C) hg
  rw [show o + 0 * 2 + 1 = o + 1 by omega] at hx0
  have H0 : Hid (w.grownBy (w.alloc C) none ∧ smN l 0 = cz (l.getD 0 smZ).2) := ⟨hg, rfl⟩
  generalize (l.getD 0 smZ).2 = x0 at *
  have hsf := store_float
  have hM1 : (1 : Int) ≤ (M : Int) + 1 := by omega
  clear hg hbl
  subst hC
  by_cases hce : c = 1
  · subst hce
    obtain rfl : M = 0 := by omega
    go_enter Try.func48, Try.ntmps48
    go_wp2
    go_loopw [3, 15] (fun ut ui wr => ut = .float .f64 x0 ∧ ui = .int .i64 0 ∧ Hid (w.grownBy wr none)) (fun _ _ _ => 0)
    case atStart => exact ⟨rfl, rfl, H0.out.1⟩
    case round =>
      obtain ⟨rfl, rfl, hr⟩ := hrel
      have HFF : Hid (cz x0 = sumC l) := by
        rw [HR9.out, H0.out.2]
        exact rfl
      have HG := hidJ hr.out
      clear hr HE HR9 H0 hx0
      go_wp2
      go_ret
      exact ⟨_, rfl, HFF.out, HG.out⟩
  · have hce2 : ¬ 1 = c := fun e => hce e.symm
    go_enter Try.func48, Try.ntmps48
    go_wp2
    go_loopw [3, 15] (fun ut ui wr => ∃ (z : Nat) (t : Nat), z ≤ M ∧ ui = .int .i64 z ∧ ut = .float .f64 t ∧ Hid (cz t = smN l z ∧ w.grownBy wr none)) (fun _ ui _ => M - (intOf ui).toNat)
    case atStart => exact ⟨0, x0, by omega, rfl, rfl, H0.out.2.symm, H0.out.1⟩
    case round =>
      obtain ⟨z, t, hzM, rfl, rfl, hr⟩ := hrel
      clear H0 hx0 hbl2
      by_cases hzl : z < M
      · have hzi : (z : Int) < (M : Int) := by omega
        obtain ⟨hbl, d0, d1⟩ := HE.out (z + 1) (by have := HM.out; omega) wr hr.out.2
        have k1 : o + 2 + z * 2 = o + (z + 1) * 2 := by omega
        have HS : Hid (∀ W, cz (fres W .add t (l.getD (z + 1) smZ).2) = smN l (z + 1)) := fun W => by
          rw [cz_fres W (.inl rfl), hr.out.1]
          rfl
        have HG : Hid (∀ C, w.grownBy (fwor (wr.alloc C) .add t (l.getD (z + 1) smZ).2) none) := fun C => gb_none hr.out.2 (gb_none (alloc_gb _ _) (fwor_gb _ _ _ _))
        have hadd : ∀ W, (binOp .add 22 (.float .f64 t) (.float .f64 (l.getD (z + 1) smZ).2)).run Try.prog W = .ok (.float .f64 (fres W .add t (l.getD (z + 1) smZ).2)) (fwor W .add t (l.getD (z + 1) smZ).2) := fun W => run_fop W (.inl rfl) _ _ _
        clear hr HE
        generalize (l.getD (z + 1) smZ).1 = tm at *
        generalize (l.getD (z + 1) smZ).2 = fl at *
        rw [← k1] at d0 d1
        clear k1
        go_wp2
        go_roundw
        case rel => exact ⟨z + 1, _, by omega, by go_num, rfl, HS.out _, HG.out _⟩
        case measure => simp [intOf]; omega
      · have hzi : ¬ (z : Int) < (M : Int) := by omega
        have hzn : z = M := by omega
        subst hzn
        have HFF : Hid (cz t = sumC l ∧ w.grownBy wr none) := ⟨by rw [hr.out.1, HR9.out], hr.out.2⟩
        clear hr HE HR9
        go_wp2
        go_ret
        exact ⟨_, rfl, HFF.out⟩
set_option maxRecDepth 8000 in
set_option maxHeartbeats 3200000 in
theorem average_any (w : World) (a : Option Addr) (c : Nat) (l : List SmpT) (frm upt : Int) (hv : RdP w (.slice a l.length c) l) (hl : 1 ≤ l.length) :
    Calls Try.prog 49 #[.agg #[.slice a l.length c, .int .i64 frm, .int .i64 upt]] w fun e w' => ∃ v, e = .returned (.float .f64 v) ∧ cz v = avgC l ∧ w.grownBy w' none := by
  obtain ⟨C, hC⟩ : ∃ C : Obj, C = .cells #[.slice a l.length c, .int .i64 frm, .int .i64 upt] 54 := ⟨_, rfl⟩
  obtain ⟨w4, hw4⟩ : ∃ w4, w.alloc C = w4 := ⟨_, rfl⟩
  have hg : w.grownBy w4 none := by rw [← hw4]; exact alloc_gb w C
  have hb : w4.heap[w.heap.size]? = some C := by rw [← hw4]; exact Go.heap_alloc_new w C
  have HG4 := hidJ hg
  have HSw : Hid (∀ W, w4.grownBy W none → W.cell? ⟨w.heap.size, 0, none⟩ = some (.slice a l.length c) ∧ W.cell? ⟨w.heap.size, 1, none⟩ = some (.int .i64 frm) ∧ W.cell? ⟨w.heap.size, 2, none⟩ = some (.int .i64 upt)) := fun W hW => by
    have k0 := (hW.block _ (some_lt hb) (by simp)).trans hb
    rw [hC] at k0
    refine ⟨?_, ?_, ?_⟩ <;> (rw [World.cell?, k0]; rfl)
  have HSu : Hid (∀ W, w4.grownBy W none → Calls Try.prog 48 #[.agg #[.slice a l.length c, .int .i64 frm, .int .i64 upt]] W fun e w' => ∃ v, e = .returned (.float .f64 v) ∧ Hid (w4.grownBy w' none ∧ cz v = sumC l)) := fun W hW => (sum_any W a c l frm upt (hv.keep (gb_none hg hW)) hl).mono (by
    rintro e w' ⟨v, h1, h2, h3⟩
    exact ⟨v, h1, gb_none hW h3, h2⟩)
  have HCo : Hid (∀ W, w4.grownBy W none → Calls Try.prog 52 #[.agg #[.slice a l.length c, .int .i64 frm, .int .i64 upt]] W fun e w' => ∃ v, e = .returned (.float .f64 v) ∧ Hid (w4.grownBy w' none ∧ v = val_count l)) := fun W hW => (win_count_any W a c l frm upt).mono (by
    rintro e w' ⟨h1, h3⟩
    exact ⟨_, h1, gb_none hW h3, rfl⟩)
  have HAv : Hid (fopC .quo (sumC l) (cz (val_count l)) = avgC l) := rfl
  generalize avgC l = DR at *
  clear hg hb hv hl
  generalize l.length = N at *
  subst hC
  have hquo : ∀ W v u, (binOp .quo 22 (.float .f64 v) (.float .f64 u)).run Try.prog W = .ok (.float .f64 (fres W .quo v u)) (fwor W .quo v u) := fun W v u => run_fop W (.inr (.inr (.inr rfl))) _ _ _
  go_enter Try.func49, Try.ntmps49
  go_wp2
  clear hw4
  obtain ⟨B0, hB0⟩ : ∃ B0, w.heap.size = B0 := ⟨_, rfl⟩
  rw [hB0] at HSw ⊢
  clear hB0
  refine wp_region_held_drew (S := (fun w' => w'.cell? ⟨B0, 0, none⟩ = some (.slice a N c) ∧ w'.cell? ⟨B0, 1, none⟩ = some (.int .i64 frm) ∧ w'.cell? ⟨B0, 2, none⟩ = some (.int .i64 upt))) (by kernel_rfl) (HSw.out _ (gb_drew _ _)) (fun _ => ?_)
  refine wpAnyH_take (i := 0) (oi := { dst := some 3, op := Go.Op.load 54 (Go.Operand.tmp 1), type := 54, pos := "window.go:75", after := #[], guard := none }) (v := ?v27k) rfl (by kernel_rfl) (by kernel_rfl) (by kernel_rfl) (fun _ _ _ h => h) (Or.inl ⟨by rfl, ?y27k⟩) (HSw.out _ (gb_drew _ _)) ?r27k
  case y27k => intro wq hSw; obtain ⟨s1, s2, s3⟩ := hSw; go_simp; try with_reducible rfl
  case' r27k => skip
  try simp only [Act.put, List.setIfInBounds_toArray, List.set_cons_zero, List.set_cons_succ]
  refine wpAnyH_take (i := 2) (oi := { dst := some 5, op := Go.Op.load 54 (Go.Operand.tmp 1), type := 54, pos := "window.go:75", after := #[], guard := none }) (v := ?v28k) rfl (by kernel_rfl) (by kernel_rfl) (by kernel_rfl) (fun _ _ _ h => h) (Or.inl ⟨by rfl, ?y28k⟩) (HSw.out _ (gb_drew _ _)) ?r28k
  case y28k => intro wq hSw; obtain ⟨s1, s2, s3⟩ := hSw; go_simp; try with_reducible rfl
  case' r28k => skip
  try simp only [Act.put, List.setIfInBounds_toArray, List.set_cons_zero, List.set_cons_succ]
  refine wpAnyH_ready (rs := [1]) (by kernel_rfl) (by simp) ?_
  refine AllReadyH.cons (o := { dst := some 4, op := Go.Op.call { callee := Go.Callee.value (Go.Operand.func 48), args := #[Go.Operand.tmp 3], argTypes := #[54] }, type := 22, pos := "window.go:75", after := #[{ on := 0, ground := Go.Ground.data }], guard := none }) rfl (fun K hK => ?_) AllReadyH.nil
  go_simp
  refine (HSu.out _ (gb_drew _ _)).mono ?_; rintro e ws13 ⟨s13, rfl, hs13⟩
  refine hK.out _ _ (HSw.out _ hs13.out.1) (fun _ => ?_)
  clear hK
  try simp only [Act.put, List.setIfInBounds_toArray, List.set_cons_zero, List.set_cons_succ]
  refine wpAnyH_ready (rs := [3]) (by kernel_rfl) (by simp) ?_
  refine AllReadyH.cons (o := { dst := some 6, op := Go.Op.call { callee := Go.Callee.value (Go.Operand.func 52), args := #[Go.Operand.tmp 5], argTypes := #[54] }, type := 22, pos := "window.go:75", after := #[{ on := 2, ground := Go.Ground.data }, { on := 1, ground := Go.Ground.chain }], guard := none }) rfl (fun K hK => ?_) AllReadyH.nil
  go_simp
  refine (HCo.out _ hs13.out.1).mono ?_; rintro e wt14 ⟨t14, rfl, ht14⟩
  refine hK.out _ _ (HSw.out _ ht14.out.1) (fun _ => ?_)
  clear hK
  try simp only [Act.put, List.setIfInBounds_toArray, List.set_cons_zero, List.set_cons_succ]
  refine wpAnyH_ready (rs := [4]) (by kernel_rfl) (by simp) ?_
  refine AllReadyH.cons (o := { dst := some 7, op := Go.Op.binOp Go.BinOp.quo 22 (Go.Operand.tmp 4) (Go.Operand.tmp 6) 22, type := 22, pos := "window.go:75", after := #[{ on := 1, ground := Go.Ground.data }, { on := 3, ground := Go.Ground.data }], guard := none }) rfl (fun K hK => ?_) AllReadyH.nil
  go_simp
  refine hK.out _ _ (HSw.out _ (gb_none ht14.out.1 (fwor_gb _ _ _ _))) (fun _ => ?_)
  clear hK
  try simp only [Act.put, List.setIfInBounds_toArray, List.set_cons_zero, List.set_cons_succ]
  refine wpAnyH_ready (rs := [5]) (by kernel_rfl) (by simp) ?_
  refine AllReadyH.cons (o := { dst := some 2, op := Go.Op.assign (Go.Operand.tmp 7), type := 22, pos := "window.go:75", after := #[{ on := 4, ground := Go.Ground.data }, { on := 3, ground := Go.Ground.chain }, { on := 0, ground := Go.Ground.phase }, { on := 1, ground := Go.Ground.phase }, { on := 2, ground := Go.Ground.phase }, { on := 3, ground := Go.Ground.phase }, { on := 4, ground := Go.Ground.phase }], guard := none }) rfl (fun K hK => ?_) AllReadyH.nil
  go_simp
  refine hK.out _ _ (HSw.out _ (gb_none ht14.out.1 (fwor_gb _ _ _ _))) (fun _ => ?_)
  clear hK
  try simp only [Act.put, List.setIfInBounds_toArray, List.set_cons_zero, List.set_cons_succ]
  refine wpAnyH_done (by kernel_rfl) ?_ _
  obtain ⟨z, hz⟩ : ∃ z, (fres wt14 .quo s13 t14) = z := ⟨_, rfl⟩
  obtain ⟨W9, hW9⟩ : ∃ W9, (fwor wt14 .quo s13 t14) = W9 := ⟨_, rfl⟩
  rw [hz, hW9]
  have hcz : cz z = DR := by rw [← hz, cz_fres _ (.inr (.inr (.inr rfl))), hs13.out.2, ht14.out.2]; exact HAv.out
  have hg9 : w4.grownBy W9 none := by rw [← hW9]; exact (gb_none ht14.out.1 (fwor_gb _ _ _ _))
  have HZx1 := hidJ hcz
  have HGx1 := hidJ (gb_none HG4.out hg9)
  clear hz hW9 hcz hg9
  go_wp2
  go_ret
  exact ⟨_, rfl, HZx1.out, HGx1.out⟩
/-! ### the last two -/
def lst (l : List SmpT) : SmpT := l.getD (l.length - 1) smZ
def bfr (l : List SmpT) : SmpT := l.getD (l.length - 2) smZ
set_option maxRecDepth 8000 in
set_option maxHeartbeats 6400000 in
theorem lastTwo_any (w : World) (a : Option Addr) (c : Nat) (l : List SmpT) (frm upt : Int) (hv : RdP w (.slice a l.length c) l) (hl : 2 ≤ l.length) :
    Calls Try.prog 82 #[.agg #[.slice a l.length c, .int .i64 frm, .int .i64 upt]] w fun e w' => e = .returned (.tuple #[smV (lst l), smV (bfr l)]) ∧ w.grownBy w' none := by
  have hcm : l.length ≤ c ∧ c ≤ 9223372036854775807 := by
    obtain ⟨a', c', e, h1, h2, -⟩ := hv
    simp only [Value.slice.injEq] at e
    obtain ⟨-, -, rfl⟩ := e
    unfold maxLen at h2
    exact ⟨h1, h2⟩
  obtain ⟨hc1, hc2⟩ := hcm
  obtain ⟨b, o, rfl, -⟩ : ∃ b o, a = some ⟨b, o, none⟩ ∧ True := by
    obtain ⟨a', c', e, -, -, h3⟩ := hv
    obtain ⟨b, o, e1, -⟩ := h3 0 (by omega)
    simp only [Value.slice.injEq] at e
    exact ⟨b, o, e.1.trans e1, trivial⟩
  have HE : ∀ j, j < l.length → b < w.heap.size ∧ w.cell? ⟨b, o + j * 2, none⟩ = some (.int .i64 (l.getD j smZ).1) ∧ w.cell? ⟨b, o + j * 2 + 1, none⟩ = some (.float .f64 (l.getD j smZ).2) := fun j hj => by
    obtain ⟨a', c', e, -, -, h3⟩ := hv
    obtain ⟨b', o', e1, d0, d1⟩ := h3 j hj
    simp only [Value.slice.injEq] at e
    obtain ⟨h1, -⟩ := e
    rw [e1] at h1
    simp only [Option.some.injEq, Addr.mk.injEq, and_true] at h1
    obtain ⟨rfl, rfl⟩ := h1
    exact ⟨block_lt d0, d0, d1⟩
  obtain ⟨hbl, x0, x1⟩ := HE (l.length - 1) (by omega)
  obtain ⟨-, y0, y1⟩ := HE (l.length - 2) (by omega)
  unfold smV lst bfr
  generalize (l.getD (l.length - 1) smZ).1 = ta at *
  generalize (l.getD (l.length - 1) smZ).2 = fa at *
  generalize (l.getD (l.length - 2) smZ).1 = tb at *
  generalize (l.getD (l.length - 2) smZ).2 = fb at *
  clear HE hv
  obtain ⟨z, hz⟩ : ∃ z, l.length = z + 1 := ⟨l.length - 1, by omega⟩
  obtain ⟨p, hp⟩ : ∃ p, z = p + 1 := ⟨z - 1, by omega⟩
  rw [hz] at x0 x1 y0 y1 hc1 ⊢
  rw [Nat.add_sub_cancel] at x0 x1
  rw [show z + 1 - 2 = p by omega] at y0 y1
  have hwy : IntKind.i64.wrap (((z : Int) + 1) - 2) = (p : Int) := by rw [IntKind.wrap_i64]; omega
  have hwy2 : IntKind.i64.wrap ((z : Int) - 1) = (p : Int) := by rw [IntKind.wrap_i64]; omega
  have hq5 : p < z + 1 := by omega
  have hq6 : (p : Int) < (z : Int) + 1 := by omega
  have hq7 : ¬ z + 1 ≤ p := by omega
  clear hz hl hp
  have hwz : IntKind.i64.wrap (((z : Int) + 1) - 1) = (z : Int) := by rw [IntKind.wrap_i64]; omega
  have hwz2 : IntKind.i64.wrap (z : Int) = (z : Int) := by rw [IntKind.wrap_i64]; omega
  have hq1 : z < z + 1 := by omega
  have hq3 : (z : Int) < (z : Int) + 1 := by omega
  have hq4 : ¬ z + 1 ≤ z := by omega
  have hq2 : 0 < z + 1 := by omega
  have hsf := store_float
  -- the three new blocks
  obtain ⟨C1, hC1⟩ : ∃ C1 : Obj, C1 = .cells #[.slice (some ⟨b, o, none⟩) (z + 1) c, .int .i64 frm, .int .i64 upt] 54 := ⟨_, rfl⟩
  obtain ⟨C2, hC2⟩ : ∃ C2 : Obj, C2 = .cells #[.int .i64 0, .float .f64 0] 33 := ⟨_, rfl⟩
  obtain ⟨W1, hW1⟩ : ∃ W1, ((w.alloc C1).alloc C2).alloc C2 = W1 := ⟨_, rfl⟩
  have g1 := alloc_gb w C1
  have g2 := alloc_gb (w.alloc C1) C2
  have g3 := alloc_gb ((w.alloc C1).alloc C2) C2
  have b1 := Go.heap_alloc_new w C1
  have b2 := Go.heap_alloc_new (w.alloc C1) C2
  have b3 := Go.heap_alloc_new ((w.alloc C1).alloc C2) C2
  rw [World.size_alloc] at b2
  rw [World.size_alloc, World.size_alloc] at b3
  have b2' := (g3.block _ (some_lt b2) (by simp)).trans b2
  have b1' := ((gb_none g2 g3).block _ (some_lt b1) (by simp)).trans b1
  have hg : w.grownBy W1 none := by rw [← hW1]; exact gb_none g1 (gb_none g2 g3)
  rw [hW1] at b1' b2' b3
  have p0 : W1.cell? ⟨w.heap.size, 0, none⟩ = some (.slice (some ⟨b, o, none⟩) (z + 1) c) := by rw [World.cell?, b1', hC1]; rfl
  have p1 : W1.cell? ⟨w.heap.size + 1, 0, none⟩ = some (.int .i64 0) := by rw [World.cell?, b2', hC2]; rfl
  have p2 : W1.cell? ⟨w.heap.size + 1, 1, none⟩ = some (.float .f64 0) := by rw [World.cell?, b2', hC2]; rfl
  have p3 : W1.cell? ⟨w.heap.size + 1 + 1, 0, none⟩ = some (.int .i64 0) := by rw [World.cell?, b3, hC2]; rfl
  have p4 : W1.cell? ⟨w.heap.size + 1 + 1, 1, none⟩ = some (.float .f64 0) := by rw [World.cell?, b3, hC2]; rfl
  have f2 : ∀ j, W1.frozen? ⟨w.heap.size + 1, j, none⟩ = false := fun j => by rw [hC2] at b2'; simp [World.frozen?, b2']
  have f3 : ∀ j, W1.frozen? ⟨w.heap.size + 1 + 1, j, none⟩ = false := fun j => by rw [hC2] at b3; simp [World.frozen?, b3]
  have kc : ∀ {o u}, w.cell? ⟨b, o, none⟩ = some u → W1.cell? ⟨b, o, none⟩ = some u := fun h => World.grownBy.cell hg h (by simp)
  have x0 := kc x0
  have x1 := kc x1
  have y0 := kc y0
  have y1 := kc y1
  have f20 := f2 0
  have f21 := f2 1
  have f30 := f3 0
  have f31 := f3 1
  have HG := hidJ hg
  have HB := hidJ (And.intro b2' b3)
  clear g1 g2 g3 b1 b2 b3 b1' b2' f2 f3 kc hg
  subst hC1 hC2
  go_enter Try.func82, Try.ntmps82
  go_wp2
  clear hW1
  have n1 : ¬ w.heap.size + 1 = w.heap.size + 1 + 1 := by omega
  have n2 : ¬ w.heap.size + 1 + 1 = w.heap.size + 1 := by omega
  have n3 : ¬ b = w.heap.size + 1 := by omega
  have n4 : ¬ b = w.heap.size + 1 + 1 := by omega
  have n5 : ¬ w.heap.size = w.heap.size + 1 := by omega
  have n6 : ¬ w.heap.size = w.heap.size + 1 + 1 := by omega
  have n7 : ¬ w.heap.size + 1 = b := by omega
  have n8 : ¬ w.heap.size + 1 + 1 = b := by omega
  have n9 : ¬ w.heap.size + 1 = w.heap.size := by omega
  have n10 : ¬ w.heap.size + 1 + 1 = w.heap.size := by omega
  have HN : Hid ((∀ Wa Wb, w.grownBy Wa none → Wa.grownBy Wb (some (w.heap.size + 1)) → w.grownBy Wb none) ∧ ∀ Wa Wb, w.grownBy Wa none → Wa.grownBy Wb (some (w.heap.size + 1 + 1)) → w.grownBy Wb none) :=
    ⟨fun Wa Wb h1 h2 => gb_new h1 h2 (fun k hk => by cases hk; omega), fun Wa Wb h1 h2 => gb_new h1 h2 (fun k hk => by cases hk; omega)⟩
  generalize w.heap.size + 1 + 1 = B2 at *
  generalize w.heap.size + 1 = B1 at *
  generalize w.heap.size = B0 at *
  go_region_held3 (fun w' => w'.cell? ⟨B0, 0, none⟩ = some (.slice (some ⟨b, o, none⟩) (z + 1) c) ∧ w'.cell? ⟨b, o + z * 2, none⟩ = some (.int .i64 ta) ∧ w'.cell? ⟨b, o + z * 2 + 1, none⟩ = some (.float .f64 fa) ∧ w'.cell? ⟨b, o + p * 2, none⟩ = some (.int .i64 tb) ∧ w'.cell? ⟨b, o + p * 2 + 1, none⟩ = some (.float .f64 fb)) (go_keep) (fail)
  have h1 := heap_set (o := 0) (.int .i64 ta) HB.out.1
  have h2 := heap_set (o := 1) (.float .f64 fa) h1
  have s1 := set2_gb W1 B1 0 (.int .i64 ta) (.float .f64 fa)
  have k2 := (s1.block B2 (some_lt HB.out.2) (by simpa using n2)).trans HB.out.2
  have h3 := heap_set (o := 0) (.int .i64 tb) k2
  have h4 := heap_set (o := 1) (.float .f64 fb) h3
  have s2 := set2_gb (set2 W1 B1 0 (.int .i64 ta) (.float .f64 fa)) B2 0 (.int .i64 tb) (.float .f64 fb)
  have h5 := (s2.block B1 (some_lt h2) (by simpa using n1)).trans h2
  have hfin : w.grownBy (set2 (set2 W1 B1 0 (.int .i64 ta) (.float .f64 fa)) B2 0 (.int .i64 tb) (.float .f64 fb)).drew none := gb_none (HN.out.2 _ _ (HN.out.1 _ _ HG.out s1) s2) (gb_drew _ _)
  have HFin := hidJ hfin
  have h4' : (set2 (set2 W1 B1 0 (.int .i64 ta) (.float .f64 fa)) B2 0 (.int .i64 tb) (.float .f64 fb)).drew.heap[B2]? = some (.cells #[.int .i64 tb, .float .f64 fb] 33 (0, 0)) := h4
  have h5' : (set2 (set2 W1 B1 0 (.int .i64 ta) (.float .f64 fa)) B2 0 (.int .i64 tb) (.float .f64 fb)).drew.heap[B1]? = some (.cells #[.int .i64 ta, .float .f64 fa] 33 (0, 0)) := h5
  change Exit.then _ _ _ _ (set2 (set2 W1 B1 0 (.int .i64 ta) (.float .f64 fa)) B2 0 (.int .i64 tb) (.float .f64 fb)).drew
  generalize (set2 (set2 W1 B1 0 (.int .i64 ta) (.float .f64 fa)) B2 0 (.int .i64 tb) (.float .f64 fb)).drew = W5 at *
  have d0 : W5.cell? ⟨B1, 0, none⟩ = some (.int .i64 ta) := by rw [World.cell?, h5']; rfl
  have d1 : W5.cell? ⟨B1, 1, none⟩ = some (.float .f64 fa) := by rw [World.cell?, h5']; rfl
  have d2 : W5.cell? ⟨B2, 0, none⟩ = some (.int .i64 tb) := by rw [World.cell?, h4']; rfl
  have d3 : W5.cell? ⟨B2, 1, none⟩ = some (.float .f64 fb) := by rw [World.cell?, h4']; rfl
  clear h1 h2 s1 k2 h3 h4 s2 h5 hfin h4' h5' HG HB HN p0 p1 p2 p3 p4 x0 x1 y0 y1 f20 f21 f30 f31
  go_wp2
  refine bodyPost_ret (v := .tuple #[.agg #[.int .i64 ta, .float .f64 fa], .agg #[.int .i64 tb, .float .f64 fb]]) ?_ rfl ?_
  · simp [results, Try.f82, go_sem, d0, d1, d2, d3]
  · exact ⟨rfl, HFin.out⟩

end Go.Proofs.Ytgpednikianneaa
