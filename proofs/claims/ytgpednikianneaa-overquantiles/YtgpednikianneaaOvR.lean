/-
  A window's ends, and how long ahead of the first sample it begins.
-/
import Derived.Test.YtgpednikianneaaOvQ
namespace Go.Proofs.Ytgpednikianneaa
open Go.RowKit
attribute [local go_sem] fwor_cell fwor_frozen fwor_size

def smV (x : SmpT) : Value := .agg #[.int .i64 x.1, .float .f64 x.2]
set_option maxRecDepth 8000 in
set_option maxHeartbeats 6400000 in
theorem ends_any (w : World) (a : Option Addr) (c : Nat) (l : List SmpT) (frm upt : Int) (hv : RdP w (.slice a l.length c) l) (hl : 1 ≤ l.length) :
    Calls Try.prog 76 #[.agg #[.slice a l.length c, .int .i64 frm, .int .i64 upt]] w fun e w' => e = .returned (.tuple #[smV (l.getD 0 smZ), smV (l.getD (l.length - 1) smZ)]) ∧ w.grownBy w' none := by
  have hcm : l.length ≤ c ∧ c ≤ 9223372036854775807 := by
    obtain ⟨a', c', e, h1, h2, -⟩ := hv
    simp only [Value.slice.injEq] at e
    obtain ⟨-, -, rfl⟩ := e
    unfold maxLen at h2
    exact ⟨h1, h2⟩
  obtain ⟨hc1, hc2⟩ := hcm
  obtain ⟨b, o, rfl, -⟩ : ∃ b o, a = some ⟨b, o, none⟩ ∧ True := by
    obtain ⟨a', c', e, -, -, h3⟩ := hv
    obtain ⟨b, o, e1, -⟩ := h3 0 (by omega)
    simp only [Value.slice.injEq] at e
    exact ⟨b, o, e.1.trans e1, trivial⟩
  have HE : ∀ j, j < l.length → b < w.heap.size ∧ w.cell? ⟨b, o + j * 2, none⟩ = some (.int .i64 (l.getD j smZ).1) ∧ w.cell? ⟨b, o + j * 2 + 1, none⟩ = some (.float .f64 (l.getD j smZ).2) := fun j hj => by
    obtain ⟨a', c', e, -, -, h3⟩ := hv
    obtain ⟨b', o', e1, d0, d1⟩ := h3 j hj
    simp only [Value.slice.injEq] at e
    obtain ⟨h1, -⟩ := e
    rw [e1] at h1
    simp only [Option.some.injEq, Addr.mk.injEq, and_true] at h1
    obtain ⟨rfl, rfl⟩ := h1
    exact ⟨block_lt d0, d0, d1⟩
  obtain ⟨hbl, x0, x1⟩ := HE 0 (by omega)
  obtain ⟨-, y0, y1⟩ := HE (l.length - 1) (by omega)
  rw [show o + 0 * 2 = o by omega] at x0 x1
  unfold smV
  generalize (l.getD 0 smZ).1 = ta at *
  generalize (l.getD 0 smZ).2 = fa at *
  generalize (l.getD (l.length - 1) smZ).1 = tb at *
  generalize (l.getD (l.length - 1) smZ).2 = fb at *
  clear HE hv
  obtain ⟨z, hz⟩ : ∃ z, l.length = z + 1 := ⟨l.length - 1, by omega⟩
  rw [hz] at y0 y1 hc1 ⊢
  rw [Nat.add_sub_cancel] at y0 y1
  clear hz hl
  have hwz : IntKind.i64.wrap (((z : Int) + 1) - 1) = (z : Int) := by rw [IntKind.wrap_i64]; omega
  have hwz2 : IntKind.i64.wrap (z : Int) = (z : Int) := by rw [IntKind.wrap_i64]; omega
  have hq1 : z < z + 1 := by omega
  have hq3 : (z : Int) < (z : Int) + 1 := by omega
  have hq4 : ¬ z + 1 ≤ z := by omega
  have hq2 : 0 < z + 1 := by omega
  have hsf := store_float
  -- the three new blocks
  obtain ⟨C1, hC1⟩ : ∃ C1 : Obj, C1 = .cells #[.slice (some ⟨b, o, none⟩) (z + 1) c, .int .i64 frm, .int .i64 upt] 54 := ⟨_, rfl⟩
  obtain ⟨C2, hC2⟩ : ∃ C2 : Obj, C2 = .cells #[.int .i64 0, .float .f64 0] 33 := ⟨_, rfl⟩
  obtain ⟨W1, hW1⟩ : ∃ W1, ((w.alloc C1).alloc C2).alloc C2 = W1 := ⟨_, rfl⟩
  have g1 := alloc_gb w C1
  have g2 := alloc_gb (w.alloc C1) C2
  have g3 := alloc_gb ((w.alloc C1).alloc C2) C2
  have b1 := Go.heap_alloc_new w C1
  have b2 := Go.heap_alloc_new (w.alloc C1) C2
  have b3 := Go.heap_alloc_new ((w.alloc C1).alloc C2) C2
  rw [World.size_alloc] at b2
  rw [World.size_alloc, World.size_alloc] at b3
  have b2' := (g3.block _ (some_lt b2) (by simp)).trans b2
  have b1' := ((gb_none g2 g3).block _ (some_lt b1) (by simp)).trans b1
  have hg : w.grownBy W1 none := by rw [← hW1]; exact gb_none g1 (gb_none g2 g3)
  rw [hW1] at b1' b2' b3
  have p0 : W1.cell? ⟨w.heap.size, 0, none⟩ = some (.slice (some ⟨b, o, none⟩) (z + 1) c) := by rw [World.cell?, b1', hC1]; rfl
  have p1 : W1.cell? ⟨w.heap.size + 1, 0, none⟩ = some (.int .i64 0) := by rw [World.cell?, b2', hC2]; rfl
  have p2 : W1.cell? ⟨w.heap.size + 1, 1, none⟩ = some (.float .f64 0) := by rw [World.cell?, b2', hC2]; rfl
  have p3 : W1.cell? ⟨w.heap.size + 1 + 1, 0, none⟩ = some (.int .i64 0) := by rw [World.cell?, b3, hC2]; rfl
  have p4 : W1.cell? ⟨w.heap.size + 1 + 1, 1, none⟩ = some (.float .f64 0) := by rw [World.cell?, b3, hC2]; rfl
  have f2 : ∀ j, W1.frozen? ⟨w.heap.size + 1, j, none⟩ = false := fun j => by rw [hC2] at b2'; simp [World.frozen?, b2']
  have f3 : ∀ j, W1.frozen? ⟨w.heap.size + 1 + 1, j, none⟩ = false := fun j => by rw [hC2] at b3; simp [World.frozen?, b3]
  have kc : ∀ {o u}, w.cell? ⟨b, o, none⟩ = some u → W1.cell? ⟨b, o, none⟩ = some u := fun h => World.grownBy.cell hg h (by simp)
  have x0 := kc x0
  have x1 := kc x1
  have y0 := kc y0
  have y1 := kc y1
  have f20 := f2 0
  have f21 := f2 1
  have f30 := f3 0
  have f31 := f3 1
  have HG := hidJ hg
  have HB := hidJ (And.intro b2' b3)
  clear g1 g2 g3 b1 b2 b3 b1' b2' f2 f3 kc hg
  subst hC1 hC2
  go_enter Try.func76, Try.ntmps76
  go_wp2
  clear hW1
  have n1 : ¬ w.heap.size + 1 = w.heap.size + 1 + 1 := by omega
  have n2 : ¬ w.heap.size + 1 + 1 = w.heap.size + 1 := by omega
  have n3 : ¬ b = w.heap.size + 1 := by omega
  have n4 : ¬ b = w.heap.size + 1 + 1 := by omega
  have n5 : ¬ w.heap.size = w.heap.size + 1 := by omega
  have n6 : ¬ w.heap.size = w.heap.size + 1 + 1 := by omega
  have n7 : ¬ w.heap.size + 1 = b := by omega
  have n8 : ¬ w.heap.size + 1 + 1 = b := by omega
  have n9 : ¬ w.heap.size + 1 = w.heap.size := by omega
  have n10 : ¬ w.heap.size + 1 + 1 = w.heap.size := by omega
  have HN : Hid ((∀ Wa Wb, w.grownBy Wa none → Wa.grownBy Wb (some (w.heap.size + 1)) → w.grownBy Wb none) ∧ ∀ Wa Wb, w.grownBy Wa none → Wa.grownBy Wb (some (w.heap.size + 1 + 1)) → w.grownBy Wb none) :=
    ⟨fun Wa Wb h1 h2 => gb_new h1 h2 (fun k hk => by cases hk; omega), fun Wa Wb h1 h2 => gb_new h1 h2 (fun k hk => by cases hk; omega)⟩
  generalize w.heap.size + 1 + 1 = B2 at *
  generalize w.heap.size + 1 = B1 at *
  generalize w.heap.size = B0 at *
  go_region_held3 (fun w' => w'.cell? ⟨B0, 0, none⟩ = some (.slice (some ⟨b, o, none⟩) (z + 1) c) ∧ w'.cell? ⟨b, o, none⟩ = some (.int .i64 ta) ∧ w'.cell? ⟨b, o + 1, none⟩ = some (.float .f64 fa) ∧ w'.cell? ⟨b, o + z * 2, none⟩ = some (.int .i64 tb) ∧ w'.cell? ⟨b, o + z * 2 + 1, none⟩ = some (.float .f64 fb)) (go_keep) (fail)
  have h1 := heap_set (o := 0) (.int .i64 ta) HB.out.1
  have h2 := heap_set (o := 1) (.float .f64 fa) h1
  have s1 := set2_gb W1 B1 0 (.int .i64 ta) (.float .f64 fa)
  have k2 := (s1.block B2 (some_lt HB.out.2) (by simpa using n2)).trans HB.out.2
  have h3 := heap_set (o := 0) (.int .i64 tb) k2
  have h4 := heap_set (o := 1) (.float .f64 fb) h3
  have s2 := set2_gb (set2 W1 B1 0 (.int .i64 ta) (.float .f64 fa)) B2 0 (.int .i64 tb) (.float .f64 fb)
  have h5 := (s2.block B1 (some_lt h2) (by simpa using n1)).trans h2
  have hfin : w.grownBy (set2 (set2 W1 B1 0 (.int .i64 ta) (.float .f64 fa)) B2 0 (.int .i64 tb) (.float .f64 fb)).drew none := gb_none (HN.out.2 _ _ (HN.out.1 _ _ HG.out s1) s2) (gb_drew _ _)
  have HFin := hidJ hfin
  have h4' : (set2 (set2 W1 B1 0 (.int .i64 ta) (.float .f64 fa)) B2 0 (.int .i64 tb) (.float .f64 fb)).drew.heap[B2]? = some (.cells #[.int .i64 tb, .float .f64 fb] 33 (0, 0)) := h4
  have h5' : (set2 (set2 W1 B1 0 (.int .i64 ta) (.float .f64 fa)) B2 0 (.int .i64 tb) (.float .f64 fb)).drew.heap[B1]? = some (.cells #[.int .i64 ta, .float .f64 fa] 33 (0, 0)) := h5
  change Exit.then _ _ _ _ (set2 (set2 W1 B1 0 (.int .i64 ta) (.float .f64 fa)) B2 0 (.int .i64 tb) (.float .f64 fb)).drew
  generalize (set2 (set2 W1 B1 0 (.int .i64 ta) (.float .f64 fa)) B2 0 (.int .i64 tb) (.float .f64 fb)).drew = W5 at *
  have d0 : W5.cell? ⟨B1, 0, none⟩ = some (.int .i64 ta) := by rw [World.cell?, h5']; rfl
  have d1 : W5.cell? ⟨B1, 1, none⟩ = some (.float .f64 fa) := by rw [World.cell?, h5']; rfl
  have d2 : W5.cell? ⟨B2, 0, none⟩ = some (.int .i64 tb) := by rw [World.cell?, h4']; rfl
  have d3 : W5.cell? ⟨B2, 1, none⟩ = some (.float .f64 fb) := by rw [World.cell?, h4']; rfl
  clear h1 h2 s1 k2 h3 h4 s2 h5 hfin h4' h5' HG HB HN p0 p1 p2 p3 p4 x0 x1 y0 y1 f20 f21 f30 f31
  go_wp2
  refine bodyPost_ret (v := .tuple #[.agg #[.int .i64 ta, .float .f64 fa], .agg #[.int .i64 tb, .float .f64 fb]]) ?_ rfl ?_
  · simp [results, Try.f76, go_sem, d0, d1, d2, d3]
  · exact ⟨rfl, HFin.out⟩
/-- a row that is read: its block, its cells in later worlds -/
theorem RdP.at {w : World} {a : Option Addr} {c : Nat} {l : List SmpT} (hv : RdP w (.slice a l.length c) l) (hl : 1 ≤ l.length) : ∃ b o, a = some ⟨b, o, none⟩ ∧ l.length ≤ c ∧ c ≤ 9223372036854775807 ∧ b < w.heap.size ∧ ∀ j, j < l.length → ∀ wr, w.grownBy wr none → wr.cell? ⟨b, o + j * 2, none⟩ = some (.int .i64 (l.getD j smZ).1) ∧ wr.cell? ⟨b, o + j * 2 + 1, none⟩ = some (.float .f64 (l.getD j smZ).2) := by
  have HV := hv
  obtain ⟨a', c', e, h1, h2, h3⟩ := hv
  simp only [Value.slice.injEq] at e
  obtain ⟨rfl, -, rfl⟩ := e
  obtain ⟨b, o, rfl, d, -⟩ := h3 0 (by omega)
  unfold maxLen at h2
  refine ⟨b, o, rfl, h1, h2, block_lt d, fun j hj wr hg => ?_⟩
  obtain ⟨a', c', e, -, -, h3⟩ := HV.keep hg
  obtain ⟨b', o', e1, d0, d1⟩ := h3 j hj
  simp only [Value.slice.injEq] at e
  obtain ⟨q, -⟩ := e
  rw [e1] at q
  simp only [Option.some.injEq, Addr.mk.injEq, and_true] at q
  obtain ⟨rfl, rfl⟩ := q
  exact ⟨d0, d1⟩
/-- how long ahead of the first sample, the NaN one -/
def ahdC (l : List SmpT) (frm : Int) : Nat := secC (wrap64 ((l.getD 0 smZ).1 - frm))
set_option maxRecDepth 8000 in
set_option maxHeartbeats 6400000 in
theorem ahead_any (w : World) (a : Option Addr) (c : Nat) (l : List SmpT) (frm upt : Int) (hv : RdP w (.slice a l.length c) l) (hl : 1 ≤ l.length) :
    Calls Try.prog 78 #[.agg #[.slice a l.length c, .int .i64 frm, .int .i64 upt]] w fun e w' => ∃ v, e = .returned (.float .f64 v) ∧ cz v = ahdC l frm ∧ w.grownBy w' none := by
  obtain ⟨b, o, rfl, hc1, hc2, hbl, HE⟩ := hv.at hl
  obtain ⟨C, hC⟩ : ∃ C : Obj, C = .cells #[.slice (some ⟨b, o, none⟩) l.length c, .int .i64 frm, .int .i64 upt] 54 := ⟨_, rfl⟩
  have hg := alloc_gb w C
  have hb := Go.heap_alloc_new w C
  have c0 : (w.alloc C).cell? ⟨w.heap.size, 0, none⟩ = some (.slice (some ⟨b, o, none⟩) l.length c) := by rw [World.cell?, hb, hC]; rfl
  have c1 : (w.alloc C).cell? ⟨w.heap.size, 1, none⟩ = some (.int .i64 frm) := by rw [World.cell?, hb, hC]; rfl
  obtain ⟨x0, -⟩ := HE 0 (by omega) (w.alloc C) hg
  rw [show o + 0 * 2 = o by omega] at x0
  have HS : Hid (∀ W, (w.alloc C).grownBy W none → Calls Try.prog 81 #[.int .i64 (wrap64 ((l.getD 0 smZ).1 - frm))] W fun e w' => ∃ v, e = .returned (.float .f64 v) ∧ (w'.cell? ⟨w.heap.size, 0, none⟩ = some (.slice (some ⟨b, o, none⟩) l.length c) ∧ w'.cell? ⟨w.heap.size, 1, none⟩ = some (.int .i64 frm) ∧ w'.cell? ⟨b, o, none⟩ = some (.int .i64 (l.getD 0 smZ).1)) ∧ Hid (cz v = ahdC l frm ∧ w.grownBy w' none)) := fun W hW => by
    refine (seconds_any W _).mono ?_
    rintro e w' ⟨v, h1, h2, h3⟩
    have h4 := gb_none hW h3
    exact ⟨v, h1, ⟨World.grownBy.cell h4 c0 (by simp), World.grownBy.cell h4 c1 (by simp), World.grownBy.cell h4 x0 (by simp)⟩, h2, gb_none hg h4⟩
  have HSa := hidJ (HS.out (w.alloc C) (gb_refl _ _))
  have HSb := hidJ (HS.out (w.alloc C).drew (gb_drew _ _))
  clear HS HE hv hb
  have hw : IntKind.i64.wrap ((l.getD 0 smZ).1 - frm) = wrap64 ((l.getD 0 smZ).1 - frm) := by rw [IntKind.wrap_i64]; unfold wrap64; omega
  obtain ⟨D, hD⟩ : ∃ D, wrap64 ((l.getD 0 smZ).1 - frm) = D := ⟨_, rfl⟩
  rw [hD] at HSa HSb hw
  clear hD
  generalize (l.getD 0 smZ).1 = ta at *
  have hl0 : 0 < l.length := by omega
  generalize l.length = N at *
  subst hC
  go_enter Try.func78, Try.ntmps78
  go_wp2
  generalize w.heap.size = B0 at *
  go_region_held3 (fun w' => w'.cell? ⟨B0, 0, none⟩ = some (.slice (some ⟨b, o, none⟩) N c) ∧ w'.cell? ⟨B0, 1, none⟩ = some (.int .i64 frm) ∧ w'.cell? ⟨b, o, none⟩ = some (.int .i64 ta)) (go_keep)
    (first
      | (go_at_call 81; with_reducible refine HSa.out.mono ?_; rintro e w4 ⟨v, rfl, ⟨k0, k1, k2⟩, HK⟩)
      | (go_at_call 81; with_reducible refine HSb.out.mono ?_; rintro e w4 ⟨v, rfl, ⟨k0, k1, k2⟩, HK⟩))
  go_wp2
  go_ret
  exact ⟨_, rfl, HK.out⟩
end Go.Proofs.Ytgpednikianneaa
