/-
  nflog's copyOf: the walk.
-/
import Derived.Test.YtbnieljkadcaoabGreatDoorNf8
namespace Go.Proofs.YtbnieljkadcaoabGreatDoor
open Go.RowKit Go.Shelf Go.Sort

theorem B5.froz {w : World} {b : Nat} {t : TypeId} {x y z u v : Value} (h : B5 w b t x y z u v) : w.frozen? ⟨b, 0, none⟩ = false ∧ w.frozen? ⟨b, 1, none⟩ = false ∧ w.frozen? ⟨b, 2, none⟩ = false ∧ w.frozen? ⟨b, 3, none⟩ = false ∧ w.frozen? ⟨b, 4, none⟩ = false := by
  unfold B5 at h
  exact ⟨by simp [World.frozen?, h], by simp [World.frozen?, h], by simp [World.frozen?, h], by simp [World.frozen?, h], by simp [World.frozen?, h]⟩
theorem B5.set3 {w : World} {b : Nat} {t : TypeId} {x y z u v : Value} (h : B5 w b t x y z u v) (n : Value) : B5 (w.setCell ⟨b, 3, none⟩ n) b t x y z n v := by
  have h1 := Go.heap_setCell_same w b 3 _ _ n h
  simpa [B5] using h1
theorem B5.set4 {w : World} {b : Nat} {t : TypeId} {x y z u v : Value} (h : B5 w b t x y z u v) (n : Value) : B5 (w.setCell ⟨b, 4, none⟩ n) b t x y z u n := by
  have h1 := Go.heap_setCell_same w b 4 _ _ n h
  simpa [B5] using h1
/-- all five cells written -/
def set5 (W : World) (g : Nat) (x y z u v : Value) : World := ((((W.setCell ⟨g, 0, none⟩ x).setCell ⟨g, 1, none⟩ y).setCell ⟨g, 2, none⟩ z).setCell ⟨g, 3, none⟩ u).setCell ⟨g, 4, none⟩ v
theorem set5_at {W : World} {g : Nat} {t : TypeId} {a b c d e x y z u v : Value} (h : B5 W g t a b c d e) : (set5 W g x y z u v).heap[g]? = some (.cells #[x, y, z, u, v] t (0, 0)) := by
  have h1 := Go.heap_setCell_same W g 0 _ _ x h
  have h2 := Go.heap_setCell_same _ g 1 _ _ y h1
  have h3 := Go.heap_setCell_same _ g 2 _ _ z h2
  have h4 := Go.heap_setCell_same _ g 3 _ _ u h3
  have h5 := Go.heap_setCell_same _ g 4 _ _ v h4
  simpa [set5] using h5
theorem set5_ch (W : World) (g : Nat) (x y z u v : Value) : Ch W (set5 W g x y z u v) (fun k => k = g) :=
  ((((set_ch _ _ _ _).trans (set_ch _ _ _ _) (fun _ _ e => e)).trans (set_ch _ _ _ _) (fun _ _ e => e)).trans (set_ch _ _ _ _) (fun _ _ e => e)).trans (set_ch _ _ _ _) (fun _ _ e => e)
theorem OwnLL.ch {w w' : World} {base : Nat} {v : Value} {lss : List (List LbT)} {S : Nat → Prop} (h : OwnLL w base v lss) (hc : Ch w w' S) (hS : ∀ k, S k → k < base) : OwnLL w' base v lss := by
  obtain ⟨vs, h1, h2, h3⟩ := h
  refine ⟨vs, row_ch h1 hc (fun k hk e => ?_), h2, fun j => row_ch (h3 j) hc (fun k hk e => ?_)⟩
  · have := (h1.lt k hk).1
    have := hS k e
    omega
  · have := ((h3 j).lt k hk).1
    have := hS k e
    omega
theorem OwnLL.shape {w : World} {base : Nat} {v : Value} {lss : List (List LbT)} (h : OwnLL w base v lss) : ∃ a c, v = .slice a lss.length c := by
  obtain ⟨vs, h1, h2, -⟩ := h
  obtain ⟨a, c, e⟩ := h1.shape
  exact ⟨a, c, by rw [e, h2]⟩
/-- short enough to be copied -/
def LLs (lss : List (List LbT)) : Prop := lss.length ≤ 6000000000000 ∧ ∀ j, (lss.getD j []).length ≤ 4398046511104
set_option maxRecDepth 8000 in
set_option maxHeartbeats 6400000 in
theorem copyM_any (w : World) (m : MkR) (f s : Value) (hf : RdLL w f m.fir) (hs : RdLL w s m.res) (lf : LLs m.fir) (ls : LLs m.res) :
    Calls Tryz.prog 32 #[markV m f s] w fun e w' => ∃ f' s', e = .returned (markV m f' s') ∧ OwnLL w' (w.heap.size + 2) f' m.fir ∧ OwnLL w' (w.heap.size + 2) s' m.res ∧ w.grownBy w' none := by
  obtain ⟨br, hbr⟩ : ∃ br, br = ByteArray.mk ⟨m.rcv⟩ := ⟨_, rfl⟩
  obtain ⟨bk, hbk⟩ : ∃ bk, bk = ByteArray.mk ⟨m.key⟩ := ⟨_, rfl⟩
  obtain ⟨tm, htm⟩ : ∃ tm, tm = m.tim := ⟨_, rfl⟩
  have HM : Hid (∀ f s, markV m f s = .agg #[.string br, .string bk, .int .i64 tm, f, s]) := fun f s => by rw [hbr, hbk, htm]; rfl
  rw [HM.out f s]
  clear hbr hbk htm
  obtain ⟨fa, fc, e1, -⟩ := hf.shape
  obtain ⟨sa, sc, e2, -⟩ := hs.shape
  subst e1 e2
  have HV := hidJ (And.intro hf (And.intro hs (And.intro lf ls)))
  clear hf hs lf ls
  generalize m.fir.length = nf at *
  generalize m.res.length = ns at *
  have HC : Hid (Calls Tryz.prog 55 #[.slice fa nf fc] ((w.alloc (.cells #[.string br, .string bk, .int .i64 tm, .slice fa nf fc, .slice sa ns sc] 24)).alloc (.cells #[.string ⟨#[]⟩, .string ⟨#[]⟩, .int .i64 0, .slice none 0 0, .slice none 0 0] 24)) fun e w' => ∃ a' n' c', e = .returned (.slice a' n' c') ∧ Hid (OwnLL w' (w.heap.size + 2) (.slice a' n' c') m.fir ∧ w.grownBy w' none ∧ w.heap.size + 2 ≤ w'.heap.size ∧ B5 w' w.heap.size 24 (.string br) (.string bk) (.int .i64 tm) (.slice fa nf fc) (.slice sa ns sc) ∧ B5 w' (w.heap.size + 1) 24 (.string ⟨#[]⟩) (.string ⟨#[]⟩) (.int .i64 0) (.slice none 0 0) (.slice none 0 0))) := by
    have k1 := World.grownBy_alloc w (.cells #[.string br, .string bk, .int .i64 tm, .slice fa nf fc, .slice sa ns sc] 24) none
    have k2 := World.grownBy_alloc (w.alloc (.cells #[.string br, .string bk, .int .i64 tm, .slice fa nf fc, .slice sa ns sc] 24)) (.cells #[.string ⟨#[]⟩, .string ⟨#[]⟩, .int .i64 0, .slice none 0 0, .slice none 0 0] 24) none
    refine (copySets_any _ _ m.fir (HV.out.1.keep (gb_none k1 k2)) HV.out.2.2.1.1 HV.out.2.2.1.2).mono ?_
    rintro e w' ⟨v', rfl, q1, q2⟩
    obtain ⟨a', c', e'⟩ := q1.shape
    subst e'
    have x0 := ((B5.new w 24 (.string br) (.string bk) (.int .i64 tm) (.slice fa nf fc) (.slice sa ns sc)).keep k2).keep q2
    have x1 := (B5.new (w.alloc (.cells #[.string br, .string bk, .int .i64 tm, .slice fa nf fc, .slice sa ns sc] 24)) 24 (.string ⟨#[]⟩) (.string ⟨#[]⟩) (.int .i64 0) (.slice none 0 0) (.slice none 0 0)).keep q2
    have z2 := q2.size
    rw [World.size_alloc] at x1
    rw [World.size_alloc, World.size_alloc] at q1 z2
    exact ⟨a', _, c', rfl, q1, gb_none (gb_none k1 k2) q2, z2, x0, x1⟩
  go_enter Tryz.func32, Tryz.ntmps32
  go_wp2_with fail
  refine HC.out.mono ?_
  rintro e w1 ⟨a1, n1, c1, rfl, H1⟩
  clear HC
  have hB := H1.out.2.2.2.1
  obtain ⟨-, -, -, b3, b4⟩ := hB.cells
  obtain ⟨-, -, -, f3, -⟩ := hB.froz
  have hch := set_ch w1 w.heap.size 3 (.slice a1 n1 c1)
  have hB2 := hB.set3 (.slice a1 n1 c1)
  have hD2 := H1.out.2.2.2.2.ch hch (by omega)
  have gw := gb_ch H1.out.2.1 hch (fun k e => by omega)
  have hO2 := H1.out.1.ch hch (fun k e => by omega)
  have hz2 : w.heap.size + 2 ≤ (w1.setCell ⟨w.heap.size, 3, none⟩ (.slice a1 n1 c1)).heap.size := by have := H1.out.2.2.1; simpa using this
  have HC : Hid (Calls Tryz.prog 55 #[.slice sa ns sc] (w1.setCell ⟨w.heap.size, 3, none⟩ (.slice a1 n1 c1)) fun e w' => ∃ a' n' c', e = .returned (.slice a' n' c') ∧ Hid (OwnLL w' (w.heap.size + 2) (.slice a' n' c') m.res ∧ OwnLL w' (w.heap.size + 2) (.slice a1 n1 c1) m.fir ∧ w.grownBy w' none ∧ B5 w' w.heap.size 24 (.string br) (.string bk) (.int .i64 tm) (.slice a1 n1 c1) (.slice sa ns sc) ∧ B5 w' (w.heap.size + 1) 24 (.string ⟨#[]⟩) (.string ⟨#[]⟩) (.int .i64 0) (.slice none 0 0) (.slice none 0 0))) := by
    refine (copySets_any _ _ m.res (HV.out.2.1.keep gw) HV.out.2.2.2.1 HV.out.2.2.2.2).mono ?_
    rintro e w' ⟨v', rfl, q1, q2⟩
    obtain ⟨a', c', e'⟩ := q1.shape
    subst e'
    exact ⟨a', _, c', rfl, q1.mono hz2, hO2.keep q2, gb_none gw q2, hB2.keep q2, hD2.keep q2⟩
  clear hB hch hB2 hD2 gw hO2 hz2
  go_wp2_with fail
  refine HC.out.mono ?_
  rintro e w2 ⟨a2, n2, c2, rfl, H2⟩
  clear HC b3 b4 f3
  obtain ⟨d0, d1, d2, d3, d4⟩ := H2.out.2.2.2.1.cells
  obtain ⟨f0, f1, f2, f3, f4⟩ := H2.out.2.2.2.1.froz
  obtain ⟨i0, i1, i2, i3, i4⟩ := H2.out.2.2.2.2.cells
  obtain ⟨j0, j1, j2, j3, j4⟩ := H2.out.2.2.2.2.froz
  go_wp2
  have HB : Hid (B5 (w2.setCell ⟨w.heap.size, 4, none⟩ (.slice a2 n2 c2)) (w.heap.size + 1) 24 (.string ⟨#[]⟩) (.string ⟨#[]⟩) (.int .i64 0) (.slice none 0 0) (.slice none 0 0)) := H2.out.2.2.2.2.ch (set_ch _ _ _ _) (by omega)
  refine bodyPost_ret (results_cell_row rfl _ _ (w.heap.size + 1) _ _ _ _ rfl (set5_at HB.out) Tryz.underlying24 rfl (by kernel_rfl)) rfl ?_
  have k1 := set_ch w2 w.heap.size 4 (.slice a2 n2 c2)
  have k2 := set5_ch (w2.setCell ⟨w.heap.size, 4, none⟩ (.slice a2 n2 c2)) (w.heap.size + 1) (.string br) (.string bk) (.int .i64 tm) (.slice a1 n1 c1) (.slice a2 n2 c2)
  refine ⟨.slice a1 n1 c1, .slice a2 n2 c2, by rw [HM.out], (H2.out.2.1.ch k1 (fun k e => by omega)).ch k2 (fun k e => by omega), (H2.out.1.ch k1 (fun k e => by omega)).ch k2 (fun k e => by omega), gb_ch (gb_ch H2.out.2.2.1 k1 (fun k e => by omega)) k2 (fun k e => by omega)⟩
end Go.Proofs.YtbnieljkadcaoabGreatDoor
