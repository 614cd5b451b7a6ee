/-
  Nks, Nkt, Nku, in one text.
-/
import Derived.Test.YtpglhdnepmcahaaGreatDoorNkH
import Derived.Test.YtpglhdnepmcahaaGreatDoorNkI
import Derived.Test.YtpglhdnepmcahaaGreatDoorNkB
import Derived.Test.YtpglhdnepmcahaaGreatDoorNkD
/- Nks -/
namespace Go.Proofs.YtpglhdnepmcahaaGreatDoor
open Go.RowKit Go.Shelf Go.Sort

/-- behind the project's Find -/
def FdW (w0 W : World) (gx gr : Nat) (v1 v2 : Value) (l1 l2 : List MkX) (bo : Nat) (kd nw nn : Int) (m : MkR) (f s : Value) (g : MkR) (u3 u4 : Value) : Prop := ∃ lo hi, PlA w0 W gx gr v1 v2 l1 l2 lo hi ∧ RgL W lo hi u3 g.fir ∧ RdLL W u4 g.res ∧ opB W bo kd nw nn m f s
theorem FdW.keep {w0 W W' : World} {gx gr : Nat} {v1 v2 : Value} {l1 l2 : List MkX} {bo : Nat} {kd nw nn : Int} {m : MkR} {f s : Value} {g : MkR} {u3 u4 : Value} (h : FdW w0 W gx gr v1 v2 l1 l2 bo kd nw nn m f s g u3 u4) (hg : W.grownBy W' none) : FdW w0 W' gx gr v1 v2 l1 l2 bo kd nw nn m f s g u3 u4 := by
  obtain ⟨lo, hi, h1, h2, h3, h4⟩ := h
  exact ⟨lo, hi, h1.keep hg, h2.keep hg, h3.keep hg, B8.keep h4 hg⟩

set_option maxRecDepth 8000 in
set_option maxHeartbeats 12800000 in
theorem step1_any (w0 W : World) (gx gr : Nat) (v1 v2 : Value) (l1 l2 : List MkX) (nw nn : Int) (m : MkR) (f s : Value) (h : PlD w0 W gx gr v1 v2 l1 l2) (hs : SamM l1 l2) (hm : RdM w0 m f s) (lf : LLs m.fir) (ls : LLs m.res) :
    Calls Tryz.prog 7 #[.pointer (some ⟨gx, 0, none⟩), .pointer (some ⟨gr, 0, none⟩), .agg #[.int .i64 1, .string (ByteArray.mk ⟨m.rcv⟩), .string (ByteArray.mk ⟨m.key⟩), .int .i64 m.tim, f, s, .int .i64 nw, .int .i64 nn]] W fun e w' => e = .returned (.bool true) ∧ Stp w0 w' gx gr := by
  obtain ⟨fa, fc, ef, -⟩ := hm.fir.shape
  obtain ⟨sa, sc, es, -⟩ := hm.res.shape
  subst ef es
  have HMk := hidJ (stepMark_any w0 W gx gr v1 v2 l1 l2 1 nw nn m _ _ h hm lf ls)
  obtain ⟨g, hg⟩ : ∃ g, g = (getM l1 (m.rcv, m.key)).1 := ⟨_, rfl⟩
  obtain ⟨hb, hhb⟩ : ∃ hb, hb = hasM l1 (m.rcv, m.key) := ⟨_, rfl⟩
  have hg2 : (getM l2 (m.rcv, m.key)).1 = g := by rw [← hs.get]; exact hg.symm
  have hb2 : hasM l2 (m.rcv, m.key) = hb := by rw [← hs.has]; exact hhb.symm
  have HFi : Hid (∀ W lo mid hi bo bm u1 u2, StM w0 W gx gr v1 v2 l1 l2 lo mid hi bo bm 1 nw nn m (.slice fa m.fir.length fc) (.slice sa m.res.length sc) u1 u2 → Calls Tryz.prog 21 #[.pointer (some ⟨gx, 0, none⟩), .string (ByteArray.mk ⟨m.rcv⟩), .string (ByteArray.mk ⟨m.key⟩)] W fun e w' => ∃ a3 n3 c3 a4 n4 c4, e = .returned (.tuple #[.agg #[.string (ByteArray.mk ⟨g.rcv⟩), .string (ByteArray.mk ⟨g.key⟩), .int .i64 g.tim, .slice a3 n3 c3, .slice a4 n4 c4], .bool hb]) ∧ Hid (FdW w0 w' gx gr v1 v2 l1 l2 bo 1 nw nn m (.slice fa m.fir.length fc) (.slice sa m.res.length sc) g (.slice a3 n3 c3) (.slice a4 n4 c4))) := fun W lo mid hi bo bm u1 u2 hW =>
    (findX_any W gx l1 (m.rcv, m.key) hW.pl.d.a.lg).mono fun e w' q => by
      obtain ⟨a3, n3, c3, a4, n4, c4, q1, q2, q3, q4⟩ := q
      rw [← hg, ← hhb] at q1
      rw [← hg] at q2 q3
      exact ⟨a3, n3, c3, a4, n4, c4, q1, _, w'.heap.size, (hW.pl.d.apart _).keep q4, q2.rg, q3.rd, B8.keep hW.ob q4⟩
  have HRf : Hid (∀ W bo u3 u4, FdW w0 W gx gr v1 v2 l1 l2 bo 1 nw nn m (.slice fa m.fir.length fc) (.slice sa m.res.length sc) g u3 u4 → Calls Tryz.prog 22 #[.pointer (some ⟨gr, 0, none⟩), .string (ByteArray.mk ⟨m.rcv⟩), .string (ByteArray.mk ⟨m.key⟩)] W fun e w' => ∃ a5 n5 c5 a6 n6 c6, e = .returned (.tuple #[.agg #[.string (ByteArray.mk ⟨g.rcv⟩), .string (ByteArray.mk ⟨g.key⟩), .int .i64 g.tim, .slice a5 n5 c5, .slice a6 n6 c6], .bool hb]) ∧ Hid (RdLL w' (.slice a5 n5 c5) g.fir ∧ RdLL w' (.slice a6 n6 c6) g.res ∧ W.grownBy w' none)) := fun W bo u3 u4 ⟨lo, hi, h1, _, _, _⟩ =>
    (refFindX_any W gr v2 l2 (m.rcv, m.key) h1.d.b).mono fun e w' q => by
      obtain ⟨a5, c5, a6, c6, q1, q2, q3, q4⟩ := q
      have hr := (h1.d.b.got (m.rcv, m.key)).keep q4
      rw [q1, q2, hg2] at hr
      rw [hg2, hb2] at q3
      exact ⟨a5, _, c5, a6, _, c6, q3, hr.fir, hr.res, q4⟩
  have HSa : Hid (∀ W u3 u4 u5 u6, RdLL W u3 g.fir → RdLL W u4 g.res → RdLL W u5 g.fir → RdLL W u6 g.res → Calls Tryz.prog 19 #[markV g u3 u4, markV g u5 u6] W fun e w' => e = .returned (.bool true) ∧ Hid (W.grownBy w' none)) := fun W u3 u4 u5 u6 h1 h2 h3 h4 => sameM_refl W g _ _ _ _ h1 h2 h3 h4
  have HSp : Hid (∀ W bo u3 u4, FdW w0 W gx gr v1 v2 l1 l2 bo 1 nw nn m (.slice fa m.fir.length fc) (.slice sa m.res.length sc) g u3 u4 → Calls Tryz.prog 20 #[u3] W fun e w' => e = .returned (.tuple #[]) ∧ Hid (Stp w0 w' gx gr)) := fun W bo u3 u4 ⟨lo, hi, h1, h2, _, _⟩ =>
    (spoilR_any lo hi W _ _ h2).mono fun e w' ⟨q1, q2⟩ => ⟨q1, v1, v2, l1, l2, (h1.out q2 (fun k hk => hk)).d, hs⟩
  have HC0 : Hid (∀ W lo mid hi bo bm u1 u2, StM w0 W gx gr v1 v2 l1 l2 lo mid hi bo bm 1 nw nn m (.slice fa m.fir.length fc) (.slice sa m.res.length sc) u1 u2 → W.cell? ⟨bo, 0, none⟩ = some (.int .i64 1) ∧ W.cell? ⟨bm, 0, none⟩ = some (.string (ByteArray.mk ⟨m.rcv⟩)) ∧ W.cell? ⟨bm, 1, none⟩ = some (.string (ByteArray.mk ⟨m.key⟩))) := fun W lo mid hi bo bm u1 u2 hW => ⟨hW.ob.cells.1, hW.mb.cells.1, hW.mb.cells.2.1⟩
  have HC1 : Hid (∀ W bo u3 u4, FdW w0 W gx gr v1 v2 l1 l2 bo 1 nw nn m (.slice fa m.fir.length fc) (.slice sa m.res.length sc) g u3 u4 → W.cell? ⟨bo, 1, none⟩ = some (.string (ByteArray.mk ⟨m.rcv⟩)) ∧ W.cell? ⟨bo, 2, none⟩ = some (.string (ByteArray.mk ⟨m.key⟩))) := fun W bo u3 u4 ⟨lo, hi, _, _, _, h4⟩ => ⟨h4.cells.2.1, h4.cells.2.2.1⟩
  clear h hs hm lf ls hg hhb hg2 hb2
  unfold markV at HMk HSa
  generalize m.fir.length = nf at *
  generalize m.res.length = ns at *
  generalize ByteArray.mk ⟨m.rcv⟩ = br at *
  generalize ByteArray.mk ⟨m.key⟩ = bk at *
  generalize ByteArray.mk ⟨g.rcv⟩ = gr' at *
  generalize ByteArray.mk ⟨g.key⟩ = gk at *
  generalize g.tim = gt at *
  go_enter Tryz.func7, Tryz.ntmps7
  go_wp2_with fail
  refine HMk.out.mono ?_
  rintro e w1 ⟨a1, n1, c1, a2, n2, c2, rfl, ⟨lo, mid, hSt⟩⟩
  have HSt := hidJ hSt
  obtain ⟨c0, x0, x1⟩ := HC0.out _ _ _ _ _ _ _ _ hSt
  clear hSt HMk HC0
  generalize W.heap.size = bo at *
  have qx : (hb == hb) = true := by simp
  go_wp2_with fail
  refine (HFi.out _ _ _ _ _ _ _ _ HSt.out).mono ?_
  rintro e w2 ⟨a3, n3, c3, a4, n4, c4, rfl, H2⟩
  clear HFi HSt c0 x0 x1
  have k2 := World.grownBy_alloc w2 (.cells #[.string gr', .string gk, .int .i64 gt, .slice a3 n3 c3, .slice a4 n4 c4] 34) none
  have HF2 := hidJ (And.intro (H2.out.keep k2) (B5.new w2 34 (.string gr') (.string gk) (.int .i64 gt) (.slice a3 n3 c3) (.slice a4 n4 c4)))
  obtain ⟨y1, y2⟩ := HC1.out _ _ _ _ HF2.out.1
  clear k2 H2 HC1
  go_wp2_with fail
  refine (HRf.out _ _ _ _ HF2.out.1).mono ?_
  rintro e w3 ⟨a5, n5, c5, a6, n6, c6, rfl, H3⟩
  clear HRf y1 y2
  have k3 := World.grownBy_alloc w3 (.cells #[.string gr', .string gk, .int .i64 gt, .slice a5 n5 c5, .slice a6 n6 c6] 34) none
  have HF3 := hidJ (And.intro ((HF2.out.1.keep H3.out.2.2).keep k3) (And.intro ((HF2.out.2.keep H3.out.2.2).keep k3) (And.intro (B5.new w3 34 (.string gr') (.string gk) (.int .i64 gt) (.slice a5 n5 c5) (.slice a6 n6 c6)) (And.intro (H3.out.1.keep k3) (H3.out.2.1.keep k3)))))
  clear k3 H3 HF2
  obtain ⟨d0, d1, d2, d3, d4⟩ := HF3.out.2.1.cells
  obtain ⟨e0, e1, e2, e3, e4⟩ := HF3.out.2.2.1.cells
  generalize w2.heap.size = ba at *
  have HR3 : Hid (RdLL (w3.alloc (.cells #[.string gr', .string gk, .int .i64 gt, .slice a5 n5 c5, .slice a6 n6 c6] 34)) (.slice a3 n3 c3) g.fir ∧ RdLL (w3.alloc (.cells #[.string gr', .string gk, .int .i64 gt, .slice a5 n5 c5, .slice a6 n6 c6] 34)) (.slice a4 n4 c4) g.res) := by
    obtain ⟨lo, hi, q1, q2, q3, q4⟩ := HF3.out.1
    exact ⟨q2.ll.rd, q3⟩
  go_wp2_with fail
  refine (HSa.out _ _ _ _ _ HR3.out.1 HR3.out.2 HF3.out.2.2.2.1 HF3.out.2.2.2.2).mono ?_
  rintro e w4 ⟨rfl, g4⟩
  have HF4 := hidJ (And.intro (HF3.out.1.keep g4.out) (HF3.out.2.1.keep g4.out))
  clear HSa HR3 HF3 d0 d1 d2 d3 d4 e0 e1 e2 e3 e4 g4
  have d3 := HF4.out.2.cells.2.2.2.1
  go_wp2_with fail
  refine (HSp.out _ _ _ _ HF4.out.1).mono ?_
  rintro e w5 ⟨rfl, H5⟩
  clear HSp HF4 d3
  go_wp2
  go_ret
  exact ⟨rfl, H5.out⟩
end Go.Proofs.YtpglhdnepmcahaaGreatDoor

/- Nkt -/
namespace Go.Proofs.YtpglhdnepmcahaaGreatDoor
open Go.RowKit Go.Shelf Go.Sort

set_option maxRecDepth 8000 in
set_option maxHeartbeats 12800000 in
theorem step2_any (w0 W : World) (gx gr : Nat) (v1 v2 : Value) (l1 l2 : List MkX) (nw nn : Int) (m : MkR) (f s : Value) (h : PlD w0 W gx gr v1 v2 l1 l2) (hs : SamM l1 l2) (hm : RdM w0 m f s) (lf : LLs m.fir) (ls : LLs m.res) (hT : U8S w0) :
    Calls Tryz.prog 7 #[.pointer (some ⟨gx, 0, none⟩), .pointer (some ⟨gr, 0, none⟩), .agg #[.int .i64 2, .string (ByteArray.mk ⟨m.rcv⟩), .string (ByteArray.mk ⟨m.key⟩), .int .i64 m.tim, f, s, .int .i64 nw, .int .i64 nn]] W fun e w' => e = .returned (.bool true) ∧ Stp w0 w' gx gr := by
  obtain ⟨fa, fc, ef, -⟩ := hm.fir.shape
  obtain ⟨sa, sc, es, -⟩ := hm.res.shape
  subst ef es
  have HMk := hidJ (stepMark_any w0 W gx gr v1 v2 l1 l2 2 nw nn m _ _ h hm lf ls)
  obtain ⟨t, ht⟩ : ∃ t, t = needsM (getM l1 (m.rcv, m.key)).1 (hasM l1 (m.rcv, m.key)) nw nn m.fir m.res := ⟨_, rfl⟩
  have ht2 : needsM (getM l2 (m.rcv, m.key)).1 (hasM l2 (m.rcv, m.key)) nw nn m.fir m.res = t := by rw [← hs.get, ← hs.has]; exact ht.symm
  have HN1 : Hid (∀ W lo mid hi bo bm u1 u2, StM w0 W gx gr v1 v2 l1 l2 lo mid hi bo bm 2 nw nn m (.slice fa m.fir.length fc) (.slice sa m.res.length sc) u1 u2 → Calls Tryz.prog 15 #[.pointer (some ⟨gx, 0, none⟩), .string (ByteArray.mk ⟨m.rcv⟩), .string (ByteArray.mk ⟨m.key⟩), .int .i64 nw, .int .i64 nn, u1, u2] W fun e w' => e = .returned (.tuple #[.bool t.1, .int .i64 t.2]) ∧ Hid (StM w0 w' gx gr v1 v2 l1 l2 lo mid hi bo bm 2 nw nn m (.slice fa m.fir.length fc) (.slice sa m.res.length sc) u1 u2)) := fun W lo mid hi bo bm u1 u2 hW => by
    have hr := hW.rd hm
    refine (logNeeds_any W gx l1 m.rcv m.key u1 u2 nw nn m.fir m.res hW.pl.d.a.lg hr.fir hr.res hr.inF hr.inR (hT.keep hW.pl.d.gb)).mono fun e w' ⟨q1, q2⟩ => ⟨?_, hW.keep q2⟩
    rw [q1, ← ht]
  have HN2 : Hid (∀ W lo mid hi bo bm u1 u2, StM w0 W gx gr v1 v2 l1 l2 lo mid hi bo bm 2 nw nn m (.slice fa m.fir.length fc) (.slice sa m.res.length sc) u1 u2 → Calls Tryz.prog 23 #[.pointer (some ⟨gr, 0, none⟩), .string (ByteArray.mk ⟨m.rcv⟩), .string (ByteArray.mk ⟨m.key⟩), .int .i64 nw, .int .i64 nn, .slice fa m.fir.length fc, .slice sa m.res.length sc] W fun e w' => e = .returned (.tuple #[.bool t.1, .int .i64 t.2]) ∧ Hid (StM w0 w' gx gr v1 v2 l1 l2 lo mid hi bo bm 2 nw nn m (.slice fa m.fir.length fc) (.slice sa m.res.length sc) u1 u2)) := fun W lo mid hi bo bm u1 u2 hW => by
    have hr := hm.keep hW.pl.d.gb
    refine (refNeedsX_any W gr v2 l2 (m.rcv, m.key) nw nn _ _ m.fir m.res hW.pl.d.b hr.fir hr.res hr.inF hr.inR).mono fun e w' ⟨q1, q2⟩ => ⟨?_, hW.keep q2⟩
    rw [q1, ht2]
  have HC0 : Hid (∀ W lo mid hi bo bm a1 n1 c1 a2 n2 c2, StM w0 W gx gr v1 v2 l1 l2 lo mid hi bo bm 2 nw nn m (.slice fa m.fir.length fc) (.slice sa m.res.length sc) (.slice a1 n1 c1) (.slice a2 n2 c2) → W.cell? ⟨bo, 0, none⟩ = some (.int .i64 2) ∧ W.cell? ⟨bo, 6, none⟩ = some (.int .i64 nw) ∧ W.cell? ⟨bo, 7, none⟩ = some (.int .i64 nn) ∧ StC W bo bm (ByteArray.mk ⟨m.rcv⟩) (ByteArray.mk ⟨m.key⟩) m.tim fa m.fir.length fc sa m.res.length sc a1 n1 c1 a2 n2 c2) := fun W lo mid hi bo bm a1 n1 c1 a2 n2 c2 hW => ⟨hW.ob.cells.1, hW.ob.cells.2.2.2.2.2.2.1, hW.ob.cells.2.2.2.2.2.2.2, hW.cells⟩
  have HE : Hid (∀ W lo mid hi bo bm u1 u2, StM w0 W gx gr v1 v2 l1 l2 lo mid hi bo bm 2 nw nn m (.slice fa m.fir.length fc) (.slice sa m.res.length sc) u1 u2 → Stp w0 W gx gr) := fun W lo mid hi bo bm u1 u2 hW => ⟨v1, v2, l1, l2, hW.pl.d, hs⟩
  clear h hs hm lf ls hT ht ht2
  unfold markV at HMk
  unfold StC at HC0
  generalize m.fir.length = nf at *
  generalize m.res.length = ns at *
  generalize ByteArray.mk ⟨m.rcv⟩ = br at *
  generalize ByteArray.mk ⟨m.key⟩ = bk at *
  generalize m.tim = tm at *
  obtain ⟨tb, te⟩ := t
  dsimp only at HN1 HN2
  go_enter Tryz.func7, Tryz.ntmps7
  go_wp2_with fail
  refine HMk.out.mono ?_
  rintro e w1 ⟨a1, n1, c1, a2, n2, c2, rfl, ⟨lo, mid, hSt⟩⟩
  have HSt := hidJ hSt
  obtain ⟨c0, c6, c7, x0, x1, x2, x3, x4, y1, y2, y3, y4, y5⟩ := HC0.out _ _ _ _ _ _ _ _ _ _ _ _ hSt
  clear hSt HMk
  generalize W.heap.size = bo at *
  have qx : (tb == tb) = true := by simp
  have qy : (te == te) = true := by simp
  go_wp2_with fail
  refine (HN1.out _ _ _ _ _ _ _ _ HSt.out).mono ?_
  rintro e w2 ⟨rfl, H2⟩
  clear HN1 HSt c0 c6 c7 x0 x1 x2 x3 x4 y1 y2 y3 y4 y5
  obtain ⟨c0, c6, c7, x0, x1, x2, x3, x4, y1, y2, y3, y4, y5⟩ := HC0.out _ _ _ _ _ _ _ _ _ _ _ _ H2.out
  clear HC0
  go_wp2_with fail
  refine (HN2.out _ _ _ _ _ _ _ _ H2.out).mono ?_
  rintro e w3 ⟨rfl, H3⟩
  have HF := hidJ (HE.out _ _ _ _ _ _ _ _ H3.out)
  clear HN2 HE H3 H2 c0 c6 c7 x0 x1 x2 x3 x4 y1 y2 y3 y4 y5
  go_wp2
  go_ret
  exact ⟨rfl, HF.out⟩

set_option maxRecDepth 8000 in
set_option maxHeartbeats 12800000 in
theorem stepN_any (w0 W : World) (gx gr : Nat) (v1 v2 : Value) (l1 l2 : List MkX) (kd nw nn : Int) (m : MkR) (f s : Value) (h : PlD w0 W gx gr v1 v2 l1 l2) (hs : SamM l1 l2) (hm : RdM w0 m f s) (lf : LLs m.fir) (ls : LLs m.res) (h0 : (kd == 0) = false) (h1 : (kd == 1) = false) (h2 : (kd == 2) = false) (h3 : (kd == 3) = false) :
    Calls Tryz.prog 7 #[.pointer (some ⟨gx, 0, none⟩), .pointer (some ⟨gr, 0, none⟩), .agg #[.int .i64 kd, .string (ByteArray.mk ⟨m.rcv⟩), .string (ByteArray.mk ⟨m.key⟩), .int .i64 m.tim, f, s, .int .i64 nw, .int .i64 nn]] W fun e w' => e = .returned (.bool true) ∧ Stp w0 w' gx gr := by
  obtain ⟨fa, fc, ef, -⟩ := hm.fir.shape
  obtain ⟨sa, sc, es, -⟩ := hm.res.shape
  subst ef es
  have HMk := hidJ (stepMark_any w0 W gx gr v1 v2 l1 l2 kd nw nn m _ _ h hm lf ls)
  have HC0 : Hid (∀ W lo mid hi bo bm u1 u2, StM w0 W gx gr v1 v2 l1 l2 lo mid hi bo bm kd nw nn m (.slice fa m.fir.length fc) (.slice sa m.res.length sc) u1 u2 → W.cell? ⟨bo, 0, none⟩ = some (.int .i64 kd) ∧ Hid (Stp w0 W gx gr)) := fun W lo mid hi bo bm u1 u2 hW => ⟨hW.ob.cells.1, v1, v2, l1, l2, hW.pl.d, hs⟩
  clear h hs hm lf ls
  unfold markV at HMk
  generalize m.fir.length = nf at *
  generalize m.res.length = ns at *
  generalize ByteArray.mk ⟨m.rcv⟩ = br at *
  generalize ByteArray.mk ⟨m.key⟩ = bk at *
  generalize m.tim = tm at *
  go_enter Tryz.func7, Tryz.ntmps7
  go_wp2_with fail
  refine HMk.out.mono ?_
  rintro e w1 ⟨a1, n1, c1, a2, n2, c2, rfl, ⟨lo, mid, hSt⟩⟩
  obtain ⟨c0, HF⟩ := HC0.out _ _ _ _ _ _ _ _ hSt
  clear hSt HMk HC0
  generalize W.heap.size = bo at *
  go_wp2
  go_ret
  exact ⟨rfl, HF.out⟩
end Go.Proofs.YtpglhdnepmcahaaGreatDoor

/- Nku -/
namespace Go.Proofs.YtpglhdnepmcahaaGreatDoor
open Go.RowKit Go.Shelf Go.Sort

set_option maxRecDepth 8000 in
set_option maxHeartbeats 12800000 in
theorem step3_any (w0 W : World) (gx gr : Nat) (v1 v2 : Value) (l1 l2 : List MkX) (nw nn : Int) (m : MkR) (f s : Value) (h : PlD w0 W gx gr v1 v2 l1 l2) (hs : SamM l1 l2) (hm : RdM w0 m f s) (lf : LLs m.fir) (ls : LLs m.res) :
    Calls Tryz.prog 7 #[.pointer (some ⟨gx, 0, none⟩), .pointer (some ⟨gr, 0, none⟩), .agg #[.int .i64 3, .string (ByteArray.mk ⟨m.rcv⟩), .string (ByteArray.mk ⟨m.key⟩), .int .i64 m.tim, f, s, .int .i64 nw, .int .i64 nn]] W fun e w' => e = .returned (.bool true) ∧ Stp w0 w' gx gr := by
  obtain ⟨fa, fc, ef, -⟩ := hm.fir.shape
  obtain ⟨sa, sc, es, -⟩ := hm.res.shape
  subst ef es
  have HMk := hidJ (stepMark_any w0 W gx gr v1 v2 l1 l2 3 nw nn m _ _ h hm lf ls)
  obtain ⟨x, hx⟩ : ∃ x : Int, x = if swpB nw nn = true then (l1.length : Int) - ((swpM l1 (nw - nn)).length : Int) else 0 := ⟨_, rfl⟩
  obtain ⟨y, hy⟩ : ∃ y : Int, y = if swpB nw nn = true then 0 else 1 := ⟨_, rfl⟩
  have hx2 : x = if swpB nw nn = true then (l2.length : Int) - ((swpM l2 (nw - nn)).length : Int) else 0 := by rw [hx, hs.len, (hs.swp _).len]
  have HS1 : Hid (∀ W lo mid hi bo bm u1 u2, StM w0 W gx gr v1 v2 l1 l2 lo mid hi bo bm 3 nw nn m (.slice fa m.fir.length fc) (.slice sa m.res.length sc) u1 u2 → Calls Tryz.prog 24 #[.pointer (some ⟨gx, 0, none⟩), .int .i64 nw, .int .i64 nn] W fun e w' => e = .returned (.tuple #[.int .i64 x, .int .i64 y]) ∧ w'.cell? ⟨bo, 6, none⟩ = some (.int .i64 nw) ∧ w'.cell? ⟨bo, 7, none⟩ = some (.int .i64 nn) ∧ Hid (∃ v1' l1', PlD w0 w' gx gr v1' v2 l1' l2 ∧ l1' = if swpB nw nn = true then swpM l1 (nw - nn) else l1)) := fun W lo mid hi bo bm u1 u2 hW =>
    (sweepX_any W gx v1 l1 nw nn hW.pl.d.a).mono fun e w' q => by
      rcases q with ⟨b, q1, q2⟩ | ⟨b, q1, v', q2, q3⟩
      · rw [if_neg (by simp [b])] at hx hy
        have hb := hW.ob.keep q2
        exact ⟨by rw [q1, hx, hy], hb.cells.2.2.2.2.2.2.1, hb.cells.2.2.2.2.2.2.2, v1, l1, hW.pl.d.keep q2, by rw [if_neg (by simp [b])]⟩
      · rw [if_pos b] at hx hy
        have hb := hW.ob.ch q3.1 (fun e => (hW.no _ (.inl e)).1 rfl)
        exact ⟨by rw [q1, hx, hy], hb.cells.2.2.2.2.2.2.1, hb.cells.2.2.2.2.2.2.2, v', _, hW.pl.d.putA q2 q3, by rw [if_pos b]⟩
  have HS2 : Hid (∀ W, (∃ v1' l1', PlD w0 W gx gr v1' v2 l1' l2 ∧ l1' = if swpB nw nn = true then swpM l1 (nw - nn) else l1) → Calls Tryz.prog 25 #[.pointer (some ⟨gr, 0, none⟩), .int .i64 nw, .int .i64 nn] W fun e w' => e = .returned (.tuple #[.int .i64 x, .int .i64 y]) ∧ Hid (Stp w0 w' gx gr)) := fun W ⟨v1', l1', hW, hl⟩ =>
    (refSweepX_any W gr v2 l2 nw nn hW.b).mono fun e w' q => by
      rcases q with ⟨b, q1, q2⟩ | ⟨b, q1, v', q2, q3⟩
      · rw [if_neg (by simp [b])] at hx2 hy hl
        subst hl
        exact ⟨by rw [q1, hx2, hy], v1', v2, l1', l2, hW.keep q2, hs⟩
      · rw [if_pos b] at hx2 hy hl
        subst hl
        exact ⟨by rw [q1, hx2, hy], v1', v', _, _, hW.putB q2 q3, hs.swp _⟩
  have HC0 : Hid (∀ W lo mid hi bo bm u1 u2, StM w0 W gx gr v1 v2 l1 l2 lo mid hi bo bm 3 nw nn m (.slice fa m.fir.length fc) (.slice sa m.res.length sc) u1 u2 → W.cell? ⟨bo, 0, none⟩ = some (.int .i64 3) ∧ W.cell? ⟨bo, 6, none⟩ = some (.int .i64 nw) ∧ W.cell? ⟨bo, 7, none⟩ = some (.int .i64 nn)) := fun W lo mid hi bo bm u1 u2 hW => ⟨hW.ob.cells.1, hW.ob.cells.2.2.2.2.2.2.1, hW.ob.cells.2.2.2.2.2.2.2⟩
  clear h hs hm lf ls hx hy hx2
  unfold markV at HMk
  generalize m.fir.length = nf at *
  generalize m.res.length = ns at *
  generalize ByteArray.mk ⟨m.rcv⟩ = br at *
  generalize ByteArray.mk ⟨m.key⟩ = bk at *
  generalize m.tim = tm at *
  go_enter Tryz.func7, Tryz.ntmps7
  go_wp2_with fail
  refine HMk.out.mono ?_
  rintro e w1 ⟨a1, n1, c1, a2, n2, c2, rfl, ⟨lo, mid, hSt⟩⟩
  have HSt := hidJ hSt
  obtain ⟨c0, c6, c7⟩ := HC0.out _ _ _ _ _ _ _ _ hSt
  clear hSt HMk HC0
  generalize W.heap.size = bo at *
  have qx : (x == x) = true := by simp
  have qy : (y == y) = true := by simp
  go_wp2_with fail
  refine (HS1.out _ _ _ _ _ _ _ _ HSt.out).mono ?_
  rintro e w2 ⟨rfl, d6, d7, H2⟩
  clear HS1 HSt c0 c6 c7
  obtain ⟨u1, u2, H2⟩ := H2
  go_wp2_with fail
  refine (HS2.out _ ⟨u1, u2, H2⟩).mono ?_
  rintro e w3 ⟨rfl, H3⟩
  clear HS2 H2 d6 d7
  go_wp2
  go_ret
  exact ⟨rfl, H3.out⟩
end Go.Proofs.YtpglhdnepmcahaaGreatDoor
