/-
  Nk5, Nkq, Nkr, in one text.
-/
import Derived.Test.YtpglhdnepmcahaaGreatDoorNk4
import Derived.Test.YtpglhdnepmcahaaGreatDoorHmC
import Derived.Test.YtpglhdnepmcahaaGreatDoorNkG
import Derived.Test.YtpglhdnepmcahaaGreatDoorNkD
/- Nk5 -/
namespace Go.Proofs.YtpglhdnepmcahaaGreatDoor
open Go.RowKit Go.Shelf Go.Sort

theorem RPut.pre {w w1 w2 : World} {gr : Nat} {v : Value} {l : List MkX} {m : MkR} (h : RPut w1 gr v l m w2) (hg : w.grownBy w1 none) : RPut w gr v l m w2 := by
  obtain ⟨f', s', v', p, h1, h2, h3, h4, h5⟩ := h
  exact ⟨f', s', v', p, h1, h2, h3.pre hg, h4.mono hg.size, h5.mono hg.size⟩
/-- what the document's Put leaves -/
def RPutQ (w : World) (gr : Nat) (v : Value) (l : List MkX) (m : MkR) (e : Ending) (w' : World) : Prop :=
  e = .returned (.int .i64 (putR l m)) ∧ (putR l m ≠ 0 → w.grownBy w' none) ∧ (putR l m = 0 → RPut w gr v l m w')
set_option maxRecDepth 8000 in
set_option maxHeartbeats 12800000 in
theorem refPutQ_any (w : World) (gr : Nat) (v : Value) (l : List MkX) (m : MkR) (f s : Value) (h : RefX w gr v l) (hl : l.length < 1000) (hm : RdM w m f s) :
    Calls Tryz.prog 18 #[.pointer (some ⟨gr, 0, none⟩), markV m f s] w fun e w' => RPutQ w gr v l m e w' := by
  obtain ⟨fa, fc, ef, -⟩ := hm.fir.shape
  obtain ⟨sa, sc, es, -⟩ := hm.res.shape
  subst ef es
  obtain ⟨va, vc, ev, hvc⟩ := h.row.shape
  subst ev
  have HRi : Hid (∀ W, w.grownBy W none → Calls Tryz.prog 47 #[markV m (.slice fa m.fir.length fc) (.slice sa m.res.length sc)] W fun e w' => e = .returned (.int .i64 (rightM m)) ∧ W.grownBy w' none) := fun W hW => refRightM_any W m _ _ (hm.keep hW)
  obtain ⟨P, hP⟩ : ∃ P, P = posI l (m.rcv, m.key) := ⟨_, rfl⟩
  have HFd : Hid (∀ W, w.grownBy W none → Calls Tryz.prog 49 #[.pointer (some ⟨gr, 0, none⟩), .string (ByteArray.mk ⟨m.rcv⟩), .string (ByteArray.mk ⟨m.key⟩)] W fun e w' => e = .returned (.int .i64 P) ∧ W.grownBy w' none) := fun W hW => by
    rw [hP]
    exact refPos_any W gr _ l (m.rcv, m.key) (h.keep hW)
  have HPt : Hid (rightM m = 0 → oldM l m = false → fullM l (m.rcv, m.key) = false → ∀ W, w.grownBy W none → Calls Tryz.prog 14 #[.pointer (some ⟨gr, 0, none⟩), markV m (.slice fa m.fir.length fc) (.slice sa m.res.length sc)] W fun e w' => e = .returned (.tuple #[]) ∧ Hid (RPutQ w gr (.slice va l.length vc) l m (.returned (.int .i64 0)) w')) := fun hR ho hf W hW => by
    refine (refPutX_any W gr _ l m _ _ (h.keep hW) (hm.keep hW) hR hl).mono ?_
    rintro e w' ⟨rfl, q⟩
    have hr : putR l m = 0 := by
      unfold putR
      rw [if_neg (by simp [hR]), if_neg (by simp [ho]), if_neg (by simp [hf])]
    refine ⟨rfl, ?_, fun e => absurd hr e, fun _ => q.pre hW⟩
    rw [hr]
  have HQ0 : Hid (∀ w', rightM m ≠ 0 → w.grownBy w' none → RPutQ w gr (.slice va l.length vc) l m (.returned (.int .i64 (rightM m))) w') := fun w' h1 h2 => by
    unfold RPutQ putR
    rw [if_pos h1]
    exact ⟨rfl, fun _ => h2, fun e => absurd e h1⟩
  have HQ1 : Hid (∀ w', rightM m = 0 → oldM l m = true → w.grownBy w' none → RPutQ w gr (.slice va l.length vc) l m (.returned (.int .i64 90)) w') := fun w' h1 h2 h3 => by
    unfold RPutQ putR
    rw [if_neg (by simp [h1]), if_pos h2]
    exact ⟨rfl, fun _ => h3, fun e => by omega⟩
  have HQ2 : Hid (∀ w', rightM m = 0 → oldM l m = false → fullM l (m.rcv, m.key) = true → w.grownBy w' none → RPutQ w gr (.slice va l.length vc) l m (.returned (.int .i64 8)) w') := fun w' h1 h2 h3 h4 => by
    unfold RPutQ putR
    rw [if_neg (by simp [h1]), if_neg (by simp [h2]), if_pos h3]
    exact ⟨rfl, fun _ => h4, fun e => by omega⟩
  -- where it is there
  have HHs : Hid (hasM l (m.rcv, m.key) = true → ∃ p g : Nat, P = (p : Int) ∧ p < l.length ∧ va = some ⟨g, 0, none⟩ ∧ (∀ W, w.grownBy W none → W.cell? ⟨g, p * 5 + 2, none⟩ = some (.int .i64 (getM l (m.rcv, m.key)).1.tim)) ∧ oldM l m = decide (m.tim < (getM l (m.rcv, m.key)).1.tim) ∧ fullM l (m.rcv, m.key) = false) := fun hb => by
    obtain ⟨p, e1, e2, e3⟩ := pos_at h.ris hb
    obtain ⟨-, e4⟩ := has_key h.ris e3 hb
    obtain ⟨g, c, e0, -⟩ := h.row.cells e2
    simp only [Value.slice.injEq] at e0
    refine ⟨p, g, by rw [hP]; exact e1, e2, e0.1, fun W hW => ?_, by unfold oldM; rw [hb]; simp, by unfold fullM; rw [hb]; rfl⟩
    obtain ⟨g', c', e0', -, -, -, d2, -⟩ := (h.row.keep hW).cells e2
    simp only [Value.slice.injEq] at e0'
    have : g' = g := by
      have := e0'.1.symm.trans e0.1
      simpa using this
    rw [this] at d2
    rw [AtE.get h.ris e2 e4]
    exact d2
  have HNs : Hid (hasM l (m.rcv, m.key) = false → P = -1 ∧ oldM l m = false ∧ fullM l (m.rcv, m.key) = decide (500 ≤ l.length)) := fun hb => by
    refine ⟨?_, by unfold oldM; rw [hb]; rfl, by unfold fullM; rw [hb]; simp⟩
    rw [hP]
    unfold posI
    rw [if_neg (by simp [hb])]
  have HBx := hidJ h
  obtain ⟨RQ, hRQ⟩ : ∃ RQ : Ending → World → Prop, RQ = RPutQ w gr (.slice va l.length vc) l m := ⟨_, rfl⟩
  rw [← hRQ] at HPt HQ0 HQ1 HQ2
  rw [show (fun e w' => RPutQ w gr (.slice va l.length vc) l m e w') = (fun e w' => RQ e w') from by rw [hRQ]]
  clear hRQ h hm hP
  have HB := hidJ (And.intro (B5.new w 34 (.string (ByteArray.mk ⟨m.rcv⟩)) (.string (ByteArray.mk ⟨m.key⟩)) (.int .i64 m.tim) (.slice fa m.fir.length fc) (.slice sa m.res.length sc)) (World.grownBy_alloc w (.cells #[.string (ByteArray.mk ⟨m.rcv⟩), .string (ByteArray.mk ⟨m.key⟩), .int .i64 m.tim, .slice fa m.fir.length fc, .slice sa m.res.length sc] 34) none))
  unfold markV at HRi HPt
  unfold markV
  obtain ⟨HS, hHS⟩ : ∃ HS : Bool, HS = hasM l (m.rcv, m.key) := ⟨_, rfl⟩
  rw [← hHS] at HHs HNs
  clear hHS
  generalize oldM l m = OM at *
  generalize fullM l (m.rcv, m.key) = FM at *
  generalize (getM l (m.rcv, m.key)).1.tim = gt at *
  generalize ByteArray.mk ⟨m.rcv⟩ = br at *
  generalize ByteArray.mk ⟨m.key⟩ = bk at *
  generalize m.tim = tm at *
  generalize m.fir.length = nf at *
  generalize m.res.length = ns at *
  obtain ⟨R, hR⟩ : ∃ R, R = rightM m := ⟨_, rfl⟩
  rw [← hR] at HRi HPt HQ0 HQ1 HQ2
  clear hR
  go_enter Tryz.func18, Tryz.ntmps18
  go_wp2_with fail
  refine (HRi.out _ HB.out.2).mono ?_
  rintro e w1 ⟨rfl, q1⟩
  have H1 := hidJ (And.intro (HB.out.1.keep q1) (gb_none HB.out.2 q1))
  clear HB q1 HRi
  by_cases h0 : R = 0
  case neg =>
    have h0b : (R == 0) = false := by rw [beq_eq_false_iff_ne]; exact h0
    have HF := hidJ (HQ0.out w1 h0 H1.out.2)
    go_wp2
    exact HF.out
  subst h0
  obtain ⟨c0, c1, -, -, -⟩ := H1.out.1.cells
  go_wp2_with fail
  clear c0 c1
  refine (HFd.out _ H1.out.2).mono ?_
  rintro e w2 ⟨rfl, q1⟩
  have H2 := hidJ (And.intro (H1.out.1.keep q1) (gb_none H1.out.2 q1))
  clear H1 q1 HFd HQ0
  obtain ⟨i0, i1, i2, i3, i4⟩ := H2.out.1.cells
  have g0 := (HBx.out.keep H2.out.2).box.cell
  have HGn : Hid (∀ n, w.grownBy (w2.drewN n) none) := fun n => gb_none H2.out.2 (Gw.drewN _ _).gb
  have HGd : Hid (w.grownBy w2.drew none) := gb_none H2.out.2 (gb_drew _ none)
  cases HS
  · obtain ⟨rfl, rfl, hFM⟩ := HNs.out (by first | rfl | trivial)
    clear HHs HNs HBx HQ1
    by_cases h5 : 500 ≤ l.length
    · have h5i : (500 : Int) ≤ (l.length : Int) := by omega
      rw [decide_eq_true h5] at hFM
      have HF := hidJ (fun w' => HQ2.out w' (by first | rfl | trivial) (by first | rfl | trivial) hFM)
      clear HQ2 HPt hFM
      generalize l.length = n at *
      go_wp2
      go_quiet (fail)
      go_wp2
      exact HF.out _ (by first | exact HGd.out | exact HGn.out _)
    · have h5i : ¬ (500 : Int) ≤ (l.length : Int) := by omega
      rw [decide_eq_false h5] at hFM
      have HP2 := hidJ (HPt.out (by first | rfl | trivial) (by first | rfl | trivial) hFM)
      clear HQ2 HPt hFM
      generalize l.length = n at *
      go_wp2
      go_quiet (fail)
      go_wp2_with fail
      refine (HP2.out _ (by first | exact HGd.out | exact HGn.out _)).mono ?_
      rintro e w3 ⟨rfl, H3⟩
      go_wp2
      exact H3.out
  · obtain ⟨p, g, rfl, hpl, rfl, hcl, hOM, hFM⟩ := HHs.out (by first | rfl | trivial)
    have d2 := hcl _ H2.out.2
    have hpi : (p : Int) < (l.length : Int) := by omega
    clear HHs HNs HBx HQ2 hcl
    by_cases h9 : tm < gt
    · rw [decide_eq_true h9] at hOM
      have HF := hidJ (fun w' => HQ1.out w' (by first | rfl | trivial) hOM)
      clear HQ1 HPt hOM hFM
      generalize l.length = n at *
      go_wp2
      go_quiet (fail)
      go_wp2
      exact HF.out _ (by first | exact HGd.out | exact HGn.out _)
    · rw [decide_eq_false h9] at hOM
      have HP2 := hidJ (HPt.out (by first | rfl | trivial) hOM hFM)
      clear HQ1 HPt hOM hFM
      generalize l.length = n at *
      go_wp2
      go_quiet (fail)
      go_wp2_with fail
      refine (HP2.out _ (by first | exact HGd.out | exact HGn.out _)).mono ?_
      rintro e w3 ⟨rfl, H3⟩
      go_wp2
      exact H3.out
end Go.Proofs.YtpglhdnepmcahaaGreatDoor

/- Nkq -/
namespace Go.Proofs.YtpglhdnepmcahaaGreatDoor
open Go.RowKit Go.Shelf Go.Sort

/-- a struct of eight cells -/
def B8 (w : World) (b : Nat) (t : TypeId) (c0 c1 c2 c3 c4 c5 c6 c7 : Value) : Prop := w.heap[b]? = some (.cells #[c0, c1, c2, c3, c4, c5, c6, c7] t (0, 0))
theorem B8.cells {w : World} {b : Nat} {t : TypeId} {c0 c1 c2 c3 c4 c5 c6 c7 : Value} (h : B8 w b t c0 c1 c2 c3 c4 c5 c6 c7) : w.cell? ⟨b, 0, none⟩ = some c0 ∧ w.cell? ⟨b, 1, none⟩ = some c1 ∧ w.cell? ⟨b, 2, none⟩ = some c2 ∧ w.cell? ⟨b, 3, none⟩ = some c3 ∧ w.cell? ⟨b, 4, none⟩ = some c4 ∧ w.cell? ⟨b, 5, none⟩ = some c5 ∧ w.cell? ⟨b, 6, none⟩ = some c6 ∧ w.cell? ⟨b, 7, none⟩ = some c7 := by
  unfold B8 at h
  exact ⟨by simp [World.cell?, h], by simp [World.cell?, h], by simp [World.cell?, h], by simp [World.cell?, h], by simp [World.cell?, h], by simp [World.cell?, h], by simp [World.cell?, h], by simp [World.cell?, h]⟩
theorem B8.keep {w w' : World} {b : Nat} {t : TypeId} {c0 c1 c2 c3 c4 c5 c6 c7 : Value} (h : B8 w b t c0 c1 c2 c3 c4 c5 c6 c7) (hg : w.grownBy w' none) : B8 w' b t c0 c1 c2 c3 c4 c5 c6 c7 := (hg.block b (some_lt h) (by simp)).trans h
theorem B8.ch {w w' : World} {S : Nat → Prop} {b : Nat} {t : TypeId} {c0 c1 c2 c3 c4 c5 c6 c7 : Value} (h : B8 w b t c0 c1 c2 c3 c4 c5 c6 c7) (hc : Ch w w' S) (hs : ¬ S b) : B8 w' b t c0 c1 c2 c3 c4 c5 c6 c7 := (hc.block (some_lt h) hs).trans h
def opB (w : World) (b : Nat) (kd nw nn : Int) (m : MkR) (f s : Value) : Prop := B8 w b 36 (.int .i64 kd) (.string (ByteArray.mk ⟨m.rcv⟩)) (.string (ByteArray.mk ⟨m.key⟩)) (.int .i64 m.tim) f s (.int .i64 nw) (.int .i64 nn)
def mkBx (w : World) (b : Nat) (m : MkR) (f s : Value) : Prop := B5 w b 34 (.string (ByteArray.mk ⟨m.rcv⟩)) (.string (ByteArray.mk ⟨m.key⟩)) (.int .i64 m.tim) f s
/-- behind mark: the call's boxes, its lists between lo, mid and hi, both logs apart from them -/
structure StM (w0 W : World) (gx gr : Nat) (v1 v2 : Value) (l1 l2 : List MkX) (lo mid hi bo bm : Nat) (kd nw nn : Int) (m : MkR) (f s f' s' : Value) : Prop where
  pl : PlA w0 W gx gr v1 v2 l1 l2 lo hi
  hw : hi ≤ W.heap.size
  md : lo ≤ mid ∧ mid ≤ hi
  rf : RgL W lo mid f' m.fir
  rs : RgL W mid hi s' m.res
  ob : opB W bo kd nw nn m f s
  mb : mkBx W bm m f' s'
  no : ∀ k, FpL gx v1 k ∨ FpL gr v2 k → k ≠ bo ∧ k ≠ bm
  nb : bo < lo ∧ hi ≤ bm
theorem StM.keep {w0 W W' : World} {gx gr : Nat} {v1 v2 : Value} {l1 l2 : List MkX} {lo mid hi bo bm : Nat} {kd nw nn : Int} {m : MkR} {f s f' s' : Value} (h : StM w0 W gx gr v1 v2 l1 l2 lo mid hi bo bm kd nw nn m f s f' s') (hg : W.grownBy W' none) : StM w0 W' gx gr v1 v2 l1 l2 lo mid hi bo bm kd nw nn m f s f' s' :=
  ⟨h.pl.keep hg, Nat.le_trans h.hw hg.size, h.md, h.rf.keep hg, h.rs.keep hg, h.ob.keep hg, h.mb.keep hg, h.no, h.nb⟩
theorem StM.rd {w0 W : World} {gx gr : Nat} {v1 v2 : Value} {l1 l2 : List MkX} {lo mid hi bo bm : Nat} {kd nw nn : Int} {m : MkR} {f s f' s' : Value} (h : StM w0 W gx gr v1 v2 l1 l2 lo mid hi bo bm kd nw nn m f s f' s') (hm : RdM w0 m f s) : RdM W m f' s' := ⟨h.rf.ll.rd, h.rs.ll.rd, hm.inF, hm.inR, hm.inr, hm.ink⟩
/-- what Put leaves of a log's marks -/
def DoneK (l l' : List MkX) (m : MkR) : Prop := (putR l m ≠ 0 ∧ l' = l) ∨ (putR l m = 0 ∧ ∃ x p, x.1 = m ∧ AtE l (keyX x) p ∧ l' = putM l x p)
theorem DoneK.sam {l1 l2 l1' l2' : List MkX} {m : MkR} (h : SamM l1 l2) (h1 : DoneK l1 l1' m) (h2 : DoneK l2 l2' m) : SamM l1' l2' := by
  have hp := h.putR m
  rcases h1 with ⟨a1, rfl⟩ | ⟨a1, x, p, ex, ap, rfl⟩
  · rcases h2 with ⟨b1, rfl⟩ | ⟨b1, -⟩
    · exact h
    · exact absurd (hp.trans b1) a1
  · rcases h2 with ⟨b1, -⟩ | ⟨b1, y, q, ey, aq, rfl⟩
    · exact absurd (hp.symm.trans a1) b1
    · exact h.put (ex.trans ey.symm) ap aq
theorem StM.putA {w0 W W' : World} {gx gr : Nat} {v1 v2 : Value} {l1 l2 : List MkX} {lo mid hi bo bm : Nat} {kd nw nn : Int} {m : MkR} {f s f' s' : Value} {e : Ending} (h : StM w0 W gx gr v1 v2 l1 l2 lo mid hi bo bm kd nw nn m f s f' s') (hq : PutQ W gx v1 l1 m e W') :
    e = .returned (.int .i64 (putR l1 m)) ∧ ∃ v1' l1', StM w0 W' gx gr v1' v2 l1' l2 lo mid hi bo bm kd nw nn m f s f' s' ∧ DoneK l1 l1' m := by
  obtain ⟨e1, q1, q2⟩ := hq
  refine ⟨e1, ?_⟩
  by_cases hR : putR l1 m = 0
  · obtain ⟨f2, s2, ⟨v', p, a1, a2, a3⟩, a4⟩ := q2 hR
    refine ⟨v', _, ⟨h.pl.putA h.hw a2 a3 a4, Nat.le_trans h.hw a3.1.size, h.md, h.rf.chT a3.1 h.pl.d.a.enl, h.rs.chT a3.1 h.pl.d.a.enl, h.ob.ch a3.1 (fun e => (h.no _ (.inl e)).1 rfl), h.mb.ch a3.1 (fun e => (h.no _ (.inl e)).2 rfl), ?_, h.nb⟩, .inr ⟨hR, _, p, rfl, a1, rfl⟩⟩
    intro k hk
    rcases hk with (rfl | hk) | hk
    · exact h.no _ (.inl (.inl rfl))
    · rcases a3.2 k hk with q | q
      · exact h.no _ (.inl (.inr q))
      · have := some_lt h.ob
        have := some_lt h.mb
        omega
    · exact h.no _ (.inr hk)
  · exact ⟨v1, l1, h.keep (q1 hR), .inl ⟨hR, rfl⟩⟩
theorem StM.putB {w0 W W' : World} {gx gr : Nat} {v1 v2 : Value} {l1 l2 : List MkX} {lo mid hi bo bm : Nat} {kd nw nn : Int} {m : MkR} {f s f' s' : Value} {e : Ending} (h : StM w0 W gx gr v1 v2 l1 l2 lo mid hi bo bm kd nw nn m f s f' s') (hq : RPutQ W gr v2 l2 m e W') :
    e = .returned (.int .i64 (putR l2 m)) ∧ ∃ v2' l2', StM w0 W' gx gr v1 v2' l1 l2' lo mid hi bo bm kd nw nn m f s f' s' ∧ DoneK l2 l2' m := by
  obtain ⟨e1, q1, q2⟩ := hq
  refine ⟨e1, ?_⟩
  by_cases hR : putR l2 m = 0
  · obtain ⟨f2, s2, v', p, a1, a2, a3, a4⟩ := q2 hR
    refine ⟨v', _, ⟨h.pl.putB h.hw a2 a3 a4, Nat.le_trans h.hw a3.1.size, h.md, h.rf.chT a3.1 h.pl.d.b.enl, h.rs.chT a3.1 h.pl.d.b.enl, h.ob.ch a3.1 (fun e => (h.no _ (.inr e)).1 rfl), h.mb.ch a3.1 (fun e => (h.no _ (.inr e)).2 rfl), ?_, h.nb⟩, .inr ⟨hR, (m, f2, s2), p, rfl, a1, rfl⟩⟩
    intro k hk
    rcases hk with hk | (rfl | hk)
    · exact h.no _ (.inl hk)
    · exact h.no _ (.inr (.inl rfl))
    · rcases a3.2 k hk with q | q
      · exact h.no _ (.inr (.inr q))
      · have := some_lt h.ob
        have := some_lt h.mb
        omega
  · exact ⟨v2, l2, h.keep (q1 hR), .inl ⟨hR, rfl⟩⟩
/-- what a step leaves -/
def Stp (w0 W : World) (gx gr : Nat) : Prop := ∃ v1 v2 l1 l2, PlD w0 W gx gr v1 v2 l1 l2 ∧ SamM l1 l2
/-- the state behind mark, made -/
theorem stM_new {w0 W0 W1 W2 : World} {gx gr : Nat} {v1 v2 : Value} {l1 l2 : List MkX} {kd nw nn : Int} {m : MkR} {f s f' s' : Value} {mid : Nat} (h : PlD w0 W0 gx gr v1 v2 l1 l2) (hb : opB W1 W0.heap.size kd nw nn m f s) (hg : W0.grownBy W1 none) (hz : W1.heap.size = W0.heap.size + 1) (hm : W1.heap.size ≤ mid ∧ mid ≤ W2.heap.size) (r1 : RgL W2 W1.heap.size mid f' m.fir) (r2 : RgL W2 mid W2.heap.size s' m.res) (hg2 : W1.grownBy W2 none) :
    StM w0 (W2.alloc (.cells #[.string (ByteArray.mk ⟨m.rcv⟩), .string (ByteArray.mk ⟨m.key⟩), .int .i64 m.tim, f', s'] 34)) gx gr v1 v2 l1 l2 W1.heap.size mid W2.heap.size W0.heap.size W2.heap.size kd nw nn m f s f' s' := by
  have k := World.grownBy_alloc W2 (.cells #[.string (ByteArray.mk ⟨m.rcv⟩), .string (ByteArray.mk ⟨m.key⟩), .int .i64 m.tim, f', s'] 34) none
  have hA := ((h.keep hg).apart W2.heap.size).keep (gb_none hg2 k)
  refine ⟨hA, k.size, hm, r1.keep k, r2.keep k, (hb.keep hg2).keep k, B5.new _ _ _ _ _ _ _, fun q hq => ?_, by omega, Nat.le_refl _⟩
  have : q < W0.heap.size := by
    rcases hq with hq | hq
    · exact h.a.lt q hq
    · exact h.b.lt q hq
  omega
end Go.Proofs.YtpglhdnepmcahaaGreatDoor

/- Nkr -/
namespace Go.Proofs.YtpglhdnepmcahaaGreatDoor
open Go.RowKit Go.Shelf Go.Sort

theorem stepMark_any (w0 W : World) (gx gr : Nat) (v1 v2 : Value) (l1 l2 : List MkX) (kd nw nn : Int) (m : MkR) (f s : Value) (h : PlD w0 W gx gr v1 v2 l1 l2) (hm : RdM w0 m f s) (lf : LLs m.fir) (ls : LLs m.res) :
    Calls Tryz.prog 17 #[markV m f s] (W.alloc (.cells #[.int .i64 kd, .string (ByteArray.mk ⟨m.rcv⟩), .string (ByteArray.mk ⟨m.key⟩), .int .i64 m.tim, f, s, .int .i64 nw, .int .i64 nn] 36)) fun e w' => ∃ a1 n1 c1 a2 n2 c2, e = .returned (markV m (.slice a1 n1 c1) (.slice a2 n2 c2)) ∧ Hid (∃ lo mid, StM w0 (w'.alloc (.cells #[.string (ByteArray.mk ⟨m.rcv⟩), .string (ByteArray.mk ⟨m.key⟩), .int .i64 m.tim, .slice a1 n1 c1, .slice a2 n2 c2] 34)) gx gr v1 v2 l1 l2 lo mid w'.heap.size W.heap.size w'.heap.size kd nw nn m f s (.slice a1 n1 c1) (.slice a2 n2 c2)) := by
  have k := World.grownBy_alloc W (.cells #[.int .i64 kd, .string (ByteArray.mk ⟨m.rcv⟩), .string (ByteArray.mk ⟨m.key⟩), .int .i64 m.tim, f, s, .int .i64 nw, .int .i64 nn] 36) none
  have hr := hm.keep (gb_none h.gb k)
  refine (markR_any _ m f s hr.fir hr.res lf ls).mono ?_
  rintro e w' ⟨f', s', rfl, ⟨mid, m1, m2, r1, r2⟩, hg⟩
  obtain ⟨a1, c1, e1⟩ := r1.ll.shape
  obtain ⟨a2, c2, e2⟩ := r2.ll.shape
  subst e1 e2
  exact ⟨a1, _, c1, a2, _, c2, rfl, _, mid, stM_new h (Go.heap_alloc_new W _) k (World.size_alloc _ _) ⟨m1, m2⟩ r1 r2 hg⟩

/-- the cells that a Put loads -/
def StC (W : World) (bo bm : Nat) (br bk : ByteArray) (tm : Int) (fa : Option Addr) (nf fc : Nat) (sa : Option Addr) (ns sc : Nat) (a1 : Option Addr) (n1 c1 : Nat) (a2 : Option Addr) (n2 c2 : Nat) : Prop :=
  W.cell? ⟨bm, 0, none⟩ = some (.string br) ∧ W.cell? ⟨bm, 1, none⟩ = some (.string bk) ∧ W.cell? ⟨bm, 2, none⟩ = some (.int .i64 tm) ∧ W.cell? ⟨bm, 3, none⟩ = some (.slice a1 n1 c1) ∧ W.cell? ⟨bm, 4, none⟩ = some (.slice a2 n2 c2) ∧ W.cell? ⟨bo, 1, none⟩ = some (.string br) ∧ W.cell? ⟨bo, 2, none⟩ = some (.string bk) ∧ W.cell? ⟨bo, 3, none⟩ = some (.int .i64 tm) ∧ W.cell? ⟨bo, 4, none⟩ = some (.slice fa nf fc) ∧ W.cell? ⟨bo, 5, none⟩ = some (.slice sa ns sc)
theorem StM.cells {w0 W : World} {gx gr : Nat} {v1 v2 : Value} {l1 l2 : List MkX} {lo mid hi bo bm : Nat} {kd nw nn : Int} {m : MkR} {fa : Option Addr} {nf fc : Nat} {sa : Option Addr} {ns sc : Nat} {a1 : Option Addr} {n1 c1 : Nat} {a2 : Option Addr} {n2 c2 : Nat} (h : StM w0 W gx gr v1 v2 l1 l2 lo mid hi bo bm kd nw nn m (.slice fa nf fc) (.slice sa ns sc) (.slice a1 n1 c1) (.slice a2 n2 c2)) : StC W bo bm (ByteArray.mk ⟨m.rcv⟩) (ByteArray.mk ⟨m.key⟩) m.tim fa nf fc sa ns sc a1 n1 c1 a2 n2 c2 := by
  obtain ⟨x0, x1, x2, x3, x4⟩ := h.mb.cells
  obtain ⟨y0, y1, y2, y3, y4, y5, y6, y7⟩ := h.ob.cells
  exact ⟨x0, x1, x2, x3, x4, y1, y2, y3, y4, y5⟩
/-- the document's has put, the project's has not; the other way; both have -/
def PhA (w0 W : World) (gx gr : Nat) (v2 : Value) (l1 l2 : List MkX) (lo mid hi bo bm : Nat) (kd nw nn : Int) (m : MkR) (f s f' s' : Value) : Prop := ∃ v1' l1', StM w0 W gx gr v1' v2 l1' l2 lo mid hi bo bm kd nw nn m f s f' s' ∧ DoneK l1 l1' m
def PhB (w0 W : World) (gx gr : Nat) (v1 : Value) (l1 l2 : List MkX) (lo mid hi bo bm : Nat) (kd nw nn : Int) (m : MkR) (f s f' s' : Value) : Prop := ∃ v2' l2', StM w0 W gx gr v1 v2' l1 l2' lo mid hi bo bm kd nw nn m f s f' s' ∧ DoneK l2 l2' m
def PhC (w0 W : World) (gx gr : Nat) (lo mid hi bo bm : Nat) (kd nw nn : Int) (m : MkR) (f s f' s' : Value) : Prop := ∃ v1' v2' l1' l2', StM w0 W gx gr v1' v2' l1' l2' lo mid hi bo bm kd nw nn m f s f' s' ∧ SamM l1' l2'

set_option maxRecDepth 8000 in
set_option maxHeartbeats 12800000 in
theorem step0_any (w0 W : World) (gx gr : Nat) (v1 v2 : Value) (l1 l2 : List MkX) (nw nn : Int) (m : MkR) (f s : Value) (h : PlD w0 W gx gr v1 v2 l1 l2) (hs : SamM l1 l2) (hm : RdM w0 m f s) (lf : LLs m.fir) (ls : LLs m.res) (hT : U8S w0) :
    Calls Tryz.prog 7 #[.pointer (some ⟨gx, 0, none⟩), .pointer (some ⟨gr, 0, none⟩), .agg #[.int .i64 0, .string (ByteArray.mk ⟨m.rcv⟩), .string (ByteArray.mk ⟨m.key⟩), .int .i64 m.tim, f, s, .int .i64 nw, .int .i64 nn]] W fun e w' => e = .returned (.bool true) ∧ Stp w0 w' gx gr := by
  obtain ⟨fa, fc, ef, -⟩ := hm.fir.shape
  obtain ⟨sa, sc, es, -⟩ := hm.res.shape
  subst ef es
  have HMk := hidJ (stepMark_any w0 W gx gr v1 v2 l1 l2 0 nw nn m _ _ h hm lf ls)
  have HU := hidJ (And.intro hm (And.intro hT (And.intro hs (And.intro h.a.len hs.len))))
  obtain ⟨pr, hpr⟩ : ∃ pr, pr = putR l1 m := ⟨_, rfl⟩
  have HPr : Hid (putR l1 m = pr ∧ putR l2 m = pr) := ⟨hpr.symm, by rw [← hs.putR m]; exact hpr.symm⟩
  have HA0 : Hid (∀ W lo mid hi bo bm a1 n1 c1 a2 n2 c2, StM w0 W gx gr v1 v2 l1 l2 lo mid hi bo bm 0 nw nn m (.slice fa m.fir.length fc) (.slice sa m.res.length sc) (.slice a1 n1 c1) (.slice a2 n2 c2) → Calls Tryz.prog 16 #[.pointer (some ⟨gx, 0, none⟩), markV m (.slice a1 n1 c1) (.slice a2 n2 c2)] W fun e w' => e = .returned (.int .i64 pr) ∧ StC w' bo bm (ByteArray.mk ⟨m.rcv⟩) (ByteArray.mk ⟨m.key⟩) m.tim fa m.fir.length fc sa m.res.length sc a1 n1 c1 a2 n2 c2 ∧ Hid (PhA w0 w' gx gr v2 l1 l2 lo mid hi bo bm 0 nw nn m (.slice fa m.fir.length fc) (.slice sa m.res.length sc) (.slice a1 n1 c1) (.slice a2 n2 c2))) := fun W lo mid hi bo bm a1 n1 c1 a2 n2 c2 hW =>
    (putQ_any W gx v1 l1 m _ _ hW.pl.d.a (hW.rd HU.out.1) (HU.out.2.1.keep hW.pl.d.gb)).mono fun e w' q => by
      obtain ⟨q1, v', l', q2, q3⟩ := hW.putA q
      rw [HPr.out.1] at q1
      exact ⟨q1, q2.cells, v', l', q2, q3⟩
  have HA1 : Hid (∀ W lo mid hi bo bm a1 n1 c1 a2 n2 c2, PhB w0 W gx gr v1 l1 l2 lo mid hi bo bm 0 nw nn m (.slice fa m.fir.length fc) (.slice sa m.res.length sc) (.slice a1 n1 c1) (.slice a2 n2 c2) → Calls Tryz.prog 16 #[.pointer (some ⟨gx, 0, none⟩), markV m (.slice a1 n1 c1) (.slice a2 n2 c2)] W fun e w' => e = .returned (.int .i64 pr) ∧ StC w' bo bm (ByteArray.mk ⟨m.rcv⟩) (ByteArray.mk ⟨m.key⟩) m.tim fa m.fir.length fc sa m.res.length sc a1 n1 c1 a2 n2 c2 ∧ Hid (PhC w0 w' gx gr lo mid hi bo bm 0 nw nn m (.slice fa m.fir.length fc) (.slice sa m.res.length sc) (.slice a1 n1 c1) (.slice a2 n2 c2))) := fun W lo mid hi bo bm a1 n1 c1 a2 n2 c2 ⟨v2', l2', hW, hd⟩ =>
    (putQ_any W gx v1 l1 m _ _ hW.pl.d.a (hW.rd HU.out.1) (HU.out.2.1.keep hW.pl.d.gb)).mono fun e w' q => by
      obtain ⟨q1, v', l', q2, q3⟩ := hW.putA q
      rw [HPr.out.1] at q1
      exact ⟨q1, q2.cells, v', v2', l', l2', q2, q3.sam HU.out.2.2.1 hd⟩
  have HB0 : Hid (∀ W lo mid hi bo bm a1 n1 c1 a2 n2 c2, StM w0 W gx gr v1 v2 l1 l2 lo mid hi bo bm 0 nw nn m (.slice fa m.fir.length fc) (.slice sa m.res.length sc) (.slice a1 n1 c1) (.slice a2 n2 c2) → Calls Tryz.prog 18 #[.pointer (some ⟨gr, 0, none⟩), markV m (.slice fa m.fir.length fc) (.slice sa m.res.length sc)] W fun e w' => e = .returned (.int .i64 pr) ∧ StC w' bo bm (ByteArray.mk ⟨m.rcv⟩) (ByteArray.mk ⟨m.key⟩) m.tim fa m.fir.length fc sa m.res.length sc a1 n1 c1 a2 n2 c2 ∧ Hid (PhB w0 w' gx gr v1 l1 l2 lo mid hi bo bm 0 nw nn m (.slice fa m.fir.length fc) (.slice sa m.res.length sc) (.slice a1 n1 c1) (.slice a2 n2 c2))) := fun W lo mid hi bo bm a1 n1 c1 a2 n2 c2 hW =>
    (refPutQ_any W gr v2 l2 m _ _ hW.pl.d.b (by have := HU.out.2.2.2; omega) (HU.out.1.keep hW.pl.d.gb)).mono fun e w' q => by
      obtain ⟨q1, v', l', q2, q3⟩ := hW.putB q
      rw [HPr.out.2] at q1
      exact ⟨q1, q2.cells, v', l', q2, q3⟩
  have HB1 : Hid (∀ W lo mid hi bo bm a1 n1 c1 a2 n2 c2, PhA w0 W gx gr v2 l1 l2 lo mid hi bo bm 0 nw nn m (.slice fa m.fir.length fc) (.slice sa m.res.length sc) (.slice a1 n1 c1) (.slice a2 n2 c2) → Calls Tryz.prog 18 #[.pointer (some ⟨gr, 0, none⟩), markV m (.slice fa m.fir.length fc) (.slice sa m.res.length sc)] W fun e w' => e = .returned (.int .i64 pr) ∧ StC w' bo bm (ByteArray.mk ⟨m.rcv⟩) (ByteArray.mk ⟨m.key⟩) m.tim fa m.fir.length fc sa m.res.length sc a1 n1 c1 a2 n2 c2 ∧ Hid (PhC w0 w' gx gr lo mid hi bo bm 0 nw nn m (.slice fa m.fir.length fc) (.slice sa m.res.length sc) (.slice a1 n1 c1) (.slice a2 n2 c2))) := fun W lo mid hi bo bm a1 n1 c1 a2 n2 c2 ⟨v1', l1', hW, hd⟩ =>
    (refPutQ_any W gr v2 l2 m _ _ hW.pl.d.b (by have := HU.out.2.2.2; omega) (HU.out.1.keep hW.pl.d.gb)).mono fun e w' q => by
      obtain ⟨q1, v', l', q2, q3⟩ := hW.putB q
      rw [HPr.out.2] at q1
      exact ⟨q1, q2.cells, v1', v', l1', l', q2, hd.sam HU.out.2.2.1 q3⟩
  have HK : Hid (∀ W lo mid hi bo bm a1 n1 c1 a2 n2 c2, PhC w0 W gx gr lo mid hi bo bm 0 nw nn m (.slice fa m.fir.length fc) (.slice sa m.res.length sc) (.slice a1 n1 c1) (.slice a2 n2 c2) → Calls Tryz.prog 19 #[markV m (.slice a1 n1 c1) (.slice a2 n2 c2), markV m (.slice fa m.fir.length fc) (.slice sa m.res.length sc)] W fun e w' => e = .returned (.bool true) ∧ StC w' bo bm (ByteArray.mk ⟨m.rcv⟩) (ByteArray.mk ⟨m.key⟩) m.tim fa m.fir.length fc sa m.res.length sc a1 n1 c1 a2 n2 c2 ∧ Hid (PhC w0 w' gx gr lo mid hi bo bm 0 nw nn m (.slice fa m.fir.length fc) (.slice sa m.res.length sc) (.slice a1 n1 c1) (.slice a2 n2 c2))) := fun W lo mid hi bo bm a1 n1 c1 a2 n2 c2 ⟨v1', v2', l1', l2', hW, hd⟩ => by
    have r1 := hW.rd HU.out.1
    have r2 := HU.out.1.keep hW.pl.d.gb
    exact (sameM_refl W m _ _ _ _ r1.fir r1.res r2.fir r2.res).mono fun e w' ⟨q1, q2⟩ => ⟨q1, (hW.keep q2).cells, v1', v2', l1', l2', hW.keep q2, hd⟩
  -- the lists written over
  have HS1 : Hid (∀ W lo mid hi bo bm a1 n1 c1 a2 n2 c2, PhC w0 W gx gr lo mid hi bo bm 0 nw nn m (.slice fa m.fir.length fc) (.slice sa m.res.length sc) (.slice a1 n1 c1) (.slice a2 n2 c2) → Calls Tryz.prog 20 #[.slice a1 n1 c1] W fun e w' => e = .returned (.tuple #[]) ∧ w'.cell? ⟨bm, 4, none⟩ = some (.slice a2 n2 c2) ∧ Hid (∃ v1' v2' l1' l2', PlA w0 w' gx gr v1' v2' l1' l2' lo hi ∧ SamM l1' l2' ∧ RgL w' mid hi (.slice a2 n2 c2) m.res ∧ lo ≤ mid)) := fun W lo mid hi bo bm a1 n1 c1 a2 n2 c2 ⟨v1', v2', l1', l2', hW, hd⟩ => by
    have hmd := hW.md
    refine (spoilR_any lo mid W _ _ hW.rf).mono fun e w' ⟨q1, q2⟩ => ⟨q1, ?_, v1', v2', l1', l2', hW.pl.out q2 (fun k hk => ⟨hk.1, by omega⟩), hd, hW.rs.out q2 (fun k h1 h2 h3 => by omega), hmd.1⟩
    exact (hW.mb.ch q2 (fun e => by have := hW.nb; omega)).cells.2.2.2.2
  have HS2 : Hid (∀ W lo mid hi a2 n2 c2, (∃ v1' v2' l1' l2', PlA w0 W gx gr v1' v2' l1' l2' lo hi ∧ SamM l1' l2' ∧ RgL W mid hi (.slice a2 n2 c2) m.res ∧ lo ≤ mid) → Calls Tryz.prog 20 #[.slice a2 n2 c2] W fun e w' => e = .returned (.tuple #[]) ∧ Hid (Stp w0 w' gx gr)) := fun W lo mid hi a2 n2 c2 ⟨v1', v2', l1', l2', h1, h2, h3, h4⟩ =>
    (spoilR_any mid hi W _ _ h3).mono fun e w' ⟨q1, q2⟩ => ⟨q1, v1', v2', l1', l2', (h1.out q2 (fun k hk => ⟨by omega, hk.2⟩)).d, h2⟩
  clear h hs hm lf ls hT HPr HU hpr
  have HCl : Hid (∀ W lo mid hi bo bm kd a1 n1 c1 a2 n2 c2, StM w0 W gx gr v1 v2 l1 l2 lo mid hi bo bm kd nw nn m (.slice fa m.fir.length fc) (.slice sa m.res.length sc) (.slice a1 n1 c1) (.slice a2 n2 c2) → StC W bo bm (ByteArray.mk ⟨m.rcv⟩) (ByteArray.mk ⟨m.key⟩) m.tim fa m.fir.length fc sa m.res.length sc a1 n1 c1 a2 n2 c2) := fun W lo mid hi bo bm kd a1 n1 c1 a2 n2 c2 hW => hW.cells
  have HC0 : Hid (∀ W lo mid hi bo bm a1 n1 c1 a2 n2 c2, StM w0 W gx gr v1 v2 l1 l2 lo mid hi bo bm 0 nw nn m (.slice fa m.fir.length fc) (.slice sa m.res.length sc) (.slice a1 n1 c1) (.slice a2 n2 c2) → W.cell? ⟨bo, 0, none⟩ = some (.int .i64 0)) := fun W lo mid hi bo bm a1 n1 c1 a2 n2 c2 hW => hW.ob.cells.1
  unfold markV at HMk HA0 HA1 HB0 HB1 HK
  unfold StC at HA0 HA1 HB0 HB1 HK HCl
  generalize m.fir.length = nf at *
  generalize m.res.length = ns at *
  generalize ByteArray.mk ⟨m.rcv⟩ = br at *
  generalize ByteArray.mk ⟨m.key⟩ = bk at *
  generalize m.tim = tm at *
  go_enter Tryz.func7, Tryz.ntmps7
  go_wp2_with fail
  refine HMk.out.mono ?_
  rintro e w1 ⟨a1, n1, c1, a2, n2, c2, rfl, ⟨lo, mid, hSt⟩⟩
  have HSt := hidJ hSt
  have c0 := HC0.out _ _ _ _ _ _ _ _ _ _ _ _ hSt
  have hc := HCl.out _ _ _ _ _ _ _ _ _ _ _ _ _ hSt
  have HZ := hidJ (HSt.out.keep (gb_drew _ none))
  clear hSt HMk HC0 HCl HSt
  generalize W.heap.size = bo at *
  obtain ⟨x0, x1, x2, x3, x4, y1, y2, y3, y4, y5⟩ := hc
  have qx : (pr == pr) = true := by simp
  go_wp2_with fail
  generalize w1.heap.size = bm at *
  generalize w1.alloc (.cells #[.string br, .string bk, .int .i64 tm, .slice a1 n1 c1, .slice a2 n2 c2] 34) = W2 at *
  go_region_held3 (fun w' => w'.cell? ⟨bm, 0, none⟩ = some (.string br) ∧ w'.cell? ⟨bm, 1, none⟩ = some (.string bk) ∧ w'.cell? ⟨bm, 2, none⟩ = some (.int .i64 tm) ∧ w'.cell? ⟨bm, 3, none⟩ = some (.slice a1 n1 c1) ∧ w'.cell? ⟨bm, 4, none⟩ = some (.slice a2 n2 c2) ∧ w'.cell? ⟨bo, 1, none⟩ = some (.string br) ∧ w'.cell? ⟨bo, 2, none⟩ = some (.string bk) ∧ w'.cell? ⟨bo, 3, none⟩ = some (.int .i64 tm) ∧ w'.cell? ⟨bo, 4, none⟩ = some (.slice fa nf fc) ∧ w'.cell? ⟨bo, 5, none⟩ = some (.slice sa ns sc)) (go_keep)
    (first
      | (go_at_call 16; with_reducible refine (HA0.out _ _ _ _ _ _ _ _ _ _ _ _ HZ.out).mono ?_; rintro e w2 ⟨rfl, ⟨d20, d21, d22, d23, d24, d25, d26, d27, d28, d29⟩, HPA⟩)
      | (go_at_call 16; with_reducible refine (HA1.out _ _ _ _ _ _ _ _ _ _ _ _ HPB.out).mono ?_; rintro e w3 ⟨rfl, ⟨d30, d31, d32, d33, d34, d35, d36, d37, d38, d39⟩, HDr⟩)
      | (go_at_call 18; with_reducible refine (HB0.out _ _ _ _ _ _ _ _ _ _ _ _ HZ.out).mono ?_; rintro e w2 ⟨rfl, ⟨d20, d21, d22, d23, d24, d25, d26, d27, d28, d29⟩, HPB⟩)
      | (go_at_call 18; with_reducible refine (HB1.out _ _ _ _ _ _ _ _ _ _ _ _ HPA.out).mono ?_; rintro e w3 ⟨rfl, ⟨d30, d31, d32, d33, d34, d35, d36, d37, d38, d39⟩, HDr⟩)
      | (go_at_call 19; with_reducible refine (HK.out _ _ _ _ _ _ _ _ _ _ _ _ HDr.out).mono ?_; rintro e w4 ⟨rfl, ⟨d40, d41, d42, d43, d44, d45, d46, d47, d48, d49⟩, HD4⟩))
  all_goals (clear HA0 HA1 HB0 HB1 HK)
  all_goals go_wp2_with fail
  all_goals refine (HS1.out _ _ _ _ _ _ _ _ _ _ _ _ HD4.out).mono ?_
  all_goals rintro e w5 ⟨rfl, e4, H5⟩
  all_goals obtain ⟨u1, u2, u3, u4, H5⟩ := H5
  all_goals go_wp2_with fail
  all_goals refine (HS2.out _ _ _ _ _ _ _ ⟨u1, u2, u3, u4, H5⟩).mono ?_
  all_goals rintro e w6 ⟨rfl, H6⟩
  all_goals go_wp2
  all_goals go_ret
  all_goals exact ⟨rfl, H6.out⟩
end Go.Proofs.YtpglhdnepmcahaaGreatDoor
