/-
  The document's log: put of a mark: the walk.
-/
import Derived.Test.YtpglhdnepmcahaaGreatDoorNkA
namespace Go.Proofs.YtpglhdnepmcahaaGreatDoor
open Go.RowKit Go.Shelf Go.Sort

set_option maxRecDepth 8000 in
set_option maxHeartbeats 25600000 in
theorem refPutX_any (w : World) (gr : Nat) (v : Value) (l : List MkX) (m : MkR) (f s : Value) (h : RefX w gr v l) (hm : RdM w m f s) (hR : rightM m = 0) (hl : l.length < 1000) :
    Calls Tryz.prog 14 #[.pointer (some ⟨gr, 0, none⟩), markV m f s] w fun e w' => e = .returned (.tuple #[]) ∧ RPut w gr v l m w' := by
  obtain ⟨fa, fc, ef, -⟩ := hm.fir.shape
  obtain ⟨sa, sc, es, -⟩ := hm.res.shape
  subst ef es
  obtain ⟨va, vc, ev, hvc⟩ := h.row.shape
  subst ev
  have hLL := right_LLs hR
  have HX := hidJ (And.intro h (And.intro hm (And.intro hR hl)))
  have HO1 : Hid (∀ W, w.grownBy W none → Calls Tryz.prog 48 #[.slice fa m.fir.length fc] W fun e w' => ∃ a1 c1, e = .returned (.slice a1 m.fir.length c1) ∧ Hid (OwnLL w' W.heap.size (.slice a1 m.fir.length c1) m.fir ∧ W.grownBy w' none)) := fun W hW => by
    refine (ownS_any W _ m.fir (hm.fir.keep hW) hLL.1).mono ?_
    rintro e w' ⟨v', rfl, q1, q2⟩
    obtain ⟨a1, c1, e1⟩ := q1.shape
    subst e1
    exact ⟨a1, c1, rfl, q1, q2⟩
  have HO2 : Hid (∀ W, w.grownBy W none → Calls Tryz.prog 48 #[.slice sa m.res.length sc] W fun e w' => ∃ a1 c1, e = .returned (.slice a1 m.res.length c1) ∧ Hid (OwnLL w' W.heap.size (.slice a1 m.res.length c1) m.res ∧ W.grownBy w' none)) := fun W hW => by
    refine (ownS_any W _ m.res (hm.res.keep hW) hLL.2).mono ?_
    rintro e w' ⟨v', rfl, q1, q2⟩
    obtain ⟨a1, c1, e1⟩ := q1.shape
    subst e1
    exact ⟨a1, c1, rfl, q1, q2⟩
  obtain ⟨P, hP⟩ : ∃ P, P = posI l (m.rcv, m.key) := ⟨_, rfl⟩
  have HFd : Hid (∀ W, w.grownBy W none → Calls Tryz.prog 49 #[.pointer (some ⟨gr, 0, none⟩), .string (ByteArray.mk ⟨m.rcv⟩), .string (ByteArray.mk ⟨m.key⟩)] W fun e w' => e = .returned (.int .i64 P) ∧ W.grownBy w' none) := fun W hW => by
    rw [hP]
    exact refPos_any W gr _ l (m.rcv, m.key) (h.keep hW)
  have HP := hidJ hP
  obtain ⟨PP, hPP⟩ : ∃ PP : World → Prop, PP = RPut w gr (.slice va l.length vc) l m := ⟨_, rfl⟩
  rw [show (fun e w' => e = Ending.returned (.tuple #[]) ∧ RPut w gr (.slice va l.length vc) l m w') = (fun e w' => e = Ending.returned (.tuple #[]) ∧ PP w') from by rw [hPP]]
  have HPP : Hid (∀ w', RPut w gr (.slice va l.length vc) l m w' → PP w') := fun w' h' => by rw [hPP]; exact h'
  clear hPP h hm hR hLL hP
  -- in its place
  have HSe : Hid (∀ W a1 c1 a2 c2, w.grownBy W none → OwnLL W w.heap.size (.slice a1 m.fir.length c1) m.fir → OwnLL W w.heap.size (.slice a2 m.res.length c2) m.res → hasM l (m.rcv, m.key) = true → ∃ (p g : Nat), P = (p : Int) ∧ p < l.length ∧ va = some ⟨g, 0, none⟩ ∧ g < w.heap.size ∧ OwnK W 0 (.slice (some ⟨g, 0, none⟩) l.length vc) l ∧ PP (setK W g (p * 5) (.string (ByteArray.mk ⟨m.rcv⟩)) (.string (ByteArray.mk ⟨m.key⟩)) (.int .i64 m.tim) (.slice a1 m.fir.length c1) (.slice a2 m.res.length c2))) := fun W a1 c1 a2 c2 hW h1 h2 hb => by
    obtain ⟨q0, q1, q2, q3⟩ := HX.out
    obtain ⟨p, e1, e2, e3⟩ := pos_at q0.ris hb
    obtain ⟨g, c, e0, hgl, -⟩ := q0.row.cells e2
    simp only [Value.slice.injEq, true_and] at e0
    obtain ⟨e4, e5⟩ := e0
    subst e4
    refine ⟨p, g, by rw [HP.out]; exact e1, e2, rfl, hgl, q0.row.keep hW, HPP.out _ ⟨.slice a1 m.fir.length c1, .slice a2 m.res.length c2, .slice (some ⟨g, 0, none⟩) l.length vc, p, e3, ?_⟩⟩
    obtain ⟨r1, r2, r3⟩ := q0.seted (x := (m, .slice a1 m.fir.length c1, .slice a2 m.res.length c2)) hW ⟨h1.mono (Nat.zero_le _), h2.mono (Nat.zero_le _), q1.inF, q1.inR, q1.inr, q1.ink⟩ q2 hb e3
    exact ⟨r1, r2, r3 _ _ _ h1, r3 _ _ _ h2⟩
  -- among the others
  have HAp : Hid (∀ W bm a1 c1 a2 c2, w.grownBy W none → w.heap.size ≤ bm → B5 W bm 34 (.string (ByteArray.mk ⟨m.rcv⟩)) (.string (ByteArray.mk ⟨m.key⟩)) (.int .i64 m.tim) (.slice a1 m.fir.length c1) (.slice a2 m.res.length c2) → ∀ X, W.grownBy X none → X.heap = (W.alloc (.cells #[.string (ByteArray.mk ⟨m.rcv⟩), .string (ByteArray.mk ⟨m.key⟩), .int .i64 m.tim, .slice a1 m.fir.length c1, .slice a2 m.res.length c2] 34)).heap → ∃ a3 c3 W2, (Builtin.append_ #[46, 46] 46 #[.slice va l.length vc, .slice (some ⟨W.heap.size, 0, none⟩) 1 1]).run Tryz.prog X = .ok (.slice a3 (l.length + 1) c3) W2 ∧ W2.cell? ⟨gr, 0, none⟩ = some (.slice va l.length vc) ∧ W2.frozen? ⟨gr, 0, none⟩ = false ∧ Hid (∃ g, a3 = some ⟨g, 0, none⟩ ∧ PaJ w W (W2.setCell ⟨gr, 0, none⟩ (.slice a3 (l.length + 1) c3)) gr g c3 bm l (.slice va l.length vc) (m, .slice a1 m.fir.length c1, .slice a2 m.res.length c2))) := fun W bm a1 c1 a2 c2 hW hbm hb X hX hh => put_app (x := (m, .slice a1 m.fir.length c1, .slice a2 m.res.length c2)) HX.out.1 HX.out.2.2.2 hW hb hbm rfl rfl X hX hh
  have HIn : Hid (∀ W WA bm a1 c1 a2 c2 g c w' k, w.grownBy W none → OwnLL W w.heap.size (.slice a1 m.fir.length c1) m.fir → OwnLL W w.heap.size (.slice a2 m.res.length c2) m.res → PaJ w W WA gr g c bm l (.slice va l.length vc) (m, .slice a1 m.fir.length c1, .slice a2 m.res.length c2) → Ch WA w' (fun j => j = g) → hasM l (m.rcv, m.key) = false → AtE l (m.rcv, m.key) k → OwnK w' 0 (.slice (some ⟨g, 0, none⟩) (l.length + 1) c) (gapK l k (m, .slice a1 m.fir.length c1, .slice a2 m.res.length c2)) → PP w') := fun W WA bm a1 c1 a2 c2 g c w' k hW h1 h2 hpa hc hb hat ho => by
    obtain ⟨q0, q1, q2, q3⟩ := HX.out
    refine HPP.out _ ⟨.slice a1 m.fir.length c1, .slice a2 m.res.length c2, .slice (some ⟨g, 0, none⟩) (l.length + 1) c, k, hat, ?_⟩
    obtain ⟨r1, r2, r3⟩ := q0.insd (x := (m, .slice a1 m.fir.length c1, .slice a2 m.res.length c2)) hW ⟨h1.mono (Nat.zero_le _), h2.mono (Nat.zero_le _), q1.inF, q1.inR, q1.inr, q1.ink⟩ q2 q3 hb hat hpa.box hpa.fr rfl hpa.ne1 (row_objE hpa.row rfl) hc ho
    exact ⟨r1, r2, r3 _ _ _ h1, r3 _ _ _ h2⟩
  have hPn : hasM l (m.rcv, m.key) = false → P = -1 := fun hb => by
    rw [HP.out]
    unfold posI
    rw [if_neg (by simp [hb])]
  have HPn := hidJ hPn
  have hc0 := HX.out.1.box.cell
  have HBx := hidJ HX.out.1
  clear hPn HPP HP
  have HB := hidJ (And.intro (B5.new w 34 (.string (ByteArray.mk ⟨m.rcv⟩)) (.string (ByteArray.mk ⟨m.key⟩)) (.int .i64 m.tim) (.slice fa m.fir.length fc) (.slice sa m.res.length sc)) (World.grownBy_alloc w (.cells #[.string (ByteArray.mk ⟨m.rcv⟩), .string (ByteArray.mk ⟨m.key⟩), .int .i64 m.tim, .slice fa m.fir.length fc, .slice sa m.res.length sc] 34) none))
  have HLe : Hid (∀ x y : List UInt8, Op.bytesLess (ByteArray.mk ⟨x⟩).toList (ByteArray.mk ⟨y⟩).toList = decide (x < y)) := str_less
  have HEq : Hid (∀ x y : List UInt8, ((ByteArray.mk ⟨x⟩).toList == (ByteArray.mk ⟨y⟩).toList) = decide (x = y)) := toList_beq
  unfold markV
  have hgrl : gr < w.heap.size := block_lt hc0
  obtain ⟨nf, hnf⟩ : ∃ nf, m.fir.length = nf := ⟨_, rfl⟩
  obtain ⟨ns, hns⟩ : ∃ ns, m.res.length = ns := ⟨_, rfl⟩
  rw [hnf] at HO1 HB HSe HAp HIn
  rw [hns] at HO2 HB HSe HAp HIn
  rw [hnf, hns]
  clear hnf hns
  go_enter Tryz.func14, Tryz.ntmps14
  go_wp2_with fail
  refine (HO1.out _ HB.out.2).mono ?_
  rintro e w1 ⟨a1, x1, rfl, H1⟩
  have hB1 := HB.out.1.keep H1.out.2
  obtain ⟨-, -, -, c3, c4⟩ := hB1.cells
  obtain ⟨-, -, -, f3, -⟩ := hB1.froz
  go_wp2_with fail
  have hch := set_ch w1 w.heap.size 3 (.slice a1 nf x1)
  have hsz1 : w.heap.size + 1 ≤ (w.alloc (.cells #[.string (ByteArray.mk ⟨m.rcv⟩), .string (ByteArray.mk ⟨m.key⟩), .int .i64 m.tim, .slice fa nf fc, .slice sa ns sc] 34)).heap.size := by simp
  have H2 := hidJ (And.intro (hB1.set3 (.slice a1 nf x1)) (And.intro (gb_ch (gb_none HB.out.2 H1.out.2) hch (fun k e => by omega)) ((H1.out.1.mono hsz1).ch hch (fun k e => by omega))))
  clear H1 HB HO1 hB1 c3 c4 f3 hch hsz1
  generalize w1.setCell ⟨w.heap.size, 3, none⟩ (.slice a1 nf x1) = W1 at *
  refine (HO2.out _ H2.out.2.1).mono ?_
  rintro e w2 ⟨a2, x2, rfl, H3⟩
  have hB1 := H2.out.1.keep H3.out.2
  obtain ⟨c0, c1, -, -, c4⟩ := hB1.cells
  obtain ⟨-, -, -, -, f4⟩ := hB1.froz
  have hch := set_ch w2 w.heap.size 4 (.slice a2 ns x2)
  have hsz1 : w.heap.size + 1 ≤ W1.heap.size := some_lt H2.out.1
  have H4 := hidJ (And.intro (hB1.set4 (.slice a2 ns x2)) (And.intro (gb_ch (gb_none H2.out.2.1 H3.out.2) hch (fun k e => by omega)) (And.intro ((H2.out.2.2.keep H3.out.2).ch hch (fun k e => by omega)) ((H3.out.1.mono hsz1).ch hch (fun k e => by omega)))))
  have d0 := H4.out.1.cells.1
  have d1 := H4.out.1.cells.2.1
  clear H2 H3 HO2 hB1 hch hsz1 c0 c1
  go_wp2_with fail
  generalize w2.setCell ⟨w.heap.size, 4, none⟩ (.slice a2 ns x2) = W2 at *
  clear c4 f4 d0 d1
  refine (HFd.out _ H4.out.2.1).mono ?_
  rintro e w3 ⟨rfl, q1⟩
  have H5 := hidJ (And.intro (H4.out.1.keep q1) (And.intro (gb_none H4.out.2.1 q1) (And.intro ((H4.out.2.2.1.keep q1).mono (Nat.le_succ _)) ((H4.out.2.2.2.keep q1).mono (Nat.le_succ _)))))
  clear H4 HFd q1
  obtain ⟨i0, i1, i2, i3, i4⟩ := H5.out.1.cells
  have g0 := (HBx.out.keep H5.out.2.1).box.cell
  have gf0 := (HBx.out.keep H5.out.2.1).box.frozen
  cases hb : hasM l (m.rcv, m.key) with
  | true =>
    obtain ⟨p, g, rfl, hpl, rfl, hgl, hok, hpp⟩ := HSe.out (w3.drew) a1 x1 a2 x2 (gb_none H5.out.2.1 (gb_drew _ none)) (H5.out.2.2.1.keep (gb_drew _ none)) (H5.out.2.2.2.keep (gb_drew _ none)) hb
    have HF := hidJ hpp
    obtain ⟨u0, u1, u2, u3, u4, e0, e1, e2, e3, e4⟩ := ne_cell hok hpl
    have e0 : w3.cell? ⟨g, p * 5, none⟩ = some u0 := e0
    have e1 : w3.cell? ⟨g, p * 5 + 1, none⟩ = some u1 := e1
    have e2 : w3.cell? ⟨g, p * 5 + 2, none⟩ = some u2 := e2
    have e3 : w3.cell? ⟨g, p * 5 + 3, none⟩ = some u3 := e3
    have e4 : w3.cell? ⟨g, p * 5 + 4, none⟩ = some u4 := e4
    have f0 : w3.frozen? ⟨g, p * 5, none⟩ = false := hok.froz _
    have f1 : w3.frozen? ⟨g, p * 5 + 1, none⟩ = false := hok.froz _
    have f2 : w3.frozen? ⟨g, p * 5 + 2, none⟩ = false := hok.froz _
    have f3 : w3.frozen? ⟨g, p * 5 + 3, none⟩ = false := hok.froz _
    have f4 : w3.frozen? ⟨g, p * 5 + 4, none⟩ = false := hok.froz _
    have hpi : (p : Int) < (l.length : Int) := by omega
    clear HSe HAp HIn HPn HX HBx hok hpp hb HLe HEq
    unfold setK at HF
    generalize l.length = n at *
    generalize ByteArray.mk ⟨m.rcv⟩ = br at *
    generalize ByteArray.mk ⟨m.key⟩ = bk at *
    generalize m.tim = tm at *
    go_wp2
    go_region
    go_wp2
    (try simp only [Exit.inBlock, Exit.then])
    refine bodyPost_ret (results_none rfl _ _ _) rfl ?_
    exact ⟨rfl, HF.out⟩
  | false =>
    have hP1 := HPn.out hb
    subst hP1
    clear HSe HPn
    have HPU := hidJ (HAp.out w3 w.heap.size a1 x1 a2 x2 H5.out.2.1 (Nat.le_refl _) H5.out.1)
    have HIn2 := hidJ (fun WA g c w' k hpa hc hat ho => HIn.out w3 WA w.heap.size a1 x1 a2 x2 g c w' k H5.out.2.1 H5.out.2.2.1 H5.out.2.2.2 hpa hc hb hat ho)
    have HRs := hidJ (And.intro HX.out.1.ris hb)
    have HSh : Hid (∀ q, q < l.length → (∃ a n c, (l.getD q xZ).2.1 = .slice a n c) ∧ ∃ a n c, (l.getD q xZ).2.2 = .slice a n c) := fun q hq => by
      have hmm : l.getD q xZ ∈ l := by simp [List.getD, hq]
      obtain ⟨fa', fc', e1⟩ := (HX.out.1.each _ hmm).1.fir.shape
      obtain ⟨sa', sc', e2⟩ := (HX.out.1.each _ hmm).1.res.shape
      exact ⟨⟨_, _, _, e1⟩, _, _, _, e2⟩
    have hl9 : l.length < 1000 := HX.out.2.2.2
    clear HAp HIn HX HBx
    have HK : Hid (∀ (C : Obj) (b o : Nat) (u : Value), w3.cell? ⟨b, o, none⟩ = some u → (w3.alloc C).cell? ⟨b, o, none⟩ = some u) := fun C b o u h => (World.cell?_of_block ((World.grownBy_alloc w3 C none).block b (block_lt h) (by simp))).trans h
    have HK2 : Hid (∀ (C : Obj) (b o : Nat) (u : Value), w3.cell? ⟨b, o, none⟩ = some u → (w3.drew.alloc C).cell? ⟨b, o, none⟩ = some u) := fun C b o u h => (World.cell?_of_block ((gb_none (gb_drew w3 none) (World.grownBy_alloc w3.drew C none)).block b (block_lt h) (by simp))).trans h
    have z0 := fun C => HK.out C _ _ _ g0
    have z1 := fun C => HK.out C _ _ _ i0
    have z2 := fun C => HK.out C _ _ _ i1
    have z3 := fun C => HK.out C _ _ _ i2
    have z4 := fun C => HK.out C _ _ _ i3
    have z5 := fun C => HK.out C _ _ _ i4
    have t0 := fun C => HK2.out C _ _ _ g0
    have t1 := fun C => HK2.out C _ _ _ i0
    have t2 := fun C => HK2.out C _ _ _ i1
    have t3 := fun C => HK2.out C _ _ _ i2
    have t4 := fun C => HK2.out C _ _ _ i3
    have t5 := fun C => HK2.out C _ _ _ i4
    go_wp2
    go_region_law
      (first
        | (refine step_appRun rfl (.tmp 37) (.tmp 39) 46 rfl _ _ (by simp [Act.eval]) (by simp [Act.eval]) (l.length + 1) (fun a3 c3 W3 => W3.cell? ⟨gr, 0, none⟩ = some (.slice va l.length vc) ∧ W3.frozen? ⟨gr, 0, none⟩ = false ∧ Hid (∃ g, a3 = some ⟨g, 0, none⟩ ∧ PaJ w w3 (W3.setCell ⟨gr, 0, none⟩ (.slice a3 (l.length + 1) c3)) gr g c3 w.heap.size l (.slice va l.length vc) (m, .slice a1 nf x1, .slice a2 ns x2))) (HPU.out _ (by first | exact gb_none (World.grownBy_alloc _ _ none) (gb_drew _ none) | exact World.grownBy_alloc _ _ none | exact gb_none (gb_drew _ none) (World.grownBy_alloc _ _ none)) rfl) ?_; rintro a5 c5 w5 ⟨y1, y2, H6⟩))
    all_goals
      clear z0 z1 z2 z3 z4 z5 t0 t1 t2 t3 t4 t5 HK HK2 HPU y1 y2
      obtain ⟨g, rfl, hpa⟩ := H6.out
      have HPa := hidJ hpa
      clear H6 hpa
      go_wp2
      generalize w5.setCell ⟨gr, 0, none⟩ (.slice (some ⟨g, 0, none⟩) (l.length + 1) c5) = WA at *
      have H7 : Hid (∃ st, OwnK WA 0 (.slice (some ⟨g, 0, none⟩) (l.length + 1) c5) (gapK l l.length st) ∧ Ch WA WA (fun j => j = g) ∧ ∀ j, l.length ≤ j → j < l.length → 0 < cmpL (keyX (l.getD j xZ)) (m.rcv, m.key)) := ⟨_, by unfold gapK; rw [List.take_length, List.drop_length, List.append_nil]; exact HPa.out.row, Ch.refl _ _, fun j h1 h2 => by omega⟩
      have HTy : Hid (∀ wr, Ch WA wr (fun j => j = g) → wr.cell? ⟨gr, 0, none⟩ = some (.slice (some ⟨g, 0, none⟩) (l.length + 1) c5) ∧ B5 wr w.heap.size 34 (.string (ByteArray.mk ⟨m.rcv⟩)) (.string (ByteArray.mk ⟨m.key⟩)) (.int .i64 m.tim) (.slice a1 nf x1) (.slice a2 ns x2)) := fun wr hc => ⟨(bxch HPa.out.box hc (fun e => HPa.out.ne1 e.symm)).cell, HPa.out.mrk.ch hc (fun e => HPa.out.ne2 e.symm)⟩
      go_loopw [4] (fun i wr => ∃ k : Nat, k ≤ l.length ∧ i = .int .i64 k ∧ Hid (∃ st, OwnK wr 0 (.slice (some ⟨g, 0, none⟩) (l.length + 1) c5) (gapK l k st) ∧ Ch WA wr (fun j => j = g) ∧ ∀ j, k ≤ j → j < l.length → 0 < cmpL (keyX (l.getD j xZ)) (m.rcv, m.key))) (fun i _ => (intOf i).toNat)
      case atStart => exact ⟨l.length, Nat.le_refl _, rfl, H7.out⟩
      case round =>
        obtain ⟨k, hkl, rfl, hr⟩ := hrel
        clear H7
        obtain ⟨st, r1, r2, r3⟩ := hr.out
        obtain ⟨tg, tb⟩ := HTy.out wr r2
        obtain ⟨b0, b1, b2, b3, b4⟩ := tb.cells
        have HE0 : Hid (AtE l (m.rcv, m.key) k → ∀ W, wr.grownBy W none → PP (setK W g (k * 5) (.string (ByteArray.mk ⟨m.rcv⟩)) (.string (ByteArray.mk ⟨m.key⟩)) (.int .i64 m.tim) (.slice a1 nf x1) (.slice a2 ns x2))) := fun hat W hW => by
          refine HIn2.out WA g c5 _ k HPa.out ((r2.trans (Ch.of_gb (S := fun j => j = g) hW (fun j hj => by cases hj)) (fun _ _ e => e)).trans (setK_ch _ _ _ _ _ _ _ _) (fun _ _ e => e)) hat ?_
          have h9 := (r1.keep hW).put (m, .slice a1 nf x1, .slice a2 ns x2) (p := k) (by rw [gapK_len l hkl]; omega)
          rw [gapK_set l hkl] at h9
          exact h9
        obtain ⟨u0, u1, u2, u3, u4, e0, e1, e2, e3, e4⟩ := ne_cell r1 (j := k) (by rw [gapK_len l hkl]; omega)
        have f0 := r1.froz (k * 5)
        have f1 := r1.froz (k * 5 + 1)
        have f2 := r1.froz (k * 5 + 2)
        have f3 := r1.froz (k * 5 + 3)
        have f4 := r1.froz (k * 5 + 4)
        have hki : (k : Int) < (l.length : Int) + 1 := by omega
        by_cases hk0 : k = 0
        · have HExa := hidJ (HE0.out (gap_stop HRs.out.1 HRs.out.2 hkl r3 (.inl hk0)))
          have HSta : Hid True := trivial
          subst hk0
          clear hr HE0 HTy HPa HIn2 HRs r1 r2 r3 tb HLe HEq
          generalize ByteArray.mk ⟨m.rcv⟩ = br at *
          generalize ByteArray.mk ⟨m.key⟩ = bk at *
          generalize m.tim = tm at *
          clear HSta
          unfold setK at HExa
          go_wp2
          go_quiet (fail)
          go_wp2
          go_region
          go_wp2
          go_end0
          exact ⟨rfl, HExa.out _ (by first | exact gb_drew _ none | exact gb_none (gb_drew _ none) (gb_drew _ none) | exact gb_none (Gw.drewN _ _).gb (gb_drew _ none) | exact (Gw.drewN _ _).gb)⟩
        · obtain ⟨q, hq⟩ : ∃ q, k = q + 1 := ⟨k - 1, by omega⟩
          have hqi : (k : Int) - 1 = (q : Int) := by omega
          have hkp : (0 : Int) < (k : Int) := by omega
          have hkd : decide (0 < k) = true := decide_eq_true (by omega)
          have hql : (q : Int) < (l.length : Int) + 1 := by omega
          have hqlt : q < l.length := by omega
          obtain ⟨g', c', eg, -, p0, p1, p2, p3, p4⟩ := r1.cells (j := q) (by rw [gapK_len l hkl]; omega)
          simp only [Value.slice.injEq, Option.some.injEq, Addr.mk.injEq, and_true] at eg
          obtain ⟨rfl, -⟩ := eg
          rw [gapK_lo l hkl (by omega)] at p0 p1 p2 p3 p4
          have hsh : (∃ a n c, (l.getD q xZ).2.1 = .slice a n c) ∧ ∃ a n c, (l.getD q xZ).2.2 = .slice a n c := HSh.out q hqlt
          obtain ⟨⟨qa, qn, qc, eqf⟩, qb, qm, qd, eqs⟩ := hsh
          have HS0 : Hid (0 < cmpL (keyX (l.getD q xZ)) (m.rcv, m.key) → ∀ W, wr.grownBy W none → ∃ st, OwnK (setK W g (k * 5) (.string (ByteArray.mk ⟨(l.getD q xZ).1.rcv⟩)) (.string (ByteArray.mk ⟨(l.getD q xZ).1.key⟩)) (.int .i64 (l.getD q xZ).1.tim) (.slice qa qn qc) (.slice qb qm qd)) 0 (.slice (some ⟨g, 0, none⟩) (l.length + 1) c5) (gapK l q st) ∧ Ch WA (setK W g (k * 5) (.string (ByteArray.mk ⟨(l.getD q xZ).1.rcv⟩)) (.string (ByteArray.mk ⟨(l.getD q xZ).1.key⟩)) (.int .i64 (l.getD q xZ).1.tim) (.slice qa qn qc) (.slice qb qm qd)) (fun j => j = g) ∧ ∀ j, q ≤ j → j < l.length → 0 < cmpL (keyX (l.getD j xZ)) (m.rcv, m.key)) := fun hpos W hW => by
            refine ⟨l.getD q xZ, ?_, (r2.trans (Ch.of_gb (S := fun j => j = g) hW (fun j hj => by cases hj)) (fun _ _ e => e)).trans (setK_ch _ _ _ _ _ _ _ _) (fun _ _ e => e), fun j h1 h2 => ?_⟩
            · have h9 := (r1.keep hW).put (l.getD q xZ) (p := k) (by rw [gapK_len l hkl]; omega)
              rw [gapK_set l hkl, hq, gapK_move l hqlt, ← hq] at h9
              unfold setM at h9
              rw [eqf, eqs] at h9
              exact h9
            · by_cases e : j = q
              · rw [e]
                exact hpos
              · exact r3 j (by omega) h2
          rw [eqf] at p3
          rw [eqs] at p4
          have HQ := hidJ hq
          have HE1 : Hid (cmpL (keyX (l.getD q xZ)) (m.rcv, m.key) ≤ 0 → ∀ W, wr.grownBy W none → PP (setK W g (k * 5) (.string (ByteArray.mk ⟨m.rcv⟩)) (.string (ByteArray.mk ⟨m.key⟩)) (.int .i64 m.tim) (.slice a1 nf x1) (.slice a2 ns x2))) := fun hle => HE0.out (gap_stop HRs.out.1 HRs.out.2 hkl r3 (.inr (by rw [show k - 1 = q by omega]; exact hle)))
          have l0 := HLe.out (l.getD q xZ).1.rcv m.rcv
          have s0 := HEq.out (l.getD q xZ).1.rcv m.rcv
          have l1 := HLe.out (l.getD q xZ).1.key m.key
          have s1 := HEq.out (l.getD q xZ).1.key m.key
          clear hr HE0 HTy HPa HIn2 HRs r1 r2 r3 tb HLe HEq hq hk0 hqlt eqf eqs
          have HD : Hid ((decide ((l.getD q xZ).1.rcv < m.rcv) = true ∧ decide ((l.getD q xZ).1.rcv = m.rcv) = false ∧ cmpL (keyX (l.getD q xZ)) (m.rcv, m.key) ≤ 0) ∨ (decide ((l.getD q xZ).1.rcv < m.rcv) = false ∧ decide ((l.getD q xZ).1.rcv = m.rcv) = false ∧ 0 < cmpL (keyX (l.getD q xZ)) (m.rcv, m.key)) ∨ (decide ((l.getD q xZ).1.rcv < m.rcv) = false ∧ decide ((l.getD q xZ).1.rcv = m.rcv) = true ∧ ((decide ((l.getD q xZ).1.key < m.key) = true ∧ decide ((l.getD q xZ).1.key = m.key) = false ∧ cmpL (keyX (l.getD q xZ)) (m.rcv, m.key) ≤ 0) ∨ (decide ((l.getD q xZ).1.key < m.key) = false ∧ decide ((l.getD q xZ).1.key = m.key) = true ∧ cmpL (keyX (l.getD q xZ)) (m.rcv, m.key) ≤ 0) ∨ (decide ((l.getD q xZ).1.key < m.key) = false ∧ decide ((l.getD q xZ).1.key = m.key) = false ∧ 0 < cmpL (keyX (l.getD q xZ)) (m.rcv, m.key))))) := cmp_ways (keyX (l.getD q xZ)) (m.rcv, m.key)
          generalize ByteArray.mk ⟨(l.getD q xZ).1.rcv⟩ = qr at *
          generalize ByteArray.mk ⟨(l.getD q xZ).1.key⟩ = qk at *
          generalize (l.getD q xZ).1.tim = qt at *
          generalize ByteArray.mk ⟨m.rcv⟩ = br at *
          generalize ByteArray.mk ⟨m.key⟩ = bk at *
          generalize m.tim = tm at *
          rcases HD.out with ⟨h1, h2, h3⟩ | ⟨h1, h2, h3⟩ | ⟨h1, h2, h3⟩
          · rw [h1] at l0
            rw [h2] at s0
            have HExb := hidJ (HE1.out h3)
            have HStb : Hid True := trivial
            clear HD h1 h2 h3 HE1 HS0 l1 s1
            clear HStb
            unfold setK at HExb
            go_wp2
            go_quiet (fail)
            go_wp2
            go_region
            go_wp2
            go_end0
            exact ⟨rfl, HExb.out _ (by first | exact gb_drew _ none | exact gb_none (gb_drew _ none) (gb_drew _ none) | exact gb_none (Gw.drewN _ _).gb (gb_drew _ none) | exact (Gw.drewN _ _).gb)⟩
          · rw [h1] at l0
            rw [h2] at s0
            have HStc := hidJ (HS0.out h3)
            have HExc : Hid True := trivial
            clear HD h1 h2 h3 HE1 HS0 l1 s1
            clear HExc
            unfold setK at HStc
            go_wp2
            go_quiet (fail)
            go_wp2
            go_region
            go_wp2
            go_roundw
            case rel => exact ⟨q, by have := HQ.out; omega, by first | rfl | go_num, HStc.out _ (by first | exact gb_drew _ none | exact gb_none (gb_drew _ none) (gb_drew _ none) | exact gb_none (Gw.drewN _ _).gb (gb_drew _ none) | exact (Gw.drewN _ _).gb)⟩
            case measure => have := HQ.out; simp [intOf]; omega
          · rw [h1] at l0
            rw [h2] at s0
            rcases h3 with ⟨h3, h4, h5⟩ | ⟨h3, h4, h5⟩ | ⟨h3, h4, h5⟩
            · rw [h3] at l1
              rw [h4] at s1
              have HExd := hidJ (HE1.out h5)
              have HStd : Hid True := trivial
              clear HD h1 h2 h3 h4 h5 HE1 HS0
              clear HStd
              unfold setK at HExd
              go_wp2
              go_quiet (fail)
              go_wp2
              go_region
              go_wp2
              go_end0
              exact ⟨rfl, HExd.out _ (by first | exact gb_drew _ none | exact gb_none (gb_drew _ none) (gb_drew _ none) | exact gb_none (Gw.drewN _ _).gb (gb_drew _ none) | exact (Gw.drewN _ _).gb)⟩
            · rw [h3] at l1
              rw [h4] at s1
              have HExe := hidJ (HE1.out h5)
              have HSte : Hid True := trivial
              clear HD h1 h2 h3 h4 h5 HE1 HS0
              clear HSte
              unfold setK at HExe
              go_wp2
              go_quiet (fail)
              go_wp2
              go_region
              go_wp2
              go_end0
              exact ⟨rfl, HExe.out _ (by first | exact gb_drew _ none | exact gb_none (gb_drew _ none) (gb_drew _ none) | exact gb_none (Gw.drewN _ _).gb (gb_drew _ none) | exact (Gw.drewN _ _).gb)⟩
            · rw [h3] at l1
              rw [h4] at s1
              have HStf := hidJ (HS0.out h5)
              have HExf : Hid True := trivial
              clear HD h1 h2 h3 h4 h5 HE1 HS0
              clear HExf
              unfold setK at HStf
              go_wp2
              go_quiet (fail)
              go_wp2
              go_region
              go_wp2
              go_roundw
              case rel => exact ⟨q, by have := HQ.out; omega, by first | rfl | go_num, HStf.out _ (by first | exact gb_drew _ none | exact gb_none (gb_drew _ none) (gb_drew _ none) | exact gb_none (Gw.drewN _ _).gb (gb_drew _ none) | exact (Gw.drewN _ _).gb)⟩
              case measure => have := HQ.out; simp [intOf]; omega
end Go.Proofs.YtpglhdnepmcahaaGreatDoor
