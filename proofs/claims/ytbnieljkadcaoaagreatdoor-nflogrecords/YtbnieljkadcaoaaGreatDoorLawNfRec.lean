/-
  NflogRecords: a mark is a record and back; any bytes are a mark, or none: the walk.
-/
import Derived.Test.YtbnieljkadcaoaaGreatDoorHmC
import Derived.Test.YtbnieljkadcaoaaGreatDoorNmD
import Derived.Test.YtbnieljkadcaoaaGreatDoorNmE
import Derived.Lib.ConvBytes
namespace Go.Proofs.YtbnieljkadcaoaaGreatDoor
open Go.RowKit Go.Shelf Go.Sort

set_option maxRecDepth 8000 in
set_option maxHeartbeats 12800000 in
theorem nfRec_walk (w : World) (m : MkR) (f s : Value) (vb : Value) (l : List UInt8) (h : RdM w m f s) (lf : LLs m.fir) (lr : LLs m.res) (hv : Rd w vb l) (hl : l.length ≤ 1000000000000000000) (hT : U8S w) :
    Calls Tryz.prog 4 #[markV m f s, vb] w fun e w' => e = .returned (.bool true) ∧ Below w.heap.size w w' := by
  obtain ⟨fa, fc, ef, -⟩ := h.fir.shape
  obtain ⟨sa, sc, es, -⟩ := h.res.shape
  subst ef es
  have HM := hidJ (And.intro h (And.intro hv hT))
  have HAw : Hid (∀ W, w.grownBy W none → Calls Tryz.prog 12 #[] W fun e w' => e = .returned (.bool true) ∧ W.grownBy w' none) := fun W hW => awakeN_any W (hT.keep hW)
  have HMk : Hid (∀ W, w.grownBy W none → Calls Tryz.prog 13 #[markV m (.slice fa m.fir.length fc) (.slice sa m.res.length sc)] W fun e w' => ∃ a1 c1 a2 c2, e = .returned (markV m (.slice a1 m.fir.length c1) (.slice a2 m.res.length c2)) ∧ Hid (RdLL w' (.slice a1 m.fir.length c1) m.fir ∧ RdLL w' (.slice a2 m.res.length c2) m.res ∧ W.grownBy w' none)) := fun W hW => by
    refine (markL_any W m _ _ (h.fir.keep hW) (h.res.keep hW) lf lr).mono ?_
    rintro e w' ⟨f', s', rfl, q1, q2, q3⟩
    obtain ⟨a1, c1, e1⟩ := q1.shape
    obtain ⟨a2, c2, e2⟩ := q2.shape
    subst e1 e2
    exact ⟨a1, c1, a2, c2, rfl, q1.rd, q2.rd, q3⟩
  have HRc : Hid (∀ W a1 c1 a2 c2, w.grownBy W none → RdLL W (.slice a1 m.fir.length c1) m.fir → RdLL W (.slice a2 m.res.length c2) m.res → Calls Tryz.prog 14 #[markV m (.slice a1 m.fir.length c1) (.slice a2 m.res.length c2)] W fun e w' => ∃ a1 n1 c1, e = .returned (.tuple #[.slice a1 n1 c1, .int .i64 (rightM m)]) ∧ Hid (Rd w' (.slice a1 n1 c1) (recS m) ∧ W.grownBy w' none)) := fun W a1 c1 a2 c2 hW h1 h2 => by
    refine (recordN_any W m _ _ ⟨h1, h2, h.inF, h.inR, h.inr, h.ink⟩ (hT.keep hW)).mono ?_
    rintro e w' ⟨x1, x2, x3, rfl, q1, q2⟩
    exact ⟨x1, x2, x3, rfl, q1.rd, q2⟩
  have HRr : Hid (∀ W, w.grownBy W none → Calls Tryz.prog 15 #[markV m (.slice fa m.fir.length fc) (.slice sa m.res.length sc)] W fun e w' => ∃ a1 n1 c1, e = .returned (.tuple #[.slice a1 n1 c1, .int .i64 (rightM m)]) ∧ Hid (Rd w' (.slice a1 n1 c1) (recS m) ∧ W.grownBy w' none)) := fun W hW => by
    refine (refRecord_any W m _ _ (h.keep hW)).mono ?_
    rintro e w' ⟨x1, x2, x3, rfl, q1, q2⟩
    exact ⟨x1, x2, x3, rfl, q1.rd, q2⟩
  have HRq : Hid (∀ W e w' l', RdQ W l' e w' → ∃ a1 c1 a2 c2, e = .returned (.tuple #[.agg #[.string (ByteArray.mk ⟨(readM l').1.rcv⟩), .string (ByteArray.mk ⟨(readM l').1.key⟩), .int .i64 (readM l').1.tim, .slice a1 (readM l').1.fir.length c1, .slice a2 (readM l').1.res.length c2], .int .i64 (readM l').2]) ∧ Hid (RdLL w' (.slice a1 (readM l').1.fir.length c1) (readM l').1.fir ∧ RdLL w' (.slice a2 (readM l').1.res.length c2) (readM l').1.res ∧ W.grownBy w' none)) := fun W e w' l' hq => by
    obtain ⟨a1, c1, a2, c2, q1, q2, q3, q4⟩ := hq
    exact ⟨a1, c1, a2, c2, q1, q2.rd, q3.rd, q4⟩
  obtain ⟨G, hG⟩ : ∃ G, G = (readM l).1 := ⟨_, rfl⟩
  obtain ⟨GE, hGE⟩ : ∃ GE, GE = (readM l).2 := ⟨_, rfl⟩
  have HRd : Hid (∀ W, w.grownBy W none → Calls Tryz.prog 16 #[vb] W fun e w' => ∃ a1 c1 a2 c2, e = .returned (.tuple #[.agg #[.string (ByteArray.mk ⟨G.rcv⟩), .string (ByteArray.mk ⟨G.key⟩), .int .i64 G.tim, .slice a1 G.fir.length c1, .slice a2 G.res.length c2], .int .i64 GE]) ∧ Hid (RdLL w' (.slice a1 G.fir.length c1) G.fir ∧ RdLL w' (.slice a2 G.res.length c2) G.res ∧ W.grownBy w' none)) := fun W hW => by
    rw [hG, hGE]
    exact (readR_any W vb l (hv.keep hW) hl (hT.keep hW)).mono (fun e w' hq => HRq.out W e w' l hq)
  have HRf : Hid (∀ W, w.grownBy W none → Calls Tryz.prog 17 #[vb] W fun e w' => ∃ a1 c1 a2 c2, e = .returned (.tuple #[.agg #[.string (ByteArray.mk ⟨G.rcv⟩), .string (ByteArray.mk ⟨G.key⟩), .int .i64 G.tim, .slice a1 G.fir.length c1, .slice a2 G.res.length c2], .int .i64 GE]) ∧ Hid (RdLL w' (.slice a1 G.fir.length c1) G.fir ∧ RdLL w' (.slice a2 G.res.length c2) G.res ∧ W.grownBy w' none)) := fun W hW => by
    rw [hG, hGE]
    exact (refReadM_any W vb l (hv.keep hW) hl).mono (fun e w' hq => HRq.out W e w' l hq)
  have HRb : Hid (rightM m = 0 → ∀ W v, w.grownBy W none → Rd W v (recS m) → Calls Tryz.prog 16 #[v] W fun e w' => ∃ a1 c1 a2 c2, e = .returned (.tuple #[.agg #[.string (ByteArray.mk ⟨m.rcv⟩), .string (ByteArray.mk ⟨m.key⟩), .int .i64 m.tim, .slice a1 m.fir.length c1, .slice a2 m.res.length c2], .int .i64 0]) ∧ Hid (RdLL w' (.slice a1 m.fir.length c1) m.fir ∧ RdLL w' (.slice a2 m.res.length c2) m.res ∧ W.grownBy w' none)) := fun hR W v hW hv' => by
    have hrec : recS m = recB m := by unfold recS; rw [if_pos hR]
    rw [hrec] at hv'
    have ht := right_txt hR
    have hs := right_sets hR
    have hl5 := right_len hR
    have hb := readM_back hR ht.1 ht.2.1 ht.2.2 ⟨hl5.1, allR_mem hs.1⟩ ⟨hl5.2, allR_mem hs.2⟩
    have hlen : (recB m).length ≤ 1000000000000000000 := by
      have := ouB_len hR 2
      have e : ouB m 2 = recB m := rfl
      rw [e] at this
      omega
    refine (readR_any W v (recB m) hv' hlen (hT.keep hW)).mono ?_
    intro e w' hq
    have := HRq.out W e w' (recB m) hq
    rw [hb] at this
    exact this
  have HSx : Hid (∀ W u v u' v', RdLL W u m.fir → RdLL W v m.res → RdLL W u' m.fir → RdLL W v' m.res → Calls Tryz.prog 18 #[markV m u v, markV m u' v'] W fun e w' => e = .returned (.bool true) ∧ W.grownBy w' none) := fun W u v u' v' q1 q2 q3 q4 => sameM_refl W m u v u' v' q1 q2 q3 q4
  have HSg : Hid (∀ W u v u' v', RdLL W u G.fir → RdLL W v G.res → RdLL W u' G.fir → RdLL W v' G.res → Calls Tryz.prog 18 #[markV G u v, markV G u' v'] W fun e w' => e = .returned (.bool true) ∧ W.grownBy w' none) := fun W u v u' v' q1 q2 q3 q4 => sameM_refl W G u v u' v' q1 q2 q3 q4
  have HCv : Hid (∀ W v, Rd W v (recS m) → (convert 41 9 v).run Tryz.prog W = .ok (.string (ByteArray.mk ⟨recS m⟩)) W) := fun W v hr => run_strU hr
  have HB := hidJ (And.intro (B5.new w 31 (.string (ByteArray.mk ⟨m.rcv⟩)) (.string (ByteArray.mk ⟨m.key⟩)) (.int .i64 m.tim) (.slice fa m.fir.length fc) (.slice sa m.res.length sc)) (World.grownBy_alloc w (.cells #[.string (ByteArray.mk ⟨m.rcv⟩), .string (ByteArray.mk ⟨m.key⟩), .int .i64 m.tim, .slice fa m.fir.length fc, .slice sa m.res.length sc] 31) none))
  obtain ⟨va, vc, ev, -⟩ := hv
  subst ev
  clear h lf lr hl hT HRq hG hGE
  unfold markV at HMk HRc HRr HSx HSg
  unfold markV
  have HFm := hidJ (And.intro HM.out.1.fir HM.out.1.res)
  clear HM
  generalize l.length = ln at *
  generalize ByteArray.mk ⟨m.rcv⟩ = br at *
  generalize ByteArray.mk ⟨m.key⟩ = bk at *
  generalize m.tim = tm at *
  generalize m.fir.length = nf at *
  generalize m.res.length = ns at *
  generalize ByteArray.mk ⟨G.rcv⟩ = gr at *
  generalize ByteArray.mk ⟨G.key⟩ = gk at *
  generalize G.tim = gt at *
  generalize G.fir.length = gf at *
  generalize G.res.length = gs at *
  generalize ByteArray.mk ⟨recS m⟩ = rs at *
  obtain ⟨R, hR⟩ : ∃ R, R = rightM m := ⟨_, rfl⟩
  rw [← hR] at HRc HRr HRb
  clear hR
  go_enter Tryz.func4, Tryz.ntmps4
  go_wp2_with fail
  refine (HMk.out _ HB.out.2).mono ?_
  rintro e w1 ⟨a1, x1, a2, x2, rfl, H1⟩
  obtain ⟨W1, hW1⟩ : ∃ W1, W1 = w1.alloc (.cells #[.string br, .string bk, .int .i64 tm, .slice a1 nf x1, .slice a2 ns x2] 31) := ⟨_, rfl⟩
  have k1 : w1.grownBy W1 none := by rw [hW1]; exact World.grownBy_alloc _ _ none
  have H2 := hidJ (And.intro (gb_none (gb_none HB.out.2 H1.out.2.2) k1) (And.intro ((HB.out.1.keep H1.out.2.2).keep k1) (And.intro (show B5 W1 w1.heap.size 31 (.string br) (.string bk) (.int .i64 tm) (.slice a1 nf x1) (.slice a2 ns x2) by rw [hW1]; exact B5.new w1 _ _ _ _ _ _) (And.intro (H1.out.1.keep k1) (H1.out.2.1.keep k1)))))
  clear H1 HMk k1 HB
  go_wp2_with fail
  rw [← hW1]
  clear hW1
  generalize w1.heap.size = b5 at *
  refine (HRc.out _ a1 x1 a2 x2 H2.out.1 H2.out.2.2.2.1 H2.out.2.2.2.2).mono ?_
  rintro e w2 ⟨p1, p2, p3, rfl, H3⟩
  have H4 := hidJ (And.intro (gb_none H2.out.1 H3.out.2) (And.intro (H2.out.2.1.keep H3.out.2) (And.intro (H2.out.2.2.1.keep H3.out.2) (And.intro (H2.out.2.2.2.1.keep H3.out.2) (And.intro (H2.out.2.2.2.2.keep H3.out.2) H3.out.1)))))
  clear H2 H3 HRc
  obtain ⟨c0, c1, c2, c3, c4⟩ := H4.out.2.1.cells
  go_wp2_with fail
  refine (HRr.out _ H4.out.1).mono ?_
  rintro e w3 ⟨q1, q2, q3, rfl, H5⟩
  have H6 := hidJ (And.intro (gb_none H4.out.1 H5.out.2) (And.intro (H4.out.2.1.keep H5.out.2) (And.intro (H4.out.2.2.1.keep H5.out.2) (And.intro (H4.out.2.2.2.1.keep H5.out.2) (And.intro (H4.out.2.2.2.2.1.keep H5.out.2) (And.intro (H4.out.2.2.2.2.2.keep H5.out.2) H5.out.1))))))
  clear H4 H5 HRr c0 c1 c2 c3 c4
  go_wp2_with fail
  refine (HRd.out _ H6.out.1).mono ?_
  rintro e w4 ⟨y1, y2, y3, y4, rfl, H7⟩
  obtain ⟨W4, hW4⟩ : ∃ W4, W4 = w4.alloc (.cells #[.string gr, .string gk, .int .i64 gt, .slice y1 gf y2, .slice y3 gs y4] 31) := ⟨_, rfl⟩
  have k4 : w3.grownBy W4 none := by rw [hW4]; exact gb_none H7.out.2.2 (World.grownBy_alloc _ _ none)
  have H8 := hidJ (And.intro k4 (And.intro (show B5 W4 w4.heap.size 31 (.string gr) (.string gk) (.int .i64 gt) (.slice y1 gf y2) (.slice y3 gs y4) by rw [hW4]; exact B5.new w4 _ _ _ _ _ _) (And.intro (show RdLL W4 (.slice y1 gf y2) G.fir by rw [hW4]; exact H7.out.1.keep (World.grownBy_alloc _ _ none)) (show RdLL W4 (.slice y3 gs y4) G.res by rw [hW4]; exact H7.out.2.1.keep (World.grownBy_alloc _ _ none)))))
  clear H7 k4 HRd
  go_wp2_with fail
  rw [← hW4]
  clear hW4
  generalize w4.heap.size = b10 at *
  refine (HRf.out _ (gb_none H6.out.1 H8.out.1)).mono ?_
  rintro e w5 ⟨z1, z2, z3, z4, rfl, H9⟩
  obtain ⟨W5, hW5⟩ : ∃ W5, W5 = w5.alloc (.cells #[.string gr, .string gk, .int .i64 gt, .slice z1 gf z2, .slice z3 gs z4] 31) := ⟨_, rfl⟩
  have k5 : W4.grownBy W5 none := by rw [hW5]; exact gb_none H9.out.2.2 (World.grownBy_alloc _ _ none)
  have k6 := gb_none H8.out.1 k5
  have HA := hidJ (And.intro (gb_none H6.out.1 k6) (And.intro (H6.out.2.1.keep k6) (And.intro (H6.out.2.2.1.keep k6) (And.intro (H6.out.2.2.2.1.keep k6) (And.intro (H6.out.2.2.2.2.1.keep k6) (And.intro (H6.out.2.2.2.2.2.1.keep k6) (H6.out.2.2.2.2.2.2.keep k6)))))))
  have HC := hidJ (And.intro (H8.out.2.1.keep k5) (And.intro (H8.out.2.2.1.keep k5) (And.intro (H8.out.2.2.2.keep k5) (And.intro (show B5 W5 w5.heap.size 31 (.string gr) (.string gk) (.int .i64 gt) (.slice z1 gf z2) (.slice z3 gs z4) by rw [hW5]; exact B5.new w5 _ _ _ _ _ _) (And.intro (show RdLL W5 (.slice z1 gf z2) G.fir by rw [hW5]; exact H9.out.1.keep (World.grownBy_alloc _ _ none)) (show RdLL W5 (.slice z3 gs z4) G.res by rw [hW5]; exact H9.out.2.1.keep (World.grownBy_alloc _ _ none)))))))
  have v1 := HCv.out _ _ HA.out.2.2.2.2.2.1
  have v2 := HCv.out _ _ HA.out.2.2.2.2.2.2
  obtain ⟨c0, c1, c2, c3, c4⟩ := HA.out.2.1.cells
  obtain ⟨d0, d1, d2, d3, d4⟩ := HA.out.2.2.1.cells
  rw [hW5] at v1 v2 c0 c1 c2 c3 c4 d0 d1 d2 d3 d4
  clear H6 H8 H9 HRf k5 k6 HCv
  go_wp2_with fail
  rw [← hW5]
  clear v1 v2 c0 c1 c2 c3 c4 d0 d1 d2 d3 d4 hW5
  generalize w5.heap.size = b12 at *
  refine (HSx.out _ _ _ _ _ HA.out.2.2.2.1 HA.out.2.2.2.2.1 (HFm.out.1.keep HA.out.1) (HFm.out.2.keep HA.out.1)).mono ?_
  rintro e w6 ⟨rfl, g6⟩
  have HD := hidJ (And.intro (gb_none HA.out.1 g6) (And.intro (HA.out.2.1.keep g6) (HA.out.2.2.2.2.2.1.keep g6)))
  have HE := hidJ (And.intro (HC.out.1.keep g6) (And.intro (HC.out.2.1.keep g6) (And.intro (HC.out.2.2.1.keep g6) (And.intro (HC.out.2.2.2.1.keep g6) (And.intro (HC.out.2.2.2.2.1.keep g6) (HC.out.2.2.2.2.2.keep g6))))))
  clear HA HC g6
  obtain ⟨c0, c1, c2, c3, c4⟩ := HE.out.1.cells
  obtain ⟨d0, d1, d2, d3, d4⟩ := HE.out.2.2.2.1.cells
  go_wp2_with fail
  clear c0 c1 c2 c3 c4 d0 d1 d2 d3 d4
  refine (HSg.out _ _ _ _ _ HE.out.2.1 HE.out.2.2.1 HE.out.2.2.2.2.1 HE.out.2.2.2.2.2).mono ?_
  rintro e w7 ⟨rfl, g7⟩
  have HH := hidJ (And.intro (gb_none HD.out.1 g7) (And.intro (HD.out.2.1.keep g7) (HD.out.2.2.keep g7)))
  clear HD HE g7 HSg
  by_cases hR : R = 0
  · subst hR
    have HRb2 := hidJ (HRb.out (by first | rfl | trivial))
    clear HRb
    go_wp2_with fail
    refine (HRb2.out _ _ HH.out.1 HH.out.2.2).mono ?_
    rintro e w8 ⟨u1, u2, u3, u4, rfl, H8⟩
    obtain ⟨W8, hW8⟩ : ∃ W8, W8 = w8.alloc (.cells #[.string br, .string bk, .int .i64 tm, .slice u1 nf u2, .slice u3 ns u4] 31) := ⟨_, rfl⟩
    have k8 : w7.grownBy W8 none := by rw [hW8]; exact gb_none H8.out.2.2 (World.grownBy_alloc _ _ none)
    have HI := hidJ (And.intro (gb_none HH.out.1 k8) (And.intro (HH.out.2.1.keep k8) (And.intro (show RdLL W8 (.slice u1 nf u2) m.fir by rw [hW8]; exact H8.out.1.keep (World.grownBy_alloc _ _ none)) (show RdLL W8 (.slice u3 ns u4) m.res by rw [hW8]; exact H8.out.2.1.keep (World.grownBy_alloc _ _ none)))))
    obtain ⟨c0, c1, c2, c3, c4⟩ := HI.out.2.1.cells
    rw [hW8] at c0 c1 c2 c3 c4
    clear k8 H8 HRb2 HH
    go_wp2_with fail
    rw [← hW8]
    clear c0 c1 c2 c3 c4 hW8
    refine (HSx.out _ _ _ _ _ HI.out.2.2.1 HI.out.2.2.2 (HFm.out.1.keep HI.out.1) (HFm.out.2.keep HI.out.1)).mono ?_
    rintro e w9 ⟨rfl, g9⟩
    have HJ := hidJ (gb_none HI.out.1 g9)
    clear HI g9 HSx
    go_wp2_with fail
    refine (HAw.out _ HJ.out).mono ?_
    rintro e wa ⟨rfl, ga⟩
    have HF := hidJ (gb_below (gb_none HJ.out ga))
    clear ga HAw HJ
    go_wp2
    go_ret
    exact ⟨rfl, HF.out⟩
  · have hRb : (R == 0) = false := by rw [beq_eq_false_iff_ne]; exact hR
    go_wp2_with fail
    refine (HAw.out _ HH.out.1).mono ?_
    rintro e wa ⟨rfl, ga⟩
    have HF := hidJ (gb_below (gb_none HH.out.1 ga))
    clear ga HAw HH
    go_wp2
    go_ret
    exact ⟨rfl, HF.out⟩
end Go.Proofs.YtbnieljkadcaoaaGreatDoor
