/-
  Nfq, Nk6, in one text.
-/
import Derived.Test.YtpglhdnepmcahaaGreatDoorHmC
import Derived.Test.YtpglhdnepmcahaaGreatDoorNkA
/- Nfq -/
namespace Go.Proofs.YtpglhdnepmcahaaGreatDoor
open Go.RowKit Go.Shelf Go.Sort

set_option maxRecDepth 8000 in
set_option maxHeartbeats 12800000 in
theorem refNeeds_any (w : World) (m : MkR) (f s u v : Value) (has : Bool) (now rep : Int) (fi re : List (List LbT)) (h : RdM w m f s) (hu : RdLL w u fi) (hv : RdLL w v re) (hui : LLIn fi) (hvi : LLIn re) :
    Calls Tryz.prog 53 #[markV m f s, .bool has, .int .i64 now, .int .i64 rep, u, v] w fun e w' => e = .returned (.tuple #[.bool (needsM m has now rep fi re).1, .int .i64 (needsM m has now rep fi re).2]) ∧ w.grownBy w' none := by
  have HR : Hid (needsM m has now rep fi re = if timB now = false ∨ somB rep = false then (false, 1) else if allR fi = false ∨ allR re = false then (false, 41) else if has = false then (decide (0 < fi.length), 0) else if rightM m ≠ 0 then (false, rightM m) else (tellB m now rep fi re, 0)) := rfl
  have HTl : Hid (tellB m now rep fi re = if withinB fi m.fir = false then true else if fi.length = 0 then decide (0 < m.fir.length) else if withinB re m.res = false then true else decide (m.tim ≤ now - rep)) := rfl
  have H1 : Hid (∀ W, Calls Tryz.prog 58 #[.int .i64 now] W fun e w' => e = .returned (.bool (timB now)) ∧ w' = W) := fun W => refTimeN_any now W
  have HSm : Hid (somB rep = (decide (1 ≤ rep) && decide (rep ≤ 1099511627776))) := rfl
  have HNw : Hid (timB now = true → 0 ≤ now ∧ now ≤ 1125899906842624) := fun e => by
    unfold timB at e
    rw [Bool.and_eq_true, decide_eq_true_eq, decide_eq_true_eq] at e
    exact e
  have H3 : Hid (∀ W, w.grownBy W none → Calls Tryz.prog 83 #[u] W fun e w' => e = .returned (.bool (allR fi)) ∧ W.grownBy w' none) := fun W hW => refSets_any W u fi (hu.keep hW) hui
  have H4 : Hid (∀ W, w.grownBy W none → Calls Tryz.prog 83 #[v] W fun e w' => e = .returned (.bool (allR re)) ∧ W.grownBy w' none) := fun W hW => refSets_any W v re (hv.keep hW) hvi
  have H5 : Hid (∀ W, w.grownBy W none → Calls Tryz.prog 47 #[markV m f s] W fun e w' => e = .returned (.int .i64 (rightM m)) ∧ W.grownBy w' none) := fun W hW => refRightM_any W m f s (h.keep hW)
  have H6 : Hid (∀ W, w.grownBy W none → Calls Tryz.prog 84 #[u, f] W fun e w' => e = .returned (.bool (withinB fi m.fir)) ∧ W.grownBy w' none) := fun W hW => refWithin_any W u f fi m.fir (hu.keep hW) (h.fir.keep hW)
  have H7 : Hid (∀ W, w.grownBy W none → Calls Tryz.prog 84 #[v, s] W fun e w' => e = .returned (.bool (withinB re m.res)) ∧ W.grownBy w' none) := fun W hW => refWithin_any W v s re m.res (hv.keep hW) (h.res.keep hW)
  obtain ⟨fa, fc, hf, hf1, hf2⟩ := h.fir.shape
  obtain ⟨sa, sc, hs, hs1, hs2⟩ := h.res.shape
  obtain ⟨ua, uc, hu', hu1, hu2⟩ := hu.shape
  obtain ⟨va, vc, hv', hv1, hv2⟩ := hv.shape
  subst hf hs hu' hv'
  unfold markV at H5
  unfold markV
  have HB := hidJ (And.intro (B5.new w 34 (.string (ByteArray.mk ⟨m.rcv⟩)) (.string (ByteArray.mk ⟨m.key⟩)) (.int .i64 m.tim) (.slice fa m.fir.length fc) (.slice sa m.res.length sc)) (World.grownBy_alloc w (.cells #[.string (ByteArray.mk ⟨m.rcv⟩), .string (ByteArray.mk ⟨m.key⟩), .int .i64 m.tim, .slice fa m.fir.length fc, .slice sa m.res.length sc] 34) none))
  obtain ⟨nu, hnu⟩ : ∃ nu, fi.length = nu := ⟨_, rfl⟩
  obtain ⟨nf, hnf⟩ : ∃ nf, m.fir.length = nf := ⟨_, rfl⟩
  rw [hnu] at H3 H6 HR HTl hu1
  rw [hnf] at H5 H6 HB HTl hf1
  rw [hnu, hnf]
  clear h hnu hnf hu hv hui hvi
  generalize needsM m has now rep fi re = R at *
  generalize tellB m now rep fi re = t6 at *
  generalize rightM m = r5 at *
  generalize allR fi = t3 at *
  generalize allR re = t4 at *
  generalize timB now = t1 at *
  generalize somB rep = t2 at *
  generalize withinB fi m.fir = q1 at *
  generalize withinB re m.res = q2 at *
  generalize ByteArray.mk ⟨m.rcv⟩ = br at *
  generalize ByteArray.mk ⟨m.key⟩ = bk at *
  generalize m.tim = tm at *
  generalize m.res.length = ns at *
  generalize re.length = nv at *
  go_enter Tryz.func53, Tryz.ntmps53
  go_wp2_with fail
  refine (H1.out _).mono ?_
  rintro e w1 ⟨rfl, h1⟩
  have h1 := h1.symm
  subst h1
  clear H1
  generalize w.alloc (.cells #[.string br, .string bk, .int .i64 tm, .slice fa nf fc, .slice sa ns sc] 34) = W1 at *
  cases t1
  · have hR : R = (false, 1) := by rw [HR.out]; rfl
    subst hR
    go_wp2
    go_ret2
    exact ⟨rfl, HB.out.2⟩
  have hnw := HNw.out (by first | rfl | trivial)
  have HNW := hidJ hnw
  clear HNw hnw
  by_cases hp1 : rep < 1
  · have ht2 : t2 = false := by rw [HSm.out, decide_eq_false (by omega)]; rfl
    have hR : R = (false, 1) := by rw [HR.out, ht2]; rfl
    subst hR
    go_wp2
    go_ret2
    exact ⟨rfl, HB.out.2⟩
  by_cases hp2 : 1099511627776 < rep
  · have ht2 : t2 = false := by rw [HSm.out, decide_eq_false (show ¬ rep ≤ 1099511627776 by omega), Bool.and_false]
    have hR : R = (false, 1) := by rw [HR.out, ht2]; rfl
    subst hR
    go_wp2
    go_ret2
    exact ⟨rfl, HB.out.2⟩
  have ht2 : t2 = true := by rw [HSm.out, decide_eq_true (by omega), decide_eq_true (by omega)]; rfl
  subst ht2
  clear HSm
  go_wp2_with fail
  refine (H3.out _ HB.out.2).mono ?_
  rintro e w2 ⟨rfl, g1⟩
  have HB := hidJ (And.intro (HB.out.1.keep g1) (gb_none HB.out.2 g1))
  clear g1 H3
  cases t3
  · have hR : R = (false, 41) := by rw [HR.out]; rfl
    subst hR
    go_wp2
    go_ret2
    exact ⟨rfl, HB.out.2⟩
  go_wp2_with fail
  refine (H4.out _ HB.out.2).mono ?_
  rintro e w3 ⟨rfl, g1⟩
  have HB := hidJ (And.intro (HB.out.1.keep g1) (gb_none HB.out.2 g1))
  clear g1 H4
  cases t4
  · have hR : R = (false, 41) := by rw [HR.out]; rfl
    subst hR
    go_wp2
    go_ret2
    exact ⟨rfl, HB.out.2⟩
  cases has
  · have HRR : Hid (R = (decide (0 < nu), 0)) := by show R = _; rw [HR.out]; rfl
    clear HR
    go_wp2
    go_ret2
    exact ⟨by rw [HRR.out]; simp, HB.out.2⟩
  have HR2 : Hid (R = if r5 ≠ 0 then (false, r5) else (t6, 0)) := by show R = _; rw [HR.out]; rfl
  clear HR
  obtain ⟨c0, c1, c2, c3, c4⟩ := HB.out.1.cells
  go_wp2_with fail
  clear c0 c1 c2 c3 c4
  refine (H5.out _ HB.out.2).mono ?_
  rintro e w4 ⟨rfl, g1⟩
  have HB := hidJ (And.intro (HB.out.1.keep g1) (gb_none HB.out.2 g1))
  clear g1 H5
  by_cases h5 : r5 = 0
  · have HRR : Hid (R = (t6, 0)) := by show R = _; rw [HR2.out]; simp [h5]
    subst h5
    clear HR2
    obtain ⟨-, -, -, c3, -⟩ := HB.out.1.cells
    go_wp2_with fail
    clear c3
    refine (H6.out _ HB.out.2).mono ?_
    rintro e w5 ⟨rfl, g1⟩
    have HB := hidJ (And.intro (HB.out.1.keep g1) (gb_none HB.out.2 g1))
    clear g1 H6
    cases q1
    · have ht : t6 = true := by rw [HTl.out]; rfl
      subst ht
      go_wp2
      go_ret2
      exact ⟨by rw [HRR.out]; rfl, HB.out.2⟩
    obtain ⟨-, -, -, c3, c4⟩ := HB.out.1.cells
    by_cases h0 : nu = 0
    · have ht : t6 = decide (0 < nf) := by rw [HTl.out]; simp [h0]
      have HT6 := hidJ ht
      subst h0
      clear HTl ht H7 c4
      go_wp2
      go_ret2
      exact ⟨by rw [HRR.out, HT6.out]; simp, HB.out.2⟩
    have h0i : ((nu : Int) == 0) = false := by rw [beq_eq_false_iff_ne]; omega
    have h0j : ¬ (nu : Int) = 0 := by omega
    have HT6 : Hid (t6 = if q2 = false then true else decide (tm ≤ now - rep)) := by
      show t6 = _
      rw [HTl.out]
      simp [h0]
    clear HTl h0 c3
    go_wp2_with fail
    clear c4
    refine (H7.out _ HB.out.2).mono ?_
    rintro e w6 ⟨rfl, g1⟩
    have HB := hidJ (And.intro (HB.out.1.keep g1) (gb_none HB.out.2 g1))
    clear g1 H7
    cases q2
    · have ht : t6 = true := by rw [HT6.out]; rfl
      subst ht
      go_wp2
      go_ret2
      exact ⟨by rw [HRR.out]; rfl, HB.out.2⟩
    · obtain ⟨z, hz⟩ : ∃ z, now - rep = z := ⟨_, rfl⟩
      have hz1 : -9223372036854775808 ≤ now - rep := by have := HNW.out; omega
      have hz2 : now - rep ≤ 9223372036854775807 := by have := HNW.out; omega
      have HT7 : Hid (t6 = decide (tm ≤ z)) := by show t6 = _; rw [HT6.out, hz]; rfl
      rw [hz] at hz1 hz2
      clear HT6
      obtain ⟨-, -, c2, -, -⟩ := HB.out.1.cells
      go_wp2
      go_ret2
      exact ⟨by rw [HRR.out, HT7.out]; rfl, HB.out.2⟩
  · have HRR : Hid (R = (false, r5)) := by show R = _; rw [HR2.out]; simp [h5]
    have h5b : (r5 == 0) = false := by rw [beq_eq_false_iff_ne]; exact h5
    clear HR2 H6
    go_wp2
    go_ret2
    exact ⟨by rw [HRR.out]; rfl, HB.out.2⟩
end Go.Proofs.YtpglhdnepmcahaaGreatDoor

/- Nk6 -/
namespace Go.Proofs.YtpglhdnepmcahaaGreatDoor
open Go.RowKit Go.Shelf Go.Sort

theorem RefX.got {w : World} {gr : Nat} {v : Value} {l : List MkX} (h : RefX w gr v l) (a : LbT) : RdM w (getM l a).1 (getM l a).2.1 (getM l a).2.2 := by
  unfold getM
  cases hf : l.find? fun x => decide (keyX x = a) with
  | none => exact RdM.zero w
  | some x => exact (h.each x (List.mem_of_find?_eq_some hf)).1.rd
/-- what the document's Find answers -/
def RFnd (w : World) (l : List MkX) (a : LbT) (e : Ending) (w' : World) : Prop := ∃ a1 c1 a2 c2, (getM l a).2.1 = .slice a1 (getM l a).1.fir.length c1 ∧ (getM l a).2.2 = .slice a2 (getM l a).1.res.length c2 ∧ e = .returned (.tuple #[.agg #[.string (ByteArray.mk ⟨(getM l a).1.rcv⟩), .string (ByteArray.mk ⟨(getM l a).1.key⟩), .int .i64 (getM l a).1.tim, .slice a1 (getM l a).1.fir.length c1, .slice a2 (getM l a).1.res.length c2], .bool (hasM l a)]) ∧ w.grownBy w' none
set_option maxRecDepth 8000 in
set_option maxHeartbeats 6400000 in
theorem refFindX_any (w : World) (gr : Nat) (v : Value) (l : List MkX) (a : LbT) (h : RefX w gr v l) :
    Calls Tryz.prog 22 #[.pointer (some ⟨gr, 0, none⟩), .string (ByteArray.mk ⟨a.1⟩), .string (ByteArray.mk ⟨a.2⟩)] w fun e w' => RFnd w l a e w' := by
  obtain ⟨va, vc, ev, hvc⟩ := h.row.shape
  subst ev
  obtain ⟨a1, c1, e1, -⟩ := (h.got a).fir.shape
  obtain ⟨a2, c2, e2, -⟩ := (h.got a).res.shape
  obtain ⟨P, hP⟩ : ∃ P, P = posI l a := ⟨_, rfl⟩
  have HFd : Hid (∀ W, w.grownBy W none → Calls Tryz.prog 49 #[.pointer (some ⟨gr, 0, none⟩), .string (ByteArray.mk ⟨a.1⟩), .string (ByteArray.mk ⟨a.2⟩)] W fun e w' => e = .returned (.int .i64 P) ∧ W.grownBy w' none) := fun W hW => by
    rw [hP]
    exact refPos_any W gr _ l a (h.keep hW)
  have HHs : Hid (hasM l a = true → ∃ p g : Nat, P = (p : Int) ∧ p < l.length ∧ va = some ⟨g, 0, none⟩ ∧ ∀ W, w.grownBy W none → W.cell? ⟨g, p * 5, none⟩ = some (.string (ByteArray.mk ⟨(getM l a).1.rcv⟩)) ∧ W.cell? ⟨g, p * 5 + 1, none⟩ = some (.string (ByteArray.mk ⟨(getM l a).1.key⟩)) ∧ W.cell? ⟨g, p * 5 + 2, none⟩ = some (.int .i64 (getM l a).1.tim) ∧ W.cell? ⟨g, p * 5 + 3, none⟩ = some (.slice a1 (getM l a).1.fir.length c1) ∧ W.cell? ⟨g, p * 5 + 4, none⟩ = some (.slice a2 (getM l a).1.res.length c2)) := fun hb => by
    obtain ⟨p, k1, k2, k3⟩ := pos_at h.ris hb
    obtain ⟨-, k4⟩ := has_key h.ris k3 hb
    obtain ⟨g, c, e0, -⟩ := h.row.cells k2
    simp only [Value.slice.injEq] at e0
    refine ⟨p, g, by rw [hP]; exact k1, k2, e0.1, fun W hW => ?_⟩
    obtain ⟨g', c', e0', -, d0, d1, d2, d3, d4⟩ := (h.row.keep hW).cells k2
    simp only [Value.slice.injEq] at e0'
    have : g' = g := by
      have := e0'.1.symm.trans e0.1
      simpa using this
    rw [this, ← AtE.get h.ris k2 k4] at d0 d1 d2 d3 d4
    rw [e1] at d3
    rw [e2] at d4
    exact ⟨d0, d1, d2, d3, d4⟩
  have HNs : Hid (hasM l a = false → P = -1 ∧ (Value.agg #[.string (ByteArray.mk ⟨(getM l a).1.rcv⟩), .string (ByteArray.mk ⟨(getM l a).1.key⟩), .int .i64 (getM l a).1.tim, .slice a1 (getM l a).1.fir.length c1, .slice a2 (getM l a).1.res.length c2]) = .agg #[.string ⟨#[]⟩, .string ⟨#[]⟩, .int .i64 0, .slice none 0 0, .slice none 0 0]) := fun hb => by
    refine ⟨?_, ?_⟩
    · rw [hP]
      unfold posI
      rw [if_neg (by simp [hb])]
    · have hz := getM_none hb
      rw [hz] at e1 e2
      rw [hz, ← e1, ← e2]
      rfl
  have HF : Hid (∀ w', w.grownBy w' none → RFnd w l a (.returned (.tuple #[.agg #[.string (ByteArray.mk ⟨(getM l a).1.rcv⟩), .string (ByteArray.mk ⟨(getM l a).1.key⟩), .int .i64 (getM l a).1.tim, .slice a1 (getM l a).1.fir.length c1, .slice a2 (getM l a).1.res.length c2], .bool (hasM l a)])) w') := fun w' hg => ⟨a1, c1, a2, c2, e1, e2, rfl, hg⟩
  obtain ⟨FP, hFP⟩ : ∃ FP : Ending → World → Prop, FP = RFnd w l a := ⟨_, rfl⟩
  rw [← hFP] at HF
  rw [show (fun e w' => RFnd w l a e w') = (fun e w' => FP e w') from by rw [hFP]]
  have HBx := hidJ h
  clear hFP h hP e1 e2
  generalize hasM l a = HS at *
  generalize ByteArray.mk ⟨(getM l a).1.rcv⟩ = br at *
  generalize ByteArray.mk ⟨(getM l a).1.key⟩ = bk at *
  generalize (getM l a).1.tim = tm at *
  generalize (getM l a).1.fir.length = nf at *
  generalize (getM l a).1.res.length = ns at *
  generalize ByteArray.mk ⟨a.1⟩ = ar at *
  generalize ByteArray.mk ⟨a.2⟩ = ak at *
  have HB := hidJ (And.intro (B5.new w 34 (.string ⟨#[]⟩) (.string ⟨#[]⟩) (.int .i64 0) (.slice none 0 0) (.slice none 0 0)) (World.grownBy_alloc w (.cells #[.string ⟨#[]⟩, .string ⟨#[]⟩, .int .i64 0, .slice none 0 0, .slice none 0 0] 34) none))
  go_enter Tryz.func22, Tryz.ntmps22
  go_wp2_with fail
  refine (HFd.out _ HB.out.2).mono ?_
  rintro e w1 ⟨rfl, q1⟩
  have H1 := hidJ (And.intro (HB.out.1.keep q1) (gb_none HB.out.2 q1))
  clear HB q1 HFd
  obtain ⟨d0, d1, d2, d3, d4⟩ := H1.out.1.cells
  obtain ⟨f0, f1, f2, f3, f4⟩ := H1.out.1.froz
  cases HS
  · obtain ⟨rfl, hz⟩ := HNs.out (by first | rfl | trivial)
    have HF2 := hidJ HF.out
    rw [hz] at HF2
    clear HNs HHs HF hz HBx
    go_wp2
    have hB := set5_at (x := .string ⟨#[]⟩) (y := .string ⟨#[]⟩) (z := .int .i64 0) (u := .slice none 0 0) (v := .slice none 0 0) H1.out.1
    obtain ⟨m0, m1, m2, m3, m4⟩ := B5.cells hB
    unfold set5 at m0 m1 m2 m3 m4
    have HG := hidJ (HF2.out _ (gb_ch H1.out.2 (set5_ch w1 w.heap.size (.string ⟨#[]⟩) (.string ⟨#[]⟩) (.int .i64 0) (.slice none 0 0) (.slice none 0 0)) (fun k e => by omega)))
    unfold set5 at HG
    refine bodyPost_ret (v := .tuple #[.agg #[.string ⟨#[]⟩, .string ⟨#[]⟩, .int .i64 0, .slice none 0 0, .slice none 0 0], .bool false]) ?_ rfl HG.out
    simp [results, Tryz.f22, go_sem, m0, m1, m2, m3, m4]
  · obtain ⟨p, g, rfl, hpl, rfl, hcl⟩ := HHs.out (by first | rfl | trivial)
    obtain ⟨i0, i1, i2, i3, i4⟩ := hcl _ H1.out.2
    have g0 := (HBx.out.keep H1.out.2).box.cell
    have hpi : (p : Int) < (l.length : Int) := by omega
    clear HNs HHs hcl HBx
    generalize l.length = n at *
    go_wp2
    have hB := set5_at (x := .string br) (y := .string bk) (z := .int .i64 tm) (u := .slice a1 nf c1) (v := .slice a2 ns c2) H1.out.1
    obtain ⟨m0, m1, m2, m3, m4⟩ := B5.cells hB
    unfold set5 at m0 m1 m2 m3 m4
    have HG := hidJ (HF.out _ (gb_ch H1.out.2 (set5_ch w1 w.heap.size (.string br) (.string bk) (.int .i64 tm) (.slice a1 nf c1) (.slice a2 ns c2)) (fun k e => by omega)))
    unfold set5 at HG
    refine bodyPost_ret (v := .tuple #[.agg #[.string br, .string bk, .int .i64 tm, .slice a1 nf c1, .slice a2 ns c2], .bool true]) ?_ rfl HG.out
    simp [results, Tryz.f22, go_sem, m0, m1, m2, m3, m4]
set_option maxRecDepth 8000 in
set_option maxHeartbeats 6400000 in
theorem refNeedsX_any (w : World) (gr : Nat) (vv : Value) (l : List MkX) (a : LbT) (now rep : Int) (u v : Value) (fi re : List (List LbT)) (h : RefX w gr vv l) (hu : RdLL w u fi) (hv : RdLL w v re) (hui : LLIn fi) (hvi : LLIn re) :
    Calls Tryz.prog 23 #[.pointer (some ⟨gr, 0, none⟩), .string (ByteArray.mk ⟨a.1⟩), .string (ByteArray.mk ⟨a.2⟩), .int .i64 now, .int .i64 rep, u, v] w fun e w' => e = .returned (.tuple #[.bool (needsM (getM l a).1 (hasM l a) now rep fi re).1, .int .i64 (needsM (getM l a).1 (hasM l a) now rep fi re).2]) ∧ w.grownBy w' none := by
  obtain ⟨ua, uc, eu, -⟩ := hu.shape
  obtain ⟨wa, wc, ew, -⟩ := hv.shape
  subst eu ew
  have HFn : Hid (∀ W, w.grownBy W none → Calls Tryz.prog 22 #[.pointer (some ⟨gr, 0, none⟩), .string (ByteArray.mk ⟨a.1⟩), .string (ByteArray.mk ⟨a.2⟩)] W fun e w' => ∃ a1 c1 a2 c2, e = .returned (.tuple #[.agg #[.string (ByteArray.mk ⟨(getM l a).1.rcv⟩), .string (ByteArray.mk ⟨(getM l a).1.key⟩), .int .i64 (getM l a).1.tim, .slice a1 (getM l a).1.fir.length c1, .slice a2 (getM l a).1.res.length c2], .bool (hasM l a)]) ∧ Hid (RdM w' (getM l a).1 (.slice a1 (getM l a).1.fir.length c1) (.slice a2 (getM l a).1.res.length c2) ∧ W.grownBy w' none)) := fun W hW => by
    refine (refFindX_any W gr vv l a (h.keep hW)).mono ?_
    rintro e w' ⟨a1, c1, a2, c2, q1, q2, q3, q4⟩
    have hg := (h.keep (gb_none hW q4)).got a
    rw [q1, q2] at hg
    exact ⟨a1, c1, a2, c2, q3, hg, q4⟩
  have HNd : Hid (∀ W a1 c1 a2 c2, w.grownBy W none → RdM W (getM l a).1 (.slice a1 (getM l a).1.fir.length c1) (.slice a2 (getM l a).1.res.length c2) → Calls Tryz.prog 53 #[.agg #[.string (ByteArray.mk ⟨(getM l a).1.rcv⟩), .string (ByteArray.mk ⟨(getM l a).1.key⟩), .int .i64 (getM l a).1.tim, .slice a1 (getM l a).1.fir.length c1, .slice a2 (getM l a).1.res.length c2], .bool (hasM l a), .int .i64 now, .int .i64 rep, .slice ua fi.length uc, .slice wa re.length wc] W fun e w' => e = .returned (.tuple #[.bool (needsM (getM l a).1 (hasM l a) now rep fi re).1, .int .i64 (needsM (getM l a).1 (hasM l a) now rep fi re).2]) ∧ Hid (W.grownBy w' none)) := fun W a1 c1 a2 c2 hW hg => by
    have := refNeeds_any W (getM l a).1 _ _ _ _ (hasM l a) now rep fi re hg (hu.keep hW) (hv.keep hW) hui hvi
    unfold markV at this
    exact this
  clear h hu hv hui hvi
  generalize needsM (getM l a).1 (hasM l a) now rep fi re = NM at *
  generalize hasM l a = HS at *
  generalize ByteArray.mk ⟨(getM l a).1.rcv⟩ = br at *
  generalize ByteArray.mk ⟨(getM l a).1.key⟩ = bk at *
  generalize ByteArray.mk ⟨a.1⟩ = ar at *
  generalize ByteArray.mk ⟨a.2⟩ = ak at *
  generalize fi.length = un at *
  generalize re.length = wn at *
  obtain ⟨N1, N2⟩ := NM
  dsimp only at *
  go_enter Tryz.func23, Tryz.ntmps23
  go_wp2_with fail
  refine (HFn.out _ (gb_refl _ _)).mono ?_
  rintro e w1 ⟨a1, c1, a2, c2, rfl, H1⟩
  have HX : Hid (∀ C, w.grownBy (w1.alloc C) none ∧ RdM (w1.alloc C) (getM l a).1 (.slice a1 (getM l a).1.fir.length c1) (.slice a2 (getM l a).1.res.length c2)) := fun C => ⟨gb_none H1.out.2 (World.grownBy_alloc _ _ none), H1.out.1.keep (World.grownBy_alloc _ _ none)⟩
  clear H1 HFn
  generalize (getM l a).1.tim = tm at *
  go_wp2_with fail
  refine (HNd.out _ a1 c1 a2 c2 (HX.out _).1 (HX.out _).2).mono ?_
  rintro e w2 ⟨rfl, H2⟩
  have HF := hidJ (gb_none (HX.out (.cells #[.string br, .string bk, .int .i64 tm, .slice a1 (getM l a).1.fir.length c1, .slice a2 (getM l a).1.res.length c2] 34)).1 H2.out)
  clear HX H2 HNd
  go_wp2
  go_ret2
  exact ⟨rfl, HF.out⟩
end Go.Proofs.YtpglhdnepmcahaaGreatDoor
