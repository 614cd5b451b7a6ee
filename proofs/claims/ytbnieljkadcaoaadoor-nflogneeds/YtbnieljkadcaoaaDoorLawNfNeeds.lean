/-
  NflogNeeds: whether something must be told again is what the chapter says: the walk of the law.
-/
import Derived.Test.YtbnieljkadcaoaaDoorNfx
import Derived.Test.YtbnieljkadcaoaaDoorNeB
namespace Go.Proofs.YtbnieljkadcaoaaDoor
open Go.RowKit Go.Shelf Go.Sort

theorem up_ne {a b : List LbT} (h : cmpLs a b < 0) : a ≠ b := fun e => by
  have := (cmpLs_zero a b).2 e
  omega
/-- two rising lists of the same members are one -/
theorem up_eq : ∀ (a b : List (List LbT)), upS a → upS b → (∀ x, x ∈ a ↔ x ∈ b) → a = b
  | [], [], _, _, _ => rfl
  | [], y :: b, _, _, h => by have := (h y).2 (by simp); simp at this
  | x :: a, [], _, _, h => by have := (h x).1 (by simp); simp at this
  | x :: a, y :: b, ha, hb, h => by
    have ha := List.pairwise_cons.1 ha
    have hb := List.pairwise_cons.1 hb
    have hxy : x = y := by
      rcases List.mem_cons.1 ((h x).1 (by simp)) with e | e
      · exact e
      · rcases List.mem_cons.1 ((h y).2 (by simp)) with e2 | e2
        · exact e2.symm
        · have h1 := hb.1 x e
          have h2 := ha.1 y e2
          have h3 := cmpLs_neg x y
          omega
    subst hxy
    rw [up_eq a b ha.2 hb.2 (fun z => ?_)]
    constructor
    · intro hz
      rcases List.mem_cons.1 ((h z).1 (List.mem_cons_of_mem _ hz)) with e | e
      · exact absurd e.symm (up_ne (ha.1 z hz))
      · exact e
    · intro hz
      rcases List.mem_cons.1 ((h z).2 (List.mem_cons_of_mem _ hz)) with e | e
      · exact absurd e.symm (up_ne (hb.1 z hz))
      · exact e
/-- what is wrong of them -/
def errS (lss : List (List LbT)) : Int := if allR lss = true then 0 else 41
/-- what they come to, in order and each once -/
def SrtIs (lss R : List (List LbT)) : Prop := upS R ∧ ∀ x, x ∈ R ↔ allR lss = true ∧ x ∈ lss
theorem SrtIs.eq {lss a b : List (List LbT)} (ha : SrtIs lss a) (hb : SrtIs lss b) : a = b := up_eq a b ha.1 hb.1 fun x => (ha.2 x).trans (hb.2 x).symm
theorem SrtQ.is {w w' : World} {lss : List (List LbT)} {e : Ending} (h : SrtQ w lss e w') : ∃ a n c R, e = .returned (.tuple #[.slice a n c, .int .i64 (errS lss)]) ∧ OwnLL w' w.heap.size (.slice a n c) R ∧ SrtIs lss R ∧ w.grownBy w' none := by
  obtain ⟨h1, ⟨h2, h3⟩ | ⟨h2, a, n, c, R, h3, h4, h5, h6⟩⟩ := h
  · refine ⟨none, 0, 0, [], by rw [h3, errS, h2]; rfl, OwnLL.nil _ _, ⟨List.Pairwise.nil, fun x => ?_⟩, h1⟩
    rw [h2]
    simp
  · exact ⟨a, n, c, R, by rw [h3, errS, if_pos h2], h4, ⟨h5, fun x => by rw [h6 x]; simp [h2]⟩, h1⟩
theorem SrtR.is {w w' : World} {lss : List (List LbT)} {e : Ending} (h : SrtR w lss e w') : ∃ a n c R, e = .returned (.tuple #[.slice a n c, .int .i64 (errS lss)]) ∧ RdLL w' (.slice a n c) R ∧ SrtIs lss R ∧ w.grownBy w' none := by
  obtain ⟨h1, ⟨h2, h3⟩ | ⟨h2, a, n, c, R, h3, h4, h5, h6⟩⟩ := h
  · refine ⟨none, 0, 0, [], by rw [h3, errS, h2]; rfl, RdLL.nil _, ⟨List.Pairwise.nil, fun x => ?_⟩, h1⟩
    rw [h2]
    simp
  · exact ⟨a, n, c, R, by rw [h3, errS, if_pos h2], h4, ⟨h5, fun x => by rw [h6 x]; simp [h2]⟩, h1⟩
/-- the law behind its copies -/
structure NdG (w : World) (bx : Nat) (x0 x1 x2 : Value) (m : MkR) (f s f' s' fv rv : Value) (fi re : List (List LbT)) (W : World) : Prop where
  old : w.grownBy W none
  hm : B5 W w.heap.size 24 x0 x1 x2 f s
  hx : B5 W bx 24 x0 x1 x2 f' s'
  rx : RdM W m f' s'
  rf : RdLL W fv fi
  rr : RdLL W rv re
theorem NdG.keep {w : World} {bx : Nat} {x0 x1 x2 : Value} {m : MkR} {f s f' s' fv rv : Value} {fi re : List (List LbT)} {W W' : World} (h : NdG w bx x0 x1 x2 m f s f' s' fv rv fi re W) (hg : W.grownBy W' none) : NdG w bx x0 x1 x2 m f s f' s' fv rv fi re W' :=
  ⟨gb_none h.old hg, h.hm.keep hg, h.hx.keep hg, h.rx.keep hg, h.rf.keep hg, h.rr.keep hg⟩
/-- the cells of both marks -/
def Cl (W : World) (b : Nat) (x0 x1 x2 f s : Value) : Prop := W.cell? ⟨b, 0, none⟩ = some x0 ∧ W.cell? ⟨b, 1, none⟩ = some x1 ∧ W.cell? ⟨b, 2, none⟩ = some x2 ∧ W.cell? ⟨b, 3, none⟩ = some f ∧ W.cell? ⟨b, 4, none⟩ = some s
set_option maxRecDepth 8000 in
set_option maxHeartbeats 25600000 in
theorem nfNeeds_walk (w : World) (m : MkR) (f s : Value) (has : Bool) (now rep : Int) (u v : Value) (fi re : List (List LbT)) (hm : RdM w m f s) (lf : LLs m.fir) (lr : LLs m.res) (hu : RdLL w u fi) (hv : RdLL w v re) (iu : LLIn fi) (iv : LLIn re) (lu : LLs fi) (lv : LLs re) (hT : U8S w) :
    Calls Tryd.prog 3 #[markV m f s, .bool has, .int .i64 now, .int .i64 rep, u, v] w fun e w' => e = .returned (.bool true) ∧ Below w.heap.size w w' := by
  have HM := hidJ (And.intro hm (And.intro hu (And.intro hv (And.intro iu (And.intro iv hT)))))
  have HLs := hidJ (And.intro lf (And.intro lr (And.intro lu lv)))
  obtain ⟨fa, fc, ef, -⟩ := hm.fir.shape
  obtain ⟨sa, sc, es, -⟩ := hm.res.shape
  obtain ⟨ua, uc, eu, -⟩ := hu.shape
  obtain ⟨va, vc, ev, -⟩ := hv.shape
  subst ef es eu ev
  clear hm hu hv iu iv hT lf lr lu lv
  have HMk : Hid (∀ W, w.grownBy W none → Calls Tryd.prog 6 #[markV m (.slice fa m.fir.length fc) (.slice sa m.res.length sc)] W fun e w' => ∃ a1 n1 c1 a2 n2 c2, e = .returned (markV m (.slice a1 n1 c1) (.slice a2 n2 c2)) ∧ Hid (RdM w' m (.slice a1 n1 c1) (.slice a2 n2 c2) ∧ W.grownBy w' none)) := fun W hW => by
    refine (markL_any W m _ _ (HM.out.1.fir.keep hW) (HM.out.1.res.keep hW) HLs.out.1 HLs.out.2.1).mono ?_
    rintro e w' ⟨f', s', q1, q2, q3, q4⟩
    obtain ⟨a1, c1, e1⟩ := q2.shape
    obtain ⟨a2, c2, e2⟩ := q3.shape
    subst e1 e2
    exact ⟨a1, _, c1, a2, _, c2, q1, ⟨q2.rd, q3.rd, HM.out.1.inF, HM.out.1.inR, HM.out.1.inr, HM.out.1.ink⟩, q4⟩
  have HLf : Hid (∀ W, w.grownBy W none → Calls Tryd.prog 7 #[.slice ua fi.length uc] W fun e w' => ∃ a n c, e = .returned (.slice a n c) ∧ Hid (RdLL w' (.slice a n c) fi ∧ W.grownBy w' none)) := fun W hW => by
    refine (lentS_any W _ fi (HM.out.2.1.keep hW) HLs.out.2.2.1).mono ?_
    rintro e w' ⟨v', q1, q2, q3⟩
    obtain ⟨a, c, e1⟩ := q2.shape
    subst e1
    exact ⟨a, _, c, q1, q2.rd, q3⟩
  have HLr : Hid (∀ W, w.grownBy W none → Calls Tryd.prog 7 #[.slice va re.length vc] W fun e w' => ∃ a n c, e = .returned (.slice a n c) ∧ Hid (RdLL w' (.slice a n c) re ∧ W.grownBy w' none)) := fun W hW => by
    refine (lentS_any W _ re (HM.out.2.2.1.keep hW) HLs.out.2.2.2).mono ?_
    rintro e w' ⟨v', q1, q2, q3⟩
    obtain ⟨a, c, e1⟩ := q2.shape
    subst e1
    exact ⟨a, _, c, q1, q2.rd, q3⟩
  have HAw : Hid (∀ W, w.grownBy W none → Calls Tryd.prog 19 #[] W fun e w' => e = .returned (.bool true) ∧ W.grownBy w' none) := fun W hW => awakeN_any W (HM.out.2.2.2.2.2.keep hW)
  unfold markV at HMk
  unfold markV
  obtain ⟨br, hbr⟩ : ∃ br, br = ByteArray.mk ⟨m.rcv⟩ := ⟨_, rfl⟩
  obtain ⟨bk, hbk⟩ : ∃ bk, bk = ByteArray.mk ⟨m.key⟩ := ⟨_, rfl⟩
  obtain ⟨tm, htm⟩ : ∃ tm, tm = m.tim := ⟨_, rfl⟩
  obtain ⟨nf, hnf⟩ : ∃ nf, nf = m.fir.length := ⟨_, rfl⟩
  obtain ⟨ns, hns⟩ : ∃ ns, ns = m.res.length := ⟨_, rfl⟩
  obtain ⟨nu, hnu⟩ : ∃ nu, nu = fi.length := ⟨_, rfl⟩
  obtain ⟨nv, hnv⟩ : ∃ nv, nv = re.length := ⟨_, rfl⟩
  have HE := hidJ (And.intro hbr (And.intro hbk (And.intro htm (And.intro hnf (And.intro hns (And.intro hnu hnv))))))
  rw [← hbr, ← hbk, ← htm, ← hnf, ← hns] at HMk
  rw [← hnu] at HLf
  rw [← hnv] at HLr
  rw [← hbr, ← hbk, ← htm, ← hnf, ← hns, ← hnu, ← hnv]
  clear hbr hbk htm hnf hns hnu hnv
  have HB := hidJ (And.intro (B5.new w 24 (.string br) (.string bk) (.int .i64 tm) (.slice fa nf fc) (.slice sa ns sc)) (World.grownBy_alloc w (.cells #[.string br, .string bk, .int .i64 tm, .slice fa nf fc, .slice sa ns sc] 24) none))
  go_enter Tryd.func3, Tryd.ntmps3
  go_wp2_with fail
  refine (HMk.out _ HB.out.2).mono ?_
  rintro e w1 ⟨a1, n1, c1, a2, n2, c2, rfl, H1⟩
  clear HMk
  have HG1 := hidJ (gb_none HB.out.2 H1.out.2)
  go_wp2_with fail
  refine (HLf.out _ HG1.out).mono ?_
  rintro e w2 ⟨a3, n3, c3, rfl, H2⟩
  clear HLf
  have HG2 := hidJ (gb_none HG1.out H2.out.2)
  go_wp2_with fail
  refine (HLr.out _ HG2.out).mono ?_
  rintro e w3 ⟨a4, n4, c4, rfl, H3⟩
  clear HLr
  have HG3 := hidJ (And.intro (gb_none HG2.out H3.out.2) (And.intro (((HB.out.1.keep H1.out.2).keep H2.out.2).keep H3.out.2) (And.intro ((H1.out.1.keep H2.out.2).keep H3.out.2) (And.intro (H2.out.1.keep H3.out.2) H3.out.1))))
  clear HB HG1 HG2 H1 H2 H3
  obtain ⟨k0, k1, k2, k3, k4⟩ := HG3.out.2.1.cells
  have hmk : ∀ x y, markV m x y = .agg #[.string br, .string bk, .int .i64 tm, x, y] := fun x y => by
    unfold markV
    rw [← HE.out.1, ← HE.out.2.1, ← HE.out.2.2.1]
  have hM0 : RdM w m (.slice fa nf fc) (.slice sa ns sc) ∧ RdLL w (.slice ua nu uc) fi ∧ RdLL w (.slice va nv vc) re := by
    have h := HM.out
    rw [← HE.out.2.2.2.1, ← HE.out.2.2.2.2.1, ← HE.out.2.2.2.2.2.1, ← HE.out.2.2.2.2.2.2] at h
    exact ⟨h.1, h.2.1, h.2.2.1⟩
  have HM0 := hidJ (And.intro hM0 (And.intro HM.out.2.2.2.1 (And.intro HM.out.2.2.2.2.1 (And.intro HM.out.2.2.2.2.2 HLs.out.2.2))))
  obtain ⟨G, hG⟩ : ∃ G : World → Prop, G = NdG w w3.heap.size (.string br) (.string bk) (.int .i64 tm) m (.slice fa nf fc) (.slice sa ns sc) (.slice a1 n1 c1) (.slice a2 n2 c2) (.slice a3 n3 c3) (.slice a4 n4 c4) fi re := ⟨_, rfl⟩
  have HGd : Hid (∀ W, G W → NdG w w3.heap.size (.string br) (.string bk) (.int .i64 tm) m (.slice fa nf fc) (.slice sa ns sc) (.slice a1 n1 c1) (.slice a2 n2 c2) (.slice a3 n3 c3) (.slice a4 n4 c4) fi re W) := fun W h => by rw [hG] at h; exact h
  have HGk : Hid (∀ W W', G W → W.grownBy W' none → G W') := fun W W' h hg => by rw [hG] at h ⊢; exact h.keep hg
  have HGc : Hid (∀ W, G W → (W.cell? ⟨w3.heap.size, 0, none⟩ = some (.string br) ∧ W.cell? ⟨w3.heap.size, 1, none⟩ = some (.string bk) ∧ W.cell? ⟨w3.heap.size, 2, none⟩ = some (.int .i64 tm) ∧ W.cell? ⟨w3.heap.size, 3, none⟩ = some (.slice a1 n1 c1) ∧ W.cell? ⟨w3.heap.size, 4, none⟩ = some (.slice a2 n2 c2)) ∧ (W.cell? ⟨w.heap.size, 0, none⟩ = some (.string br) ∧ W.cell? ⟨w.heap.size, 1, none⟩ = some (.string bk) ∧ W.cell? ⟨w.heap.size, 2, none⟩ = some (.int .i64 tm) ∧ W.cell? ⟨w.heap.size, 3, none⟩ = some (.slice fa nf fc) ∧ W.cell? ⟨w.heap.size, 4, none⟩ = some (.slice sa ns sc))) := fun W h => ⟨(HGd.out W h).hx.cells, (HGd.out W h).hm.cells⟩
  have HG4 : Hid (G (w3.alloc (.cells #[.string br, .string bk, .int .i64 tm, .slice a1 n1 c1, .slice a2 n2 c2] 24))) := by
    show G _
    rw [hG]
    have g := World.grownBy_alloc w3 (.cells #[.string br, .string bk, .int .i64 tm, .slice a1 n1 c1, .slice a2 n2 c2] 24) none
    obtain ⟨q1, q2, q3, q4, q5⟩ := HG3.out
    exact ⟨gb_none q1 g, q2.keep g, B5.new w3 24 _ _ _ _ _, q3.keep g, q4.keep g, q5.keep g⟩
  clear hG hM0
  obtain ⟨nb, hnb⟩ : ∃ nb, nb = (needsM m has now rep fi re).1 := ⟨_, rfl⟩
  obtain ⟨ne, hne⟩ : ∃ ne, ne = (needsM m has now rep fi re).2 := ⟨_, rfl⟩
  have HN1 : Hid (∀ W, G W → Calls Tryd.prog 8 #[.agg #[.string br, .string bk, .int .i64 tm, .slice a1 n1 c1, .slice a2 n2 c2], .bool has, .int .i64 now, .int .i64 rep, .slice a3 n3 c3, .slice a4 n4 c4] W fun e w' => e = .returned (.tuple #[.bool nb, .int .i64 ne]) ∧ Hid (G w')) := fun W hW => by
    have h := HGd.out W hW
    have q := needsN_any W m _ _ _ _ has now rep fi re h.rx h.rf h.rr HM0.out.2.1 HM0.out.2.2.1 (HM0.out.2.2.2.1.keep h.old)
    rw [hmk, ← hnb, ← hne] at q
    exact q.mono fun e w' ⟨r1, r2⟩ => ⟨r1, HGk.out _ _ hW r2⟩
  have HN2 : Hid (∀ W, G W → Calls Tryd.prog 9 #[.agg #[.string br, .string bk, .int .i64 tm, .slice fa nf fc, .slice sa ns sc], .bool has, .int .i64 now, .int .i64 rep, .slice ua nu uc, .slice va nv vc] W fun e w' => e = .returned (.tuple #[.bool nb, .int .i64 ne]) ∧ Hid (G w')) := fun W hW => by
    have h := HGd.out W hW
    have q := refNeeds_any W m _ _ _ _ has now rep fi re (HM0.out.1.1.keep h.old) (HM0.out.1.2.1.keep h.old) (HM0.out.1.2.2.keep h.old) HM0.out.2.1 HM0.out.2.2.1
    rw [hmk, ← hnb, ← hne] at q
    exact q.mono fun e w' ⟨r1, r2⟩ => ⟨r1, HGk.out _ _ hW r2⟩
  obtain ⟨RM, hRM⟩ : ∃ RM, RM = rightM m := ⟨_, rfl⟩
  have HR1 : Hid (∀ W, G W → Calls Tryd.prog 10 #[.agg #[.string br, .string bk, .int .i64 tm, .slice a1 n1 c1, .slice a2 n2 c2]] W fun e w' => e = .returned (.int .i64 RM) ∧ Hid (G w')) := fun W hW => by
    have h := HGd.out W hW
    have q := rightM_any W m _ _ h.rx (HM0.out.2.2.2.1.keep h.old)
    rw [hmk, ← hRM] at q
    exact q.mono fun e w' ⟨r1, r2⟩ => ⟨r1, HGk.out _ _ hW r2⟩
  have HR2 : Hid (∀ W, G W → Calls Tryd.prog 11 #[.agg #[.string br, .string bk, .int .i64 tm, .slice fa nf fc, .slice sa ns sc]] W fun e w' => e = .returned (.int .i64 RM) ∧ Hid (G w')) := fun W hW => by
    have h := HGd.out W hW
    have q := refRightM_any W m _ _ (HM0.out.1.1.keep h.old)
    rw [hmk, ← hRM] at q
    exact q.mono fun e w' ⟨r1, r2⟩ => ⟨r1, HGk.out _ _ hW r2⟩
  obtain ⟨WB, hWB⟩ : ∃ WB, WB = withinB fi re := ⟨_, rfl⟩
  have HW1 : Hid (∀ W, G W → Calls Tryd.prog 12 #[.slice a3 n3 c3, .slice a4 n4 c4] W fun e w' => e = .returned (.bool WB) ∧ Hid (G w')) := fun W hW => by
    have h := HGd.out W hW
    have q := withinN_any W _ _ fi re h.rf h.rr HM0.out.2.2.2.2.2.1
    rw [← hWB] at q
    exact q.mono fun e w' ⟨r1, r2⟩ => ⟨r1, HGk.out _ _ hW r2⟩
  have HW2 : Hid (∀ W, G W → Calls Tryd.prog 13 #[.slice ua nu uc, .slice va nv vc] W fun e w' => e = .returned (.bool WB) ∧ Hid (G w')) := fun W hW => by
    have h := HGd.out W hW
    have q := refWithin_any W _ _ fi re (HM0.out.1.2.1.keep h.old) (HM0.out.1.2.2.keep h.old)
    rw [← hWB] at q
    exact q.mono fun e w' ⟨r1, r2⟩ => ⟨r1, HGk.out _ _ hW r2⟩
  clear hnb hne hRM hWB
  -- Sorted, both
  obtain ⟨ES, hES⟩ : ∃ ES, ES = errS fi := ⟨_, rfl⟩
  have HS1 : Hid (∀ W, G W → Calls Tryd.prog 14 #[.slice a3 n3 c3] W fun e w' => ∃ a n c R, e = .returned (.tuple #[.slice a n c, .int .i64 ES]) ∧ Hid (G w' ∧ OwnLL w' W.heap.size (.slice a n c) R ∧ SrtIs fi R ∧ W.grownBy w' none)) := fun W hW => by
    have h := HGd.out W hW
    refine (sorted_any W _ fi h.rf HM0.out.2.1 HM0.out.2.2.2.2.1.1 (HM0.out.2.2.2.1.keep h.old)).mono ?_
    intro e w' q
    obtain ⟨a, n, c, R, q1, q2, q3, q4⟩ := q.is
    rw [← hES] at q1
    exact ⟨a, n, c, R, q1, HGk.out _ _ hW q4, q2, q3, q4⟩
  have HS2 : Hid (∀ W, G W → Calls Tryd.prog 15 #[.slice ua nu uc] W fun e w' => ∃ a n c R, e = .returned (.tuple #[.slice a n c, .int .i64 ES]) ∧ Hid (G w' ∧ RdLL w' (.slice a n c) R ∧ SrtIs fi R ∧ W.grownBy w' none)) := fun W hW => by
    have h := HGd.out W hW
    refine (refSorted_any W _ fi (HM0.out.1.2.1.keep h.old) HM0.out.2.1 HM0.out.2.2.2.2.1.1).mono ?_
    intro e w' q
    obtain ⟨a, n, c, R, q1, q2, q3, q4⟩ := q.is
    rw [← hES] at q1
    exact ⟨a, n, c, R, q1, HGk.out _ _ hW q4, q2, q3, q4⟩
  clear hES
  have HSm : Hid (∀ W, G W → Calls Tryd.prog 18 #[.agg #[.string br, .string bk, .int .i64 tm, .slice a1 n1 c1, .slice a2 n2 c2], .agg #[.string br, .string bk, .int .i64 tm, .slice fa nf fc, .slice sa ns sc]] W fun e w' => e = .returned (.bool true) ∧ Hid (G w')) := fun W hW => by
    have h := HGd.out W hW
    have q := sameM_refl W m _ _ _ _ h.rx.fir h.rx.res (HM0.out.1.1.keep h.old).fir (HM0.out.1.1.keep h.old).res
    rw [hmk, hmk] at q
    exact q.mono fun e w' ⟨r1, r2⟩ => ⟨r1, HGk.out _ _ hW r2⟩
  have HF1 : Hid (∀ W, G W → Calls Tryd.prog 16 #[.slice a3 n3 c3, .slice ua nu uc] W fun e w' => e = .returned (.bool true) ∧ Hid (G w')) := fun W hW => by
    have h := HGd.out W hW
    have q := sameSets_any W _ _ fi fi h.rf (HM0.out.1.2.1.keep h.old)
    rw [decide_eq_true rfl] at q
    exact q.mono fun e w' ⟨r1, r2⟩ => ⟨r1, HGk.out _ _ hW r2⟩
  have HF2 : Hid (∀ W, G W → Calls Tryd.prog 16 #[.slice a4 n4 c4, .slice va nv vc] W fun e w' => e = .returned (.bool true) ∧ Hid (G w')) := fun W hW => by
    have h := HGd.out W hW
    have q := sameSets_any W _ _ re re h.rr (HM0.out.1.2.2.keep h.old)
    rw [decide_eq_true rfl] at q
    exact q.mono fun e w' ⟨r1, r2⟩ => ⟨r1, HGk.out _ _ hW r2⟩
  have HAw2 : Hid (∀ W, G W → Calls Tryd.prog 19 #[] W fun e w' => e = .returned (.bool true) ∧ Hid (Below w.heap.size w w')) := fun W hW => (HAw.out W (HGd.out W hW).old).mono fun e w' ⟨h1, h2⟩ => ⟨h1, gb_below (gb_none (HGd.out W hW).old h2)⟩
  clear HAw HG3 hmk HE HM HLs k0 k1 k2 k3 k4
  obtain ⟨bx, hbx⟩ : ∃ bx, bx = w3.heap.size := ⟨_, rfl⟩
  go_wp2_with fail
  refine (HN1.out _ HG4.out).mono ?_
  rintro e w4 ⟨rfl, H4⟩
  rw [← hbx] at HGd HGc
  rw [← hbx]
  clear HN1 HG4 hbx
  obtain ⟨-, k0, k1, k2, k3, k4⟩ := HGc.out _ H4.out
  go_wp2_with fail
  refine (HN2.out _ H4.out).mono ?_
  rintro e w5 ⟨rfl, H5⟩
  clear HN2 H4 k0 k1 k2 k3 k4
  obtain ⟨⟨j0, j1, j2, j3, j4⟩, k0, k1, k2, k3, k4⟩ := HGc.out _ H5.out
  have HD5 : Hid (G w5.drew) := HGk.out _ _ H5.out (gb_drew _ _)
  go_wp2
  go_region_held3 (fun w' => w'.cell? ⟨bx, 0, none⟩ = some (.string br) ∧ w'.cell? ⟨bx, 1, none⟩ = some (.string bk) ∧ w'.cell? ⟨bx, 2, none⟩ = some (.int .i64 tm) ∧ w'.cell? ⟨bx, 3, none⟩ = some (.slice a1 n1 c1) ∧ w'.cell? ⟨bx, 4, none⟩ = some (.slice a2 n2 c2) ∧ w'.cell? ⟨w.heap.size, 0, none⟩ = some (.string br) ∧ w'.cell? ⟨w.heap.size, 1, none⟩ = some (.string bk) ∧ w'.cell? ⟨w.heap.size, 2, none⟩ = some (.int .i64 tm) ∧ w'.cell? ⟨w.heap.size, 3, none⟩ = some (.slice fa nf fc) ∧ w'.cell? ⟨w.heap.size, 4, none⟩ = some (.slice sa ns sc)) (go_keep)
    (first
      | (go_at_call 10; with_reducible refine (HR1.out _ HD5.out).mono ?_; rintro e w6 ⟨rfl, H6⟩; obtain ⟨⟨px0, px1, px2, px3, px4⟩, py0, py1, py2, py3, py4⟩ := HGc.out _ H6.out)
      | (go_at_call 11; with_reducible refine (HR2.out _ H6.out).mono ?_; rintro e w7 ⟨rfl, H7⟩; obtain ⟨⟨qx0, qx1, qx2, qx3, qx4⟩, qy0, qy1, qy2, qy3, qy4⟩ := HGc.out _ H7.out)
      | (go_at_call 12; with_reducible refine (HW1.out _ H7.out).mono ?_; rintro e w8 ⟨rfl, H8⟩; obtain ⟨⟨rx0, rx1, rx2, rx3, rx4⟩, ry0, ry1, ry2, ry3, ry4⟩ := HGc.out _ H8.out)
      | (go_at_call 13; with_reducible refine (HW2.out _ H8.out).mono ?_; rintro e w9 ⟨rfl, H9⟩; obtain ⟨⟨sx0, sx1, sx2, sx3, sx4⟩, sy0, sy1, sy2, sy3, sy4⟩ := HGc.out _ H9.out))
  clear HR1 HR2 HW1 HW2 HD5 H5 H6 H7 H8 px0 px1 px2 px3 px4 py0 py1 py2 py3 py4 qx0 qx1 qx2 qx3 qx4 qy0 qy1 qy2 qy3 qy4 rx0 rx1 rx2 rx3 rx4 ry0 ry1 ry2 ry3 ry4 sx0 sx1 sx2 sx3 sx4 sy0 sy1 sy2 sy3 sy4 j0 j1 j2 j3 j4 k0 k1 k2 k3 k4
  go_wp2_with fail
  refine (HS1.out _ H9.out).mono ?_
  rintro e w10 ⟨sa1, ns1, cs1, RS, rfl, H10⟩
  clear HS1
  go_wp2_with fail
  refine (HS2.out _ H10.out.1).mono ?_
  rintro e w11 ⟨at1, nt, ct, RT, rfl, H11⟩
  clear HS2
  have HST : Hid (Calls Tryd.prog 16 #[.slice sa1 ns1 cs1, .slice at1 nt ct] w11 fun e w' => e = .returned (.bool true) ∧ Hid (w11.grownBy w' none)) := by
    have q := sameSets_any w11 _ _ RS RT (H10.out.2.1.rd.keep H11.out.2.2.2) H11.out.2.1
    rw [decide_eq_true (H10.out.2.2.1.eq H11.out.2.2.1)] at q
    exact q
  go_wp2_with fail
  refine HST.out.mono ?_
  rintro e w12 ⟨rfl, H12⟩
  clear HST
  have HSp : Hid (Calls Tryd.prog 17 #[.slice sa1 ns1 cs1] w12 fun e w' => e = .returned (.tuple #[]) ∧ Hid (G w')) :=
    (spoilS_any w9 w12 _ RS (gb_none (gb_none H10.out.2.2.2 H11.out.2.2.2) H12.out) ((H10.out.2.1.keep H11.out.2.2.2).keep H12.out)).mono fun e w' ⟨h1, h2⟩ => ⟨h1, HGk.out _ _ H9.out h2⟩
  clear H10 H11 H12
  go_wp2_with fail
  refine HSp.out.mono ?_
  rintro e w13 ⟨rfl, H13⟩
  clear HSp
  obtain ⟨⟨j0, j1, j2, j3, j4⟩, k0, k1, k2, k3, k4⟩ := HGc.out _ H13.out
  go_wp2_with fail
  refine (HSm.out _ H13.out).mono ?_
  rintro e w14 ⟨rfl, H14⟩
  clear HSm H13 j0 j1 j2 j3 j4 k0 k1 k2 k3 k4
  go_wp2_with fail
  refine (HF1.out _ H14.out).mono ?_
  rintro e w15 ⟨rfl, H15⟩
  clear HF1 H14
  go_wp2_with fail
  refine (HF2.out _ H15.out).mono ?_
  rintro e w16 ⟨rfl, H16⟩
  clear HF2 H15
  go_wp2_with fail
  refine (HAw2.out _ H16.out).mono ?_
  rintro e w17 ⟨rfl, H17⟩
  clear HAw2 H16
  go_wp2
  go_ret
  exact ⟨rfl, H17.out⟩
end Go.Proofs.YtbnieljkadcaoaaDoor
