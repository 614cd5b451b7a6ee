/-
  Nfe, Nff, Nfg, in one text.
-/
import Derived.Test.YtpglhdnepmcahaaGreatDoorNmF
/- Nfe -/
namespace Go.Proofs.YtpglhdnepmcahaaGreatDoor
open Go.RowKit Go.Shelf Go.Sort

set_option maxHeartbeats 1600000 in
theorem newL_any (w : World) : Calls Tryz.prog 10 #[] w fun e w' => e = .returned (.pointer (some ⟨w.heap.size, 0, none⟩)) ∧ LgM w' w.heap.size [] ∧ w.grownBy w' none := by
  have HF : Hid (LgM (w.alloc (.cells #[.slice none 0 0] 74)) w.heap.size [] ∧ w.grownBy (w.alloc (.cells #[.slice none 0 0] 74)) none) := ⟨⟨⟨_, Boxed.new w 74 (.slice none 0 0), OwnE.nil _ _⟩, List.Pairwise.nil, (fun x hx => by cases hx), by simp⟩, World.grownBy_alloc _ _ none⟩
  go_enter Tryz.func10, Tryz.ntmps10
  go_wp2
  go_ret
  exact ⟨rfl, HF.out⟩
set_option maxHeartbeats 1600000 in
theorem lenL_any (w : World) (gx : Nat) (l : List MkX) (h : LgM w gx l) : Calls Tryz.prog 27 #[.pointer (some ⟨gx, 0, none⟩)] w fun e w' => e = .returned (.int .i64 (l.length : Int)) ∧ w' = w := by
  obtain ⟨v, h1, h2⟩ := h.row
  obtain ⟨a, c, rfl⟩ := h2.shape
  have x0 := h1.cell
  clear h h1 h2
  go_enter Tryz.func27, Tryz.ntmps27
  go_wp2
  go_ret
  exact ⟨rfl, rfl⟩
set_option maxHeartbeats 1600000 in
theorem lenL_nil (w : World) : Calls Tryz.prog 27 #[.pointer none] w fun e w' => e = .returned (.int .i64 0) ∧ w' = w := by
  go_enter Tryz.func27, Tryz.ntmps27
  go_wp2
  go_ret
  exact ⟨rfl, rfl⟩
set_option maxRecDepth 8000 in
set_option maxHeartbeats 1600000 in
theorem addrOf_any (w : World) (m : MkR) (f s : Value) (hf : ∃ a n c, f = .slice a n c) (hs : ∃ a n c, s = .slice a n c) : Calls Tryz.prog 39 #[markV m f s] w fun e w' => e = .returned (addV (m.rcv, m.key)) ∧ w.grownBy w' none := by
  obtain ⟨fa, fn, fc, rfl⟩ := hf
  obtain ⟨sa, sn, sc, rfl⟩ := hs
  unfold markV addV
  dsimp only
  generalize ByteArray.mk ⟨m.rcv⟩ = br at *
  generalize ByteArray.mk ⟨m.key⟩ = bk at *
  generalize m.tim = tm at *
  have k1 := World.grownBy_alloc w (.cells #[.string br, .string bk, .int .i64 tm, .slice fa fn fc, .slice sa sn sc] 34) none
  have k2 := World.grownBy_alloc (w.alloc (.cells #[.string br, .string bk, .int .i64 tm, .slice fa fn fc, .slice sa sn sc] 34)) (.cells #[.string br, .string bk] 81) none
  have hn := Go.heap_alloc_new (w.alloc (.cells #[.string br, .string bk, .int .i64 tm, .slice fa fn fc, .slice sa sn sc] 34)) (.cells #[.string br, .string bk] 81)
  rw [World.size_alloc] at hn
  have HN := hidJ (And.intro hn (gb_none k1 k2))
  clear hn k1 k2
  go_enter Tryz.func39, Tryz.ntmps39
  go_wp2
  refine bodyPost_ret (results_cell_row rfl _ _ (w.heap.size + 1) _ _ _ _ rfl HN.out.1 Tryz.underlying81 rfl (by kernel_rfl)) rfl ?_
  exact ⟨rfl, HN.out.2⟩
set_option maxRecDepth 8000 in
set_option maxHeartbeats 3200000 in
theorem logNeeds_any (w : World) (gx : Nat) (l : List MkX) (rc ky : List UInt8) (u v : Value) (now rep : Int) (fi re : List (List LbT)) (h : LgM w gx l) (hu : RdLL w u fi) (hv : RdLL w v re) (hui : LLIn fi) (hvi : LLIn re) (hT : U8S w) :
    Calls Tryz.prog 15 #[.pointer (some ⟨gx, 0, none⟩), .string (ByteArray.mk ⟨rc⟩), .string (ByteArray.mk ⟨ky⟩), .int .i64 now, .int .i64 rep, u, v] w fun e w' => e = .returned (.tuple #[.bool (needsM (getM l (rc, ky)).1 (hasM l (rc, ky)) now rep fi re).1, .int .i64 (needsM (getM l (rc, ky)).1 (hasM l (rc, ky)) now rep fi re).2]) ∧ w.grownBy w' none := by
  have hc := getL_any w gx l (rc, ky) h
  have hg := h.got (rc, ky)
  obtain ⟨fa, fc, ef, -⟩ := hg.fir.shape
  obtain ⟨sa, sc, es, -⟩ := hg.res.shape
  unfold addV markX markV at hc
  rw [ef, es] at hc hg
  dsimp only at hc
  have HC := hidJ hc
  have HN : Hid (∀ W, w.grownBy W none → Calls Tryz.prog 50 #[markV (getM l (rc, ky)).1 (.slice fa (getM l (rc, ky)).1.fir.length fc) (.slice sa (getM l (rc, ky)).1.res.length sc), .bool (hasM l (rc, ky)), .int .i64 now, .int .i64 rep, u, v] W fun e w' => e = .returned (.tuple #[.bool (needsM (getM l (rc, ky)).1 (hasM l (rc, ky)) now rep fi re).1, .int .i64 (needsM (getM l (rc, ky)).1 (hasM l (rc, ky)) now rep fi re).2]) ∧ W.grownBy w' none) := fun W hW => needsN_any W _ _ _ u v _ now rep fi re (hg.keep hW) (hu.keep hW) (hv.keep hW) hui hvi (hT.keep hW)
  unfold markV at HN
  obtain ⟨ua, uc, eu, -⟩ := hu.shape
  obtain ⟨va, vc, ev, -⟩ := hv.shape
  subst eu ev
  clear hc hg h hu hv hui hvi hT ef es
  generalize (needsM (getM l (rc, ky)).1 (hasM l (rc, ky)) now rep fi re).1 = r1 at *
  generalize (needsM (getM l (rc, ky)).1 (hasM l (rc, ky)) now rep fi re).2 = r2 at *
  generalize hasM l (rc, ky) = hb at *
  generalize ByteArray.mk ⟨(getM l (rc, ky)).1.rcv⟩ = br at *
  generalize ByteArray.mk ⟨(getM l (rc, ky)).1.key⟩ = bk at *
  generalize (getM l (rc, ky)).1.tim = tm at *
  generalize (getM l (rc, ky)).1.fir.length = nf at *
  generalize (getM l (rc, ky)).1.res.length = ns at *
  generalize ByteArray.mk ⟨rc⟩ = ar at *
  generalize ByteArray.mk ⟨ky⟩ = ak at *
  go_enter Tryz.func15, Tryz.ntmps15
  go_wp2_with fail
  refine HC.out.mono ?_
  rintro e w1 ⟨rfl, H1⟩
  have H1 := hidJ H1
  clear HC
  have HX : Hid (∀ A, w.grownBy ((((((w1.alloc A).setCell ⟨w1.heap.size, 0, none⟩ (.string br)).setCell ⟨w1.heap.size, 1, none⟩ (.string bk)).setCell ⟨w1.heap.size, 2, none⟩ (.int .i64 tm)).setCell ⟨w1.heap.size, 3, none⟩ (.slice fa nf fc)).setCell ⟨w1.heap.size, 4, none⟩ (.slice sa ns sc)) none) := fun A => gb_ch (gb_none H1.out (World.grownBy_alloc w1 A none)) (set5_ch _ _ _ _ _ _ _) (fun k e => by have := H1.out.size; omega)
  go_wp2_with fail
  refine (HN.out _ ?_).mono ?_
  · first | exact HX.out _ | exact gb_none H1.out (World.grownBy_alloc _ _ none)
  rintro e w2 ⟨rfl, H2⟩
  have H2 := hidJ (gb_none (by first | exact HX.out _ | exact gb_none H1.out (World.grownBy_alloc _ _ none)) H2)
  clear HN
  go_wp2
  go_ret2
  exact ⟨rfl, H2.out⟩
end Go.Proofs.YtpglhdnepmcahaaGreatDoor

/- Nff -/
namespace Go.Proofs.YtpglhdnepmcahaaGreatDoor
open Go.RowKit Go.Shelf Go.Sort

theorem infoEn : (Tryz.prog.info? 117).map (fun i => (i.zero, i.size, i.bytes)) = some (some (.agg #[.string ⟨#[]⟩, .string ⟨#[]⟩, .string ⟨#[]⟩, .string ⟨#[]⟩, .int .i64 0, .slice none 0 0, .slice none 0 0]), 7, 120) := by kernel_rfl
set_option maxRecDepth 8000 in
set_option maxHeartbeats 3200000 in
theorem insert_nil (w : World) (b : Nat) (x : MkX) (hb : w.heap[b]? = some (.cells (entC x).toArray 117 (0, 0))) (h1 : x.2.1.oneCell' = true) (h2 : x.2.2.oneCell' = true) :
    Calls Tryz.prog 73 #[.slice none 0 0, .int .i64 0, .slice (some ⟨b, 0, none⟩) 1 1] w fun e w' => ∃ v', e = .returned v' ∧ OwnE w' w.heap.size v' [x] ∧ w.grownBy w' none := by
  obtain ⟨i0, hi, hz0, hz1, hz2⟩ := info_parts infoEn
  obtain ⟨v', w', hrun, k2, k3⟩ := run_appH w 70 70 117 i0 _ 7 120 w.heap.size Tryz.underlying70 hi hz0 hz1 hz2 rfl (by decide) (.slice none 0 0) 0 [] (World.ownsRow_nil _ _ _ _) (some ⟨b, 0, none⟩) 1 1 (entC x) rfl
    (fun j u hj => by
      refine ⟨_, rfl, ?_⟩
      rw [Go.WideShapes.add_plain]
      simp only [World.cell?, hb]
      simpa using hj) (fun e => by cases e)
    (fun u hu => by
      unfold entC at hu
      simp only [List.mem_cons, List.not_mem_nil, or_false] at hu
      rcases hu with rfl | rfl | rfl | rfl | rfl | rfl | rfl <;> first | rfl | exact h1 | exact h2) (by omega) (by omega) (by omega)
  have HO : Hid (OwnE w' w.heap.size v' [x] ∧ w.grownBy w' none) := by
    refine ⟨?_, gb_trans (gb_refl _ _) k3.1 (fun k hk => by simp [Value.ownBlock] at hk)⟩
    unfold OwnE
    have e : entF [x] = entC x := by simp [entF]
    rw [e]
    simpa using k2
  obtain ⟨a2, n2, c2, rfl⟩ : ∃ a n c, v' = .slice a n c := by
    obtain ⟨a, c, e⟩ := HO.out.1.shape
    exact ⟨a, _, c, e⟩
  have HRun := hidJ hrun
  clear k2 k3 hrun hz0 hz1 hz2 hi hb h1 h2
  go_enter Tryz.func73, Tryz.ntmps73
  go_wp2_with (at_builtin; refine wp_appRun rfl _ _ 70 rfl _ _ _ rfl rfl HRun.out ?_)
  go_wp2
  go_ret
  exact ⟨_, rfl, HO.out⟩
theorem OwnLL.own {w : World} {base : Nat} {v : Value} {lss : List (List LbT)} (h : OwnLL w base v lss) : v.oneCell' = true := by
  obtain ⟨a, c, rfl⟩ := h.shape
  rfl
/-- a log that has had no mark -/
def LgN (w : World) (gx : Nat) : Prop := Boxed w gx 74 (.slice none 0 0)
theorem LgN.lg {w : World} {gx : Nat} (h : LgN w gx) : LgM w gx [] := ⟨⟨_, h, OwnE.nil _ _⟩, List.Pairwise.nil, (fun x hx => by cases hx), by simp⟩
theorem LgN.keep {w w' : World} {gx : Nat} (h : LgN w gx) (hg : w.grownBy w' none) : LgN w' gx := Boxed.kept h hg (by simp)
set_option maxRecDepth 8000 in
set_option maxHeartbeats 12800000 in
theorem putE_any (w : World) (gx base : Nat) (m : MkR) (f s : Value) (h : LgN w gx) (hf : OwnLL w base f m.fir) (hs : OwnLL w base s m.res) (hgx : gx < base) (hbw : base ≤ w.heap.size) (hR : rightM m = 0) (iF : LLIn m.fir) (iR : LLIn m.res) (ir : m.rcv.length ≤ 1000000000000000000) (ik : m.key.length ≤ 1000000000000000000) :
    Calls Tryz.prog 41 #[.pointer (some ⟨gx, 0, none⟩), addV (m.rcv, m.key), markV m f s] w fun e w' => e = .returned (.tuple #[]) ∧ LgM w' gx [(m, f, s)] ∧ w.grownBy w' (some gx) := by
  have HH := hidJ (And.intro h (And.intro hf (And.intro hs (And.intro hgx (And.intro hbw (And.intro hR (And.intro iF (And.intro iR (And.intro ir ik)))))))))
  obtain ⟨fa, fc, ef⟩ := hf.shape
  obtain ⟨sa, sc, es⟩ := hs.shape
  -- what comes of it
  have HP : Hid (∀ W v, w.grownBy W none → OwnE W w.heap.size v [(m, f, s)] → LgM (W.setCell ⟨gx, 0, none⟩ v) gx [(m, f, s)] ∧ w.grownBy (W.setCell ⟨gx, 0, none⟩ v) (some gx)) := by
    intro W v hW hv
    obtain ⟨q0, q1, q2, q3, q4, q5, q6, q7, q8, q9⟩ := HH.out
    have hc := set_ch W gx 0 v
    have hb : Boxed W gx 74 (.slice none 0 0) := q0.keep hW
    refine ⟨⟨⟨v, hb.set v, ?_⟩, List.pairwise_singleton _ _, fun x hx => ?_, by simp⟩, gb_trans (gb_any hW (some gx)) (gbs W gx 0 v) (fun k hk _ => hk.symm)⟩
    · refine OwnE.mono (base := w.heap.size) (row_ch hv hc (fun k hk e => ?_)) (Nat.zero_le _)
      have := (World.ownsRow.lt hv k hk).1
      omega
    · rw [List.mem_singleton] at hx
      subst hx
      exact ⟨⟨((q1.keep hW).ch hc (fun k e => by omega)).rd, ((q2.keep hW).ch hc (fun k e => by omega)).rd, q6, q7, q8, q9⟩, q5⟩
  have hgl : gx < w.heap.size := by omega
  subst ef es
  unfold markV addV
  dsimp only
  -- the place: none
  have HC : Hid (Calls Tryz.prog 72 #[.pointer (some ⟨gx, 0, none⟩), .agg #[.string (ByteArray.mk ⟨m.rcv⟩), .string (ByteArray.mk ⟨m.key⟩)]] ((w.alloc (.cells #[.string (ByteArray.mk ⟨m.rcv⟩), .string (ByteArray.mk ⟨m.key⟩)] 81)).alloc (.cells #[.string (ByteArray.mk ⟨m.rcv⟩), .string (ByteArray.mk ⟨m.key⟩), .int .i64 m.tim, .slice fa m.fir.length fc, .slice sa m.res.length sc] 34)) fun e w' => e = .returned (.tuple #[.int .i64 0, .bool false]) ∧ w'.cell? ⟨gx, 0, none⟩ = some (.slice none 0 0) ∧ w'.frozen? ⟨gx, 0, none⟩ = false ∧ w'.cell? ⟨w.heap.size, 0, none⟩ = some (.string (ByteArray.mk ⟨m.rcv⟩)) ∧ w'.cell? ⟨w.heap.size, 1, none⟩ = some (.string (ByteArray.mk ⟨m.key⟩)) ∧ Hid (w.grownBy w' none ∧ B5 w' (w.heap.size + 1) 34 (.string (ByteArray.mk ⟨m.rcv⟩)) (.string (ByteArray.mk ⟨m.key⟩)) (.int .i64 m.tim) (.slice fa m.fir.length fc) (.slice sa m.res.length sc))) := by
    have k1 := World.grownBy_alloc w (.cells #[.string (ByteArray.mk ⟨m.rcv⟩), .string (ByteArray.mk ⟨m.key⟩)] 81) none
    have k2 := World.grownBy_alloc (w.alloc (.cells #[.string (ByteArray.mk ⟨m.rcv⟩), .string (ByteArray.mk ⟨m.key⟩)] 81)) (.cells #[.string (ByteArray.mk ⟨m.rcv⟩), .string (ByteArray.mk ⟨m.key⟩), .int .i64 m.tim, .slice fa m.fir.length fc, .slice sa m.res.length sc] 34) none
    have hc := findL_any _ gx [] (m.rcv, m.key) (h.lg.keep (gb_none k1 k2))
    unfold addV at hc
    dsimp only at hc
    refine hc.mono ?_
    rintro e w' ⟨p, q1, q2, q3⟩
    have hp : p = 0 := by have := q2.1; simpa using this
    subst hp
    have x1 := (B5.new (w.alloc (.cells #[.string (ByteArray.mk ⟨m.rcv⟩), .string (ByteArray.mk ⟨m.key⟩)] 81)) 34 (.string (ByteArray.mk ⟨m.rcv⟩)) (.string (ByteArray.mk ⟨m.key⟩)) (.int .i64 m.tim) (.slice fa m.fir.length fc) (.slice sa m.res.length sc)).keep q3
    rw [World.size_alloc] at x1
    have hk := gb_none (gb_none k1 k2) q3
    have hb : Boxed w' gx 74 (.slice none 0 0) := h.keep hk
    have hn := ((gb_none k2 q3).block w.heap.size (by simp) (by simp)).trans (Go.heap_alloc_new w (.cells #[.string (ByteArray.mk ⟨m.rcv⟩), .string (ByteArray.mk ⟨m.key⟩)] 81))
    exact ⟨q1, hb.cell, hb.frozen, by rw [World.cell?, hn]; rfl, by rw [World.cell?, hn]; rfl, hk, x1⟩
  have HI : Hid (∀ W b, w.grownBy W none → W.heap[b]? = some (.cells #[.string (ByteArray.mk ⟨m.rcv⟩), .string (ByteArray.mk ⟨m.key⟩), .string (ByteArray.mk ⟨m.rcv⟩), .string (ByteArray.mk ⟨m.key⟩), .int .i64 m.tim, .slice fa m.fir.length fc, .slice sa m.res.length sc] 117 (0, 0)) → Calls Tryz.prog 73 #[.slice none 0 0, .int .i64 0, .slice (some ⟨b, 0, none⟩) 1 1] W fun e w' => ∃ a' n' c', e = .returned (.slice a' n' c') ∧ w'.cell? ⟨gx, 0, none⟩ = some (.slice none 0 0) ∧ w'.frozen? ⟨gx, 0, none⟩ = false ∧ Hid (LgM (w'.setCell ⟨gx, 0, none⟩ (.slice a' n' c')) gx [(m, .slice fa m.fir.length fc, .slice sa m.res.length sc)] ∧ w.grownBy (w'.setCell ⟨gx, 0, none⟩ (.slice a' n' c')) (some gx))) := by
    intro W b hW hb
    refine (insert_nil W b (m, .slice fa m.fir.length fc, .slice sa m.res.length sc) hb rfl rfl).mono ?_
    rintro e w' ⟨v', rfl, q1, q2⟩
    obtain ⟨a', c', e'⟩ := q1.shape
    subst e'
    have hk := gb_none hW q2
    have hbx : Boxed w' gx 74 (.slice none 0 0) := h.keep hk
    exact ⟨a', _, c', rfl, hbx.cell, hbx.frozen, HP.out w' _ hk (q1.mono hW.size)⟩
  clear HP h hf hs hgx hbw hR iF iR ir ik
  generalize ByteArray.mk ⟨m.rcv⟩ = br at *
  generalize ByteArray.mk ⟨m.key⟩ = bk at *
  generalize m.tim = tm at *
  obtain ⟨nf, hnf⟩ : ∃ nf, m.fir.length = nf := ⟨_, rfl⟩
  obtain ⟨ns, hns⟩ : ∃ ns, m.res.length = ns := ⟨_, rfl⟩
  rw [hnf, hns] at HC HI
  rw [hnf, hns]
  clear hnf hns HH
  go_enter Tryz.func41, Tryz.ntmps41
  go_wp2_with fail
  refine HC.out.mono ?_
  rintro e w2 ⟨rfl, x0, x1, y0, y1, H2⟩
  clear HC
  obtain ⟨i0, i1, i2, i3, i4⟩ := H2.out.2.cells
  have HW := hidJ H2.out.1
  clear H2
  have hne1 : ¬ gx = w2.heap.size := by have := block_lt x0; omega
  have hne2 : ¬ w2.heap.size = gx := by omega
  have HK : Hid (∀ (C : Obj) (b o : Nat) (u : Value), w2.cell? ⟨b, o, none⟩ = some u → (w2.alloc C).cell? ⟨b, o, none⟩ = some u) := fun C b o u h => (World.cell?_of_block ((World.grownBy_alloc w2 C none).block b (block_lt h) (by simp))).trans h
  have HK2 : Hid (∀ (C : Obj) (b o : Nat) (u : Value), w2.cell? ⟨b, o, none⟩ = some u → (w2.drew.alloc C).cell? ⟨b, o, none⟩ = some u) := fun C b o u h => (World.cell?_of_block ((gb_none (gb_drew w2 none) (World.grownBy_alloc w2.drew C none)).block b (block_lt h) (by simp))).trans h
  have z0 := fun C => HK.out C _ _ _ x0
  have z1 := fun C => HK.out C _ _ _ y0
  have z2 := fun C => HK.out C _ _ _ y1
  have z3 := fun C => HK.out C _ _ _ i0
  have z4 := fun C => HK.out C _ _ _ i1
  have z5 := fun C => HK.out C _ _ _ i2
  have z6 := fun C => HK.out C _ _ _ i3
  have z7 := fun C => HK.out C _ _ _ i4
  have t0 := fun C => HK2.out C _ _ _ x0
  have t1 := fun C => HK2.out C _ _ _ y0
  have t2 := fun C => HK2.out C _ _ _ y1
  have t3 := fun C => HK2.out C _ _ _ i0
  have t4 := fun C => HK2.out C _ _ _ i1
  have t5 := fun C => HK2.out C _ _ _ i2
  have t6 := fun C => HK2.out C _ _ _ i3
  have t7 := fun C => HK2.out C _ _ _ i4
  go_wp2
  go_region_with (go_at_call 73; refine (HI.out _ _ (by first | exact gb_none HW.out (World.grownBy_alloc _ _ none) | exact gb_none (gb_none HW.out (gb_drew _ none)) (World.grownBy_alloc _ _ none) | exact gb_none (gb_none HW.out (World.grownBy_alloc _ _ none)) (gb_drew _ none)) (by exact Go.heap_alloc_new _ _)).mono ?_; rintro e w5 ⟨a5, n5, c5, rfl, p0, p1, H5⟩)
  all_goals
    clear HI
    go_wp2
    go_end0
    exact ⟨rfl, H5.out⟩
end Go.Proofs.YtpglhdnepmcahaaGreatDoor

/- Nfg -/
namespace Go.Proofs.YtpglhdnepmcahaaGreatDoor
open Go.RowKit Go.Shelf Go.Sort

theorem right_16 {ls : List LbT} (h : (rightS ls).1 = 0) : ls.length ≤ 16 := by
  unfold rightS at h
  by_cases h16 : 16 < ls.length
  · rw [if_pos h16] at h
    simp at h
  · omega
theorem allR_at {lss : List (List LbT)} (h : allR lss = true) (j : Nat) : (lss.getD j []).length ≤ 16 := by
  by_cases hj : j < lss.length
  · have e : lss.getD j [] = lss[j] := by simp [List.getD, hj]
    rw [e]
    have := List.all_eq_true.1 h lss[j] (by simp)
    exact right_16 (of_decide_eq_true this)
  · have e : lss.getD j [] = [] := by simp only [List.getD, List.getElem?_eq_none (Nat.le_of_not_lt hj), Option.getD_none]
    rw [e]
    simp
theorem right_rise {m : MkR} (h : rightM m = 0) : riseB m.fir = true ∧ riseB m.res = true := by
  unfold rightM at h
  split at h
  · omega
  split at h
  · omega
  split at h
  · omega
  split at h
  · omega
  split at h
  · omega
  rename_i h5
  cases e1 : riseB m.fir <;> cases e2 : riseB m.res <;> simp [e1, e2] at h5 ⊢
theorem right_LLs {m : MkR} (h : rightM m = 0) : LLs m.fir ∧ LLs m.res := by
  obtain ⟨h1, h2⟩ := right_len h
  obtain ⟨r1, r2⟩ := right_rise h
  unfold riseB at r1 r2
  rw [Bool.and_eq_true] at r1 r2
  exact ⟨⟨by omega, fun j => by have := allR_at r1.2 j; omega⟩, by omega, fun j => by have := allR_at r2.2 j; omega⟩
theorem get_empty (a : LbT) : getM [] a = xZ ∧ hasM [] a = false := ⟨rfl, rfl⟩
set_option maxRecDepth 8000 in
set_option maxHeartbeats 12800000 in
theorem layE_any (w : World) (gx : Nat) (m : MkR) (f s : Value) (h : LgN w gx) (hm : RdM w m f s) (hR : rightM m = 0) :
    Calls Tryz.prog 12 #[.pointer (some ⟨gx, 0, none⟩), markV m f s] w fun e w' => ∃ f' s', e = .returned (.int .i64 0) ∧ LgM w' gx [(m, f', s')] ∧ w.grownBy w' (some gx) := by
  have HH := hidJ (And.intro h (And.intro hm hR))
  have hgl : gx < w.heap.size := block_lt (show w.cell? ⟨gx, 0, none⟩ = some (.slice none 0 0) from Boxed.cell h)
  obtain ⟨fa, fc, ef, -⟩ := hm.fir.shape
  obtain ⟨sa, sc, es, -⟩ := hm.res.shape
  subst ef es
  have HA : Hid (∀ W, Calls Tryz.prog 39 #[markV m (.slice fa m.fir.length fc) (.slice sa m.res.length sc)] W fun e w' => e = .returned (addV (m.rcv, m.key)) ∧ W.grownBy w' none) := fun W => addrOf_any W m _ _ ⟨_, _, _, rfl⟩ ⟨_, _, _, rfl⟩
  have HG : Hid (∀ W, w.grownBy W none → Calls Tryz.prog 40 #[.pointer (some ⟨gx, 0, none⟩), addV (m.rcv, m.key)] W fun e w' => e = .returned (.tuple #[.agg #[.string ⟨#[]⟩, .string ⟨#[]⟩, .int .i64 0, .slice none 0 0, .slice none 0 0], .bool false]) ∧ W.grownBy w' none) := fun W hW => getL_any W gx [] _ (h.keep hW).lg
  have HLn : Hid (∀ W, w.grownBy W none → Calls Tryz.prog 27 #[.pointer (some ⟨gx, 0, none⟩)] W fun e w' => e = .returned (.int .i64 0) ∧ w' = W) := fun W hW => lenL_any W gx [] (h.keep hW).lg
  have HCo : Hid (∀ W, w.grownBy W none → Calls Tryz.prog 42 #[markV m (.slice fa m.fir.length fc) (.slice sa m.res.length sc)] W fun e w' => ∃ a1 n1 c1 a2 n2 c2, e = .returned (markV m (.slice a1 n1 c1) (.slice a2 n2 c2)) ∧ W.grownBy w' none ∧ Hid (Calls Tryz.prog 41 #[.pointer (some ⟨gx, 0, none⟩), addV (m.rcv, m.key), markV m (.slice a1 n1 c1) (.slice a2 n2 c2)] w' fun e w'' => e = .returned (.tuple #[]) ∧ w'.grownBy w'' (some gx) ∧ Hid (LgM w'' gx [(m, .slice a1 n1 c1, .slice a2 n2 c2)] ∧ w.grownBy w'' (some gx)))) := fun W hW => by
    have hl := right_LLs hR
    refine (copyM_any W m _ _ (hm.fir.keep hW) (hm.res.keep hW) hl.1 hl.2).mono ?_
    rintro e w' ⟨f', s', q1, q2, q3, q4⟩
    obtain ⟨a1, c1, e1⟩ := q2.shape
    obtain ⟨a2, c2, e2⟩ := q3.shape
    subst e1 e2
    have hk := gb_none hW q4
    refine ⟨a1, _, c1, a2, _, c2, q1, q4, (putE_any w' gx W.heap.size m _ _ (h.keep hk) (q2.mono (by omega)) (q3.mono (by omega)) (Nat.lt_of_lt_of_le hgl hW.size) q4.size hR hm.inF hm.inR hm.inr hm.ink).mono ?_⟩
    rintro e w2 ⟨r1, r2, r3⟩
    exact ⟨r1, r3, r2, gb_trans (gb_any hk (some gx)) r3 (fun k hk _ => hk.symm)⟩
  clear h hm hR HH
  unfold markV at HA HCo
  unfold addV at HA HG HCo
  unfold markV
  dsimp only at HA HG HCo
  have HB := hidJ (And.intro (B5.new w 34 (.string (ByteArray.mk ⟨m.rcv⟩)) (.string (ByteArray.mk ⟨m.key⟩)) (.int .i64 m.tim) (.slice fa m.fir.length fc) (.slice sa m.res.length sc)) (World.grownBy_alloc w (.cells #[.string (ByteArray.mk ⟨m.rcv⟩), .string (ByteArray.mk ⟨m.key⟩), .int .i64 m.tim, .slice fa m.fir.length fc, .slice sa m.res.length sc] 34) none))
  generalize ByteArray.mk ⟨m.rcv⟩ = br at *
  generalize ByteArray.mk ⟨m.key⟩ = bk at *
  generalize m.tim = tm at *
  generalize m.fir.length = nf at *
  generalize m.res.length = ns at *
  go_enter Tryz.func12, Tryz.ntmps12
  go_wp2_with fail
  refine (HA.out _).mono ?_
  rintro e w1 ⟨rfl, g1⟩
  clear HA
  have HB := hidJ (And.intro (HB.out.1.keep g1) (gb_none HB.out.2 g1))
  clear g1
  have k2 := World.grownBy_alloc w1 (.cells #[.string br, .string bk] 81) none
  have HB2 := hidJ (And.intro (HB.out.1.keep k2) (And.intro (gb_none HB.out.2 k2) (Go.heap_alloc_new w1 (.cells #[.string br, .string bk] 81))))
  clear k2
  go_wp2
  have HKB : Hid (w.heap.size < w1.heap.size) := some_lt HB.out.1
  generalize hkb : w1.heap.size = kb at *
  generalize w1.alloc (.cells #[.string br, .string bk] 81) = W2 at *
  clear hkb HB
  obtain ⟨c0, c1, c2, c3, c4⟩ := HB2.out.1.cells
  have e0 : W2.cell? ⟨kb, 0, none⟩ = some (.string br) := by rw [World.cell?, HB2.out.2.2]; rfl
  have e1 : W2.cell? ⟨kb, 1, none⟩ = some (.string bk) := by rw [World.cell?, HB2.out.2.2]; rfl
  have hkw : kb < W2.heap.size := some_lt HB2.out.2.2
  have HG2 : Hid (∀ W, W2.grownBy W none → Calls Tryz.prog 40 #[.pointer (some ⟨gx, 0, none⟩), .agg #[.string br, .string bk]] W fun e w' => e = .returned (.tuple #[.agg #[.string ⟨#[]⟩, .string ⟨#[]⟩, .int .i64 0, .slice none 0 0, .slice none 0 0], .bool false]) ∧ Hid (W.grownBy w' none)) := fun W hW => HG.out W (gb_none HB2.out.2.1 hW)
  clear HG
  have hne1 : ¬ kb = W2.heap.size := by omega
  have hne2 : ¬ W2.heap.size = kb := by omega
  have HK : Hid (∀ (C : Obj) (b o : Nat) (u : Value), W2.cell? ⟨b, o, none⟩ = some u → (W2.alloc C).cell? ⟨b, o, none⟩ = some u) := fun C b o u h => (World.cell?_of_block ((World.grownBy_alloc W2 C none).block b (block_lt h) (by simp))).trans h
  have HK2 : Hid (∀ (C : Obj) (b o : Nat) (u : Value), W2.cell? ⟨b, o, none⟩ = some u → (W2.drew.alloc C).cell? ⟨b, o, none⟩ = some u) := fun C b o u h => (World.cell?_of_block ((gb_none (gb_drew W2 none) (World.grownBy_alloc W2.drew C none)).block b (block_lt h) (by simp))).trans h
  have z1 := fun C => HK.out C _ _ _ e0
  have z2 := fun C => HK.out C _ _ _ e1
  have t1 := fun C => HK2.out C _ _ _ e0
  have t2 := fun C => HK2.out C _ _ _ e1
  go_region_with (go_at_call 40; refine (HG2.out _ (by first | exact gb_refl _ _ | exact gb_drew _ none | exact gb_none (World.grownBy_alloc _ _ none) (gb_drew _ none) | exact gb_none (gb_drew _ none) (World.grownBy_alloc _ _ none))).mono ?_; rintro e w3 ⟨rfl, H3⟩; (first | (have hb5 := (show B5 _ W2.heap.size 34 (.string ⟨#[]⟩) (.string ⟨#[]⟩) (.int .i64 0) (.slice none 0 0) (.slice none 0 0) from B5.new W2 34 (.string ⟨#[]⟩) (.string ⟨#[]⟩) (.int .i64 0) (.slice none 0 0) (.slice none 0 0)).keep (gb_none (gb_drew _ none) H3.out); obtain ⟨n0, n1, n2, n3, n4⟩ := hb5.cells; obtain ⟨m0, m1, m2, m3, m4⟩ := hb5.froz; have HB5 := hidJ hb5; clear hb5) | skip))
  all_goals
    clear z1 z2 t1 t2 HK HK2 hne1 hne2 HG2
    have HX : Hid (∀ W, (W = w3.alloc (.cells #[.string ⟨#[]⟩, .string ⟨#[]⟩, .int .i64 0, .slice none 0 0, .slice none 0 0] 34) ∨ W = set5 w3 W2.heap.size (.string ⟨#[]⟩) (.string ⟨#[]⟩) (.int .i64 0) (.slice none 0 0) (.slice none 0 0)) → W2.grownBy W none) := by
      intro W hW
      have g3 : W2.grownBy w3 none := by first | exact gb_none (gb_drew _ none) H3.out | exact gb_none (gb_none (World.grownBy_alloc _ _ none) (gb_drew _ none)) H3.out | exact gb_none (gb_none (gb_drew _ none) (World.grownBy_alloc _ _ none)) H3.out | exact H3.out
      rcases hW with rfl | rfl
      · exact gb_none g3 (World.grownBy_alloc _ _ none)
      · exact gb_ch g3 (set5_ch _ _ _ _ _ _ _) (fun k e => by omega)
    clear H3
    first
      | (clear n0 n1 n2 n3 n4 m0 m1 m2 m3 m4 HB5; have HY := hidJ (HX.out _ (.inr rfl)); unfold set5 at HY; generalize (((((w3.setCell ⟨W2.heap.size, 0, none⟩ (.string ⟨#[]⟩)).setCell ⟨W2.heap.size, 1, none⟩ (.string ⟨#[]⟩)).setCell ⟨W2.heap.size, 2, none⟩ (.int .i64 0)).setCell ⟨W2.heap.size, 3, none⟩ (.slice none 0 0)).setCell ⟨W2.heap.size, 4, none⟩ (.slice none 0 0)) = W4 at *)
      | (have HY := hidJ (HX.out _ (.inl rfl)); generalize w3.alloc (.cells #[.string ⟨#[]⟩, .string ⟨#[]⟩, .int .i64 0, .slice none 0 0, .slice none 0 0] 34) = W4 at *)
    clear HX
    have kc : ∀ {b o : Nat} {u : Value}, W2.cell? ⟨b, o, none⟩ = some u → W4.cell? ⟨b, o, none⟩ = some u := fun h => (World.cell?_of_block (HY.out.block _ (block_lt h) (by simp))).trans h
    have q0 := kc c0
    have q1 := kc c1
    have q2 := kc c2
    have q3 := kc c3
    have q4 := kc c4
    have q5 := kc e0
    have q6 := kc e1
    clear c0 c1 c2 c3 c4 e0 e1 kc
    have HZ := hidJ (gb_none HB2.out.2.1 HY.out)
    go_wp2_with fail
    refine (HLn.out _ HZ.out).mono ?_
    rintro e w5 ⟨rfl, h5⟩
    have h5 := h5.symm
    subst h5
    clear HLn HY HB2
    go_wp2
    have HCo2 : Hid (∀ W, W4.grownBy W none → Calls Tryz.prog 42 #[.agg #[.string br, .string bk, .int .i64 tm, .slice fa nf fc, .slice sa ns sc]] W fun e w' => ∃ a1 n1 c1 a2 n2 c2, e = .returned (.agg #[.string br, .string bk, .int .i64 tm, .slice a1 n1 c1, .slice a2 n2 c2]) ∧ (w'.cell? ⟨w.heap.size, 0, none⟩ = some (.string br) ∧ w'.cell? ⟨w.heap.size, 1, none⟩ = some (.string bk) ∧ w'.cell? ⟨w.heap.size, 2, none⟩ = some (.int .i64 tm) ∧ w'.cell? ⟨w.heap.size, 3, none⟩ = some (.slice fa nf fc) ∧ w'.cell? ⟨w.heap.size, 4, none⟩ = some (.slice sa ns sc) ∧ w'.cell? ⟨kb, 0, none⟩ = some (.string br) ∧ w'.cell? ⟨kb, 1, none⟩ = some (.string bk)) ∧ Hid (Calls Tryz.prog 41 #[.pointer (some ⟨gx, 0, none⟩), .agg #[.string br, .string bk], .agg #[.string br, .string bk, .int .i64 tm, .slice a1 n1 c1, .slice a2 n2 c2]] w' fun e w'' => e = .returned (.tuple #[]) ∧ (w''.cell? ⟨w.heap.size, 0, none⟩ = some (.string br) ∧ w''.cell? ⟨w.heap.size, 1, none⟩ = some (.string bk) ∧ w''.cell? ⟨w.heap.size, 2, none⟩ = some (.int .i64 tm) ∧ w''.cell? ⟨w.heap.size, 3, none⟩ = some (.slice fa nf fc) ∧ w''.cell? ⟨w.heap.size, 4, none⟩ = some (.slice sa ns sc) ∧ w''.cell? ⟨kb, 0, none⟩ = some (.string br) ∧ w''.cell? ⟨kb, 1, none⟩ = some (.string bk)) ∧ Hid (LgM w'' gx [(m, .slice a1 n1 c1, .slice a2 n2 c2)] ∧ w.grownBy w'' (some gx)))) := fun W hW => by
      refine (HCo.out W (gb_none HZ.out hW)).mono ?_
      rintro e w' ⟨a1, n1, c1, a2, n2, c2, r1, r2, r3⟩
      have kc : ∀ {b o : Nat} {u : Value}, W4.cell? ⟨b, o, none⟩ = some u → w'.cell? ⟨b, o, none⟩ = some u := fun h => (World.cell?_of_block ((gb_none hW r2).block _ (block_lt h) (by simp))).trans h
      refine ⟨a1, n1, c1, a2, n2, c2, r1, ⟨kc q0, kc q1, kc q2, kc q3, kc q4, kc q5, kc q6⟩, r3.out.mono ?_⟩
      rintro e w'' ⟨t1, t2, t3⟩
      have kd : ∀ {b o : Nat} {u : Value}, b ≠ gx → w'.cell? ⟨b, o, none⟩ = some u → w''.cell? ⟨b, o, none⟩ = some u := fun hb h => (World.cell?_of_block (t2.block _ (block_lt h) (fun e => hb (Option.some.inj e)))).trans h
      have n1 : w.heap.size ≠ gx := by omega
      have n2 : kb ≠ gx := by have := HKB.out; omega
      exact ⟨t1, ⟨kd n1 (kc q0), kd n1 (kc q1), kd n1 (kc q2), kd n1 (kc q3), kd n1 (kc q4), kd n2 (kc q5), kd n2 (kc q6)⟩, t3⟩
    clear HCo
    have HD : Hid (W4.grownBy W4.drew none) := gb_drew _ _
    go_region_held3 (fun w' => w'.cell? ⟨w.heap.size, 0, none⟩ = some (.string br) ∧ w'.cell? ⟨w.heap.size, 1, none⟩ = some (.string bk) ∧ w'.cell? ⟨w.heap.size, 2, none⟩ = some (.int .i64 tm) ∧ w'.cell? ⟨w.heap.size, 3, none⟩ = some (.slice fa nf fc) ∧ w'.cell? ⟨w.heap.size, 4, none⟩ = some (.slice sa ns sc) ∧ w'.cell? ⟨kb, 0, none⟩ = some (.string br) ∧ w'.cell? ⟨kb, 1, none⟩ = some (.string bk)) (go_keep)
      (first
        | (go_at_call 42; with_reducible refine (HCo2.out _ HD.out).mono ?_; rintro e w6 ⟨a1, n1, c1, a2, n2, c2, rfl, ⟨j0, j1, j2, j3, j4, j5, j6⟩, H6⟩)
        | (go_at_call 41; with_reducible refine H6.out.mono ?_; rintro e w7 ⟨rfl, ⟨l0, l1, l2, l3, l4, l5, l6⟩, H7⟩))
    go_wp2
    go_ret
    exact ⟨_, _, rfl, H7.out⟩
end Go.Proofs.YtpglhdnepmcahaaGreatDoor
