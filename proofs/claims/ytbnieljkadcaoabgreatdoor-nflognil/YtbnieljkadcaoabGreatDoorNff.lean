/-
  nflog's list: put of the first mark: the walk.
-/
import Derived.Test.YtbnieljkadcaoabGreatDoorNfe
namespace Go.Proofs.YtbnieljkadcaoabGreatDoor
open Go.RowKit Go.Shelf Go.Sort

theorem infoEn : (Tryz.prog.info? 92).map (fun i => (i.zero, i.size, i.bytes)) = some (some (.agg #[.string ⟨#[]⟩, .string ⟨#[]⟩, .string ⟨#[]⟩, .string ⟨#[]⟩, .int .i64 0, .slice none 0 0, .slice none 0 0]), 7, 120) := by kernel_rfl
set_option maxRecDepth 8000 in
set_option maxHeartbeats 3200000 in
theorem insert_nil (w : World) (b : Nat) (x : MkX) (hb : w.heap[b]? = some (.cells (entC x).toArray 92 (0, 0))) (h1 : x.2.1.oneCell' = true) (h2 : x.2.2.oneCell' = true) :
    Calls Tryz.prog 75 #[.slice none 0 0, .int .i64 0, .slice (some ⟨b, 0, none⟩) 1 1] w fun e w' => ∃ v', e = .returned v' ∧ OwnE w' w.heap.size v' [x] ∧ w.grownBy w' none := by
  obtain ⟨i0, hi, hz0, hz1, hz2⟩ := info_parts infoEn
  obtain ⟨v', w', hrun, k2, k3⟩ := run_appH w 53 53 92 i0 _ 7 120 w.heap.size Tryz.underlying53 hi hz0 hz1 hz2 rfl (by decide) (.slice none 0 0) 0 [] (World.ownsRow_nil _ _ _ _) (some ⟨b, 0, none⟩) 1 1 (entC x) rfl
    (fun j u hj => by
      refine ⟨_, rfl, ?_⟩
      rw [Go.WideShapes.add_plain]
      simp only [World.cell?, hb]
      simpa using hj) (fun e => by cases e)
    (fun u hu => by
      unfold entC at hu
      simp only [List.mem_cons, List.not_mem_nil, or_false] at hu
      rcases hu with rfl | rfl | rfl | rfl | rfl | rfl | rfl <;> first | rfl | exact h1 | exact h2) (by omega) (by omega) (by omega)
  have HO : Hid (OwnE w' w.heap.size v' [x] ∧ w.grownBy w' none) := by
    refine ⟨?_, gb_trans (gb_refl _ _) k3.1 (fun k hk => by simp [Value.ownBlock] at hk)⟩
    unfold OwnE
    have e : entF [x] = entC x := by simp [entF]
    rw [e]
    simpa using k2
  obtain ⟨a2, n2, c2, rfl⟩ : ∃ a n c, v' = .slice a n c := by
    obtain ⟨a, c, e⟩ := HO.out.1.shape
    exact ⟨a, _, c, e⟩
  have HRun := hidJ hrun
  clear k2 k3 hrun hz0 hz1 hz2 hi hb h1 h2
  go_enter Tryz.func75, Tryz.ntmps75
  go_wp2_with (at_builtin; refine wp_appRun rfl _ _ 53 rfl _ _ _ rfl rfl HRun.out ?_)
  go_wp2
  go_ret
  exact ⟨_, rfl, HO.out⟩
theorem OwnLL.own {w : World} {base : Nat} {v : Value} {lss : List (List LbT)} (h : OwnLL w base v lss) : v.oneCell' = true := by
  obtain ⟨a, c, rfl⟩ := h.shape
  rfl
/-- a log that has had no mark -/
def LgN (w : World) (gx : Nat) : Prop := Boxed w gx 57 (.slice none 0 0)
theorem LgN.lg {w : World} {gx : Nat} (h : LgN w gx) : LgM w gx [] := ⟨⟨_, h, OwnE.nil _ _⟩, List.Pairwise.nil, (fun x hx => by cases hx), by simp⟩
theorem LgN.keep {w w' : World} {gx : Nat} (h : LgN w gx) (hg : w.grownBy w' none) : LgN w' gx := Boxed.kept h hg (by simp)
set_option maxRecDepth 8000 in
set_option maxHeartbeats 12800000 in
theorem putE_any (w : World) (gx base : Nat) (m : MkR) (f s : Value) (h : LgN w gx) (hf : OwnLL w base f m.fir) (hs : OwnLL w base s m.res) (hgx : gx < base) (hbw : base ≤ w.heap.size) (hR : rightM m = 0) (iF : LLIn m.fir) (iR : LLIn m.res) (ir : m.rcv.length ≤ 1000000000000000000) (ik : m.key.length ≤ 1000000000000000000) :
    Calls Tryz.prog 48 #[.pointer (some ⟨gx, 0, none⟩), addV (m.rcv, m.key), markV m f s] w fun e w' => e = .returned (.tuple #[]) ∧ LgM w' gx [(m, f, s)] ∧ w.grownBy w' (some gx) := by
  have HH := hidJ (And.intro h (And.intro hf (And.intro hs (And.intro hgx (And.intro hbw (And.intro hR (And.intro iF (And.intro iR (And.intro ir ik)))))))))
  obtain ⟨fa, fc, ef⟩ := hf.shape
  obtain ⟨sa, sc, es⟩ := hs.shape
  -- what comes of it
  have HP : Hid (∀ W v, w.grownBy W none → OwnE W w.heap.size v [(m, f, s)] → LgM (W.setCell ⟨gx, 0, none⟩ v) gx [(m, f, s)] ∧ w.grownBy (W.setCell ⟨gx, 0, none⟩ v) (some gx)) := by
    intro W v hW hv
    obtain ⟨q0, q1, q2, q3, q4, q5, q6, q7, q8, q9⟩ := HH.out
    have hc := set_ch W gx 0 v
    have hb : Boxed W gx 57 (.slice none 0 0) := q0.keep hW
    refine ⟨⟨⟨v, hb.set v, ?_⟩, List.pairwise_singleton _ _, fun x hx => ?_, by simp⟩, gb_trans (gb_any hW (some gx)) (gbs W gx 0 v) (fun k hk _ => hk.symm)⟩
    · refine OwnE.mono (base := w.heap.size) (row_ch hv hc (fun k hk e => ?_)) (Nat.zero_le _)
      have := (World.ownsRow.lt hv k hk).1
      omega
    · rw [List.mem_singleton] at hx
      subst hx
      exact ⟨⟨((q1.keep hW).ch hc (fun k e => by omega)).rd, ((q2.keep hW).ch hc (fun k e => by omega)).rd, q6, q7, q8, q9⟩, q5⟩
  have hgl : gx < w.heap.size := by omega
  subst ef es
  unfold markV addV
  dsimp only
  -- the place: none
  have HC : Hid (Calls Tryz.prog 47 #[.pointer (some ⟨gx, 0, none⟩), .agg #[.string (ByteArray.mk ⟨m.rcv⟩), .string (ByteArray.mk ⟨m.key⟩)]] ((w.alloc (.cells #[.string (ByteArray.mk ⟨m.rcv⟩), .string (ByteArray.mk ⟨m.key⟩)] 69)).alloc (.cells #[.string (ByteArray.mk ⟨m.rcv⟩), .string (ByteArray.mk ⟨m.key⟩), .int .i64 m.tim, .slice fa m.fir.length fc, .slice sa m.res.length sc] 24)) fun e w' => e = .returned (.tuple #[.int .i64 0, .bool false]) ∧ w'.cell? ⟨gx, 0, none⟩ = some (.slice none 0 0) ∧ w'.frozen? ⟨gx, 0, none⟩ = false ∧ w'.cell? ⟨w.heap.size, 0, none⟩ = some (.string (ByteArray.mk ⟨m.rcv⟩)) ∧ w'.cell? ⟨w.heap.size, 1, none⟩ = some (.string (ByteArray.mk ⟨m.key⟩)) ∧ Hid (w.grownBy w' none ∧ B5 w' (w.heap.size + 1) 24 (.string (ByteArray.mk ⟨m.rcv⟩)) (.string (ByteArray.mk ⟨m.key⟩)) (.int .i64 m.tim) (.slice fa m.fir.length fc) (.slice sa m.res.length sc))) := by
    have k1 := World.grownBy_alloc w (.cells #[.string (ByteArray.mk ⟨m.rcv⟩), .string (ByteArray.mk ⟨m.key⟩)] 69) none
    have k2 := World.grownBy_alloc (w.alloc (.cells #[.string (ByteArray.mk ⟨m.rcv⟩), .string (ByteArray.mk ⟨m.key⟩)] 69)) (.cells #[.string (ByteArray.mk ⟨m.rcv⟩), .string (ByteArray.mk ⟨m.key⟩), .int .i64 m.tim, .slice fa m.fir.length fc, .slice sa m.res.length sc] 24) none
    have hc := findL_any _ gx [] (m.rcv, m.key) (h.lg.keep (gb_none k1 k2))
    unfold addV at hc
    dsimp only at hc
    refine hc.mono ?_
    rintro e w' ⟨p, q1, q2, q3⟩
    have hp : p = 0 := by have := q2.1; simpa using this
    subst hp
    have x1 := (B5.new (w.alloc (.cells #[.string (ByteArray.mk ⟨m.rcv⟩), .string (ByteArray.mk ⟨m.key⟩)] 69)) 24 (.string (ByteArray.mk ⟨m.rcv⟩)) (.string (ByteArray.mk ⟨m.key⟩)) (.int .i64 m.tim) (.slice fa m.fir.length fc) (.slice sa m.res.length sc)).keep q3
    rw [World.size_alloc] at x1
    have hk := gb_none (gb_none k1 k2) q3
    have hb : Boxed w' gx 57 (.slice none 0 0) := h.keep hk
    have hn := ((gb_none k2 q3).block w.heap.size (by simp) (by simp)).trans (Go.heap_alloc_new w (.cells #[.string (ByteArray.mk ⟨m.rcv⟩), .string (ByteArray.mk ⟨m.key⟩)] 69))
    exact ⟨q1, hb.cell, hb.frozen, by rw [World.cell?, hn]; rfl, by rw [World.cell?, hn]; rfl, hk, x1⟩
  have HI : Hid (∀ W b, w.grownBy W none → W.heap[b]? = some (.cells #[.string (ByteArray.mk ⟨m.rcv⟩), .string (ByteArray.mk ⟨m.key⟩), .string (ByteArray.mk ⟨m.rcv⟩), .string (ByteArray.mk ⟨m.key⟩), .int .i64 m.tim, .slice fa m.fir.length fc, .slice sa m.res.length sc] 92 (0, 0)) → Calls Tryz.prog 75 #[.slice none 0 0, .int .i64 0, .slice (some ⟨b, 0, none⟩) 1 1] W fun e w' => ∃ a' n' c', e = .returned (.slice a' n' c') ∧ w'.cell? ⟨gx, 0, none⟩ = some (.slice none 0 0) ∧ w'.frozen? ⟨gx, 0, none⟩ = false ∧ Hid (LgM (w'.setCell ⟨gx, 0, none⟩ (.slice a' n' c')) gx [(m, .slice fa m.fir.length fc, .slice sa m.res.length sc)] ∧ w.grownBy (w'.setCell ⟨gx, 0, none⟩ (.slice a' n' c')) (some gx))) := by
    intro W b hW hb
    refine (insert_nil W b (m, .slice fa m.fir.length fc, .slice sa m.res.length sc) hb rfl rfl).mono ?_
    rintro e w' ⟨v', rfl, q1, q2⟩
    obtain ⟨a', c', e'⟩ := q1.shape
    subst e'
    have hk := gb_none hW q2
    have hbx : Boxed w' gx 57 (.slice none 0 0) := h.keep hk
    exact ⟨a', _, c', rfl, hbx.cell, hbx.frozen, HP.out w' _ hk (q1.mono hW.size)⟩
  clear HP h hf hs hgx hbw hR iF iR ir ik
  generalize ByteArray.mk ⟨m.rcv⟩ = br at *
  generalize ByteArray.mk ⟨m.key⟩ = bk at *
  generalize m.tim = tm at *
  obtain ⟨nf, hnf⟩ : ∃ nf, m.fir.length = nf := ⟨_, rfl⟩
  obtain ⟨ns, hns⟩ : ∃ ns, m.res.length = ns := ⟨_, rfl⟩
  rw [hnf, hns] at HC HI
  rw [hnf, hns]
  clear hnf hns HH
  go_enter Tryz.func48, Tryz.ntmps48
  go_wp2_with fail
  refine HC.out.mono ?_
  rintro e w2 ⟨rfl, x0, x1, y0, y1, H2⟩
  clear HC
  obtain ⟨i0, i1, i2, i3, i4⟩ := H2.out.2.cells
  have HW := hidJ H2.out.1
  clear H2
  have hne1 : ¬ gx = w2.heap.size := by have := block_lt x0; omega
  have hne2 : ¬ w2.heap.size = gx := by omega
  have HK : Hid (∀ (C : Obj) (b o : Nat) (u : Value), w2.cell? ⟨b, o, none⟩ = some u → (w2.alloc C).cell? ⟨b, o, none⟩ = some u) := fun C b o u h => (World.cell?_of_block ((World.grownBy_alloc w2 C none).block b (block_lt h) (by simp))).trans h
  have HK2 : Hid (∀ (C : Obj) (b o : Nat) (u : Value), w2.cell? ⟨b, o, none⟩ = some u → (w2.drew.alloc C).cell? ⟨b, o, none⟩ = some u) := fun C b o u h => (World.cell?_of_block ((gb_none (gb_drew w2 none) (World.grownBy_alloc w2.drew C none)).block b (block_lt h) (by simp))).trans h
  have z0 := fun C => HK.out C _ _ _ x0
  have z1 := fun C => HK.out C _ _ _ y0
  have z2 := fun C => HK.out C _ _ _ y1
  have z3 := fun C => HK.out C _ _ _ i0
  have z4 := fun C => HK.out C _ _ _ i1
  have z5 := fun C => HK.out C _ _ _ i2
  have z6 := fun C => HK.out C _ _ _ i3
  have z7 := fun C => HK.out C _ _ _ i4
  have t0 := fun C => HK2.out C _ _ _ x0
  have t1 := fun C => HK2.out C _ _ _ y0
  have t2 := fun C => HK2.out C _ _ _ y1
  have t3 := fun C => HK2.out C _ _ _ i0
  have t4 := fun C => HK2.out C _ _ _ i1
  have t5 := fun C => HK2.out C _ _ _ i2
  have t6 := fun C => HK2.out C _ _ _ i3
  have t7 := fun C => HK2.out C _ _ _ i4
  go_wp2
  go_region_with (go_at_call 75; refine (HI.out _ _ (by first | exact gb_none HW.out (World.grownBy_alloc _ _ none) | exact gb_none (gb_none HW.out (gb_drew _ none)) (World.grownBy_alloc _ _ none) | exact gb_none (gb_none HW.out (World.grownBy_alloc _ _ none)) (gb_drew _ none)) (by exact Go.heap_alloc_new _ _)).mono ?_; rintro e w5 ⟨a5, n5, c5, rfl, p0, p1, H5⟩)
  all_goals
    clear HI
    go_wp2
    go_end0
    exact ⟨rfl, H5.out⟩
end Go.Proofs.YtbnieljkadcaoabGreatDoor
