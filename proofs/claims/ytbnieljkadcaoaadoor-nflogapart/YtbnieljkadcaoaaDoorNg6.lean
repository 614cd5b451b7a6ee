/-
  nflog's list: put of a mark into any log: the walk.
-/
import Derived.Test.YtbnieljkadcaoaaDoorNmA
namespace Go.Proofs.YtbnieljkadcaoaaDoor
open Go.RowKit Go.Shelf Go.Sort

theorem has_key {l : List MkX} {a : LbT} {p : Nat} (hs : risM l) (h : AtE l a p) (hb : hasM l a = true) : p < l.length ∧ keyX (l.getD p xZ) = a := by
  have h2 := h.has hs
  rw [hb] at h2
  have h3 := Bool.and_eq_true_iff.1 h2.symm
  exact ⟨of_decide_eq_true h3.1, of_decide_eq_true h3.2⟩
/-- what comes of an insertion -/
theorem LgX.insd {w W W' : World} {gx p : Nat} {v v' : Value} {l : List MkX} {x : MkX} (h : LgX w gx v l) (hx : MkO w x) (hR : rightM x.1 = 0) (hl : l.length < 500) (hb : hasM l (keyX x) = false) (hp : AtE l (keyX x) p) (hW : w.grownBy W none) (ho : OwnE W' 0 v' (l.take p ++ [x] ++ l.drop p)) (hf : Fr W W' v v') :
    LgX (W'.setCell ⟨gx, 0, none⟩ v') gx v' (putM l x p) ∧ LFr gx w (W'.setCell ⟨gx, 0, none⟩ v') v v' := by
  have hk := h.keep hW
  have hgl : gx < W.heap.size := hk.box.lt
  have c1 : Ch W W' (fun k => v.ownBlock = some k) := Ch.of_gb hf.1 (fun k hk _ => hk)
  have e1 : EnL W (fun k => v.ownBlock = some k) := fun k hk' => hk.enl k (.inr hk')
  have b1 : Boxed W' gx 65 v := bxch hk.box c1 (fun e => hk.row_ne e)
  have c2 := set_ch W' gx 0 v'
  have e2 : EnL W' (fun j => j = gx) := fun k hk' => by subst hk'; exact ⟨_, _, _, b1, .inr rfl⟩
  have ep : putM l x p = l.take p ++ [x] ++ l.drop p := by unfold putM; rw [hb]; rfl
  have hn : ∀ k, v'.ownBlock = some k → ¬ k = gx := fun k hk' e => by
    subst e
    rcases hf.2 k hk' with h1 | h1
    · exact hk.row_ne h1.symm
    · omega
  refine ⟨⟨b1.set v', ?_, putM_ris h.ris hp, fun y hy => ?_, ?_⟩, ?_⟩
  · rw [ep]
    exact row_ch ho c2 hn
  · rcases putM_mem hy with hy | rfl
    · exact ⟨(((h.each y hy).1.keep hW).chT c1 e1).chT c2 e2, (h.each y hy).2⟩
    · exact ⟨((hx.keep hW).chT c1 e1).chT c2 e2, hR⟩
  · rw [putM_len l x p hp.1, hb]
    simp
    omega
  · refine ⟨((Ch.of_gb (S := FpL gx v) hW (fun k hk => by cases hk)).trans (c1.mono (fun k _ hk' => (.inr hk' : FpL gx v k))) (fun _ _ h => h)).trans c2 (fun k _ hk' => .inl hk'), fun k hk' => ?_⟩
    rcases hf.2 k hk' with h1 | h1
    · exact .inl h1.symm
    · exact .inr (Nat.le_trans hW.size h1)
/-- what comes of a mark in the place of another -/
theorem LgX.seted {w W : World} {gx g c p : Nat} {l : List MkX} {x : MkX} (h : LgX w gx (.slice (some ⟨g, 0, none⟩) l.length c) l) (hx : MkO w x) (hR : rightM x.1 = 0) (hb : hasM l (keyX x) = true) (hp : AtE l (keyX x) p) (hW : w.grownBy W none) :
    LgX (setE W g (p * 7) (.string (ByteArray.mk ⟨x.1.rcv⟩)) (.string (ByteArray.mk ⟨x.1.key⟩)) (.int .i64 x.1.tim) x.2.1 x.2.2) gx (.slice (some ⟨g, 0, none⟩) l.length c) (putM l x p) ∧ LFr gx w (setE W g (p * 7) (.string (ByteArray.mk ⟨x.1.rcv⟩)) (.string (ByteArray.mk ⟨x.1.key⟩)) (.int .i64 x.1.tim) x.2.1 x.2.2) (.slice (some ⟨g, 0, none⟩) l.length c) (.slice (some ⟨g, 0, none⟩) l.length c) := by
  have hk := h.keep hW
  obtain ⟨hpl, hke⟩ := has_key h.ris hp hb
  have c1 := setE_ch W g (p * 7) (.string (ByteArray.mk ⟨x.1.rcv⟩)) (.string (ByteArray.mk ⟨x.1.key⟩)) (.int .i64 x.1.tim) x.2.1 x.2.2
  have e1 : EnL W (fun k => k = g) := fun k hk' => hk.enl k (.inr (by rw [hk']; rfl))
  have ep : putM l x p = l.set p x := by unfold putM; rw [if_pos hb]
  refine ⟨⟨bxch hk.box c1 (fun e => hk.row_ne (by rw [e]; rfl)), ?_, putM_ris h.ris hp, fun y hy => ?_, ?_⟩, ?_⟩
  · rw [ep]
    have := OwnE.put hk.row hpl hke
    unfold OwnE at this ⊢
    rw [List.length_set] at this ⊢
    exact this
  · rcases putM_mem hy with hy | rfl
    · exact ⟨((h.each y hy).1.keep hW).chT c1 e1, (h.each y hy).2⟩
    · exact ⟨(hx.keep hW).chT c1 e1, hR⟩
  · rw [ep, List.length_set]
    exact h.len
  · exact ⟨(Ch.of_gb (S := FpL gx (.slice (some ⟨g, 0, none⟩) l.length c)) hW (fun k hk => by cases hk)).trans c1 (fun k _ hk' => .inr (by rw [hk']; rfl)), fun k hk' => .inl hk'⟩
/-- what put leaves -/
def PutP (w : World) (gx : Nat) (v : Value) (l : List MkX) (x : MkX) (w' : World) : Prop := ∃ v' p, AtE l (keyX x) p ∧ LgX w' gx v' (putM l x p) ∧ LFr gx w w' v v'
set_option maxRecDepth 8000 in
set_option maxHeartbeats 12800000 in
theorem putX_any (w : World) (gx : Nat) (v : Value) (l : List MkX) (m : MkR) (f s : Value) (h : LgX w gx v l) (hx : MkO w (m, f, s)) (hR : rightM m = 0) (hlen : hasM l (m.rcv, m.key) = false → l.length < 500) :
    Calls Tryd.prog 59 #[.pointer (some ⟨gx, 0, none⟩), addV (m.rcv, m.key), markV m f s] w fun e w' => e = .returned (.tuple #[]) ∧ PutP w gx v l (m, f, s) w' := by
  have HH := hidJ (And.intro h (And.intro hx (And.intro hR hlen)))
  obtain ⟨fa, fc, ef⟩ := hx.fir.shape
  obtain ⟨sa, sc, es⟩ := hx.res.shape
  dsimp only at ef es
  subst ef es
  have hgl : gx < w.heap.size := h.box.lt
  obtain ⟨va, vc, ev⟩ := h.row.shape
  unfold markV addV
  dsimp only
  -- the place
  have HC : Hid (Calls Tryd.prog 58 #[.pointer (some ⟨gx, 0, none⟩), .agg #[.string (ByteArray.mk ⟨m.rcv⟩), .string (ByteArray.mk ⟨m.key⟩)]] ((w.alloc (.cells #[.string (ByteArray.mk ⟨m.rcv⟩), .string (ByteArray.mk ⟨m.key⟩)] 68)).alloc (.cells #[.string (ByteArray.mk ⟨m.rcv⟩), .string (ByteArray.mk ⟨m.key⟩), .int .i64 m.tim, .slice fa m.fir.length fc, .slice sa m.res.length sc] 24)) fun e w' => ∃ p : Nat, e = .returned (.tuple #[.int .i64 (p : Int), .bool (hasM l (m.rcv, m.key))]) ∧ w'.cell? ⟨gx, 0, none⟩ = some v ∧ w'.frozen? ⟨gx, 0, none⟩ = false ∧ w'.cell? ⟨w.heap.size, 0, none⟩ = some (.string (ByteArray.mk ⟨m.rcv⟩)) ∧ w'.cell? ⟨w.heap.size, 1, none⟩ = some (.string (ByteArray.mk ⟨m.key⟩)) ∧ Hid (w.grownBy w' none ∧ AtE l (m.rcv, m.key) p ∧ B5 w' (w.heap.size + 1) 24 (.string (ByteArray.mk ⟨m.rcv⟩)) (.string (ByteArray.mk ⟨m.key⟩)) (.int .i64 m.tim) (.slice fa m.fir.length fc) (.slice sa m.res.length sc))) := by
    have k1 := World.grownBy_alloc w (.cells #[.string (ByteArray.mk ⟨m.rcv⟩), .string (ByteArray.mk ⟨m.key⟩)] 68) none
    have k2 := World.grownBy_alloc (w.alloc (.cells #[.string (ByteArray.mk ⟨m.rcv⟩), .string (ByteArray.mk ⟨m.key⟩)] 68)) (.cells #[.string (ByteArray.mk ⟨m.rcv⟩), .string (ByteArray.mk ⟨m.key⟩), .int .i64 m.tim, .slice fa m.fir.length fc, .slice sa m.res.length sc] 24) none
    have hc := findL_any _ gx l (m.rcv, m.key) (h.lg.keep (gb_none k1 k2))
    unfold addV at hc
    dsimp only at hc
    refine hc.mono ?_
    rintro e w' ⟨p, q1, q2, q3⟩
    have x1 := (B5.new (w.alloc (.cells #[.string (ByteArray.mk ⟨m.rcv⟩), .string (ByteArray.mk ⟨m.key⟩)] 68)) 24 (.string (ByteArray.mk ⟨m.rcv⟩)) (.string (ByteArray.mk ⟨m.key⟩)) (.int .i64 m.tim) (.slice fa m.fir.length fc) (.slice sa m.res.length sc)).keep q3
    rw [World.size_alloc] at x1
    have hk := gb_none (gb_none k1 k2) q3
    have hb : Boxed w' gx 65 v := (h.keep hk).box
    have hn := ((gb_none k2 q3).block w.heap.size (by simp) (by simp)).trans (Go.heap_alloc_new w (.cells #[.string (ByteArray.mk ⟨m.rcv⟩), .string (ByteArray.mk ⟨m.key⟩)] 68))
    exact ⟨p, q1, hb.cell, hb.frozen, by rw [World.cell?, hn]; rfl, by rw [World.cell?, hn]; rfl, hk, q2, x1⟩
  obtain ⟨HB, hHB⟩ : ∃ HB : Bool, HB = hasM l (m.rcv, m.key) := ⟨_, rfl⟩
  rw [← hHB] at HC
  have HBB := hidJ hHB
  clear hHB
  obtain ⟨PP, hPP⟩ : ∃ PP : World → Prop, PP = PutP w gx v l (m, .slice fa m.fir.length fc, .slice sa m.res.length sc) := ⟨_, rfl⟩
  rw [← hPP]
  have HPP : Hid (∀ w', PutP w gx v l (m, .slice fa m.fir.length fc, .slice sa m.res.length sc) w' → PP w') := fun w' h' => by rw [hPP]; exact h'
  clear hPP
  -- an entry more
  have HI : Hid (HB = false → ∀ W b p, w.grownBy W none → w.heap.size ≤ b → AtE l (m.rcv, m.key) p → W.heap[b]? = some (.cells #[.string (ByteArray.mk ⟨m.rcv⟩), .string (ByteArray.mk ⟨m.key⟩), .string (ByteArray.mk ⟨m.rcv⟩), .string (ByteArray.mk ⟨m.key⟩), .int .i64 m.tim, .slice fa m.fir.length fc, .slice sa m.res.length sc] 85 (0, 0)) → Calls Tryd.prog 70 #[v, .int .i64 (p : Int), .slice (some ⟨b, 0, none⟩) 1 1] W fun e w' => ∃ a' n' c', e = .returned (.slice a' n' c') ∧ w'.cell? ⟨gx, 0, none⟩ = some v ∧ w'.frozen? ⟨gx, 0, none⟩ = false ∧ Hid (PP (w'.setCell ⟨gx, 0, none⟩ (.slice a' n' c')))) := by
    intro hB W b p hW hbb hp hb
    rw [HBB.out] at hB
    obtain ⟨q0, q1, q2, q3⟩ := HH.out
    have hk := q0.keep hW
    refine (insert_any W b p v l (m, .slice fa m.fir.length fc, .slice sa m.res.length sc) hk.row hp.1 q0.len hb (fun e => ?_) (entF_one (fun y hy => (hk.each y hy).1)) rfl rfl).mono ?_
    · have := (World.ownsRow.lt q0.row b e).2
      omega
    · rintro e w' ⟨v', rfl, r1, r2⟩
      obtain ⟨a', c', e'⟩ := r1.shape
      have hbx : Boxed w' gx 65 v := hk.box.kept r2.1 (fun e => hk.row_ne e.symm)
      have hf := q0.insd (x := (m, .slice fa m.fir.length fc, .slice sa m.res.length sc)) q1 q2 (q3 hB) hB hp hW r1 r2
      subst e'
      exact ⟨a', _, c', rfl, hbx.cell, hbx.frozen, HPP.out _ ⟨_, p, hp, hf⟩⟩
  -- in the place of another
  have HS : Hid (HB = true → ∀ W p, w.grownBy W none → AtE l (m.rcv, m.key) p → ∃ g, va = some ⟨g, 0, none⟩ ∧ p < l.length ∧ W.heap[g]? = w.heap[g]? ∧ (∃ cur, W.heap[g]? = some (.cells cur 85 (0, 0)) ∧ l.length * 7 ≤ cur.size) ∧ PP (setE W g (p * 7) (.string (ByteArray.mk ⟨m.rcv⟩)) (.string (ByteArray.mk ⟨m.key⟩)) (.int .i64 m.tim) (.slice fa m.fir.length fc) (.slice sa m.res.length sc))) := by
    intro hB W p hW hp
    rw [HBB.out] at hB
    obtain ⟨q0, q1, q2, q3⟩ := HH.out
    have hpl := (has_key q0.ris hp hB).1
    rcases q0.row.2 with ⟨h', hn⟩ | ⟨g, c, cur, h', hr1, hr2, hr3, hr4, hr5, hr6⟩
    · omega
    · rw [ev] at h'
      simp only [Value.slice.injEq, true_and] at h'
      obtain ⟨h1, h2⟩ := h'
      subst h1
      rw [ev] at q0
      have hf := q0.seted (x := (m, .slice fa m.fir.length fc, .slice sa m.res.length sc)) q1 q2 hB hp hW
      rw [← ev] at hf
      have hgb : W.heap[g]? = w.heap[g]? := hW.block g (some_lt hr2) (by simp)
      exact ⟨g, rfl, hpl, hgb, ⟨cur, hgb.trans hr2, by rw [hr5]; exact Nat.mul_le_mul_right _ hr3⟩, HPP.out _ ⟨_, p, hp, hf⟩⟩
  have hl5 := h.len
  subst ev
  clear h hx hR hlen HPP HBB
  generalize ByteArray.mk ⟨m.rcv⟩ = br at *
  generalize ByteArray.mk ⟨m.key⟩ = bk at *
  generalize m.tim = tm at *
  obtain ⟨nf, hnf⟩ : ∃ nf, m.fir.length = nf := ⟨_, rfl⟩
  obtain ⟨ns, hns⟩ : ∃ ns, m.res.length = ns := ⟨_, rfl⟩
  obtain ⟨N, hN⟩ : ∃ N, l.length = N := ⟨_, rfl⟩
  rw [hnf, hns, hN] at HC HI HS
  rw [hN] at hl5
  rw [hnf, hns]
  clear hnf hns HH hN
  go_enter Tryd.func59, Tryd.ntmps59
  go_wp2_with fail
  refine HC.out.mono ?_
  rintro e w2 ⟨p, rfl, x0, x1, y0, y1, H2⟩
  clear HC
  obtain ⟨i0, i1, i2, i3, i4⟩ := H2.out.2.2.cells
  have HW := hidJ (And.intro H2.out.1 H2.out.2.1)
  clear H2
  cases HB
  · clear HS
    have HI2 : Hid (∀ W b, w.grownBy W none → w.heap.size ≤ b → W.heap[b]? = some (.cells #[.string br, .string bk, .string br, .string bk, .int .i64 tm, .slice fa nf fc, .slice sa ns sc] 85 (0, 0)) → Calls Tryd.prog 70 #[.slice va N vc, .int .i64 (p : Int), .slice (some ⟨b, 0, none⟩) 1 1] W fun e w' => ∃ a' n' c', e = .returned (.slice a' n' c') ∧ w'.cell? ⟨gx, 0, none⟩ = some (.slice va N vc) ∧ w'.frozen? ⟨gx, 0, none⟩ = false ∧ Hid (PP (w'.setCell ⟨gx, 0, none⟩ (.slice a' n' c')))) := fun W b hW hb h => HI.out rfl W b p hW hb HW.out.2 h
    clear HI
    have HZ := hidJ HW.out.1.size
    have hne1 : ¬ gx = w2.heap.size := by have := block_lt x0; omega
    have hne2 : ¬ w2.heap.size = gx := by omega
    have HK : Hid (∀ (C : Obj) (b o : Nat) (u : Value), w2.cell? ⟨b, o, none⟩ = some u → (w2.alloc C).cell? ⟨b, o, none⟩ = some u) := fun C b o u h => (World.cell?_of_block ((World.grownBy_alloc w2 C none).block b (block_lt h) (by simp))).trans h
    have HK2 : Hid (∀ (C : Obj) (b o : Nat) (u : Value), w2.cell? ⟨b, o, none⟩ = some u → (w2.drew.alloc C).cell? ⟨b, o, none⟩ = some u) := fun C b o u h => (World.cell?_of_block ((gb_none (gb_drew w2 none) (World.grownBy_alloc w2.drew C none)).block b (block_lt h) (by simp))).trans h
    have z0 := fun C => HK.out C _ _ _ x0
    have z1 := fun C => HK.out C _ _ _ y0
    have z2 := fun C => HK.out C _ _ _ y1
    have z3 := fun C => HK.out C _ _ _ i0
    have z4 := fun C => HK.out C _ _ _ i1
    have z5 := fun C => HK.out C _ _ _ i2
    have z6 := fun C => HK.out C _ _ _ i3
    have z7 := fun C => HK.out C _ _ _ i4
    have t0 := fun C => HK2.out C _ _ _ x0
    have t1 := fun C => HK2.out C _ _ _ y0
    have t2 := fun C => HK2.out C _ _ _ y1
    have t3 := fun C => HK2.out C _ _ _ i0
    have t4 := fun C => HK2.out C _ _ _ i1
    have t5 := fun C => HK2.out C _ _ _ i2
    have t6 := fun C => HK2.out C _ _ _ i3
    have t7 := fun C => HK2.out C _ _ _ i4
    go_wp2
    go_region_with (go_at_call 70; refine (HI2.out _ _ (by first | exact gb_none HW.out.1 (World.grownBy_alloc _ _ none) | exact gb_none (gb_none HW.out.1 (gb_drew _ none)) (World.grownBy_alloc _ _ none) | exact gb_none (gb_none HW.out.1 (World.grownBy_alloc _ _ none)) (gb_drew _ none)) (by exact HZ.out) (by exact Go.heap_alloc_new _ _)).mono ?_; rintro e w5 ⟨a5, n5, c5, rfl, p0, p1, H5⟩)
    all_goals
      clear HI2
      go_wp2
      go_end0
      exact ⟨rfl, H5.out⟩
  · clear HI
    obtain ⟨g, rfl, hpN, -, ⟨cur, hcur, hcs⟩, hPP⟩ := HS.out rfl w2.drew p (gb_none HW.out.1 (gb_drew _ none)) HW.out.2
    have HF := hidJ hPP
    have hcell : ∀ j, j < cur.size → ∃ u, w2.cell? ⟨g, j, none⟩ = some u := fun j hj => by
      have hc2 : w2.heap[g]? = some (.cells cur 85 (0, 0)) := hcur
      exact ⟨cur[j], by simp [World.cell?, hc2, hj]⟩
    have hfr : ∀ j, w2.frozen? ⟨g, j, none⟩ = false := fun j => by
      have hc2 : w2.heap[g]? = some (.cells cur 85 (0, 0)) := hcur
      simp [World.frozen?, hc2]
    obtain ⟨u2, d2⟩ := hcell (p * 7 + 2) (by omega)
    obtain ⟨u3, d3⟩ := hcell (p * 7 + 3) (by omega)
    obtain ⟨u4, d4⟩ := hcell (p * 7 + 4) (by omega)
    obtain ⟨u5, d5⟩ := hcell (p * 7 + 5) (by omega)
    obtain ⟨u6, d6⟩ := hcell (p * 7 + 6) (by omega)
    have f2 := hfr (p * 7 + 2)
    have f3 := hfr (p * 7 + 3)
    have f4 := hfr (p * 7 + 4)
    have f5 := hfr (p * 7 + 5)
    have f6 := hfr (p * 7 + 6)
    have hpi : (p : Int) < (N : Int) := by omega
    clear HS hPP hcell hfr hcur hcs
    unfold setE at HF
    go_wp2
    go_region
    go_wp2
    (try simp only [Exit.inBlock, Exit.then])
    refine bodyPost_ret (results_none rfl _ _ _) rfl ?_
    exact ⟨rfl, HF.out⟩
end Go.Proofs.YtbnieljkadcaoaaDoor
