/-
  Ng7, Ng8, in one text.
-/
import Derived.Test.YtpglhdnepmcahaaGreatDoorNgB
/- Ng7 -/
namespace Go.Proofs.YtpglhdnepmcahaaGreatDoor
open Go.RowKit Go.Shelf Go.Sort

/-- is there no room for a mark of this address? -/
def fullM (l : List MkX) (a : LbT) : Bool := !hasM l a && decide (500 ≤ l.length)
/-- a mark's lists, made behind b -/
def NewL (w : World) (b : Nat) (m : MkR) (f s : Value) : Prop := OwnLL w b f m.fir ∧ OwnLL w b s m.res
/-- what lay leaves -/
def LayP (w : World) (gx : Nat) (v : Value) (l : List MkX) (m : MkR) (e : Ending) (w' : World) : Prop :=
  (fullM l (m.rcv, m.key) = true ∧ e = .returned (.int .i64 8) ∧ w.grownBy w' none) ∨ (fullM l (m.rcv, m.key) = false ∧ e = .returned (.int .i64 0) ∧ ∃ f' s', PutP w gx v l (m, f', s') w' ∧ NewL w' w.heap.size m f' s')
theorem PutP.pre {w w1 w2 : World} {gx : Nat} {v : Value} {l : List MkX} {x : MkX} (h : PutP w1 gx v l x w2) (hg : w.grownBy w1 none) : PutP w gx v l x w2 := by
  obtain ⟨v', p, h1, h2, h3⟩ := h
  exact ⟨v', p, h1, h2, h3.pre hg⟩
theorem got_shape {w : World} {gx : Nat} {l : List MkX} (h : LgM w gx l) (a : LbT) : (∃ a1 c1, (getM l a).2.1 = .slice a1 (getM l a).1.fir.length c1) ∧ ∃ a1 c1, (getM l a).2.2 = .slice a1 (getM l a).1.res.length c1 := by
  have hg := h.got a
  obtain ⟨a1, c1, e1, -⟩ := hg.fir.shape
  obtain ⟨a2, c2, e2, -⟩ := hg.res.shape
  exact ⟨⟨a1, c1, e1⟩, a2, c2, e2⟩
set_option maxRecDepth 8000 in
set_option maxHeartbeats 12800000 in
theorem layX_any (w : World) (gx : Nat) (v : Value) (l : List MkX) (m : MkR) (f s : Value) (h : LgX w gx v l) (hm : RdM w m f s) (hR : rightM m = 0) :
    Calls Tryz.prog 12 #[.pointer (some ⟨gx, 0, none⟩), markV m f s] w fun e w' => LayP w gx v l m e w' := by
  have hgl : gx < w.heap.size := h.box.lt
  obtain ⟨fa, fc, ef, -⟩ := hm.fir.shape
  obtain ⟨sa, sc, es, -⟩ := hm.res.shape
  subst ef es
  obtain ⟨⟨ga, gc, eg⟩, ha, hc, eh⟩ := got_shape h.lg (m.rcv, m.key)
  have HA : Hid (∀ W, Calls Tryz.prog 39 #[markV m (.slice fa m.fir.length fc) (.slice sa m.res.length sc)] W fun e w' => e = .returned (addV (m.rcv, m.key)) ∧ W.grownBy w' none) := fun W => addrOf_any W m _ _ ⟨_, _, _, rfl⟩ ⟨_, _, _, rfl⟩
  have HG : Hid (∀ W, w.grownBy W none → Calls Tryz.prog 40 #[.pointer (some ⟨gx, 0, none⟩), addV (m.rcv, m.key)] W fun e w' => e = .returned (.tuple #[.agg #[.string (ByteArray.mk ⟨(getM l (m.rcv, m.key)).1.rcv⟩), .string (ByteArray.mk ⟨(getM l (m.rcv, m.key)).1.key⟩), .int .i64 (getM l (m.rcv, m.key)).1.tim, .slice ga (getM l (m.rcv, m.key)).1.fir.length gc, .slice ha (getM l (m.rcv, m.key)).1.res.length hc], .bool (hasM l (m.rcv, m.key))]) ∧ W.grownBy w' none) := fun W hW => by
    have hc0 := getL_any W gx l (m.rcv, m.key) (h.lg.keep hW)
    unfold markX markV at hc0
    rw [eg, eh] at hc0
    exact hc0
  have HLn : Hid (∀ W, w.grownBy W none → Calls Tryz.prog 27 #[.pointer (some ⟨gx, 0, none⟩)] W fun e w' => e = .returned (.int .i64 (l.length : Int)) ∧ w' = W) := fun W hW => lenL_any W gx l (h.lg.keep hW)
  have HCo : Hid (fullM l (m.rcv, m.key) = false → ∀ W, w.grownBy W none → Calls Tryz.prog 42 #[markV m (.slice fa m.fir.length fc) (.slice sa m.res.length sc)] W fun e w' => ∃ a1 n1 c1 a2 n2 c2, e = .returned (markV m (.slice a1 n1 c1) (.slice a2 n2 c2)) ∧ W.grownBy w' none ∧ Hid (Calls Tryz.prog 41 #[.pointer (some ⟨gx, 0, none⟩), addV (m.rcv, m.key), markV m (.slice a1 n1 c1) (.slice a2 n2 c2)] w' fun e w'' => e = .returned (.tuple #[]) ∧ (∀ b, w.heap.size ≤ b → b < w'.heap.size → w''.heap[b]? = w'.heap[b]?) ∧ Hid (PutP w gx v l (m, .slice a1 n1 c1, .slice a2 n2 c2) w'' ∧ NewL w'' w.heap.size m (.slice a1 n1 c1) (.slice a2 n2 c2)))) := fun hfu W hW => by
    have hl := right_LLs hR
    refine (copyM_any W m _ _ (hm.fir.keep hW) (hm.res.keep hW) hl.1 hl.2).mono ?_
    rintro e w' ⟨f', s', q1, q2, q3, q4⟩
    obtain ⟨a1, c1, e1⟩ := q2.shape
    obtain ⟨a2, c2, e2⟩ := q3.shape
    subst e1 e2
    have hk := gb_none hW q4
    refine ⟨a1, _, c1, a2, _, c2, q1, q4, (putX_any w' gx v l m _ _ (h.keep hk) ⟨q2.mono (Nat.zero_le _), q3.mono (Nat.zero_le _), hm.inF, hm.inR, hm.inr, hm.ink⟩ hR (fun hb => ?_)).mono ?_⟩
    · unfold fullM at hfu
      rw [hb] at hfu
      simpa using hfu
    · rintro e w2 ⟨r1, r2⟩
      have hle : w.heap.size ≤ W.heap.size + 2 := by have := hW.size; omega
      have hN : NewL w2 w.heap.size m (.slice a1 m.fir.length c1) (.slice a2 m.res.length c2) := by
        obtain ⟨v', p, s1, s2, s3⟩ := r2
        exact ⟨(q2.mono hle).chT s3.1 (h.keep hk).enl, (q3.mono hle).chT s3.1 (h.keep hk).enl⟩
      refine ⟨r1, fun b hb1 hb2 => ?_, r2.pre hk, hN⟩
      obtain ⟨v', p, s1, s2, s3⟩ := r2
      refine s3.1.block hb2 (fun hs => ?_)
      rcases hs with hs | hs
      · omega
      · have := (World.ownsRow.lt h.row b hs).2
        omega
  have hl5 := h.len
  have HL0 : Hid (∀ e w', fullM l (m.rcv, m.key) = true → e = .returned (.int .i64 8) → w.grownBy w' none → LayP w gx v l m e w') := fun e w' h1 h2 h3 => .inl ⟨h1, h2, h3⟩
  have HL1 : Hid (∀ e w' f' s', fullM l (m.rcv, m.key) = false → e = .returned (.int .i64 0) → (PutP w gx v l (m, f', s') w' ∧ NewL w' w.heap.size m f' s') → LayP w gx v l m e w') := fun e w' f' s' h1 h2 h3 => .inr ⟨h1, h2, f', s', h3⟩
  obtain ⟨LP, hLP⟩ : ∃ LP : Ending → World → Prop, LP = LayP w gx v l m := ⟨_, rfl⟩
  rw [← hLP] at HL0 HL1
  rw [show (fun e w' => LayP w gx v l m e w') = (fun e w' => LP e w') from by rw [hLP]]
  clear hLP
  obtain ⟨FU, hFU⟩ : ∃ FU : Bool, FU = fullM l (m.rcv, m.key) := ⟨_, rfl⟩
  rw [← hFU] at HCo HL0 HL1
  unfold fullM at hFU
  clear h hm hR eg eh
  unfold markV at HA HCo
  unfold addV at HA HG HCo
  unfold markV
  dsimp only at HA HG HCo
  have HB := hidJ (And.intro (B5.new w 34 (.string (ByteArray.mk ⟨m.rcv⟩)) (.string (ByteArray.mk ⟨m.key⟩)) (.int .i64 m.tim) (.slice fa m.fir.length fc) (.slice sa m.res.length sc)) (World.grownBy_alloc w (.cells #[.string (ByteArray.mk ⟨m.rcv⟩), .string (ByteArray.mk ⟨m.key⟩), .int .i64 m.tim, .slice fa m.fir.length fc, .slice sa m.res.length sc] 34) none))
  generalize ByteArray.mk ⟨(getM l (m.rcv, m.key)).1.rcv⟩ = gr at *
  generalize ByteArray.mk ⟨(getM l (m.rcv, m.key)).1.key⟩ = gk at *
  generalize (getM l (m.rcv, m.key)).1.tim = gt at *
  generalize (getM l (m.rcv, m.key)).1.fir.length = gn at *
  generalize (getM l (m.rcv, m.key)).1.res.length = hn at *
  generalize hasM l (m.rcv, m.key) = HS at *
  obtain ⟨PQ, hPQ⟩ : ∃ PQ : Value → Value → World → Prop, PQ = fun f' s' w' => PutP w gx v l (m, f', s') w' ∧ NewL w' w.heap.size m f' s' := ⟨_, rfl⟩
  have HCo1 := hidJ HCo.out
  have HL2 : Hid (∀ e w' f' s', FU = false → e = .returned (.int .i64 0) → PQ f' s' w' → LP e w') := fun e w' f' s' h1 h2 h3 => HL1.out e w' f' s' h1 h2 (by rw [hPQ] at h3; exact h3)
  have hPQ2 : ∀ f' s' w', (PutP w gx v l (m, f', s') w' ∧ NewL w' w.heap.size m f' s') = PQ f' s' w' := fun f' s' w' => by rw [hPQ]
  clear HCo HL1
  simp only [hPQ2] at HCo1
  clear hPQ2 hPQ
  generalize ByteArray.mk ⟨m.rcv⟩ = br at *
  generalize ByteArray.mk ⟨m.key⟩ = bk at *
  generalize m.tim = tm at *
  generalize m.fir.length = nf at *
  generalize m.res.length = ns at *
  generalize l.length = N at *
  go_enter Tryz.func12, Tryz.ntmps12
  go_wp2_with fail
  refine (HA.out _).mono ?_
  rintro e w1 ⟨rfl, g1⟩
  clear HA
  have HB := hidJ (And.intro (HB.out.1.keep g1) (gb_none HB.out.2 g1))
  clear g1
  have k2 := World.grownBy_alloc w1 (.cells #[.string br, .string bk] 81) none
  have HB2 := hidJ (And.intro (HB.out.1.keep k2) (And.intro (gb_none HB.out.2 k2) (Go.heap_alloc_new w1 (.cells #[.string br, .string bk] 81))))
  clear k2
  go_wp2
  have HKB : Hid (w.heap.size < w1.heap.size) := some_lt HB.out.1
  generalize hkb : w1.heap.size = kb at *
  generalize w1.alloc (.cells #[.string br, .string bk] 81) = W2 at *
  clear hkb HB
  obtain ⟨c0, c1, c2, c3, c4⟩ := HB2.out.1.cells
  have e0 : W2.cell? ⟨kb, 0, none⟩ = some (.string br) := by rw [World.cell?, HB2.out.2.2]; rfl
  have e1 : W2.cell? ⟨kb, 1, none⟩ = some (.string bk) := by rw [World.cell?, HB2.out.2.2]; rfl
  have hkw : kb < W2.heap.size := some_lt HB2.out.2.2
  have HG2 : Hid (∀ W, W2.grownBy W none → Calls Tryz.prog 40 #[.pointer (some ⟨gx, 0, none⟩), .agg #[.string br, .string bk]] W fun e w' => e = .returned (.tuple #[.agg #[.string gr, .string gk, .int .i64 gt, .slice ga gn gc, .slice ha hn hc], .bool HS]) ∧ Hid (W.grownBy w' none)) := fun W hW => HG.out W (gb_none HB2.out.2.1 hW)
  clear HG
  have hne1 : ¬ kb = W2.heap.size := by omega
  have hne2 : ¬ W2.heap.size = kb := by omega
  have HK : Hid (∀ (C : Obj) (b o : Nat) (u : Value), W2.cell? ⟨b, o, none⟩ = some u → (W2.alloc C).cell? ⟨b, o, none⟩ = some u) := fun C b o u h => (World.cell?_of_block ((World.grownBy_alloc W2 C none).block b (block_lt h) (by simp))).trans h
  have HK2 : Hid (∀ (C : Obj) (b o : Nat) (u : Value), W2.cell? ⟨b, o, none⟩ = some u → (W2.drew.alloc C).cell? ⟨b, o, none⟩ = some u) := fun C b o u h => (World.cell?_of_block ((gb_none (gb_drew W2 none) (World.grownBy_alloc W2.drew C none)).block b (block_lt h) (by simp))).trans h
  have z1 := fun C => HK.out C _ _ _ e0
  have z2 := fun C => HK.out C _ _ _ e1
  have t1 := fun C => HK2.out C _ _ _ e0
  have t2 := fun C => HK2.out C _ _ _ e1
  go_region_with (go_at_call 40; refine (HG2.out _ (by first | exact gb_refl _ _ | exact gb_drew _ none | exact gb_none (World.grownBy_alloc _ _ none) (gb_drew _ none) | exact gb_none (gb_drew _ none) (World.grownBy_alloc _ _ none))).mono ?_; rintro e w3 ⟨rfl, H3⟩; (first | (have hb5 := (show B5 _ W2.heap.size 34 (.string ⟨#[]⟩) (.string ⟨#[]⟩) (.int .i64 0) (.slice none 0 0) (.slice none 0 0) from B5.new W2 34 (.string ⟨#[]⟩) (.string ⟨#[]⟩) (.int .i64 0) (.slice none 0 0) (.slice none 0 0)).keep (gb_none (gb_drew _ none) H3.out); obtain ⟨n0, n1, n2, n3, n4⟩ := hb5.cells; obtain ⟨m0, m1, m2, m3, m4⟩ := hb5.froz; have HB5 := hidJ hb5; clear hb5) | skip))
  all_goals
    clear z1 z2 t1 t2 HK HK2 hne1 hne2 HG2
    have HX : Hid (∀ W, (W = w3.alloc (.cells #[.string gr, .string gk, .int .i64 gt, .slice ga gn gc, .slice ha hn hc] 34) ∨ W = set5 w3 W2.heap.size (.string gr) (.string gk) (.int .i64 gt) (.slice ga gn gc) (.slice ha hn hc)) → W2.grownBy W none) := by
      intro W hW
      have g3 : W2.grownBy w3 none := by first | exact gb_none (gb_drew _ none) H3.out | exact gb_none (gb_none (World.grownBy_alloc _ _ none) (gb_drew _ none)) H3.out | exact gb_none (gb_none (gb_drew _ none) (World.grownBy_alloc _ _ none)) H3.out | exact H3.out
      rcases hW with rfl | rfl
      · exact gb_none g3 (World.grownBy_alloc _ _ none)
      · exact gb_ch g3 (set5_ch _ _ _ _ _ _ _) (fun k e => by omega)
    clear H3
    first
      | (clear n0 n1 n2 n3 n4 m0 m1 m2 m3 m4 HB5; have HY := hidJ (HX.out _ (.inr rfl)); unfold set5 at HY; generalize (((((w3.setCell ⟨W2.heap.size, 0, none⟩ (.string gr)).setCell ⟨W2.heap.size, 1, none⟩ (.string gk)).setCell ⟨W2.heap.size, 2, none⟩ (.int .i64 gt)).setCell ⟨W2.heap.size, 3, none⟩ (.slice ga gn gc)).setCell ⟨W2.heap.size, 4, none⟩ (.slice ha hn hc)) = W4 at *)
      | (have HY := hidJ (HX.out _ (.inl rfl)); generalize w3.alloc (.cells #[.string gr, .string gk, .int .i64 gt, .slice ga gn gc, .slice ha hn hc] 34) = W4 at *)
    clear HX
    have kc : ∀ {b o : Nat} {u : Value}, W2.cell? ⟨b, o, none⟩ = some u → W4.cell? ⟨b, o, none⟩ = some u := fun h => (World.cell?_of_block (HY.out.block _ (block_lt h) (by simp))).trans h
    have q0 := kc c0
    have q1 := kc c1
    have q2 := kc c2
    have q3 := kc c3
    have q4 := kc c4
    have q5 := kc e0
    have q6 := kc e1
    clear c0 c1 c2 c3 c4 e0 e1 kc
    have HZ := hidJ (gb_none HB2.out.2.1 HY.out)
    clear HY HB2
    have HD : Hid (W4.grownBy W4.drew none) := gb_drew _ _
    have HCo2 : Hid (FU = false → ∀ W, W4.grownBy W none → Calls Tryz.prog 42 #[.agg #[.string br, .string bk, .int .i64 tm, .slice fa nf fc, .slice sa ns sc]] W fun e w' => ∃ a1 n1 c1 a2 n2 c2, e = .returned (.agg #[.string br, .string bk, .int .i64 tm, .slice a1 n1 c1, .slice a2 n2 c2]) ∧ (w'.cell? ⟨w.heap.size, 0, none⟩ = some (.string br) ∧ w'.cell? ⟨w.heap.size, 1, none⟩ = some (.string bk) ∧ w'.cell? ⟨w.heap.size, 2, none⟩ = some (.int .i64 tm) ∧ w'.cell? ⟨w.heap.size, 3, none⟩ = some (.slice fa nf fc) ∧ w'.cell? ⟨w.heap.size, 4, none⟩ = some (.slice sa ns sc) ∧ w'.cell? ⟨kb, 0, none⟩ = some (.string br) ∧ w'.cell? ⟨kb, 1, none⟩ = some (.string bk)) ∧ Hid (Calls Tryz.prog 41 #[.pointer (some ⟨gx, 0, none⟩), .agg #[.string br, .string bk], .agg #[.string br, .string bk, .int .i64 tm, .slice a1 n1 c1, .slice a2 n2 c2]] w' fun e w'' => e = .returned (.tuple #[]) ∧ (w''.cell? ⟨w.heap.size, 0, none⟩ = some (.string br) ∧ w''.cell? ⟨w.heap.size, 1, none⟩ = some (.string bk) ∧ w''.cell? ⟨w.heap.size, 2, none⟩ = some (.int .i64 tm) ∧ w''.cell? ⟨w.heap.size, 3, none⟩ = some (.slice fa nf fc) ∧ w''.cell? ⟨w.heap.size, 4, none⟩ = some (.slice sa ns sc) ∧ w''.cell? ⟨kb, 0, none⟩ = some (.string br) ∧ w''.cell? ⟨kb, 1, none⟩ = some (.string bk)) ∧ Hid (PQ (.slice a1 n1 c1) (.slice a2 n2 c2) w''))) := fun hfu W hW => by
      refine (HCo1.out hfu W (gb_none HZ.out hW)).mono ?_
      rintro e w' ⟨a1, n1, c1, a2, n2, c2, r1, r2, r3⟩
      have kc : ∀ {b o : Nat} {u : Value}, W4.cell? ⟨b, o, none⟩ = some u → w'.cell? ⟨b, o, none⟩ = some u := fun h => (World.cell?_of_block ((gb_none hW r2).block _ (block_lt h) (by simp))).trans h
      refine ⟨a1, n1, c1, a2, n2, c2, r1, ⟨kc q0, kc q1, kc q2, kc q3, kc q4, kc q5, kc q6⟩, r3.out.mono ?_⟩
      rintro e w'' ⟨t1, t2, t3⟩
      have kd : ∀ {b o : Nat} {u : Value}, w.heap.size ≤ b → w'.cell? ⟨b, o, none⟩ = some u → w''.cell? ⟨b, o, none⟩ = some u := fun hb h => (World.cell?_of_block (t2 _ hb (block_lt h))).trans h
      have n1 : w.heap.size ≤ w.heap.size := Nat.le_refl _
      have n2 : w.heap.size ≤ kb := by have := HKB.out; omega
      exact ⟨t1, ⟨kd n1 (kc q0), kd n1 (kc q1), kd n1 (kc q2), kd n1 (kc q3), kd n1 (kc q4), kd n2 (kc q5), kd n2 (kc q6)⟩, t3⟩
    clear HCo1
    cases HS
    · go_wp2_with fail
      refine (HLn.out _ HZ.out).mono ?_
      rintro e w5 ⟨rfl, h5⟩
      have h5 := h5.symm
      subst h5
      clear HLn
      by_cases hN : 500 ≤ N
      · have hNi : (500 : Int) ≤ (N : Int) := by omega
        have HF := hidJ (HL0.out _ W4 (by rw [hFU]; simp [hN]) rfl HZ.out)
        clear HCo2 HL0 HL2 hFU
        go_wp2
        exact HF.out
      · have hNi : ¬ (500 : Int) ≤ (N : Int) := by omega
        have HFU : Hid (FU = false) := by show FU = false; rw [hFU]; simp [hN]
        clear hFU
        have HCo3 := hidJ (HCo2.out HFU.out)
        clear HCo2 HL0
        go_wp2
        go_region_held3 (fun w' => w'.cell? ⟨w.heap.size, 0, none⟩ = some (.string br) ∧ w'.cell? ⟨w.heap.size, 1, none⟩ = some (.string bk) ∧ w'.cell? ⟨w.heap.size, 2, none⟩ = some (.int .i64 tm) ∧ w'.cell? ⟨w.heap.size, 3, none⟩ = some (.slice fa nf fc) ∧ w'.cell? ⟨w.heap.size, 4, none⟩ = some (.slice sa ns sc) ∧ w'.cell? ⟨kb, 0, none⟩ = some (.string br) ∧ w'.cell? ⟨kb, 1, none⟩ = some (.string bk)) (go_keep)
          (first
            | (go_at_call 42; with_reducible refine (HCo3.out _ HD.out).mono ?_; rintro e w6 ⟨a1, n1, c1, a2, n2, c2, rfl, ⟨j0, j1, j2, j3, j4, j5, j6⟩, H6⟩)
            | (go_at_call 41; with_reducible refine H6.out.mono ?_; rintro e w7 ⟨rfl, ⟨l0, l1, l2, l3, l4, l5, l6⟩, H7⟩))
        go_wp2
        exact HL2.out _ _ _ _ HFU.out rfl H7.out
    · have HFU : Hid (FU = false) := by show FU = false; rw [hFU]; simp
      clear hFU HLn
      have HCo3 := hidJ (HCo2.out HFU.out)
      clear HCo2 HL0
      go_wp2
      go_region_held3 (fun w' => w'.cell? ⟨w.heap.size, 0, none⟩ = some (.string br) ∧ w'.cell? ⟨w.heap.size, 1, none⟩ = some (.string bk) ∧ w'.cell? ⟨w.heap.size, 2, none⟩ = some (.int .i64 tm) ∧ w'.cell? ⟨w.heap.size, 3, none⟩ = some (.slice fa nf fc) ∧ w'.cell? ⟨w.heap.size, 4, none⟩ = some (.slice sa ns sc) ∧ w'.cell? ⟨kb, 0, none⟩ = some (.string br) ∧ w'.cell? ⟨kb, 1, none⟩ = some (.string bk)) (go_keep)
        (first
          | (go_at_call 42; with_reducible refine (HCo3.out _ HD.out).mono ?_; rintro e w6 ⟨a1, n1, c1, a2, n2, c2, rfl, ⟨j0, j1, j2, j3, j4, j5, j6⟩, H6⟩)
          | (go_at_call 41; with_reducible refine H6.out.mono ?_; rintro e w7 ⟨rfl, ⟨l0, l1, l2, l3, l4, l5, l6⟩, H7⟩))
      go_wp2
      exact HL2.out _ _ _ _ HFU.out rfl H7.out
end Go.Proofs.YtpglhdnepmcahaaGreatDoor

/- Ng8 -/
namespace Go.Proofs.YtpglhdnepmcahaaGreatDoor
open Go.RowKit Go.Shelf Go.Sort

/-- is a later mark there? -/
def oldM (l : List MkX) (m : MkR) : Bool := hasM l (m.rcv, m.key) && decide (m.tim < (getM l (m.rcv, m.key)).1.tim)
def putR (l : List MkX) (m : MkR) : Int := if rightM m ≠ 0 then rightM m else if oldM l m = true then 90 else if fullM l (m.rcv, m.key) = true then 8 else 0
/-- what Put leaves -/
def PutQ (w : World) (gx : Nat) (v : Value) (l : List MkX) (m : MkR) (e : Ending) (w' : World) : Prop :=
  e = .returned (.int .i64 (putR l m)) ∧ (putR l m ≠ 0 → w.grownBy w' none) ∧ (putR l m = 0 → ∃ f' s', PutP w gx v l (m, f', s') w' ∧ NewL w' w.heap.size m f' s')
theorem LayP.put {w W w' : World} {gx : Nat} {v : Value} {l : List MkX} {m : MkR} {e : Ending} (h : LayP W gx v l m e w') (hg : w.grownBy W none) (hR : rightM m = 0) (ho : oldM l m = false) : PutQ w gx v l m e w' := by
  unfold PutQ putR
  rw [if_neg (by simp [hR]), if_neg (by simp [ho])]
  rcases h with ⟨h1, h2, h3⟩ | ⟨h1, h2, f', s', h3, h4⟩
  · rw [if_pos h1]
    exact ⟨h2, fun _ => gb_none hg h3, fun e => by omega⟩
  · rw [if_neg (by simp [h1])]
    exact ⟨h2, fun e => absurd rfl e, fun _ => ⟨f', s', h3.pre hg, h4.1.mono hg.size, h4.2.mono hg.size⟩⟩
set_option maxRecDepth 8000 in
set_option maxHeartbeats 12800000 in
theorem putQ_any (w : World) (gx : Nat) (v : Value) (l : List MkX) (m : MkR) (f s : Value) (h : LgX w gx v l) (hm : RdM w m f s) (hT : U8S w) :
    Calls Tryz.prog 16 #[.pointer (some ⟨gx, 0, none⟩), markV m f s] w fun e w' => PutQ w gx v l m e w' := by
  obtain ⟨fa, fc, ef, -⟩ := hm.fir.shape
  obtain ⟨sa, sc, es, -⟩ := hm.res.shape
  subst ef es
  obtain ⟨⟨ga, gc, eg⟩, ha, hc, eh⟩ := got_shape h.lg (m.rcv, m.key)
  have HRi : Hid (∀ W, w.grownBy W none → Calls Tryz.prog 38 #[markV m (.slice fa m.fir.length fc) (.slice sa m.res.length sc)] W fun e w' => e = .returned (.int .i64 (rightM m)) ∧ W.grownBy w' none) := fun W hW => rightM_any W m _ _ (hm.keep hW) (hT.keep hW)
  have HA : Hid (∀ W, Calls Tryz.prog 39 #[markV m (.slice fa m.fir.length fc) (.slice sa m.res.length sc)] W fun e w' => e = .returned (addV (m.rcv, m.key)) ∧ W.grownBy w' none) := fun W => addrOf_any W m _ _ ⟨_, _, _, rfl⟩ ⟨_, _, _, rfl⟩
  have HG : Hid (∀ W, w.grownBy W none → Calls Tryz.prog 40 #[.pointer (some ⟨gx, 0, none⟩), addV (m.rcv, m.key)] W fun e w' => e = .returned (.tuple #[.agg #[.string (ByteArray.mk ⟨(getM l (m.rcv, m.key)).1.rcv⟩), .string (ByteArray.mk ⟨(getM l (m.rcv, m.key)).1.key⟩), .int .i64 (getM l (m.rcv, m.key)).1.tim, .slice ga (getM l (m.rcv, m.key)).1.fir.length gc, .slice ha (getM l (m.rcv, m.key)).1.res.length hc], .bool (hasM l (m.rcv, m.key))]) ∧ Hid (W.grownBy w' none)) := fun W hW => by
    have hc0 := getL_any W gx l (m.rcv, m.key) (h.lg.keep hW)
    unfold markX markV at hc0
    rw [eg, eh] at hc0
    exact hc0
  have HLy : Hid (rightM m = 0 → oldM l m = false → ∀ W, w.grownBy W none → Calls Tryz.prog 12 #[.pointer (some ⟨gx, 0, none⟩), markV m (.slice fa m.fir.length fc) (.slice sa m.res.length sc)] W fun e w' => ∃ r : Int, e = .returned (.int .i64 r) ∧ Hid (PutQ w gx v l m (.returned (.int .i64 r)) w')) := fun hR ho W hW => by
    refine (layX_any W gx v l m _ _ (h.keep hW) (hm.keep hW) hR).mono ?_
    intro e w' hq
    have hp := hq.put hW hR ho
    exact ⟨putR l m, hp.1, by rw [← hp.1]; exact hp⟩
  have HQ0 : Hid (∀ w', rightM m ≠ 0 → w.grownBy w' none → PutQ w gx v l m (.returned (.int .i64 (rightM m))) w') := fun w' h1 h2 => by
    unfold PutQ putR
    rw [if_pos h1]
    exact ⟨rfl, fun _ => h2, fun e => absurd e h1⟩
  have HQ1 : Hid (∀ w', rightM m = 0 → oldM l m = true → w.grownBy w' none → PutQ w gx v l m (.returned (.int .i64 90)) w') := fun w' h1 h2 h3 => by
    unfold PutQ putR
    rw [if_neg (by simp [h1]), if_pos h2]
    exact ⟨rfl, fun _ => h3, fun e => by omega⟩
  obtain ⟨OM, hOM⟩ : ∃ OM : Bool, OM = oldM l m := ⟨_, rfl⟩
  rw [← hOM] at HLy HQ1
  unfold oldM at hOM
  obtain ⟨PQ, hPQ⟩ : ∃ PQ : Ending → World → Prop, PQ = PutQ w gx v l m := ⟨_, rfl⟩
  rw [← hPQ] at HLy HQ0 HQ1
  rw [show (fun e w' => PutQ w gx v l m e w') = (fun e w' => PQ e w') from by rw [hPQ]]
  clear hPQ
  clear h hm hT eg eh
  unfold markV at HA HRi HLy
  unfold addV at HA HG
  unfold markV
  dsimp only at HA HG
  have HB := hidJ (And.intro (B5.new w 34 (.string (ByteArray.mk ⟨m.rcv⟩)) (.string (ByteArray.mk ⟨m.key⟩)) (.int .i64 m.tim) (.slice fa m.fir.length fc) (.slice sa m.res.length sc)) (World.grownBy_alloc w (.cells #[.string (ByteArray.mk ⟨m.rcv⟩), .string (ByteArray.mk ⟨m.key⟩), .int .i64 m.tim, .slice fa m.fir.length fc, .slice sa m.res.length sc] 34) none))
  generalize ByteArray.mk ⟨(getM l (m.rcv, m.key)).1.rcv⟩ = gr at *
  generalize ByteArray.mk ⟨(getM l (m.rcv, m.key)).1.key⟩ = gk at *
  generalize (getM l (m.rcv, m.key)).1.tim = gt at *
  generalize (getM l (m.rcv, m.key)).1.fir.length = gn at *
  generalize (getM l (m.rcv, m.key)).1.res.length = hn at *
  generalize hasM l (m.rcv, m.key) = HS at *
  generalize ByteArray.mk ⟨m.rcv⟩ = br at *
  generalize ByteArray.mk ⟨m.key⟩ = bk at *
  generalize m.tim = tm at *
  generalize m.fir.length = nf at *
  generalize m.res.length = ns at *
  obtain ⟨R, hR⟩ : ∃ R, R = rightM m := ⟨_, rfl⟩
  rw [← hR] at HRi HLy HQ0 HQ1
  clear hR
  go_enter Tryz.func16, Tryz.ntmps16
  go_wp2_with fail
  refine (HRi.out _ HB.out.2).mono ?_
  rintro e w1 ⟨rfl, g1⟩
  clear HRi
  have HB := hidJ (And.intro (HB.out.1.keep g1) (gb_none HB.out.2 g1))
  clear g1
  by_cases h0 : R = 0
  · subst h0
    obtain ⟨c0, c1, c2, c3, c4⟩ := HB.out.1.cells
    have HLz := hidJ (HLy.out rfl)
    clear HLy
    have HQ2 := hidJ (fun w' => HQ1.out w' rfl)
    clear HQ1 HQ0
    have HA2 : Hid (∀ W, Calls Tryz.prog 39 #[.agg #[.string br, .string bk, .int .i64 tm, .slice fa nf fc, .slice sa ns sc]] W fun e w' => e = .returned (.agg #[.string br, .string bk]) ∧ Hid (W.grownBy w' none)) := HA.out
    have HG2 : Hid (∀ W, w1.grownBy W none → Calls Tryz.prog 40 #[.pointer (some ⟨gx, 0, none⟩), .agg #[.string br, .string bk]] W fun e w' => e = .returned (.tuple #[.agg #[.string gr, .string gk, .int .i64 gt, .slice ga gn gc, .slice ha hn hc], .bool HS]) ∧ Hid (W.grownBy w' none)) := fun W hW => HG.out W (gb_none HB.out.2 hW)
    clear HA HG
    have HK : Hid (∀ (C : Obj) (b o : Nat) (u : Value), w1.cell? ⟨b, o, none⟩ = some u → (w1.alloc C).cell? ⟨b, o, none⟩ = some u) := fun C b o u h => (World.cell?_of_block ((World.grownBy_alloc w1 C none).block b (block_lt h) (by simp))).trans h
    have HK2 : Hid (∀ (C : Obj) (b o : Nat) (u : Value), w1.cell? ⟨b, o, none⟩ = some u → (w1.drew.alloc C).cell? ⟨b, o, none⟩ = some u) := fun C b o u h => (World.cell?_of_block ((gb_none (gb_drew w1 none) (World.grownBy_alloc w1.drew C none)).block b (block_lt h) (by simp))).trans h
    have z0 := fun C => HK.out C _ _ _ c0
    have z1 := fun C => HK.out C _ _ _ c1
    have z2 := fun C => HK.out C _ _ _ c2
    have z3 := fun C => HK.out C _ _ _ c3
    have z4 := fun C => HK.out C _ _ _ c4
    have t0 := fun C => HK2.out C _ _ _ c0
    have t1 := fun C => HK2.out C _ _ _ c1
    have t2 := fun C => HK2.out C _ _ _ c2
    have t3 := fun C => HK2.out C _ _ _ c3
    have t4 := fun C => HK2.out C _ _ _ c4
    go_wp2
    go_region_with (first
      | (go_at_call 39; refine (HA2.out _).mono ?_; rintro e w2 ⟨rfl, H2⟩)
      | (go_at_call 40; refine (HG2.out _ (by first | exact gb_none (gb_drew _ none) H2.out | exact gb_none (gb_none (World.grownBy_alloc _ _ none) (gb_drew _ none)) H2.out | exact gb_none (gb_none (gb_drew _ none) (World.grownBy_alloc _ _ none)) H2.out | exact gb_none (gb_none (gb_drew _ none) H2.out) (World.grownBy_alloc _ _ none))).mono ?_; rintro e w3 ⟨rfl, H3⟩; (first
          | (have hb5 := ((B5.new w1 34 (.string ⟨#[]⟩) (.string ⟨#[]⟩) (.int .i64 0) (.slice none 0 0) (.slice none 0 0)).keep (gb_none (gb_drew _ none) H2.out)).keep H3.out; obtain ⟨n0, n1, n2, n3, n4⟩ := hb5.cells; obtain ⟨m0, m1, m2, m3, m4⟩ := hb5.froz; have HB5 := hidJ hb5; clear hb5)
          | (have hb5 := (B5.new w2 34 (.string ⟨#[]⟩) (.string ⟨#[]⟩) (.int .i64 0) (.slice none 0 0) (.slice none 0 0)).keep H3.out; obtain ⟨n0, n1, n2, n3, n4⟩ := hb5.cells; obtain ⟨m0, m1, m2, m3, m4⟩ := hb5.froz; have HB5 := hidJ hb5; clear hb5)
          | skip)))
    all_goals
      clear z0 z1 z2 z3 z4 t0 t1 t2 t3 t4 HK HK2 HG2 HA2
      have HX : Hid (∀ W, (W = w3.alloc (.cells #[.string gr, .string gk, .int .i64 gt, .slice ga gn gc, .slice ha hn hc] 34) ∨ W = set5 w3 w2.heap.size (.string gr) (.string gk) (.int .i64 gt) (.slice ga gn gc) (.slice ha hn hc) ∨ W = set5 w3 w1.heap.size (.string gr) (.string gk) (.int .i64 gt) (.slice ga gn gc) (.slice ha hn hc)) → w1.grownBy W none) := by
        intro W hW
        have g2 : w1.grownBy w2 none := by first | exact gb_none (gb_drew _ none) H2.out | exact gb_none (gb_none (World.grownBy_alloc _ _ none) (gb_drew _ none)) H2.out | exact gb_none (gb_none (gb_drew _ none) (World.grownBy_alloc _ _ none)) H2.out
        have g3 : w1.grownBy w3 none := by first | exact gb_none g2 H3.out | exact gb_none (gb_none g2 (World.grownBy_alloc _ _ none)) H3.out
        have hz := g2.size
        rcases hW with rfl | rfl | rfl
        · exact gb_none g3 (World.grownBy_alloc _ _ none)
        · exact gb_ch g3 (set5_ch _ _ _ _ _ _ _) (fun k e => by omega)
        · exact gb_ch g3 (set5_ch _ _ _ _ _ _ _) (fun k e => by omega)
      unfold set5 at HX
      have hj := HX.out _ (.inr (.inr rfl))
      have hj2 := HX.out _ (.inr (.inl rfl))
      have hj3 := HX.out _ (.inl rfl)
      clear HX H2 H3
      first
        | (clear n0 n1 n2 n3 n4 m0 m1 m2 m3 m4)
        | skip
      obtain ⟨W4, hW4, HY⟩ : ∃ W4, (W4 = w3.alloc (.cells #[.string gr, .string gk, .int .i64 gt, .slice ga gn gc, .slice ha hn hc] 34)) ∧ Hid (w1.grownBy W4 none) := ⟨_, rfl, hj3⟩
      obtain ⟨W5, hW5, HY5⟩ : ∃ W5, (W5 = (((((w3.setCell ⟨w2.heap.size, 0, none⟩ (.string gr)).setCell ⟨w2.heap.size, 1, none⟩ (.string gk)).setCell ⟨w2.heap.size, 2, none⟩ (.int .i64 gt)).setCell ⟨w2.heap.size, 3, none⟩ (.slice ga gn gc)).setCell ⟨w2.heap.size, 4, none⟩ (.slice ha hn hc))) ∧ Hid (w1.grownBy W5 none) := ⟨_, rfl, hj2⟩
      obtain ⟨W6, hW6, HY6⟩ : ∃ W6, (W6 = (((((w3.setCell ⟨w1.heap.size, 0, none⟩ (.string gr)).setCell ⟨w1.heap.size, 1, none⟩ (.string gk)).setCell ⟨w1.heap.size, 2, none⟩ (.int .i64 gt)).setCell ⟨w1.heap.size, 3, none⟩ (.slice ga gn gc)).setCell ⟨w1.heap.size, 4, none⟩ (.slice ha hn hc))) ∧ Hid (w1.grownBy W6 none) := ⟨_, rfl, hj⟩
      clear hj hj2 hj3
      first
        | (have hq : W6.cell? ⟨w1.heap.size, 2, none⟩ = some (.int .i64 gt) := (by rw [hW6]; exact (set5_cells (x := .string gr) (y := .string gk) (z := .int .i64 gt) (u := .slice ga gn gc) (v := .slice ha hn hc) (show B5 w3 w1.heap.size 34 _ _ _ _ _ from HB5.out)).cells.2.2.1); rw [← hW6]; clear hW4 hW5 hW6 HY HY5; obtain ⟨WW, hWW, HYY⟩ : ∃ WW, WW = W6 ∧ Hid (w1.grownBy WW none) := ⟨_, rfl, HY6⟩; subst hWW; clear HY6)
        | (have hq : W5.cell? ⟨w2.heap.size, 2, none⟩ = some (.int .i64 gt) := (by rw [hW5]; exact (set5_cells (x := .string gr) (y := .string gk) (z := .int .i64 gt) (u := .slice ga gn gc) (v := .slice ha hn hc) (show B5 w3 w2.heap.size 34 _ _ _ _ _ from HB5.out)).cells.2.2.1); rw [← hW5]; clear hW4 hW5 hW6 HY HY6; obtain ⟨WW, hWW, HYY⟩ : ∃ WW, WW = W5 ∧ Hid (w1.grownBy WW none) := ⟨_, rfl, HY5⟩; subst hWW; clear HY5)
        | (have hq : W4.cell? ⟨w3.heap.size, 2, none⟩ = some (.int .i64 gt) := (by rw [hW4, World.cell?, Go.heap_alloc_new]; rfl); rw [← hW4]; clear hW4 hW5 hW6 HY5 HY6; obtain ⟨WW, hWW, HYY⟩ : ∃ WW, WW = W4 ∧ Hid (w1.grownBy WW none) := ⟨_, rfl, HY⟩; subst hWW; clear HY)
      have kc : ∀ {b o : Nat} {u : Value}, w1.cell? ⟨b, o, none⟩ = some u → WW.cell? ⟨b, o, none⟩ = some u := fun h => (World.cell?_of_block (HYY.out.block _ (block_lt h) (by simp))).trans h
      have q0 := kc c0
      have q1 := kc c1
      have q2 := kc c2
      have q3 := kc c3
      have q4 := kc c4
      clear c0 c1 c2 c3 c4 kc
      have HZ := hidJ (gb_none HB.out.2 HYY.out)
      cases HS
      · have HO : Hid (OM = false) := (show OM = false by rw [hOM]; rfl)
        clear hOM
        go_wp2_with fail
        refine (HLz.out HO.out _ HZ.out).mono ?_
        rintro e w7 ⟨r, rfl, H7⟩
        go_wp2
        exact H7.out
      · by_cases hlt : tm < gt
        · have HF := hidJ (HQ2.out WW (by rw [hOM]; simp [hlt]) HZ.out)
          clear hOM
          go_wp2
          exact HF.out
        · have HO : Hid (OM = false) := (show OM = false by rw [hOM]; simp [hlt])
          clear hOM
          go_wp2_with fail
          refine (HLz.out HO.out _ HZ.out).mono ?_
          rintro e w7 ⟨r, rfl, H7⟩
          go_wp2
          exact H7.out
  · have h0b : (R == 0) = false := by rw [beq_eq_false_iff_ne]; exact h0
    have HF := hidJ (HQ0.out w1 h0 HB.out.2)
    go_wp2
    exact HF.out
end Go.Proofs.YtpglhdnepmcahaaGreatDoor
