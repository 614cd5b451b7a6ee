/-
  NflogApart: marks of one receiver and key change nothing of others: the walk.
-/
import Derived.Test.YtbnieljkadcaoaaDoorNmB
import Derived.Test.YtbnieljkadcaoaaDoorNfi
import Derived.Test.YtbnieljkadcaoaaDoorNfr
namespace Go.Proofs.YtbnieljkadcaoaaDoor
open Go.RowKit Go.Shelf Go.Sort

/-- how a Put turns what a log holds -/
def PutRel (l : List MkX) (m : MkR) (l' : List MkX) : Prop := (putR l m ≠ 0 ∧ l' = l) ∨ (putR l m = 0 ∧ ∃ f' s' p, AtE l (m.rcv, m.key) p ∧ l' = putM l (m, f', s') p)
theorem rel_nil {m : MkR} {l : List MkX} (h : PutRel [] m l) : (getM l (m.rcv, m.key)).1 = (if putR [] m = 0 then m else mZ) ∧ hasM l (m.rcv, m.key) = decide (putR [] m = 0) := by
  rcases h with ⟨h1, rfl⟩ | ⟨h1, f', s', p, h2, rfl⟩
  · rw [if_neg h1]
    simp [h1, hasM, getM, xZ]
  · have e : putM [] (m, f', s') p = [(m, f', s')] := by simp [putM, hasM]
    rw [e, if_pos h1]
    have : keyX (m, f', s') = (m.rcv, m.key) := rfl
    simp [getM, hasM, this, h1]
theorem rel_other {m : MkR} {l l' : List MkX} {a : LbT} (h : PutRel l m l') (hs : risM l) (ha : (m.rcv, m.key) ≠ a) : getM l' a = getM l a ∧ hasM l' a = hasM l a := by
  rcases h with ⟨h1, rfl⟩ | ⟨h1, f', s', p, h2, rfl⟩
  · exact ⟨rfl, rfl⟩
  · exact get_put (x := (m, f', s')) hs h2 ha
theorem putQ_rel {W w' : World} {gx : Nat} {v : Value} {l : List MkX} {m : MkR} {e : Ending} (hl : LgX W gx v l) (h : PutQ W gx v l m e w') : ∃ v' l', LgX w' gx v' l' ∧ LFr gx W w' v v' ∧ PutRel l m l' := by
  by_cases h0 : putR l m = 0
  · obtain ⟨f', s', v', p, q1, q2, q3⟩ := h.2.2 h0
    exact ⟨v', _, q2, q3, .inr ⟨h0, f', s', p, q1, rfl⟩⟩
  · have hg := h.2.1 h0
    exact ⟨v, l, hl.keep hg, LFr.of_gb v hg, .inl ⟨h0, rfl⟩⟩
theorem duL_new {W0 W1 W2 : World} (h0 : W0.grownBy W1 none) (h1 : LgN W1 W0.heap.size) (h2 : W1.grownBy W2 none) (h3 : LgN W2 W1.heap.size) : DuL W0 W2 W0.heap.size W1.heap.size (.slice none 0 0) (.slice none 0 0) [] [] := by
  have hlt : W0.heap.size < W1.heap.size := Boxed.lt h1
  have lg : ∀ {W : World} {g : Nat}, LgN W g → LgX W g (.slice none 0 0) [] := fun h => ⟨h, OwnE.nil _ _, List.Pairwise.nil, (fun x hx => by cases hx), by simp⟩
  have fp : ∀ {g k : Nat}, FpL g (.slice none 0 0) k → k = g := fun h => by
    rcases h with h | h
    · exact h
    · simp [Value.ownBlock] at h
  refine ⟨gb_none h0 h2, lg (h1.keep h2), lg h3, fun k hk => ?_, fun k hk => ?_, fun k hk hk2 => ?_⟩
  · rw [fp hk]
    exact Nat.le_refl _
  · rw [fp hk]
    omega
  · have e1 := fp hk
    have e2 := fp hk2
    omega
set_option maxRecDepth 8000 in
set_option maxHeartbeats 25600000 in
theorem nfApart_walk (w : World) (m1 m2 : MkR) (f1 s1 f2 s2 : Value) (now rep : Int) (h1 : RdM w m1 f1 s1) (h2 : RdM w m2 f2 s2) (hT : U8S w) :
    Calls Tryd.prog 5 #[markV m1 f1 s1, markV m2 f2 s2, .int .i64 now, .int .i64 rep] w fun e w' => e = .returned (.bool true) ∧ Below w.heap.size w w' := by
  have HM := hidJ (And.intro h1 (And.intro h2 hT))
  obtain ⟨fa, fc, ef, -⟩ := h1.fir.shape
  obtain ⟨sa, sc, es, -⟩ := h1.res.shape
  obtain ⟨fb, fd, eg, -⟩ := h2.fir.shape
  obtain ⟨sb, sd, eh, -⟩ := h2.res.shape
  subst ef es eg eh
  clear h1 h2 hT
  have HNw : Hid (∀ W, Calls Tryd.prog 20 #[] W fun e w' => e = .returned (.pointer (some ⟨W.heap.size, 0, none⟩)) ∧ LgN w' W.heap.size ∧ W.grownBy w' none) := newN_any
  have HAw : Hid (∀ W, w.grownBy W none → Calls Tryd.prog 19 #[] W fun e w' => e = .returned (.bool true) ∧ W.grownBy w' none) := fun W hW => awakeN_any W (HM.out.2.2.keep hW)
  have HP1 : Hid (∀ W0 W gx gy v1 v2 l1 l2, w.grownBy W0 none → DuL W0 W gx gy v1 v2 l1 l2 → Calls Tryd.prog 21 #[.pointer (some ⟨gx, 0, none⟩), markV m1 (.slice fa m1.fir.length fc) (.slice sa m1.res.length sc)] W fun e w' => ∃ r : Int, e = .returned (.int .i64 r) ∧ Hid (∃ v' l', DuL W0 w' gx gy v' v2 l' l2 ∧ PutRel l1 m1 l')) := fun W0 W gx gy v1 v2 l1 l2 hW hD => by
    have hk := gb_none hW hD.gb
    refine (putQ_any W gx v1 l1 m1 _ _ hD.a (HM.out.1.keep hk) (HM.out.2.2.keep hk)).mono ?_
    intro e w' hq
    obtain ⟨v', l', q1, q2, q3⟩ := putQ_rel hD.a hq
    exact ⟨_, hq.1, v', l', hD.put q1 q2, q3⟩
  have HP2 : Hid (∀ W0 W gx gy v1 v2 l1 l2, w.grownBy W0 none → DuL W0 W gx gy v1 v2 l1 l2 → Calls Tryd.prog 21 #[.pointer (some ⟨gy, 0, none⟩), markV m1 (.slice fa m1.fir.length fc) (.slice sa m1.res.length sc)] W fun e w' => ∃ r : Int, e = .returned (.int .i64 r) ∧ Hid (∃ v' l', DuL W0 w' gx gy v1 v' l1 l' ∧ PutRel l2 m1 l')) := fun W0 W gx gy v1 v2 l1 l2 hW hD => by
    have hk := gb_none hW hD.gb
    refine (putQ_any W gy v2 l2 m1 _ _ hD.b (HM.out.1.keep hk) (HM.out.2.2.keep hk)).mono ?_
    intro e w' hq
    obtain ⟨v', l', q1, q2, q3⟩ := putQ_rel hD.b hq
    exact ⟨_, hq.1, v', l', (hD.swap.put q1 q2).swap, q3⟩
  have HP3 : Hid (∀ W0 W gx gy v1 v2 l1 l2, w.grownBy W0 none → DuL W0 W gx gy v1 v2 l1 l2 → Calls Tryd.prog 21 #[.pointer (some ⟨gy, 0, none⟩), markV m2 (.slice fb m2.fir.length fd) (.slice sb m2.res.length sd)] W fun e w' => ∃ r : Int, e = .returned (.int .i64 r) ∧ Hid (∃ v' l', DuL W0 w' gx gy v1 v' l1 l' ∧ PutRel l2 m2 l')) := fun W0 W gx gy v1 v2 l1 l2 hW hD => by
    have hk := gb_none hW hD.gb
    refine (putQ_any W gy v2 l2 m2 _ _ hD.b (HM.out.2.1.keep hk) (HM.out.2.2.keep hk)).mono ?_
    intro e w' hq
    obtain ⟨v', l', q1, q2, q3⟩ := putQ_rel hD.b hq
    exact ⟨_, hq.1, v', l', (hD.swap.put q1 q2).swap, q3⟩
  -- what is found of the first address
  obtain ⟨G, hG⟩ : ∃ G : MkR, G = if putR [] m1 = 0 then m1 else mZ := ⟨_, rfl⟩
  obtain ⟨HS, hHS⟩ : ∃ HS : Bool, HS = decide (putR [] m1 = 0) := ⟨_, rfl⟩
  have HGt : Hid (∀ l1 l2a l2, PutRel [] m1 l1 → PutRel [] m1 l2a → PutRel l2a m2 l2 → risM l2a → (m2.rcv, m2.key) ≠ (m1.rcv, m1.key) → ((getM l1 (m1.rcv, m1.key)).1 = G ∧ hasM l1 (m1.rcv, m1.key) = HS) ∧ (getM l2 (m1.rcv, m1.key)).1 = G ∧ hasM l2 (m1.rcv, m1.key) = HS) := fun l1 l2a l2 r1 r2 r3 hs hne => by
    have q1 := rel_nil r1
    have q2 := rel_nil r2
    have q3 := rel_other r3 hs hne
    rw [hG, hHS]
    exact ⟨q1, by rw [q3.1]; exact q2.1, by rw [q3.2]; exact q2.2⟩
  clear hG hHS
  have HFd : Hid (∀ W gx l, LgM W gx l → (getM l (m1.rcv, m1.key)).1 = G ∧ hasM l (m1.rcv, m1.key) = HS → Calls Tryd.prog 24 #[.pointer (some ⟨gx, 0, none⟩), .string (ByteArray.mk ⟨m1.rcv⟩), .string (ByteArray.mk ⟨m1.key⟩)] W fun e w' => ∃ a1 n1 c1 a2 n2 c2, e = .returned (.tuple #[.agg #[.string (ByteArray.mk ⟨G.rcv⟩), .string (ByteArray.mk ⟨G.key⟩), .int .i64 G.tim, .slice a1 n1 c1, .slice a2 n2 c2], .bool HS]) ∧ Hid (RdLL w' (.slice a1 n1 c1) G.fir ∧ RdLL w' (.slice a2 n2 c2) G.res ∧ W.grownBy w' none)) := fun W gx l hL hg => by
    refine (findX_any W gx l (m1.rcv, m1.key) hL).mono ?_
    rintro e w' ⟨a1, n1, c1, a2, n2, c2, q1, q2, q3, q4⟩
    rw [hg.1, hg.2] at q1
    rw [hg.1] at q2 q3
    exact ⟨a1, n1, c1, a2, n2, c2, q1, q2.rd, q3.rd, q4⟩
  obtain ⟨Y, R, hYR⟩ : ∃ (Y : Bool) (R : Int), (Y, R) = needsM G HS now rep m1.fir m2.res := ⟨_, _, rfl⟩
  have HNd : Hid (∀ W gx l, w.grownBy W none → LgM W gx l → (getM l (m1.rcv, m1.key)).1 = G ∧ hasM l (m1.rcv, m1.key) = HS → Calls Tryd.prog 23 #[.pointer (some ⟨gx, 0, none⟩), .string (ByteArray.mk ⟨m1.rcv⟩), .string (ByteArray.mk ⟨m1.key⟩), .int .i64 now, .int .i64 rep, .slice fa m1.fir.length fc, .slice sb m2.res.length sd] W fun e w' => e = .returned (.tuple #[.bool Y, .int .i64 R]) ∧ Hid (W.grownBy w' none)) := fun W gx l hW hL hg => by
    have h := logNeeds_any W gx l m1.rcv m1.key _ _ now rep m1.fir m2.res hL (HM.out.1.fir.keep hW) (HM.out.2.1.res.keep hW) HM.out.1.inF HM.out.2.1.inR (HM.out.2.2.keep hW)
    rw [hg.1, hg.2, ← hYR] at h
    exact h
  have HSm : Hid (∀ W f s f' s', RdLL W f G.fir → RdLL W s G.res → RdLL W f' G.fir → RdLL W s' G.res → Calls Tryd.prog 18 #[markV G f s, markV G f' s'] W fun e w' => e = .returned (.bool true) ∧ W.grownBy w' none) := fun W f s f' s' q1 q2 q3 q4 => sameM_refl W G f s f' s' q1 q2 q3 q4
  clear hYR
  have HN1 : Hid (((ByteArray.mk ⟨m1.rcv⟩).toList == (ByteArray.mk ⟨m2.rcv⟩).toList) = false ∨ ((ByteArray.mk ⟨m1.key⟩).toList == (ByteArray.mk ⟨m2.key⟩).toList) = false → (m2.rcv, m2.key) ≠ (m1.rcv, m1.key)) := fun hn e => by
    simp only [Prod.mk.injEq] at e
    rw [e.1, e.2] at hn
    simp at hn
  unfold markV at HP1 HP2 HP3 HSm
  unfold markV
  have k1 := World.grownBy_alloc w (.cells #[.string (ByteArray.mk ⟨m1.rcv⟩), .string (ByteArray.mk ⟨m1.key⟩), .int .i64 m1.tim, .slice fa m1.fir.length fc, .slice sa m1.res.length sc] 24) none
  have HB := hidJ (And.intro ((B5.new w 24 (.string (ByteArray.mk ⟨m1.rcv⟩)) (.string (ByteArray.mk ⟨m1.key⟩)) (.int .i64 m1.tim) (.slice fa m1.fir.length fc) (.slice sa m1.res.length sc)).keep (World.grownBy_alloc _ (.cells #[.string (ByteArray.mk ⟨m2.rcv⟩), .string (ByteArray.mk ⟨m2.key⟩), .int .i64 m2.tim, .slice fb m2.fir.length fd, .slice sb m2.res.length sd] 24) none)) (And.intro (B5.new (w.alloc (.cells #[.string (ByteArray.mk ⟨m1.rcv⟩), .string (ByteArray.mk ⟨m1.key⟩), .int .i64 m1.tim, .slice fa m1.fir.length fc, .slice sa m1.res.length sc] 24)) 24 (.string (ByteArray.mk ⟨m2.rcv⟩)) (.string (ByteArray.mk ⟨m2.key⟩)) (.int .i64 m2.tim) (.slice fb m2.fir.length fd) (.slice sb m2.res.length sd)) (gb_none k1 (World.grownBy_alloc _ (.cells #[.string (ByteArray.mk ⟨m2.rcv⟩), .string (ByteArray.mk ⟨m2.key⟩), .int .i64 m2.tim, .slice fb m2.fir.length fd, .slice sb m2.res.length sd] 24) none))))
  clear k1
  rw [World.size_alloc] at HB
  generalize ByteArray.mk ⟨m1.rcv⟩ = br at *
  generalize ByteArray.mk ⟨m1.key⟩ = bk at *
  generalize ByteArray.mk ⟨m2.rcv⟩ = ar at *
  generalize ByteArray.mk ⟨m2.key⟩ = ak at *
  generalize ByteArray.mk ⟨G.rcv⟩ = gr at *
  generalize ByteArray.mk ⟨G.key⟩ = gk at *
  generalize G.tim = gt at *
  generalize m1.tim = tm at *
  generalize m2.tim = tn at *
  generalize m1.fir.length = nf at *
  generalize m1.res.length = ns at *
  generalize m2.fir.length = pf at *
  generalize m2.res.length = ps at *
  clear HM
  go_enter Tryd.func5, Tryd.ntmps5
  go_wp2_with fail
  generalize hW0 : ((w.alloc (.cells #[.string br, .string bk, .int .i64 tm, .slice fa nf fc, .slice sa ns sc] 24)).alloc (.cells #[.string ar, .string ak, .int .i64 tn, .slice fb pf fd, .slice sb ps sd] 24)) = W0 at *
  clear hW0
  refine (HNw.out _).mono ?_
  rintro e w1 ⟨rfl, q1, q2⟩
  have H1 := hidJ (And.intro q1 q2)
  clear q1 q2
  go_wp2_with fail
  refine (HNw.out _).mono ?_
  rintro e w2 ⟨rfl, q1, q2⟩
  have HD := hidJ (duL_new H1.out.2 H1.out.1 q2 q1)
  clear q1 q2 H1 HNw
  generalize W0.heap.size = gx at *
  generalize w1.heap.size = gy at *
  have HB2 := hidJ (And.intro (HB.out.1.keep HD.out.gb) (HB.out.2.1.keep HD.out.gb))
  obtain ⟨c0, c1, c2, c3, c4⟩ := HB2.out.1.cells
  obtain ⟨d0, d1, d2, d3, d4⟩ := HB2.out.2.cells
  clear HB2
  cases hbr : (br.toList == ar.toList) with
  | true =>
    cases hbk : (bk.toList == ak.toList) with
    | true =>
      clear HP1 HP2 HP3 HGt HFd HNd HSm HN1
      have HW := hidJ (gb_none HB.out.2.2 HD.out.gb)
      clear HD HB
      go_wp2_with fail
      refine (HAw.out _ HW.out).mono ?_
      rintro e w9 ⟨rfl, g9⟩
      have H9 := hidJ (gb_below (gb_none HW.out g9))
      clear g9 HAw
      go_wp2
      go_ret
      exact ⟨rfl, H9.out⟩
    | false =>
      have HN := hidJ (HN1.out (.inr hbk))
      clear HN1
      go_wp2_with fail
      refine (HP1.out W0 _ gx gy _ _ _ _ HB.out.2.2 HD.out).mono ?_
      rintro e w3 ⟨r3, rfl, H3⟩
      obtain ⟨v1, l1, D3, R1⟩ := H3.out
      have HD3 := hidJ D3
      have HR1 := hidJ R1
      clear H3 D3 R1 HD HP1 c0 c1 c2 c3 c4 d0 d1 d2 d3 d4
      have HB3 := hidJ (And.intro (HB.out.1.keep HD3.out.gb) (HB.out.2.1.keep HD3.out.gb))
      obtain ⟨c0, c1, c2, c3, c4⟩ := HB3.out.1.cells
      clear HB3
      go_wp2_with fail
      refine (HP2.out W0 _ gx gy _ _ _ _ HB.out.2.2 HD3.out).mono ?_
      rintro e w4 ⟨r4, rfl, H4⟩
      obtain ⟨v2a, l2a, D4, R2⟩ := H4.out
      have HD4 := hidJ D4
      have HR2 := hidJ R2
      clear H4 D4 R2 HD3 HP2 c0 c1 c2 c3 c4
      have HB3 := hidJ (And.intro (HB.out.1.keep HD4.out.gb) (HB.out.2.1.keep HD4.out.gb))
      obtain ⟨d0, d1, d2, d3, d4⟩ := HB3.out.2.cells
      clear HB3
      go_wp2_with fail
      refine (HP3.out W0 _ gx gy _ _ _ _ HB.out.2.2 HD4.out).mono ?_
      rintro e w5 ⟨r5, rfl, H5⟩
      obtain ⟨v2, l2, D5, R3⟩ := H5.out
      have HE := hidJ (HGt.out l1 l2a l2 HR1.out HR2.out R3 HD4.out.b.ris HN.out)
      have HD5 := hidJ D5
      clear H5 D5 R3 HD4 HP3 HR1 HR2 HGt HN d0 d1 d2 d3 d4
      have HB3 := hidJ (And.intro (HB.out.1.keep HD5.out.gb) (HB.out.2.1.keep HD5.out.gb))
      have HW5 := hidJ (gb_none HB.out.2.2 HD5.out.gb)
      obtain ⟨c0, c1, c2, c3, c4⟩ := HB3.out.1.cells
      go_wp2_with fail
      refine (HFd.out _ gx l1 HD5.out.a.lg HE.out.1).mono ?_
      rintro e w6 ⟨a1, n1, e1, a2, n2, e2, rfl, H6⟩
      clear c0 c1 c2 c3 c4
      obtain ⟨W6, hW6⟩ : ∃ W6, W6 = w6.alloc (.cells #[.string gr, .string gk, .int .i64 gt, .slice a1 n1 e1, .slice a2 n2 e2] 24) := ⟨_, rfl⟩
      have k6 : w5.grownBy W6 none := by rw [hW6]; exact gb_none H6.out.2.2 (World.grownBy_alloc _ _ none)
      have HX6 := hidJ (And.intro k6 (And.intro (show B5 W6 w6.heap.size 24 (.string gr) (.string gk) (.int .i64 gt) (.slice a1 n1 e1) (.slice a2 n2 e2) by rw [hW6]; exact B5.new w6 _ _ _ _ _ _) (And.intro (show RdLL W6 (.slice a1 n1 e1) G.fir by rw [hW6]; exact H6.out.1.keep (World.grownBy_alloc _ _ none)) (show RdLL W6 (.slice a2 n2 e2) G.res by rw [hW6]; exact H6.out.2.1.keep (World.grownBy_alloc _ _ none)))))
      have hc6 := (HB3.out.1.keep k6).cells
      obtain ⟨c0, c1, c2, c3, c4⟩ := hc6
      rw [hW6] at c0 c1
      clear k6 H6 c2 c3 c4
      go_wp2_with fail
      rw [← hW6]
      clear c0 c1 hW6
      generalize w6.heap.size = b6 at *
      refine (HFd.out _ gy l2 (HD5.out.keep HX6.out.1).b.lg HE.out.2).mono ?_
      rintro e w7 ⟨a3, n3, e3, a4, n4, e4, rfl, H7⟩
      clear HFd
      obtain ⟨W7, hW7⟩ : ∃ W7, W7 = w7.alloc (.cells #[.string gr, .string gk, .int .i64 gt, .slice a3 n3 e3, .slice a4 n4 e4] 24) := ⟨_, rfl⟩
      have k7 : W6.grownBy W7 none := by rw [hW7]; exact gb_none H7.out.2.2 (World.grownBy_alloc _ _ none)
      have HX7 := hidJ (And.intro (gb_none HX6.out.1 k7) (And.intro (HX6.out.2.1.keep k7) (And.intro (HX6.out.2.2.1.keep k7) (And.intro (HX6.out.2.2.2.keep k7) (And.intro (show B5 W7 w7.heap.size 24 (.string gr) (.string gk) (.int .i64 gt) (.slice a3 n3 e3) (.slice a4 n4 e4) by rw [hW7]; exact B5.new w7 _ _ _ _ _ _) (And.intro (show RdLL W7 (.slice a3 n3 e3) G.fir by rw [hW7]; exact H7.out.1.keep (World.grownBy_alloc _ _ none)) (show RdLL W7 (.slice a4 n4 e4) G.res by rw [hW7]; exact H7.out.2.1.keep (World.grownBy_alloc _ _ none))))))))
      obtain ⟨c0, c1, -, c3, -⟩ := (HB3.out.1.keep HX7.out.1).cells
      obtain ⟨-, -, -, -, d4⟩ := (HB3.out.2.keep HX7.out.1).cells
      rw [hW7] at c0 c1 c3 d4
      clear k7 H7 HX6
      go_wp2_with fail
      rw [← hW7]
      clear c0 c1 c3 d4 hW7
      generalize w7.heap.size = b7 at *
      refine (HNd.out _ gx l1 (gb_none HW5.out HX7.out.1) (HD5.out.keep HX7.out.1).a.lg HE.out.1).mono ?_
      rintro e w8 ⟨rfl, g8⟩
      have HX8 := hidJ (And.intro (gb_none HX7.out.1 g8.out) (And.intro (HX7.out.2.1.keep g8.out) (And.intro (HX7.out.2.2.1.keep g8.out) (And.intro (HX7.out.2.2.2.1.keep g8.out) (And.intro (HX7.out.2.2.2.2.1.keep g8.out) (And.intro (HX7.out.2.2.2.2.2.1.keep g8.out) (HX7.out.2.2.2.2.2.2.keep g8.out)))))))
      clear g8 HX7
      obtain ⟨c0, c1, -, c3, -⟩ := (HB3.out.1.keep HX8.out.1).cells
      obtain ⟨-, -, -, -, d4⟩ := (HB3.out.2.keep HX8.out.1).cells
      go_wp2_with fail
      refine (HNd.out _ gy l2 (gb_none HW5.out HX8.out.1) (HD5.out.keep HX8.out.1).b.lg HE.out.2).mono ?_
      rintro e w9 ⟨rfl, g9⟩
      have HX9 := hidJ (And.intro (gb_none HX8.out.1 g9.out) (And.intro (HX8.out.2.1.keep g9.out) (And.intro (HX8.out.2.2.1.keep g9.out) (And.intro (HX8.out.2.2.2.1.keep g9.out) (And.intro (HX8.out.2.2.2.2.1.keep g9.out) (And.intro (HX8.out.2.2.2.2.2.1.keep g9.out) (HX8.out.2.2.2.2.2.2.keep g9.out)))))))
      clear g9 HX8 c0 c1 c3 d4 HNd HE HB3 HB
      obtain ⟨p0, p1, p2, p3, p4⟩ := HX9.out.2.1.cells
      obtain ⟨q0, q1, q2, q3, q4⟩ := HX9.out.2.2.2.2.1.cells
      go_wp2_with fail
      refine (HSm.out _ _ _ _ _ HX9.out.2.2.1 HX9.out.2.2.2.1 HX9.out.2.2.2.2.2.1 HX9.out.2.2.2.2.2.2).mono ?_
      rintro e wa ⟨rfl, ga⟩
      have HXa := hidJ (gb_none (gb_none HW5.out HX9.out.1) ga)
      clear ga HX9 HSm p0 p1 p2 p3 p4 q0 q1 q2 q3 q4
      go_wp2_with fail
      refine (HAw.out _ HXa.out).mono ?_
      rintro e wb ⟨rfl, gb⟩
      have HF := hidJ (gb_below (gb_none HXa.out gb))
      clear gb HAw HXa
      go_wp2
      go_ret
      exact ⟨rfl, HF.out⟩
  | false =>
    have HN := hidJ (HN1.out (.inl hbr))
    clear HN1
    go_wp2_with fail
    refine (HP1.out W0 _ gx gy _ _ _ _ HB.out.2.2 HD.out).mono ?_
    rintro e w3 ⟨r3, rfl, H3⟩
    obtain ⟨v1, l1, D3, R1⟩ := H3.out
    have HD3 := hidJ D3
    have HR1 := hidJ R1
    clear H3 D3 R1 HD HP1 c0 c1 c2 c3 c4 d0 d1 d2 d3 d4
    have HB3 := hidJ (And.intro (HB.out.1.keep HD3.out.gb) (HB.out.2.1.keep HD3.out.gb))
    obtain ⟨c0, c1, c2, c3, c4⟩ := HB3.out.1.cells
    clear HB3
    go_wp2_with fail
    refine (HP2.out W0 _ gx gy _ _ _ _ HB.out.2.2 HD3.out).mono ?_
    rintro e w4 ⟨r4, rfl, H4⟩
    obtain ⟨v2a, l2a, D4, R2⟩ := H4.out
    have HD4 := hidJ D4
    have HR2 := hidJ R2
    clear H4 D4 R2 HD3 HP2 c0 c1 c2 c3 c4
    have HB3 := hidJ (And.intro (HB.out.1.keep HD4.out.gb) (HB.out.2.1.keep HD4.out.gb))
    obtain ⟨d0, d1, d2, d3, d4⟩ := HB3.out.2.cells
    clear HB3
    go_wp2_with fail
    refine (HP3.out W0 _ gx gy _ _ _ _ HB.out.2.2 HD4.out).mono ?_
    rintro e w5 ⟨r5, rfl, H5⟩
    obtain ⟨v2, l2, D5, R3⟩ := H5.out
    have HE := hidJ (HGt.out l1 l2a l2 HR1.out HR2.out R3 HD4.out.b.ris HN.out)
    have HD5 := hidJ D5
    clear H5 D5 R3 HD4 HP3 HR1 HR2 HGt HN d0 d1 d2 d3 d4
    have HB3 := hidJ (And.intro (HB.out.1.keep HD5.out.gb) (HB.out.2.1.keep HD5.out.gb))
    have HW5 := hidJ (gb_none HB.out.2.2 HD5.out.gb)
    obtain ⟨c0, c1, c2, c3, c4⟩ := HB3.out.1.cells
    go_wp2_with fail
    refine (HFd.out _ gx l1 HD5.out.a.lg HE.out.1).mono ?_
    rintro e w6 ⟨a1, n1, e1, a2, n2, e2, rfl, H6⟩
    clear c0 c1 c2 c3 c4
    obtain ⟨W6, hW6⟩ : ∃ W6, W6 = w6.alloc (.cells #[.string gr, .string gk, .int .i64 gt, .slice a1 n1 e1, .slice a2 n2 e2] 24) := ⟨_, rfl⟩
    have k6 : w5.grownBy W6 none := by rw [hW6]; exact gb_none H6.out.2.2 (World.grownBy_alloc _ _ none)
    have HX6 := hidJ (And.intro k6 (And.intro (show B5 W6 w6.heap.size 24 (.string gr) (.string gk) (.int .i64 gt) (.slice a1 n1 e1) (.slice a2 n2 e2) by rw [hW6]; exact B5.new w6 _ _ _ _ _ _) (And.intro (show RdLL W6 (.slice a1 n1 e1) G.fir by rw [hW6]; exact H6.out.1.keep (World.grownBy_alloc _ _ none)) (show RdLL W6 (.slice a2 n2 e2) G.res by rw [hW6]; exact H6.out.2.1.keep (World.grownBy_alloc _ _ none)))))
    have hc6 := (HB3.out.1.keep k6).cells
    obtain ⟨c0, c1, c2, c3, c4⟩ := hc6
    rw [hW6] at c0 c1
    clear k6 H6 c2 c3 c4
    go_wp2_with fail
    rw [← hW6]
    clear c0 c1 hW6
    generalize w6.heap.size = b6 at *
    refine (HFd.out _ gy l2 (HD5.out.keep HX6.out.1).b.lg HE.out.2).mono ?_
    rintro e w7 ⟨a3, n3, e3, a4, n4, e4, rfl, H7⟩
    clear HFd
    obtain ⟨W7, hW7⟩ : ∃ W7, W7 = w7.alloc (.cells #[.string gr, .string gk, .int .i64 gt, .slice a3 n3 e3, .slice a4 n4 e4] 24) := ⟨_, rfl⟩
    have k7 : W6.grownBy W7 none := by rw [hW7]; exact gb_none H7.out.2.2 (World.grownBy_alloc _ _ none)
    have HX7 := hidJ (And.intro (gb_none HX6.out.1 k7) (And.intro (HX6.out.2.1.keep k7) (And.intro (HX6.out.2.2.1.keep k7) (And.intro (HX6.out.2.2.2.keep k7) (And.intro (show B5 W7 w7.heap.size 24 (.string gr) (.string gk) (.int .i64 gt) (.slice a3 n3 e3) (.slice a4 n4 e4) by rw [hW7]; exact B5.new w7 _ _ _ _ _ _) (And.intro (show RdLL W7 (.slice a3 n3 e3) G.fir by rw [hW7]; exact H7.out.1.keep (World.grownBy_alloc _ _ none)) (show RdLL W7 (.slice a4 n4 e4) G.res by rw [hW7]; exact H7.out.2.1.keep (World.grownBy_alloc _ _ none))))))))
    obtain ⟨c0, c1, -, c3, -⟩ := (HB3.out.1.keep HX7.out.1).cells
    obtain ⟨-, -, -, -, d4⟩ := (HB3.out.2.keep HX7.out.1).cells
    rw [hW7] at c0 c1 c3 d4
    clear k7 H7 HX6
    go_wp2_with fail
    rw [← hW7]
    clear c0 c1 c3 d4 hW7
    generalize w7.heap.size = b7 at *
    refine (HNd.out _ gx l1 (gb_none HW5.out HX7.out.1) (HD5.out.keep HX7.out.1).a.lg HE.out.1).mono ?_
    rintro e w8 ⟨rfl, g8⟩
    have HX8 := hidJ (And.intro (gb_none HX7.out.1 g8.out) (And.intro (HX7.out.2.1.keep g8.out) (And.intro (HX7.out.2.2.1.keep g8.out) (And.intro (HX7.out.2.2.2.1.keep g8.out) (And.intro (HX7.out.2.2.2.2.1.keep g8.out) (And.intro (HX7.out.2.2.2.2.2.1.keep g8.out) (HX7.out.2.2.2.2.2.2.keep g8.out)))))))
    clear g8 HX7
    obtain ⟨c0, c1, -, c3, -⟩ := (HB3.out.1.keep HX8.out.1).cells
    obtain ⟨-, -, -, -, d4⟩ := (HB3.out.2.keep HX8.out.1).cells
    go_wp2_with fail
    refine (HNd.out _ gy l2 (gb_none HW5.out HX8.out.1) (HD5.out.keep HX8.out.1).b.lg HE.out.2).mono ?_
    rintro e w9 ⟨rfl, g9⟩
    have HX9 := hidJ (And.intro (gb_none HX8.out.1 g9.out) (And.intro (HX8.out.2.1.keep g9.out) (And.intro (HX8.out.2.2.1.keep g9.out) (And.intro (HX8.out.2.2.2.1.keep g9.out) (And.intro (HX8.out.2.2.2.2.1.keep g9.out) (And.intro (HX8.out.2.2.2.2.2.1.keep g9.out) (HX8.out.2.2.2.2.2.2.keep g9.out)))))))
    clear g9 HX8 c0 c1 c3 d4 HNd HE HB3 HB
    obtain ⟨p0, p1, p2, p3, p4⟩ := HX9.out.2.1.cells
    obtain ⟨q0, q1, q2, q3, q4⟩ := HX9.out.2.2.2.2.1.cells
    go_wp2_with fail
    refine (HSm.out _ _ _ _ _ HX9.out.2.2.1 HX9.out.2.2.2.1 HX9.out.2.2.2.2.2.1 HX9.out.2.2.2.2.2.2).mono ?_
    rintro e wa ⟨rfl, ga⟩
    have HXa := hidJ (gb_none (gb_none HW5.out HX9.out.1) ga)
    clear ga HX9 HSm p0 p1 p2 p3 p4 q0 q1 q2 q3 q4
    go_wp2_with fail
    refine (HAw.out _ HXa.out).mono ?_
    rintro e wb ⟨rfl, gb⟩
    have HF := hidJ (gb_below (gb_none HXa.out gb))
    clear gb HAw HXa
    go_wp2
    go_ret
    exact ⟨rfl, HF.out⟩
end Go.Proofs.YtbnieljkadcaoaaDoor
