/-
  nflog's Put of the first mark: the walks.
-/
import Derived.Test.YtbnieljkadcaoabGreatDoorNff
namespace Go.Proofs.YtbnieljkadcaoabGreatDoor
open Go.RowKit Go.Shelf Go.Sort

theorem right_16 {ls : List LbT} (h : (rightS ls).1 = 0) : ls.length ≤ 16 := by
  unfold rightS at h
  by_cases h16 : 16 < ls.length
  · rw [if_pos h16] at h
    simp at h
  · omega
theorem allR_at {lss : List (List LbT)} (h : allR lss = true) (j : Nat) : (lss.getD j []).length ≤ 16 := by
  by_cases hj : j < lss.length
  · have e : lss.getD j [] = lss[j] := by simp [List.getD, hj]
    rw [e]
    have := List.all_eq_true.1 h lss[j] (by simp)
    exact right_16 (of_decide_eq_true this)
  · have e : lss.getD j [] = [] := by simp only [List.getD, List.getElem?_eq_none (Nat.le_of_not_lt hj), Option.getD_none]
    rw [e]
    simp
theorem right_rise {m : MkR} (h : rightM m = 0) : riseB m.fir = true ∧ riseB m.res = true := by
  unfold rightM at h
  split at h
  · omega
  split at h
  · omega
  split at h
  · omega
  split at h
  · omega
  split at h
  · omega
  rename_i h5
  cases e1 : riseB m.fir <;> cases e2 : riseB m.res <;> simp [e1, e2] at h5 ⊢
theorem right_LLs {m : MkR} (h : rightM m = 0) : LLs m.fir ∧ LLs m.res := by
  obtain ⟨h1, h2⟩ := right_len h
  obtain ⟨r1, r2⟩ := right_rise h
  unfold riseB at r1 r2
  rw [Bool.and_eq_true] at r1 r2
  exact ⟨⟨by omega, fun j => by have := allR_at r1.2 j; omega⟩, by omega, fun j => by have := allR_at r2.2 j; omega⟩
theorem get_empty (a : LbT) : getM [] a = xZ ∧ hasM [] a = false := ⟨rfl, rfl⟩
set_option maxRecDepth 8000 in
set_option maxHeartbeats 12800000 in
theorem layE_any (w : World) (gx : Nat) (m : MkR) (f s : Value) (h : LgN w gx) (hm : RdM w m f s) (hR : rightM m = 0) :
    Calls Tryz.prog 25 #[.pointer (some ⟨gx, 0, none⟩), markV m f s] w fun e w' => ∃ f' s', e = .returned (.int .i64 0) ∧ LgM w' gx [(m, f', s')] ∧ w.grownBy w' (some gx) := by
  have HH := hidJ (And.intro h (And.intro hm hR))
  have hgl : gx < w.heap.size := block_lt (show w.cell? ⟨gx, 0, none⟩ = some (.slice none 0 0) from Boxed.cell h)
  obtain ⟨fa, fc, ef, -⟩ := hm.fir.shape
  obtain ⟨sa, sc, es, -⟩ := hm.res.shape
  subst ef es
  have HA : Hid (∀ W, Calls Tryz.prog 24 #[markV m (.slice fa m.fir.length fc) (.slice sa m.res.length sc)] W fun e w' => e = .returned (addV (m.rcv, m.key)) ∧ W.grownBy w' none) := fun W => addrOf_any W m _ _ ⟨_, _, _, rfl⟩ ⟨_, _, _, rfl⟩
  have HG : Hid (∀ W, w.grownBy W none → Calls Tryz.prog 23 #[.pointer (some ⟨gx, 0, none⟩), addV (m.rcv, m.key)] W fun e w' => e = .returned (.tuple #[.agg #[.string ⟨#[]⟩, .string ⟨#[]⟩, .int .i64 0, .slice none 0 0, .slice none 0 0], .bool false]) ∧ W.grownBy w' none) := fun W hW => getL_any W gx [] _ (h.keep hW).lg
  have HLn : Hid (∀ W, w.grownBy W none → Calls Tryz.prog 9 #[.pointer (some ⟨gx, 0, none⟩)] W fun e w' => e = .returned (.int .i64 0) ∧ w' = W) := fun W hW => lenL_any W gx [] (h.keep hW).lg
  have HCo : Hid (∀ W, w.grownBy W none → Calls Tryz.prog 32 #[markV m (.slice fa m.fir.length fc) (.slice sa m.res.length sc)] W fun e w' => ∃ a1 n1 c1 a2 n2 c2, e = .returned (markV m (.slice a1 n1 c1) (.slice a2 n2 c2)) ∧ W.grownBy w' none ∧ Hid (Calls Tryz.prog 48 #[.pointer (some ⟨gx, 0, none⟩), addV (m.rcv, m.key), markV m (.slice a1 n1 c1) (.slice a2 n2 c2)] w' fun e w'' => e = .returned (.tuple #[]) ∧ w'.grownBy w'' (some gx) ∧ Hid (LgM w'' gx [(m, .slice a1 n1 c1, .slice a2 n2 c2)] ∧ w.grownBy w'' (some gx)))) := fun W hW => by
    have hl := right_LLs hR
    refine (copyM_any W m _ _ (hm.fir.keep hW) (hm.res.keep hW) hl.1 hl.2).mono ?_
    rintro e w' ⟨f', s', q1, q2, q3, q4⟩
    obtain ⟨a1, c1, e1⟩ := q2.shape
    obtain ⟨a2, c2, e2⟩ := q3.shape
    subst e1 e2
    have hk := gb_none hW q4
    refine ⟨a1, _, c1, a2, _, c2, q1, q4, (putE_any w' gx W.heap.size m _ _ (h.keep hk) (q2.mono (by omega)) (q3.mono (by omega)) (Nat.lt_of_lt_of_le hgl hW.size) q4.size hR hm.inF hm.inR hm.inr hm.ink).mono ?_⟩
    rintro e w2 ⟨r1, r2, r3⟩
    exact ⟨r1, r3, r2, gb_trans (gb_any hk (some gx)) r3 (fun k hk _ => hk.symm)⟩
  clear h hm hR HH
  unfold markV at HA HCo
  unfold addV at HA HG HCo
  unfold markV
  dsimp only at HA HG HCo
  have HB := hidJ (And.intro (B5.new w 24 (.string (ByteArray.mk ⟨m.rcv⟩)) (.string (ByteArray.mk ⟨m.key⟩)) (.int .i64 m.tim) (.slice fa m.fir.length fc) (.slice sa m.res.length sc)) (World.grownBy_alloc w (.cells #[.string (ByteArray.mk ⟨m.rcv⟩), .string (ByteArray.mk ⟨m.key⟩), .int .i64 m.tim, .slice fa m.fir.length fc, .slice sa m.res.length sc] 24) none))
  generalize ByteArray.mk ⟨m.rcv⟩ = br at *
  generalize ByteArray.mk ⟨m.key⟩ = bk at *
  generalize m.tim = tm at *
  generalize m.fir.length = nf at *
  generalize m.res.length = ns at *
  go_enter Tryz.func25, Tryz.ntmps25
  go_wp2_with fail
  refine (HA.out _).mono ?_
  rintro e w1 ⟨rfl, g1⟩
  clear HA
  have HB := hidJ (And.intro (HB.out.1.keep g1) (gb_none HB.out.2 g1))
  clear g1
  have k2 := World.grownBy_alloc w1 (.cells #[.string br, .string bk] 69) none
  have HB2 := hidJ (And.intro (HB.out.1.keep k2) (And.intro (gb_none HB.out.2 k2) (Go.heap_alloc_new w1 (.cells #[.string br, .string bk] 69))))
  clear k2
  go_wp2
  have HKB : Hid (w.heap.size < w1.heap.size) := some_lt HB.out.1
  generalize hkb : w1.heap.size = kb at *
  generalize w1.alloc (.cells #[.string br, .string bk] 69) = W2 at *
  clear hkb HB
  obtain ⟨c0, c1, c2, c3, c4⟩ := HB2.out.1.cells
  have e0 : W2.cell? ⟨kb, 0, none⟩ = some (.string br) := by rw [World.cell?, HB2.out.2.2]; rfl
  have e1 : W2.cell? ⟨kb, 1, none⟩ = some (.string bk) := by rw [World.cell?, HB2.out.2.2]; rfl
  have hkw : kb < W2.heap.size := some_lt HB2.out.2.2
  have HG2 : Hid (∀ W, W2.grownBy W none → Calls Tryz.prog 23 #[.pointer (some ⟨gx, 0, none⟩), .agg #[.string br, .string bk]] W fun e w' => e = .returned (.tuple #[.agg #[.string ⟨#[]⟩, .string ⟨#[]⟩, .int .i64 0, .slice none 0 0, .slice none 0 0], .bool false]) ∧ Hid (W.grownBy w' none)) := fun W hW => HG.out W (gb_none HB2.out.2.1 hW)
  clear HG
  have hne1 : ¬ kb = W2.heap.size := by omega
  have hne2 : ¬ W2.heap.size = kb := by omega
  have HK : Hid (∀ (C : Obj) (b o : Nat) (u : Value), W2.cell? ⟨b, o, none⟩ = some u → (W2.alloc C).cell? ⟨b, o, none⟩ = some u) := fun C b o u h => (World.cell?_of_block ((World.grownBy_alloc W2 C none).block b (block_lt h) (by simp))).trans h
  have HK2 : Hid (∀ (C : Obj) (b o : Nat) (u : Value), W2.cell? ⟨b, o, none⟩ = some u → (W2.drew.alloc C).cell? ⟨b, o, none⟩ = some u) := fun C b o u h => (World.cell?_of_block ((gb_none (gb_drew W2 none) (World.grownBy_alloc W2.drew C none)).block b (block_lt h) (by simp))).trans h
  have z1 := fun C => HK.out C _ _ _ e0
  have z2 := fun C => HK.out C _ _ _ e1
  have t1 := fun C => HK2.out C _ _ _ e0
  have t2 := fun C => HK2.out C _ _ _ e1
  go_region_with (go_at_call 23; refine (HG2.out _ (by first | exact gb_refl _ _ | exact gb_drew _ none | exact gb_none (World.grownBy_alloc _ _ none) (gb_drew _ none) | exact gb_none (gb_drew _ none) (World.grownBy_alloc _ _ none))).mono ?_; rintro e w3 ⟨rfl, H3⟩; (first | (have hb5 := (show B5 _ W2.heap.size 24 (.string ⟨#[]⟩) (.string ⟨#[]⟩) (.int .i64 0) (.slice none 0 0) (.slice none 0 0) from B5.new W2 24 (.string ⟨#[]⟩) (.string ⟨#[]⟩) (.int .i64 0) (.slice none 0 0) (.slice none 0 0)).keep (gb_none (gb_drew _ none) H3.out); obtain ⟨n0, n1, n2, n3, n4⟩ := hb5.cells; obtain ⟨m0, m1, m2, m3, m4⟩ := hb5.froz; have HB5 := hidJ hb5; clear hb5) | skip))
  all_goals
    clear z1 z2 t1 t2 HK HK2 hne1 hne2 HG2
    have HX : Hid (∀ W, (W = w3.alloc (.cells #[.string ⟨#[]⟩, .string ⟨#[]⟩, .int .i64 0, .slice none 0 0, .slice none 0 0] 24) ∨ W = set5 w3 W2.heap.size (.string ⟨#[]⟩) (.string ⟨#[]⟩) (.int .i64 0) (.slice none 0 0) (.slice none 0 0)) → W2.grownBy W none) := by
      intro W hW
      have g3 : W2.grownBy w3 none := by first | exact gb_none (gb_drew _ none) H3.out | exact gb_none (gb_none (World.grownBy_alloc _ _ none) (gb_drew _ none)) H3.out | exact gb_none (gb_none (gb_drew _ none) (World.grownBy_alloc _ _ none)) H3.out | exact H3.out
      rcases hW with rfl | rfl
      · exact gb_none g3 (World.grownBy_alloc _ _ none)
      · exact gb_ch g3 (set5_ch _ _ _ _ _ _ _) (fun k e => by omega)
    clear H3
    first
      | (clear n0 n1 n2 n3 n4 m0 m1 m2 m3 m4 HB5; have HY := hidJ (HX.out _ (.inr rfl)); unfold set5 at HY; generalize (((((w3.setCell ⟨W2.heap.size, 0, none⟩ (.string ⟨#[]⟩)).setCell ⟨W2.heap.size, 1, none⟩ (.string ⟨#[]⟩)).setCell ⟨W2.heap.size, 2, none⟩ (.int .i64 0)).setCell ⟨W2.heap.size, 3, none⟩ (.slice none 0 0)).setCell ⟨W2.heap.size, 4, none⟩ (.slice none 0 0)) = W4 at *)
      | (have HY := hidJ (HX.out _ (.inl rfl)); generalize w3.alloc (.cells #[.string ⟨#[]⟩, .string ⟨#[]⟩, .int .i64 0, .slice none 0 0, .slice none 0 0] 24) = W4 at *)
    clear HX
    have kc : ∀ {b o : Nat} {u : Value}, W2.cell? ⟨b, o, none⟩ = some u → W4.cell? ⟨b, o, none⟩ = some u := fun h => (World.cell?_of_block (HY.out.block _ (block_lt h) (by simp))).trans h
    have q0 := kc c0
    have q1 := kc c1
    have q2 := kc c2
    have q3 := kc c3
    have q4 := kc c4
    have q5 := kc e0
    have q6 := kc e1
    clear c0 c1 c2 c3 c4 e0 e1 kc
    have HZ := hidJ (gb_none HB2.out.2.1 HY.out)
    go_wp2_with fail
    refine (HLn.out _ HZ.out).mono ?_
    rintro e w5 ⟨rfl, h5⟩
    have h5 := h5.symm
    subst h5
    clear HLn HY HB2
    go_wp2
    have HCo2 : Hid (∀ W, W4.grownBy W none → Calls Tryz.prog 32 #[.agg #[.string br, .string bk, .int .i64 tm, .slice fa nf fc, .slice sa ns sc]] W fun e w' => ∃ a1 n1 c1 a2 n2 c2, e = .returned (.agg #[.string br, .string bk, .int .i64 tm, .slice a1 n1 c1, .slice a2 n2 c2]) ∧ (w'.cell? ⟨w.heap.size, 0, none⟩ = some (.string br) ∧ w'.cell? ⟨w.heap.size, 1, none⟩ = some (.string bk) ∧ w'.cell? ⟨w.heap.size, 2, none⟩ = some (.int .i64 tm) ∧ w'.cell? ⟨w.heap.size, 3, none⟩ = some (.slice fa nf fc) ∧ w'.cell? ⟨w.heap.size, 4, none⟩ = some (.slice sa ns sc) ∧ w'.cell? ⟨kb, 0, none⟩ = some (.string br) ∧ w'.cell? ⟨kb, 1, none⟩ = some (.string bk)) ∧ Hid (Calls Tryz.prog 48 #[.pointer (some ⟨gx, 0, none⟩), .agg #[.string br, .string bk], .agg #[.string br, .string bk, .int .i64 tm, .slice a1 n1 c1, .slice a2 n2 c2]] w' fun e w'' => e = .returned (.tuple #[]) ∧ (w''.cell? ⟨w.heap.size, 0, none⟩ = some (.string br) ∧ w''.cell? ⟨w.heap.size, 1, none⟩ = some (.string bk) ∧ w''.cell? ⟨w.heap.size, 2, none⟩ = some (.int .i64 tm) ∧ w''.cell? ⟨w.heap.size, 3, none⟩ = some (.slice fa nf fc) ∧ w''.cell? ⟨w.heap.size, 4, none⟩ = some (.slice sa ns sc) ∧ w''.cell? ⟨kb, 0, none⟩ = some (.string br) ∧ w''.cell? ⟨kb, 1, none⟩ = some (.string bk)) ∧ Hid (LgM w'' gx [(m, .slice a1 n1 c1, .slice a2 n2 c2)] ∧ w.grownBy w'' (some gx)))) := fun W hW => by
      refine (HCo.out W (gb_none HZ.out hW)).mono ?_
      rintro e w' ⟨a1, n1, c1, a2, n2, c2, r1, r2, r3⟩
      have kc : ∀ {b o : Nat} {u : Value}, W4.cell? ⟨b, o, none⟩ = some u → w'.cell? ⟨b, o, none⟩ = some u := fun h => (World.cell?_of_block ((gb_none hW r2).block _ (block_lt h) (by simp))).trans h
      refine ⟨a1, n1, c1, a2, n2, c2, r1, ⟨kc q0, kc q1, kc q2, kc q3, kc q4, kc q5, kc q6⟩, r3.out.mono ?_⟩
      rintro e w'' ⟨t1, t2, t3⟩
      have kd : ∀ {b o : Nat} {u : Value}, b ≠ gx → w'.cell? ⟨b, o, none⟩ = some u → w''.cell? ⟨b, o, none⟩ = some u := fun hb h => (World.cell?_of_block (t2.block _ (block_lt h) (fun e => hb (Option.some.inj e)))).trans h
      have n1 : w.heap.size ≠ gx := by omega
      have n2 : kb ≠ gx := by have := HKB.out; omega
      exact ⟨t1, ⟨kd n1 (kc q0), kd n1 (kc q1), kd n1 (kc q2), kd n1 (kc q3), kd n1 (kc q4), kd n2 (kc q5), kd n2 (kc q6)⟩, t3⟩
    clear HCo
    have HD : Hid (W4.grownBy W4.drew none) := gb_drew _ _
    go_region_held3 (fun w' => w'.cell? ⟨w.heap.size, 0, none⟩ = some (.string br) ∧ w'.cell? ⟨w.heap.size, 1, none⟩ = some (.string bk) ∧ w'.cell? ⟨w.heap.size, 2, none⟩ = some (.int .i64 tm) ∧ w'.cell? ⟨w.heap.size, 3, none⟩ = some (.slice fa nf fc) ∧ w'.cell? ⟨w.heap.size, 4, none⟩ = some (.slice sa ns sc) ∧ w'.cell? ⟨kb, 0, none⟩ = some (.string br) ∧ w'.cell? ⟨kb, 1, none⟩ = some (.string bk)) (go_keep)
      (first
        | (go_at_call 32; with_reducible refine (HCo2.out _ HD.out).mono ?_; rintro e w6 ⟨a1, n1, c1, a2, n2, c2, rfl, ⟨j0, j1, j2, j3, j4, j5, j6⟩, H6⟩)
        | (go_at_call 48; with_reducible refine H6.out.mono ?_; rintro e w7 ⟨rfl, ⟨l0, l1, l2, l3, l4, l5, l6⟩, H7⟩))
    go_wp2
    go_ret
    exact ⟨_, _, rfl, H7.out⟩
end Go.Proofs.YtbnieljkadcaoabGreatDoor
