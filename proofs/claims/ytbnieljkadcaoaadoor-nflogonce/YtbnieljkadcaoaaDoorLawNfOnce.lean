/-
  NflogOnce: what was told is not told again until the repeat interval has gone by: the walk of the law.
-/
import Derived.Test.YtbnieljkadcaoaaDoorNfm
namespace Go.Proofs.YtbnieljkadcaoaaDoor
open Go.RowKit Go.Shelf Go.Sort

theorem LLIn_app {lss : List (List LbT)} {x : List LbT} (h : LLIn lss) (hx : LbIn x) (hl : lss.length ≤ 1000) : LLIn (lss ++ [x]) := by
  refine ⟨by simp; omega, fun j => ?_⟩
  by_cases hj : j < lss.length
  · have e : (lss ++ [x]).getD j [] = lss.getD j [] := by simp [List.getD, List.getElem?_append_left hj]
    rw [e]
    exact h.2 j
  · by_cases hj2 : j = lss.length
    · have e : (lss ++ [x]).getD j [] = x := by rw [hj2]; simp
      rw [e]
      exact hx
    · have e : (lss ++ [x]).getD j [] = [] := by simp only [List.getD, List.getElem?_eq_none (show (lss ++ [x]).length ≤ j by simp; omega), Option.getD_none]
      rw [e]
      exact LbIn.nil
/-- Sorted of one, told -/
def SrtQ (w : World) (ls : List LbT) (W : World) (e : Ending) (w' : World) : Prop := (∃ a c, (rightS ls).1 = 0 ∧ e = .returned (.tuple #[.slice a 1 c, .int .i64 0]) ∧ Hid (OwnLL w' W.heap.size (.slice a 1 c) [ls] ∧ w.grownBy w' none ∧ W.grownBy w' none)) ∨ ((rightS ls).1 ≠ 0 ∧ e = .returned (.tuple #[.slice none 0 0, .int .i64 41]) ∧ Hid (w.grownBy w' none ∧ W.grownBy w' none))
set_option maxRecDepth 8000 in
set_option maxHeartbeats 25600000 in
theorem nfOnce_walk (w : World) (m : MkR) (f s : Value) (rep wait : Int) (mv : Value) (ms : List LbT) (hm : RdM w m f s) (hmv : RdL w mv ms) (hmi : LbIn ms) (hT : U8S w) (hrep : -9223372036854775808 ≤ rep ∧ rep ≤ 9223372036854775807) (hwait : -9223372036854775808 ≤ wait ∧ wait ≤ 9223372036854775807) :
    Calls Tryd.prog 4 #[markV m f s, .int .i64 rep, .int .i64 wait, mv] w fun e w' => e = .returned (.bool true) ∧ Below w.heap.size w w' := by
  have HM := hidJ (And.intro hm (And.intro hmv (And.intro hmi hT)))
  obtain ⟨fa, fc, ef, hf1, hf2⟩ := hm.fir.shape
  obtain ⟨sa, sc, es, hs1, hs2⟩ := hm.res.shape
  subst ef es
  obtain ⟨ma, mc, em⟩ := hmv.shape
  subst em
  clear hm hmv hmi hT
  have HNw : Hid (∀ W, Calls Tryd.prog 20 #[] W fun e w' => e = .returned (.pointer (some ⟨W.heap.size, 0, none⟩)) ∧ LgN w' W.heap.size ∧ W.grownBy w' none) := newN_any
  have HPt : Hid (∀ W gx, w.grownBy W none → LgN W gx → Calls Tryd.prog 21 #[.pointer (some ⟨gx, 0, none⟩), markV m (.slice fa m.fir.length fc) (.slice sa m.res.length sc)] W fun e w' => e = .returned (.int .i64 (rightM m)) ∧ W.grownBy w' (some gx) ∧ Hid ((rightM m = 0 → ∃ f' s', LgM w' gx [(m, f', s')]) ∧ (rightM m ≠ 0 → W.grownBy w' none))) := fun W gx hW hL => (putL_any W gx m _ _ hL (HM.out.1.keep hW) (HM.out.2.2.2.keep hW)).mono fun e w' ⟨h1, h2, h3, h4⟩ => ⟨h1, h2, h3, h4⟩
  have HAw : Hid (∀ W, w.grownBy W none → Calls Tryd.prog 19 #[] W fun e w' => e = .returned (.bool true) ∧ W.grownBy w' none) := fun W hW => awakeN_any W (HM.out.2.2.2.keep hW)
  have HNd : Hid (∀ W gx f' s' u fi nw, w.grownBy W none → LgM W gx [(m, f', s')] → RdLL W u fi → LLIn fi → Calls Tryd.prog 23 #[.pointer (some ⟨gx, 0, none⟩), .string (ByteArray.mk ⟨m.rcv⟩), .string (ByteArray.mk ⟨m.key⟩), .int .i64 nw, .int .i64 rep, u, .slice sa m.res.length sc] W fun e w' => e = .returned (.tuple #[.bool (needsM m true nw rep fi m.res).1, .int .i64 (needsM m true nw rep fi m.res).2]) ∧ W.grownBy w' none) := fun W gx f' s' u fi nw hW hL hu hui => by
    have h := logNeeds_any W gx _ m.rcv m.key u _ nw rep fi m.res hL hu (HM.out.1.res.keep hW) hui HM.out.1.inR (HM.out.2.2.2.keep hW)
    rw [(got_one m f' s').1, (got_one m f' s').2] at h
    exact h
  have HSo : Hid (∀ W b, w.grownBy W none → W.heap[b]? = some (.cells #[.slice ma ms.length mc] 39 (0, 0)) → Calls Tryd.prog 14 #[.slice (some ⟨b, 0, none⟩) 1 1] W fun e w' => SrtQ w ms W e w') := fun W b hW hb => by
    refine (sorted_one W _ ms ⟨[.slice ma ms.length mc], ⟨_, 1, rfl, Nat.le_refl _, by unfold maxLen; omega, fun j hj => ⟨b, 0, rfl, ?_⟩, fun e => by cases e⟩, rfl, fun j => ?_⟩ HM.out.2.2.1 (HM.out.2.2.2.keep hW)).mono ?_
    · have : j = 0 := by simp at hj; omega
      subst this
      simp [World.cell?, hb]
    · match j with
      | 0 => exact HM.out.2.1.keep hW
      | j + 1 => simpa using RdL.nil W
    · rintro e w' ⟨q1, q2⟩
      rcases q2 with ⟨q2, q3⟩ | ⟨q2, a, c, q3, q4⟩
      · exact .inr ⟨q2, q3, gb_none hW q1, q1⟩
      · exact .inl ⟨a, c, q2, q3, q4, gb_none hW q1, q1⟩
  have HLt : Hid (rightM m = 0 → ∀ W, w.grownBy W none → Calls Tryd.prog 7 #[.slice fa m.fir.length fc] W fun e w' => ∃ v', e = .returned v' ∧ OwnLL w' W.heap.size v' m.fir ∧ W.grownBy w' none) := fun hR W hW => lentS_any W _ m.fir (HM.out.1.fir.keep hW) (right_LLs hR).1
  have HWi : Hid (∀ W u, w.grownBy W none → RdLL W u [ms] → Calls Tryd.prog 13 #[u, .slice fa m.fir.length fc] W fun e w' => e = .returned (.bool (decide (ms ∈ m.fir))) ∧ W.grownBy w' none) := fun W u hW hu => by
    have h := refWithin_any W u _ [ms] m.fir hu (HM.out.1.fir.keep hW)
    rw [within_one] at h
    exact h
  have HLn : Hid (∀ W gx, LgN W gx → Calls Tryd.prog 22 #[.pointer (some ⟨gx, 0, none⟩)] W fun e w' => e = .returned (.int .i64 0) ∧ w' = W) := fun W gx h => lenL_any W gx [] h.lg
  unfold markV at HPt
  unfold markV
  have HB := hidJ (And.intro (B5.new w 24 (.string (ByteArray.mk ⟨m.rcv⟩)) (.string (ByteArray.mk ⟨m.key⟩)) (.int .i64 m.tim) (.slice fa m.fir.length fc) (.slice sa m.res.length sc)) (World.grownBy_alloc w (.cells #[.string (ByteArray.mk ⟨m.rcv⟩), .string (ByteArray.mk ⟨m.key⟩), .int .i64 m.tim, .slice fa m.fir.length fc, .slice sa m.res.length sc] 24) none))
  generalize ByteArray.mk ⟨m.rcv⟩ = br at *
  generalize ByteArray.mk ⟨m.key⟩ = bk at *
  obtain ⟨tm, htm⟩ : ∃ tm, m.tim = tm := ⟨_, rfl⟩
  have HTM := hidJ htm
  rw [htm] at HPt HB
  rw [htm]
  clear htm
  obtain ⟨nf, hnf⟩ : ∃ nf, m.fir.length = nf := ⟨_, rfl⟩
  have HNF := hidJ hnf
  rw [hnf] at HPt HB HLt HWi hf1
  rw [hnf]
  clear hnf
  generalize m.res.length = ns at *
  generalize ms.length = nms at *
  obtain ⟨R, hR⟩ : ∃ R, R = rightM m := ⟨_, rfl⟩
  have HRR := hidJ hR
  rw [← hR] at HPt HLt
  clear hR
  go_enter Tryd.func4, Tryd.ntmps4
  go_wp2_with fail
  refine (HNw.out _).mono ?_
  rintro e w1 ⟨rfl, q1, q2⟩
  obtain ⟨gx, hgx⟩ : ∃ gx, (w.alloc (.cells #[.string br, .string bk, .int .i64 tm, .slice fa nf fc, .slice sa ns sc] 24)).heap.size = gx := ⟨_, rfl⟩
  rw [hgx] at q1 ⊢
  have hgw : w.heap.size < gx := by rw [← hgx]; simp
  have HW1 := hidJ (And.intro (gb_none HB.out.2 q2) (And.intro (HB.out.1.keep q2) (And.intro q1 hgw)))
  clear q1 q2 hgx hgw HNw HB
  obtain ⟨c0, c1, c2, c3, c4⟩ := HW1.out.2.1.cells
  go_wp2_with fail
  refine (HPt.out _ gx HW1.out.1 HW1.out.2.2.1).mono ?_
  rintro e w2 ⟨rfl, g2, H2⟩
  have hg2 : w.grownBy w2 none := gb_new HW1.out.1 g2 (fun k hk => by have := HW1.out.2.2.2; cases hk; omega)
  have hb2 : B5 w2 w.heap.size 24 (.string br) (.string bk) (.int .i64 tm) (.slice fa nf fc) (.slice sa ns sc) := (g2.block _ (some_lt HW1.out.2.1) (fun e => by have := HW1.out.2.2.2; cases e; omega)).trans HW1.out.2.1
  have HW2 := hidJ (And.intro hg2 hb2)
  clear HPt g2 hg2 hb2 c0 c1 c2 c3 c4
  by_cases hR0 : R = 0
  · obtain ⟨f', s', hL2⟩ := H2.out.1 hR0
    have HL2 := hidJ hL2
    have hRm : rightM m = 0 := by rw [← HRR.out]; exact hR0
    have HRm := hidJ hRm
    have HLt2 := hidJ (HLt.out hR0)
    subst hR0
    clear H2 hL2 hRm HLt HRR HW1 HLn
    obtain ⟨c0, c1, c2, c3, c4⟩ := HW2.out.2.cells
    by_cases h1 : rep < 1
    · go_wp2_with fail
      refine (HAw.out _ HW2.out.1).mono ?_
      rintro e w9 ⟨rfl, g9⟩
      have H9 := hidJ (gb_below (gb_none HW2.out.1 g9))
      clear g9 HAw
      go_wp2
      go_ret
      exact ⟨rfl, H9.out⟩
    by_cases h2 : 1099511627776 < rep
    · go_wp2_with fail
      refine (HAw.out _ HW2.out.1).mono ?_
      rintro e w9 ⟨rfl, g9⟩
      have H9 := hidJ (gb_below (gb_none HW2.out.1 g9))
      clear g9 HAw
      go_wp2
      go_ret
      exact ⟨rfl, H9.out⟩
    by_cases h3 : wait < 0
    · go_wp2_with fail
      refine (HAw.out _ HW2.out.1).mono ?_
      rintro e w9 ⟨rfl, g9⟩
      have H9 := hidJ (gb_below (gb_none HW2.out.1 g9))
      clear g9 HAw
      go_wp2
      go_ret
      exact ⟨rfl, H9.out⟩
    by_cases h4 : 1099511627776 < wait
    · go_wp2_with fail
      refine (HAw.out _ HW2.out.1).mono ?_
      rintro e w9 ⟨rfl, g9⟩
      have H9 := hidJ (gb_below (gb_none HW2.out.1 g9))
      clear g9 HAw
      go_wp2
      go_ret
      exact ⟨rfl, H9.out⟩
    by_cases h5 : 1124800395214848 < tm
    · go_wp2_with fail
      refine (HAw.out _ HW2.out.1).mono ?_
      rintro e w9 ⟨rfl, g9⟩
      have H9 := hidJ (gb_below (gb_none HW2.out.1 g9))
      clear g9 HAw
      go_wp2
      go_ret
      exact ⟨rfl, H9.out⟩
    have hrm := right_tim HRm.out
    unfold timB at hrm
    rw [Bool.and_eq_true, decide_eq_true_eq, decide_eq_true_eq, HTM.out] at hrm
    obtain ⟨nw, hnw⟩ : ∃ nw, tm + wait = nw := ⟨_, rfl⟩
    have hn1 : -9223372036854775808 ≤ tm + wait := by omega
    have hn2 : tm + wait ≤ 9223372036854775807 := by omega
    have HNW := hidJ hnw
    have HOn : Hid (OnT m rep wait) := by
      refine ⟨by omega, by omega, by omega, by omega, ?_⟩
      rw [HTM.out]
      omega
    have hns := needs_same HRm.out HOn.out
    rw [HTM.out, HNW.out, HNF.out] at hns
    have HN1 := hidJ (HNd.out w2 gx f' s' _ m.fir nw HW2.out.1 HL2.out (HM.out.1.fir.keep HW2.out.1) HM.out.1.inF)
    rw [hns, HNF.out] at HN1
    clear hns hrm
    go_wp2_with fail
    refine HN1.out.mono ?_
    rintro e w3 ⟨rfl, g3⟩
    have HW3' := hidJ (And.intro (gb_none HW2.out.1 g3) (And.intro (HW2.out.2.keep g3) (HL2.out.keep g3)))
    clear HN1 g3 HW2 HL2 c0 c1 c2 c3 c4 hn1 hn2 hnw
    obtain ⟨-, -, -, j3, -⟩ := HW3'.out.2.1.cells
    by_cases hnf0 : 0 < nf
    · have hnfi : (0 : Int) < (nf : Int) := by omega
      have hnfb : decide (0 < nf) = true := decide_eq_true hnf0
      rw [hnfb]
      by_cases hrw : rep ≤ wait
      · have hrb : decide (rep ≤ wait) = true := decide_eq_true hrw
        rw [hrb]
        have HW3 : Hid (w.grownBy w3 none ∧ B5 w3 w.heap.size 24 (.string br) (.string bk) (.int .i64 tm) (.slice fa nf fc) (.slice sa ns sc) ∧ LgM w3 gx [(m, f', s')]) := HW3'.out
        clear HW3'
        have HSo2 : Hid (∀ C, Calls Tryd.prog 14 #[.slice (some ⟨w3.heap.size, 0, none⟩) 1 1] (w3.alloc (.cells #[.slice ma nms mc] 39)) fun e w' => SrtQ w ms (w3.alloc (.cells #[.slice ma nms mc] 39)) e w' ∧ (C : Nat) = C) := fun C => (HSo.out _ _ (gb_none HW3.out.1 (World.grownBy_alloc w3 _ none)) (Go.heap_alloc_new w3 _)).mono fun e w' h => ⟨h, rfl⟩
        clear HSo
        go_wp2_with fail
        refine (HSo2.out 0).mono ?_
        rintro e w4 ⟨hS4, -⟩
        clear HSo2
        rcases hS4 with ⟨a4, c4', hr4, rfl, H4⟩ | ⟨hr4, rfl, H4⟩
        · have hb4 := HW3.out.2.1.keep (gb_none (World.grownBy_alloc w3 (.cells #[.slice ma nms mc] 39) none) H4.out.2.2)
          have hL4 := HW3.out.2.2.keep (gb_none (World.grownBy_alloc w3 (.cells #[.slice ma nms mc] 39) none) H4.out.2.2)
          have HR4 := hidJ hr4
          clear hr4
          obtain ⟨-, -, -, k3, -⟩ := hb4.cells
          have HB4 := hidJ (And.intro hb4 hL4)
          clear hb4 hL4
          go_wp2_with fail
          refine (HLt2.out _ H4.out.2.1).mono ?_
          rintro e w5 ⟨v5, rfl, q1, q2⟩
          clear HLt2 k3
          have hz4 : w3.heap.size < w4.heap.size := by have := H4.out.2.2.size; simp at this; omega
          obtain ⟨vs4, o1, o2, o3⟩ := H4.out.1
          obtain ⟨a6, c6, w6, hrun, hrd6, hg6⟩ := app_sets (w := w5) (w1 := w4) (base := w4.heap.size) q1 q2.size (mss := [ms]) (lss := m.fir) (s := .slice a4 1 c4') (by have := right_len HRm.out; omega) (by simp) q2 (Nat.le_refl _) ⟨vs4, (o1.keep q2).rd, o2, fun j => (o3 j).rd⟩
          have hr46 := (H4.out.1.rd).keep hg6
          have hlen6 : (m.fir ++ [ms]).length = nf + 1 := by have := HNF.out; simp; omega
          rw [hlen6] at hrun hrd6
          have hb6 := HB4.out.1.keep hg6
          have hL6 := HB4.out.2.keep hg6
          have HW6 := hidJ (And.intro (gb_none H4.out.2.1 hg6) (And.intro hb6 (And.intro hL6 (And.intro hrd6 hr46))))
          obtain ⟨y6, hy6, hy6'⟩ := needs_more HRm.out HOn.out ms HR4.out
          rw [HTM.out, HNW.out] at hy6
          have HNd6 := hidJ (HNd.out w6 gx f' s' _ (m.fir ++ [ms]) nw HW6.out.1 hL6 hrd6 (LLIn_app HM.out.1.inF HM.out.2.2.1 (by have := right_len HRm.out; omega)))
          rw [hy6] at HNd6
          have HY6 := hidJ hy6'
          have HRun := hidJ hrun
          obtain ⟨a5, n5, c5, rfl⟩ : ∃ a n c, v5 = .slice a n c := by obtain ⟨a, c, e⟩ := q1.shape; exact ⟨_, _, _, e⟩
          clear q1 q2 hrun hrd6 hg6 hr46 hlen6 hL6 hy6 hy6' o1 o2 o3 hz4 HB4 H4
          obtain ⟨k0, k1, k2, k3, k4⟩ := hb6.cells
          clear hb6
          go_wp2_with (at_builtin; refine wp_appRun rfl _ _ 22 rfl _ _ _ rfl rfl HRun.out ?_)
          clear HRun
          refine HNd6.out.mono ?_
          rintro e w7 ⟨rfl, g7⟩
          clear HNd6 k0 k1 k2 k3 k4
          have hW7 := gb_none HW6.out.1 g7
          have HWi7 := hidJ (HWi.out w7 _ hW7 (HW6.out.2.2.2.2.keep g7))
          have hb7 := HW6.out.2.1.keep g7
          have HW7 := hidJ (And.intro hW7 (And.intro hb7 (HW6.out.2.2.1.keep g7)))
          obtain ⟨-, -, -, k3, -⟩ := hb7.cells
          clear hW7 hb7 g7 HW6 HWi
          go_wp2_with fail
          refine HWi7.out.mono ?_
          rintro e w8 ⟨rfl, g8⟩
          clear HWi7 k3
          have hb8 := HW7.out.2.1.keep g8
          have HW8 := hidJ (And.intro (gb_none HW7.out.1 g8) (And.intro hb8 (HW7.out.2.2.keep g8)))
          obtain ⟨k0, k1, k2, k3, k4⟩ := hb8.cells
          clear hb8 g8 HW7
          have HNd8 := hidJ (HNd.out w8 gx f' s' _ [] nw HW8.out.1 HW8.out.2.2 (RdLL.nil _) awI.2)
          have hn8 := needs_none HRm.out HOn.out
          rw [HTM.out, HNW.out, HNF.out] at hn8
          rw [hn8] at HNd8
          unfold nilV at HNd8
          clear hn8 HNd
          have HAw8 : Hid (∀ W, w8.grownBy W none → Calls Tryd.prog 19 #[] W fun e w' => e = .returned (.bool true) ∧ Hid (Below w.heap.size w w')) := fun W hW => (HAw.out W (gb_none HW8.out.1 hW)).mono fun e w' ⟨h1, h2⟩ => ⟨h1, gb_below (gb_none (gb_none HW8.out.1 hW) h2)⟩
          by_cases hmem : ms ∈ m.fir
          · have hmb : decide (ms ∈ m.fir) = true := decide_eq_true hmem
            rw [hmb]
            clear hmem hmb HY6
            go_wp2_with fail
            refine HNd8.out.mono ?_
            rintro e w9 ⟨rfl, g9⟩
            have hb9 := HW8.out.2.1.keep g9
            obtain ⟨-, -, -, i3, -⟩ := hb9.cells
            have HAw9 := hidJ (HAw8.out w9 g9)
            clear HNd8 k0 k1 k2 k3 k4 hb9 g9
            go_wp2_with fail
            refine HAw9.out.mono ?_
            rintro e w10 ⟨rfl, H10⟩
            clear HAw9
            go_wp2
            go_ret
            exact ⟨rfl, H10.out⟩
          · have hmb : decide (ms ∈ m.fir) = false := decide_eq_false hmem
            have hy := HY6.out hmem
            subst hy
            rw [hmb]
            clear hmem hmb HY6
            go_wp2_with fail
            refine HNd8.out.mono ?_
            rintro e w9 ⟨rfl, g9⟩
            have hb9 := HW8.out.2.1.keep g9
            obtain ⟨-, -, -, i3, -⟩ := hb9.cells
            have HAw9 := hidJ (HAw8.out w9 g9)
            clear HNd8 k0 k1 k2 k3 k4 hb9 g9
            go_wp2_with fail
            refine HAw9.out.mono ?_
            rintro e w10 ⟨rfl, H10⟩
            clear HAw9
            go_wp2
            go_ret
            exact ⟨rfl, H10.out⟩
        · have HAw4 := hidJ (HAw.out w4 H4.out.1)
          have HG4 := hidJ H4.out.1
          clear HAw hr4
          go_wp2_with fail
          refine HAw4.out.mono ?_
          rintro e w9 ⟨rfl, g9⟩
          have H9 := hidJ (gb_below (gb_none HG4.out g9))
          clear g9 HAw4
          go_wp2
          go_ret
          exact ⟨rfl, H9.out⟩
      · have hrb : decide (rep ≤ wait) = false := decide_eq_false hrw
        rw [hrb]
        have HW3 : Hid (w.grownBy w3 none ∧ B5 w3 w.heap.size 24 (.string br) (.string bk) (.int .i64 tm) (.slice fa nf fc) (.slice sa ns sc) ∧ LgM w3 gx [(m, f', s')]) := HW3'.out
        clear HW3'
        have HSo2 : Hid (∀ C, Calls Tryd.prog 14 #[.slice (some ⟨w3.heap.size, 0, none⟩) 1 1] (w3.alloc (.cells #[.slice ma nms mc] 39)) fun e w' => SrtQ w ms (w3.alloc (.cells #[.slice ma nms mc] 39)) e w' ∧ (C : Nat) = C) := fun C => (HSo.out _ _ (gb_none HW3.out.1 (World.grownBy_alloc w3 _ none)) (Go.heap_alloc_new w3 _)).mono fun e w' h => ⟨h, rfl⟩
        clear HSo
        go_wp2_with fail
        refine (HSo2.out 0).mono ?_
        rintro e w4 ⟨hS4, -⟩
        clear HSo2
        rcases hS4 with ⟨a4, c4', hr4, rfl, H4⟩ | ⟨hr4, rfl, H4⟩
        · have hb4 := HW3.out.2.1.keep (gb_none (World.grownBy_alloc w3 (.cells #[.slice ma nms mc] 39) none) H4.out.2.2)
          have hL4 := HW3.out.2.2.keep (gb_none (World.grownBy_alloc w3 (.cells #[.slice ma nms mc] 39) none) H4.out.2.2)
          have HR4 := hidJ hr4
          clear hr4
          obtain ⟨-, -, -, k3, -⟩ := hb4.cells
          have HB4 := hidJ (And.intro hb4 hL4)
          clear hb4 hL4
          go_wp2_with fail
          refine (HLt2.out _ H4.out.2.1).mono ?_
          rintro e w5 ⟨v5, rfl, q1, q2⟩
          clear HLt2 k3
          have hz4 : w3.heap.size < w4.heap.size := by have := H4.out.2.2.size; simp at this; omega
          obtain ⟨vs4, o1, o2, o3⟩ := H4.out.1
          obtain ⟨a6, c6, w6, hrun, hrd6, hg6⟩ := app_sets (w := w5) (w1 := w4) (base := w4.heap.size) q1 q2.size (mss := [ms]) (lss := m.fir) (s := .slice a4 1 c4') (by have := right_len HRm.out; omega) (by simp) q2 (Nat.le_refl _) ⟨vs4, (o1.keep q2).rd, o2, fun j => (o3 j).rd⟩
          have hr46 := (H4.out.1.rd).keep hg6
          have hlen6 : (m.fir ++ [ms]).length = nf + 1 := by have := HNF.out; simp; omega
          rw [hlen6] at hrun hrd6
          have hb6 := HB4.out.1.keep hg6
          have hL6 := HB4.out.2.keep hg6
          have HW6 := hidJ (And.intro (gb_none H4.out.2.1 hg6) (And.intro hb6 (And.intro hL6 (And.intro hrd6 hr46))))
          obtain ⟨y6, hy6, hy6'⟩ := needs_more HRm.out HOn.out ms HR4.out
          rw [HTM.out, HNW.out] at hy6
          have HNd6 := hidJ (HNd.out w6 gx f' s' _ (m.fir ++ [ms]) nw HW6.out.1 hL6 hrd6 (LLIn_app HM.out.1.inF HM.out.2.2.1 (by have := right_len HRm.out; omega)))
          rw [hy6] at HNd6
          have HY6 := hidJ hy6'
          have HRun := hidJ hrun
          obtain ⟨a5, n5, c5, rfl⟩ : ∃ a n c, v5 = .slice a n c := by obtain ⟨a, c, e⟩ := q1.shape; exact ⟨_, _, _, e⟩
          clear q1 q2 hrun hrd6 hg6 hr46 hlen6 hL6 hy6 hy6' o1 o2 o3 hz4 HB4 H4
          obtain ⟨k0, k1, k2, k3, k4⟩ := hb6.cells
          clear hb6
          go_wp2_with (at_builtin; refine wp_appRun rfl _ _ 22 rfl _ _ _ rfl rfl HRun.out ?_)
          clear HRun
          refine HNd6.out.mono ?_
          rintro e w7 ⟨rfl, g7⟩
          clear HNd6 k0 k1 k2 k3 k4
          have hW7 := gb_none HW6.out.1 g7
          have HWi7 := hidJ (HWi.out w7 _ hW7 (HW6.out.2.2.2.2.keep g7))
          have hb7 := HW6.out.2.1.keep g7
          have HW7 := hidJ (And.intro hW7 (And.intro hb7 (HW6.out.2.2.1.keep g7)))
          obtain ⟨-, -, -, k3, -⟩ := hb7.cells
          clear hW7 hb7 g7 HW6 HWi
          go_wp2_with fail
          refine HWi7.out.mono ?_
          rintro e w8 ⟨rfl, g8⟩
          clear HWi7 k3
          have hb8 := HW7.out.2.1.keep g8
          have HW8 := hidJ (And.intro (gb_none HW7.out.1 g8) (And.intro hb8 (HW7.out.2.2.keep g8)))
          obtain ⟨k0, k1, k2, k3, k4⟩ := hb8.cells
          clear hb8 g8 HW7
          have HNd8 := hidJ (HNd.out w8 gx f' s' _ [] nw HW8.out.1 HW8.out.2.2 (RdLL.nil _) awI.2)
          have hn8 := needs_none HRm.out HOn.out
          rw [HTM.out, HNW.out, HNF.out] at hn8
          rw [hn8] at HNd8
          unfold nilV at HNd8
          clear hn8 HNd
          have HAw8 : Hid (∀ W, w8.grownBy W none → Calls Tryd.prog 19 #[] W fun e w' => e = .returned (.bool true) ∧ Hid (Below w.heap.size w w')) := fun W hW => (HAw.out W (gb_none HW8.out.1 hW)).mono fun e w' ⟨h1, h2⟩ => ⟨h1, gb_below (gb_none (gb_none HW8.out.1 hW) h2)⟩
          by_cases hmem : ms ∈ m.fir
          · have hmb : decide (ms ∈ m.fir) = true := decide_eq_true hmem
            rw [hmb]
            clear hmem hmb HY6
            go_wp2_with fail
            refine HNd8.out.mono ?_
            rintro e w9 ⟨rfl, g9⟩
            have hb9 := HW8.out.2.1.keep g9
            obtain ⟨-, -, -, i3, -⟩ := hb9.cells
            have HAw9 := hidJ (HAw8.out w9 g9)
            clear HNd8 k0 k1 k2 k3 k4 hb9 g9
            go_wp2_with fail
            refine HAw9.out.mono ?_
            rintro e w10 ⟨rfl, H10⟩
            clear HAw9
            go_wp2
            go_ret
            exact ⟨rfl, H10.out⟩
          · have hmb : decide (ms ∈ m.fir) = false := decide_eq_false hmem
            have hy := HY6.out hmem
            subst hy
            rw [hmb]
            clear hmem hmb HY6
            go_wp2_with fail
            refine HNd8.out.mono ?_
            rintro e w9 ⟨rfl, g9⟩
            have hb9 := HW8.out.2.1.keep g9
            obtain ⟨-, -, -, i3, -⟩ := hb9.cells
            have HAw9 := hidJ (HAw8.out w9 g9)
            clear HNd8 k0 k1 k2 k3 k4 hb9 g9
            go_wp2_with fail
            refine HAw9.out.mono ?_
            rintro e w10 ⟨rfl, H10⟩
            clear HAw9
            go_wp2
            go_ret
            exact ⟨rfl, H10.out⟩
        · have HAw4 := hidJ (HAw.out w4 H4.out.1)
          have HG4 := hidJ H4.out.1
          clear HAw hr4
          go_wp2_with fail
          refine HAw4.out.mono ?_
          rintro e w9 ⟨rfl, g9⟩
          have H9 := hidJ (gb_below (gb_none HG4.out g9))
          clear g9 HAw4
          go_wp2
          go_ret
          exact ⟨rfl, H9.out⟩
    · have hnfi : ¬ (0 : Int) < (nf : Int) := by omega
      have hnfb : decide (0 < nf) = false := decide_eq_false hnf0
      rw [hnfb]
      have HW3 : Hid (w.grownBy w3 none ∧ B5 w3 w.heap.size 24 (.string br) (.string bk) (.int .i64 tm) (.slice fa nf fc) (.slice sa ns sc) ∧ LgM w3 gx [(m, f', s')]) := HW3'.out
      clear HW3'
      have HSo2 : Hid (∀ C, Calls Tryd.prog 14 #[.slice (some ⟨w3.heap.size, 0, none⟩) 1 1] (w3.alloc (.cells #[.slice ma nms mc] 39)) fun e w' => SrtQ w ms (w3.alloc (.cells #[.slice ma nms mc] 39)) e w' ∧ (C : Nat) = C) := fun C => (HSo.out _ _ (gb_none HW3.out.1 (World.grownBy_alloc w3 _ none)) (Go.heap_alloc_new w3 _)).mono fun e w' h => ⟨h, rfl⟩
      clear HSo
      go_wp2_with fail
      refine (HSo2.out 0).mono ?_
      rintro e w4 ⟨hS4, -⟩
      clear HSo2
      rcases hS4 with ⟨a4, c4', hr4, rfl, H4⟩ | ⟨hr4, rfl, H4⟩
      · have hb4 := HW3.out.2.1.keep (gb_none (World.grownBy_alloc w3 (.cells #[.slice ma nms mc] 39) none) H4.out.2.2)
        have hL4 := HW3.out.2.2.keep (gb_none (World.grownBy_alloc w3 (.cells #[.slice ma nms mc] 39) none) H4.out.2.2)
        have HR4 := hidJ hr4
        clear hr4
        obtain ⟨-, -, -, k3, -⟩ := hb4.cells
        have HB4 := hidJ (And.intro hb4 hL4)
        clear hb4 hL4
        go_wp2_with fail
        refine (HLt2.out _ H4.out.2.1).mono ?_
        rintro e w5 ⟨v5, rfl, q1, q2⟩
        clear HLt2 k3
        have hz4 : w3.heap.size < w4.heap.size := by have := H4.out.2.2.size; simp at this; omega
        obtain ⟨vs4, o1, o2, o3⟩ := H4.out.1
        obtain ⟨a6, c6, w6, hrun, hrd6, hg6⟩ := app_sets (w := w5) (w1 := w4) (base := w4.heap.size) q1 q2.size (mss := [ms]) (lss := m.fir) (s := .slice a4 1 c4') (by have := right_len HRm.out; omega) (by simp) q2 (Nat.le_refl _) ⟨vs4, (o1.keep q2).rd, o2, fun j => (o3 j).rd⟩
        have hr46 := (H4.out.1.rd).keep hg6
        have hlen6 : (m.fir ++ [ms]).length = nf + 1 := by have := HNF.out; simp; omega
        rw [hlen6] at hrun hrd6
        have hb6 := HB4.out.1.keep hg6
        have hL6 := HB4.out.2.keep hg6
        have HW6 := hidJ (And.intro (gb_none H4.out.2.1 hg6) (And.intro hb6 (And.intro hL6 (And.intro hrd6 hr46))))
        obtain ⟨y6, hy6, hy6'⟩ := needs_more HRm.out HOn.out ms HR4.out
        rw [HTM.out, HNW.out] at hy6
        have HNd6 := hidJ (HNd.out w6 gx f' s' _ (m.fir ++ [ms]) nw HW6.out.1 hL6 hrd6 (LLIn_app HM.out.1.inF HM.out.2.2.1 (by have := right_len HRm.out; omega)))
        rw [hy6] at HNd6
        have HY6 := hidJ hy6'
        have HRun := hidJ hrun
        obtain ⟨a5, n5, c5, rfl⟩ : ∃ a n c, v5 = .slice a n c := by obtain ⟨a, c, e⟩ := q1.shape; exact ⟨_, _, _, e⟩
        clear q1 q2 hrun hrd6 hg6 hr46 hlen6 hL6 hy6 hy6' o1 o2 o3 hz4 HB4 H4
        obtain ⟨k0, k1, k2, k3, k4⟩ := hb6.cells
        clear hb6
        go_wp2_with (at_builtin; refine wp_appRun rfl _ _ 22 rfl _ _ _ rfl rfl HRun.out ?_)
        clear HRun
        refine HNd6.out.mono ?_
        rintro e w7 ⟨rfl, g7⟩
        clear HNd6 k0 k1 k2 k3 k4
        have hW7 := gb_none HW6.out.1 g7
        have HWi7 := hidJ (HWi.out w7 _ hW7 (HW6.out.2.2.2.2.keep g7))
        have hb7 := HW6.out.2.1.keep g7
        have HW7 := hidJ (And.intro hW7 (And.intro hb7 (HW6.out.2.2.1.keep g7)))
        obtain ⟨-, -, -, k3, -⟩ := hb7.cells
        clear hW7 hb7 g7 HW6 HWi
        go_wp2_with fail
        refine HWi7.out.mono ?_
        rintro e w8 ⟨rfl, g8⟩
        clear HWi7 k3
        have hb8 := HW7.out.2.1.keep g8
        have HW8 := hidJ (And.intro (gb_none HW7.out.1 g8) (And.intro hb8 (HW7.out.2.2.keep g8)))
        obtain ⟨k0, k1, k2, k3, k4⟩ := hb8.cells
        clear hb8 g8 HW7
        have HNd8 := hidJ (HNd.out w8 gx f' s' _ [] nw HW8.out.1 HW8.out.2.2 (RdLL.nil _) awI.2)
        have hn8 := needs_none HRm.out HOn.out
        rw [HTM.out, HNW.out, HNF.out] at hn8
        rw [hn8] at HNd8
        unfold nilV at HNd8
        clear hn8 HNd
        have HAw8 : Hid (∀ W, w8.grownBy W none → Calls Tryd.prog 19 #[] W fun e w' => e = .returned (.bool true) ∧ Hid (Below w.heap.size w w')) := fun W hW => (HAw.out W (gb_none HW8.out.1 hW)).mono fun e w' ⟨h1, h2⟩ => ⟨h1, gb_below (gb_none (gb_none HW8.out.1 hW) h2)⟩
        by_cases hmem : ms ∈ m.fir
        · have hmb : decide (ms ∈ m.fir) = true := decide_eq_true hmem
          rw [hmb]
          clear hmem hmb HY6
          go_wp2_with fail
          refine HNd8.out.mono ?_
          rintro e w9 ⟨rfl, g9⟩
          have hb9 := HW8.out.2.1.keep g9
          obtain ⟨-, -, -, i3, -⟩ := hb9.cells
          have HAw9 := hidJ (HAw8.out w9 g9)
          clear HNd8 k0 k1 k2 k3 k4 hb9 g9
          go_wp2_with fail
          refine HAw9.out.mono ?_
          rintro e w10 ⟨rfl, H10⟩
          clear HAw9
          go_wp2
          go_ret
          exact ⟨rfl, H10.out⟩
        · have hmb : decide (ms ∈ m.fir) = false := decide_eq_false hmem
          have hy := HY6.out hmem
          subst hy
          rw [hmb]
          clear hmem hmb HY6
          go_wp2_with fail
          refine HNd8.out.mono ?_
          rintro e w9 ⟨rfl, g9⟩
          have hb9 := HW8.out.2.1.keep g9
          obtain ⟨-, -, -, i3, -⟩ := hb9.cells
          have HAw9 := hidJ (HAw8.out w9 g9)
          clear HNd8 k0 k1 k2 k3 k4 hb9 g9
          go_wp2_with fail
          refine HAw9.out.mono ?_
          rintro e w10 ⟨rfl, H10⟩
          clear HAw9
          go_wp2
          go_ret
          exact ⟨rfl, H10.out⟩
      · have HAw4 := hidJ (HAw.out w4 H4.out.1)
        have HG4 := hidJ H4.out.1
        clear HAw hr4
        go_wp2_with fail
        refine HAw4.out.mono ?_
        rintro e w9 ⟨rfl, g9⟩
        have H9 := hidJ (gb_below (gb_none HG4.out g9))
        clear g9 HAw4
        go_wp2
        go_ret
        exact ⟨rfl, H9.out⟩
  · have h0b : (R == 0) = false := by rw [beq_eq_false_iff_ne]; exact hR0
    have HL2 := hidJ (HW1.out.2.2.1.keep (H2.out.2 hR0))
    clear H2
    go_wp2_with fail
    refine (HLn.out _ gx HL2.out).mono ?_
    rintro e w3 ⟨rfl, h3⟩
    have h3 := h3.symm
    subst h3
    clear HLn
    go_wp2_with fail
    refine (HAw.out _ HW2.out.1).mono ?_
    rintro e w9 ⟨rfl, g9⟩
    have H9 := hidJ (gb_below (gb_none HW2.out.1 g9))
    clear g9 HAw
    go_wp2
    go_ret
    exact ⟨rfl, H9.out⟩
end Go.Proofs.YtbnieljkadcaoaaDoor
