/-
  Ald, Ale, in one text.
-/
import Derived.Test.YtmgbcmogdjhacaaDoorVA
import Derived.BigQuiet
/- Ald -/
namespace Go.Proofs.YtmgbcmogdjhacaaDoor
open Go.RowKit Go.Shelf Go.Sort Go.Maps Go.WideMaps

set_option maxRecDepth 8000 in
set_option maxHeartbeats 12800000 in
theorem all_any (w : World) (S : Nat → Prop) (gx : Nat) (R most : Int) (M : List AlR) (gm : Nat) (D : DataW Unit) (hv : List LbT → Value) (h : PrjA w S gx R most M gm D hv) (hS : ∀ k, S k → k < w.heap.size) :
    Calls Tryd.prog 10 #[.pointer (some ⟨gx, 0, none⟩)] w fun e w' => ∃ c v, e = .returned (.func (.func 25) #[] #[.pointer (some ⟨c, 0, none⟩)]) ∧ w.heap.size ≤ c ∧ Boxed w' c 38 v ∧ OwnX w' w.heap.size v (xsM hv M) ∧ w.grownBy w' none := by
  have HD := hidJ h
  have HSS := hidJ hS
  have hlenI := h.ok.2.2.2
  obtain ⟨N, hN⟩ : ∃ N, N = M.length := ⟨_, rfl⟩
  have hmost : N ≤ 500 := by omega
  have HN : Hid (M.length = N) := hN.symm
  have k1 := World.grownBy_alloc w (.cells #[.slice none 0 0] 38) none
  have HK : Hid (Calls Tryd.prog 23 #[.map (some gm), .func (.func 24) #[] #[]] (w.alloc (.cells #[.slice none 0 0] 38)) fun e w' => ∃ g c, e = .returned (.slice (some ⟨g, 0, none⟩) N c) ∧ Hid (AllJ w hv M g N c 0 w')) := by
    refine (keys_any _ S gx R most M gm D hv (h.keep k1) (fun k hk => by have := hS k hk; simp; omega)).mono ?_
    rintro e w' ⟨g, c, rfl, q1, q2⟩
    rw [World.size_alloc] at q1
    rw [← hN] at q1 ⊢
    exact ⟨g, c, rfl, gb_none k1 q2, q1, _, (Boxed.new w 38 (.slice none 0 0)).kept q2 (by simp), OwnX.nil _ _⟩
  have c2 : ∀ C, (w.alloc C).cell? ⟨gx, 2, none⟩ = some (.map (some gm)) := fun C => (h.keep (World.grownBy_alloc w C none)).cells.2.2
  have hlx := some_lt h.box
  clear h hN hS hlenI k1
  go_enter Tryd.func10, Tryd.ntmps10
  go_wp2_with fail
  refine HK.out.mono ?_
  rintro e w1 ⟨g, c, rfl, H1⟩
  clear HK c2
  go_wp2_with fail
  go_loopw [14] (fun i wr => ∃ z : Nat, z ≤ N ∧ i = .int .i64 z ∧ Hid (AllJ w hv M g N c z wr)) (fun i _ => N - (intOf i).toNat)
  case atStart => exact ⟨0, by omega, rfl, H1.out⟩
  case round =>
    obtain ⟨z, hzN, rfl, HJ⟩ := hrel
    by_cases hzl : z < N
    · have hzi : (z : Int) < (N : Int) := by omega
      have hzM : z < M.length := by rw [HN.out]; exact hzl
      have hmem := getA_mem hzM
      have HP := hidJ (HD.out.keep HJ.out.old)
      have lk := HP.out.lookE hmem
      have lk2 := (HP.out.keep (gb_drew _ none)).lookE hmem
      have lk3 := fun C => (HP.out.keep (World.grownBy_alloc wr C none)).lookE hmem
      have lk4 := fun C => (HP.out.keep (gb_none (World.grownBy_alloc wr C none) (gb_drew _ none))).lookE hmem
      have ck := HJ.out.keys.cell hzM
      have hek : encK M (M.getD z alZ) = .string (ByteArray.mk ⟨keyB (M.getD z alZ).lbs⟩) := by unfold encK; rw [lbK_mem HD.out.ok.1 hmem]
      rw [hek] at ck
      have cx := HP.out.cells.2.2
      obtain ⟨v, hbx, hox⟩ := HJ.out.row
      obtain ⟨av, cv, rfl⟩ := hox.shape
      have htl : ((xsM hv M).take z).length = z := by rw [List.length_take, xsM_len]; omega
      rw [htl] at hbx hox
      have hcl := hbx.cell
      have hfz := hbx.frozen
      obtain ⟨ua, un, uc, hua⟩ : ∃ a n c, hv (M.getD z alZ).lbs = .slice a n c := by obtain ⟨⟨a, c, e, _⟩, _⟩ := HD.out.each _ hmem; exact ⟨_, _, _, e⟩
      have HPU : Hid (∀ X : World, wr.grownBy X none → X.heap = (wr.alloc (.cells #[.slice ua un uc, .int .i64 (M.getD z alZ).st, .int .i64 (M.getD z alZ).en] 34)).heap → ∃ a2 c2 W2, (Builtin.append_ #[38, 38] 38 #[.slice av z cv, .slice (some ⟨wr.heap.size, 0, none⟩) 1 1]).run Tryd.prog X = .ok (.slice a2 (z + 1) c2) W2 ∧ (W2.cell? ⟨w.heap.size, 0, none⟩ = some (.slice av z cv) ∧ W2.frozen? ⟨w.heap.size, 0, none⟩ = false ∧ W2.cell? ⟨gx, 2, none⟩ = some (.map (some gm)) ∧ Hid (AllJ w hv M g N c (z + 1) (W2.setCell ⟨w.heap.size, 0, none⟩ (.slice a2 (z + 1) c2))))) := fun X hX hh => by
        have hws := HJ.out.old.size
        have hbl := hbx.lt
        have hpush := OwnX.push (W := wr) (X := X) (base := w.heap.size + 1) hox (hv (M.getD z alZ).lbs, M.getD z alZ) (by rw [hua]; rfl) (by omega) (by omega) hX (by rw [hh]; show _ = (wr.alloc (.cells #[hv (M.getD z alZ).lbs, .int .i64 (M.getD z alZ).st, .int .i64 (M.getD z alZ).en] 34)).heap; rw [hua])
        rw [htl] at hpush
        obtain ⟨a2, c2, W2, q1, q2, q3⟩ := hpush
        have hvb := hox.lt
        have hne := HJ.out.ne (v := .slice av z cv) hox
        have hW : w.grownBy W2 none := gb_new (gb_none HJ.out.old hX) q3.1 (fun k hk => by have := (hvb k hk).1; omega)
        have hX2 : Ch wr W2 (fun k => (Value.slice av z cv).ownBlock = some k) := (Ch.of_gb (S := fun k => (Value.slice av z cv).ownBlock = some k) hX (fun k hk => by cases hk)).trans (Ch.of_gb (S := fun k => (Value.slice av z cv).ownBlock = some k) q3.1 (fun k hk _ => hk)) (fun _ _ e => e)
        have nb : ¬ (Value.slice av z cv).ownBlock = some w.heap.size := fun e => by have := (hvb _ e).1; omega
        have hb2 := bxch hbx hX2 nb
        have hgx2 : W2.cell? ⟨gx, 2, none⟩ = some (.map (some gm)) := (HD.out.keep hW).cells.2.2
        refine ⟨a2, c2, W2, q1, hb2.cell, hb2.frozen, hgx2, gb_ch hW (set_ch _ _ _ _) (fun k e => by omega), ?_, .slice a2 (z + 1) c2, hb2.set _, ?_⟩
        · have := row_ch HJ.out.keys hX2 (fun k hk e => by simp only [Value.ownBlock, Option.some.injEq] at hk; subst hk; exact hne e)
          exact row_ch this (set_ch _ _ _ _) (fun k hk e => by have := (World.ownsRow.lt this k hk).1; omega)
        · rw [xsM_take hzM]
          exact row_ch q2 (set_ch _ _ _ _) (fun k hk e => by have := (World.ownsRow.lt q2 k hk).1; omega)
      have hclA : ∀ C, (wr.alloc C).cell? ⟨w.heap.size, 0, none⟩ = some (.slice av z cv) := fun C => (World.cell?_of_block ((World.grownBy_alloc wr C none).block _ (block_lt hcl) (by simp))).trans hcl
      have cxA : ∀ C, (wr.alloc C).cell? ⟨gx, 2, none⟩ = some (.map (some gm)) := fun C => (World.cell?_of_block ((World.grownBy_alloc wr C none).block _ (block_lt cx) (by simp))).trans cx
      unfold alV at lk lk2 lk3 lk4
      rw [hua] at lk lk2 lk3 lk4
      clear HJ HP hbx hox htl hek hmem hzM hua
      generalize (M.getD z alZ).st = vs at *
      generalize (M.getD z alZ).en = ve at *
      generalize ByteArray.mk ⟨keyB (M.getD z alZ).lbs⟩ = KS at *
      go_wp2_with fail
      go_region_law
        (first
          | (refine step_appRun rfl (.tmp 18) (.tmp 25) 38 rfl _ _ (by simp [Act.eval]) (by simp [Act.eval]) (z + 1) (fun a2 c2 W2 => W2.cell? ⟨w.heap.size, 0, none⟩ = some (.slice av z cv) ∧ W2.frozen? ⟨w.heap.size, 0, none⟩ = false ∧ W2.cell? ⟨gx, 2, none⟩ = some (.map (some gm)) ∧ Hid (AllJ w hv M g N c (z + 1) (W2.setCell ⟨w.heap.size, 0, none⟩ (.slice a2 (z + 1) c2)))) (HPU.out _ (by first | exact gb_none (World.grownBy_alloc _ _ none) (gb_drew _ none) | exact World.grownBy_alloc _ _ none | exact gb_none (gb_drew _ none) (World.grownBy_alloc _ _ none)) rfl) ?_; rintro a5 c5 w5 ⟨y1, y2, y3, H5⟩))
      all_goals
        clear HPU y1 y2 y3 lk lk2 lk3 lk4 hcl cx hclA cxA hfz
        go_wp2_with fail
        go_roundw
        case rel => exact ⟨z + 1, by omega, by go_num, H5⟩
        case measure => simp [intOf]; omega
    · have hzi : ¬ (z : Int) < (N : Int) := by omega
      have HF : Hid (∃ v, Boxed wr w.heap.size 38 v ∧ OwnX wr w.heap.size v (xsM hv M) ∧ w.grownBy wr none) := by
        obtain ⟨v, q1, q2⟩ := HJ.out.row
        rw [List.take_of_length_le (by rw [xsM_len, HN.out]; omega)] at q2
        exact ⟨v, q1, q2.mono (by omega), HJ.out.old⟩
      clear HJ HD HSS H1
      go_wp2
      go_ret
      obtain ⟨v, q1, q2, q3⟩ := HF.out
      first | exact ⟨w.heap.size, rfl, Nat.le_refl _, v, q1, q2, q3⟩ | exact ⟨w.heap.size, v, rfl, Nat.le_refl _, q1, q2, q3⟩
set_option maxHeartbeats 1600000 in
theorem all_nil (w : World) : Calls Tryd.prog 10 #[.pointer none] w fun e w' => ∃ c v, e = .returned (.func (.func 25) #[] #[.pointer (some ⟨c, 0, none⟩)]) ∧ w.heap.size ≤ c ∧ Boxed w' c 38 v ∧ OwnX w' w.heap.size v [] ∧ w.grownBy w' none := by
  go_enter Tryd.func10, Tryd.ntmps10
  go_wp2
  go_ret
  exact ⟨w.heap.size, .slice none 0 0, rfl, Nat.le_refl _, Boxed.new w _ _, OwnX.nil _ _, World.grownBy_alloc _ _ none⟩
end Go.Proofs.YtmgbcmogdjhacaaDoor

/- Ale -/
namespace Go.Proofs.YtmgbcmogdjhacaaDoor
open Go.RowKit Go.Shelf Go.Sort Go.Maps Go.WideMaps

attribute [local go_sem] Oper.semAt_some

/-- All's function between two rounds -/
structure ItJ (W : World) (hv : List LbT → Value) (M : List AlR) (v : Value) (J : List AlX → World → Prop) (z : Nat) (wr : World) : Prop where
  size : W.heap.size ≤ wr.heap.size
  row : OwnX wr 0 v (xsM hv M)
  lab : ∀ a ∈ M, RdL wr (hv a.lbs) a.lbs
  out : ∃ l, l.map (·.2) = M.take z ∧ J l wr

set_option maxRecDepth 100000 in
set_option maxHeartbeats 6400000 in
theorem iter_any (n : Nat) (hn : 2 ≤ n) (lp c : Nat) (v : Value) (hv : List LbT → Value) (M : List AlR) (W : World) (T : Nat → Prop) (hc : W.cell? ⟨c, 0, none⟩ = some v) (hrow : OwnX W 0 v (xsM hv M)) (hlab : ∀ a ∈ M, RdL W (hv a.lbs) a.lbs) (hlen : ∀ a ∈ M, a.lbs.length ≤ 16) (hM : M.length ≤ 500)
    (hT1 : ∀ k, v.ownBlock = some k → ¬ T k) (hT2 : ∀ a ∈ M, ∀ k, (hv a.lbs).ownBlock = some k → ¬ T k) (hT3 : ∀ a ∈ M, ∀ k, (hv a.lbs).ownBlock = some k → k < W.heap.size)
    (J : List AlX → World → Prop) (Jx : World → Prop)
    (hJ : ∀ l W1 W2, J l W1 → W1.grownBy W2 none → J l W2)
    (h0 : J [] W)
    (hY : ∀ l a r W0 W1 u, J l W0 → W0.grownBy W1 none → W.heap.size ≤ W0.heap.size → M = l.map (·.2) ++ a :: r → OwnL W1 W0.heap.size u a.lbs → YieldAt Fence.wide (n - 1) Tryd.prog lp #[alV u a.st a.en] W1 fun e W' => ((e = .returned (.bool true) ∧ J (l ++ [(u, a)]) W') ∨ (e = .returned (.bool false) ∧ Jx W')) ∧ Ch W1 W' (fun k => T k ∨ W.heap.size ≤ k)) :
    CallsIn Fence.wide n Tryd.prog 25 (#[.func (.yield lp) #[] #[]] ++ #[.pointer (some ⟨c, 0, none⟩)]) W fun e W' => (∃ x, e = .returned x) ∧ ((∃ l, l.map (·.2) = M ∧ J l W') ∨ Jx W') := by
  have HJs := hidJ hJ
  have HY := hidJ hY
  have HT := hidJ (And.intro hT1 (And.intro hT2 (And.intro hT3 hlen)))
  have HT0 := hidJ (fun k (hk : v.ownBlock = some k) => (hrow.lt k hk).2)
  have H0 : Hid (ItJ W hv M v J 0 W) := ⟨Nat.le_refl _, hrow, hlab, [], rfl, h0⟩
  obtain ⟨a, cc, rfl⟩ := hrow.shape
  obtain ⟨N, hN⟩ : ∃ N, M.length = N := ⟨_, rfl⟩
  have HN := hidJ hN
  rw [xsM_len, hN] at hc H0 HT HT0
  have hN5 : N ≤ 500 := by omega
  clear hJ h0 hY hT1 hT2 hT3 hrow hlab hlen hM hN
  have hn1 : 1 ≤ n := by omega
  refine callsIn_of_wp Tryd.func25 rfl trivial ?_ rfl
  simp only [Tryd.ntmps25, List.size_toArray, List.length_cons, List.length_nil, Nat.reduceAdd, Nat.reduceSub, Array.replicate_succ, Array.replicate_zero, List.push_toArray, List.append_toArray, List.nil_append, List.cons_append]
  gi_wp2
  clear hc
  gi_loopw [7] (fun i wr => ∃ z : Nat, i = .int .i64 z ∧ z ≤ N ∧ Hid (ItJ W hv M (.slice a N cc) J z wr)) (fun i _ => N - (intOf i).toNat)
  case atStart => exact ⟨0, rfl, by omega, H0.out⟩
  case round =>
    obtain ⟨z, rfl, hzN, HI⟩ := hrel
    by_cases hzl : z < N
    · have hzi : (z : Int) < (N : Int) := by omega
      have hzM : z < M.length := by rw [HN.out]; exact hzl
      have hmem := getA_mem hzM
      have hzX : z < (xsM hv M).length := by rw [xsM_len]; exact hzM
      obtain ⟨g, c', he, -, d0, d1, d2⟩ := HI.out.row.cells hzX
      have hge : (xsM hv M).getD z xZ = (hv (M.getD z alZ).lbs, M.getD z alZ) := by simp [xsM, List.getD, hzM]
      rw [hge] at d0 d1 d2
      dsimp only at d0 d1 d2
      simp only [Value.slice.injEq] at he
      obtain ⟨rfl, -, rfl⟩ := he
      obtain ⟨ua, un, uc, hua⟩ : ∃ a n c, hv (M.getD z alZ).lbs = .slice a n c := by obtain ⟨a, c, e, _⟩ := HI.out.lab _ hmem; exact ⟨_, _, _, e⟩
      have HCo : Hid (∀ C, Calls Tryd.prog 26 #[.agg #[.slice ua un uc, .int .i64 (M.getD z alZ).st, .int .i64 (M.getD z alZ).en]] (wr.alloc C) fun e w' => ∃ a' n' c', e = .returned (.agg #[.slice a' n' c', .int .i64 (M.getD z alZ).st, .int .i64 (M.getD z alZ).en]) ∧ Hid (OwnL w' wr.heap.size (.slice a' n' c') (M.getD z alZ).lbs ∧ wr.grownBy w' none)) := by
        intro C
        have k := World.grownBy_alloc wr C none
        have hrd := (HI.out.lab _ hmem).keep k
        have hl := HT.out.2.2.2 _ hmem
        rw [hua] at hrd
        refine (copyOf_any (wr.alloc C) (.slice ua un uc) (M.getD z alZ).lbs _ _ hrd (by omega)).mono ?_
        rintro e w' ⟨v', rfl, q1, q2⟩
        obtain ⟨a', c', e'⟩ := q1.shape
        subst e'
        exact ⟨a', _, c', rfl, q1.mono (by simp), gb_none k q2⟩
      rw [hua] at d0
      have hdrop : M = M.take z ++ M.getD z alZ :: M.drop (z + 1) := by
        have : M.getD z alZ = M[z] := by simp [List.getD, hzM]
        rw [this, List.getElem_cons_drop, List.take_append_drop]
      have HDr := hidJ hdrop
      clear hge hzX hdrop
      generalize hst : (M.getD z alZ).st = st at *
      generalize hen : (M.getD z alZ).en = en at *
      have HSE := hidJ (And.intro hst hen)
      clear hst hen
      gi_wp2_with fail
      refine ⟨trivial, ?_⟩
      gi_at_call 26
      refine (callsIn_wide.2 (HCo.out _)).mono ?_
      rintro e w1 ⟨a1, n1, c1, rfl, H1⟩
      clear HCo
      obtain ⟨l, hl1, hl2⟩ := HI.out.out
      have HYa := HY.out l (M.getD z alZ) (M.drop (z + 1)) wr w1 (.slice a1 n1 c1) hl2 H1.out.2 HI.out.size (by rw [hl1]; exact HDr.out) H1.out.1
      unfold alV at HYa
      rw [HSE.out.1, HSE.out.2] at HYa
      obtain ⟨fn, tmps, assign, body, hy, hR⟩ := HYa
      have HL := hidJ hl1
      clear hl1 hl2 d0 d1 d2
      gi_wp2
      refine hR.mono ?_
      rintro e W6 ⟨hq, hc6⟩
      have H6 : Hid (W.heap.size ≤ W6.heap.size ∧ OwnX W6 0 (.slice (some ⟨g, 0, none⟩) N cc) (xsM hv M) ∧ ∀ a ∈ M, RdL W6 (hv a.lbs) a.lbs) := by
        have hs1 := H1.out.2.size
        have hs6 := hc6.size
        have hWs := HI.out.size
        have hr1 := HI.out.row.keep H1.out.2
        refine ⟨by omega, row_ch hr1 hc6 (fun k hk e => ?_), fun b hb => ((HI.out.lab b hb).keep H1.out.2).ch hc6 (fun k hk _ e => ?_)⟩
        · rcases e with e | e
          · exact HT.out.1 k hk e
          · have := HT0.out k hk
            omega
        · rcases e with e | e
          · exact HT.out.2.1 b hb k hk e
          · have := HT.out.2.2.1 b hb k hk
            omega
      clear hc6 hy hR
      rcases hq with ⟨rfl, hj6⟩ | ⟨rfl, hx6⟩
      · have H7 : Hid (ItJ W hv M (.slice (some ⟨g, 0, none⟩) N cc) J (z + 1) W6) := by
          refine ⟨H6.out.1, H6.out.2.1, H6.out.2.2, _, ?_, hj6⟩
          rw [List.map_append, HL.out]
          have hzM : z < M.length := by rw [HN.out]; exact hzl
          rw [List.take_succ_eq_append_getElem hzM]
          simp [List.getD, hzM]
        clear hj6 H6 HI
        gi_wp2
        go_roundw
        case rel => exact ⟨z + 1, by go_num, by omega, H7⟩
        case measure => simp [intOf]; omega
      · have HX := hidJ hx6
        clear hx6 H6 HI
        gi_wp2
        refine bodyPost_ret (results_none rfl _ _ _) rfl ?_
        exact ⟨⟨_, rfl⟩, .inr HX.out⟩
    · have hzi : ¬ (z : Int) < (N : Int) := by omega
      have HF : Hid (∃ l, l.map (·.2) = M ∧ J l wr) := by
        obtain ⟨l, q1, q2⟩ := HI.out.out
        rw [List.take_of_length_le (by rw [HN.out]; omega)] at q1
        exact ⟨l, q1, q2⟩
      clear HI HY HJs HT
      gi_wp2
      first
        | (refine bodyPost_ret (results_none rfl _ _ _) rfl ?_
           exact ⟨⟨_, rfl⟩, .inl HF.out⟩)
        | (go_end0
           exact ⟨⟨_, rfl⟩, .inl HF.out⟩)
end Go.Proofs.YtmgbcmogdjhacaaDoor
