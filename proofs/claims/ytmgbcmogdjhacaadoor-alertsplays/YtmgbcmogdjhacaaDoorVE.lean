/-
  AlS, Alt, Alw, AlQ, in one text.
-/
import Derived.Test.YtmgbcmogdjhacaaDoorVD
import Derived.Deep.RegionHeld3
import Derived.Deep.QuietTactic
/- AlS -/
namespace Go.Proofs.YtmgbcmogdjhacaaDoor
open Go.RowKit Go.Shelf Go.Sort Go.Maps Go.WideMaps

set_option maxHeartbeats 1600000 in
theorem refSameL_any (w : World) (v u : Value) (ls ms : List LbT) (hv : RdL w v ls) (hu : RdL w u ms) :
    Calls Tryd.prog 19 #[v, u] w fun e w' => e = .returned (.bool (decide (ls = ms))) ∧ w.grownBy w' none := by
  have HC := hidJ (refCompare_any w v u ls ms hv hu)
  have HB : (cmpLs ls ms == 0) = decide (ls = ms) := by
    by_cases h : ls = ms
    · rw [decide_eq_true h, (cmpLs_zero ls ms).2 h]
      rfl
    · rw [decide_eq_false h, beq_eq_false_iff_ne]
      exact fun e => h ((cmpLs_zero ls ms).1 e)
  rw [← HB]
  obtain ⟨a, c, rfl⟩ : ∃ a c, v = .slice a ls.length c := by obtain ⟨a, c, h, _⟩ := hv; exact ⟨a, c, h⟩
  obtain ⟨a', c', rfl⟩ : ∃ a c, u = .slice a ms.length c := by obtain ⟨a, c, h, _⟩ := hu; exact ⟨a, c, h⟩
  clear hv hu HB
  generalize cmpLs ls ms = r at *
  go_enter Tryd.func19, Tryd.ntmps19
  go_wp2_with fail
  refine HC.out.mono ?_
  rintro e w1 ⟨rfl, hg⟩
  have H1 := hidJ hg
  clear HC hg
  go_wp2
  go_ret
  exact ⟨rfl, H1.out⟩
/-- the value is a slice that reads as these alerts -/
def RdX (w : World) (v : Value) (M : List AlR) : Prop :=
  ∃ a c, v = .slice a M.length c ∧ M.length ≤ c ∧ c ≤ maxLen ∧ ∀ j, j < M.length → ∃ b o u, a = some ⟨b, o, none⟩ ∧ w.cell? ⟨b, o + j * 3, none⟩ = some u ∧ w.cell? ⟨b, o + j * 3 + 1, none⟩ = some (.int .i64 (M.getD j alZ).st) ∧ w.cell? ⟨b, o + j * 3 + 2, none⟩ = some (.int .i64 (M.getD j alZ).en) ∧ RdL w u (M.getD j alZ).lbs
theorem RdX.keep {w w' : World} {v : Value} {M : List AlR} (h : RdX w v M) (hg : w.grownBy w' none) : RdX w' v M := by
  obtain ⟨a, c, h1, h2, h3, h4⟩ := h
  refine ⟨a, c, h1, h2, h3, fun j hj => ?_⟩
  obtain ⟨b, o, u, e, c0, c1, c2, hl⟩ := h4 j hj
  exact ⟨b, o, u, e, cell_keep c0 hg, cell_keep c1 hg, cell_keep c2 hg, hl.keep hg⟩
theorem OwnX.rdx {w : World} {base : Nat} {v : Value} {l : List AlX} {M : List AlR} (h : OwnX w base v l) (hm : l.map (·.2) = M) (hl : ∀ x ∈ l, RdL w x.1 x.2.lbs) : RdX w v M := by
  have hlen := len_of_map hm
  obtain ⟨a, c, rfl⟩ := h.shape
  have hgd : ∀ j, j < l.length → M.getD j alZ = (l.getD j xZ).2 := fun j hj => by
    rw [← hm]
    simp [List.getD, hj]
  have hcm : l.length ≤ c ∧ c ≤ maxLen := by
    rcases h.2 with ⟨e, hn⟩ | ⟨g, cap, cur, e, _, _, h1, h2, _⟩
    · simp only [Value.slice.injEq] at e
      unfold maxLen
      omega
    · simp only [Value.slice.injEq] at e
      rw [e.2.2]
      exact ⟨h1, h2⟩
  refine ⟨a, c, by rw [hlen], by omega, hcm.2, fun j hj => ?_⟩
  obtain ⟨g, c', e, -, d0, d1, d2⟩ := h.cells (j := j) (by omega)
  simp only [Value.slice.injEq] at e
  obtain ⟨rfl, -, rfl⟩ := e
  have hmem : l.getD j xZ ∈ l := by simp [List.getD, show j < l.length by omega]
  rw [hgd j (by omega)]
  exact ⟨g, 0, (l.getD j xZ).1, rfl, by simpa using d0, by simpa using d1, by simpa using d2, hl _ hmem⟩
set_option maxRecDepth 8000 in
set_option maxHeartbeats 6400000 in
/-- Same of two like lists -/
theorem refSameA_any (w : World) (v u : Value) (M : List AlR) (hv : RdX w v M) (hu : RdX w u M) :
    Calls Tryd.prog 13 #[v, u] w fun e w' => e = .returned (.bool true) ∧ w.grownBy w' none := by
  have HV := hidJ (And.intro hv hu)
  obtain ⟨a, c, rfl, hc1, hc2, -⟩ := hv
  obtain ⟨b, d, rfl, hd1, hd2, -⟩ := hu
  unfold maxLen at hc2 hd2
  obtain ⟨N, hN⟩ : ∃ N, M.length = N := ⟨_, rfl⟩
  have HN := hidJ hN
  rw [hN] at HV hc1 hd1 ⊢
  clear hN
  go_enter Tryd.func13, Tryd.ntmps13
  go_wp2
  go_loopw [5] (fun i wr => ∃ z : Nat, z ≤ N ∧ i = .int .i64 z ∧ Hid (w.grownBy wr none)) (fun i _ => N - (intOf i).toNat)
  case atStart => exact ⟨0, by omega, rfl, gb_refl _ _⟩
  case round =>
    obtain ⟨z, hzN, rfl, HG⟩ := hrel
    by_cases hzl : z < N
    · have hzi : (z : Int) < (N : Int) := by omega
      obtain ⟨a', c', e1, -, -, k1⟩ := HV.out.1.keep HG.out
      obtain ⟨b', d', e2, -, -, k2⟩ := HV.out.2.keep HG.out
      simp only [Value.slice.injEq] at e1 e2
      obtain ⟨rfl, -, rfl⟩ := e1
      obtain ⟨rfl, -, rfl⟩ := e2
      obtain ⟨b1, o1, u1, rfl, c0, c1, c2, r1⟩ := k1 z (by rw [HN.out]; exact hzl)
      obtain ⟨b2, o2, u2, rfl, d0, d1, d2, r2⟩ := k2 z (by rw [HN.out]; exact hzl)
      obtain ⟨x1, x2, x3, hx⟩ : ∃ a n c, u1 = .slice a n c := by obtain ⟨a, c, h, _⟩ := r1; exact ⟨_, _, _, h⟩
      obtain ⟨y1, y2, y3, hy⟩ : ∃ a n c, u2 = .slice a n c := by obtain ⟨a, c, h, _⟩ := r2; exact ⟨_, _, _, h⟩
      subst hx hy
      have HC : Hid (∀ W, wr.grownBy W none → Calls Tryd.prog 19 #[.slice x1 x2 x3, .slice y1 y2 y3] W fun e w' => e = .returned (.bool true) ∧ w'.cell? ⟨b1, o1 + z * 3, none⟩ = some (.slice x1 x2 x3) ∧ w'.cell? ⟨b2, o2 + z * 3, none⟩ = some (.slice y1 y2 y3) ∧ w'.cell? ⟨b1, o1 + z * 3 + 1, none⟩ = some (.int .i64 (M.getD z alZ).st) ∧ w'.cell? ⟨b2, o2 + z * 3 + 1, none⟩ = some (.int .i64 (M.getD z alZ).st) ∧ w'.cell? ⟨b1, o1 + z * 3 + 2, none⟩ = some (.int .i64 (M.getD z alZ).en) ∧ w'.cell? ⟨b2, o2 + z * 3 + 2, none⟩ = some (.int .i64 (M.getD z alZ).en) ∧ Hid (w.grownBy w' none)) := fun W hW => by
        refine (refSameL_any W _ _ _ _ (r1.keep hW) (r2.keep hW)).mono ?_
        rintro e w' ⟨rfl, q⟩
        have g := gb_none hW q
        exact ⟨by rw [decide_eq_true rfl], cell_keep c0 g, cell_keep d0 g, cell_keep c1 g, cell_keep d1 g, cell_keep c2 g, cell_keep d2 g, gb_none HG.out g⟩
      clear k1 k2 r1 r2
      generalize (M.getD z alZ).st = s at *
      generalize (M.getD z alZ).en = e at *
      go_wp2_with fail
      go_region_held3 (fun w' => w'.cell? ⟨b1, o1 + z * 3, none⟩ = some (.slice x1 x2 x3) ∧ w'.cell? ⟨b2, o2 + z * 3, none⟩ = some (.slice y1 y2 y3) ∧ w'.cell? ⟨b1, o1 + z * 3 + 1, none⟩ = some (.int .i64 s) ∧ w'.cell? ⟨b2, o2 + z * 3 + 1, none⟩ = some (.int .i64 s) ∧ w'.cell? ⟨b1, o1 + z * 3 + 2, none⟩ = some (.int .i64 e) ∧ w'.cell? ⟨b2, o2 + z * 3 + 2, none⟩ = some (.int .i64 e)) (go_keep)
        (first | (go_at_call 19; with_reducible refine (HC.out _ ?_).mono ?_; (first | exact gb_refl _ _ | exact gb_drew _ none); rintro e w1 ⟨rfl, g0, g1, g2, g3, g4, g5, H1⟩))
      all_goals
        go_wp2
        go_roundw
        case rel => first | exact ⟨z + 1, by omega, by go_num, H1⟩ | exact ⟨z + 1, by omega, by go_num, gb_none H1.out (gb_drew _ none)⟩
        case measure => simp [intOf]; omega
    · have hzi : ¬ (z : Int) < (N : Int) := by omega
      go_wp2
      go_ret
      exact ⟨rfl, HG.out⟩
end Go.Proofs.YtmgbcmogdjhacaaDoor

/- Alt -/
namespace Go.Proofs.YtmgbcmogdjhacaaDoor
open Go.RowKit Go.Shelf Go.Sort Go.Maps Go.WideMaps

theorem filter_two (M : List AlR) (x : List LbT) : (M.filter fun a => decide (a.lbs ≠ x)).length + (M.filter fun b => decide (b.lbs = x)).length = M.length := by
  induction M with
  | nil => rfl
  | cons a t ih =>
    simp only [ne_eq] at ih
    by_cases e : a.lbs = x
    · simp only [List.filter_cons, e, ne_eq, not_true, decide_false, decide_true, Bool.false_eq_true, if_false, if_true, List.length_cons]
      omega
    · simp only [List.filter_cons, e, ne_eq, not_false_eq_true, decide_false, decide_true, Bool.false_eq_true, if_false, if_true, List.length_cons]
      omega
theorem filter_ne_one {M : List AlR} (h : riseA M) {o : AlR} (ho : o ∈ M) : (M.filter fun a => decide (a.lbs ≠ o.lbs)).length + 1 = M.length := by
  have h1 := filter_one h ho
  have h2 := filter_two M o.lbs
  omega
/-- what a map of alerts reads as -/
structure MpA (D : DataW Unit) (M : List AlR) (hv : List LbT → Value) : Prop where
  size : Maps.size D = M.length
  has : ∀ k, Maps.has D (.string k) = M.any (fun a => decide (keyB a.lbs = k))
  atK : ∀ a ∈ M, ∀ zd, D.atKey (.string (keyB a.lbs)) zd = alD (hv a.lbs) a.st a.en
theorem MpA.del {D : DataW Unit} {M : List AlR} {hv : List LbT → Value} (h : MpA D M hv) (hM : riseA M) (hT : Tidy D) {o : AlR} (ho : o ∈ M) : MpA (D.del (.string (keyB o.lbs))) (M.filter fun a => decide (a.lbs ≠ o.lbs)) hv where
  size := by
    have h1 := size_del (k := .string (keyB o.lbs)) hT
    have h2 : Maps.has D (.string (keyB o.lbs)) = true := by rw [h.has, List.any_eq_true]; exact ⟨o, ho, by simp⟩
    rw [h2, h.size] at h1
    have h3 := filter_ne_one hM ho
    simp only [if_true] at h1
    omega
  has := fun k => by
    by_cases hk : k = keyB o.lbs
    · subst hk
      rw [has_del_same]
      symm
      rw [List.any_eq_false]
      intro a ha
      have := (List.mem_filter.1 ha).2
      simp only [decide_eq_true_eq] at this
      simpa using fun e => this (keyB_inj e)
    · rw [has_del_other (litS_ne hk), h.has, Bool.eq_iff_iff, List.any_eq_true, List.any_eq_true]
      constructor
      · rintro ⟨a, ha, e⟩
        simp only [decide_eq_true_eq] at e
        exact ⟨a, List.mem_filter.2 ⟨ha, by simpa using fun e2 => hk (by rw [← e, e2])⟩, by simpa using e⟩
      · rintro ⟨a, ha, e⟩
        exact ⟨a, (List.mem_filter.1 ha).1, e⟩
  atK := fun a ha zd => by
    obtain ⟨h1, h2⟩ := List.mem_filter.1 ha
    simp only [decide_eq_true_eq] at h2
    rw [atKey_del_other (litS_ne (fun e => h2 (keyB_inj e)))]
    exact h.atK a h1 zd
/-- those that stay, and those that are still to come -/
def swM (lim : Int) (left : Lit → Bool) (M : List AlR) : List AlR := M.filter fun a => decide (lim < a.en) || left (.string (keyB a.lbs))
theorem swM_sub {lim : Int} {left : Lit → Bool} {M : List AlR} {a : AlR} (h : a ∈ swM lim left M) : a ∈ M := (List.mem_filter.1 h).1
theorem swM_rise {lim : Int} {left : Lit → Bool} {M : List AlR} (h : riseA M) : riseA (swM lim left M) := List.Pairwise.filter _ h
theorem swM_start {w : World} {S : Nat → Prop} {gx gm : Nat} {R most lim : Int} {M : List AlR} {D : DataW Unit} {hv : List LbT → Value} (h : PrjA w S gx R most M gm D hv) : swM lim (Maps.has D) M = M := by
  unfold swM
  rw [List.filter_eq_self]
  intro a ha
  rw [h.hasL, findA_mem h.ok.1 ha]
  simp
theorem swM_end {now keep : Int} {left : Lit → Bool} {M : List AlR} (h : ∀ kl, left kl = false) : swM (now - keep) left M = sweepM now keep M := by
  unfold swM sweepM
  congr 1
  funext a
  simp [h]
theorem swM_stay {lim : Int} {left : Lit → Bool} {M : List AlR} (hM : riseA M) {o : AlR} (ho : o ∈ M) (he : lim < o.en) : swM lim (fun z => left z && !z.sameKey (.string (keyB o.lbs))) M = swM lim left M := by
  unfold swM
  refine List.filter_congr (fun a ha => ?_)
  dsimp only
  rw [sameKey_str]
  by_cases e : a = o
  · subst e
    simp [he]
  · have : keyB a.lbs ≠ keyB o.lbs := fun f => e (rise_uniq hM ha ho (keyB_inj f))
    simp [this]
theorem swM_go {lim : Int} {left : Lit → Bool} {M : List AlR} {o : AlR} (he : ¬ lim < o.en) (hM : riseA M) (ho : o ∈ M) : swM lim (fun z => left z && !z.sameKey (.string (keyB o.lbs))) M = (swM lim left M).filter fun a => decide (a.lbs ≠ o.lbs) := by
  unfold swM
  rw [List.filter_filter]
  refine List.filter_congr (fun a ha => ?_)
  dsimp only
  rw [sameKey_str]
  by_cases e : a = o
  · subst e
    simp [he]
  · have h1 : keyB a.lbs ≠ keyB o.lbs := fun f => e (rise_uniq hM ha ho (keyB_inj f))
    have h2 : a.lbs ≠ o.lbs := fun f => e (rise_uniq hM ha ho f)
    simp [h1, h2]
theorem strike2 (left : Lit → Bool) (kl : Lit) : (fun z : Lit => (left z && !z.sameKey kl) && !z.sameKey kl) = fun z => left z && !z.sameKey kl := by
  funext z
  cases left z <;> cases z.sameKey kl <;> rfl
/-- the set behind a sweep -/
theorem PrjA.swept {w w' : World} {S : Nat → Prop} {gx gm n : Nat} {R most : Int} {M M' : List AlR} {D D' : DataW Unit} {hv : List LbT → Value} (h : PrjA w S gx R most M gm D hv) (hc : Ch w w' (fun k => k = gm)) (hm : w'.ownsMap Tryd.prog 9 alElem gm n D') (hd : MpA D' M' hv) (hs : ∀ a ∈ M', a ∈ M) (hok : okM most M') : PrjA w' S gx R most M' gm D' hv where
  box := by rw [hc.block (some_lt h.box) (fun e => h.ne_mx e.symm)]; exact h.box
  mp := by have := map_tight hm; rw [hd.size] at this; exact this
  size := hd.size
  has := hd.has
  atK := hd.atK
  shp := fun a ha => h.shp a (hs a ha)
  each := fun a ha => by
    have hRl := h.each a (hs a ha)
    refine ⟨hRl.1.ch hc (fun k hk _ => (h.ne_val (hs a ha) hk).2), fun k hk => ?_⟩
    obtain ⟨h1, cur, fr, h2⟩ := hRl.2 k hk
    exact ⟨h1, cur, fr, by rw [hc.block (some_lt h2) (h.ne_val (hs a ha) hk).2]; exact h2⟩
  inX := h.inX
  inM := h.inM
  ok := hok
  res := h.res
def swBad (now keep : Int) : Prop := ¬ isT now ∨ ¬ (0 ≤ keep ∧ keep ≤ 1099511627776)
set_option maxRecDepth 8000 in
set_option maxHeartbeats 3200000 in
theorem sweep_bad (w : World) (gx : Nat) (now keep : Int) (h : swBad now keep) :
    Calls Tryd.prog 15 #[.pointer (some ⟨gx, 0, none⟩), .int .i64 now, .int .i64 keep] w fun e w' => e = .returned (.tuple #[.int .i64 0, .int .i64 1]) ∧ w' = w := by
  have HT := hidJ (isTime_any now w)
  have HW := hidJ (spanRight_any keep w)
  by_cases h1 : isT now
  · have h2 : (decide (0 ≤ keep) && decide (keep ≤ 1099511627776)) = false := by
      rw [Bool.and_eq_false_iff, decide_eq_false_iff_not, decide_eq_false_iff_not]
      rcases h with h | h
      · exact absurd h1 h
      · omega
    rw [decide_eq_true h1] at HT
    rw [h2] at HW
    clear h h1 h2
    go_enter Tryd.func15, Tryd.ntmps15
    go_wp2_with (first | (go_at_call 33; refine HT.out.mono ?_; rintro e w1 ⟨rfl, hw1⟩; have hw1 := hw1.symm; subst hw1) | (go_at_call 34; refine HW.out.mono ?_; rintro e w1 ⟨rfl, hw1⟩; have hw1 := hw1.symm; subst hw1))
    go_ret2
    exact ⟨rfl, rfl⟩
  · rw [decide_eq_false h1] at HT
    clear h h1 HW
    go_enter Tryd.func15, Tryd.ntmps15
    go_wp2_with (first | (go_at_call 33; refine HT.out.mono ?_; rintro e w1 ⟨rfl, hw1⟩; have hw1 := hw1.symm; subst hw1))
    go_ret2
    exact ⟨rfl, rfl⟩
set_option maxRecDepth 8000 in
set_option maxHeartbeats 12800000 in
theorem sweep_ok (w : World) (S : Nat → Prop) (gx : Nat) (R most now keep : Int) (M : List AlR) (gm : Nat) (D : DataW Unit) (hv : List LbT → Value) (h : PrjA w S gx R most M gm D hv) (hb : ¬ swBad now keep) :
    Calls Tryd.prog 15 #[.pointer (some ⟨gx, 0, none⟩), .int .i64 now, .int .i64 keep] w fun e w' => e = .returned (.tuple #[.int .i64 ((M.length : Int) - ((sweepM now keep M).length : Int)), .int .i64 0]) ∧ PrjOK w' S gx R most (sweepM now keep M) ∧ Ch w w' S := by
  have HD := hidJ h
  have h1 : isT now := Decidable.byContradiction fun f => hb (.inl f)
  have h2 : 0 ≤ keep ∧ keep ≤ 1099511627776 := Decidable.byContradiction fun f => hb (.inr f)
  have HT := hidJ (isTime_any now w)
  have HW := hidJ (spanRight_any keep w)
  rw [decide_eq_true h1] at HT
  rw [show (decide (0 ≤ keep) && decide (keep ≤ 1099511627776)) = true by simp [h2]] at HW
  have hl1 : -9223372036854775808 ≤ now - keep ∧ now - keep ≤ 9223372036854775807 := by unfold isT at h1; omega
  obtain ⟨hl1, hl2⟩ := hl1
  obtain ⟨lim, hlim⟩ : ∃ lim, now - keep = lim := ⟨_, rfl⟩
  have HLim := hidJ hlim
  have hbl := h.mp.lt
  have hlx := some_lt h.box
  have hmp := h.mp
  have hcx := h.cells.2.2
  have hm5 := h.ok.2.2.2
  obtain ⟨N, hN⟩ : ∃ N, M.length = N := ⟨_, rfl⟩
  have HN := hidJ hN
  rw [hN] at hmp hm5 ⊢
  have hN5 : N ≤ 500 := by omega
  clear h hb h1 h2 hm5
  obtain ⟨Res, hRes⟩ : ∃ Res : Int, (N : Int) - ((sweepM now keep M).length : Int) = Res := ⟨_, rfl⟩
  have HRes := hidJ hRes
  rw [hRes]
  rw [hlim] at hl1 hl2
  clear hRes hN
  go_enter Tryd.func15, Tryd.ntmps15
  go_wp2_with (first
    | (go_at_call 33; refine HT.out.mono ?_; rintro e w1 ⟨rfl, hw1⟩; have hw1 := hw1.symm; subst hw1)
    | (go_at_call 34; refine HW.out.mono ?_; rintro e w1 ⟨rfl, hw1⟩; have hw1 := hw1.symm; subst hw1)
    | (at_range; refine wpList_range_own _ rfl _ 59 rfl 9 34 lawS Tryd.underlying59 _ gm N D rfl hmp ?_; intro w2 hrg2 hg2 hs2)
    | go_in)
  go_frame
  have HR2 : Hid (w2.ranges Tryd.prog 9 alElem gm w.heap.size N D (Maps.has D) (Maps.size D) ∧ w.grownBy w2 none ∧ w2.heap.size = w.heap.size + 1) := ⟨hrg2, hg2, hs2⟩
  clear hrg2 hg2 hs2 HT HW hcx hmp
  go_loopw [8] (fun g wr => ∃ (left : Lit → Bool) (cnt : Nat) (D' : DataW Unit) (gn : Int), g = .int .i64 gn ∧ 0 ≤ gn ∧ gn ≤ 500 ∧ Hid (wr.ranges Tryd.prog 9 alElem gm w.heap.size N D' left cnt ∧ MpA D' (swM lim left M) hv ∧ gn = (N : Int) - ((swM lim left M).length : Int) ∧ Ch w wr (fun k => k = gm))) (fun _ wr => wr.rangeLeft gm w.heap.size)
  case atStart =>
    refine ⟨_, _, D, 0, rfl, by omega, by omega, HR2.out.1, ?_, ?_, Ch.of_gb HR2.out.2.1 (fun k hk => by cases hk)⟩
    · rw [swM_start HD.out]
      exact ⟨HD.out.size, HD.out.has, HD.out.atK⟩
    · rw [swM_start HD.out, HN.out]
      omega
  case round =>
    obtain ⟨left, cnt, D', gn, rfl, hgn0, hgn5, HI⟩ := hrel
    have hrg := HI.out.1
    go_wp2_with (first
      | (at_next; refine wpList_next_ranges _ rfl _ rfl 9 lawS alElem mkS mkAl mkS_inv mkAl_inv gm w.heap.size N D' left cnt rfl hrg ?_ ?_)
      | go_in)
    · intro _ hl0
      have HF : Hid (gn = Res ∧ PrjOK wr S gx R most (sweepM now keep M) ∧ Ch w wr S) := by
        obtain ⟨q1, q2, q3, q4⟩ := HI.out
        have e : swM lim left M = sweepM now keep M := by rw [← HLim.out]; exact swM_end hl0
        rw [e] at q2 q3
        refine ⟨by rw [q3, HRes.out], ⟨gm, D', hv, HD.out.swept q4 q1.owns q2 (fun a ha => (List.mem_filter.1 ha).1) (okM_filter _ HD.out.ok)⟩, q4.mono (fun k _ e => by have e' : k = gm := e; rw [e']; exact HD.out.inM)⟩
      clear HI hrg HR2 HRes HLim
      go_wp2
      go_ret2
      exact ⟨by rw [HF.out.1]; rfl, HF.out.2⟩
    · intro x cu cs ce kl y ps w3 cnt3 hkey hlk hRv hat hrg3 hlt hg3 hs3 hen
      obtain ⟨l, hkx, rfl, hll⟩ := keyOf_string_inv hkey
      obtain ⟨h1, h2, h3, h4⟩ := HI.out
      obtain ⟨o, ho, hlo⟩ : ∃ o ∈ swM lim left M, l = keyB o.lbs := by
        have := has_true_of_atKey hat
        rw [h2.has, List.any_eq_true] at this
        obtain ⟨o, q1, q2⟩ := this
        exact ⟨o, q1, by simpa using Eq.symm (of_decide_eq_true q2)⟩
      subst hlo
      have hoM := swM_sub ho
      have hxe : x = keyB o.lbs := by
        unfold mkS at hkx
        simpa using hkx
      subst hxe
      have hval : mkAl (cu, cs, ce) = alV (hv o.lbs) o.st o.en := by
        have e1 := hat zAd
        rw [h2.atK o ho] at e1
        have e2 : alElem (mkAl (cu, cs, ce)) = some (alD (hv o.lbs) o.st o.en, ps) := by rw [hRv, e1]
        exact alElem_inv (HD.out.shp o hoM) e2
      have hce : cu = hv o.lbs ∧ cs = o.st ∧ ce = o.en := by
        unfold mkAl alV at hval
        simpa using hval
      obtain ⟨rfl, rfl, rfl⟩ := hce
      have hsz := h4.size
      have hc3 : Ch w w3 (fun k => k = gm) := h4.trans (Ch.of_gb (S := fun k => k = w.heap.size) hg3 (fun k hk _ => by cases hk; rfl)) (fun k hk e => by omega)
      have hnx : gx ≠ gm := fun e => HD.out.ne_mx e.symm
      have hcx3 : ∀ C, (w3.alloc C).cell? ⟨gx, 2, none⟩ = some (.map (some gm)) := fun C => cell_keep ((World.cell?_of_block (hc3.block hlx hnx)).trans HD.out.cells.2.2) (World.grownBy_alloc w3 C none)
      obtain ⟨ua, un, uc, hua⟩ : ∃ a n c, hv o.lbs = .slice a n c := by obtain ⟨⟨a, c, e, _⟩, _⟩ := HD.out.each _ hoM; exact ⟨_, _, _, e⟩
      unfold mkS mkAl at hen
      unfold mkS mkAl
      dsimp only at hen ⊢
      rw [hua] at hen ⊢
      have hkey2 := keyS (keyB o.lbs) (by have := keyB_len (HD.out.ok.2.1 o hoM); omega)
      have hlenS : (swM lim left M).length ≤ N := by rw [← HN.out]; exact List.length_filter_le _ _
      by_cases hle : lim < o.en
      · have hnle : ¬ o.en ≤ lim := by omega
        have H4 : Hid (∀ C, ∃ (left : Lit → Bool) (cnt' : Nat) (D' : DataW Unit), ((w3.alloc C).ranges Tryd.prog 9 alElem gm w.heap.size N D' left cnt' ∧ MpA D' (swM lim left M) hv ∧ gn = (N : Int) - ((swM lim left M).length : Int) ∧ Ch w (w3.alloc C) (fun k => k = gm)) ∧ (w3.alloc C).rangeLeft gm w.heap.size < wr.rangeLeft gm w.heap.size) := by
          intro C
          have hr4 := hrg3.alloc C
          refine ⟨_, cnt3, D', ⟨hr4, ?_, ?_, hc3.trans (Ch.of_gb (S := fun _ => False) (World.grownBy_alloc w3 C none) (fun k hk => by cases hk)) (fun _ _ e => e.elim)⟩, ?_⟩
          · rw [swM_stay HD.out.ok.1 hoM hle]; exact h2
          · rw [swM_stay HD.out.ok.1 hoM hle]; exact h3
          · rw [hr4.left_eq, hrg.left_eq]; exact hlt
        clear h1 h2 h3 h4 hrg hrg3 HI hat hRv hlk hkey hkx hll hval hg3 hs3 hlt hc3 hsz hua hkey2
        generalize ByteArray.mk ⟨keyB o.lbs⟩ = KS at *
        generalize o.en = oe at *
        generalize o.st = ost at *
        go_wp2
        obtain ⟨l4, c4, D4, H5, H6⟩ := H4.out (.cells #[.slice ua un uc, .int .i64 ost, .int .i64 oe] 34)
        go_roundw
        case rel => exact ⟨l4, c4, D4, gn, rfl, hgn0, hgn5, H5⟩
        case measure => exact H6
      · have hnle : o.en ≤ lim := by omega
        have hlen1 := filter_ne_one (swM_rise (lim := lim) (left := left) HD.out.ok.1) ho
        have H4 : Hid (∀ C w4 cnt4, w4.ranges Tryd.prog 9 alElem gm w.heap.size N (D'.del (.string (keyB o.lbs))) (fun z => left z && !z.sameKey (.string (keyB o.lbs))) cnt4 → cnt4 ≤ cnt3 → (w3.alloc C).mapTurned w4 gm → (MpA (D'.del (.string (keyB o.lbs))) (swM lim (fun z => left z && !z.sameKey (.string (keyB o.lbs))) M) hv ∧ gn + 1 = (N : Int) - ((swM lim (fun z => left z && !z.sameKey (.string (keyB o.lbs))) M).length : Int) ∧ Ch w w4 (fun k => k = gm)) ∧ w4.rangeLeft gm w.heap.size < wr.rangeLeft gm w.heap.size) := by
          intro C w4 cnt4 hr4 hle4 ht4
          rw [swM_go hle HD.out.ok.1 hoM]
          refine ⟨⟨h2.del (swM_rise HD.out.ok.1) (h1.owns.tidy lawS) ho, by omega, ?_⟩, ?_⟩
          · exact (hc3.trans (Ch.of_gb (S := fun _ => False) (World.grownBy_alloc w3 C none) (fun k hk => by cases hk)) (fun _ _ e => e.elim)).trans (Ch.of_gb (S := fun k => k = gm) ht4.grown (fun k hk _ => by cases hk; rfl)) (fun _ _ e => e)
          · rw [hr4.left_eq, hrg.left_eq]; omega
        have hrgA := fun C => hrg3.alloc C
        have hgn6 : gn + 1 ≤ 500 := by omega
        clear h1 h2 h3 h4 hrg HI hat hRv hlk hkey hkx hll hval hg3 hs3 hlt hc3 hsz hua hlen1 hlenS
        have HKL := hidJ hkey2
        generalize ByteArray.mk ⟨keyB o.lbs⟩ = KS at *
        generalize o.en = oe at *
        generalize o.st = ost at *
        go_wp2_with (first
          | (at_delete; refine wpList_delete_ranges _ rfl _ _ 59 9 rfl 34 lawS Tryd.underlying59 alElem gm w.heap.size N D' _ cnt3 rfl (hrgA _) _ _ rfl HKL.out ?_; intro w4 cnt4 hrg4 hle4 hturn; go_frame)
          | go_in)
        rw [strike2] at hrg4
        obtain ⟨⟨q1, q2, q3⟩, q4⟩ := H4.out _ w4 cnt4 hrg4 hle4 hturn
        have H5 := hidJ (And.intro hrg4 (And.intro q1 (And.intro q2 q3)))
        clear q1 q2 q3 H4 hrg4 hturn hrgA hrg3
        go_wp2
        go_roundw
        case rel => exact ⟨_, cnt4, _, gn + 1, rfl, by omega, hgn6, H5⟩
        case measure => exact q4
end Go.Proofs.YtmgbcmogdjhacaaDoor

/- Alw -/
namespace Go.Proofs.YtmgbcmogdjhacaaDoor
open Go.RowKit Go.Shelf Go.Sort Go.Maps Go.WideMaps

/-- a step of a script -/
structure AOp where
  kind : Int
  now : Int
  keep : Int
  a : AlR
def aoZ : AOp := ⟨0, 0, 0, alZ⟩
/-- a script among the arguments -/
def RdO (w : World) (v : Value) (l : List AOp) : Prop := ∃ a c, v = .slice a l.length c ∧ l.length ≤ 9223372036854775807 ∧ ∀ j, j < l.length → ∃ b o x n d, a = some ⟨b, o, none⟩ ∧ w.cell? ⟨b, o + j * 6, none⟩ = some (.int .i64 (l.getD j aoZ).kind) ∧ w.cell? ⟨b, o + j * 6 + 1, none⟩ = some (.int .i64 (l.getD j aoZ).now) ∧ w.cell? ⟨b, o + j * 6 + 2, none⟩ = some (.int .i64 (l.getD j aoZ).keep) ∧ w.cell? ⟨b, o + j * 6 + 3, none⟩ = some (.slice x n d) ∧ w.cell? ⟨b, o + j * 6 + 4, none⟩ = some (.int .i64 (l.getD j aoZ).a.st) ∧ w.cell? ⟨b, o + j * 6 + 5, none⟩ = some (.int .i64 (l.getD j aoZ).a.en) ∧ RdL w (.slice x n d) (l.getD j aoZ).a.lbs ∧ LbIn (l.getD j aoZ).a.lbs
theorem lbIn_right {ls : List LbT} (h : (rightS ls).1 = 0) : LbIn ls := by
  obtain ⟨h1, h2⟩ := right_short h
  exact ⟨by omega, fun j => ⟨by have := (h2 j).1; omega, by have := (h2 j).2; omega⟩⟩
def opC (kind now keep : Int) (u : Value) (st en : Int) : Obj := .cells #[.int .i64 kind, .int .i64 now, .int .i64 keep, u, .int .i64 st, .int .i64 en] 36
theorem opCells {W : World} {b : Nat} {kind now keep st en : Int} {u : Value} (h : W.heap[b]? = some (opC kind now keep u st en)) : W.cell? ⟨b, 0, none⟩ = some (.int .i64 kind) ∧ W.cell? ⟨b, 1, none⟩ = some (.int .i64 now) ∧ W.cell? ⟨b, 2, none⟩ = some (.int .i64 keep) ∧ W.cell? ⟨b, 3, none⟩ = some u ∧ W.cell? ⟨b, 4, none⟩ = some (.int .i64 st) ∧ W.cell? ⟨b, 5, none⟩ = some (.int .i64 en) := by
  unfold opC at h
  exact ⟨by simp [World.cell?, h], by simp [World.cell?, h], by simp [World.cell?, h], by simp [World.cell?, h], by simp [World.cell?, h], by simp [World.cell?, h]⟩
/-- behind the round's first list -/
structure StA (w : World) (p gx : Nat) (R most : Int) (M Mw : List AlR) (v1 : Value) (W : World) : Prop where
  set : ∃ S, SetB W S gx R most M ∧ ∀ k, S k → w.heap.size ≤ k ∧ k < p
  old : w.grownBy W none
  was : ∃ l, OwnX W p v1 l ∧ l.map (·.2) = Mw ∧ ∀ x ∈ l, OwnL W p x.1 x.2.lbs
  lt : p ≤ W.heap.size
theorem StA.keep {w W W' : World} {p gx : Nat} {R most : Int} {M Mw : List AlR} {v1 : Value} (h : StA w p gx R most M Mw v1 W) (hg : W.grownBy W' none) : StA w p gx R most M Mw v1 W' := by
  obtain ⟨S, s1, s2⟩ := h.set
  obtain ⟨l, l1, l2, l3⟩ := h.was
  exact ⟨⟨S, s1.keep hg, s2⟩, gb_none h.old hg, ⟨l, l1.keep hg, l2, fun x hx => (l3 x hx).keep hg⟩, Nat.le_trans h.lt hg.size⟩
theorem StA.ch {w W W' : World} {p gx : Nat} {R most : Int} {M M' Mw : List AlR} {v1 : Value} (h : StA w p gx R most M Mw v1 W) {S : Nat → Prop} (hS : ∀ k, S k → w.heap.size ≤ k ∧ k < p) (hs : SetB W' S gx R most M') (hc : Ch W W' S) : StA w p gx R most M' Mw v1 W' := by
  obtain ⟨l, l1, l2, l3⟩ := h.was
  exact ⟨⟨S, hs, hS⟩, gb_ch h.old hc (fun k hk => (hS k hk).1), ⟨l, row_ch l1 hc (fun k hk e => by have := (l1.lt k hk).1; have := (hS k e).2; omega), l2, fun x hx => row_ch (l3 x hx) hc (fun k hk e => by have := ((l3 x hx).lt k hk).1; have := (hS k e).2; omega)⟩, Nat.le_trans h.lt hc.size⟩
theorem StA.rdx {w W : World} {p gx : Nat} {R most : Int} {M Mw : List AlR} {v1 : Value} (h : StA w p gx R most M Mw v1 W) : RdX W v1 Mw := by
  obtain ⟨l, l1, l2, l3⟩ := h.was
  exact l1.rdx l2 (fun x hx => (l3 x hx).rd)
/-- the set alone -/
def StM (w : World) (gx : Nat) (R most : Int) (M : List AlR) (W : World) : Prop := ∃ S, SetB W S gx R most M ∧ (∀ k, S k → w.heap.size ≤ k) ∧ w.grownBy W none
theorem StM.keep {w W W' : World} {gx : Nat} {R most : Int} {M : List AlR} (h : StM w gx R most M W) (hg : W.grownBy W' none) : StM w gx R most M W' := by
  obtain ⟨S, h1, h2, h3⟩ := h
  exact ⟨S, h1.keep hg, h2, gb_none h3 hg⟩
theorem StA.m {w W : World} {p gx : Nat} {R most : Int} {M Mw : List AlR} {v1 : Value} (h : StA w p gx R most M Mw v1 W) : StM w gx R most M W := by
  obtain ⟨S, s1, s2⟩ := h.set
  exact ⟨S, s1, fun k hk => (s2 k hk).1, h.old⟩
theorem StM.ok {w W : World} {gx : Nat} {R most : Int} {M : List AlR} (h : StM w gx R most M W) : okM most M := by
  obtain ⟨S, ⟨⟨_, _, _, h1⟩, _⟩, _⟩ := h
  exact h1.ok
theorem StM.gb {w W : World} {gx : Nat} {R most : Int} {M : List AlR} (h : StM w gx R most M W) : w.grownBy W none := by
  obtain ⟨S, h1, h2, h3⟩ := h
  exact h3
theorem StM.all {w W : World} {gx : Nat} {R most : Int} {M : List AlR} (h : StM w gx R most M W) : Calls Tryd.prog 14 #[.pointer (some ⟨gx, 0, none⟩), .int .i64 0] W fun e w' => ∃ a1 c1, e = .returned (.slice a1 M.length c1) ∧ StA w W.heap.size gx R most M M (.slice a1 M.length c1) w' ∧ W.grownBy w' none := by
  obtain ⟨S, h1, h2, h3⟩ := h
  refine (allL_any W (.pointer (some ⟨gx, 0, none⟩)) 0 M ⟨_, rfl⟩ h1.ptr).mono ?_
  rintro e w' ⟨v', l, rfl, t1, t2, t3, t4⟩
  rw [if_pos rfl] at t2
  obtain ⟨a, c, rfl⟩ := t1.shape
  have hl := len_of_map t2
  rw [hl] at t1 ⊢
  exact ⟨a, c, rfl, ⟨⟨S, h1.keep t4, fun k hk => ⟨h2 k hk, h1.2 k hk⟩⟩, gb_none h3 t4, ⟨l, t1, t2, t3⟩, t4.size⟩, t4⟩
theorem StM.get {w W : World} {gx : Nat} {R most : Int} {M : List AlR} (h : StM w gx R most M W) (hT : U8S w) {u : Value} {ls : List LbT} (hu : RdL W u ls) (hl : LbIn ls) : Calls Tryd.prog 16 #[.pointer (some ⟨gx, 0, none⟩), u] W fun e w' => ∃ x n d, e = .returned (.tuple #[.agg #[.slice x n d, .int .i64 (getA M ls).st, .int .i64 (getA M ls).en], .bool (findA M ls).isSome]) ∧ RdL w' (.slice x n d) (getA M ls).lbs ∧ W.grownBy w' none := by
  obtain ⟨S, h1, h2, h3⟩ := h
  refine (get_any W S gx R most M u ls h1.1 hu hl (hT.keep h3)).mono ?_
  rintro e w' ⟨v', rfl, t1, t2⟩
  obtain ⟨x, d, e⟩ := t1.shape
  subst e
  exact ⟨x, _, d, rfl, t1.rd, t2⟩
theorem StM.len {w W : World} {gx : Nat} {R most : Int} {M : List AlR} (h : StM w gx R most M W) : Calls Tryd.prog 12 #[.pointer (some ⟨gx, 0, none⟩)] W fun e w' => e = .returned (.int .i64 (M.length : Int)) ∧ w' = W := by
  obtain ⟨S, h1, h2, h3⟩ := h
  exact len_any W S gx R most M h1.1
theorem sweepM_twice (now keep : Int) (M : List AlR) : sweepM now keep (sweepM now keep M) = sweepM now keep M := by
  unfold sweepM
  rw [List.filter_filter]
  simp
theorem sweepM_le (now keep : Int) (M : List AlR) : (sweepM now keep M).length ≤ M.length := List.length_filter_le _ _
/-- Sweep, twice -/
theorem sweep_two (w : World) (p gx : Nat) (R most now keep : Int) (M : List AlR) (v1 : Value) (hM : riseA M) :
    ∃ (eE : Int) (M' : List AlR), (eE = 0 ∨ eE = 1) ∧ M'.length ≤ M.length ∧
      (∀ W, StA w p gx R most M M v1 W → Calls Tryd.prog 15 #[.pointer (some ⟨gx, 0, none⟩), .int .i64 now, .int .i64 keep] W fun e w' => e = .returned (.tuple #[.int .i64 ((M.length : Int) - (M'.length : Int)), .int .i64 eE]) ∧ StA w p gx R most M' M v1 w' ∧ ∀ k, p ≤ k → k < W.heap.size → w'.heap[k]? = W.heap[k]?) ∧
      (∀ W, StA w p gx R most M' M v1 W → Calls Tryd.prog 15 #[.pointer (some ⟨gx, 0, none⟩), .int .i64 now, .int .i64 keep] W fun e w' => e = .returned (.tuple #[.int .i64 0, .int .i64 eE]) ∧ StA w p gx R most M' M v1 w' ∧ ∀ k, p ≤ k → k < W.heap.size → w'.heap[k]? = W.heap[k]?) ∧
      (eE = 0 → ∀ a ∈ M, a.st ≤ now → now < a.en → (findA M' a.lbs).isSome = true) := by
  by_cases hb : swBad now keep
  · refine ⟨1, M, .inr rfl, Nat.le_refl _, fun W h => ?_, fun W h => ?_, fun e => absurd e (by omega)⟩
    · refine (sweep_bad W gx now keep hb).mono ?_
      rintro e w' ⟨rfl, rfl⟩
      exact ⟨by simp, h, fun _ _ _ => rfl⟩
    · refine (sweep_bad W gx now keep hb).mono ?_
      rintro e w' ⟨rfl, rfl⟩
      exact ⟨rfl, h, fun _ _ _ => rfl⟩
  · refine ⟨0, sweepM now keep M, .inl rfl, sweepM_le _ _ _, fun W h => ?_, fun W h => ?_, fun _ a ha h1 h2 => ?_⟩
    · obtain ⟨S, ⟨⟨gm, D, hv, s1⟩, s0⟩, s2⟩ := h.set
      refine (sweep_ok W S gx R most now keep M gm D hv s1 hb).mono ?_
      rintro e w' ⟨rfl, q1, q2⟩
      exact ⟨rfl, h.ch s2 ⟨q1, fun k hk => Nat.lt_of_lt_of_le (s0 k hk) q2.size⟩ q2, fun k hk hk2 => q2.block hk2 (fun e => by have := (s2 k e).2; omega)⟩
    · obtain ⟨S, ⟨⟨gm, D, hv, s1⟩, s0⟩, s2⟩ := h.set
      refine (sweep_ok W S gx R most now keep _ gm D hv s1 hb).mono ?_
      rintro e w' ⟨rfl, q1, q2⟩
      rw [sweepM_twice] at q1 ⊢
      exact ⟨by simp, h.ch s2 ⟨q1, fun k hk => Nat.lt_of_lt_of_le (s0 k hk) q2.size⟩ q2, fun k hk hk2 => q2.block hk2 (fun e => by have := (s2 k e).2; omega)⟩
    · have hk : ¬ keep < 0 := fun e => hb (.inr (by omega))
      have hm : a ∈ sweepM now keep M := by
        unfold sweepM
        rw [List.mem_filter]
        exact ⟨ha, by simp; omega⟩
      have hr : riseA (sweepM now keep M) := List.Pairwise.filter _ hM
      rw [findA_mem hr hm]
      rfl
/-- Put -/
theorem StA.put {w W : World} {p gx : Nat} {R most : Int} {M : List AlR} {v1 : Value} (h : StA w p gx R most M M v1 W) (hT : U8S w) (now st en : Int) {u : Value} {ls : List LbT} (hu : RdL w u ls) (hl : LbIn ls) :
    Calls Tryd.prog 17 #[.pointer (some ⟨gx, 0, none⟩), .int .i64 now, .agg #[u, .int .i64 st, .int .i64 en]] W fun e w' => e = .returned (.int .i64 (putE R most now ⟨ls, st, en⟩ M)) ∧ StM w gx R most (putM R most now ⟨ls, st, en⟩ M) w' ∧ RdX w' v1 M ∧ ∀ k, p ≤ k → k < W.heap.size → w'.heap[k]? = W.heap[k]? := by
  obtain ⟨S, s1, s2⟩ := h.set
  refine (setB_put W S gx R most now st en M u ls s1 (hu.keep h.old) hl (hT.keep h.old)).mono ?_
  rintro e w' ⟨rfl, q1, q2⟩
  have hr : RdX w' v1 M := by
    obtain ⟨l, l1, l2, l3⟩ := h.was
    exact OwnX.rdx (row_ch l1 q2 (fun k hk e => by have := (l1.lt k hk).1; have := (s2 k e).2; omega)) l2 (fun x hx => OwnL.rd (row_ch (l3 x hx) q2 (fun k hk e => by have := ((l3 x hx).lt k hk).1; have := (s2 k e).2; omega)))
  refine ⟨rfl, ⟨_, q1, fun k hk => ?_, gb_ch h.old q2 (fun k hk => (s2 k hk).1)⟩, hr, fun k hk hk2 => q2.block hk2 (fun e => by have := (s2 k e).2; omega)⟩
  rcases hk with hk | hk
  · exact (s2 k hk).1
  · exact Nat.le_trans h.old.size hk.1
/-- what Put leaves of the others -/
theorem put_other {R most now : Int} {a : AlR} {M : List AlR} (hM : riseA M) {b : AlR} (hb : b ∈ M) (hn : b.lbs ≠ a.lbs) : findA (putM R most now a M) b.lbs = some b := by
  unfold putM
  split
  · have hl : (newA R now a M).lbs = a.lbs := by
      unfold newA
      cases hf : findA M a.lbs with
      | none => rfl
      | some o =>
        first
          | rfl
          | (simp only; split <;> rfl)
    rw [findA_addA hM, hl, if_neg hn]
    exact findA_mem hM hb
  · exact findA_mem hM hb
theorem put_same {R most now : Int} {a : AlR} {M : List AlR} (h : putE R most now a M ≠ 0) : putM R most now a M = M := by
  unfold putM
  rw [if_neg h]
end Go.Proofs.YtmgbcmogdjhacaaDoor

/- AlQ -/
namespace Go.Proofs.YtmgbcmogdjhacaaDoor
open Go.RowKit Go.Shelf Go.Sort Go.Maps Go.WideMaps

theorem wrapI {x : Int} (h1 : -9223372036854775808 ≤ x) (h2 : x ≤ 9223372036854775807) : IntKind.i64.wrap x = x := by
  simp [IntKind.wrap, IntKind.signed, IntKind.bits]
  omega
theorem run_oneX (W : World) (b1 o1 n c y y1 : Nat) (hy : y < n) (hn : n ≤ c) (h1 : y1 = y + 1) : (Instr.slice 38 (.slice (some ⟨b1, o1, none⟩) n c) (some (.int .i64 (y : Int))) (some (.int .i64 (y1 : Int))) none).run Tryd.prog W = .ok (.slice (some ⟨b1, o1 + y * 3, none⟩) 1 (c - y)) W := by
  have ht' : Tryd.prog.underlying 38 = some (.slice (Tryd.prog.elem 38)) := by simp [Program.elem, Tryd.underlying38]
  have he : Tryd.prog.elem 38 = 34 := by simp [Program.elem, Tryd.underlying38]
  subst h1
  rw [run_slice_lh W _ _ _ _ ht' .i64 .i64 _ _ (by omega) (by omega) (by omega), he, Tryd.sizeOf34]
  have hcy : ¬ c = y := by omega
  simp [Result.andThen, sliced, Addr.add, hcy]
/-- only draws between them -/
def Dr (w w' : World) : Prop := ∃ m, w' = w.drewN m
theorem Dr.refl (w : World) : Dr w w := ⟨0, rfl⟩
theorem Dr.drew {w w' : World} (h : Dr w w') : Dr w w'.drew := by
  obtain ⟨m, rfl⟩ := h
  exact ⟨m + 1, rfl⟩
theorem Dr.gb {w w' : World} (h : Dr w w') : w.grownBy w' none := by
  obtain ⟨m, rfl⟩ := h
  exact gb_drewN w m
set_option maxRecDepth 8000 in
set_option maxHeartbeats 3200000 in
theorem refCompareQ (w : World) (v u : Value) (ls ms : List LbT) (hv : RdL w v ls) (hu : RdL w u ms) :
    Calls Tryd.prog 18 #[v, u] w fun e w' => e = .returned (.int .i64 (cmpLs ls ms)) ∧ Dr w w' := by
  have HV : Hid (RdL w v ls ∧ RdL w u ms) := ⟨hv, hu⟩
  obtain ⟨a, c, rfl, hc1, hc2, -, -⟩ := hv
  obtain ⟨b, d, rfl, hd1, hd2, -, -⟩ := hu
  unfold maxLen at hc2 hd2
  have HR : Hid (cmpLs ls ms = cmpLs (ls.drop 0) (ms.drop 0)) := (by simp : cmpLs ls ms = cmpLs (ls.drop 0) (ms.drop 0))
  generalize cmpLs ls ms = R at *
  go_enter Tryd.func18, Tryd.ntmps18
  go_wp2
  go_loopw [5] (fun i wr => ∃ z : Nat, z ≤ ls.length ∧ z ≤ ms.length ∧ i = .int .i64 z ∧ Hid (Dr w wr ∧ R = cmpLs (ls.drop z) (ms.drop z))) (fun i _ => ls.length - (intOf i).toNat)
  case atStart => exact ⟨0, by omega, by omega, rfl, Dr.refl _, HR.out⟩
  case round =>
    obtain ⟨z, hzN, hzM, rfl, hr⟩ := hrel
    have HG : Hid (Dr w wr) := hr.out.1
    by_cases hzb : z < ls.length ∧ z < ms.length
    · obtain ⟨hzl, hzm⟩ := hzb
      have hzi : (z : Int) < (ls.length : Int) := by omega
      have hzj : (z : Int) < (ms.length : Int) := by omega
      obtain ⟨a', c', he, -, -, h3, -⟩ := HV.out.1.keep hr.out.1.gb
      simp only [Value.slice.injEq] at he
      obtain ⟨rfl, -, rfl⟩ := he
      obtain ⟨b1, o1, rfl, c0, c1⟩ := h3 z hzl
      obtain ⟨a2, c2, he2, -, -, h4, -⟩ := HV.out.2.keep hr.out.1.gb
      simp only [Value.slice.injEq] at he2
      obtain ⟨rfl, -, rfl⟩ := he2
      obtain ⟨b2, o2, rfl, d0, d1⟩ := h4 z hzm
      have HS : Hid (R = if cmpL (ls.getD z ([], [])) (ms.getD z ([], [])) ≠ 0 then cmpL (ls.getD z ([], [])) (ms.getD z ([], [])) else cmpLs (ls.drop (z + 1)) (ms.drop (z + 1))) := by rw [← cmp_step hzl hzm]; exact hr.out.2
      have HL : Hid (cmpL (ls.getD z ([], [])) (ms.getD z ([], [])) = if cmpS (ls.getD z ([], [])).1 (ms.getD z ([], [])).1 ≠ 0 then cmpS (ls.getD z ([], [])).1 (ms.getD z ([], [])).1 else cmpS (ls.getD z ([], [])).2 (ms.getD z ([], [])).2) := rfl
      have HA : Hid (∀ W, Calls Tryd.prog 37 #[.string (ByteArray.mk ⟨(ls.getD z ([], [])).1⟩), .string (ByteArray.mk ⟨(ms.getD z ([], [])).1⟩)] W fun e w' => e = .returned (.int .i64 (cmpS (ls.getD z ([], [])).1 (ms.getD z ([], [])).1)) ∧ w' = W) := fun W => refSide_any W _ _
      have HB : Hid (∀ W, Calls Tryd.prog 37 #[.string (ByteArray.mk ⟨(ls.getD z ([], [])).2⟩), .string (ByteArray.mk ⟨(ms.getD z ([], [])).2⟩)] W fun e w' => e = .returned (.int .i64 (cmpS (ls.getD z ([], [])).2 (ms.getD z ([], [])).2)) ∧ w' = W) := fun W => refSide_any W _ _
      clear h3 h4 hr
      generalize cmpL (ls.getD z ([], [])) (ms.getD z ([], [])) = r at *
      generalize cmpS (ls.getD z ([], [])).1 (ms.getD z ([], [])).1 = r1 at *
      generalize cmpS (ls.getD z ([], [])).2 (ms.getD z ([], [])).2 = r2 at *
      generalize ByteArray.mk ⟨(ls.getD z ([], [])).1⟩ = sn at *
      generalize ByteArray.mk ⟨(ls.getD z ([], [])).2⟩ = sv at *
      generalize ByteArray.mk ⟨(ms.getD z ([], [])).1⟩ = sm at *
      generalize ByteArray.mk ⟨(ms.getD z ([], [])).2⟩ = su at *
      generalize hq1 : o1 + z * 2 = p1 at *
      generalize hq2 : o2 + z * 2 = p2 at *
      go_wp2_with fail
      go_region_held3 (fun w' => w'.cell? ⟨b1, p1, none⟩ = some (.string sn) ∧ w'.cell? ⟨b2, p2, none⟩ = some (.string sm)) (go_keep) (first | (go_at_call 37; with_reducible refine (HA.out _).mono ?_; rintro e w' ⟨rfl, rfl⟩))
      have e0 : wr.drew.cell? ⟨b1, p1 + 1, none⟩ = some (.string sv) := c1
      have e1 : wr.drew.cell? ⟨b2, p2 + 1, none⟩ = some (.string su) := d1
      have HG1 : Hid (Dr w wr.drew) := HG.out.drew
      generalize wr.drew = wr1 at *
      by_cases h1 : r1 = 0
      · subst h1
        rw [if_neg (by simp)] at HL
        go_wp2_with fail
        go_region_held3 (fun w' => w'.cell? ⟨b1, p1 + 1, none⟩ = some (.string sv) ∧ w'.cell? ⟨b2, p2 + 1, none⟩ = some (.string su)) (go_keep) (first | (go_at_call 37; with_reducible refine (HB.out _).mono ?_; rintro e w' ⟨rfl, rfl⟩))
        have HG2 : Hid (Dr w wr1.drew) := HG1.out.drew
        generalize wr1.drew = wr2 at *
        by_cases h2 : r2 = 0
        · subst h2
          have h3 := HL.out
          subst h3
          rw [if_neg (by simp)] at HS
          clear HA HB HL
          go_wp2
          go_roundw
          case rel => exact ⟨z + 1, by omega, by omega, by simp, HG2.out, HS.out⟩
          case measure => simp [intOf]; omega
        · have h3 := HL.out
          subst h3
          rw [if_pos h2] at HS
          have hrb : (r == 0) = false := by rw [beq_eq_false_iff_ne]; exact h2
          clear HA HB HL
          go_wp2
          go_ret
          exact ⟨by rw [HS.out]; rfl, HG2.out⟩
      · rw [if_pos h1] at HL
        have h3 := HL.out
        subst h3
        rw [if_pos h1] at HS
        have hrb : (r == 0) = false := by rw [beq_eq_false_iff_ne]; exact h1
        clear HA HB HL
        go_wp2
        go_ret
        exact ⟨by rw [HS.out]; rfl, HG1.out⟩
    · rcases Nat.lt_trichotomy ls.length ms.length with hlm | hlm | hlm
      · have hzi : ¬ (z : Int) < (ls.length : Int) := by omega
        have hli : (ls.length : Int) < (ms.length : Int) := by omega
        have HS : Hid (R = -1) := by rw [← cmp_endA (by omega : ls.length ≤ z) (by omega : z < ms.length)]; exact hr.out.2
        clear hr hzb
        go_wp2
        go_ret
        exact ⟨by rw [HS.out]; rfl, HG.out⟩
      · have hzi : ¬ (z : Int) < (ls.length : Int) := by omega
        have hli : ¬ (ls.length : Int) < (ms.length : Int) := by omega
        have hli2 : ¬ (ms.length : Int) < (ls.length : Int) := by omega
        have HS : Hid (R = 0) := by rw [← cmp_endAB (by omega : ls.length ≤ z) (by omega : ms.length ≤ z)]; exact hr.out.2
        clear hr hzb
        go_wp2
        go_ret
        exact ⟨by rw [HS.out]; rfl, HG.out⟩
      · have hzi : (z : Int) < (ls.length : Int) := by omega
        have hzj : ¬ (z : Int) < (ms.length : Int) := by omega
        have hli : ¬ (ls.length : Int) < (ms.length : Int) := by omega
        have hli2 : (ms.length : Int) < (ls.length : Int) := by omega
        have HS : Hid (R = 1) := by rw [← cmp_endB (by omega : z < ls.length) (by omega : ms.length ≤ z)]; exact hr.out.2
        clear hr hzb
        go_wp2
        go_ret
        exact ⟨by rw [HS.out]; rfl, HG.out⟩

set_option maxHeartbeats 1600000 in
theorem refSameQ (w : World) (v u : Value) (ls ms : List LbT) (hv : RdL w v ls) (hu : RdL w u ms) :
    Calls Tryd.prog 19 #[v, u] w fun e w' => e = .returned (.bool (decide (ls = ms))) ∧ Dr w w' := by
  have HC := hidJ (refCompareQ w v u ls ms hv hu)
  have HB : (cmpLs ls ms == 0) = decide (ls = ms) := by
    by_cases h : ls = ms
    · rw [decide_eq_true h, (cmpLs_zero ls ms).2 h]
      rfl
    · rw [decide_eq_false h, beq_eq_false_iff_ne]
      exact fun e => h ((cmpLs_zero ls ms).1 e)
  rw [← HB]
  obtain ⟨a, c, rfl⟩ : ∃ a c, v = .slice a ls.length c := by obtain ⟨a, c, h, _⟩ := hv; exact ⟨a, c, h⟩
  obtain ⟨a', c', rfl⟩ : ∃ a c, u = .slice a ms.length c := by obtain ⟨a, c, h, _⟩ := hu; exact ⟨a, c, h⟩
  clear hv hu HB
  generalize cmpLs ls ms = r at *
  go_enter Tryd.func19, Tryd.ntmps19
  go_wp2_with fail
  refine HC.out.mono ?_
  rintro e w1 ⟨rfl, hg⟩
  have H1 := hidJ hg
  clear HC hg
  go_wp2
  go_ret
  exact ⟨rfl, H1.out⟩
end Go.Proofs.YtmgbcmogdjhacaaDoor
