/-
  The document's Quantile: the walk.
-/
import Derived.Test.YtgpednikianneaaOvEx
namespace Go.Proofs.Ytgpednikianneaa
open Go.RowKit Go.Shelf Go.Sort
attribute [local go_sem] fwor_cell fwor_frozen fwor_size

theorem leV_trans {a b c : Nat} (h1 : leV a b) (h2 : leV b c) : leV a c := by
  rw [leV_iff] at *
  rintro (⟨c1, c2⟩ | ⟨c1, c2, c3⟩)
  · cases hb : nanB b with
    | true => exact h1 (.inl ⟨hb, c2⟩)
    | false => exact h2 (.inl ⟨c1, hb⟩)
  · cases hb : nanB b with
    | true => exact h1 (.inl ⟨hb, c2⟩)
    | false =>
      by_cases h : kyN b < kyN a
      · exact h1 (.inr ⟨hb, c2, h⟩)
      · exact h2 (.inr ⟨c1, hb, by omega⟩)
theorem leV_of_lt {a b : Nat} (h : cmpV a b < 0) : leV a b := by
  rw [cmpV_lt] at h
  rw [leV_iff]
  rintro (⟨c1, c2⟩ | ⟨c1, c2, c3⟩)
  · rcases h with ⟨h1, h2⟩ | ⟨h1, h2, h3⟩
    · rw [c2] at h1; cases h1
    · rw [c1] at h2; cases h2
  · rcases h with ⟨h1, h2⟩ | ⟨h1, h2, h3⟩
    · rw [c2] at h1; cases h1
    · omega
theorem ins_sorted {s : List Nat} {x k : Nat} (hs : s.Pairwise leV) (hk : k ≤ s.length) (h1 : k = 0 ∨ leV (s.getD (k - 1) 0) x) (h2 : ∀ j, k ≤ j → j < s.length → cmpV x (s.getD j 0) < 0) : (s.take k ++ [x] ++ s.drop k).Pairwise leV := by
  have hgd : ∀ j (h : j < s.length), s.getD j 0 = s[j] := fun j h => by simp [List.getD, h]
  have hsp := List.pairwise_iff_getElem.1 hs
  have hbx : ∀ b ∈ s.drop k, leV x b := fun b hb => by
    obtain ⟨j, hj, rfl⟩ := List.mem_iff_getElem.1 hb
    rw [List.length_drop] at hj
    have := h2 (k + j) (by omega) (by omega)
    rw [hgd _ (by omega)] at this
    rw [List.getElem_drop]
    exact leV_of_lt this
  have hax : ∀ a ∈ s.take k, leV a x := fun a ha => by
    obtain ⟨i, hi, rfl⟩ := List.mem_iff_getElem.1 ha
    rw [List.length_take] at hi
    rw [List.getElem_take]
    rcases h1 with h1 | h1
    · omega
    · rw [hgd _ (by omega)] at h1
      by_cases e : i = k - 1
      · subst e
        exact h1
      · exact leV_trans (hsp i (k - 1) (by omega) (by omega) (by omega)) h1
  rw [List.pairwise_append]
  refine ⟨?_, hs.sublist (List.drop_sublist _ _), fun a ha b hb => ?_⟩
  · rw [List.pairwise_append]
    refine ⟨hs.sublist (List.take_sublist _ _), List.pairwise_singleton _ _, fun a ha b hb => ?_⟩
    rw [List.mem_singleton] at hb
    subst hb
    exact hax a ha
  · rcases List.mem_append.1 ha with ha | ha
    · exact leV_trans (hax a ha) (hbx b hb)
    · rw [List.mem_singleton] at ha
      subst ha
      exact hbx b hb
theorem ins_perm (s : List Nat) (x k : Nat) : (s.take k ++ [x] ++ s.drop k).Perm (s ++ [x]) := by
  have h1 : (s.take k ++ [x] ++ s.drop k).Perm (s.take k ++ (s.drop k ++ [x])) := by
    rw [List.append_assoc]
    exact List.Perm.append_left _ List.perm_append_comm
  rw [← List.append_assoc, List.take_append_drop] at h1
  exact h1
/-- append of floats to a row of the call's own -/
theorem OwnFl.app {w wr : World} {v : Value} {l news : List Nat} (ho : OwnFl wr w.heap.size v l) (hw : w.grownBy wr none) {a : Option Addr} {m c : Nat} (hrd : RdC wr a (news.map flV) ∧ (a = none → m = 0 ∧ c = 0)) (hm : news.length = m) (hl : l.length + m ≤ 17592186044416) (ty : TypeId) :
    ∃ v' w', (Builtin.append_ #[23, 23] ty #[v, .slice a m c]).run Try.prog wr = .ok v' w' ∧ OwnFl w' w.heap.size v' (l ++ news) ∧ w.grownBy w' none := by
  obtain ⟨i0, hi, hz0, hz1, hz2⟩ := info_parts infoFl
  obtain ⟨v', w', hrun, h2, h3⟩ := run_appH wr ty 23 22 i0 _ 1 8 w.heap.size Try.underlying23 hi hz0 hz1 hz2 rfl (by decide) v l.length _ ho a m c (news.map flV) (by simp [hm]) hrd.1 hrd.2 (by intro u hu; obtain ⟨x, _, rfl⟩ := List.mem_map.1 hu; rfl) (by omega) (by omega) hw.size
  refine ⟨v', w', hrun, ?_, gb_new hw h3.1 (fun k hk => ?_)⟩
  · unfold OwnFl
    rw [List.length_append, List.map_append, hm]
    exact h2
  · rcases ho.2 with ⟨rfl, _⟩ | ⟨g, cap, cur, rfl, hbg, _⟩
    · simp [Value.ownBlock] at hk
    · simp [Value.ownBlock] at hk
      omega
theorem OwnFl.mono {w : World} {base base' : Nat} {v : Value} {l : List Nat} (h : OwnFl w base v l) (hb : base' ≤ base) : OwnFl w base' v l := by
  obtain ⟨h1, h2⟩ := h
  refine ⟨h1, ?_⟩
  rcases h2 with h2 | ⟨g, cap, cur, hv, hg, r⟩
  · exact .inl h2
  · exact .inr ⟨g, cap, cur, hv, by omega, r⟩
theorem OwnFl.at {w : World} {base : Nat} {v : Value} {l : List Nat} (h : OwnFl w base v l) (hl : 1 ≤ l.length) : ∃ g c, v = .slice (some ⟨g, 0, none⟩) l.length c ∧ l.length ≤ c ∧ c ≤ 9223372036854775807 ∧ ∀ wr, w.grownBy wr none → ∀ j, j < l.length → wr.cell? ⟨g, j, none⟩ = some (.float .f64 (l.getD j 0)) := by
  rcases h.2 with ⟨_, h'⟩ | ⟨g, cap, cur, rfl, hbg, hh, hnc, hcm, hcs, htake⟩
  · omega
  · unfold maxLen at hcm
    refine ⟨g, cap, rfl, hnc, by omega, fun wr hg j hj => ?_⟩
    have h0 : OwnFl wr base (.slice (some ⟨g, 0, none⟩) l.length cap) l := OwnFl.keep h hg
    have := World.ownsRow.cells h0 rfl j (.float .f64 (l.getD j 0)) (by simp [List.getD, hj]; rfl)
    rw [Go.WideShapes.add_plain] at this
    simpa using this
set_option maxRecDepth 8000 in
set_option maxHeartbeats 25600000 in
theorem qref_any (w : World) (b o c q : Nat) (l : List Nat) (hrd : RdC w (some ⟨b, o, none⟩) (l.map flV)) (hl : l ≠ []) (hin : ∀ x ∈ l, x < 18446744073709551616) (hsz : l.length ≤ 17592186044416) :
    Calls Try.prog 21 #[.float .f64 q, .slice (some ⟨b, o, none⟩) l.length c] w fun e w' => ∃ v, e = .returned (.float .f64 v) ∧ QuP q l v ∧ w.grownBy w' none := by
  have HE : Hid (∀ j, j < l.length → ∀ wr, w.grownBy wr none → wr.cell? ⟨b, o + j, none⟩ = some (.float .f64 (l.getD j 0))) := fun j hj wr hg => by
    obtain ⟨ad, e, hc⟩ := hrd j (.float .f64 (l.getD j 0)) (by simp [List.getD, hj]; rfl)
    simp only [Option.some.injEq] at e
    subst e
    rw [Go.WideShapes.add_plain] at hc
    exact World.grownBy.cell hg hc (by simp)
  have HIn : Hid (∀ j, j < l.length → l.getD j 0 < 18446744073709551616) := fun j hj => hin _ (by simp [List.getD, hj])
  have HIn2 := hidJ hin
  obtain ⟨M, hM⟩ : ∃ M, l.length = M + 1 := ⟨l.length - 1, by have := List.length_pos_iff.2 hl; omega⟩
  have HM := hidJ hM
  rw [hM] at hsz HE HIn ⊢
  clear hM hrd hl hin
  have h3 : ∀ w, (callFunc 12 #[.int .u64 9221120237041090561]).run Try.prog w = .ok (.value (.float .f64 9221120237041090561)) w := fun w => fromBits_run _ w
  have g0 : (FloatKind.f64.format.order q q != some .eq) = nanB q := rfl
  have g1 : (FloatKind.f64.format.order q 0 == some .lt) = (fo q 0 == some .lt) := rfl
  have g2 : (FloatKind.f64.format.order q 4607182418800017408 == some .gt) = (fo q 4607182418800017408 == some .gt) := rfl
  obtain ⟨QP, hQP⟩ : ∃ QP : Nat → Prop, QP = QuP q l := ⟨_, rfl⟩
  have HP1 : Hid (nanB q = true → QP 9221120237041090561) := fun h => by rw [hQP]; exact .inl ⟨h, rfl⟩
  have HP2 : Hid (nanB q = false → (fo q 0 == some .lt) = true → QP 18442240474082181120) := fun h h2 => by rw [hQP]; exact .inr (.inl ⟨h, h2, rfl⟩)
  have HP3 : Hid (nanB q = false → (fo q 0 == some .lt) = false → (fo q 4607182418800017408 == some .gt) = true → QP 9218868437227405312) := fun h h2 h4 => by rw [hQP]; exact .inr (.inr (.inl ⟨h, h2, h4, rfl⟩))
  have HP4 : Hid (nanB q = false → (fo q 0 == some .lt) = false → (fo q 4607182418800017408 == some .gt) = false → ∀ (s : List Nat) x, s.Perm l → s.Pairwise leV → x = quaC q s → QP x) := fun h h2 h4 s x a1 a2 a3 => by rw [hQP]; exact .inr (.inr (.inr ⟨h, h2, h4, s, a1, a2, a3⟩))
  have HK : Hid (nanB q = false → (fo q 0 == some .lt) = false → (fo q 4607182418800017408 == some .gt) = false → floatBits .mul .f64 q (floatOfInt .f64 (M : Int)) = some (quK q M) ∧ floatToIntVal .f64 (quK q M) .i64 = some ((quI q M : Nat) : Int) ∧ quI q M ≤ M) := fun h h2 h4 => by
    obtain ⟨k, i, e1, e2, e3⟩ := q_index (q := q) (M := M) (by omega) h h2 h4
    have ek : quK q M = k := by unfold quK; rw [e1]
    have ei : quI q M = i := by unfold quI; rw [ek, e2]; rfl
    rw [ek, ei]
    exact ⟨e1, e2, e3⟩
  rw [← hQP]
  clear hQP
  generalize hn : nanB q = nq at *
  generalize hlt : (fo q 0 == some .lt) = lt at *
  generalize hgt : (fo q 4607182418800017408 == some .gt) = gt at *
  clear hn hlt hgt
  cases nq with
  | true =>
    have HX := hidJ (HP1.out rfl)
    clear HP1 HP2 HP3 HP4 HK HE HIn g1 g2
    go_enter Try.func21, Try.ntmps21
    go_wp2
    go_ret
    exact ⟨_, rfl, HX.out, gb_refl _ _⟩
  | false =>
    cases lt with
    | true =>
      have HX := hidJ (HP2.out rfl rfl)
      have HI := hidJ (inf_neg w)
      clear HP1 HP2 HP3 HP4 HK HE HIn g2
      go_enter Try.func21, Try.ntmps21
      go_wp2_with fail
      refine HI.out.mono ?_
      rintro e w1 ⟨rfl, rfl⟩
      clear HI
      go_wp2
      go_ret
      exact ⟨_, rfl, HX.out, gb_refl _ _⟩
    | false =>
      cases gt with
      | true =>
        have HX := hidJ (HP3.out rfl rfl rfl)
        have HI := hidJ (inf_pos w)
        clear HP1 HP2 HP3 HP4 HK HE HIn
        go_enter Try.func21, Try.ntmps21
        go_wp2_with fail
        refine HI.out.mono ?_
        rintro e w1 ⟨rfl, rfl⟩
        clear HI
        go_wp2
        go_ret
        exact ⟨_, rfl, HX.out, gb_refl _ _⟩
      | false =>
        have H0 : Hid (∃ s : List Nat, s.Perm (l.take 0) ∧ s.Pairwise leV ∧ OwnFl w w.heap.size (.slice none 0 0) s ∧ w.grownBy w none) := ⟨[], List.Perm.refl _, List.Pairwise.nil, World.ownsRow_nil _ _ _ _, gb_refl _ _⟩
        clear HP1 HP2 HP3
        go_enter Try.func21, Try.ntmps21
        go_wp2
        go_loopw [5, 6] (fun us ui wr => ∃ z : Nat, z ≤ M + 1 ∧ ui = .int .i64 z ∧ Hid ((z = 0 → us = .slice none 0 0) ∧ ∃ s : List Nat, s.Perm (l.take z) ∧ s.Pairwise leV ∧ OwnFl wr w.heap.size us s ∧ w.grownBy wr none)) (fun _ ui _ => M + 1 - (intOf ui).toNat)
        case atStart => exact ⟨0, by omega, rfl, fun _ => rfl, H0.out⟩
        case round =>
          obtain ⟨z, hzM, rfl, hr⟩ := hrel
          clear H0
          obtain ⟨hr0, s, hs1, hs2, hs3, hs4⟩ := hr.out
          have hsl : s.length = z := by
            rw [hs1.length_eq, List.length_take, HM.out]
            omega
          by_cases hzl : z < M + 1
          · have hzi : (z : Int) < (M : Int) + 1 := by omega
            by_cases hz0 : z = 0
            · obtain rfl := hr0 hz0
              have hse : s = [] := List.eq_nil_of_length_eq_zero (by omega)
              have HEz : Hid (∀ W, wr.grownBy W none → W.cell? ⟨b, o + z, none⟩ = some (.float .f64 (l.getD z 0))) := fun W hW => HE.out z hzl W (gb_none hs4 hW)
              have HFin : Hid (∀ W1 W4 v3, wr.grownBy W1 none → W1.grownBy W4 none → OwnFl W4 W1.heap.size v3 ([] ++ [l.getD z 0] ++ []) →
                  (z + 1 = 0 → v3 = .slice none 0 0) ∧ ∃ s' : List Nat, s'.Perm (l.take (z + 1)) ∧ s'.Pairwise leV ∧ OwnFl W4 w.heap.size v3 s' ∧ w.grownBy W4 none) := fun W1 W4 v3 hg1 hg4 ho => by
                refine ⟨fun h => by omega, [] ++ [l.getD z 0] ++ [], ?_, ?_, ho.mono (gb_none hs4 hg1).size, gb_none hs4 (gb_none hg1 hg4)⟩
                · rw [List.take_succ_eq_append_getElem (by rw [HM.out]; exact hzl)]
                  have e : l.getD z 0 = l[z]'(by rw [HM.out]; exact hzl) := by simp [List.getD, show z < l.length by rw [HM.out]; exact hzl]
                  rw [← e, hz0, List.take_zero]
                  exact List.Perm.refl _
                · exact List.pairwise_singleton _ _
              have HG0 := hidJ (gb_refl wr none)
              have HZ := hidJ hz0
              clear hr hr0 hs1 hs2 hs3 hs4 HE HIn HIn2 HP4 HK hsl HM g0 g1 g2 hse hz0
              generalize l.getD z 0 = x at *
              generalize wr = W0 at *
              have hq1 : ¬ M + 1 ≤ z := by omega
              go_wp2
              go_loopw [7] (fun uk wr2 => uk = .int .i64 0 ∧ Hid (W0.grownBy wr2 none)) (fun _ _ => 0)
              case atStart => exact ⟨rfl, HG0.out⟩
              case round =>
                obtain ⟨rfl, hk⟩ := hrel
                clear HG0
                have HQ : Hid (∀ n : Nat, W0.grownBy (wr.drewN n) none) := fun n => gb_none hk.out ⟨rfl, rfl, rfl, Nat.le_refl _, fun _ _ _ => rfl⟩
                clear hk
                go_wp2
                go_quiet (fail)
                have HGk := hidJ (HQ.out nq)
                clear HQ
                generalize wr.drewN nq = W1 at *
                have HLk : Hid (([] : List Nat).length = 0 ∧ ([] : List Nat).length = 0) := ⟨rfl, rfl⟩
                have HRd1 : Hid (RdC W1 none (([] : List Nat).map flV) ∧ ((none : Option Addr) = none → 0 = 0 ∧ 0 = 0)) := ⟨fun j u hj => by simp at hj, fun _ => ⟨rfl, rfl⟩⟩
                have HRd2 : Hid (∀ W, W1.grownBy W none → RdC W none (([] : List Nat).map flV) ∧ ((none : Option Addr) = none → 0 = 0 ∧ 0 = 0)) := fun W _ => ⟨fun j u hj => by simp at hj, fun _ => ⟨rfl, rfl⟩⟩
                have HEx : Hid (∀ W, W1.grownBy W none → W.cell? ⟨b, o + z, none⟩ = some (.float .f64 x)) := fun W hW => HEz.out W (gb_none HGk.out hW)
                have HFk := hidJ HFin.out
                clear HEz HFin
                -- the row laid anew: world W1, the row s kept, k the place
                have hb1 : OwnFl W1 W1.heap.size (.slice none 0 0) [] := World.ownsRow_nil _ _ _ _
                obtain ⟨v1, W2, r1, o1, g1⟩ := OwnFl.app (w := W1) hb1 (gb_refl _ _) HRd1.out HLk.out.1 (by simp only [List.length_nil]; omega) 23
                have HRx : ∀ W : World, RdC (W.alloc (.cells #[.float .f64 x] 22)) (some ⟨W.heap.size, 0, none⟩) ([x].map flV) ∧ ((some ⟨W.heap.size, 0, none⟩ : Option Addr) = none → 1 = 0 ∧ 1 = 0) := fun W => ⟨fun j u hj => by
                  refine ⟨_, rfl, ?_⟩
                  rw [Go.WideShapes.add_plain, World.cell?, Go.heap_alloc_new W _]
                  have hj0 : j = 0 := by
                    have := (List.getElem?_eq_some_iff.1 hj).1
                    simp at this
                    exact this
                  subst hj0
                  exact hj, fun h => by cases h⟩
                obtain ⟨v2, W3, r2, o2, g2⟩ := OwnFl.app (w := W1) (o1.keep (alloc_gb W2 (.cells #[.float .f64 x] 22))) (gb_none g1 (alloc_gb _ _)) (HRx W2) rfl (by have := HLk.out.1; simp only [List.length_append, List.length_nil]; omega) 23
                obtain ⟨v3, W4, r3, o3, g3⟩ := OwnFl.app (w := W1) o2 g2 (HRd2.out W3 g2) HLk.out.2 (by have := HLk.out.1; simp only [List.length_append, List.length_nil, List.length_singleton]; omega) 23
                have HR1z := hidJ r1
                have HR2z := hidJ r2
                have HR3z := hidJ r3
                have d1 := HEx.out W2 g1
                have HNewz := hidJ (HFk.out W1 W4 v3 HGk.out g3 o3)
                clear r1 r2 r3 o1 o2 o3 g1 g2 g3 hb1 HRx HRd1 HRd2 HLk HEx HFk
                go_wp2_with (first
                  | (at_builtin; refine wp_appRun rfl (.tmp 52) (.tmp 55) 23 rfl _ _ _ rfl rfl HR1z.out ?_)
                  | (at_builtin; refine wp_appRun rfl (.tmp 57) (.tmp 62) 23 rfl _ _ _ rfl rfl HR2z.out ?_)
                  | (at_builtin; refine wp_appRun rfl (.tmp 64) (.tmp 67) 23 rfl _ _ _ rfl rfl HR3z.out ?_))
                go_roundw
                case rel => exact ⟨z + 1, by omega, by go_num, HNewz.out⟩
                case measure => simp [intOf]; omega
            · obtain ⟨g, cs, hus, hc1, hc2, hcell⟩ := hs3.at (by omega)
              rw [hsl] at hus hc1
              subst hus
              have hx64 := HIn.out z hzl
              have hs64 : ∀ j, j < z → s.getD j 0 < 18446744073709551616 := fun j hj => by
                have hm : s.getD j 0 ∈ s := by simp [List.getD, show j < s.length by omega]
                exact HIn2.out _ (List.mem_of_mem_take (hs1.mem_iff.1 hm))
              have HA : Hid (∀ j, j < z → ∀ W, Calls Try.prog 30 #[.float .f64 (l.getD z 0), .float .f64 (s.getD j 0)] W fun e w' => e = .returned (.bool (decide (cmpV (l.getD z 0) (s.getD j 0) < 0))) ∧ w' = W) := fun j hj W => by
                have := aheadF_any W (l.getD z 0) (s.getD j 0) hx64 (hs64 j hj)
                have e : aheadB (l.getD z 0) (s.getD j 0) = decide (cmpV (l.getD z 0) (s.getD j 0) < 0) := by
                  rw [Bool.eq_iff_iff, decide_eq_true_eq]
                  exact aheadB_iff hx64 (hs64 j hj)
                rw [e] at this
                exact this
              have HEz : Hid (∀ W, wr.grownBy W none → W.cell? ⟨b, o + z, none⟩ = some (.float .f64 (l.getD z 0))) := fun W hW => HE.out z hzl W (gb_none hs4 hW)
              have HCs : Hid (∀ W, wr.grownBy W none → ∀ j, j < z → W.cell? ⟨g, j, none⟩ = some (.float .f64 (s.getD j 0))) := fun W hW j hj => hcell W hW j (by omega)
              have HFin : Hid (∀ k, k ≤ z → (k = 0 ∨ leV (s.getD (k - 1) 0) (l.getD z 0)) → (∀ j, k ≤ j → j < z → cmpV (l.getD z 0) (s.getD j 0) < 0) → ∀ W1 W4 v3, wr.grownBy W1 none → W1.grownBy W4 none → OwnFl W4 W1.heap.size v3 (s.take k ++ [l.getD z 0] ++ s.drop k) →
                  (z + 1 = 0 → v3 = .slice none 0 0) ∧ ∃ s' : List Nat, s'.Perm (l.take (z + 1)) ∧ s'.Pairwise leV ∧ OwnFl W4 w.heap.size v3 s' ∧ w.grownBy W4 none) := fun k hk h1 h2 W1 W4 v3 hg1 hg4 ho => by
                refine ⟨fun h => by omega, _, (ins_perm s (l.getD z 0) k).trans ?_, ins_sorted hs2 (by omega) h1 (fun j a1 a2 => h2 j a1 (by omega)), ho.mono (gb_none hs4 hg1).size, gb_none hs4 (gb_none hg1 hg4)⟩
                rw [List.take_succ_eq_append_getElem (by rw [HM.out]; exact hzl)]
                have e : l.getD z 0 = l[z]'(by rw [HM.out]; exact hzl) := by simp [List.getD, show z < l.length by rw [HM.out]; exact hzl]
                rw [e]
                exact hs1.append_right _
              have HS := hidJ hsl
              have HG0 := hidJ (gb_refl wr none)
              clear hr hr0 hs1 hs2 hs3 hs4 hx64 hs64 hcell HE HIn HIn2 HP4 HK hsl HM g0 g1 g2
              generalize l.getD z 0 = x at *
              generalize wr = W0 at *
              have hq1 : ¬ M + 1 ≤ z := by omega
              go_wp2
              go_loopw [7] (fun uk wr2 => ∃ k : Nat, k ≤ z ∧ uk = .int .i64 k ∧ Hid ((∀ j, k ≤ j → j < z → cmpV x (s.getD j 0) < 0) ∧ W0.grownBy wr2 none)) (fun uk _ => (intOf uk).toNat)
              case atStart => exact ⟨z, Nat.le_refl _, rfl, fun j h1 h2 => by omega, HG0.out⟩
              case round =>
                obtain ⟨k, hkz, rfl, hk⟩ := hrel
                clear HG0
                by_cases hk0 : k = 0
                · have hki : ¬ (0 : Int) < (k : Int) := by omega
                  have hkd : decide (0 < k) = false := decide_eq_false (by omega)
                  have HQ : Hid (∀ n : Nat, W0.grownBy (wr.drewN n) none) := fun n => gb_none hk.out.2 ⟨rfl, rfl, rfl, Nat.le_refl _, fun _ _ _ => rfl⟩
                  have HFk : Hid (∀ W1 W4 v3, W0.grownBy W1 none → W1.grownBy W4 none → OwnFl W4 W1.heap.size v3 (s.take k ++ [x] ++ s.drop k) → (z + 1 = 0 → v3 = .slice none 0 0) ∧ ∃ s' : List Nat, s'.Perm (l.take (z + 1)) ∧ s'.Pairwise leV ∧ OwnFl W4 w.heap.size v3 s' ∧ w.grownBy W4 none) := HFin.out k hkz (.inl hk0) hk.out.1
                  clear hk HFin HA hk0
                  go_wp2
                  go_quiet (fail)
                  have HGk := hidJ (HQ.out nq)
                  clear HQ hki hkd
                  generalize wr.drewN nq = W1 at *
                  have HLk : Hid ((s.take k).length = k ∧ (s.drop k).length = z - k) := by
                    have := HS.out
                    exact ⟨by rw [List.length_take]; omega, by rw [List.length_drop]; omega⟩
                  have HRd1 : Hid (RdC W1 (some ⟨g, 0, none⟩) ((s.take k).map flV) ∧ ((some ⟨g, 0, none⟩ : Option Addr) = none → k = 0 ∧ cs = 0)) := ⟨fun j u hj => by
                    have hj' : j < k := by
                      have := (List.getElem?_eq_some_iff.1 hj).1
                      rw [List.length_map, HLk.out.1] at this
                      exact this
                    refine ⟨_, rfl, ?_⟩
                    rw [Go.WideShapes.add_plain]
                    have := HCs.out W1 HGk.out j (by omega)
                    rw [List.getElem?_map, List.getElem?_take_of_lt hj'] at hj
                    have hjs : j < s.length := by rw [HS.out]; omega
                    rw [List.getElem?_eq_getElem hjs] at hj
                    simp only [Option.map_some, Option.some.injEq] at hj
                    subst hj
                    simpa [List.getD, hjs, flV] using this, fun h => by cases h⟩
                  have HEx : Hid (∀ W, W1.grownBy W none → W.cell? ⟨b, o + z, none⟩ = some (.float .f64 x)) := fun W hW => HEz.out W (gb_none HGk.out hW)
                  by_cases hke : k = cs
                  · have HRd2 : Hid (∀ W, W1.grownBy W none → RdC W (some ⟨g, 0, none⟩) ((s.drop k).map flV) ∧ ((some ⟨g, 0, none⟩ : Option Addr) = none → z - k = 0 ∧ cs - k = 0)) := fun W hW => ⟨fun j u hj => by
                      have := (List.getElem?_eq_some_iff.1 hj).1
                      rw [List.length_map, HLk.out.2] at this
                      omega, fun h => by cases h⟩
                    have hzk : z = k := by omega
                    subst hzk
                    subst hke
                    rw [Nat.sub_self] at HLk HRd2
                    have hkc4 : (z : Int) ≤ (z : Int) := Int.le_refl _
                    clear HCs HEz HS
                    -- the row laid anew: world W1, the row s kept, k the place
                    have hb1 : OwnFl W1 W1.heap.size (.slice none 0 0) [] := World.ownsRow_nil _ _ _ _
                    obtain ⟨v1, W2, r1, o1, g1⟩ := OwnFl.app (w := W1) hb1 (gb_refl _ _) HRd1.out HLk.out.1 (by simp only [List.length_nil]; omega) 23
                    have HRx : ∀ W : World, RdC (W.alloc (.cells #[.float .f64 x] 22)) (some ⟨W.heap.size, 0, none⟩) ([x].map flV) ∧ ((some ⟨W.heap.size, 0, none⟩ : Option Addr) = none → 1 = 0 ∧ 1 = 0) := fun W => ⟨fun j u hj => by
                      refine ⟨_, rfl, ?_⟩
                      rw [Go.WideShapes.add_plain, World.cell?, Go.heap_alloc_new W _]
                      have hj0 : j = 0 := by
                        have := (List.getElem?_eq_some_iff.1 hj).1
                        simp at this
                        exact this
                      subst hj0
                      exact hj, fun h => by cases h⟩
                    obtain ⟨v2, W3, r2, o2, g2⟩ := OwnFl.app (w := W1) (o1.keep (alloc_gb W2 (.cells #[.float .f64 x] 22))) (gb_none g1 (alloc_gb _ _)) (HRx W2) rfl (by have := HLk.out.1; simp only [List.length_append, List.length_nil]; omega) 23
                    obtain ⟨v3, W4, r3, o3, g3⟩ := OwnFl.app (w := W1) o2 g2 (HRd2.out W3 g2) HLk.out.2 (by have := HLk.out.1; simp only [List.length_append, List.length_nil, List.length_singleton]; omega) 23
                    have HR1av := hidJ r1
                    have HR2av := hidJ r2
                    have HR3av := hidJ r3
                    have d1 := HEx.out W2 g1
                    have HNewav := hidJ (HFk.out W1 W4 v3 HGk.out g3 o3)
                    clear r1 r2 r3 o1 o2 o3 g1 g2 g3 hb1 HRx HRd1 HRd2 HLk HEx HFk
                    go_wp2_with (first
                      | (at_builtin; refine wp_appRun rfl (.tmp 52) (.tmp 55) 23 rfl _ _ _ rfl rfl HR1av.out ?_)
                      | (at_builtin; refine wp_appRun rfl (.tmp 57) (.tmp 62) 23 rfl _ _ _ rfl rfl HR2av.out ?_)
                      | (at_builtin; refine wp_appRun rfl (.tmp 64) (.tmp 67) 23 rfl _ _ _ rfl rfl HR3av.out ?_))
                    go_roundw
                    case rel => exact ⟨z + 1, by omega, by go_num, HNewav.out⟩
                    case measure => simp [intOf]; omega
                  · have HRd2 : Hid (∀ W, W1.grownBy W none → RdC W (some ⟨g, k, none⟩) ((s.drop k).map flV) ∧ ((some ⟨g, k, none⟩ : Option Addr) = none → z - k = 0 ∧ cs - k = 0)) := fun W hW => ⟨fun j u hj => by
                      have hj' : j < z - k := by
                        have := (List.getElem?_eq_some_iff.1 hj).1
                        rw [List.length_map, HLk.out.2] at this
                        exact this
                      refine ⟨_, rfl, ?_⟩
                      rw [Go.WideShapes.add_plain]
                      have := HCs.out W (gb_none HGk.out hW) (k + j) (by omega)
                      rw [List.getElem?_map, List.getElem?_drop] at hj
                      have hjs : k + j < s.length := by rw [HS.out]; omega
                      rw [List.getElem?_eq_getElem hjs] at hj
                      simp only [Option.map_some, Option.some.injEq] at hj
                      subst hj
                      simpa [List.getD, hjs, flV] using this, fun h => by cases h⟩
                    have hkc1 : k < cs := by omega
                    have hkc2 : (k : Int) < (cs : Int) := by omega
                    have hkc3 : k ≤ cs := by omega
                    have hkc4 : (k : Int) ≤ (cs : Int) := by omega
                    have hkz1 : (k : Int) ≤ (z : Int) := by omega
                    clear hke HCs HEz HS
                    -- the row laid anew: world W1, the row s kept, k the place
                    have hb1 : OwnFl W1 W1.heap.size (.slice none 0 0) [] := World.ownsRow_nil _ _ _ _
                    obtain ⟨v1, W2, r1, o1, g1⟩ := OwnFl.app (w := W1) hb1 (gb_refl _ _) HRd1.out HLk.out.1 (by simp only [List.length_nil]; omega) 23
                    have HRx : ∀ W : World, RdC (W.alloc (.cells #[.float .f64 x] 22)) (some ⟨W.heap.size, 0, none⟩) ([x].map flV) ∧ ((some ⟨W.heap.size, 0, none⟩ : Option Addr) = none → 1 = 0 ∧ 1 = 0) := fun W => ⟨fun j u hj => by
                      refine ⟨_, rfl, ?_⟩
                      rw [Go.WideShapes.add_plain, World.cell?, Go.heap_alloc_new W _]
                      have hj0 : j = 0 := by
                        have := (List.getElem?_eq_some_iff.1 hj).1
                        simp at this
                        exact this
                      subst hj0
                      exact hj, fun h => by cases h⟩
                    obtain ⟨v2, W3, r2, o2, g2⟩ := OwnFl.app (w := W1) (o1.keep (alloc_gb W2 (.cells #[.float .f64 x] 22))) (gb_none g1 (alloc_gb _ _)) (HRx W2) rfl (by have := HLk.out.1; simp only [List.length_append, List.length_nil]; omega) 23
                    obtain ⟨v3, W4, r3, o3, g3⟩ := OwnFl.app (w := W1) o2 g2 (HRd2.out W3 g2) HLk.out.2 (by have := HLk.out.1; simp only [List.length_append, List.length_nil, List.length_singleton]; omega) 23
                    have HR1au := hidJ r1
                    have HR2au := hidJ r2
                    have HR3au := hidJ r3
                    have d1 := HEx.out W2 g1
                    have HNewau := hidJ (HFk.out W1 W4 v3 HGk.out g3 o3)
                    clear r1 r2 r3 o1 o2 o3 g1 g2 g3 hb1 HRx HRd1 HRd2 HLk HEx HFk
                    go_wp2_with (first
                      | (at_builtin; refine wp_appRun rfl (.tmp 52) (.tmp 55) 23 rfl _ _ _ rfl rfl HR1au.out ?_)
                      | (at_builtin; refine wp_appRun rfl (.tmp 57) (.tmp 62) 23 rfl _ _ _ rfl rfl HR2au.out ?_)
                      | (at_builtin; refine wp_appRun rfl (.tmp 64) (.tmp 67) 23 rfl _ _ _ rfl rfl HR3au.out ?_))
                    go_roundw
                    case rel => exact ⟨z + 1, by omega, by go_num, HNewau.out⟩
                    case measure => simp [intOf]; omega
                · obtain ⟨p, hp⟩ : ∃ p, k = p + 1 := ⟨k - 1, by omega⟩
                  have hki : (0 : Int) < (k : Int) := by omega
                  have hk2 : 0 < k := by omega
                  have hwk : IntKind.i64.wrap ((k : Int) - 1) = (p : Int) := by rw [IntKind.wrap_i64]; omega
                  have hp1 : ¬ z ≤ p := by omega
                  have hp2 : p < z := by omega
                  have c1 := HEz.out wr hk.out.2
                  have c2 := HCs.out wr hk.out.2 p hp2
                  have HAp := hidJ (HA.out p hp2)
                  have HQ : Hid (∀ n : Nat, W0.grownBy (wr.drewN n) none) := fun n => gb_none hk.out.2 ⟨rfl, rfl, rfl, Nat.le_refl _, fun _ _ _ => rfl⟩
                  by_cases hcv : cmpV x (s.getD p 0) < 0
                  · have HR : Hid (∀ j, p ≤ j → j < z → cmpV x (s.getD j 0) < 0) := fun j h1 h2 => by
                      by_cases e : j = p
                      · rw [e]; exact hcv
                      · exact hk.out.1 j (by omega) h2
                    rw [decide_eq_true hcv] at HAp
                    have HKp : Hid (p < k) := hidJ (show p < k by omega)
                    clear hk HFin HA hk0 hcv HCs HEz hp
                    generalize s.getD p 0 = y at *
                    go_wp2
                    go_quiet ((go_at_call 30; exact Calls.quiet_of_same (HAp.out _)))
                    have HGk := hidJ (HQ.out nq)
                    clear HQ
                    go_wp2
                    go_roundw
                    case rel => exact ⟨p, by omega, by go_num, HR.out, HGk.out⟩
                    case measure =>
                      have := HKp.out
                      simp [intOf]
                      omega
                  · have HFk : Hid (∀ W1 W4 v3, W0.grownBy W1 none → W1.grownBy W4 none → OwnFl W4 W1.heap.size v3 (s.take k ++ [x] ++ s.drop k) → (z + 1 = 0 → v3 = .slice none 0 0) ∧ ∃ s' : List Nat, s'.Perm (l.take (z + 1)) ∧ s'.Pairwise leV ∧ OwnFl W4 w.heap.size v3 s' ∧ w.grownBy W4 none) := HFin.out k hkz (.inr (by rw [hp, Nat.add_sub_cancel]; exact hcv)) hk.out.1
                    rw [decide_eq_false hcv] at HAp
                    clear hk HFin HA hk0 hcv hp
                    generalize s.getD p 0 = y at *
                    go_wp2
                    go_quiet ((go_at_call 30; exact Calls.quiet_of_same (HAp.out _)))
                    have HGk := hidJ (HQ.out nq)
                    clear HQ hki hk2 hwk hp1 hp2 c1 c2 HAp
                    generalize wr.drewN nq = W1 at *
                    have HLk : Hid ((s.take k).length = k ∧ (s.drop k).length = z - k) := by
                      have := HS.out
                      exact ⟨by rw [List.length_take]; omega, by rw [List.length_drop]; omega⟩
                    have HRd1 : Hid (RdC W1 (some ⟨g, 0, none⟩) ((s.take k).map flV) ∧ ((some ⟨g, 0, none⟩ : Option Addr) = none → k = 0 ∧ cs = 0)) := ⟨fun j u hj => by
                      have hj' : j < k := by
                        have := (List.getElem?_eq_some_iff.1 hj).1
                        rw [List.length_map, HLk.out.1] at this
                        exact this
                      refine ⟨_, rfl, ?_⟩
                      rw [Go.WideShapes.add_plain]
                      have := HCs.out W1 HGk.out j (by omega)
                      rw [List.getElem?_map, List.getElem?_take_of_lt hj'] at hj
                      have hjs : j < s.length := by rw [HS.out]; omega
                      rw [List.getElem?_eq_getElem hjs] at hj
                      simp only [Option.map_some, Option.some.injEq] at hj
                      subst hj
                      simpa [List.getD, hjs, flV] using this, fun h => by cases h⟩
                    have HEx : Hid (∀ W, W1.grownBy W none → W.cell? ⟨b, o + z, none⟩ = some (.float .f64 x)) := fun W hW => HEz.out W (gb_none HGk.out hW)
                    by_cases hke : k = cs
                    · have HRd2 : Hid (∀ W, W1.grownBy W none → RdC W (some ⟨g, 0, none⟩) ((s.drop k).map flV) ∧ ((some ⟨g, 0, none⟩ : Option Addr) = none → z - k = 0 ∧ cs - k = 0)) := fun W hW => ⟨fun j u hj => by
                        have := (List.getElem?_eq_some_iff.1 hj).1
                        rw [List.length_map, HLk.out.2] at this
                        omega, fun h => by cases h⟩
                      have hzk : z = k := by omega
                      subst hzk
                      subst hke
                      rw [Nat.sub_self] at HLk HRd2
                      have hkc4 : (z : Int) ≤ (z : Int) := Int.le_refl _
                      clear HCs HEz HS
                      -- the row laid anew: world W1, the row s kept, k the place
                      have hb1 : OwnFl W1 W1.heap.size (.slice none 0 0) [] := World.ownsRow_nil _ _ _ _
                      obtain ⟨v1, W2, r1, o1, g1⟩ := OwnFl.app (w := W1) hb1 (gb_refl _ _) HRd1.out HLk.out.1 (by simp only [List.length_nil]; omega) 23
                      have HRx : ∀ W : World, RdC (W.alloc (.cells #[.float .f64 x] 22)) (some ⟨W.heap.size, 0, none⟩) ([x].map flV) ∧ ((some ⟨W.heap.size, 0, none⟩ : Option Addr) = none → 1 = 0 ∧ 1 = 0) := fun W => ⟨fun j u hj => by
                        refine ⟨_, rfl, ?_⟩
                        rw [Go.WideShapes.add_plain, World.cell?, Go.heap_alloc_new W _]
                        have hj0 : j = 0 := by
                          have := (List.getElem?_eq_some_iff.1 hj).1
                          simp at this
                          exact this
                        subst hj0
                        exact hj, fun h => by cases h⟩
                      obtain ⟨v2, W3, r2, o2, g2⟩ := OwnFl.app (w := W1) (o1.keep (alloc_gb W2 (.cells #[.float .f64 x] 22))) (gb_none g1 (alloc_gb _ _)) (HRx W2) rfl (by have := HLk.out.1; simp only [List.length_append, List.length_nil]; omega) 23
                      obtain ⟨v3, W4, r3, o3, g3⟩ := OwnFl.app (w := W1) o2 g2 (HRd2.out W3 g2) HLk.out.2 (by have := HLk.out.1; simp only [List.length_append, List.length_nil, List.length_singleton]; omega) 23
                      have HR1bv := hidJ r1
                      have HR2bv := hidJ r2
                      have HR3bv := hidJ r3
                      have d1 := HEx.out W2 g1
                      have HNewbv := hidJ (HFk.out W1 W4 v3 HGk.out g3 o3)
                      clear r1 r2 r3 o1 o2 o3 g1 g2 g3 hb1 HRx HRd1 HRd2 HLk HEx HFk
                      go_wp2_with (first
                        | (at_builtin; refine wp_appRun rfl (.tmp 52) (.tmp 55) 23 rfl _ _ _ rfl rfl HR1bv.out ?_)
                        | (at_builtin; refine wp_appRun rfl (.tmp 57) (.tmp 62) 23 rfl _ _ _ rfl rfl HR2bv.out ?_)
                        | (at_builtin; refine wp_appRun rfl (.tmp 64) (.tmp 67) 23 rfl _ _ _ rfl rfl HR3bv.out ?_))
                      go_roundw
                      case rel => exact ⟨z + 1, by omega, by go_num, HNewbv.out⟩
                      case measure => simp [intOf]; omega
                    · have HRd2 : Hid (∀ W, W1.grownBy W none → RdC W (some ⟨g, k, none⟩) ((s.drop k).map flV) ∧ ((some ⟨g, k, none⟩ : Option Addr) = none → z - k = 0 ∧ cs - k = 0)) := fun W hW => ⟨fun j u hj => by
                        have hj' : j < z - k := by
                          have := (List.getElem?_eq_some_iff.1 hj).1
                          rw [List.length_map, HLk.out.2] at this
                          exact this
                        refine ⟨_, rfl, ?_⟩
                        rw [Go.WideShapes.add_plain]
                        have := HCs.out W (gb_none HGk.out hW) (k + j) (by omega)
                        rw [List.getElem?_map, List.getElem?_drop] at hj
                        have hjs : k + j < s.length := by rw [HS.out]; omega
                        rw [List.getElem?_eq_getElem hjs] at hj
                        simp only [Option.map_some, Option.some.injEq] at hj
                        subst hj
                        simpa [List.getD, hjs, flV] using this, fun h => by cases h⟩
                      have hkc1 : k < cs := by omega
                      have hkc2 : (k : Int) < (cs : Int) := by omega
                      have hkc3 : k ≤ cs := by omega
                      have hkc4 : (k : Int) ≤ (cs : Int) := by omega
                      have hkz1 : (k : Int) ≤ (z : Int) := by omega
                      clear hke HCs HEz HS
                      -- the row laid anew: world W1, the row s kept, k the place
                      have hb1 : OwnFl W1 W1.heap.size (.slice none 0 0) [] := World.ownsRow_nil _ _ _ _
                      obtain ⟨v1, W2, r1, o1, g1⟩ := OwnFl.app (w := W1) hb1 (gb_refl _ _) HRd1.out HLk.out.1 (by simp only [List.length_nil]; omega) 23
                      have HRx : ∀ W : World, RdC (W.alloc (.cells #[.float .f64 x] 22)) (some ⟨W.heap.size, 0, none⟩) ([x].map flV) ∧ ((some ⟨W.heap.size, 0, none⟩ : Option Addr) = none → 1 = 0 ∧ 1 = 0) := fun W => ⟨fun j u hj => by
                        refine ⟨_, rfl, ?_⟩
                        rw [Go.WideShapes.add_plain, World.cell?, Go.heap_alloc_new W _]
                        have hj0 : j = 0 := by
                          have := (List.getElem?_eq_some_iff.1 hj).1
                          simp at this
                          exact this
                        subst hj0
                        exact hj, fun h => by cases h⟩
                      obtain ⟨v2, W3, r2, o2, g2⟩ := OwnFl.app (w := W1) (o1.keep (alloc_gb W2 (.cells #[.float .f64 x] 22))) (gb_none g1 (alloc_gb _ _)) (HRx W2) rfl (by have := HLk.out.1; simp only [List.length_append, List.length_nil]; omega) 23
                      obtain ⟨v3, W4, r3, o3, g3⟩ := OwnFl.app (w := W1) o2 g2 (HRd2.out W3 g2) HLk.out.2 (by have := HLk.out.1; simp only [List.length_append, List.length_nil, List.length_singleton]; omega) 23
                      have HR1bu := hidJ r1
                      have HR2bu := hidJ r2
                      have HR3bu := hidJ r3
                      have d1 := HEx.out W2 g1
                      have HNewbu := hidJ (HFk.out W1 W4 v3 HGk.out g3 o3)
                      clear r1 r2 r3 o1 o2 o3 g1 g2 g3 hb1 HRx HRd1 HRd2 HLk HEx HFk
                      go_wp2_with (first
                        | (at_builtin; refine wp_appRun rfl (.tmp 52) (.tmp 55) 23 rfl _ _ _ rfl rfl HR1bu.out ?_)
                        | (at_builtin; refine wp_appRun rfl (.tmp 57) (.tmp 62) 23 rfl _ _ _ rfl rfl HR2bu.out ?_)
                        | (at_builtin; refine wp_appRun rfl (.tmp 64) (.tmp 67) 23 rfl _ _ _ rfl rfl HR3bu.out ?_))
                      go_roundw
                      case rel => exact ⟨z + 1, by omega, by go_num, HNewbu.out⟩
                      case measure => simp [intOf]; omega
          · have hzi : ¬ (z : Int) < (M : Int) + 1 := by omega
            have hzn : z = M + 1 := by omega
            subst hzn
            obtain ⟨k1, k2, k3⟩ := HK.out (by first | exact rfl | trivial) (by first | exact rfl | trivial) (by first | exact rfl | trivial)
            obtain ⟨g, cs, hus, hc1, hc2, hcell⟩ := hs3.at (by omega)
            rw [hsl] at hus hc1 hcell
            subst hus
            have hsp : s.Perm l := by
              have := hs1
              rw [← HM.out, List.take_length] at this
              exact this
            have HX : Hid (∀ x, x = fopC .add (fopC .mul (cz (s.getD (quI q M) 0)) (fopC .sub (cz 4607182418800017408) (quW q M))) (fopC .mul (cz (s.getD (min (quI q M + 1) M) 0)) (quW q M)) → QP x) := fun x a3 => HP4.out (by first | exact rfl | trivial) (by first | exact rfl | trivial) (by first | exact rfl | trivial) s x hsp hs2 (by
              have e : s.length - 1 = M := by rw [hsl]; rfl
              unfold quaC
              rw [e]
              exact a3)
            have HW : Hid (quW q M = fopC .sub (cz (quK q M)) (cz (floatOfInt .f64 ((quI q M : Nat) : Int)))) := rfl
            generalize quK q M = k at *
            generalize quI q M = i at *
            generalize quW q M = qw at *
            have HG0 := hidJ hs4
            clear HP4 HK HE HIn HIn2 hr hr0 hs1 hs2 hs3 hs4 hsl hsp
            obtain ⟨jn, hjn⟩ : ∃ jn, min (i + 1) M = jn := ⟨_, rfl⟩
            rw [hjn] at HX
            have hjM : jn ≤ M := by omega
            have ci := hcell wr (gb_refl _ _) i (by omega)
            have cj := hcell wr (gb_refl _ _) jn (by omega)
            obtain ⟨wt, w4, hq4, hd4, hg4, hc4, hs4⟩ := fop_at wr (op := .sub) (.inr (.inl rfl)) k (floatOfInt .f64 (i : Int))
            have hsub4 := hq4 22
            have ci4 := (hc4 ⟨g, i, none⟩).trans ci
            have cj4 := (hc4 ⟨g, jn, none⟩).trans cj
            have HG4 := hidJ (gb_none HG0.out hg4)
            have HCz : Hid (cz wt = qw) := hd4.trans HW.out.symm
            have HSw : Hid (∀ W, w4.grownBy W none → W.cell? ⟨g, i, none⟩ = some (.float .f64 (s.getD i 0)) ∧ W.cell? ⟨g, jn, none⟩ = some (.float .f64 (s.getD jn 0))) := fun W hW => ⟨World.grownBy.cell hW ci4 (by simp), World.grownBy.cell hW cj4 (by simp)⟩
            have HTw : Hid (∀ W x, w4.grownBy W none → Calls Try.prog 31 #[.float .f64 x] W fun e w' => ∃ v, e = .returned (.float .f64 v) ∧ Hid (w4.grownBy w' none ∧ v = cz x)) := fun W x hW => (told15_any W x).mono (by
              rintro e w' ⟨rfl, rfl⟩
              exact ⟨_, rfl, hW, rfl⟩)
            obtain ⟨QR, hQR⟩ : ∃ QR, fopC .add (fopC .mul (cz (s.getD i 0)) (fopC .sub (cz 4607182418800017408) qw)) (fopC .mul (cz (s.getD jn 0)) qw) = QR := ⟨_, rfl⟩
            have HQe : Hid (fopC .add (fopC .mul (cz (s.getD i 0)) (fopC .sub (cz 4607182418800017408) (cz wt))) (fopC .mul (cz (s.getD jn 0)) (cz wt)) = QR) := by
              rw [HCz.out]
              exact hQR
            have HQz : Hid (∀ z, z = QR → QP z) := fun z hz => HX.out z (hz.trans hQR.symm)
            have o1 : ∀ W, (binOp .mul 22 (.float .f64 q) (.float .f64 (floatOfInt .f64 (M : Int)))).run Try.prog W = .ok (.float .f64 k) W := fun W => run_float_arith W .mul 22 .f64 q _ k k1
            have oc : ∀ W, (convert 22 3 (.float .f64 k)).run Try.prog W = .ok (.int .i64 (i : Int)) W := fun W => run_convert_float_int W 22 3 .f64 .i64 k i (by kernel_rfl) Try.underlying3 k2
            have hwm : IntKind.i64.wrap (((M : Int) + 1) - 1) = (M : Int) := by rw [IntKind.wrap_i64]; omega
            clear hQR HX HCz ci cj ci4 cj4 hcell hq4 hd4 hg4 hc4 hs4 HW HG0 k1 k2 HM
            generalize s.getD i 0 = si at *
            generalize s.getD jn 0 = sj at *
            have hsub : ∀ W a b, (binOp .sub 22 (.float .f64 a) (.float .f64 b)).run Try.prog W = .ok (.float .f64 (fres W .sub a b)) (fwor W .sub a b) := fun W a b => run_fop W (.inr (.inl rfl)) _ _ _
            have hmul : ∀ W a b, (binOp .mul 22 (.float .f64 a) (.float .f64 b)).run Try.prog W = .ok (.float .f64 (fres W .mul a b)) (fwor W .mul a b) := fun W a b => run_fop W (.inr (.inr (.inl rfl))) _ _ _
            have hadd : ∀ W a b, (binOp .add 22 (.float .f64 a) (.float .f64 b)).run Try.prog W = .ok (.float .f64 (fres W .add a b)) (fwor W .add a b) := fun W a b => run_fop W (.inl rfl) _ _ _
            have HH := hidJ (And.intro hsub (And.intro hmul hadd))
            clear hsub hmul hadd
            by_cases hiM : i = M
            · have hjj : jn = M := by omega
              subst hjj
              obtain ⟨j1, hj1⟩ : ∃ j1, j1 = jn + 1 := ⟨_, rfl⟩
              have hwi : IntKind.i64.wrap ((i : Int) + 1) = (j1 : Int) := by rw [IntKind.wrap_i64]; omega
              have hcj : (jn : Int) < (j1 : Int) := by omega
              have hi1z : (i : Int) < (jn : Int) + 1 := by omega
              have hj1z : (jn : Int) < (jn : Int) + 1 := by omega
              clear hj1 hjn k3 hiM hjM
              go_wp2
              obtain ⟨hsub, hmul, hadd⟩ := HH.out
              have HT := hidJ HTw.out
              clear HTw o1 oc hsub4 HH
              refine wp_region_held_drew (S := (fun w' => w'.cell? ⟨g, i, none⟩ = some (.float .f64 si) ∧ w'.cell? ⟨g, jn, none⟩ = some (.float .f64 sj))) (by kernel_rfl) (HSw.out _ (gb_drew _ _)) (fun _ => ?_)
              refine wpAnyH_take (i := 0) (oi := { dst := some 92, op := Go.Op.move (Go.Operand.tmp 5), type := 23, pos := "quantile.go:46", after := #[], guard := none }) (v := ?v39ka) rfl (by kernel_rfl) (by kernel_rfl) (by kernel_rfl) (fun _ _ _ h => h) (Or.inl ⟨by rfl, ?y39ka⟩) (HSw.out _ (gb_drew _ _)) ?r39ka
              case y39ka => intro wq hSw; obtain ⟨s1, s2⟩ := hSw; go_simp; try with_reducible rfl
              case' r39ka => skip
              try simp only [Act.put, List.setIfInBounds_toArray, List.set_cons_zero, List.set_cons_succ]
              refine wpAnyH_take (i := 1) (oi := { dst := some 93, op := Go.Op.move (Go.Operand.tmp 10), type := 3, pos := "quantile.go:46", after := #[], guard := none }) (v := ?v40ka) rfl (by kernel_rfl) (by kernel_rfl) (by kernel_rfl) (fun _ _ _ h => h) (Or.inl ⟨by rfl, ?y40ka⟩) (HSw.out _ (gb_drew _ _)) ?r40ka
              case y40ka => intro wq hSw; obtain ⟨s1, s2⟩ := hSw; go_simp; try with_reducible rfl
              case' r40ka => skip
              try simp only [Act.put, List.setIfInBounds_toArray, List.set_cons_zero, List.set_cons_succ]
              refine wpAnyH_take (i := 2) (oi := { dst := some 94, op := Go.Op.indexAddr 23 (Go.Operand.tmp 92) (Go.Operand.tmp 93), type := 0, pos := "quantile.go:46", after := #[{ on := 0, ground := Go.Ground.data }, { on := 1, ground := Go.Ground.data }], guard := none }) (v := ?v41ka) rfl (by kernel_rfl) (by kernel_rfl) (by kernel_rfl) (fun _ _ _ h => h) (Or.inl ⟨by rfl, ?y41ka⟩) (HSw.out _ (gb_drew _ _)) ?r41ka
              case y41ka => intro wq hSw; obtain ⟨s1, s2⟩ := hSw; go_simp; try with_reducible rfl
              case' r41ka => skip
              try simp only [Act.put, List.setIfInBounds_toArray, List.set_cons_zero, List.set_cons_succ]
              refine wpAnyH_take (i := 3) (oi := { dst := some 95, op := Go.Op.load 22 (Go.Operand.tmp 94), type := 22, pos := "quantile.go:46", after := #[{ on := 2, ground := Go.Ground.data }], guard := none }) (v := ?v42ka) rfl (by kernel_rfl) (by kernel_rfl) (by kernel_rfl) (fun _ _ _ h => h) (Or.inl ⟨by rfl, ?y42ka⟩) (HSw.out _ (gb_drew _ _)) ?r42ka
              case y42ka => intro wq hSw; obtain ⟨s1, s2⟩ := hSw; go_simp; try with_reducible rfl
              case' r42ka => skip
              try simp only [Act.put, List.setIfInBounds_toArray, List.set_cons_zero, List.set_cons_succ]
              refine wpAnyH_take (i := 4) (oi := { dst := some 96, op := Go.Op.move (Go.Operand.tmp 12), type := 22, pos := "quantile.go:46", after := #[], guard := none }) (v := ?v43ka) rfl (by kernel_rfl) (by kernel_rfl) (by kernel_rfl) (fun _ _ _ h => h) (Or.inl ⟨by rfl, ?y43ka⟩) (HSw.out _ (gb_drew _ _)) ?r43ka
              case y43ka => intro wq hSw; obtain ⟨s1, s2⟩ := hSw; go_simp; try with_reducible rfl
              case' r43ka => skip
              try simp only [Act.put, List.setIfInBounds_toArray, List.set_cons_zero, List.set_cons_succ]
              refine wpAnyH_take (i := 7) (oi := { dst := some 99, op := Go.Op.move (Go.Operand.tmp 5), type := 23, pos := "quantile.go:46", after := #[], guard := none }) (v := ?v44ka) rfl (by kernel_rfl) (by kernel_rfl) (by kernel_rfl) (fun _ _ _ h => h) (Or.inl ⟨by rfl, ?y44ka⟩) (HSw.out _ (gb_drew _ _)) ?r44ka
              case y44ka => intro wq hSw; obtain ⟨s1, s2⟩ := hSw; go_simp; try with_reducible rfl
              case' r44ka => skip
              try simp only [Act.put, List.setIfInBounds_toArray, List.set_cons_zero, List.set_cons_succ]
              refine wpAnyH_take (i := 8) (oi := { dst := some 100, op := Go.Op.move (Go.Operand.tmp 11), type := 3, pos := "quantile.go:46", after := #[], guard := none }) (v := ?v45ka) rfl (by kernel_rfl) (by kernel_rfl) (by kernel_rfl) (fun _ _ _ h => h) (Or.inl ⟨by rfl, ?y45ka⟩) (HSw.out _ (gb_drew _ _)) ?r45ka
              case y45ka => intro wq hSw; obtain ⟨s1, s2⟩ := hSw; go_simp; try with_reducible rfl
              case' r45ka => skip
              try simp only [Act.put, List.setIfInBounds_toArray, List.set_cons_zero, List.set_cons_succ]
              refine wpAnyH_take (i := 9) (oi := { dst := some 101, op := Go.Op.indexAddr 23 (Go.Operand.tmp 99) (Go.Operand.tmp 100), type := 0, pos := "quantile.go:46", after := #[{ on := 7, ground := Go.Ground.data }, { on := 8, ground := Go.Ground.data }], guard := none }) (v := ?v46ka) rfl (by kernel_rfl) (by kernel_rfl) (by kernel_rfl) (fun _ _ _ h => h) (Or.inl ⟨by rfl, ?y46ka⟩) (HSw.out _ (gb_drew _ _)) ?r46ka
              case y46ka => intro wq hSw; obtain ⟨s1, s2⟩ := hSw; go_simp; try with_reducible rfl
              case' r46ka => skip
              try simp only [Act.put, List.setIfInBounds_toArray, List.set_cons_zero, List.set_cons_succ]
              refine wpAnyH_take (i := 10) (oi := { dst := some 102, op := Go.Op.load 22 (Go.Operand.tmp 101), type := 22, pos := "quantile.go:46", after := #[{ on := 9, ground := Go.Ground.data }], guard := none }) (v := ?v47ka) rfl (by kernel_rfl) (by kernel_rfl) (by kernel_rfl) (fun _ _ _ h => h) (Or.inl ⟨by rfl, ?y47ka⟩) (HSw.out _ (gb_drew _ _)) ?r47ka
              case y47ka => intro wq hSw; obtain ⟨s1, s2⟩ := hSw; go_simp; try with_reducible rfl
              case' r47ka => skip
              try simp only [Act.put, List.setIfInBounds_toArray, List.set_cons_zero, List.set_cons_succ]
              refine wpAnyH_take (i := 11) (oi := { dst := some 103, op := Go.Op.move (Go.Operand.tmp 12), type := 22, pos := "quantile.go:46", after := #[], guard := none }) (v := ?v48ka) rfl (by kernel_rfl) (by kernel_rfl) (by kernel_rfl) (fun _ _ _ h => h) (Or.inl ⟨by rfl, ?y48ka⟩) (HSw.out _ (gb_drew _ _)) ?r48ka
              case y48ka => intro wq hSw; obtain ⟨s1, s2⟩ := hSw; go_simp; try with_reducible rfl
              case' r48ka => skip
              try simp only [Act.put, List.setIfInBounds_toArray, List.set_cons_zero, List.set_cons_succ]
              refine wpAnyH_ready (rs := [5, 12]) (by kernel_rfl) (by simp) ?_
              refine AllReadyH.cons (o := { dst := some 97, op := Go.Op.binOp Go.BinOp.sub 22 (Go.Operand.const (Go.Value.float Go.FloatKind.f64 4607182418800017408)) (Go.Operand.tmp 96) 22, type := 22, pos := "quantile.go:46", after := #[{ on := 4, ground := Go.Ground.data }], guard := none }) rfl (fun K hK => ?_) ?_
              · go_simp
                refine hK.out _ _ (HSw.out _ (gb_none (gb_drew _ _) (fwor_gb _ _ _ _))) (fun _ => ?_)
                clear hK
                try simp only [Act.put, List.setIfInBounds_toArray, List.set_cons_zero, List.set_cons_succ]
                refine wpAnyH_ready (rs := [6, 12]) (by kernel_rfl) (by simp) ?_
                refine AllReadyH.cons (o := { dst := some 98, op := Go.Op.binOp Go.BinOp.mul 22 (Go.Operand.tmp 95) (Go.Operand.tmp 97) 22, type := 22, pos := "quantile.go:46", after := #[{ on := 3, ground := Go.Ground.data }, { on := 5, ground := Go.Ground.data }], guard := none }) rfl (fun K hK => ?_) ?_
                · go_simp
                  refine hK.out _ _ (HSw.out _ (gb_none (gb_none (gb_drew _ _) (fwor_gb _ _ _ _)) (fwor_gb _ _ _ _))) (fun _ => ?_)
                  clear hK
                  try simp only [Act.put, List.setIfInBounds_toArray, List.set_cons_zero, List.set_cons_succ]
                  refine wpAnyH_ready (rs := [12]) (by kernel_rfl) (by simp) ?_
                  refine AllReadyH.cons (o := { dst := some 104, op := Go.Op.binOp Go.BinOp.mul 22 (Go.Operand.tmp 102) (Go.Operand.tmp 103) 22, type := 22, pos := "quantile.go:46", after := #[{ on := 10, ground := Go.Ground.data }, { on := 11, ground := Go.Ground.data }], guard := none }) rfl (fun K hK => ?_) AllReadyH.nil
                  go_simp
                  refine hK.out _ _ (HSw.out _ (gb_none (gb_none (gb_none (gb_drew _ _) (fwor_gb _ _ _ _)) (fwor_gb _ _ _ _)) (fwor_gb _ _ _ _))) (fun _ => ?_)
                  clear hK
                  try simp only [Act.put, List.setIfInBounds_toArray, List.set_cons_zero, List.set_cons_succ]
                  refine wpAnyH_ready (rs := [13]) (by kernel_rfl) (by simp) ?_
                  refine AllReadyH.cons (o := { dst := some 105, op := Go.Op.binOp Go.BinOp.add 22 (Go.Operand.tmp 98) (Go.Operand.tmp 104) 22, type := 22, pos := "quantile.go:46", after := #[{ on := 6, ground := Go.Ground.data }, { on := 12, ground := Go.Ground.data }], guard := none }) rfl (fun K hK => ?_) AllReadyH.nil
                  go_simp
                  refine hK.out _ _ (HSw.out _ (gb_none (gb_none (gb_none (gb_none (gb_drew _ _) (fwor_gb _ _ _ _)) (fwor_gb _ _ _ _)) (fwor_gb _ _ _ _)) (fwor_gb _ _ _ _))) (fun _ => ?_)
                  clear hK
                  try simp only [Act.put, List.setIfInBounds_toArray, List.set_cons_zero, List.set_cons_succ]
                  refine wpAnyH_ready (rs := [14]) (by kernel_rfl) (by simp) ?_
                  refine AllReadyH.cons (o := { dst := some 106, op := Go.Op.call { callee := Go.Callee.value (Go.Operand.func 31), args := #[Go.Operand.tmp 105], argTypes := #[22] }, type := 22, pos := "quantile.go:46", after := #[{ on := 13, ground := Go.Ground.data }], guard := none }) rfl (fun K hK => ?_) AllReadyH.nil
                  go_simp
                  refine (HT.out _ _ (gb_none (gb_none (gb_none (gb_none (gb_drew _ _) (fwor_gb _ _ _ _)) (fwor_gb _ _ _ _)) (fwor_gb _ _ _ _)) (fwor_gb _ _ _ _))).mono ?_; rintro e wt18 ⟨t18, rfl, ht18⟩
                  refine hK.out _ _ (HSw.out _ ht18.out.1) (fun _ => ?_)
                  clear hK
                  try simp only [Act.put, List.setIfInBounds_toArray, List.set_cons_zero, List.set_cons_succ]
                  refine wpAnyH_ready (rs := [15]) (by kernel_rfl) (by simp) ?_
                  refine AllReadyH.cons (o := { dst := some 4, op := Go.Op.assign (Go.Operand.tmp 106), type := 22, pos := "quantile.go:46", after := #[{ on := 14, ground := Go.Ground.data }, { on := 14, ground := Go.Ground.chain }, { on := 0, ground := Go.Ground.phase }, { on := 1, ground := Go.Ground.phase }, { on := 2, ground := Go.Ground.phase }, { on := 3, ground := Go.Ground.phase }, { on := 4, ground := Go.Ground.phase }, { on := 5, ground := Go.Ground.phase }, { on := 6, ground := Go.Ground.phase }, { on := 7, ground := Go.Ground.phase }, { on := 8, ground := Go.Ground.phase }, { on := 9, ground := Go.Ground.phase }, { on := 10, ground := Go.Ground.phase }, { on := 11, ground := Go.Ground.phase }, { on := 12, ground := Go.Ground.phase }, { on := 13, ground := Go.Ground.phase }, { on := 14, ground := Go.Ground.phase }], guard := none }) rfl (fun K hK => ?_) AllReadyH.nil
                  go_simp
                  refine hK.out _ _ (HSw.out _ ht18.out.1) (fun _ => ?_)
                  clear hK
                  try simp only [Act.put, List.setIfInBounds_toArray, List.set_cons_zero, List.set_cons_succ]
                  refine wpAnyH_done (by kernel_rfl) ?_ _
                  obtain ⟨z, hz⟩ : ∃ z, t18 = z := ⟨_, rfl⟩
                  obtain ⟨W9, hW9⟩ : ∃ W9, wt18 = W9 := ⟨_, rfl⟩
                  rw [hz, hW9]
                  have hcz : z = QR := by rw [← hz, ht18.out.2, cz_fres _ (.inl rfl), cz_fres _ (.inr (.inr (.inl rfl))), cz_fres _ (.inr (.inr (.inl rfl))), cz_fres _ (.inr (.inl rfl))]; exact HQe.out
                  have hg9 : w4.grownBy W9 none := by rw [← hW9]; exact ht18.out.1
                  have HZx1 := hidJ (HQz.out z hcz)
                  have HGx1 := hidJ (gb_none HG4.out hg9)
                  clear hz hW9 hcz hg9
                  go_wp2
                  go_ret
                  exact ⟨_, rfl, HZx1.out, HGx1.out⟩
                refine AllReadyH.cons (o := { dst := some 104, op := Go.Op.binOp Go.BinOp.mul 22 (Go.Operand.tmp 102) (Go.Operand.tmp 103) 22, type := 22, pos := "quantile.go:46", after := #[{ on := 10, ground := Go.Ground.data }, { on := 11, ground := Go.Ground.data }], guard := none }) rfl (fun K hK => ?_) AllReadyH.nil
                go_simp
                refine hK.out _ _ (HSw.out _ (gb_none (gb_none (gb_drew _ _) (fwor_gb _ _ _ _)) (fwor_gb _ _ _ _))) (fun _ => ?_)
                clear hK
                try simp only [Act.put, List.setIfInBounds_toArray, List.set_cons_zero, List.set_cons_succ]
                refine wpAnyH_ready (rs := [6]) (by kernel_rfl) (by simp) ?_
                refine AllReadyH.cons (o := { dst := some 98, op := Go.Op.binOp Go.BinOp.mul 22 (Go.Operand.tmp 95) (Go.Operand.tmp 97) 22, type := 22, pos := "quantile.go:46", after := #[{ on := 3, ground := Go.Ground.data }, { on := 5, ground := Go.Ground.data }], guard := none }) rfl (fun K hK => ?_) AllReadyH.nil
                go_simp
                refine hK.out _ _ (HSw.out _ (gb_none (gb_none (gb_none (gb_drew _ _) (fwor_gb _ _ _ _)) (fwor_gb _ _ _ _)) (fwor_gb _ _ _ _))) (fun _ => ?_)
                clear hK
                try simp only [Act.put, List.setIfInBounds_toArray, List.set_cons_zero, List.set_cons_succ]
                refine wpAnyH_ready (rs := [13]) (by kernel_rfl) (by simp) ?_
                refine AllReadyH.cons (o := { dst := some 105, op := Go.Op.binOp Go.BinOp.add 22 (Go.Operand.tmp 98) (Go.Operand.tmp 104) 22, type := 22, pos := "quantile.go:46", after := #[{ on := 6, ground := Go.Ground.data }, { on := 12, ground := Go.Ground.data }], guard := none }) rfl (fun K hK => ?_) AllReadyH.nil
                go_simp
                refine hK.out _ _ (HSw.out _ (gb_none (gb_none (gb_none (gb_none (gb_drew _ _) (fwor_gb _ _ _ _)) (fwor_gb _ _ _ _)) (fwor_gb _ _ _ _)) (fwor_gb _ _ _ _))) (fun _ => ?_)
                clear hK
                try simp only [Act.put, List.setIfInBounds_toArray, List.set_cons_zero, List.set_cons_succ]
                refine wpAnyH_ready (rs := [14]) (by kernel_rfl) (by simp) ?_
                refine AllReadyH.cons (o := { dst := some 106, op := Go.Op.call { callee := Go.Callee.value (Go.Operand.func 31), args := #[Go.Operand.tmp 105], argTypes := #[22] }, type := 22, pos := "quantile.go:46", after := #[{ on := 13, ground := Go.Ground.data }], guard := none }) rfl (fun K hK => ?_) AllReadyH.nil
                go_simp
                refine (HT.out _ _ (gb_none (gb_none (gb_none (gb_none (gb_drew _ _) (fwor_gb _ _ _ _)) (fwor_gb _ _ _ _)) (fwor_gb _ _ _ _)) (fwor_gb _ _ _ _))).mono ?_; rintro e wt19 ⟨t19, rfl, ht19⟩
                refine hK.out _ _ (HSw.out _ ht19.out.1) (fun _ => ?_)
                clear hK
                try simp only [Act.put, List.setIfInBounds_toArray, List.set_cons_zero, List.set_cons_succ]
                refine wpAnyH_ready (rs := [15]) (by kernel_rfl) (by simp) ?_
                refine AllReadyH.cons (o := { dst := some 4, op := Go.Op.assign (Go.Operand.tmp 106), type := 22, pos := "quantile.go:46", after := #[{ on := 14, ground := Go.Ground.data }, { on := 14, ground := Go.Ground.chain }, { on := 0, ground := Go.Ground.phase }, { on := 1, ground := Go.Ground.phase }, { on := 2, ground := Go.Ground.phase }, { on := 3, ground := Go.Ground.phase }, { on := 4, ground := Go.Ground.phase }, { on := 5, ground := Go.Ground.phase }, { on := 6, ground := Go.Ground.phase }, { on := 7, ground := Go.Ground.phase }, { on := 8, ground := Go.Ground.phase }, { on := 9, ground := Go.Ground.phase }, { on := 10, ground := Go.Ground.phase }, { on := 11, ground := Go.Ground.phase }, { on := 12, ground := Go.Ground.phase }, { on := 13, ground := Go.Ground.phase }, { on := 14, ground := Go.Ground.phase }], guard := none }) rfl (fun K hK => ?_) AllReadyH.nil
                go_simp
                refine hK.out _ _ (HSw.out _ ht19.out.1) (fun _ => ?_)
                clear hK
                try simp only [Act.put, List.setIfInBounds_toArray, List.set_cons_zero, List.set_cons_succ]
                refine wpAnyH_done (by kernel_rfl) ?_ _
                obtain ⟨z, hz⟩ : ∃ z, t19 = z := ⟨_, rfl⟩
                obtain ⟨W9, hW9⟩ : ∃ W9, wt19 = W9 := ⟨_, rfl⟩
                rw [hz, hW9]
                have hcz : z = QR := by rw [← hz, ht19.out.2, cz_fres _ (.inl rfl), cz_fres _ (.inr (.inr (.inl rfl))), cz_fres _ (.inr (.inr (.inl rfl))), cz_fres _ (.inr (.inl rfl))]; exact HQe.out
                have hg9 : w4.grownBy W9 none := by rw [← hW9]; exact ht19.out.1
                have HZx2 := hidJ (HQz.out z hcz)
                have HGx2 := hidJ (gb_none HG4.out hg9)
                clear hz hW9 hcz hg9
                go_wp2
                go_ret
                exact ⟨_, rfl, HZx2.out, HGx2.out⟩
              refine AllReadyH.cons (o := { dst := some 104, op := Go.Op.binOp Go.BinOp.mul 22 (Go.Operand.tmp 102) (Go.Operand.tmp 103) 22, type := 22, pos := "quantile.go:46", after := #[{ on := 10, ground := Go.Ground.data }, { on := 11, ground := Go.Ground.data }], guard := none }) rfl (fun K hK => ?_) AllReadyH.nil
              go_simp
              refine hK.out _ _ (HSw.out _ (gb_none (gb_drew _ _) (fwor_gb _ _ _ _))) (fun _ => ?_)
              clear hK
              try simp only [Act.put, List.setIfInBounds_toArray, List.set_cons_zero, List.set_cons_succ]
              refine wpAnyH_ready (rs := [5]) (by kernel_rfl) (by simp) ?_
              refine AllReadyH.cons (o := { dst := some 97, op := Go.Op.binOp Go.BinOp.sub 22 (Go.Operand.const (Go.Value.float Go.FloatKind.f64 4607182418800017408)) (Go.Operand.tmp 96) 22, type := 22, pos := "quantile.go:46", after := #[{ on := 4, ground := Go.Ground.data }], guard := none }) rfl (fun K hK => ?_) AllReadyH.nil
              go_simp
              refine hK.out _ _ (HSw.out _ (gb_none (gb_none (gb_drew _ _) (fwor_gb _ _ _ _)) (fwor_gb _ _ _ _))) (fun _ => ?_)
              clear hK
              try simp only [Act.put, List.setIfInBounds_toArray, List.set_cons_zero, List.set_cons_succ]
              refine wpAnyH_ready (rs := [6]) (by kernel_rfl) (by simp) ?_
              refine AllReadyH.cons (o := { dst := some 98, op := Go.Op.binOp Go.BinOp.mul 22 (Go.Operand.tmp 95) (Go.Operand.tmp 97) 22, type := 22, pos := "quantile.go:46", after := #[{ on := 3, ground := Go.Ground.data }, { on := 5, ground := Go.Ground.data }], guard := none }) rfl (fun K hK => ?_) AllReadyH.nil
              go_simp
              refine hK.out _ _ (HSw.out _ (gb_none (gb_none (gb_none (gb_drew _ _) (fwor_gb _ _ _ _)) (fwor_gb _ _ _ _)) (fwor_gb _ _ _ _))) (fun _ => ?_)
              clear hK
              try simp only [Act.put, List.setIfInBounds_toArray, List.set_cons_zero, List.set_cons_succ]
              refine wpAnyH_ready (rs := [13]) (by kernel_rfl) (by simp) ?_
              refine AllReadyH.cons (o := { dst := some 105, op := Go.Op.binOp Go.BinOp.add 22 (Go.Operand.tmp 98) (Go.Operand.tmp 104) 22, type := 22, pos := "quantile.go:46", after := #[{ on := 6, ground := Go.Ground.data }, { on := 12, ground := Go.Ground.data }], guard := none }) rfl (fun K hK => ?_) AllReadyH.nil
              go_simp
              refine hK.out _ _ (HSw.out _ (gb_none (gb_none (gb_none (gb_none (gb_drew _ _) (fwor_gb _ _ _ _)) (fwor_gb _ _ _ _)) (fwor_gb _ _ _ _)) (fwor_gb _ _ _ _))) (fun _ => ?_)
              clear hK
              try simp only [Act.put, List.setIfInBounds_toArray, List.set_cons_zero, List.set_cons_succ]
              refine wpAnyH_ready (rs := [14]) (by kernel_rfl) (by simp) ?_
              refine AllReadyH.cons (o := { dst := some 106, op := Go.Op.call { callee := Go.Callee.value (Go.Operand.func 31), args := #[Go.Operand.tmp 105], argTypes := #[22] }, type := 22, pos := "quantile.go:46", after := #[{ on := 13, ground := Go.Ground.data }], guard := none }) rfl (fun K hK => ?_) AllReadyH.nil
              go_simp
              refine (HT.out _ _ (gb_none (gb_none (gb_none (gb_none (gb_drew _ _) (fwor_gb _ _ _ _)) (fwor_gb _ _ _ _)) (fwor_gb _ _ _ _)) (fwor_gb _ _ _ _))).mono ?_; rintro e wt20 ⟨t20, rfl, ht20⟩
              refine hK.out _ _ (HSw.out _ ht20.out.1) (fun _ => ?_)
              clear hK
              try simp only [Act.put, List.setIfInBounds_toArray, List.set_cons_zero, List.set_cons_succ]
              refine wpAnyH_ready (rs := [15]) (by kernel_rfl) (by simp) ?_
              refine AllReadyH.cons (o := { dst := some 4, op := Go.Op.assign (Go.Operand.tmp 106), type := 22, pos := "quantile.go:46", after := #[{ on := 14, ground := Go.Ground.data }, { on := 14, ground := Go.Ground.chain }, { on := 0, ground := Go.Ground.phase }, { on := 1, ground := Go.Ground.phase }, { on := 2, ground := Go.Ground.phase }, { on := 3, ground := Go.Ground.phase }, { on := 4, ground := Go.Ground.phase }, { on := 5, ground := Go.Ground.phase }, { on := 6, ground := Go.Ground.phase }, { on := 7, ground := Go.Ground.phase }, { on := 8, ground := Go.Ground.phase }, { on := 9, ground := Go.Ground.phase }, { on := 10, ground := Go.Ground.phase }, { on := 11, ground := Go.Ground.phase }, { on := 12, ground := Go.Ground.phase }, { on := 13, ground := Go.Ground.phase }, { on := 14, ground := Go.Ground.phase }], guard := none }) rfl (fun K hK => ?_) AllReadyH.nil
              go_simp
              refine hK.out _ _ (HSw.out _ ht20.out.1) (fun _ => ?_)
              clear hK
              try simp only [Act.put, List.setIfInBounds_toArray, List.set_cons_zero, List.set_cons_succ]
              refine wpAnyH_done (by kernel_rfl) ?_ _
              obtain ⟨z, hz⟩ : ∃ z, t20 = z := ⟨_, rfl⟩
              obtain ⟨W9, hW9⟩ : ∃ W9, wt20 = W9 := ⟨_, rfl⟩
              rw [hz, hW9]
              have hcz : z = QR := by rw [← hz, ht20.out.2, cz_fres _ (.inl rfl), cz_fres _ (.inr (.inr (.inl rfl))), cz_fres _ (.inr (.inr (.inl rfl))), cz_fres _ (.inr (.inl rfl))]; exact HQe.out
              have hg9 : w4.grownBy W9 none := by rw [← hW9]; exact ht20.out.1
              have HZx3 := hidJ (HQz.out z hcz)
              have HGx3 := hidJ (gb_none HG4.out hg9)
              clear hz hW9 hcz hg9
              go_wp2
              go_ret
              exact ⟨_, rfl, HZx3.out, HGx3.out⟩
            · have hwi : IntKind.i64.wrap ((i : Int) + 1) = (jn : Int) := by rw [IntKind.wrap_i64]; omega
              have hcj : ¬ (M : Int) < (jn : Int) := by omega
              have hi1z : (i : Int) < (M : Int) + 1 := by omega
              have hj1z : (jn : Int) < (M : Int) + 1 := by omega
              clear hjn hiM
              go_wp2
              obtain ⟨hsub, hmul, hadd⟩ := HH.out
              have HT := hidJ HTw.out
              clear HTw o1 oc hsub4 HH
              refine wp_region_held_drew (S := (fun w' => w'.cell? ⟨g, i, none⟩ = some (.float .f64 si) ∧ w'.cell? ⟨g, jn, none⟩ = some (.float .f64 sj))) (by kernel_rfl) (HSw.out _ (gb_drew _ _)) (fun _ => ?_)
              refine wpAnyH_take (i := 0) (oi := { dst := some 92, op := Go.Op.move (Go.Operand.tmp 5), type := 23, pos := "quantile.go:46", after := #[], guard := none }) (v := ?v39kb) rfl (by kernel_rfl) (by kernel_rfl) (by kernel_rfl) (fun _ _ _ h => h) (Or.inl ⟨by rfl, ?y39kb⟩) (HSw.out _ (gb_drew _ _)) ?r39kb
              case y39kb => intro wq hSw; obtain ⟨s1, s2⟩ := hSw; go_simp; try with_reducible rfl
              case' r39kb => skip
              try simp only [Act.put, List.setIfInBounds_toArray, List.set_cons_zero, List.set_cons_succ]
              refine wpAnyH_take (i := 1) (oi := { dst := some 93, op := Go.Op.move (Go.Operand.tmp 10), type := 3, pos := "quantile.go:46", after := #[], guard := none }) (v := ?v40kb) rfl (by kernel_rfl) (by kernel_rfl) (by kernel_rfl) (fun _ _ _ h => h) (Or.inl ⟨by rfl, ?y40kb⟩) (HSw.out _ (gb_drew _ _)) ?r40kb
              case y40kb => intro wq hSw; obtain ⟨s1, s2⟩ := hSw; go_simp; try with_reducible rfl
              case' r40kb => skip
              try simp only [Act.put, List.setIfInBounds_toArray, List.set_cons_zero, List.set_cons_succ]
              refine wpAnyH_take (i := 2) (oi := { dst := some 94, op := Go.Op.indexAddr 23 (Go.Operand.tmp 92) (Go.Operand.tmp 93), type := 0, pos := "quantile.go:46", after := #[{ on := 0, ground := Go.Ground.data }, { on := 1, ground := Go.Ground.data }], guard := none }) (v := ?v41kb) rfl (by kernel_rfl) (by kernel_rfl) (by kernel_rfl) (fun _ _ _ h => h) (Or.inl ⟨by rfl, ?y41kb⟩) (HSw.out _ (gb_drew _ _)) ?r41kb
              case y41kb => intro wq hSw; obtain ⟨s1, s2⟩ := hSw; go_simp; try with_reducible rfl
              case' r41kb => skip
              try simp only [Act.put, List.setIfInBounds_toArray, List.set_cons_zero, List.set_cons_succ]
              refine wpAnyH_take (i := 3) (oi := { dst := some 95, op := Go.Op.load 22 (Go.Operand.tmp 94), type := 22, pos := "quantile.go:46", after := #[{ on := 2, ground := Go.Ground.data }], guard := none }) (v := ?v42kb) rfl (by kernel_rfl) (by kernel_rfl) (by kernel_rfl) (fun _ _ _ h => h) (Or.inl ⟨by rfl, ?y42kb⟩) (HSw.out _ (gb_drew _ _)) ?r42kb
              case y42kb => intro wq hSw; obtain ⟨s1, s2⟩ := hSw; go_simp; try with_reducible rfl
              case' r42kb => skip
              try simp only [Act.put, List.setIfInBounds_toArray, List.set_cons_zero, List.set_cons_succ]
              refine wpAnyH_take (i := 4) (oi := { dst := some 96, op := Go.Op.move (Go.Operand.tmp 12), type := 22, pos := "quantile.go:46", after := #[], guard := none }) (v := ?v43kb) rfl (by kernel_rfl) (by kernel_rfl) (by kernel_rfl) (fun _ _ _ h => h) (Or.inl ⟨by rfl, ?y43kb⟩) (HSw.out _ (gb_drew _ _)) ?r43kb
              case y43kb => intro wq hSw; obtain ⟨s1, s2⟩ := hSw; go_simp; try with_reducible rfl
              case' r43kb => skip
              try simp only [Act.put, List.setIfInBounds_toArray, List.set_cons_zero, List.set_cons_succ]
              refine wpAnyH_take (i := 7) (oi := { dst := some 99, op := Go.Op.move (Go.Operand.tmp 5), type := 23, pos := "quantile.go:46", after := #[], guard := none }) (v := ?v44kb) rfl (by kernel_rfl) (by kernel_rfl) (by kernel_rfl) (fun _ _ _ h => h) (Or.inl ⟨by rfl, ?y44kb⟩) (HSw.out _ (gb_drew _ _)) ?r44kb
              case y44kb => intro wq hSw; obtain ⟨s1, s2⟩ := hSw; go_simp; try with_reducible rfl
              case' r44kb => skip
              try simp only [Act.put, List.setIfInBounds_toArray, List.set_cons_zero, List.set_cons_succ]
              refine wpAnyH_take (i := 8) (oi := { dst := some 100, op := Go.Op.move (Go.Operand.tmp 11), type := 3, pos := "quantile.go:46", after := #[], guard := none }) (v := ?v45kb) rfl (by kernel_rfl) (by kernel_rfl) (by kernel_rfl) (fun _ _ _ h => h) (Or.inl ⟨by rfl, ?y45kb⟩) (HSw.out _ (gb_drew _ _)) ?r45kb
              case y45kb => intro wq hSw; obtain ⟨s1, s2⟩ := hSw; go_simp; try with_reducible rfl
              case' r45kb => skip
              try simp only [Act.put, List.setIfInBounds_toArray, List.set_cons_zero, List.set_cons_succ]
              refine wpAnyH_take (i := 9) (oi := { dst := some 101, op := Go.Op.indexAddr 23 (Go.Operand.tmp 99) (Go.Operand.tmp 100), type := 0, pos := "quantile.go:46", after := #[{ on := 7, ground := Go.Ground.data }, { on := 8, ground := Go.Ground.data }], guard := none }) (v := ?v46kb) rfl (by kernel_rfl) (by kernel_rfl) (by kernel_rfl) (fun _ _ _ h => h) (Or.inl ⟨by rfl, ?y46kb⟩) (HSw.out _ (gb_drew _ _)) ?r46kb
              case y46kb => intro wq hSw; obtain ⟨s1, s2⟩ := hSw; go_simp; try with_reducible rfl
              case' r46kb => skip
              try simp only [Act.put, List.setIfInBounds_toArray, List.set_cons_zero, List.set_cons_succ]
              refine wpAnyH_take (i := 10) (oi := { dst := some 102, op := Go.Op.load 22 (Go.Operand.tmp 101), type := 22, pos := "quantile.go:46", after := #[{ on := 9, ground := Go.Ground.data }], guard := none }) (v := ?v47kb) rfl (by kernel_rfl) (by kernel_rfl) (by kernel_rfl) (fun _ _ _ h => h) (Or.inl ⟨by rfl, ?y47kb⟩) (HSw.out _ (gb_drew _ _)) ?r47kb
              case y47kb => intro wq hSw; obtain ⟨s1, s2⟩ := hSw; go_simp; try with_reducible rfl
              case' r47kb => skip
              try simp only [Act.put, List.setIfInBounds_toArray, List.set_cons_zero, List.set_cons_succ]
              refine wpAnyH_take (i := 11) (oi := { dst := some 103, op := Go.Op.move (Go.Operand.tmp 12), type := 22, pos := "quantile.go:46", after := #[], guard := none }) (v := ?v48kb) rfl (by kernel_rfl) (by kernel_rfl) (by kernel_rfl) (fun _ _ _ h => h) (Or.inl ⟨by rfl, ?y48kb⟩) (HSw.out _ (gb_drew _ _)) ?r48kb
              case y48kb => intro wq hSw; obtain ⟨s1, s2⟩ := hSw; go_simp; try with_reducible rfl
              case' r48kb => skip
              try simp only [Act.put, List.setIfInBounds_toArray, List.set_cons_zero, List.set_cons_succ]
              refine wpAnyH_ready (rs := [5, 12]) (by kernel_rfl) (by simp) ?_
              refine AllReadyH.cons (o := { dst := some 97, op := Go.Op.binOp Go.BinOp.sub 22 (Go.Operand.const (Go.Value.float Go.FloatKind.f64 4607182418800017408)) (Go.Operand.tmp 96) 22, type := 22, pos := "quantile.go:46", after := #[{ on := 4, ground := Go.Ground.data }], guard := none }) rfl (fun K hK => ?_) ?_
              · go_simp
                refine hK.out _ _ (HSw.out _ (gb_none (gb_drew _ _) (fwor_gb _ _ _ _))) (fun _ => ?_)
                clear hK
                try simp only [Act.put, List.setIfInBounds_toArray, List.set_cons_zero, List.set_cons_succ]
                refine wpAnyH_ready (rs := [6, 12]) (by kernel_rfl) (by simp) ?_
                refine AllReadyH.cons (o := { dst := some 98, op := Go.Op.binOp Go.BinOp.mul 22 (Go.Operand.tmp 95) (Go.Operand.tmp 97) 22, type := 22, pos := "quantile.go:46", after := #[{ on := 3, ground := Go.Ground.data }, { on := 5, ground := Go.Ground.data }], guard := none }) rfl (fun K hK => ?_) ?_
                · go_simp
                  refine hK.out _ _ (HSw.out _ (gb_none (gb_none (gb_drew _ _) (fwor_gb _ _ _ _)) (fwor_gb _ _ _ _))) (fun _ => ?_)
                  clear hK
                  try simp only [Act.put, List.setIfInBounds_toArray, List.set_cons_zero, List.set_cons_succ]
                  refine wpAnyH_ready (rs := [12]) (by kernel_rfl) (by simp) ?_
                  refine AllReadyH.cons (o := { dst := some 104, op := Go.Op.binOp Go.BinOp.mul 22 (Go.Operand.tmp 102) (Go.Operand.tmp 103) 22, type := 22, pos := "quantile.go:46", after := #[{ on := 10, ground := Go.Ground.data }, { on := 11, ground := Go.Ground.data }], guard := none }) rfl (fun K hK => ?_) AllReadyH.nil
                  go_simp
                  refine hK.out _ _ (HSw.out _ (gb_none (gb_none (gb_none (gb_drew _ _) (fwor_gb _ _ _ _)) (fwor_gb _ _ _ _)) (fwor_gb _ _ _ _))) (fun _ => ?_)
                  clear hK
                  try simp only [Act.put, List.setIfInBounds_toArray, List.set_cons_zero, List.set_cons_succ]
                  refine wpAnyH_ready (rs := [13]) (by kernel_rfl) (by simp) ?_
                  refine AllReadyH.cons (o := { dst := some 105, op := Go.Op.binOp Go.BinOp.add 22 (Go.Operand.tmp 98) (Go.Operand.tmp 104) 22, type := 22, pos := "quantile.go:46", after := #[{ on := 6, ground := Go.Ground.data }, { on := 12, ground := Go.Ground.data }], guard := none }) rfl (fun K hK => ?_) AllReadyH.nil
                  go_simp
                  refine hK.out _ _ (HSw.out _ (gb_none (gb_none (gb_none (gb_none (gb_drew _ _) (fwor_gb _ _ _ _)) (fwor_gb _ _ _ _)) (fwor_gb _ _ _ _)) (fwor_gb _ _ _ _))) (fun _ => ?_)
                  clear hK
                  try simp only [Act.put, List.setIfInBounds_toArray, List.set_cons_zero, List.set_cons_succ]
                  refine wpAnyH_ready (rs := [14]) (by kernel_rfl) (by simp) ?_
                  refine AllReadyH.cons (o := { dst := some 106, op := Go.Op.call { callee := Go.Callee.value (Go.Operand.func 31), args := #[Go.Operand.tmp 105], argTypes := #[22] }, type := 22, pos := "quantile.go:46", after := #[{ on := 13, ground := Go.Ground.data }], guard := none }) rfl (fun K hK => ?_) AllReadyH.nil
                  go_simp
                  refine (HT.out _ _ (gb_none (gb_none (gb_none (gb_none (gb_drew _ _) (fwor_gb _ _ _ _)) (fwor_gb _ _ _ _)) (fwor_gb _ _ _ _)) (fwor_gb _ _ _ _))).mono ?_; rintro e wt18 ⟨t18, rfl, ht18⟩
                  refine hK.out _ _ (HSw.out _ ht18.out.1) (fun _ => ?_)
                  clear hK
                  try simp only [Act.put, List.setIfInBounds_toArray, List.set_cons_zero, List.set_cons_succ]
                  refine wpAnyH_ready (rs := [15]) (by kernel_rfl) (by simp) ?_
                  refine AllReadyH.cons (o := { dst := some 4, op := Go.Op.assign (Go.Operand.tmp 106), type := 22, pos := "quantile.go:46", after := #[{ on := 14, ground := Go.Ground.data }, { on := 14, ground := Go.Ground.chain }, { on := 0, ground := Go.Ground.phase }, { on := 1, ground := Go.Ground.phase }, { on := 2, ground := Go.Ground.phase }, { on := 3, ground := Go.Ground.phase }, { on := 4, ground := Go.Ground.phase }, { on := 5, ground := Go.Ground.phase }, { on := 6, ground := Go.Ground.phase }, { on := 7, ground := Go.Ground.phase }, { on := 8, ground := Go.Ground.phase }, { on := 9, ground := Go.Ground.phase }, { on := 10, ground := Go.Ground.phase }, { on := 11, ground := Go.Ground.phase }, { on := 12, ground := Go.Ground.phase }, { on := 13, ground := Go.Ground.phase }, { on := 14, ground := Go.Ground.phase }], guard := none }) rfl (fun K hK => ?_) AllReadyH.nil
                  go_simp
                  refine hK.out _ _ (HSw.out _ ht18.out.1) (fun _ => ?_)
                  clear hK
                  try simp only [Act.put, List.setIfInBounds_toArray, List.set_cons_zero, List.set_cons_succ]
                  refine wpAnyH_done (by kernel_rfl) ?_ _
                  obtain ⟨z, hz⟩ : ∃ z, t18 = z := ⟨_, rfl⟩
                  obtain ⟨W9, hW9⟩ : ∃ W9, wt18 = W9 := ⟨_, rfl⟩
                  rw [hz, hW9]
                  have hcz : z = QR := by rw [← hz, ht18.out.2, cz_fres _ (.inl rfl), cz_fres _ (.inr (.inr (.inl rfl))), cz_fres _ (.inr (.inr (.inl rfl))), cz_fres _ (.inr (.inl rfl))]; exact HQe.out
                  have hg9 : w4.grownBy W9 none := by rw [← hW9]; exact ht18.out.1
                  have HZx1 := hidJ (HQz.out z hcz)
                  have HGx1 := hidJ (gb_none HG4.out hg9)
                  clear hz hW9 hcz hg9
                  go_wp2
                  go_ret
                  exact ⟨_, rfl, HZx1.out, HGx1.out⟩
                refine AllReadyH.cons (o := { dst := some 104, op := Go.Op.binOp Go.BinOp.mul 22 (Go.Operand.tmp 102) (Go.Operand.tmp 103) 22, type := 22, pos := "quantile.go:46", after := #[{ on := 10, ground := Go.Ground.data }, { on := 11, ground := Go.Ground.data }], guard := none }) rfl (fun K hK => ?_) AllReadyH.nil
                go_simp
                refine hK.out _ _ (HSw.out _ (gb_none (gb_none (gb_drew _ _) (fwor_gb _ _ _ _)) (fwor_gb _ _ _ _))) (fun _ => ?_)
                clear hK
                try simp only [Act.put, List.setIfInBounds_toArray, List.set_cons_zero, List.set_cons_succ]
                refine wpAnyH_ready (rs := [6]) (by kernel_rfl) (by simp) ?_
                refine AllReadyH.cons (o := { dst := some 98, op := Go.Op.binOp Go.BinOp.mul 22 (Go.Operand.tmp 95) (Go.Operand.tmp 97) 22, type := 22, pos := "quantile.go:46", after := #[{ on := 3, ground := Go.Ground.data }, { on := 5, ground := Go.Ground.data }], guard := none }) rfl (fun K hK => ?_) AllReadyH.nil
                go_simp
                refine hK.out _ _ (HSw.out _ (gb_none (gb_none (gb_none (gb_drew _ _) (fwor_gb _ _ _ _)) (fwor_gb _ _ _ _)) (fwor_gb _ _ _ _))) (fun _ => ?_)
                clear hK
                try simp only [Act.put, List.setIfInBounds_toArray, List.set_cons_zero, List.set_cons_succ]
                refine wpAnyH_ready (rs := [13]) (by kernel_rfl) (by simp) ?_
                refine AllReadyH.cons (o := { dst := some 105, op := Go.Op.binOp Go.BinOp.add 22 (Go.Operand.tmp 98) (Go.Operand.tmp 104) 22, type := 22, pos := "quantile.go:46", after := #[{ on := 6, ground := Go.Ground.data }, { on := 12, ground := Go.Ground.data }], guard := none }) rfl (fun K hK => ?_) AllReadyH.nil
                go_simp
                refine hK.out _ _ (HSw.out _ (gb_none (gb_none (gb_none (gb_none (gb_drew _ _) (fwor_gb _ _ _ _)) (fwor_gb _ _ _ _)) (fwor_gb _ _ _ _)) (fwor_gb _ _ _ _))) (fun _ => ?_)
                clear hK
                try simp only [Act.put, List.setIfInBounds_toArray, List.set_cons_zero, List.set_cons_succ]
                refine wpAnyH_ready (rs := [14]) (by kernel_rfl) (by simp) ?_
                refine AllReadyH.cons (o := { dst := some 106, op := Go.Op.call { callee := Go.Callee.value (Go.Operand.func 31), args := #[Go.Operand.tmp 105], argTypes := #[22] }, type := 22, pos := "quantile.go:46", after := #[{ on := 13, ground := Go.Ground.data }], guard := none }) rfl (fun K hK => ?_) AllReadyH.nil
                go_simp
                refine (HT.out _ _ (gb_none (gb_none (gb_none (gb_none (gb_drew _ _) (fwor_gb _ _ _ _)) (fwor_gb _ _ _ _)) (fwor_gb _ _ _ _)) (fwor_gb _ _ _ _))).mono ?_; rintro e wt19 ⟨t19, rfl, ht19⟩
                refine hK.out _ _ (HSw.out _ ht19.out.1) (fun _ => ?_)
                clear hK
                try simp only [Act.put, List.setIfInBounds_toArray, List.set_cons_zero, List.set_cons_succ]
                refine wpAnyH_ready (rs := [15]) (by kernel_rfl) (by simp) ?_
                refine AllReadyH.cons (o := { dst := some 4, op := Go.Op.assign (Go.Operand.tmp 106), type := 22, pos := "quantile.go:46", after := #[{ on := 14, ground := Go.Ground.data }, { on := 14, ground := Go.Ground.chain }, { on := 0, ground := Go.Ground.phase }, { on := 1, ground := Go.Ground.phase }, { on := 2, ground := Go.Ground.phase }, { on := 3, ground := Go.Ground.phase }, { on := 4, ground := Go.Ground.phase }, { on := 5, ground := Go.Ground.phase }, { on := 6, ground := Go.Ground.phase }, { on := 7, ground := Go.Ground.phase }, { on := 8, ground := Go.Ground.phase }, { on := 9, ground := Go.Ground.phase }, { on := 10, ground := Go.Ground.phase }, { on := 11, ground := Go.Ground.phase }, { on := 12, ground := Go.Ground.phase }, { on := 13, ground := Go.Ground.phase }, { on := 14, ground := Go.Ground.phase }], guard := none }) rfl (fun K hK => ?_) AllReadyH.nil
                go_simp
                refine hK.out _ _ (HSw.out _ ht19.out.1) (fun _ => ?_)
                clear hK
                try simp only [Act.put, List.setIfInBounds_toArray, List.set_cons_zero, List.set_cons_succ]
                refine wpAnyH_done (by kernel_rfl) ?_ _
                obtain ⟨z, hz⟩ : ∃ z, t19 = z := ⟨_, rfl⟩
                obtain ⟨W9, hW9⟩ : ∃ W9, wt19 = W9 := ⟨_, rfl⟩
                rw [hz, hW9]
                have hcz : z = QR := by rw [← hz, ht19.out.2, cz_fres _ (.inl rfl), cz_fres _ (.inr (.inr (.inl rfl))), cz_fres _ (.inr (.inr (.inl rfl))), cz_fres _ (.inr (.inl rfl))]; exact HQe.out
                have hg9 : w4.grownBy W9 none := by rw [← hW9]; exact ht19.out.1
                have HZx2 := hidJ (HQz.out z hcz)
                have HGx2 := hidJ (gb_none HG4.out hg9)
                clear hz hW9 hcz hg9
                go_wp2
                go_ret
                exact ⟨_, rfl, HZx2.out, HGx2.out⟩
              refine AllReadyH.cons (o := { dst := some 104, op := Go.Op.binOp Go.BinOp.mul 22 (Go.Operand.tmp 102) (Go.Operand.tmp 103) 22, type := 22, pos := "quantile.go:46", after := #[{ on := 10, ground := Go.Ground.data }, { on := 11, ground := Go.Ground.data }], guard := none }) rfl (fun K hK => ?_) AllReadyH.nil
              go_simp
              refine hK.out _ _ (HSw.out _ (gb_none (gb_drew _ _) (fwor_gb _ _ _ _))) (fun _ => ?_)
              clear hK
              try simp only [Act.put, List.setIfInBounds_toArray, List.set_cons_zero, List.set_cons_succ]
              refine wpAnyH_ready (rs := [5]) (by kernel_rfl) (by simp) ?_
              refine AllReadyH.cons (o := { dst := some 97, op := Go.Op.binOp Go.BinOp.sub 22 (Go.Operand.const (Go.Value.float Go.FloatKind.f64 4607182418800017408)) (Go.Operand.tmp 96) 22, type := 22, pos := "quantile.go:46", after := #[{ on := 4, ground := Go.Ground.data }], guard := none }) rfl (fun K hK => ?_) AllReadyH.nil
              go_simp
              refine hK.out _ _ (HSw.out _ (gb_none (gb_none (gb_drew _ _) (fwor_gb _ _ _ _)) (fwor_gb _ _ _ _))) (fun _ => ?_)
              clear hK
              try simp only [Act.put, List.setIfInBounds_toArray, List.set_cons_zero, List.set_cons_succ]
              refine wpAnyH_ready (rs := [6]) (by kernel_rfl) (by simp) ?_
              refine AllReadyH.cons (o := { dst := some 98, op := Go.Op.binOp Go.BinOp.mul 22 (Go.Operand.tmp 95) (Go.Operand.tmp 97) 22, type := 22, pos := "quantile.go:46", after := #[{ on := 3, ground := Go.Ground.data }, { on := 5, ground := Go.Ground.data }], guard := none }) rfl (fun K hK => ?_) AllReadyH.nil
              go_simp
              refine hK.out _ _ (HSw.out _ (gb_none (gb_none (gb_none (gb_drew _ _) (fwor_gb _ _ _ _)) (fwor_gb _ _ _ _)) (fwor_gb _ _ _ _))) (fun _ => ?_)
              clear hK
              try simp only [Act.put, List.setIfInBounds_toArray, List.set_cons_zero, List.set_cons_succ]
              refine wpAnyH_ready (rs := [13]) (by kernel_rfl) (by simp) ?_
              refine AllReadyH.cons (o := { dst := some 105, op := Go.Op.binOp Go.BinOp.add 22 (Go.Operand.tmp 98) (Go.Operand.tmp 104) 22, type := 22, pos := "quantile.go:46", after := #[{ on := 6, ground := Go.Ground.data }, { on := 12, ground := Go.Ground.data }], guard := none }) rfl (fun K hK => ?_) AllReadyH.nil
              go_simp
              refine hK.out _ _ (HSw.out _ (gb_none (gb_none (gb_none (gb_none (gb_drew _ _) (fwor_gb _ _ _ _)) (fwor_gb _ _ _ _)) (fwor_gb _ _ _ _)) (fwor_gb _ _ _ _))) (fun _ => ?_)
              clear hK
              try simp only [Act.put, List.setIfInBounds_toArray, List.set_cons_zero, List.set_cons_succ]
              refine wpAnyH_ready (rs := [14]) (by kernel_rfl) (by simp) ?_
              refine AllReadyH.cons (o := { dst := some 106, op := Go.Op.call { callee := Go.Callee.value (Go.Operand.func 31), args := #[Go.Operand.tmp 105], argTypes := #[22] }, type := 22, pos := "quantile.go:46", after := #[{ on := 13, ground := Go.Ground.data }], guard := none }) rfl (fun K hK => ?_) AllReadyH.nil
              go_simp
              refine (HT.out _ _ (gb_none (gb_none (gb_none (gb_none (gb_drew _ _) (fwor_gb _ _ _ _)) (fwor_gb _ _ _ _)) (fwor_gb _ _ _ _)) (fwor_gb _ _ _ _))).mono ?_; rintro e wt20 ⟨t20, rfl, ht20⟩
              refine hK.out _ _ (HSw.out _ ht20.out.1) (fun _ => ?_)
              clear hK
              try simp only [Act.put, List.setIfInBounds_toArray, List.set_cons_zero, List.set_cons_succ]
              refine wpAnyH_ready (rs := [15]) (by kernel_rfl) (by simp) ?_
              refine AllReadyH.cons (o := { dst := some 4, op := Go.Op.assign (Go.Operand.tmp 106), type := 22, pos := "quantile.go:46", after := #[{ on := 14, ground := Go.Ground.data }, { on := 14, ground := Go.Ground.chain }, { on := 0, ground := Go.Ground.phase }, { on := 1, ground := Go.Ground.phase }, { on := 2, ground := Go.Ground.phase }, { on := 3, ground := Go.Ground.phase }, { on := 4, ground := Go.Ground.phase }, { on := 5, ground := Go.Ground.phase }, { on := 6, ground := Go.Ground.phase }, { on := 7, ground := Go.Ground.phase }, { on := 8, ground := Go.Ground.phase }, { on := 9, ground := Go.Ground.phase }, { on := 10, ground := Go.Ground.phase }, { on := 11, ground := Go.Ground.phase }, { on := 12, ground := Go.Ground.phase }, { on := 13, ground := Go.Ground.phase }, { on := 14, ground := Go.Ground.phase }], guard := none }) rfl (fun K hK => ?_) AllReadyH.nil
              go_simp
              refine hK.out _ _ (HSw.out _ ht20.out.1) (fun _ => ?_)
              clear hK
              try simp only [Act.put, List.setIfInBounds_toArray, List.set_cons_zero, List.set_cons_succ]
              refine wpAnyH_done (by kernel_rfl) ?_ _
              obtain ⟨z, hz⟩ : ∃ z, t20 = z := ⟨_, rfl⟩
              obtain ⟨W9, hW9⟩ : ∃ W9, wt20 = W9 := ⟨_, rfl⟩
              rw [hz, hW9]
              have hcz : z = QR := by rw [← hz, ht20.out.2, cz_fres _ (.inl rfl), cz_fres _ (.inr (.inr (.inl rfl))), cz_fres _ (.inr (.inr (.inl rfl))), cz_fres _ (.inr (.inl rfl))]; exact HQe.out
              have hg9 : w4.grownBy W9 none := by rw [← hW9]; exact ht20.out.1
              have HZx3 := hidJ (HQz.out z hcz)
              have HGx3 := hidJ (gb_none HG4.out hg9)
              clear hz hW9 hcz hg9
              go_wp2
              go_ret
              exact ⟨_, rfl, HZx3.out, HGx3.out⟩
end Go.Proofs.Ytgpednikianneaa
