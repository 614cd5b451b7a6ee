/-
  The document's Sorted: the walk.
-/
import Derived.Test.YtbnieljkadcaoaaDoorNeA
import Derived.Test.YtbnieljkadcaoaaDoorNeB
namespace Go.Proofs.YtbnieljkadcaoaaDoor
open Go.RowKit Go.Shelf Go.Sort

theorem ins_getD {α : Type} (l : List α) (k : Nat) (x d : α) (hk : k ≤ l.length) (j : Nat) : (l.take k ++ [x] ++ l.drop k).getD j d = if j < k then l.getD j d else if j = k then x else l.getD (j - 1) d := by
  have hkk : (l.take k).length = k := by rw [List.length_take]; omega
  simp only [List.getD]
  by_cases h1 : j < k
  · rw [if_pos h1, List.append_assoc, List.getElem?_append_left (by omega), List.getElem?_take, if_pos h1]
  · rw [if_neg h1]
    by_cases h2 : j = k
    · rw [if_pos h2, List.append_assoc, List.getElem?_append_right (by omega), hkk, h2, Nat.sub_self]
      rfl
    · rw [if_neg h2, List.getElem?_append_right (by simp; omega), List.getElem?_drop]
      have e : k + (j - (l.take k ++ [x]).length) = j - 1 := by simp; omega
      rw [e]
theorem ins_rd {w : World} {us : List Value} {R : List (List LbT)} {x : Value} {s : List LbT} (h : RdS w us R) (k : Nat) (hk : k ≤ us.length) (hx : RdL w x s) : RdS w (us.take k ++ [x] ++ us.drop k) (R.take k ++ [s] ++ R.drop k) := by
  refine ⟨by have := h.1; simp; omega, fun j => ?_⟩
  rw [ins_getD us k x nilV hk j, ins_getD R k s [] (by rw [← h.1]; exact hk) j]
  by_cases h1 : j < k
  · rw [if_pos h1, if_pos h1]
    exact h.2 j
  · rw [if_neg h1, if_neg h1]
    by_cases h2 : j = k
    · rw [if_pos h2, if_pos h2]
      exact hx
    · rw [if_neg h2, if_neg h2]
      exact h.2 _
theorem ins_up {R : List (List LbT)} {s : List LbT} (h : upS R) (k : Nat) (hlo : ∀ j, j < k → cmpLs (R.getD j []) s < 0) (hhi : k < R.length → cmpLs s (R.getD k []) < 0) : upS (R.take k ++ [s] ++ R.drop k) := by
  have hlo2 : ∀ x ∈ R.take k, cmpLs x s < 0 := by
    intro x hx
    obtain ⟨j, hj, rfl⟩ := List.mem_iff_getElem.1 hx
    have hj2 : j < k ∧ j < R.length := by rw [List.length_take] at hj; omega
    have := hlo j hj2.1
    simpa [List.getD, hj2.2] using this
  have hhi2 : ∀ x ∈ R.drop k, cmpLs s x < 0 := by
    intro x hx
    obtain ⟨j, hj, rfl⟩ := List.mem_iff_getElem.1 hx
    have hj2 : k + j < R.length := by rw [List.length_drop] at hj; omega
    have h0 := hhi (by omega)
    rw [List.getElem_drop]
    have e0 : R.getD k [] = R[k]'(by omega) := by simp [List.getD, show k < R.length by omega]
    rw [e0] at h0
    by_cases e : j = 0
    · subst e
      exact h0
    · have h1 := List.pairwise_iff_getElem.1 h k (k + j) (by omega) hj2 (by omega)
      exact cmpLs_lt_trans _ _ _ h0 h1
  unfold upS
  rw [List.pairwise_append, List.pairwise_append]
  refine ⟨⟨List.Pairwise.take h, List.pairwise_singleton _ _, fun a ha b hb => ?_⟩, List.Pairwise.drop h, fun a ha b hb => ?_⟩
  · rw [List.mem_singleton] at hb
    subst hb
    exact hlo2 a ha
  · rcases List.mem_append.1 ha with h1 | h1
    · exact cmpLs_lt_trans _ _ _ (hlo2 a h1) (hhi2 b hb)
    · rw [List.mem_singleton] at h1
      subst h1
      exact hhi2 b hb
theorem ins_mem (R : List (List LbT)) (k : Nat) (s x : List LbT) : x ∈ R.take k ++ [s] ++ R.drop k ↔ x ∈ R ∨ x = s := by
  have : x ∈ R ↔ x ∈ R.take k ∨ x ∈ R.drop k := by
    rw [← List.mem_append, List.take_append_drop]
  rw [this]
  simp only [List.mem_append, List.mem_singleton]
  constructor
  · rintro ((h | h) | h)
    · exact .inl (.inl h)
    · exact .inr h
    · exact .inl (.inr h)
  · rintro ((h | h) | h)
    · exact .inl (.inl h)
    · exact .inr h
    · exact .inl (.inr h)
theorem take_mem {lss : List (List LbT)} {z : Nat} (hz : z < lss.length) (x : List LbT) : x ∈ lss.take (z + 1) ↔ x ∈ lss.take z ∨ x = lss.getD z [] := by
  have e1 : lss.getD z [] = lss[z] := by simp [List.getD, hz]
  rw [e1, List.take_succ_eq_append_getElem hz, List.mem_append, List.mem_singleton]
/-- what the document's Sorted answers -/
def SrtR (w : World) (lss : List (List LbT)) (e : Ending) (w' : World) : Prop := w.grownBy w' none ∧ ((allR lss = false ∧ e = .returned (.tuple #[.slice none 0 0, .int .i64 41])) ∨ (allR lss = true ∧ ∃ a n c R, e = .returned (.tuple #[.slice a n c, .int .i64 0]) ∧ RdLL w' (.slice a n c) R ∧ upS R ∧ ∀ x, x ∈ R ↔ x ∈ lss))
set_option maxRecDepth 8000 in
set_option maxHeartbeats 12800000 in
theorem refSorted_any (w : World) (v : Value) (lss : List (List LbT)) (hv : RdLL w v lss) (hi : LLIn lss) (hl : lss.length ≤ 6000000000000) :
    Calls Tryd.prog 15 #[v] w fun e w' => SrtR w lss e w' := by
  have HA := hidJ (refSets_any w v lss hv hi)
  obtain ⟨va, vc, rfl, hc1, hc2⟩ := hv.shape
  have HV := hidJ hv
  clear hv hi
  by_cases h0 : allR lss = true
  · rw [h0] at HA
    have HQ : Hid (∀ a n c R w', w.grownBy w' none → RdLL w' (.slice a n c) R → upS R → (∀ x, x ∈ R ↔ x ∈ lss) → SrtR w lss (.returned (.tuple #[.slice a n c, .int .i64 0])) w') := fun a n c R w' h1 h2 h3 h4 => ⟨h1, .inr ⟨h0, a, n, c, R, rfl, h2, h3, h4⟩⟩
    clear h0
    go_enter Tryd.func15, Tryd.ntmps15
    go_wp2_with fail
    refine HA.out.mono ?_
    rintro e w1 ⟨rfl, g1⟩
    have H1 := hidJ g1
    clear HA g1
    go_wp2
    go_loopw [4, 14] (fun o i wr => ∃ z a n c, z ≤ lss.length ∧ o = .slice a n c ∧ i = .int .i64 (z : Nat) ∧ n ≤ z ∧ (∃ us R, OwnVs wr w.heap.size (.slice a n c) us ∧ RdS w us R ∧ upS R ∧ (∀ x, x ∈ R ↔ x ∈ lss.take z) ∧ w.grownBy wr none)) (fun _ i _ => lss.length - (intOf i).toNat)
    case atStart => exact ⟨0, none, 0, 0, by omega, rfl, rfl, by omega, [], [], OwnVs.nil _ _, RdS.nil _, List.Pairwise.nil, by simp, H1.out⟩
    case round =>
      obtain ⟨z, a, n, c, hzN, rfl, rfl, hnz, us, R, hO, hU, hUp, hMem, hg⟩ := hrel
      clear H1
      by_cases hzl : z < lss.length
      · have hzi : (z : Int) < (lss.length : Int) := by omega
        have HZL := hidJ hzl
        obtain ⟨b, o, sa, sc, rfl, s0, hrs⟩ := (HV.out.keep hg).at (j := z) hzl
        have hrsw : RdL w (.slice sa (lss.getD z []).length sc) (lss.getD z []) := by
          obtain ⟨b2, o2, a2, c2, e1, d0, hrd2⟩ := HV.out.at (j := z) hzl
          cases e1
          have : wr.cell? ⟨b, o + z, none⟩ = some (.slice a2 (lss.getD z []).length c2) := (World.cell?_of_block (hg.block b (block_lt d0) (by simp))).trans d0
          rw [s0] at this
          simp only [Option.some.injEq] at this
          rw [this]
          exact hrd2
        have HSV := hidJ hrsw
        have HUL : Hid (us.length = n) := by
          obtain ⟨-, -, h3, -⟩ := hO.head 0
          exact h3.symm
        obtain ⟨-, -, -, hnc, hcm⟩ := hO.head 0
        unfold maxLen at hcm
        have HU := hidJ (And.intro hU (And.intro hUp hMem))
        have HUS : Hid (∀ u ∈ us, u.oneCell' = true) := hU.one
        have HX0 := hidJ (And.intro hO hg)
        have HShU : Hid (∀ j, ∃ a m c, us.getD j nilV = .slice a m c) := fun j => by
          obtain ⟨a, c, e⟩ := (HU.out.1.2 j).shape
          exact ⟨a, _, c, e⟩
        clear hrs hrsw hO hU hUp hMem hg
        obtain ⟨sn, hsn⟩ : ∃ sn, (lss.getD z []).length = sn := ⟨_, rfl⟩
        rw [hsn] at s0 HSV
        clear hsn
        go_wp2
        go_loopw [7] (fun i wr2 => ∃ k : Nat, k ≤ n ∧ i = .int .i64 k ∧ Hid ((OwnVs wr2 w.heap.size (.slice a n c) us ∧ w.grownBy wr2 none) ∧ ∀ j, j < k → cmpLs (R.getD j []) (lss.getD z []) < 0)) (fun i _ => n - (intOf i).toNat)
        case atStart => exact ⟨0, by omega, rfl, HX0.out, fun j hj => by omega⟩
        case round =>
          obtain ⟨k, hkn, rfl, hr⟩ := hrel
          clear HX0 s0
          have HLo := hidJ hr.out.2
          by_cases hkl : k < n
          · have hki : (k : Int) < (n : Int) := by omega
            obtain ⟨g, c2, e, -, -, -, c0, -, hgl⟩ := hr.out.1.1.cell (j := k) (by have := HUL.out; omega)
            simp only [Value.slice.injEq] at e
            obtain ⟨rfl, -, rfl⟩ := e
            obtain ⟨ka, km, kc, ek⟩ := HShU.out k
            rw [ek] at c0
            have HC : Hid (∀ W, w.grownBy W none → Calls Tryd.prog 42 #[.slice ka km kc, .slice sa sn sc] W fun e w' => e = .returned (.int .i64 (cmpLs (R.getD k []) (lss.getD z []))) ∧ W.grownBy w' none) := fun W hW => by
              have h1 := (HU.out.1.2 k).keep hW
              rw [ek] at h1
              exact refCompare_any W _ _ _ _ h1 (HSV.out.keep hW)
            have HSm : Hid (∀ W, w.grownBy W none → Calls Tryd.prog 38 #[.slice ka km kc, .slice sa sn sc] W fun e w' => e = .returned (.bool (decide (R.getD k [] = lss.getD z []))) ∧ W.grownBy w' none) := fun W hW => by
              have h1 := (HU.out.1.2 k).keep hW
              rw [ek] at h1
              exact refSameN_any W _ _ _ _ h1 (HSV.out.keep hW)
            clear ek
            by_cases hm : cmpLs (R.getD k []) (lss.getD z []) < 0
            · have HLo2 : Hid (∀ j, j < k + 1 → cmpLs (R.getD j []) (lss.getD z []) < 0) := fun j hj => by
                rcases (by omega : j < k ∨ j = k) with h | h
                · exact HLo.out j h
                · rw [h]; exact hm
              generalize cmpLs (R.getD k []) (lss.getD z []) = r at HC hm
              have HX := hidJ hr.out.1
              clear hr HLo HSm
              go_wp2_with fail
              refine (HC.out _ HX.out.2).mono ?_
              rintro e w2 ⟨rfl, g2⟩
              have HX2 := hidJ (And.intro (HX.out.1.keep g2) (gb_none HX.out.2 g2))
              clear HC HX g2 c0
              go_wp2
              go_roundw
              case rel => exact ⟨k + 1, by omega, by go_num, HX2.out, HLo2.out⟩
              case measure => simp [intOf]; omega
            · have HM := hidJ hm
              obtain ⟨r, hr2⟩ : ∃ r, cmpLs (R.getD k []) (lss.getD z []) = r := ⟨_, rfl⟩
              rw [hr2] at HC hm
              clear hr2
              have HX := hidJ hr.out.1
              clear hr
              go_wp2_with fail
              refine (HC.out _ HX.out.2).mono ?_
              rintro e w2 ⟨rfl, g2⟩
              have HX2 := hidJ (And.intro (HX.out.1.keep g2) (gb_none HX.out.2 g2))
              have c1 : w2.cell? ⟨g, k, none⟩ = some (.slice ka km kc) := (World.cell?_of_block (g2.block g hgl (by simp))).trans c0
              have hgl2 : g < w2.heap.size := block_lt c1
              clear HC HX g2 c0
              go_wp2_with fail
              refine (HSm.out _ HX2.out.2).mono ?_
              rintro e w3 ⟨rfl, g3⟩
              have HX := hidJ (And.intro (HX2.out.1.keep g3) (gb_none HX2.out.2 g3))
              clear HSm HX2 g3 c1
              by_cases he : R.getD k [] = lss.getD z []
              · have HN : Hid (∃ us R, OwnVs w3 w.heap.size (.slice (some ⟨g, 0, none⟩) n c) us ∧ RdS w us R ∧ upS R ∧ (∀ x, x ∈ R ↔ x ∈ lss.take (z + 1)) ∧ w.grownBy w3 none) := by
                  refine ⟨us, R, HX.out.1, HU.out.1, HU.out.2.1, fun x => ?_, HX.out.2⟩
                  rw [take_mem HZL.out, ← HU.out.2.2 x]
                  constructor
                  · exact .inl
                  · rintro (h | rfl)
                    · exact h
                    · have hk2 : k < R.length := by have := HU.out.1.1; have := HUL.out; omega
                      have e1 : R.getD k [] = R[k] := by simp [List.getD, hk2]
                      rw [← he, e1]
                      exact List.getElem_mem hk2
                rw [decide_eq_true he]
                clear he HX HU
                go_wp2
                go_roundw
                case rel => exact ⟨z + 1, some ⟨g, 0, none⟩, n, c, by omega, rfl, by go_num, by omega, HN.out⟩
                case measure => simp [intOf]; omega
              · have HHi : Hid (k < R.length → cmpLs (lss.getD z []) (R.getD k []) < 0) := fun _ => by
                  rw [cmpLs_neg]
                  have h1 := HM.out
                  have h2 : cmpLs (R.getD k []) (lss.getD z []) ≠ 0 := fun e => he ((cmpLs_zero _ _).1 e)
                  omega
                rw [decide_eq_false he]
                clear he
                have hs1 : ∀ W, (Instr.slice 22 (.slice (some ⟨g, 0, none⟩) n c) none (some (.int .i64 (k : Int))) none).run Tryd.prog W = .ok (.slice (some ⟨g, 0, none⟩) k c) W := fun W => run_headV W _ n c k (by omega) hnc
                obtain ⟨a2A, c2A, W2A, a3A, c3A, W3A, b1A, a4A, c4A, W4A, r1A, r2A, t1A, r3A, o4A, g4A⟩ := threeV (HX.out.1) k (by omega) (.slice sa sn sc) rfl HUS.out (by omega)
                have HNA : Hid (∃ us R, OwnVs W4A w.heap.size (.slice a4A (n + 1) c4A) us ∧ RdS w us R ∧ upS R ∧ (∀ x, x ∈ R ↔ x ∈ lss.take (z + 1)) ∧ w.grownBy W4A none) := by
                  refine ⟨us.take k ++ [.slice sa sn sc] ++ us.drop k, R.take k ++ [lss.getD z []] ++ R.drop k, o4A.mono HX.out.2.size, ins_rd HU.out.1 k (by have := HU.out.1.1; have := HUL.out; omega) HSV.out, ins_up HU.out.2.1 k HLo.out HHi.out, fun x => ?_, gb_none HX.out.2 g4A⟩
                  rw [ins_mem, HU.out.2.2 x]
                  exact (take_mem HZL.out x).symm
                clear o4A g4A HX HLo HHi
                go_wp2_with (first
                  | (at_builtin; refine wp_appRun rfl (.tmp 45) (.tmp 48) 22 rfl _ _ _ rfl rfl r1A ?_)
                  | (at_builtin; refine wp_appRun rfl (.tmp 50) (.tmp 52) 22 rfl _ _ _ rfl rfl r2A ?_)
                  | (at_builtin; refine wp_appRun rfl (.tmp 54) (.tmp 57) 22 rfl _ _ _ rfl rfl r3A ?_))
                go_roundw
                case rel => exact ⟨z + 1, a4A, n + 1, c4A, by omega, rfl, by go_num, by omega, HNA.out⟩
                case measure => simp [intOf]; omega
          · have hki : ¬ (k : Int) < (n : Int) := by omega
            have HX := hidJ hr.out.1
            have HHi : Hid (k < R.length → cmpLs (lss.getD z []) (R.getD k []) < 0) := fun h => by have := HU.out.1.1; have := HUL.out; omega
            clear hr
            have hs1 : ∀ W, (Instr.slice 22 (.slice a n c) none (some (.int .i64 (k : Int))) none).run Tryd.prog W = .ok (.slice a k c) W := fun W => run_headV W _ n c k (by omega) hnc
            obtain ⟨a2B, c2B, W2B, a3B, c3B, W3B, b1B, a4B, c4B, W4B, r1B, r2B, t1B, r3B, o4B, g4B⟩ := threeV (HX.out.1) k (by omega) (.slice sa sn sc) rfl HUS.out (by omega)
            have HNB : Hid (∃ us R, OwnVs W4B w.heap.size (.slice a4B (n + 1) c4B) us ∧ RdS w us R ∧ upS R ∧ (∀ x, x ∈ R ↔ x ∈ lss.take (z + 1)) ∧ w.grownBy W4B none) := by
              refine ⟨us.take k ++ [.slice sa sn sc] ++ us.drop k, R.take k ++ [lss.getD z []] ++ R.drop k, o4B.mono HX.out.2.size, ins_rd HU.out.1 k (by have := HU.out.1.1; have := HUL.out; omega) HSV.out, ins_up HU.out.2.1 k HLo.out HHi.out, fun x => ?_, gb_none HX.out.2 g4B⟩
              rw [ins_mem, HU.out.2.2 x]
              exact (take_mem HZL.out x).symm
            clear o4B g4B HX HLo HHi
            go_wp2_with (first
              | (at_builtin; refine wp_appRun rfl (.tmp 45) (.tmp 48) 22 rfl _ _ _ rfl rfl r1B ?_)
              | (at_builtin; refine wp_appRun rfl (.tmp 50) (.tmp 52) 22 rfl _ _ _ rfl rfl r2B ?_)
              | (at_builtin; refine wp_appRun rfl (.tmp 54) (.tmp 57) 22 rfl _ _ _ rfl rfl r3B ?_))
            go_roundw
            case rel => exact ⟨z + 1, a4B, n + 1, c4B, by omega, rfl, by go_num, by omega, HNB.out⟩
            case measure => simp [intOf]; omega
      · have hzi : ¬ (z : Int) < (lss.length : Int) := by omega
        have HF : Hid (SrtR w lss (.returned (.tuple #[.slice a n c, .int .i64 0])) wr) := by
          have e : z = lss.length := by omega
          subst e
          rw [List.take_length] at hMem
          exact HQ.out _ _ _ R _ hg ⟨us, hO.rd, hU.keep hg⟩ hUp hMem
        clear hO hU hUp hMem hg
        go_wp2
        go_ret2
        exact HF.out
  · rw [Bool.not_eq_true] at h0
    rw [h0] at HA
    have HQ : Hid (∀ w', w.grownBy w' none → SrtR w lss (.returned (.tuple #[.slice none 0 0, .int .i64 41])) w') := fun w' h1 => ⟨h1, .inl ⟨h0, rfl⟩⟩
    clear h0
    go_enter Tryd.func15, Tryd.ntmps15
    go_wp2_with fail
    refine HA.out.mono ?_
    rintro e w1 ⟨rfl, g1⟩
    have HF := hidJ (HQ.out w1 g1)
    clear HA g1 HQ
    go_wp2
    go_ret2
    exact HF.out
end Go.Proofs.YtbnieljkadcaoaaDoor
