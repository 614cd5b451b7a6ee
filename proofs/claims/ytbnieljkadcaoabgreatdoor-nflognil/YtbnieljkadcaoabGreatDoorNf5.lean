/-
  nflog's Within: the walks.
-/
import Derived.Test.YtbnieljkadcaoabGreatDoorNf4
namespace Go.Proofs.YtbnieljkadcaoabGreatDoor
open Go.RowKit Go.Shelf Go.Sort

theorem ris_at {lss : List (List LbT)} (h : risL lss) {i j : Nat} (hij : i < j) (hj : j < lss.length) : cmpLs (lss.getD i []) (lss.getD j []) ≤ 0 := by
  have := List.pairwise_iff_getElem.1 h i j (by omega) hj hij
  have e1 : lss.getD j [] = lss[j] := by simp [List.getD, hj]
  have e2 : lss.getD i [] = lss[i]'(by omega) := by simp [List.getD, show i < lss.length by omega]
  rwa [e1, e2]
theorem le_lt {a b c : List LbT} (h1 : cmpLs a b ≤ 0) (h2 : cmpLs b c < 0) : cmpLs a c < 0 := by
  by_cases e : cmpLs a b = 0
  · rw [(cmpLs_zero _ _).1 e]; exact h2
  · exact cmpLs_lt_trans _ _ _ (by omega) h2
/-- found, where it would stand -/
theorem found_at {lss : List (List LbT)} {ms : List LbT} {p : Nat} (hs : risL lss) (hlo : ∀ k, k < p → cmpLs (lss.getD k []) ms < 0) (hhi : ∀ k, p ≤ k → k < lss.length → 0 ≤ cmpLs (lss.getD k []) ms) : decide (ms ∈ lss) = (decide (p < lss.length) && decide (cmpLs (lss.getD p []) ms = 0)) := by
  rw [Bool.eq_iff_iff, decide_eq_true_eq, Bool.and_eq_true, decide_eq_true_eq, decide_eq_true_eq]
  constructor
  · intro h
    obtain ⟨k, hk, he⟩ := List.mem_iff_getElem.1 h
    have ek : lss.getD k [] = ms := by simp [List.getD, hk, he]
    have hpk : p ≤ k := by
      rcases Nat.lt_or_ge k p with h1 | h1
      · have := hlo k h1
        rw [ek, (cmpLs_zero _ _).2 rfl] at this
        omega
      · exact h1
    refine ⟨by omega, ?_⟩
    rcases Nat.lt_or_ge p k with h1 | h1
    · have h2 := ris_at hs h1 hk
      have h3 := hhi p (Nat.le_refl _) (by omega)
      rw [ek] at h2
      omega
    · have : p = k := by omega
      rw [this, ek]
      exact (cmpLs_zero _ _).2 rfl
  · rintro ⟨h1, h2⟩
    have := (cmpLs_zero _ _).1 h2
    rw [← this]
    simp [List.getD, h1]

set_option maxRecDepth 8000 in
set_option maxHeartbeats 6400000 in
theorem bsearchV_any (w w1 : World) (v u : Value) (vs : List Value) (lss : List (List LbT)) (ms : List LbT) (hv : RdV w1 v vs) (hS : RdS w vs lss) (hg : w.grownBy w1 none) (hu : RdL w u ms) (hs : risL lss) (hl : lss.length ≤ 6000000000000) :
    Calls Tryz.prog 100 #[v, u, .func (.func 72) #[] #[]] w1 fun e w' => ∃ p : Nat, e = .returned (.tuple #[.int .i64 (p : Int), .bool (decide (ms ∈ lss))]) ∧ w1.grownBy w' none := by
  have hvl : RdLL w1 v lss := ⟨vs, hv, hS.keep hg⟩
  have HV : Hid (RdLL w1 v lss ∧ RdL w1 u ms ∧ risL lss) := ⟨hvl, hu.keep hg, hs⟩
  obtain ⟨a, c, rfl, hc1, hc2⟩ := hvl.shape
  obtain ⟨ua, uc, rfl⟩ := hu.shape
  clear hv hS hg hu hs hvl
  obtain ⟨R, hR⟩ : ∃ R, R = decide (ms ∈ lss) := ⟨_, rfl⟩
  rw [← hR]
  have HR := hidJ hR
  clear hR
  go_enter Tryz.func100, Tryz.ntmps100
  go_wp2
  go_loopw [9, 10] (fun ui uj wr => ∃ i j : Nat, i ≤ j ∧ j ≤ lss.length ∧ ui = .int .i64 i ∧ uj = .int .i64 j ∧ Hid (w1.grownBy wr none ∧ (∀ k, k < i → cmpLs (lss.getD k []) ms < 0) ∧ ∀ k, j ≤ k → k < lss.length → 0 ≤ cmpLs (lss.getD k []) ms)) (fun ui uj _ => (intOf uj).toNat - (intOf ui).toNat)
  case atStart => exact ⟨0, lss.length, by omega, by omega, rfl, rfl, gb_refl _ _, fun k hk => by omega, fun k h1 h2 => by omega⟩
  case round =>
    obtain ⟨i, j, hij, hjl, rfl, rfl, hr⟩ := hrel
    by_cases hlt : i < j
    · have hi : (i : Int) < (j : Int) := by omega
      obtain ⟨h, hh⟩ : ∃ h, h = (i + j) / 2 := ⟨_, rfl⟩
      have hhi : ((i : Int) + (j : Int)) / 2 = (h : Int) := by omega
      have hih : i ≤ h := by omega
      have hhj : h < j := by omega
      have hhl : (h : Int) < (lss.length : Int) := by omega
      have hu : IntKind.u64.wrap ((i : Int) + (j : Int)) = (i : Int) + (j : Int) := by rw [IntKind.wrap_u64]; omega
      clear hh
      obtain ⟨b, o, ha, hcc, rfl, c0, hrd⟩ := (HV.out.1.keep hr.out.1).at (j := h) (by omega)
      have HO : Hid (Calls Tryz.prog 72 #[.slice ha (lss.getD h []).length hcc, .slice ua ms.length uc] wr fun e w' => e = .returned (.int .i64 (cmpLs (lss.getD h []) ms)) ∧ wr.grownBy w' none) := (compareG wr _ _ _ _ hrd (HV.out.2.1.keep hr.out.1)).mono fun e w' ⟨h1, h2⟩ => ⟨h1, h2.gb⟩
      clear hrd
      generalize (lss.getD h []).length = hn at *
      by_cases hn' : cmpLs (lss.getD h []) ms < 0
      · have HE : Hid (∀ k, k < h + 1 → cmpLs (lss.getD k []) ms < 0) := fun k hk => by
          by_cases e : k = h
          · rw [e]; exact hn'
          · exact le_lt (ris_at HV.out.2.2 (by omega : k < h) (by omega)) hn'
        generalize cmpLs (lss.getD h []) ms = r at *
        go_wp2_with fail
        refine HO.out.mono ?_
        rintro e w2 ⟨rfl, hg1⟩
        have H1 : Hid (w1.grownBy w2 none ∧ (∀ k, k < h + 1 → cmpLs (lss.getD k []) ms < 0) ∧ ∀ k, j ≤ k → k < lss.length → 0 ≤ cmpLs (lss.getD k []) ms) := ⟨gb_none hr.out.1 hg1, HE.out, hr.out.2.2⟩
        clear HO hg1 hr c0 HE hu hhi
        go_wp2
        go_roundw
        case rel => exact ⟨h + 1, j, by omega, by omega, by simp, rfl, H1.out⟩
        case measure => simp [intOf]; omega
      · have HE : Hid (∀ k, h ≤ k → k < lss.length → 0 ≤ cmpLs (lss.getD k []) ms) := fun k hk hkl => by
          by_cases e2 : k = h
          · rw [e2]; omega
          · rcases Int.lt_or_le (cmpLs (lss.getD k []) ms) 0 with e | e
            · exact absurd (le_lt (ris_at HV.out.2.2 (by omega : h < k) hkl) e) hn'
            · exact e
        generalize cmpLs (lss.getD h []) ms = r at *
        go_wp2_with fail
        refine HO.out.mono ?_
        rintro e w2 ⟨rfl, hg1⟩
        have H1 : Hid (w1.grownBy w2 none ∧ (∀ k, k < i → cmpLs (lss.getD k []) ms < 0) ∧ ∀ k, h ≤ k → k < lss.length → 0 ≤ cmpLs (lss.getD k []) ms) := ⟨gb_none hr.out.1 hg1, hr.out.2.1, HE.out⟩
        clear HO hg1 hr c0 HE hu hhi
        go_wp2
        go_roundw
        case rel => exact ⟨i, h, by omega, by omega, rfl, rfl, H1.out⟩
        case measure => simp [intOf]; omega
    · obtain rfl : i = j := by omega
      have hi : ¬ (i : Int) < (i : Int) := by omega
      have HF := hidJ (found_at HV.out.2.2 hr.out.2.1 hr.out.2.2)
      have HG : Hid (w1.grownBy wr none) := hr.out.1
      by_cases hil : i < lss.length
      · have hili : (i : Int) < (lss.length : Int) := by omega
        obtain ⟨b, o, ha, hcc, rfl, c0, hrd⟩ := (HV.out.1.keep hr.out.1).at (j := i) hil
        have HO : Hid (Calls Tryz.prog 72 #[.slice ha (lss.getD i []).length hcc, .slice ua ms.length uc] wr fun e w' => e = .returned (.int .i64 (cmpLs (lss.getD i []) ms)) ∧ wr.grownBy w' none) := (compareG wr _ _ _ _ hrd (HV.out.2.1.keep hr.out.1)).mono fun e w' ⟨h1, h2⟩ => ⟨h1, h2.gb⟩
        have HB : Hid (R = (cmpLs (lss.getD i []) ms == 0)) := by
          show _ = _
          rw [HR.out, HF.out, decide_eq_true hil, Bool.true_and, Bool.eq_iff_iff, decide_eq_true_eq, beq_iff_eq]
        clear hr hrd HF HR
        generalize (lss.getD i []).length = hn at *
        generalize cmpLs (lss.getD i []) ms = r at *
        go_wp2_with fail
        refine HO.out.mono ?_
        rintro e w2 ⟨rfl, hg1⟩
        have H1 : Hid (w1.grownBy w2 none) := gb_none HG.out hg1
        clear HO hg1 c0
        go_wp2
        go_ret2
        first | exact ⟨i, by rw [HB.out]; rfl, H1.out⟩ | exact ⟨⟨i, by rw [HB.out]; rfl⟩, H1.out⟩
      · have hili : ¬ (i : Int) < (lss.length : Int) := by omega
        have HB : Hid (R = false) := by
          show _ = _
          rw [HR.out, HF.out, decide_eq_false hil, Bool.false_and]
        clear hr HF HR
        go_wp2
        go_ret2
        first | exact ⟨i, by rw [HB.out]; rfl, HG.out⟩ | exact ⟨⟨i, by rw [HB.out]; rfl⟩, HG.out⟩

/-- is each of a in b? -/
def withinB (a b : List (List LbT)) : Bool := a.all fun x => decide (x ∈ b)
theorem within_drop {a b : List (List LbT)} {z : Nat} (hz : z < a.length) : withinB (a.drop z) b = (decide (a.getD z [] ∈ b) && withinB (a.drop (z + 1)) b) := by
  have e1 : a.getD z [] = a[z] := by simp [List.getD, hz]
  rw [List.drop_eq_getElem_cons hz, e1]
  rfl
set_option maxRecDepth 8000 in
set_option maxHeartbeats 3200000 in
theorem withinN_any (w : World) (va vb : Value) (xs bs : List (List LbT)) (ha : RdLL w va xs) (hb : RdLL w vb bs) (hl : bs.length ≤ 6000000000000) :
    Calls Tryz.prog 83 #[va, vb] w fun e w' => e = .returned (.bool (withinB xs bs)) ∧ w.grownBy w' none := by
  obtain ⟨vs, hV, hS⟩ := hb
  have HA := hidJ ha
  have HI := hidJ (inOrder_any w vb vs bs hV hS (by rw [hS.1]; exact hl))
  have HL := hidJ hl
  obtain ⟨a, c, rfl, hc1, hc2⟩ := ha.shape
  have hbs : ∃ a n c, vb = .slice a n c := by obtain ⟨a, c, e, -⟩ := hV; exact ⟨_, _, _, e⟩
  obtain ⟨ba, bn, bc, rfl⟩ := hbs
  obtain ⟨R, hR⟩ : ∃ R, R = withinB xs bs := ⟨_, rfl⟩
  rw [← hR]
  have HR : Hid (R = withinB (xs.drop 0) bs) := by show R = _; rw [hR]; simp
  clear ha hV hS hl hR
  go_enter Tryz.func83, Tryz.ntmps83
  go_wp2_with fail
  refine HI.out.mono ?_
  rintro e w1 ⟨v', vs', lss', rfl, H1⟩
  have H1 := hidJ H1
  obtain ⟨a', c', rfl⟩ := H1.out.1.shape
  clear HI
  go_wp2
  go_loopw [14] (fun i wr => ∃ z : Nat, z ≤ xs.length ∧ i = .int .i64 z ∧ Hid (w1.grownBy wr none ∧ R = withinB (xs.drop z) bs)) (fun i _ => xs.length - (intOf i).toNat)
  case atStart => exact ⟨0, by omega, rfl, gb_refl _ _, HR.out⟩
  case round =>
    obtain ⟨z, hzN, rfl, hr⟩ := hrel
    have HG : Hid (w1.grownBy wr none) := hr.out.1
    have HG0 : Hid (w.grownBy wr none) := gb_none H1.out.2.2.2.2.2 hr.out.1
    by_cases hzl : z < xs.length
    · have hzi : (z : Int) < (xs.length : Int) := by omega
      obtain ⟨b, o, ha', hcc, rfl, c0, hrd⟩ := (HA.out.keep HG0.out).at (j := z) hzl
      have hrdw : RdL w (.slice ha' (xs.getD z []).length hcc) (xs.getD z []) := by
        obtain ⟨b2, o2, a2, c2, e1, d0, hrd2⟩ := HA.out.at (j := z) hzl
        cases e1
        have : wr.cell? ⟨b, o + z, none⟩ = some (.slice a2 (xs.getD z []).length c2) := (World.cell?_of_block (HG0.out.block b (block_lt d0) (by simp))).trans d0
        rw [c0] at this
        simp only [Option.some.injEq, Value.slice.injEq] at this
        obtain ⟨rfl, -, rfl⟩ := this
        exact hrd2
      have HB := hidJ (bsearchV_any w wr (.slice a' vs'.length c') (.slice ha' (xs.getD z []).length hcc) vs' lss' (xs.getD z []) (H1.out.1.rd.keep HG.out) H1.out.2.1 HG0.out hrdw H1.out.2.2.2.1 (by have := HL.out; have := H1.out.2.2.1.length_eq; omega))
      have HM : Hid (decide (xs.getD z [] ∈ lss') = decide (xs.getD z [] ∈ bs)) := by
        show _ = _
        rw [Bool.eq_iff_iff, decide_eq_true_eq, decide_eq_true_eq]
        exact H1.out.2.2.1.mem_iff
      have HW : Hid (R = (decide (xs.getD z [] ∈ bs) && withinB (xs.drop (z + 1)) bs)) := by
        show _ = _
        rw [← within_drop hzl]
        exact hr.out.2
      rw [HM.out] at HB
      clear hr hrd hrdw HM HR
      generalize (xs.getD z []).length = hn at *
      by_cases hm : xs.getD z [] ∈ bs
      · rw [decide_eq_true hm] at HB HW
        rw [Bool.true_and] at HW
        clear hm
        go_wp2_with fail
        refine HB.out.mono ?_
        rintro e w2 ⟨p, rfl, hg2⟩
        have H2 := hidJ (gb_none HG.out hg2)
        clear HB hg2 c0
        go_wp2
        go_roundw
        case rel => exact ⟨z + 1, by omega, by go_num, H2.out, HW.out⟩
        case measure => simp [intOf]; omega
      · rw [decide_eq_false hm] at HB HW
        rw [Bool.false_and] at HW
        clear hm
        go_wp2_with fail
        refine HB.out.mono ?_
        rintro e w2 ⟨p, rfl, hg2⟩
        have H2 := hidJ (gb_none HG0.out hg2)
        clear HB hg2 c0
        go_wp2
        go_ret
        exact ⟨by rw [HW.out]; rfl, H2.out⟩
    · have hzi : ¬ (z : Int) < (xs.length : Int) := by omega
      have HW : Hid (R = true) := by
        show _ = _
        rw [hr.out.2, List.drop_eq_nil_of_le (by omega)]
        rfl
      clear hr HR
      go_wp2
      go_ret
      exact ⟨by rw [HW.out]; rfl, HG0.out⟩
end Go.Proofs.YtbnieljkadcaoabGreatDoor
