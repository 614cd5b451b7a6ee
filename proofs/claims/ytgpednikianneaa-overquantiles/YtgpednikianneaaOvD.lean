/-
  What a window comes to, function by function; is a window right?
-/
import Derived.Test.YtgpednikianneaaOvC
namespace Go.Proofs.Ytgpednikianneaa
open Go.RowKit

def val_least (l : List SmpT) : Nat := pkN lessB l (l.length - 1)
def val_greatest (l : List SmpT) : Nat := pkN moreB l (l.length - 1)
def val_changes (l : List SmpT) : Nat := floatOfInt .f64 ((hwN chgB l (l.length - 1) : Nat) : Int)
def val_resets (l : List SmpT) : Nat := floatOfInt .f64 ((hwN rstB l (l.length - 1) : Nat) : Int)
def val_count (l : List SmpT) : Nat := floatOfInt .f64 ((l.length : Nat) : Int)
def val_last (l : List SmpT) : Nat := (l.getD (l.length - 1) smZ).2
def val_present (_l : List SmpT) : Nat := 4607182418800017408
set_option maxHeartbeats 1600000 in
theorem win_least_any (w : World) (a : Option Addr) (c : Nat) (l : List SmpT) (frm upt : Int) (hv : RdP w (.slice a l.length c) l) (hl : 1 ≤ l.length) :
    Calls Try.prog 50 #[.agg #[.slice a l.length c, .int .i64 frm, .int .i64 upt]] w fun e w' => e = .returned (.float .f64 (val_least l)) ∧ w.grownBy w' none := by
  have hg := alloc_gb w (.cells #[.slice a l.length c, .int .i64 frm, .int .i64 upt] 54)
  obtain ⟨V, hV⟩ : ∃ V, V = val_least l := ⟨_, rfl⟩
  have HC := hidJ ((come_least (w.alloc (.cells #[.slice a l.length c, .int .i64 frm, .int .i64 upt] 54)) a c l frm upt (hv.keep hg) hl).mono (fun e w' h => (show e = .returned (.float .f64 V) ∧ (w.alloc (.cells #[.slice a l.length c, .int .i64 frm, .int .i64 upt] 54)).grownBy w' none from by rw [hV]; exact h)))
  rw [← hV]
  clear hV
  have HG := hidJ hg
  clear hg hv hl
  generalize hN : l.length = N at *
  clear hN
  go_enter Try.func50, Try.ntmps50
  go_wp2_with fail
  refine HC.out.mono ?_
  rintro e w1 ⟨rfl, q1⟩
  have HG1 := hidJ (gb_none HG.out q1)
  clear HC HG q1
  go_wp2
  go_ret
  exact ⟨rfl, HG1.out⟩

set_option maxHeartbeats 1600000 in
theorem win_greatest_any (w : World) (a : Option Addr) (c : Nat) (l : List SmpT) (frm upt : Int) (hv : RdP w (.slice a l.length c) l) (hl : 1 ≤ l.length) :
    Calls Try.prog 51 #[.agg #[.slice a l.length c, .int .i64 frm, .int .i64 upt]] w fun e w' => e = .returned (.float .f64 (val_greatest l)) ∧ w.grownBy w' none := by
  have hg := alloc_gb w (.cells #[.slice a l.length c, .int .i64 frm, .int .i64 upt] 54)
  obtain ⟨V, hV⟩ : ∃ V, V = val_greatest l := ⟨_, rfl⟩
  have HC := hidJ ((come_greatest (w.alloc (.cells #[.slice a l.length c, .int .i64 frm, .int .i64 upt] 54)) a c l frm upt (hv.keep hg) hl).mono (fun e w' h => (show e = .returned (.float .f64 V) ∧ (w.alloc (.cells #[.slice a l.length c, .int .i64 frm, .int .i64 upt] 54)).grownBy w' none from by rw [hV]; exact h)))
  rw [← hV]
  clear hV
  have HG := hidJ hg
  clear hg hv hl
  generalize hN : l.length = N at *
  clear hN
  go_enter Try.func51, Try.ntmps51
  go_wp2_with fail
  refine HC.out.mono ?_
  rintro e w1 ⟨rfl, q1⟩
  have HG1 := hidJ (gb_none HG.out q1)
  clear HC HG q1
  go_wp2
  go_ret
  exact ⟨rfl, HG1.out⟩

set_option maxHeartbeats 1600000 in
theorem win_changes_any (w : World) (a : Option Addr) (c : Nat) (l : List SmpT) (frm upt : Int) (hv : RdP w (.slice a l.length c) l) (hl : 1 ≤ l.length) :
    Calls Try.prog 56 #[.agg #[.slice a l.length c, .int .i64 frm, .int .i64 upt]] w fun e w' => e = .returned (.float .f64 (val_changes l)) ∧ w.grownBy w' none := by
  have hg := alloc_gb w (.cells #[.slice a l.length c, .int .i64 frm, .int .i64 upt] 54)
  obtain ⟨V, hV⟩ : ∃ V, V = val_changes l := ⟨_, rfl⟩
  have HC := hidJ ((come_changes (w.alloc (.cells #[.slice a l.length c, .int .i64 frm, .int .i64 upt] 54)) a c l frm upt (hv.keep hg) hl).mono (fun e w' h => (show e = .returned (.float .f64 V) ∧ (w.alloc (.cells #[.slice a l.length c, .int .i64 frm, .int .i64 upt] 54)).grownBy w' none from by rw [hV]; exact h)))
  rw [← hV]
  clear hV
  have HG := hidJ hg
  clear hg hv hl
  generalize hN : l.length = N at *
  clear hN
  go_enter Try.func56, Try.ntmps56
  go_wp2_with fail
  refine HC.out.mono ?_
  rintro e w1 ⟨rfl, q1⟩
  have HG1 := hidJ (gb_none HG.out q1)
  clear HC HG q1
  go_wp2
  go_ret
  exact ⟨rfl, HG1.out⟩

set_option maxHeartbeats 1600000 in
theorem win_resets_any (w : World) (a : Option Addr) (c : Nat) (l : List SmpT) (frm upt : Int) (hv : RdP w (.slice a l.length c) l) (hl : 1 ≤ l.length) :
    Calls Try.prog 57 #[.agg #[.slice a l.length c, .int .i64 frm, .int .i64 upt]] w fun e w' => e = .returned (.float .f64 (val_resets l)) ∧ w.grownBy w' none := by
  have hg := alloc_gb w (.cells #[.slice a l.length c, .int .i64 frm, .int .i64 upt] 54)
  obtain ⟨V, hV⟩ : ∃ V, V = val_resets l := ⟨_, rfl⟩
  have HC := hidJ ((come_resets (w.alloc (.cells #[.slice a l.length c, .int .i64 frm, .int .i64 upt] 54)) a c l frm upt (hv.keep hg) hl).mono (fun e w' h => (show e = .returned (.float .f64 V) ∧ (w.alloc (.cells #[.slice a l.length c, .int .i64 frm, .int .i64 upt] 54)).grownBy w' none from by rw [hV]; exact h)))
  rw [← hV]
  clear hV
  have HG := hidJ hg
  clear hg hv hl
  generalize hN : l.length = N at *
  clear hN
  go_enter Try.func57, Try.ntmps57
  go_wp2_with fail
  refine HC.out.mono ?_
  rintro e w1 ⟨rfl, q1⟩
  have HG1 := hidJ (gb_none HG.out q1)
  clear HC HG q1
  go_wp2
  go_ret
  exact ⟨rfl, HG1.out⟩

set_option maxHeartbeats 1600000 in
theorem win_count_any (w : World) (a : Option Addr) (c : Nat) (l : List SmpT) (frm upt : Int) :
    Calls Try.prog 52 #[.agg #[.slice a l.length c, .int .i64 frm, .int .i64 upt]] w fun e w' => e = .returned (.float .f64 (val_count l)) ∧ w.grownBy w' none := by
  have HV : Hid (val_count l = floatOfInt .f64 (l.length : Int)) := rfl
  have HG := hidJ (alloc_gb w (.cells #[.slice a l.length c, .int .i64 frm, .int .i64 upt] 54))
  generalize val_count l = V at *
  generalize l.length = N at *
  have h := HV.out
  subst h
  go_enter Try.func52, Try.ntmps52
  go_wp2
  go_ret
  exact ⟨rfl, HG.out⟩
set_option maxHeartbeats 1600000 in
theorem win_present_any (w : World) (a : Option Addr) (c : Nat) (l : List SmpT) (frm upt : Int) :
    Calls Try.prog 54 #[.agg #[.slice a l.length c, .int .i64 frm, .int .i64 upt]] w fun e w' => e = .returned (.float .f64 (val_present l)) ∧ w.grownBy w' none := by
  have HG := hidJ (alloc_gb w (.cells #[.slice a l.length c, .int .i64 frm, .int .i64 upt] 54))
  generalize l.length = N at *
  go_enter Try.func54, Try.ntmps54
  go_wp2
  go_ret
  exact ⟨rfl, HG.out⟩
set_option maxHeartbeats 1600000 in
theorem win_last_any (w : World) (a : Option Addr) (c : Nat) (l : List SmpT) (frm upt : Int) (hv : RdP w (.slice a l.length c) l) (hl : 1 ≤ l.length) :
    Calls Try.prog 53 #[.agg #[.slice a l.length c, .int .i64 frm, .int .i64 upt]] w fun e w' => e = .returned (.float .f64 (val_last l)) ∧ w.grownBy w' none := by
  have hg := alloc_gb w (.cells #[.slice a l.length c, .int .i64 frm, .int .i64 upt] 54)
  have HG := hidJ hg
  have hcm : l.length ≤ c ∧ c ≤ 9223372036854775807 := by
    obtain ⟨a', c', e, h1, h2, -⟩ := hv
    simp only [Value.slice.injEq] at e
    obtain ⟨-, -, rfl⟩ := e
    unfold maxLen at h2
    exact ⟨h1, h2⟩
  obtain ⟨hc1, hc2⟩ := hcm
  obtain ⟨a', c', e, -, -, h3⟩ := hv.keep hg
  obtain ⟨b, o, e1, d0, d1⟩ := h3 (l.length - 1) (by omega)
  simp only [Value.slice.injEq] at e
  obtain ⟨rfl, -, rfl⟩ := e
  subst e1
  have HV : Hid (val_last l = (l.getD (l.length - 1) smZ).2) := rfl
  generalize val_last l = V at *
  generalize (l.getD (l.length - 1) smZ).2 = x at *
  generalize (l.getD (l.length - 1) smZ).1 = tm at *
  have h := HV.out
  subst h
  clear HV h3 hv
  obtain ⟨z, hz⟩ : ∃ z, l.length = z + 1 := ⟨l.length - 1, by omega⟩
  rw [hz] at HG hc1 d0 d1 ⊢
  rw [Nat.add_sub_cancel] at d0 d1
  clear hz hg hl
  go_enter Try.func53, Try.ntmps53
  go_wp2
  go_ret
  exact ⟨rfl, HG.out⟩

/-! ### is a window right? -/
def spanB (frm upt : Int) : Bool := !(decide (frm < -1099511627776) || decide (1125899906842624 < upt) || decide (upt ≤ frm) || decide (upt < 0))
/-- the times rise from above frm up to upt -/
def riseW (frm upt : Int) : List SmpT → Bool
  | [] => true
  | x :: l => decide (frm < x.1) && decide (x.1 ≤ upt) && riseW x.1 upt l
def rightW (l : List SmpT) (frm upt : Int) : Bool := spanB frm upt && riseW frm upt l
/-- the time ahead of the place z -/
def aheadW (l : List SmpT) (frm : Int) (z : Nat) : Int := if z = 0 then frm else (l.getD (z - 1) smZ).1
theorem riseW_iff (upt : Int) (l : List SmpT) : ∀ frm, riseW frm upt l = true ↔ ∀ z, z < l.length → aheadW l frm z < (l.getD z smZ).1 ∧ (l.getD z smZ).1 ≤ upt := by
  induction l with
  | nil => intro frm; simp [riseW]
  | cons x l ih =>
    intro frm
    simp only [riseW, Bool.and_eq_true, decide_eq_true_eq, ih]
    constructor
    · rintro ⟨⟨h1, h2⟩, h3⟩ z hz
      cases z with
      | zero => simpa [aheadW] using ⟨h1, h2⟩
      | succ z =>
        have := h3 z (by simpa using hz)
        have e : aheadW (x :: l) frm (z + 1) = aheadW l x.1 z := by
          unfold aheadW
          cases z with
          | zero => simp
          | succ z => simp
        rw [e]
        simpa using this
    · intro h
      have h0 := h 0 (by simp)
      simp [aheadW] at h0
      refine ⟨h0, fun z hz => ?_⟩
      have := h (z + 1) (by simpa using hz)
      have e : aheadW (x :: l) frm (z + 1) = aheadW l x.1 z := by
        unfold aheadW
        cases z with
        | zero => simp
        | succ z => simp
      rw [e] at this
      simpa using this
set_option maxRecDepth 8000 in
set_option maxHeartbeats 3200000 in
theorem right_any (w : World) (a : Option Addr) (c : Nat) (l : List SmpT) (frm upt : Int) (hv : RdP w (.slice a l.length c) l) :
    Calls Try.prog 25 #[.agg #[.slice a l.length c, .int .i64 frm, .int .i64 upt]] w fun e w' => e = .returned (.bool (rightW l frm upt)) ∧ w.grownBy w' none := by
  obtain ⟨C, hC⟩ : ∃ C : Obj, C = .cells #[.slice a l.length c, .int .i64 frm, .int .i64 upt] 54 := ⟨_, rfl⟩
  have hg := alloc_gb w C
  have hb := Go.heap_alloc_new w C
  have hcm : l.length ≤ c ∧ c ≤ 9223372036854775807 := by
    obtain ⟨a', c', e, h1, h2, -⟩ := hv
    simp only [Value.slice.injEq] at e
    obtain ⟨-, -, rfl⟩ := e
    unfold maxLen at h2
    exact ⟨h1, h2⟩
  obtain ⟨hc1, hc2⟩ := hcm
  obtain ⟨RQ, hRQ⟩ : ∃ RQ : Ending → World → Prop, RQ = fun e w' => e = .returned (.bool (rightW l frm upt)) ∧ w.grownBy w' none := ⟨_, rfl⟩
  have HF : Hid (∀ w' q, q = rightW l frm upt → w.grownBy w' none → RQ (.returned (.bool q)) w') := fun w' q hq hg => by
    rw [hRQ, hq]
    exact ⟨rfl, hg⟩
  rw [show (fun e w' => e = .returned (.bool (rightW l frm upt)) ∧ w.grownBy w' none) = (fun e w' => RQ e w') from by rw [hRQ]]
  clear hRQ
  obtain ⟨B, hB⟩ : ∃ B, w.heap.size = B := ⟨_, rfl⟩
  have HE : Hid (∀ j, j < l.length → ∀ wr, w.grownBy wr none → ∃ b o, a = some ⟨b, o, none⟩ ∧ b < B ∧ wr.cell? ⟨b, o + j * 2, none⟩ = some (.int .i64 (l.getD j smZ).1) ∧ wr.cell? ⟨b, o + j * 2 + 1, none⟩ = some (.float .f64 (l.getD j smZ).2)) := fun j hj wr hgr => by
    obtain ⟨a', c', e, -, -, h3⟩ := hv
    obtain ⟨b, o, e1, d0, d1⟩ := h3 j hj
    simp only [Value.slice.injEq] at e
    have hlt := block_lt d0
    exact ⟨b, o, e.1.trans e1, by rw [← hB]; exact hlt, (World.cell?_of_block (hgr.block b hlt (by simp))).trans d0, (World.cell?_of_block (hgr.block b hlt (by simp))).trans d1⟩
  have HX : Hid (∀ wr, w.grownBy wr none → wr.heap[B]? = some C → wr.cell? ⟨B, 0, none⟩ = some (.slice a l.length c) ∧ wr.cell? ⟨B, 1, none⟩ = some (.int .i64 frm) ∧ wr.cell? ⟨B, 2, none⟩ = some (.int .i64 upt) ∧ B < wr.heap.size) := fun wr _ h => by
    rw [hC] at h
    have hlt := some_lt h
    refine ⟨?_, ?_, ?_, hlt⟩ <;> (rw [World.cell?, h]; rfl)
  have H0 : Hid (w.grownBy (w.alloc C) none ∧ (w.alloc C).heap[B]? = some C) := ⟨hg, by rw [← hB]; exact hb⟩
  have HN := hidJ (riseW_iff upt l frm)
  have HD : Hid (rightW l frm upt = (spanB frm upt && riseW frm upt l)) := rfl
  have HSp : Hid (spanB frm upt = !(decide (frm < -1099511627776) || decide (1125899906842624 < upt) || decide (upt ≤ frm) || decide (upt < 0))) := rfl
  generalize rightW l frm upt = RW at *
  generalize spanB frm upt = SP at *
  generalize riseW frm upt l = RS at *
  clear hg hb hv
  subst hC
  have HBad : Hid (SP = false → RW = false) := fun h => by rw [HD.out, h]; rfl
  have HBa : Hid (frm < -1099511627776 ∨ 1125899906842624 < upt ∨ upt ≤ frm ∨ upt < 0 → RW = false) := fun h => HBad.out (by
    rw [HSp.out]
    simp only [Bool.not_eq_false', Bool.or_eq_true, decide_eq_true_eq]
    omega)
  clear HBad
  by_cases h1 : frm < -1099511627776
  · have HFF : Hid (∀ w', w.grownBy w' none → RQ (.returned (.bool false)) w') := fun w' hg => HF.out w' false (HBa.out (by omega)).symm hg
    have HG := hidJ H0.out.1
    clear HF HBa HSp HN HD HX H0 HE
    subst hB
    go_enter Try.func25, Try.ntmps25
    go_wp2
    exact HFF.out _ HG.out
  by_cases h2 : 1125899906842624 < upt
  · have HFF : Hid (∀ w', w.grownBy w' none → RQ (.returned (.bool false)) w') := fun w' hg => HF.out w' false (HBa.out (by omega)).symm hg
    have HG := hidJ H0.out.1
    clear HF HBa HSp HN HD HX H0 HE
    subst hB
    go_enter Try.func25, Try.ntmps25
    go_wp2
    exact HFF.out _ HG.out
  by_cases h3 : upt ≤ frm
  · have HFF : Hid (∀ w', w.grownBy w' none → RQ (.returned (.bool false)) w') := fun w' hg => HF.out w' false (HBa.out (by omega)).symm hg
    have HG := hidJ H0.out.1
    clear HF HBa HSp HN HD HX H0 HE
    subst hB
    go_enter Try.func25, Try.ntmps25
    go_wp2
    exact HFF.out _ HG.out
  by_cases h4 : upt < 0
  · have HFF : Hid (∀ w', w.grownBy w' none → RQ (.returned (.bool false)) w') := fun w' hg => HF.out w' false (HBa.out (by omega)).symm hg
    have HG := hidJ H0.out.1
    clear HF HBa HSp HN HD HX H0 HE
    subst hB
    go_enter Try.func25, Try.ntmps25
    go_wp2
    exact HFF.out _ HG.out
  have HOk : Hid (RW = RS) := by
    have e : SP = true := by
      rw [HSp.out]
      simp only [Bool.not_eq_true', Bool.or_eq_false_iff, decide_eq_false_iff_not]
      omega
    rw [HD.out, e]
    rfl
  clear HBa HSp HD
  have hN : ∃ N, l.length = N := ⟨_, rfl⟩
  obtain ⟨N, hN⟩ := hN
  rw [hN] at HN HE HX H0 hc1 ⊢
  have HNl := hidJ hN
  clear hN
  have hNl : N ≤ 9223372036854775807 := by omega
  have hsf := store_float
  subst hB
  go_enter Try.func25, Try.ntmps25
  go_wp2
  go_loopw [3, 31] (fun ua ui wr => ∃ (z : Nat) (ah : Int), z ≤ N ∧ ui = .int .i64 z ∧ ua = .int .i64 ah ∧ Hid (aheadW l frm z = ah ∧ (∀ j, j < z → aheadW l frm j < (l.getD j smZ).1 ∧ (l.getD j smZ).1 ≤ upt) ∧ w.grownBy wr none ∧ wr.heap[w.heap.size]? = some (.cells #[.slice a N c, .int .i64 frm, .int .i64 upt] 54 (0, 0)))) (fun _ ui _ => N - (intOf ui).toNat)
  case atStart => exact ⟨0, frm, by omega, rfl, rfl, rfl, fun j hj => by omega, H0.out.1, H0.out.2⟩
  case round =>
    obtain ⟨z, ah, hzN, rfl, rfl, hr⟩ := hrel
    clear H0
    by_cases hzl : z < N
    · have hzi : (z : Int) < (N : Int) := by omega
      obtain ⟨b, o, rfl, hbl, d0, d1⟩ := HE.out z hzl wr hr.out.2.2.1
      obtain ⟨c0, c1, c2, hlt⟩ := HX.out wr hr.out.2.2.1 hr.out.2.2.2
      have hlt2 : ¬ wr.heap.size = w.heap.size := by omega
      have hlt3 : ¬ w.heap.size = wr.heap.size := by omega
      obtain ⟨C2, hC2⟩ : ∃ C2 : Obj, C2 = .cells #[.int .i64 (l.getD z smZ).1, .float .f64 (l.getD z smZ).2] 33 := ⟨_, rfl⟩
      have e2 : (wr.alloc C2).cell? ⟨w.heap.size, 2, none⟩ = some (.int .i64 upt) := World.grownBy.cell (alloc_gb wr C2) c2 (by simp)
      have HG : Hid (w.grownBy (wr.alloc C2) none ∧ (wr.alloc C2).heap[w.heap.size]? = some (.cells #[.slice (some ⟨b, o, none⟩) N c, .int .i64 frm, .int .i64 upt] 54 (0, 0))) := ⟨gb_none hr.out.2.2.1 (alloc_gb _ _), ((alloc_gb wr C2).block _ hlt (by simp)).trans hr.out.2.2.2⟩
      have HY : Hid (¬ (ah < (l.getD z smZ).1 ∧ (l.getD z smZ).1 ≤ upt) → RW = false) := fun h => by
        rw [HOk.out]
        cases hRS : RS with
        | false => rfl
        | true =>
          have := HN.out.1 hRS z hzl
          rw [hr.out.1] at this
          exact absurd this h
      have HZ : Hid (ah < (l.getD z smZ).1 ∧ (l.getD z smZ).1 ≤ upt → aheadW l frm (z + 1) = (l.getD z smZ).1 ∧ ∀ j, j < z + 1 → aheadW l frm j < (l.getD j smZ).1 ∧ (l.getD j smZ).1 ≤ upt) := fun h => by
        refine ⟨by unfold aheadW; simp, fun j hj => ?_⟩
        by_cases e : j = z
        · rw [e, hr.out.1]; exact h
        · exact hr.out.2.1 j (by omega)
      have HFF : Hid (RW = false → RQ (.returned (.bool false)) (wr.alloc C2)) := fun h => HF.out _ false h.symm HG.out.1
      clear hr HE HX HF HN HOk
      subst hC2
      generalize (l.getD z smZ).1 = tm at *
      generalize (l.getD z smZ).2 = fl at *
      by_cases q1 : tm ≤ ah
      · have HR := hidJ (HFF.out (HY.out (by omega)))
        clear HFF HY HZ HG
        go_wp2
        exact HR.out
      · by_cases q2 : upt < tm
        · have HR := hidJ (HFF.out (HY.out (by omega)))
          clear HFF HY HZ HG
          go_wp2
          exact HR.out
        · have HR := hidJ (HZ.out (by omega))
          clear HFF HY HZ
          go_wp2
          go_roundw
          case rel => exact ⟨z + 1, tm, by omega, by go_num, rfl, HR.out.1, HR.out.2, HG.out⟩
          case measure => simp [intOf]; omega
    · have hzi : ¬ (z : Int) < (N : Int) := by omega
      have hzn : z = N := by omega
      subst hzn
      have HR : Hid (RQ (.returned (.bool true)) wr) := HF.out wr true (by rw [HOk.out]; exact (HN.out.2 (fun j hj => hr.out.2.1 j hj)).symm) hr.out.2.2.1
      clear hr HE HX HF HN HOk
      go_wp2
      exact HR.out
end Go.Proofs.Ytgpednikianneaa
