/-
  What a window comes to, where nothing is reckoned: the last, the least and the greatest value, how many there are, how often they change or fall.
-/
import Derived.Test.YtgpednikianneaaOvB
namespace Go.Proofs.Ytgpednikianneaa
open Go.RowKit

theorem isNaN_any (w : World) (b : Nat) : Calls Try.prog 14 #[.float .f64 b] w fun e w' => e = .returned (.bool (nanB b)) ∧ w' = w := by
  go_enter Try.func14, Try.ntmps14
  go_wp2
  go_ret
  exact ⟨rfl, rfl⟩
/-- v, and the NaN for each other one -/
def toldN (b : Nat) : Nat := if nanB b = true then 9221120237041090561 else b
theorem told_any (w : World) (b : Nat) : Calls Try.prog 19 #[.float .f64 b] w fun e w' => e = .returned (.float .f64 (toldN b)) ∧ w' = w := by
  have HN := hidJ (isNaN_any w b)
  have hfr : ∀ w, (callFunc 12 #[.int .u64 9221120237041090561]).run Try.prog w = .ok (.value (.float .f64 9221120237041090561)) w := fun w => fromBits_run 9221120237041090561 w
  obtain ⟨r, hr⟩ : ∃ r, toldN b = r := ⟨_, rfl⟩
  have HT : Hid (nanB b = true → r = 9221120237041090561) := fun h => by rw [← hr]; unfold toldN; rw [if_pos h]
  have HE : Hid (nanB b = false → r = b) := fun h => by rw [← hr]; unfold toldN; rw [h]; rfl
  rw [hr]
  clear hr
  go_enter Try.func19, Try.ntmps19
  go_wp2_with fail
  refine HN.out.mono ?_
  rintro e w1 ⟨rfl, rfl⟩
  clear HN
  generalize nanB b = bb at *
  cases bb with
  | true =>
    have h := HT.out rfl
    subst h
    clear HT HE
    go_wp2
    go_ret
    exact ⟨rfl, rfl⟩
  | false =>
    have h := HE.out rfl
    subst h
    clear HT HE
    go_wp2
    go_ret
    exact ⟨rfl, rfl⟩
/-! ### what holds of two values -/
def lessB (a b : Nat) : Bool := fo a b == some .lt
def moreB (a b : Nat) : Bool := fo a b == some .gt
def chgB (a v : Nat) : Bool := (fo v a != some .eq) && !(nanB v && nanB a)
def rstB (a v : Nat) : Bool := fo v a == some .lt
theorem least1_any (w : World) (a b : Nat) : Calls Try.prog 70 #[.float .f64 a, .float .f64 b] w fun e w' => e = .returned (.bool (lessB a b)) ∧ w' = w := by
  go_enter Try.func70, Try.ntmps70
  go_wp2
  go_ret
  exact ⟨rfl, rfl⟩
theorem greatest1_any (w : World) (a b : Nat) : Calls Try.prog 71 #[.float .f64 a, .float .f64 b] w fun e w' => e = .returned (.bool (moreB a b)) ∧ w' = w := by
  go_enter Try.func71, Try.ntmps71
  go_wp2
  go_ret
  exact ⟨rfl, rfl⟩
theorem resets1_any (w : World) (a v : Nat) : Calls Try.prog 75 #[.float .f64 a, .float .f64 v] w fun e w' => e = .returned (.bool (rstB a v)) ∧ w' = w := by
  go_enter Try.func75, Try.ntmps75
  go_wp2
  go_ret
  exact ⟨rfl, rfl⟩
theorem changes1_any (w : World) (a v : Nat) : Calls Try.prog 74 #[.float .f64 a, .float .f64 v] w fun e w' => e = .returned (.bool (chgB a v)) ∧ w' = w := by
  have HN : Hid (∀ b, Calls Try.prog 14 #[.float .f64 b] w fun e w' => e = .returned (.bool (nanB b)) ∧ w' = w) := fun b => isNaN_any w b
  obtain ⟨q, hq⟩ : ∃ q, (FloatKind.f64.format.order v a != some .eq) = q := ⟨_, rfl⟩
  have HC : Hid (chgB a v = (q && !(nanB v && nanB a))) := by rw [← hq]; rfl
  generalize chgB a v = r at *
  go_enter Try.func74, Try.ntmps74
  cases q with
  | true =>
    go_wp2_with fail
    refine (HN.out v).mono ?_
    rintro e w1 ⟨rfl, rfl⟩
    generalize nanB v = bv at *
    cases bv with
    | true =>
      go_wp2_with fail
      refine (HN.out a).mono ?_
      rintro e w1 ⟨rfl, rfl⟩
      have h := HC.out
      generalize nanB a = ba at *
      cases ba with
      | true =>
        subst h
        clear HN HC
        go_wp2
        go_ret
        exact ⟨rfl, rfl⟩
      | false =>
        subst h
        clear HN HC
        go_wp2
        go_ret
        exact ⟨rfl, rfl⟩
    | false =>
      have h := HC.out
      simp at h
      subst h
      clear HN HC
      go_wp2
      go_ret
      exact ⟨rfl, rfl⟩
  | false =>
    have h := HC.out
    simp at h
    subst h
    clear HN HC
    go_wp2
    go_ret
    exact ⟨rfl, rfl⟩
/-! ### picked and howOften, in words -/
def pkN (P : Nat → Nat → Bool) (l : List SmpT) : Nat → Nat
  | 0 => (l.getD 0 smZ).2
  | z + 1 => if (P (l.getD (z + 1) smZ).2 (pkN P l z) || nanB (pkN P l z)) = true then (l.getD (z + 1) smZ).2 else pkN P l z
def hwN (P : Nat → Nat → Bool) (l : List SmpT) : Nat → Nat
  | 0 => 0
  | z + 1 => hwN P l z + if P (l.getD z smZ).2 (l.getD (z + 1) smZ).2 = true then 1 else 0
theorem hwN_le (P : Nat → Nat → Bool) (l : List SmpT) (z : Nat) : hwN P l z ≤ z := by
  induction z with
  | zero => exact Nat.le_refl _
  | succ z ih => unfold hwN; split <;> omega
set_option maxRecDepth 8000 in
set_option maxHeartbeats 3200000 in
theorem come_least (w : World) (a : Option Addr) (c : Nat) (l : List SmpT) (frm upt : Int) (hv : RdP w (.slice a l.length c) l) (hl : 1 ≤ l.length) :
    Calls Try.prog 69 #[.agg #[.slice a l.length c, .int .i64 frm, .int .i64 upt], .func (.func 70) #[] #[]] w fun e w' => e = .returned (.float .f64 (pkN lessB l (l.length - 1))) ∧ w.grownBy w' none := by
  have HV := hidJ hv
  have hcm : l.length ≤ c ∧ c ≤ 9223372036854775807 := by
    obtain ⟨a', c', e, h1, h2, -⟩ := hv
    simp only [Value.slice.injEq] at e
    obtain ⟨-, -, rfl⟩ := e
    unfold maxLen at h2
    exact ⟨h1, h2⟩
  obtain ⟨hc1, hc2⟩ := hcm
  have HP : Hid (∀ W x y, Calls Try.prog 70 #[.float .f64 x, .float .f64 y] W fun e w' => e = .returned (.bool (lessB x y)) ∧ w' = W) := fun W x y => least1_any W x y
  have HN : Hid (∀ W b, Calls Try.prog 14 #[.float .f64 b] W fun e w' => e = .returned (.bool (nanB b)) ∧ w' = W) := fun W b => isNaN_any W b
  obtain ⟨R, hR⟩ : ∃ R, R = pkN lessB l (l.length - 1) := ⟨_, rfl⟩
  rw [← hR]
  have HRes := hidJ hR
  clear hR
  obtain ⟨b, o, rfl, -⟩ : ∃ b o, a = some ⟨b, o, none⟩ ∧ True := by
    obtain ⟨a', c', e, -, -, h3⟩ := hv
    obtain ⟨b, o, e1, -⟩ := h3 0 (by omega)
    simp only [Value.slice.injEq] at e
    exact ⟨b, o, e.1.trans e1, trivial⟩
  have HE : Hid (∀ j, j < l.length → ∀ wr, w.grownBy wr none → b < wr.heap.size ∧ wr.cell? ⟨b, o + j * 2, none⟩ = some (.int .i64 (l.getD j smZ).1) ∧ wr.cell? ⟨b, o + j * 2 + 1, none⟩ = some (.float .f64 (l.getD j smZ).2)) := fun j hj wr hg => by
    obtain ⟨a', c', e, -, -, h3⟩ := HV.out.keep hg
    obtain ⟨b', o', e1, d0, d1⟩ := h3 j hj
    simp only [Value.slice.injEq] at e
    obtain ⟨h1, -⟩ := e
    rw [e1] at h1
    simp only [Option.some.injEq, Addr.mk.injEq, and_true] at h1
    obtain ⟨rfl, rfl⟩ := h1
    exact ⟨block_lt d0, d0, d1⟩
  clear hv HV
  obtain ⟨M, hM⟩ : ∃ M, l.length = M + 1 := ⟨l.length - 1, by omega⟩
  have HM := hidJ hM
  rw [hM] at hc1 ⊢
  clear hM hl
  have hx0 := HE.out 0 (by have := HM.out; omega) (w.alloc (.cells #[.slice (some ⟨b, o, none⟩) (M + 1) c, .int .i64 frm, .int .i64 upt] 54)) (alloc_gb _ _)
  obtain ⟨hbl, -, hx0⟩ := hx0
  rw [show o + 0 * 2 + 1 = o + 1 by omega] at hx0
  have H0 : Hid (w.grownBy (w.alloc (.cells #[.slice (some ⟨b, o, none⟩) (M + 1) c, .int .i64 frm, .int .i64 upt] 54)) none ∧ (w.alloc (.cells #[.slice (some ⟨b, o, none⟩) (M + 1) c, .int .i64 frm, .int .i64 upt] 54)).heap[w.heap.size]? = some (.cells #[.slice (some ⟨b, o, none⟩) (M + 1) c, .int .i64 frm, .int .i64 upt] 54 (0, 0)) ∧ pkN lessB l 0 = (l.getD 0 smZ).2) := ⟨alloc_gb _ _, Go.heap_alloc_new _ _, rfl⟩
  generalize (l.getD 0 smZ).2 = x0 at *
  have hsf := store_float
  have hM1 : (1 : Int) ≤ (M : Int) + 1 := by omega
  by_cases hce : c = 1
  · subst hce
    obtain rfl : M = 0 := by omega
    go_enter Try.func69, Try.ntmps69
    go_wp2
    go_loopw [5, 17] (fun ut ui wr => ut = .float .f64 x0 ∧ ui = .int .i64 0 ∧ Hid (w.grownBy wr none)) (fun _ _ _ => 0)
    case atStart => exact ⟨rfl, rfl, H0.out.1⟩
    case round =>
      obtain ⟨rfl, rfl, hr⟩ := hrel
      have HFF : Hid (x0 = R) := by
        have e1 := HRes.out
        rw [HM.out, Nat.add_sub_cancel, H0.out.2.2] at e1
        exact e1.symm
      have HG := hidJ hr.out
      clear hr HE HRes H0 hx0
      have h := HFF.out
      subst h
      clear HFF
      go_wp2
      go_ret
      exact ⟨rfl, HG.out⟩
  · have hce2 : ¬ 1 = c := fun e => hce e.symm
    go_enter Try.func69, Try.ntmps69
    go_wp2
    go_loopw [5, 17] (fun ut ui wr => ∃ (z : Nat) (t : Nat), z ≤ M ∧ ui = .int .i64 z ∧ ut = .float .f64 t ∧ Hid (pkN lessB l z = t ∧ w.grownBy wr none ∧ wr.heap[w.heap.size]? = some (.cells #[.slice (some ⟨b, o, none⟩) (M + 1) c, .int .i64 frm, .int .i64 upt] 54 (0, 0)))) (fun _ ui _ => M - (intOf ui).toNat)
    case atStart => exact ⟨0, x0, by omega, rfl, rfl, H0.out.2.2, H0.out.1, H0.out.2.1⟩
    case round =>
      obtain ⟨z, t, hzM, rfl, rfl, hr⟩ := hrel
      clear H0 hx0 hbl
      by_cases hzl : z < M
      · have hzi : (z : Int) < (M : Int) := by omega
        obtain ⟨hbl, d0, d1⟩ := HE.out (z + 1) (by have := HM.out; omega) wr hr.out.2.1
        have k1 : o + 2 + z * 2 = o + (z + 1) * 2 := by omega
        have HS : Hid (∀ q : Bool, q = lessB (l.getD (z + 1) smZ).2 t → pkN lessB l (z + 1) = if (q || nanB t) = true then (l.getD (z + 1) smZ).2 else t) := fun q hq => by
          rw [hq, ← hr.out.1]
          rfl
        have HG : Hid (∀ w2, w2 = wr.alloc (.cells #[.int .i64 (l.getD (z + 1) smZ).1, .float .f64 (l.getD (z + 1) smZ).2] 33) → w.grownBy w2 none ∧ w2.heap[w.heap.size]? = some (.cells #[.slice (some ⟨b, o, none⟩) (M + 1) c, .int .i64 frm, .int .i64 upt] 54 (0, 0))) := fun w2 h => by
          have hg := alloc_gb wr (.cells #[.int .i64 (l.getD (z + 1) smZ).1, .float .f64 (l.getD (z + 1) smZ).2] 33)
          rw [h]
          exact ⟨gb_none hr.out.2.1 hg, (hg.block _ (some_lt hr.out.2.2) (by simp)).trans hr.out.2.2⟩
        clear hr HE
        generalize (l.getD (z + 1) smZ).1 = tm at *
        generalize (l.getD (z + 1) smZ).2 = fl at *
        rw [← k1] at d0 d1
        clear k1
        go_wp2_with fail
        refine (HP.out _ _ _).mono ?_
        rintro e w1 ⟨rfl, rfl⟩
        have HG2 := hidJ (HG.out _ rfl)
        have hS2 := HS.out _ rfl
        clear HG HP HS d0 d1
        generalize lessB fl t = q at *
        obtain ⟨nx, hnx⟩ : ∃ nx, pkN lessB l (z + 1) = nx := ⟨_, rfl⟩
        rw [hnx] at hS2
        have HX := hidJ hnx
        clear hnx
        cases q with
        | true =>
          have e1 : fl = nx := by rw [hS2]; rfl
          clear hS2
          subst e1
          clear HN
          go_wp2
          go_roundw
          case rel => exact ⟨z + 1, fl, by omega, by go_num, rfl, HX.out, HG2.out⟩
          case measure => simp [intOf]; omega
        | false =>
          go_wp2_with fail
          refine (HN.out _ _).mono ?_
          rintro e w1 ⟨rfl, rfl⟩
          clear HN
          generalize nanB t = nb at *
          cases nb with
          | true =>
            have e1 : fl = nx := by rw [hS2]; rfl
            clear hS2
            subst e1
            go_wp2
            go_roundw
            case rel => exact ⟨z + 1, fl, by omega, by go_num, rfl, HX.out, HG2.out⟩
            case measure => simp [intOf]; omega
          | false =>
            have e1 : t = nx := by rw [hS2]; rfl
            clear hS2
            subst e1
            go_wp2
            go_roundw
            case rel => exact ⟨z + 1, t, by omega, by go_num, rfl, HX.out, HG2.out⟩
            case measure => simp [intOf]; omega
      · have hzi : ¬ (z : Int) < (M : Int) := by omega
        have hzn : z = M := by omega
        subst hzn
        have HFF : Hid (t = R ∧ w.grownBy wr none) := ⟨by rw [← hr.out.1, HRes.out, HM.out]; rfl, hr.out.2.1⟩
        clear hr HE HRes
        have h := HFF.out.1
        subst h
        go_wp2
        go_ret
        exact ⟨rfl, HFF.out.2⟩

set_option maxRecDepth 8000 in
set_option maxHeartbeats 3200000 in
theorem come_greatest (w : World) (a : Option Addr) (c : Nat) (l : List SmpT) (frm upt : Int) (hv : RdP w (.slice a l.length c) l) (hl : 1 ≤ l.length) :
    Calls Try.prog 69 #[.agg #[.slice a l.length c, .int .i64 frm, .int .i64 upt], .func (.func 71) #[] #[]] w fun e w' => e = .returned (.float .f64 (pkN moreB l (l.length - 1))) ∧ w.grownBy w' none := by
  have HV := hidJ hv
  have hcm : l.length ≤ c ∧ c ≤ 9223372036854775807 := by
    obtain ⟨a', c', e, h1, h2, -⟩ := hv
    simp only [Value.slice.injEq] at e
    obtain ⟨-, -, rfl⟩ := e
    unfold maxLen at h2
    exact ⟨h1, h2⟩
  obtain ⟨hc1, hc2⟩ := hcm
  have HP : Hid (∀ W x y, Calls Try.prog 71 #[.float .f64 x, .float .f64 y] W fun e w' => e = .returned (.bool (moreB x y)) ∧ w' = W) := fun W x y => greatest1_any W x y
  have HN : Hid (∀ W b, Calls Try.prog 14 #[.float .f64 b] W fun e w' => e = .returned (.bool (nanB b)) ∧ w' = W) := fun W b => isNaN_any W b
  obtain ⟨R, hR⟩ : ∃ R, R = pkN moreB l (l.length - 1) := ⟨_, rfl⟩
  rw [← hR]
  have HRes := hidJ hR
  clear hR
  obtain ⟨b, o, rfl, -⟩ : ∃ b o, a = some ⟨b, o, none⟩ ∧ True := by
    obtain ⟨a', c', e, -, -, h3⟩ := hv
    obtain ⟨b, o, e1, -⟩ := h3 0 (by omega)
    simp only [Value.slice.injEq] at e
    exact ⟨b, o, e.1.trans e1, trivial⟩
  have HE : Hid (∀ j, j < l.length → ∀ wr, w.grownBy wr none → b < wr.heap.size ∧ wr.cell? ⟨b, o + j * 2, none⟩ = some (.int .i64 (l.getD j smZ).1) ∧ wr.cell? ⟨b, o + j * 2 + 1, none⟩ = some (.float .f64 (l.getD j smZ).2)) := fun j hj wr hg => by
    obtain ⟨a', c', e, -, -, h3⟩ := HV.out.keep hg
    obtain ⟨b', o', e1, d0, d1⟩ := h3 j hj
    simp only [Value.slice.injEq] at e
    obtain ⟨h1, -⟩ := e
    rw [e1] at h1
    simp only [Option.some.injEq, Addr.mk.injEq, and_true] at h1
    obtain ⟨rfl, rfl⟩ := h1
    exact ⟨block_lt d0, d0, d1⟩
  clear hv HV
  obtain ⟨M, hM⟩ : ∃ M, l.length = M + 1 := ⟨l.length - 1, by omega⟩
  have HM := hidJ hM
  rw [hM] at hc1 ⊢
  clear hM hl
  have hx0 := HE.out 0 (by have := HM.out; omega) (w.alloc (.cells #[.slice (some ⟨b, o, none⟩) (M + 1) c, .int .i64 frm, .int .i64 upt] 54)) (alloc_gb _ _)
  obtain ⟨hbl, -, hx0⟩ := hx0
  rw [show o + 0 * 2 + 1 = o + 1 by omega] at hx0
  have H0 : Hid (w.grownBy (w.alloc (.cells #[.slice (some ⟨b, o, none⟩) (M + 1) c, .int .i64 frm, .int .i64 upt] 54)) none ∧ (w.alloc (.cells #[.slice (some ⟨b, o, none⟩) (M + 1) c, .int .i64 frm, .int .i64 upt] 54)).heap[w.heap.size]? = some (.cells #[.slice (some ⟨b, o, none⟩) (M + 1) c, .int .i64 frm, .int .i64 upt] 54 (0, 0)) ∧ pkN moreB l 0 = (l.getD 0 smZ).2) := ⟨alloc_gb _ _, Go.heap_alloc_new _ _, rfl⟩
  generalize (l.getD 0 smZ).2 = x0 at *
  have hsf := store_float
  have hM1 : (1 : Int) ≤ (M : Int) + 1 := by omega
  by_cases hce : c = 1
  · subst hce
    obtain rfl : M = 0 := by omega
    go_enter Try.func69, Try.ntmps69
    go_wp2
    go_loopw [5, 17] (fun ut ui wr => ut = .float .f64 x0 ∧ ui = .int .i64 0 ∧ Hid (w.grownBy wr none)) (fun _ _ _ => 0)
    case atStart => exact ⟨rfl, rfl, H0.out.1⟩
    case round =>
      obtain ⟨rfl, rfl, hr⟩ := hrel
      have HFF : Hid (x0 = R) := by
        have e1 := HRes.out
        rw [HM.out, Nat.add_sub_cancel, H0.out.2.2] at e1
        exact e1.symm
      have HG := hidJ hr.out
      clear hr HE HRes H0 hx0
      have h := HFF.out
      subst h
      clear HFF
      go_wp2
      go_ret
      exact ⟨rfl, HG.out⟩
  · have hce2 : ¬ 1 = c := fun e => hce e.symm
    go_enter Try.func69, Try.ntmps69
    go_wp2
    go_loopw [5, 17] (fun ut ui wr => ∃ (z : Nat) (t : Nat), z ≤ M ∧ ui = .int .i64 z ∧ ut = .float .f64 t ∧ Hid (pkN moreB l z = t ∧ w.grownBy wr none ∧ wr.heap[w.heap.size]? = some (.cells #[.slice (some ⟨b, o, none⟩) (M + 1) c, .int .i64 frm, .int .i64 upt] 54 (0, 0)))) (fun _ ui _ => M - (intOf ui).toNat)
    case atStart => exact ⟨0, x0, by omega, rfl, rfl, H0.out.2.2, H0.out.1, H0.out.2.1⟩
    case round =>
      obtain ⟨z, t, hzM, rfl, rfl, hr⟩ := hrel
      clear H0 hx0 hbl
      by_cases hzl : z < M
      · have hzi : (z : Int) < (M : Int) := by omega
        obtain ⟨hbl, d0, d1⟩ := HE.out (z + 1) (by have := HM.out; omega) wr hr.out.2.1
        have k1 : o + 2 + z * 2 = o + (z + 1) * 2 := by omega
        have HS : Hid (∀ q : Bool, q = moreB (l.getD (z + 1) smZ).2 t → pkN moreB l (z + 1) = if (q || nanB t) = true then (l.getD (z + 1) smZ).2 else t) := fun q hq => by
          rw [hq, ← hr.out.1]
          rfl
        have HG : Hid (∀ w2, w2 = wr.alloc (.cells #[.int .i64 (l.getD (z + 1) smZ).1, .float .f64 (l.getD (z + 1) smZ).2] 33) → w.grownBy w2 none ∧ w2.heap[w.heap.size]? = some (.cells #[.slice (some ⟨b, o, none⟩) (M + 1) c, .int .i64 frm, .int .i64 upt] 54 (0, 0))) := fun w2 h => by
          have hg := alloc_gb wr (.cells #[.int .i64 (l.getD (z + 1) smZ).1, .float .f64 (l.getD (z + 1) smZ).2] 33)
          rw [h]
          exact ⟨gb_none hr.out.2.1 hg, (hg.block _ (some_lt hr.out.2.2) (by simp)).trans hr.out.2.2⟩
        clear hr HE
        generalize (l.getD (z + 1) smZ).1 = tm at *
        generalize (l.getD (z + 1) smZ).2 = fl at *
        rw [← k1] at d0 d1
        clear k1
        go_wp2_with fail
        refine (HP.out _ _ _).mono ?_
        rintro e w1 ⟨rfl, rfl⟩
        have HG2 := hidJ (HG.out _ rfl)
        have hS2 := HS.out _ rfl
        clear HG HP HS d0 d1
        generalize moreB fl t = q at *
        obtain ⟨nx, hnx⟩ : ∃ nx, pkN moreB l (z + 1) = nx := ⟨_, rfl⟩
        rw [hnx] at hS2
        have HX := hidJ hnx
        clear hnx
        cases q with
        | true =>
          have e1 : fl = nx := by rw [hS2]; rfl
          clear hS2
          subst e1
          clear HN
          go_wp2
          go_roundw
          case rel => exact ⟨z + 1, fl, by omega, by go_num, rfl, HX.out, HG2.out⟩
          case measure => simp [intOf]; omega
        | false =>
          go_wp2_with fail
          refine (HN.out _ _).mono ?_
          rintro e w1 ⟨rfl, rfl⟩
          clear HN
          generalize nanB t = nb at *
          cases nb with
          | true =>
            have e1 : fl = nx := by rw [hS2]; rfl
            clear hS2
            subst e1
            go_wp2
            go_roundw
            case rel => exact ⟨z + 1, fl, by omega, by go_num, rfl, HX.out, HG2.out⟩
            case measure => simp [intOf]; omega
          | false =>
            have e1 : t = nx := by rw [hS2]; rfl
            clear hS2
            subst e1
            go_wp2
            go_roundw
            case rel => exact ⟨z + 1, t, by omega, by go_num, rfl, HX.out, HG2.out⟩
            case measure => simp [intOf]; omega
      · have hzi : ¬ (z : Int) < (M : Int) := by omega
        have hzn : z = M := by omega
        subst hzn
        have HFF : Hid (t = R ∧ w.grownBy wr none) := ⟨by rw [← hr.out.1, HRes.out, HM.out]; rfl, hr.out.2.1⟩
        clear hr HE HRes
        have h := HFF.out.1
        subst h
        go_wp2
        go_ret
        exact ⟨rfl, HFF.out.2⟩

set_option maxRecDepth 8000 in
set_option maxHeartbeats 3200000 in
theorem come_changes (w : World) (a : Option Addr) (c : Nat) (l : List SmpT) (frm upt : Int) (hv : RdP w (.slice a l.length c) l) (hl : 1 ≤ l.length) :
    Calls Try.prog 73 #[.agg #[.slice a l.length c, .int .i64 frm, .int .i64 upt], .func (.func 74) #[] #[]] w fun e w' => e = .returned (.float .f64 (floatOfInt .f64 ((hwN chgB l (l.length - 1) : Nat) : Int))) ∧ w.grownBy w' none := by
  have HV := hidJ hv
  have hcm : l.length ≤ c ∧ c ≤ 9223372036854775807 := by
    obtain ⟨a', c', e, h1, h2, -⟩ := hv
    simp only [Value.slice.injEq] at e
    obtain ⟨-, -, rfl⟩ := e
    unfold maxLen at h2
    exact ⟨h1, h2⟩
  obtain ⟨hc1, hc2⟩ := hcm
  have HP : Hid (∀ W x y, Calls Try.prog 74 #[.float .f64 x, .float .f64 y] W fun e w' => e = .returned (.bool (chgB x y)) ∧ w' = W) := fun W x y => changes1_any W x y
  obtain ⟨b, o, rfl, -⟩ : ∃ b o, a = some ⟨b, o, none⟩ ∧ True := by
    obtain ⟨a', c', e, -, -, h3⟩ := hv
    obtain ⟨b, o, e1, -⟩ := h3 0 (by omega)
    simp only [Value.slice.injEq] at e
    exact ⟨b, o, e.1.trans e1, trivial⟩
  have HE : Hid (∀ j, j < l.length → ∀ wr, w.grownBy wr none → b < wr.heap.size ∧ wr.cell? ⟨b, o + j * 2, none⟩ = some (.int .i64 (l.getD j smZ).1) ∧ wr.cell? ⟨b, o + j * 2 + 1, none⟩ = some (.float .f64 (l.getD j smZ).2)) := fun j hj wr hg => by
    obtain ⟨a', c', e, -, -, h3⟩ := HV.out.keep hg
    obtain ⟨b', o', e1, d0, d1⟩ := h3 j hj
    simp only [Value.slice.injEq] at e
    obtain ⟨h1, -⟩ := e
    rw [e1] at h1
    simp only [Option.some.injEq, Addr.mk.injEq, and_true] at h1
    obtain ⟨rfl, rfl⟩ := h1
    exact ⟨block_lt d0, d0, d1⟩
  clear hv HV
  obtain ⟨M, hM⟩ : ∃ M, l.length = M + 1 := ⟨l.length - 1, by omega⟩
  have HM := hidJ hM
  rw [hM] at hc1 ⊢
  rw [Nat.add_sub_cancel]
  clear hM hl
  obtain ⟨F, hF⟩ : ∃ F, F = floatOfInt .f64 ((hwN chgB l M : Nat) : Int) := ⟨_, rfl⟩
  rw [← hF]
  have HF := hidJ hF
  clear hF
  have H0 : Hid (w.grownBy (w.alloc (.cells #[.slice (some ⟨b, o, none⟩) (M + 1) c, .int .i64 frm, .int .i64 upt] 54)) none ∧ (w.alloc (.cells #[.slice (some ⟨b, o, none⟩) (M + 1) c, .int .i64 frm, .int .i64 upt] 54)).heap[w.heap.size]? = some (.cells #[.slice (some ⟨b, o, none⟩) (M + 1) c, .int .i64 frm, .int .i64 upt] 54 (0, 0))) := ⟨alloc_gb _ _, Go.heap_alloc_new _ _⟩
  have hM2 : M + 1 ≤ 9223372036854775807 := by omega
  go_enter Try.func73, Try.ntmps73
  go_wp2
  go_loopw [5, 6] (fun un ui wr => ∃ (y n : Nat), 1 ≤ y ∧ y ≤ M + 1 ∧ ui = .int .i64 (y : Int) ∧ un = .int .i64 n ∧ n + 1 ≤ y ∧ Hid (hwN chgB l (y - 1) = n ∧ w.grownBy wr none ∧ wr.heap[w.heap.size]? = some (.cells #[.slice (some ⟨b, o, none⟩) (M + 1) c, .int .i64 frm, .int .i64 upt] 54 (0, 0)))) (fun _ ui _ => M + 1 - (intOf ui).toNat)
  case atStart => exact ⟨1, 0, by omega, by omega, rfl, rfl, by omega, rfl, H0.out.1, H0.out.2⟩
  case round =>
    obtain ⟨y, n, hy1, hzM, rfl, rfl, hnz, hr⟩ := hrel
    clear H0
    have hbx := hr.out.2.2
    have c0 : wr.cell? ⟨w.heap.size, 0, none⟩ = some (.slice (some ⟨b, o, none⟩) (M + 1) c) := by rw [World.cell?, hbx]; rfl
    have c1 : wr.cell? ⟨w.heap.size, 1, none⟩ = some (.int .i64 frm) := by rw [World.cell?, hbx]; rfl
    have c2 : wr.cell? ⟨w.heap.size, 2, none⟩ = some (.int .i64 upt) := by rw [World.cell?, hbx]; rfl
    clear hbx
    by_cases hzl : y < M + 1
    · have hzi : (y : Int) < (M : Int) + 1 := by omega
      obtain ⟨z, hz⟩ : ∃ z, y = z + 1 := ⟨y - 1, by omega⟩
      obtain ⟨hbl, -, d0⟩ := HE.out z (by have := HM.out; omega) wr hr.out.2.1
      obtain ⟨-, -, d1⟩ := HE.out y (by have := HM.out; omega) wr hr.out.2.1
      have HS : Hid (hwN chgB l y = n + if chgB (l.getD z smZ).2 (l.getD y smZ).2 = true then 1 else 0) := by
        rw [hz]
        show hwN chgB l z + _ = _
        have := hr.out.1
        rw [hz, Nat.add_sub_cancel] at this
        rw [this]
      have HG : Hid (∀ q, w.grownBy (wr.drewN q) none ∧ (wr.drewN q).heap[w.heap.size]? = some (.cells #[.slice (some ⟨b, o, none⟩) (M + 1) c, .int .i64 frm, .int .i64 upt] 54 (0, 0))) := fun q => ⟨gb_none hr.out.2.1 ⟨rfl, rfl, rfl, Nat.le_refl _, fun _ _ _ => rfl⟩, hr.out.2.2⟩
      have HY : Hid (y + 1 - 1 = y) := Nat.add_sub_cancel _ _
      have hwz : IntKind.i64.wrap ((y : Int) - 1) = (z : Int) := by rw [IntKind.wrap_i64]; omega
      have hq1 : z < M + 1 := by omega
      have hq2 : ¬ M + 1 ≤ z := by omega
      have hq3 : (z : Int) < (M : Int) + 1 := by omega
      have hq4 : ¬ M + 1 ≤ y := by omega
      clear hr HE hz
      generalize (l.getD z smZ).2 = x at *
      generalize (l.getD y smZ).2 = v at *
      go_wp2
      go_quiet ((first | go_at_call 56 | skip; exact Calls.quiet_of_same (HP.out _ _ _)))
      have HG2 := hidJ (HG.out nq)
      have hS2 := HS.out
      clear HG HS HP d0 d1 c0 c1 c2
      generalize chgB x v = q at *
      cases q with
      | true =>
        have HX : Hid (hwN chgB l (y + 1 - 1) = n + 1) := by rw [HY.out, hS2]; rfl
        clear hS2
        go_wp2
        go_roundw
        case rel => exact ⟨y + 1, n + 1, by omega, by omega, by go_num, by go_num, by omega, HX.out, HG2.out⟩
        case measure => simp [intOf]; omega
      | false =>
        have HX : Hid (hwN chgB l (y + 1 - 1) = n) := by rw [HY.out, hS2]; rfl
        clear hS2
        go_wp2
        go_roundw
        case rel => exact ⟨y + 1, n, by omega, by omega, by go_num, rfl, by omega, HX.out, HG2.out⟩
        case measure => simp [intOf]; omega
    · have hzn : y = M + 1 := by omega
      subst hzn
      have hzi : ¬ (M : Int) + 1 < (M : Int) + 1 := by omega
      have HFF : Hid (F = floatOfInt .f64 (n : Int) ∧ w.grownBy wr none) := ⟨by rw [HF.out, ← hr.out.1, Nat.add_sub_cancel], hr.out.2.1⟩
      have h := HFF.out.1
      subst h
      clear hr HE HF
      go_wp2
      go_ret
      exact ⟨rfl, HFF.out.2⟩

set_option maxRecDepth 8000 in
set_option maxHeartbeats 3200000 in
theorem come_resets (w : World) (a : Option Addr) (c : Nat) (l : List SmpT) (frm upt : Int) (hv : RdP w (.slice a l.length c) l) (hl : 1 ≤ l.length) :
    Calls Try.prog 73 #[.agg #[.slice a l.length c, .int .i64 frm, .int .i64 upt], .func (.func 75) #[] #[]] w fun e w' => e = .returned (.float .f64 (floatOfInt .f64 ((hwN rstB l (l.length - 1) : Nat) : Int))) ∧ w.grownBy w' none := by
  have HV := hidJ hv
  have hcm : l.length ≤ c ∧ c ≤ 9223372036854775807 := by
    obtain ⟨a', c', e, h1, h2, -⟩ := hv
    simp only [Value.slice.injEq] at e
    obtain ⟨-, -, rfl⟩ := e
    unfold maxLen at h2
    exact ⟨h1, h2⟩
  obtain ⟨hc1, hc2⟩ := hcm
  have HP : Hid (∀ W x y, Calls Try.prog 75 #[.float .f64 x, .float .f64 y] W fun e w' => e = .returned (.bool (rstB x y)) ∧ w' = W) := fun W x y => resets1_any W x y
  obtain ⟨b, o, rfl, -⟩ : ∃ b o, a = some ⟨b, o, none⟩ ∧ True := by
    obtain ⟨a', c', e, -, -, h3⟩ := hv
    obtain ⟨b, o, e1, -⟩ := h3 0 (by omega)
    simp only [Value.slice.injEq] at e
    exact ⟨b, o, e.1.trans e1, trivial⟩
  have HE : Hid (∀ j, j < l.length → ∀ wr, w.grownBy wr none → b < wr.heap.size ∧ wr.cell? ⟨b, o + j * 2, none⟩ = some (.int .i64 (l.getD j smZ).1) ∧ wr.cell? ⟨b, o + j * 2 + 1, none⟩ = some (.float .f64 (l.getD j smZ).2)) := fun j hj wr hg => by
    obtain ⟨a', c', e, -, -, h3⟩ := HV.out.keep hg
    obtain ⟨b', o', e1, d0, d1⟩ := h3 j hj
    simp only [Value.slice.injEq] at e
    obtain ⟨h1, -⟩ := e
    rw [e1] at h1
    simp only [Option.some.injEq, Addr.mk.injEq, and_true] at h1
    obtain ⟨rfl, rfl⟩ := h1
    exact ⟨block_lt d0, d0, d1⟩
  clear hv HV
  obtain ⟨M, hM⟩ : ∃ M, l.length = M + 1 := ⟨l.length - 1, by omega⟩
  have HM := hidJ hM
  rw [hM] at hc1 ⊢
  rw [Nat.add_sub_cancel]
  clear hM hl
  obtain ⟨F, hF⟩ : ∃ F, F = floatOfInt .f64 ((hwN rstB l M : Nat) : Int) := ⟨_, rfl⟩
  rw [← hF]
  have HF := hidJ hF
  clear hF
  have H0 : Hid (w.grownBy (w.alloc (.cells #[.slice (some ⟨b, o, none⟩) (M + 1) c, .int .i64 frm, .int .i64 upt] 54)) none ∧ (w.alloc (.cells #[.slice (some ⟨b, o, none⟩) (M + 1) c, .int .i64 frm, .int .i64 upt] 54)).heap[w.heap.size]? = some (.cells #[.slice (some ⟨b, o, none⟩) (M + 1) c, .int .i64 frm, .int .i64 upt] 54 (0, 0))) := ⟨alloc_gb _ _, Go.heap_alloc_new _ _⟩
  have hM2 : M + 1 ≤ 9223372036854775807 := by omega
  go_enter Try.func73, Try.ntmps73
  go_wp2
  go_loopw [5, 6] (fun un ui wr => ∃ (y n : Nat), 1 ≤ y ∧ y ≤ M + 1 ∧ ui = .int .i64 (y : Int) ∧ un = .int .i64 n ∧ n + 1 ≤ y ∧ Hid (hwN rstB l (y - 1) = n ∧ w.grownBy wr none ∧ wr.heap[w.heap.size]? = some (.cells #[.slice (some ⟨b, o, none⟩) (M + 1) c, .int .i64 frm, .int .i64 upt] 54 (0, 0)))) (fun _ ui _ => M + 1 - (intOf ui).toNat)
  case atStart => exact ⟨1, 0, by omega, by omega, rfl, rfl, by omega, rfl, H0.out.1, H0.out.2⟩
  case round =>
    obtain ⟨y, n, hy1, hzM, rfl, rfl, hnz, hr⟩ := hrel
    clear H0
    have hbx := hr.out.2.2
    have c0 : wr.cell? ⟨w.heap.size, 0, none⟩ = some (.slice (some ⟨b, o, none⟩) (M + 1) c) := by rw [World.cell?, hbx]; rfl
    have c1 : wr.cell? ⟨w.heap.size, 1, none⟩ = some (.int .i64 frm) := by rw [World.cell?, hbx]; rfl
    have c2 : wr.cell? ⟨w.heap.size, 2, none⟩ = some (.int .i64 upt) := by rw [World.cell?, hbx]; rfl
    clear hbx
    by_cases hzl : y < M + 1
    · have hzi : (y : Int) < (M : Int) + 1 := by omega
      obtain ⟨z, hz⟩ : ∃ z, y = z + 1 := ⟨y - 1, by omega⟩
      obtain ⟨hbl, -, d0⟩ := HE.out z (by have := HM.out; omega) wr hr.out.2.1
      obtain ⟨-, -, d1⟩ := HE.out y (by have := HM.out; omega) wr hr.out.2.1
      have HS : Hid (hwN rstB l y = n + if rstB (l.getD z smZ).2 (l.getD y smZ).2 = true then 1 else 0) := by
        rw [hz]
        show hwN rstB l z + _ = _
        have := hr.out.1
        rw [hz, Nat.add_sub_cancel] at this
        rw [this]
      have HG : Hid (∀ q, w.grownBy (wr.drewN q) none ∧ (wr.drewN q).heap[w.heap.size]? = some (.cells #[.slice (some ⟨b, o, none⟩) (M + 1) c, .int .i64 frm, .int .i64 upt] 54 (0, 0))) := fun q => ⟨gb_none hr.out.2.1 ⟨rfl, rfl, rfl, Nat.le_refl _, fun _ _ _ => rfl⟩, hr.out.2.2⟩
      have HY : Hid (y + 1 - 1 = y) := Nat.add_sub_cancel _ _
      have hwz : IntKind.i64.wrap ((y : Int) - 1) = (z : Int) := by rw [IntKind.wrap_i64]; omega
      have hq1 : z < M + 1 := by omega
      have hq2 : ¬ M + 1 ≤ z := by omega
      have hq3 : (z : Int) < (M : Int) + 1 := by omega
      have hq4 : ¬ M + 1 ≤ y := by omega
      clear hr HE hz
      generalize (l.getD z smZ).2 = x at *
      generalize (l.getD y smZ).2 = v at *
      go_wp2
      go_quiet ((first | go_at_call 57 | skip; exact Calls.quiet_of_same (HP.out _ _ _)))
      have HG2 := hidJ (HG.out nq)
      have hS2 := HS.out
      clear HG HS HP d0 d1 c0 c1 c2
      generalize rstB x v = q at *
      cases q with
      | true =>
        have HX : Hid (hwN rstB l (y + 1 - 1) = n + 1) := by rw [HY.out, hS2]; rfl
        clear hS2
        go_wp2
        go_roundw
        case rel => exact ⟨y + 1, n + 1, by omega, by omega, by go_num, by go_num, by omega, HX.out, HG2.out⟩
        case measure => simp [intOf]; omega
      | false =>
        have HX : Hid (hwN rstB l (y + 1 - 1) = n) := by rw [HY.out, hS2]; rfl
        clear hS2
        go_wp2
        go_roundw
        case rel => exact ⟨y + 1, n, by omega, by omega, by go_num, rfl, by omega, HX.out, HG2.out⟩
        case measure => simp [intOf]; omega
    · have hzn : y = M + 1 := by omega
      subst hzn
      have hzi : ¬ (M : Int) + 1 < (M : Int) + 1 := by omega
      have HFF : Hid (F = floatOfInt .f64 (n : Int) ∧ w.grownBy wr none) := ⟨by rw [HF.out, ← hr.out.1, Nat.add_sub_cancel], hr.out.2.1⟩
      have h := HFF.out.1
      subst h
      clear hr HE HF
      go_wp2
      go_ret
      exact ⟨rfl, HFF.out.2⟩

end Go.Proofs.Ytgpednikianneaa
