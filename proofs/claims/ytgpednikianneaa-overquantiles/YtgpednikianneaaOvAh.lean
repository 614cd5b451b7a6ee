/-
  The document's order of values: math.Signbit, ahead, Told: the walks; it is the project's.
-/
import Derived.Test.YtgpednikianneaaOvP
namespace Go.Proofs.Ytgpednikianneaa
open Go.RowKit

theorem signbit_any (w : World) (a : Nat) (ha : a < 18446744073709551616) : Calls Try.prog 47 #[.float .f64 a] w fun e w' => e = .returned (.bool (sgB a)) ∧ w' = w := by
  have hf := fbits_run a
  have hs : sgB a = decide (IntKind.i64.wrap (a : Int) < 0) := by
    unfold sgB
    rw [IntKind.wrap_i64]
    rcases Nat.lt_or_ge a 9223372036854775808 with h | h
    · rw [show a / 9223372036854775808 = 0 by omega]
      symm
      rw [show ((0 % 2 == 1) : Bool) = false from rfl, decide_eq_false_iff_not]
      omega
    · rw [show a / 9223372036854775808 = 1 by omega]
      symm
      rw [show ((1 % 2 == 1) : Bool) = true from rfl, decide_eq_true_eq]
      omega
  rw [hs]
  obtain ⟨z, hz⟩ : ∃ z, IntKind.i64.wrap (a : Int) = z := ⟨_, rfl⟩
  rw [hz]
  clear hs ha
  generalize (a : Int) = x at *
  go_enter Try.func47, Try.ntmps47
  go_wp2
  go_ret
  exact ⟨rfl, rfl⟩
/-- is one ahead of the other, as the document has it? -/
def aheadB (a b : Nat) : Bool := if (nanB a || nanB b) = true then nanB a && !nanB b else if (fo a b == some .eq) = true then sgB a && !sgB b else fo a b == some .lt
theorem aheadF_any (w : World) (a b : Nat) (ha : a < 18446744073709551616) (hb : b < 18446744073709551616) : Calls Try.prog 30 #[.float .f64 a, .float .f64 b] w fun e w' => e = .returned (.bool (aheadB a b)) ∧ w' = w := by
  have hV : Hid (aheadB a b = if (nanB a || nanB b) = true then nanB a && !nanB b else if (fo a b == some .eq) = true then sgB a && !sgB b else fo a b == some .lt) := rfl
  have h1 : (FloatKind.f64.format.order a a != some .eq) = nanB a := rfl
  have h2 : (FloatKind.f64.format.order b b != some .eq) = nanB b := rfl
  have h3 : (FloatKind.f64.format.order b b == some .eq) = !nanB b := by
    show _ = !(FloatKind.f64.format.order b b != some .eq)
    simp [bne]
  have h4 : (FloatKind.f64.format.order a b == some .eq) = (fo a b == some .eq) := rfl
  have h5 : (FloatKind.f64.format.order a b == some .lt) = (fo a b == some .lt) := rfl
  have HA := hidJ (signbit_any w a ha)
  have HB := hidJ (signbit_any w b hb)
  clear ha hb
  generalize aheadB a b = R at *
  generalize (fo a b == some .eq) = e1 at *
  generalize (fo a b == some .lt) = e2 at *
  generalize nanB a = na at *
  generalize nanB b = nb at *
  generalize sgB a = sa at *
  generalize sgB b = sb at *
  have hv := hV.out
  clear hV
  cases na <;> cases nb <;> simp at hv
  · cases e1
    · simp at hv
      subst hv
      clear HA HB
      go_enter Try.func30, Try.ntmps30
      go_wp2
      go_ret
      exact ⟨rfl, rfl⟩
    · simp at hv
      cases sa
      · simp at hv
        subst hv
        clear HB
        go_enter Try.func30, Try.ntmps30
        go_wp2_with fail
        refine HA.out.mono ?_
        rintro e w1 ⟨rfl, rfl⟩
        clear HA
        go_wp2
        go_ret
        exact ⟨rfl, rfl⟩
      · simp at hv
        subst hv
        go_enter Try.func30, Try.ntmps30
        go_wp2_with fail
        refine HA.out.mono ?_
        rintro e w1 ⟨rfl, rfl⟩
        clear HA
        go_wp2_with fail
        refine HB.out.mono ?_
        rintro e w1 ⟨rfl, rfl⟩
        clear HB
        cases sb <;> (go_wp2; go_ret; exact ⟨rfl, rfl⟩)
  all_goals
    subst hv
    clear HA HB
    go_enter Try.func30, Try.ntmps30
    go_wp2
    go_ret
    exact ⟨rfl, rfl⟩
theorem told15_any (w : World) (b : Nat) : Calls Try.prog 31 #[.float .f64 b] w fun e w' => e = .returned (.float .f64 (cz b)) ∧ w' = w := by
  have h1 : (FloatKind.f64.format.order b b != some .eq) = nanB b := rfl
  have h3 : ∀ w, (callFunc 12 #[.int .u64 9221120237041090561]).run Try.prog w = .ok (.value (.float .f64 9221120237041090561)) w := fun w => fromBits_run _ w
  have hc : cz b = if nanB b = true then 9221120237041090561 else b := rfl
  rw [hc]
  clear hc
  generalize nanB b = nb at *
  cases nb with
  | true =>
    rw [if_pos rfl]
    go_enter Try.func31, Try.ntmps31
    go_wp2
    go_ret
    exact ⟨rfl, rfl⟩
  | false =>
    rw [if_neg (by simp)]
    go_enter Try.func31, Try.ntmps31
    go_wp2
    go_ret
    exact ⟨rfl, rfl⟩
/-! ### one order -/
theorem vl_pos {r : Nat} (h : r ≠ 0) : 0 < vl r := by have := vl_lt (show 0 < r by omega); rw [vl_zero] at this; exact this
theorem aheadB_iff {a b : Nat} (ha : a < 18446744073709551616) (hb : b < 18446744073709551616) : aheadB a b = true ↔ cmpV a b < 0 := by
  rw [cmpV_lt]
  unfold aheadB
  cases na : nanB a with
  | true => cases nb : nanB b <;> simp
  | false =>
    cases nb : nanB b with
    | true => simp
    | false =>
      rw [fo_sv na nb]
      simp only [Bool.or_self, Bool.false_eq_true, if_false, false_and, true_and, false_or]
      rcases Int.lt_trichotomy (sv a) (sv b) with h | h | h
      · rw [cmp_lt h]
        simp
        unfold kyN
        have pa : ∀ x, mg x = 0 → sv x = 0 := fun x hx => by unfold sv; rw [hx, vl_zero]; simp
        by_cases za : mg a = 0 <;> by_cases zb : mg b = 0
        · rw [pa a za, pa b zb] at h; omega
        · rw [if_pos za, if_neg zb]; rw [pa a za] at h; split <;> omega
        · rw [if_neg za, if_pos zb]; rw [pa b zb] at h; split <;> omega
        · rw [if_neg za, if_neg zb]; omega
      · rw [h, cmp_self]
        simp
        by_cases za : mg a = 0
        · have zb : mg b = 0 := by
            by_cases zb : mg b = 0
            · exact zb
            · exfalso
              have := vl_pos zb
              unfold sv at h
              rw [za, vl_zero] at h
              split at h <;> split at h <;> omega
          unfold kyN
          rw [if_pos za, if_pos zb]
          cases sgB a <;> cases sgB b <;> simp
        · have hk : kyN a = kyN b := by
            have zb : mg b ≠ 0 := fun zb => by
              have := vl_pos za
              unfold sv at h
              rw [zb, vl_zero] at h
              split at h <;> split at h <;> omega
            unfold kyN
            rw [if_neg za, if_neg zb, h]
          have := kyN_inj ha hb hk
          subst this
          simp
      · rw [cmp_gt h]
        simp
        unfold kyN
        have pa : ∀ x, mg x = 0 → sv x = 0 := fun x hx => by unfold sv; rw [hx, vl_zero]; simp
        by_cases za : mg a = 0 <;> by_cases zb : mg b = 0
        · rw [pa a za, pa b zb] at h; omega
        · rw [if_pos za, if_neg zb]; rw [pa a za] at h; split <;> omega
        · rw [if_neg za, if_pos zb]; rw [pa b zb] at h; split <;> omega
        · rw [if_neg za, if_neg zb]; omega
end Go.Proofs.Ytgpednikianneaa
