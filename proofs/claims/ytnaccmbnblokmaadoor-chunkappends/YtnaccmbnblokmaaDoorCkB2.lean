/-
  The document's Same of samples: the walk.
-/
import Derived.Test.YtnaccmbnblokmaaDoorCkB1
import Derived.BigRegion
import Derived.Deep.QuietTactic
import Derived.BigQuiet
namespace Go.Proofs.YtnaccmbnblokmaaDoor
open Go.RowKit

theorem refBits_any (f : Nat) (w : World) : Calls Tryd.prog 33 #[.float .f64 f] w fun e w' => e = .returned (.int .u64 (f : Int)) ∧ w' = w := by
  have hfb := fbits_run f
  go_enter Tryd.func33, Tryd.ntmps33
  go_wp2
  go_ret
  exact ⟨rfl, rfl⟩
theorem gb_drewN (w : World) (n : Nat) : w.grownBy (w.drewN n) none := ⟨rfl, rfl, rfl, Nat.le_refl _, fun _ _ _ => rfl⟩
theorem drewN_add (w : World) (a b : Nat) : (w.drewN a).drewN b = w.drewN (a + b) := by simp [World.drewN, Nat.add_assoc]
theorem take_sameS {l m : List SmpT} {z : Nat} (hl : z < l.length) (hm : z < m.length) (h : l.take z = m.take z) : (l.take (z + 1) = m.take (z + 1)) ↔ ((l.getD z smZ).1 = (m.getD z smZ).1 ∧ (l.getD z smZ).2 = (m.getD z smZ).2) := by
  rw [take_snocS hl, take_snocS hm, h]
  constructor
  · intro e
    have := List.append_cancel_left e
    simp only [List.cons.injEq, and_true] at this
    exact ⟨by rw [this], by rw [this]⟩
  · rintro ⟨e1, e2⟩
    rw [Prod.ext e1 e2]

set_option maxRecDepth 8000 in
set_option maxHeartbeats 3200000 in
theorem refSame_q (w : World) (v u : Value) (l m : List SmpT) (hv : RdP w v l) (hu : RdP w u m) :
    Calls Tryd.prog 14 #[v, u] w fun e w' => e = .returned (.bool (decide (l = m))) ∧ ∃ q, w' = w.drewN q := by
  have HR : Hid (RdP w v l ∧ RdP w u m) := ⟨hv, hu⟩
  obtain ⟨a, c, rfl, hlc, hcm, -⟩ := hv
  obtain ⟨a2, c2, rfl, hlc2, hcm2, -⟩ := hu
  have hcm' : c ≤ 9223372036854775807 := hcm
  have hcm2' : c2 ≤ 9223372036854775807 := hcm2
  clear hcm hcm2
  obtain ⟨N, hN⟩ : ∃ N, l.length = N := ⟨_, rfl⟩
  obtain ⟨M, hM⟩ : ∃ M, m.length = M := ⟨_, rfl⟩
  have HN : Hid (l.length = N ∧ m.length = M) := ⟨hN, hM⟩
  rw [hN] at hlc
  rw [hM] at hlc2
  rw [hN, hM]
  clear hN hM
  by_cases hNM : N = M
  · subst hNM
    go_enter Tryd.func14, Tryd.ntmps14
    go_wp2_with fail
    go_loopw [13] (fun i wr => ∃ z : Nat, z ≤ N ∧ i = .int .i64 z ∧ Hid (l.take z = m.take z ∧ ∃ q, wr = w.drewN q)) (fun i _ => N - (intOf i).toNat)
    case atStart => exact ⟨0, by omega, rfl, rfl, 0, rfl⟩
    case round =>
      obtain ⟨z, hz, rfl, hr⟩ := hrel
      have hgk : w.grownBy wr none := by obtain ⟨q, hq⟩ := hr.out.2; rw [hq]; exact gb_drewN _ _
      have HFin : Hid (∀ nq, ∃ q, wr.drewN nq = w.drewN q) := fun nq => by obtain ⟨q, hq⟩ := hr.out.2; exact ⟨q + nq, by rw [hq, drewN_add]⟩
      by_cases hlt : z < N
      · have hzi : (z : Int) < (N : Int) := by omega
        have hzl : z < l.length := by rw [HN.out.1]; exact hlt
        have hzm : z < m.length := by rw [HN.out.2]; exact hlt
        obtain ⟨a', c', he, -, -, hc⟩ := HR.out.1.keep hgk
        simp only [Value.slice.injEq] at he
        obtain ⟨rfl, -, rfl⟩ := he
        obtain ⟨b, o, rfl, x0, x1⟩ := hc z hzl
        obtain ⟨a', c', he, -, -, hc2⟩ := HR.out.2.keep hgk
        simp only [Value.slice.injEq] at he
        obtain ⟨rfl, -, rfl⟩ := he
        obtain ⟨b2, o2, rfl, y0, y1⟩ := hc2 z hzm
        have HSt := hidJ (take_sameS hzl hzm hr.out.1)
        have HB : Hid (∀ f W, Calls Tryd.prog 33 #[.float .f64 f] W fun e w' => e = .returned (.int .u64 (f : Int)) ∧ w' = W) := refBits_any
        clear hc hc2 hr hgk
        generalize (l.getD z smZ).1 = t1 at *
        generalize (l.getD z smZ).2 = f1 at *
        generalize (m.getD z smZ).1 = t2 at *
        generalize (m.getD z smZ).2 = f2 at *
        by_cases ht : t1 = t2
        · subst ht
          by_cases hf : f1 = f2
          · subst hf
            go_wp2
            go_quiet ((go_at_call 33; exact Calls.quiet_of_same (HB.out _ _)))
            go_wp2
            go_roundw
            case rel => exact ⟨z + 1, by omega, by go_num, HSt.out.2 (by simp), HFin.out _⟩
            case measure => simp [intOf]; omega
          · have hfb : ((f1 : Int) == (f2 : Int)) = false := by rw [beq_eq_false_iff_ne]; omega
            have hfi : ¬ (f1 : Int) = (f2 : Int) := by omega
            have HE : Hid (l ≠ m) := fun e => by
              have := (HSt.out.1 (by rw [e])).2
              exact hf this
            go_wp2
            go_quiet ((go_at_call 33; exact Calls.quiet_of_same (HB.out _ _)))
            go_wp2
            go_ret
            exact ⟨by simp [HE.out], HFin.out _⟩
        · have htb : (t1 == t2) = false := by rw [beq_eq_false_iff_ne]; exact ht
          have htn : (t1 != t2) = true := by simp [ht]
          have HE : Hid (l ≠ m) := fun e => by
            have := (HSt.out.1 (by rw [e])).1
            exact ht this
          go_wp2
          go_quiet ((go_at_call 33; exact Calls.quiet_of_same (HB.out _ _)))
          go_wp2
          go_ret
          exact ⟨by simp [HE.out], HFin.out _⟩
      · have hzi : ¬ (z : Int) < (N : Int) := by omega
        have hze : z = N := by omega
        subst hze
        have HE : Hid (l = m) := by
          have h := hr.out.1
          rw [List.take_of_length_le (by rw [HN.out.1]; omega), List.take_of_length_le (by rw [HN.out.2]; omega)] at h
          exact h
        have HGr := hidJ hr.out.2
        clear hr hgk
        go_wp2
        go_ret
        exact ⟨by simp [HE.out], HGr.out⟩
  · have hNMi : ¬ (N : Int) = (M : Int) := by omega
    have hNMb : ((N : Int) == (M : Int)) = false := by rw [beq_eq_false_iff_ne]; omega
    have HE : Hid (l ≠ m) := fun e => by
      have h := HN.out
      rw [e] at h
      omega
    go_enter Tryd.func14, Tryd.ntmps14
    go_wp2
    go_ret
    exact ⟨by simp [HE.out], 0, rfl⟩
theorem refSame_any (w : World) (v u : Value) (l m : List SmpT) (hv : RdP w v l) (hu : RdP w u m) :
    Calls Tryd.prog 14 #[v, u] w fun e w' => e = .returned (.bool (decide (l = m))) ∧ w.grownBy w' none :=
  (refSame_q w v u l m hv hu).mono fun e w' ⟨h1, q, h2⟩ => ⟨h1, by rw [h2]; exact gb_drewN _ _⟩
end Go.Proofs.YtnaccmbnblokmaaDoor
