/-
  rising: the walk; what rises can be in chunks.
-/
import Derived.Test.YtnaccmbnblokmaaDoorCkB2
namespace Go.Proofs.YtnaccmbnblokmaaDoor
open Go.RowKit

/-- what is wrong with the sample z -/
def risC (l : List SmpT) (z : Nat) : Int := if (l.getD z smZ).1 < 0 ∨ 1125899906842624 < (l.getD z smZ).1 then 1 else if 0 < z ∧ (l.getD z smZ).1 ≤ (l.getD (z - 1) smZ).1 then 90 else 0
def RisOk (l : List SmpT) : Prop := ∀ z, z < l.length → risC l z = 0
theorem risC_ok {l : List SmpT} {z : Nat} (h : risC l z = 0) : (0 ≤ (l.getD z smZ).1 ∧ (l.getD z smZ).1 ≤ 1125899906842624) ∧ (z = 0 ∨ (l.getD (z - 1) smZ).1 < (l.getD z smZ).1) := by
  unfold risC at h
  split at h
  · cases h
  · split at h
    · cases h
    · omega

set_option maxRecDepth 8000 in
set_option maxHeartbeats 3200000 in
theorem rising_any (w : World) (v : Value) (l : List SmpT) (hv : RdP w v l) :
    Calls Tryd.prog 48 #[v] w fun e w' => ((RisOk l ∧ e = .returned (.tuple #[.int .i64 0, .int .i64 0])) ∨ (∃ z, z < l.length ∧ risC l z ≠ 0 ∧ (∀ j, j < z → risC l j = 0) ∧ e = .returned (.tuple #[.int .i64 (risC l z), .int .i64 (z : Int)]))) ∧ w.grownBy w' none := by
  have HR : Hid (RdP w v l) := hv
  obtain ⟨a, c, rfl, hlc, hcm, -⟩ := hv
  have hcm' : c ≤ 9223372036854775807 := hcm
  clear hcm
  obtain ⟨N, hN⟩ : ∃ N, l.length = N := ⟨_, rfl⟩
  have HN : Hid (l.length = N) := hN
  rw [hN] at hlc
  rw [hN]
  clear hN
  go_enter Tryd.func48, Tryd.ntmps48
  go_wp2_with fail
  have hsf := store_float
  go_loopw [8] (fun i wr => ∃ z : Nat, z ≤ N ∧ i = .int .i64 z ∧ Hid ((∀ j, j < z → risC l j = 0) ∧ w.grownBy wr none)) (fun i _ => N - (intOf i).toNat)
  case atStart => exact ⟨0, by omega, rfl, fun j hj => by omega, gb_refl _ _⟩
  case round =>
    obtain ⟨z, hz, rfl, HP⟩ := hrel
    by_cases hlt : z < N
    · have hzi : (z : Int) < (N : Int) := by omega
      have hzl : z < l.length := by rw [HN.out]; exact hlt
      obtain ⟨a', c', he, -, -, hc⟩ := HR.out.keep HP.out.2
      simp only [Value.slice.injEq] at he
      obtain ⟨rfl, -, rfl⟩ := he
      obtain ⟨b, o, rfl, x0, x1⟩ := hc z hzl
      have hpv : 0 < z → wr.cell? ⟨b, o + (z - 1) * 2, none⟩ = some (.int .i64 (l.getD (z - 1) smZ).1) := fun h => by
        obtain ⟨b', o', e, y0, -⟩ := hc (z - 1) (by omega)
        simp only [Option.some.injEq, Addr.mk.injEq, and_true] at e
        obtain ⟨rfl, rfl⟩ := e
        exact y0
      clear hc
      have HX : Hid (∃ t, (l.getD z smZ).1 = t) := ⟨_, rfl⟩
      obtain ⟨t, ht⟩ := HX.out
      clear HX
      have HX := hidJ (And.intro ht True.intro)
      rw [ht] at x0
      clear ht
      generalize (l.getD z smZ).2 = fz at *
      by_cases h0 : t < 0
      · have HE : Hid (risC l z = 1) := by
          show risC l z = 1
          unfold risC
          rw [HX.out.1, if_pos (.inl h0)]
        go_wp2
        go_ret2
        exact ⟨.inr ⟨z, by omega, by rw [HE.out]; decide, HP.out.1, by rw [HE.out]; rfl⟩, gb_none HP.out.2 (alloc_gb _ _)⟩
      · by_cases h1 : 1125899906842624 < t
        · have HE : Hid (risC l z = 1) := by
            show risC l z = 1
            unfold risC
            rw [HX.out.1, if_pos (.inr h1)]
          go_wp2
          go_ret2
          exact ⟨.inr ⟨z, by omega, by rw [HE.out]; decide, HP.out.1, by rw [HE.out]; rfl⟩, gb_none HP.out.2 (alloc_gb _ _)⟩
        · by_cases hz0 : z = 0
          · subst hz0
            simp only [Nat.zero_mul, Nat.add_zero] at x0 x1
            have H0 : Hid (risC l 0 = 0) := by
              show risC l 0 = 0
              unfold risC
              rw [HX.out.1, if_neg (by omega), if_neg (by omega)]
            clear hpv
            go_wp2
            have HG2 : Hid (w.grownBy (wr.alloc (.cells #[.int .i64 t, .float .f64 fz] 27)) none) := gb_none HP.out.2 (alloc_gb _ _)
            have hb5 := Go.heap_alloc_new wr (.cells #[.int .i64 t, .float .f64 fz] 27)
            have g0 : (wr.alloc (.cells #[.int .i64 t, .float .f64 fz] 27)).cell? ⟨wr.heap.size, 0, none⟩ = some (.int .i64 t) := by simp only [World.cell?, hb5]; rfl
            clear hb5 x0 x1
            generalize wr.alloc (.cells #[.int .i64 t, .float .f64 fz] 27) = W2 at *
            generalize wr.heap.size = sb at *
            go_quiet (fail)
            go_wp2
            go_roundw
            case rel => exact ⟨1, by omega, by go_num, fun j hj => (by
              by_cases hj2 : j < 0
              · exact HP.out.1 j hj2
              · have : j = 0 := by omega
                subst this
                exact H0.out), gb_none HG2.out (gb_drewN _ _)⟩
            case measure => simp [intOf]; omega
          · have y0 := hpv (by omega)
            obtain ⟨k, hk⟩ : ∃ k, z - 1 = k := ⟨_, rfl⟩
            have HK : Hid (z - 1 = k ∧ z = k + 1) := ⟨hk, by omega⟩
            have hzk : (z : Int) - 1 = (k : Int) := by omega
            rw [hk] at y0
            have y1 : ∀ C, (wr.alloc C).cell? ⟨b, o + k * 2, none⟩ = some (.int .i64 (l.getD k smZ).1) := fun C => (World.cell?_of_block ((alloc_gb wr C).block b (block_lt y0) (by simp))).trans y0
            have hk1 : (0 : Int) < (z : Int) := by omega
            have hkN : (k : Int) < (N : Int) := by omega
            have hk0 : (0 : Int) ≤ (k : Int) := by omega
            clear hpv hk
            obtain ⟨tp, htp⟩ : ∃ tp, (l.getD k smZ).1 = tp := ⟨_, rfl⟩
            rw [htp] at y0 y1
            have HY := hidJ (And.intro htp True.intro)
            clear htp
            by_cases h2 : t ≤ tp
            · have HE : Hid (risC l z = 90) := by
                show risC l z = 90
                unfold risC
                rw [HX.out.1, HK.out.1, HY.out.1, if_neg (by omega), if_pos (by omega)]
              go_wp2
              have HG2 : Hid (w.grownBy (wr.alloc (.cells #[.int .i64 t, .float .f64 fz] 27)) none) := gb_none HP.out.2 (alloc_gb _ _)
              have hb5 := Go.heap_alloc_new wr (.cells #[.int .i64 t, .float .f64 fz] 27)
              have g0 : (wr.alloc (.cells #[.int .i64 t, .float .f64 fz] 27)).cell? ⟨wr.heap.size, 0, none⟩ = some (.int .i64 t) := by simp only [World.cell?, hb5]; rfl
              have g1 := y1 (.cells #[.int .i64 t, .float .f64 fz] 27)
              clear hb5 y1 y0 x0 x1
              generalize wr.alloc (.cells #[.int .i64 t, .float .f64 fz] 27) = W2 at *
              generalize wr.heap.size = sb at *
              have hd0 : decide (0 < z) = true := decide_eq_true (by omega)
              go_quiet (fail)
              go_wp2
              go_ret2
              exact ⟨.inr ⟨z, by omega, by rw [HE.out]; decide, HP.out.1, by rw [HE.out]; rfl⟩, gb_none HG2.out (gb_drewN _ _)⟩
            · have H0 : Hid (risC l z = 0) := by
                show risC l z = 0
                unfold risC
                rw [HX.out.1, HK.out.1, HY.out.1, if_neg (by omega), if_neg (by omega)]
              go_wp2
              have HG2 : Hid (w.grownBy (wr.alloc (.cells #[.int .i64 t, .float .f64 fz] 27)) none) := gb_none HP.out.2 (alloc_gb _ _)
              have hb5 := Go.heap_alloc_new wr (.cells #[.int .i64 t, .float .f64 fz] 27)
              have g0 : (wr.alloc (.cells #[.int .i64 t, .float .f64 fz] 27)).cell? ⟨wr.heap.size, 0, none⟩ = some (.int .i64 t) := by simp only [World.cell?, hb5]; rfl
              have g1 := y1 (.cells #[.int .i64 t, .float .f64 fz] 27)
              clear hb5 y1 y0 x0 x1
              generalize wr.alloc (.cells #[.int .i64 t, .float .f64 fz] 27) = W2 at *
              generalize wr.heap.size = sb at *
              have hd0 : decide (0 < z) = true := decide_eq_true (by omega)
              go_quiet (fail)
              go_wp2
              go_roundw
              case rel => exact ⟨z + 1, by omega, by go_num, fun j hj => (by
                by_cases hj2 : j < z
                · exact HP.out.1 j hj2
                · have : j = z := by omega
                  subst this
                  exact H0.out), gb_none HG2.out (gb_drewN _ _)⟩
              case measure => simp [intOf]; omega

    · have hzi : ¬ (z : Int) < (N : Int) := by omega
      have hze : z = N := by omega
      subst hze
      go_wp2
      go_ret2
      exact ⟨.inl ⟨fun j hj => HP.out.1 j (by rw [← HN.out]; exact hj), by rfl⟩, HP.out.2⟩
end Go.Proofs.YtnaccmbnblokmaaDoor
