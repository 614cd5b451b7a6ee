/-
  slices.Chunk of samples: what it hands out: the walks.
-/
import Derived.Test.YtnaccmbnblokmaaDoorCkB3
namespace Go.Proofs.YtnaccmbnblokmaaDoor
open Go.RowKit Go.Shelf

attribute [local go_sem] Oper.semAt_some

set_option maxHeartbeats 1000000 in
theorem slChunk_any (a : Option Addr) (n c : Nat) (w : World) :
    Calls Tryd.prog 49 #[.slice a n c, .int .i64 120] w fun e w' => e = .returned (.func (.func 72) #[] #[.pointer (some ⟨w.heap.size, 0, none⟩), .pointer (some ⟨w.heap.size + 1, 0, none⟩)]) ∧ w' = (w.alloc (.cells #[.slice a n c] 22)).alloc (.cells #[.int .i64 120] 3) := by
  go_enter Tryd.func49, Tryd.ntmps49
  go_wp2
  go_ret
  exact ⟨rfl, rfl⟩

set_option maxRecDepth 100000 in
set_option maxHeartbeats 3200000 in
theorem slChunk1_on (n : Nat) (hn1 : 2 ≤ n) (lp Bs Bn b o N c : Nat) (a : Option Addr) (ha : 0 < N → a = some ⟨b, o, none⟩) (J : Nat → World → Prop) (W : World) (hNm : N ≤ 100000) (hNc : N ≤ c) (_hcm : c ≤ 9223372036854775807)
    (hJr : ∀ k W, J k W → W.cell? ⟨Bs, 0, none⟩ = some (.slice a N c) ∧ W.cell? ⟨Bn, 0, none⟩ = some (.int .i64 120))
    (hJd : ∀ k W, J k W → J k W.drew)
    (hY : ∀ k W, 120 * k < N → J k W → YieldAt Fence.wide (n - 1) Tryd.prog lp #[.slice (some ⟨b, o + 120 * k * 2, none⟩) (min 120 (N - 120 * k)) (min 120 (N - 120 * k))] W fun e W' => e = .returned (.bool true) ∧ J (k + 1) W')
    (h0 : J 0 W) :
    CallsIn Fence.wide n Tryd.prog 72 (#[.func (.yield lp) #[] #[]] ++ #[.pointer (some ⟨Bs, 0, none⟩), .pointer (some ⟨Bn, 0, none⟩)]) W fun e W' => (∃ v, e = .returned v) ∧ ∃ k, N ≤ 120 * k ∧ 120 * k < N + 120 ∧ J k W' := by
  have HJ := hidJ hJr
  have HJd := hidJ hJd
  have HY := hidJ hY
  have H0 := hidJ h0
  clear hJr hJd hY h0
  refine callsIn_of_wp Tryd.func72 rfl trivial ?_ rfl
  simp only [Tryd.ntmps72, List.size_toArray, List.length_cons, List.length_nil, Nat.reduceAdd, Nat.reduceSub, Array.replicate_succ, Array.replicate_zero, List.push_toArray, List.append_toArray, List.nil_append, List.cons_append]
  gi_wp2
  gi_loopw [4] (fun i wr => ∃ z : Nat, i = .int .i64 z ∧ z < N + 120 ∧ Hid (∃ k, z = 120 * k ∧ J k wr)) (fun i _ => N + 120 - (intOf i).toNat)
  case atStart => exact ⟨0, rfl, by omega, 0, rfl, H0.out⟩
  case round =>
    obtain ⟨z, rfl, hz, HP⟩ := hrel
    obtain ⟨k, hk, hj⟩ := HP.out
    have hr := HJ.out k wr hj
    have x0 := hr.1
    have x1 := hr.2
    have HK := hidJ (And.intro hk hj)
    clear hr hk hj HP
    by_cases hlt : z < N
    · obtain rfl := ha (by omega)
      clear ha
      obtain ⟨D, hD⟩ : ∃ D, N = z + D := ⟨N - z, by omega⟩
      have hzi : (z : Int) < (N : Int) := by omega
      have hr2 := HJ.out k _ (HJd.out k wr HK.out.2)
      have x2 := hr2.1
      have x3 := hr2.2
      obtain ⟨fn, tmps, assign, body, hy, hR⟩ := HY.out k wr.drew (by rw [← HK.out.1]; exact hlt) (HJd.out k wr HK.out.2)
      rw [← HK.out.1] at hy
      clear hr2
      subst hD
      have hsb : z + D - z = D := by omega
      rw [hsb] at hy
      by_cases hDm : D ≤ 120
      · rw [Nat.min_eq_right hDm] at hy
        have hmi : min (120 : Int) (D : Int) = (D : Int) := by omega
        have hts : ((z : Int) + (D : Int)).toNat - z = D := by omega
        have hn0 : 1 ≤ n := by omega
        clear hsb
        gi_wp2
        gi_region
        gi_wp2
        refine hR.mono ?_
        rintro e W3 ⟨rfl, hj3⟩
        have HJ3 := hidJ hj3
        have hr3 := HJ.out _ W3 hj3
        have x4 := hr3.1
        have x5 := hr3.2
        clear hj3 hr3 hy
        gi_wp2
        go_roundw
        case rel => exact ⟨z + 120, by simp, by omega, k + 1, by have := HK.out.1; omega, HJ3.out⟩
        case measure => simp [intOf]; omega

      · rw [Nat.min_eq_left (by omega)] at hy
        have hmi : min (120 : Int) (D : Int) = 120 := by omega
        have hts : ((z : Int) + 120).toNat - z = 120 := by omega
        have hn0 : 1 ≤ n := by omega
        have h12 : (120 : Int) ≤ (D : Int) := by omega
        clear hsb
        gi_wp2
        gi_region
        gi_wp2
        refine hR.mono ?_
        rintro e W3 ⟨rfl, hj3⟩
        have HJ3 := hidJ hj3
        have hr3 := HJ.out _ W3 hj3
        have x4 := hr3.1
        have x5 := hr3.2
        clear hj3 hr3 hy
        gi_wp2
        go_roundw
        case rel => exact ⟨z + 120, by simp, by omega, k + 1, by have := HK.out.1; omega, HJ3.out⟩
        case measure => simp [intOf]; omega

    · have hzi : ¬ (z : Int) < (N : Int) := by omega
      gi_wp2
      first
      | (refine bodyPost_ret (results_none rfl _ _ _) rfl ?_
         exact ⟨⟨_, rfl⟩, k, by have := HK.out.1; omega, by have := HK.out.1; omega, HK.out.2⟩)
      | (go_end0
         exact ⟨⟨_, rfl⟩, k, by have := HK.out.1; omega, by have := HK.out.1; omega, HK.out.2⟩)
end Go.Proofs.YtnaccmbnblokmaaDoor
