/-
  What vint.U comes to: the walk.
-/
import Derived.Test.YtfggcmkoihemoaaDoorReads
namespace Go.Proofs.YtfggcmkoihemoaaDoor
open Go.RowKit

set_option maxRecDepth 4000 in
set_option maxHeartbeats 3200000 in
theorem u_in (v : Value) (l : List UInt8) (p : Nat) (w : World) (hv : Rd w v l) (hp : p ≤ l.length) :
    Calls Tryd.prog 16 #[v, .int .i64 p] w fun e w' => e = .returned (tup3 (uSpec l p)) ∧ w' = w := by
  have Hp : Hid (∀ r, rdU (l.drop p) 0 0 = r → uSpec l (p : Int) = uRes r p) := fun r hr => uSpec_in hp hr
  obtain ⟨a, c, rfl, hn, hm, hb, hz⟩ := hv
  unfold maxLen at hm
  unfold RdA at hb
  have hlt' : l.length ≤ 9223372036854775807 := by omega
  clear hm hn hz
  generalize hN : l.length = n at *
  have HN : Hid (l.length = n) := hN
  clear hN
  have t0 : ¬ (p : Int) < 0 := by omega
  have t1 : ¬ (n : Int) < (p : Int) := by omega
  go_enter Tryd.func16, Tryd.ntmps16
  go_wp2
  go_loop [7, 8] (fun r i => ∃ k : Nat, k ≤ 9 ∧ p + k ≤ n ∧ i = .int .i64 k ∧ ∃ acc : Nat, r = .int .u64 (I64 (BitVec.ofNat 64 acc)) ∧ Hid (acc < 128 ^ k ∧ rdU (l.drop p) 0 0 = rdU (l.drop (p + k)) k acc)) (fun _ i => 10 - (intOf i).toNat)
  case atStart => exact ⟨0, by omega, by omega, rfl, 0, rfl, by decide, rfl⟩
  case round =>
    obtain ⟨k, hk, hkn, rfl, acc, rfl, hacc⟩ := hrel
    by_cases hlt : p + k < n
    · obtain ⟨b, o, rfl, hc⟩ := hb (p + k) hlt
      have hlen : Hid (p + k < l.length) := by show p + k < l.length; rw [HN.out]; exact hlt
      have hc8 : (l.getD (p + k) 0).toNat < 256 := (l.getD (p + k) 0).toNat_lt
      have r1 : Hid (k = 9 → 1 < (l.getD (p + k) 0).toNat → uSpec l (p : Int) = (0, 0, 7)) := fun h1 h2 => Hp.out _ (hacc.out.2.trans (rd_large hlen.out h1 h2))
      have r2 : Hid (0 < k → (l.getD (p + k) 0).toNat = 0 → uSpec l (p : Int) = (0, 0, 3)) := fun h1 h2 => Hp.out _ (hacc.out.2.trans (rd_form hlen.out h1 h2))
      have r3 : Hid ((k = 9 → (l.getD (p + k) 0).toNat ≤ 1) → (l.getD (p + k) 0).toNat < 128 → (0 < k → (l.getD (p + k) 0).toNat ≠ 0) → uSpec l (p : Int) = (acc + (l.getD (p + k) 0).toNat * 128 ^ k, (p : Int) + ((k + 1 : Nat) : Int), 0)) :=
        fun h1 h2 h3 => Hp.out _ (hacc.out.2.trans (rd_ok hlen.out h1 h2 h3))
      have r4 : Hid (k ≠ 9 → ¬ (l.getD (p + k) 0).toNat < 128 → rdU (l.drop p) 0 0 = rdU (l.drop (p + k + 1)) (k + 1) (acc + (l.getD (p + k) 0).toNat % 128 * 128 ^ k)) := fun h1 h2 => hacc.out.2.trans (rd_more hlen.out h1 h2)
      have hacc1 : Hid (acc < 128 ^ k) := hacc.out.1
      clear hacc Hp
      generalize (l.getD (p + k) 0).toNat = y at *
      clear hb
      by_cases hk9 : k = 9
      · have K9 : Hid (k = 9) := hk9
        have hk9' : ((k : Int) == 9) = true := by simp; omega
        clear hk9
        by_cases hy1 : 1 < (y : Int)
        · have HY : Hid (1 < y) := by show 1 < y; omega
          go_wp2
          go_ret3
          exact ⟨by rw [r1.out K9.out HY.out]; exact ret3 I64_0.symm rfl rfl, rfl⟩
        · by_cases hy0 : y = 0
          · have Y0 : Hid (y = 0) := hy0
            have hy0' : ((y : Int) == 0) = true := by simp; omega
            have hkp : (0 : Int) < (k : Int) := by have := K9.out; omega
            clear hy0
            go_wp2
            go_ret3
            exact ⟨by rw [r2.out (by have := K9.out; omega) Y0.out]; exact ret3 I64_0.symm rfl rfl, rfl⟩
          · have hy0' : ((y : Int) == 0) = false := by simp; omega
            have hst : Hid (bits .or .u64 (I64 (BitVec.ofNat 64 acc)) (IntKind.u64.wrap ((y : Int) * 2 ^ (7 * k))) = I64 (BitVec.ofNat 64 (acc + y * 128 ^ k))) := step_last (by omega) hacc1.out (by omega) (by omega)
            go_wp2
            go_ret3
            exact ⟨by rw [r3.out (by omega) (by omega) (by omega)]; exact ret3 hst.out (show _ = (p : Int) + ((k + 1 : Nat) : Int) by omega) rfl, rfl⟩
      · have hk9' : ((k : Int) == 9) = false := by simp; omega
        by_cases hy8 : (y : Int) < 128
        · have hst : Hid (bits .or .u64 (I64 (BitVec.ofNat 64 acc)) (IntKind.u64.wrap ((y : Int) * 2 ^ (7 * k))) = I64 (BitVec.ofNat 64 (acc + y * 128 ^ k))) := step_last (by omega) hacc1.out (by omega) (by omega)
          by_cases hy0 : y = 0
          · have Y0 : Hid (y = 0) := hy0
            have hy0' : ((y : Int) == 0) = true := by simp; omega
            by_cases hk0 : k = 0
            · have K0 : Hid (k = 0) := hk0
              have hkp : ¬ (0 : Int) < (k : Int) := by omega
              clear hy0 hk0
              go_wp2
              go_ret3
              exact ⟨by rw [r3.out (by omega) (by omega) (fun h => by have := K0.out; omega)]; exact ret3 hst.out (show _ = (p : Int) + ((k + 1 : Nat) : Int) by omega) rfl, rfl⟩
            · have hkp : (0 : Int) < (k : Int) := by omega
              clear hy0
              go_wp2
              go_ret3
              exact ⟨by rw [r2.out (by omega) Y0.out]; exact ret3 I64_0.symm rfl rfl, rfl⟩
          · have hy0' : ((y : Int) == 0) = false := by simp; omega
            go_wp2
            go_ret3
            exact ⟨by rw [r3.out (by omega) (by omega) (by omega)]; exact ret3 hst.out (show _ = (p : Int) + ((k + 1 : Nat) : Int) by omega) rfl, rfl⟩
        · have hst := step_more (acc := acc) (y := y) (k := k) (by omega) hacc1.out hc8
          have HST : Hid (bits .or .u64 (I64 (BitVec.ofNat 64 acc)) (IntKind.u64.wrap (IntKind.u64.wrap (bits .and .u8 (y : Int) 127) * 2 ^ (7 * k))) = I64 (BitVec.ofNat 64 (acc + y % 128 * 128 ^ k))) := hst
          clear hst
          go_wp2
          go_round
          case rel => exact ⟨k + 1, by omega, by omega, by go_num, acc + y % 128 * 128 ^ k, by rw [HST.out], acc_lt hacc1.out (by omega), r4.out hk9 (by omega)⟩
          case measure => simp [intOf]; omega
    · have hend : Hid (uSpec l (p : Int) = (0, 0, 9)) := Hp.out _ (hacc.out.2.trans (rd_end _ (by rw [HN.out]; omega)))
      clear hb
      go_wp2
      go_ret3
      exact ⟨by rw [hend.out]; exact ret3 I64_0.symm rfl rfl, rfl⟩

set_option maxHeartbeats 800000 in
theorem u_out (v : Value) (l : List UInt8) (p : Int) (w : World) (hv : Rd w v l) (hp : p < 0 ∨ (l.length : Int) < p) :
    Calls Tryd.prog 16 #[v, .int .i64 p] w fun e w' => e = .returned (tup3 (uSpec l p)) ∧ w' = w := by
  have Hs : Hid (uSpec l p = (0, 0, 1)) := if_pos hp
  obtain ⟨a, c, rfl, -, -, -, -⟩ := hv
  by_cases h : p < 0
  · clear hp
    go_enter Tryd.func16, Tryd.ntmps16
    go_wp2
    go_ret3
    exact ⟨by rw [Hs.out]; exact ret3 I64_0.symm rfl rfl, rfl⟩
  · have h1 : (l.length : Int) < p := by omega
    clear hp
    go_enter Tryd.func16, Tryd.ntmps16
    go_wp2
    go_ret3
    exact ⟨by rw [Hs.out]; exact ret3 I64_0.symm rfl rfl, rfl⟩

theorem u_any (v : Value) (l : List UInt8) (p : Int) (w : World) (hv : Rd w v l) :
    Calls Tryd.prog 16 #[v, .int .i64 p] w fun e w' => e = .returned (tup3 (uSpec l p)) ∧ w' = w := by
  by_cases hp : p < 0 ∨ (l.length : Int) < p
  · exact u_out v l p w hv hp
  · obtain ⟨q, rfl⟩ := Int.eq_ofNat_of_zero_le (show 0 ≤ p by omega)
    exact u_in v l q w hv (by omega)
end Go.Proofs.YtfggcmkoihemoaaDoor
