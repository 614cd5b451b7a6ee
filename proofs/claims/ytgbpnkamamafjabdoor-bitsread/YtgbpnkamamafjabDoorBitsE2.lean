/-
  What eight and (*Reader).look come to, whatever they look at: the walks.
-/
import Derived.Test.YtgbpnkamamafjabDoorBitsE
import Derived.Test.YtgbpnkamamafjabDoorBitsA
namespace Go.Proofs.YtgbpnkamamafjabDoor
open Go.RowKit

theorem orS (a y N s : Nat) (hN : N = 2 ^ s) (ha : a < 2 ^ s) (hy : y < 256) (hs : s ≤ 56) : bits .or .u64 (a : Int) ((y : Int) * (N : Int)) = ((a + y * N : Nat) : Int) := by
  subst hN
  have h1 : (2 : Nat) ^ s ≤ 2 ^ 56 := Nat.pow_le_pow_right (by decide) hs
  have e56 : (2 : Nat) ^ 56 = 72057594037927936 := by decide
  have hp : y * 2 ^ s ≤ 255 * 2 ^ s := Nat.mul_le_mul_right _ (by omega)
  have e : ((y : Int) * ((2 ^ s : Nat) : Int)) = ((y * 2 ^ s : Nat) : Int) := (Int.natCast_mul _ _).symm
  rw [e, u64_or_nat _ _ (by omega) (by omega)]
  congr 1
  rw [Nat.or_comm, Nat.mul_comm, ← Nat.two_pow_add_eq_or_of_lt ha, Nat.add_comm]
theorem or00 (y N s : Nat) (hN : N = 2 ^ s) (hy : y < 256) (hs : s ≤ 56) : bits .or .u64 0 ((y : Int) * (N : Int)) = ((0 + y * N : Nat) : Int) := orS 0 y N s hN (Nat.pow_pos (by decide)) hy hs
theorem u64_lit {n : Nat} (h : n < 18446744073709551616) : (n : Int) = I64 (BitVec.ofNat 64 n) := by
  unfold I64
  rw [BitVec.toNat_ofNat, Nat.mod_eq_of_lt h]

theorem eight0 (a : Option Addr) (c : Nat) (w : World) : Calls Tryd.prog 46 #[.slice a 0 c] w fun e w' => e = .returned (.int .u64 0) ∧ w' = w := by
  go_enter Tryd.func46, Tryd.ntmps46
  go_wp2
  go_ret
  exact ⟨rfl, rfl⟩

set_option maxHeartbeats 1600000 in
theorem eightw1 (g o c : Nat) (y0 : Nat) (w : World) (h0 : y0 < 256) (c0 : w.cell? ⟨g, o, none⟩ = some (.int .u8 (y0 : Int))) :
    Calls Tryd.prog 46 #[.slice (some ⟨g, o, none⟩) 1 c] w fun e w' => e = .returned (.int .u64 ((0 + y0 * 72057594037927936 : Nat) : Int)) ∧ w' = w := by
  have r0 : bits .or .u64 0 ((y0 : Int) * 72057594037927936) = ((0 + y0 * 72057594037927936 : Nat) : Int) := or00 y0 72057594037927936 56 (by decide) h0 (by decide)
  generalize 0 + y0 * 72057594037927936 = A0 at *
  go_enter Tryd.func46, Tryd.ntmps46
  go_wp2
  go_ret
  exact ⟨rfl, rfl⟩

set_option maxHeartbeats 1600000 in
theorem eightw2 (g o c : Nat) (y0 y1 : Nat) (w : World) (h0 : y0 < 256) (h1 : y1 < 256) (c0 : w.cell? ⟨g, o, none⟩ = some (.int .u8 (y0 : Int))) (c1 : w.cell? ⟨g, o + 1, none⟩ = some (.int .u8 (y1 : Int))) :
    Calls Tryd.prog 46 #[.slice (some ⟨g, o, none⟩) 2 c] w fun e w' => e = .returned (.int .u64 ((0 + y1 * 281474976710656 + y0 * 72057594037927936 : Nat) : Int)) ∧ w' = w := by
  have r1 : bits .or .u64 0 ((y1 : Int) * 281474976710656) = ((0 + y1 * 281474976710656 : Nat) : Int) := or00 y1 281474976710656 48 (by decide) h1 (by decide)
  have r0 : bits .or .u64 ((0 + y1 * 281474976710656 : Nat) : Int) ((y0 : Int) * 72057594037927936) = ((0 + y1 * 281474976710656 + y0 * 72057594037927936 : Nat) : Int) := orS (0 + y1 * 281474976710656) y0 72057594037927936 56 (by decide) (by omega) h0 (by decide)
  generalize 0 + y1 * 281474976710656 + y0 * 72057594037927936 = A1 at *
  generalize 0 + y1 * 281474976710656 = A0 at *
  go_enter Tryd.func46, Tryd.ntmps46
  go_wp2
  go_ret
  exact ⟨rfl, rfl⟩

set_option maxHeartbeats 1600000 in
theorem eightw3 (g o c : Nat) (y0 y1 y2 : Nat) (w : World) (h0 : y0 < 256) (h1 : y1 < 256) (h2 : y2 < 256) (c0 : w.cell? ⟨g, o, none⟩ = some (.int .u8 (y0 : Int))) (c1 : w.cell? ⟨g, o + 1, none⟩ = some (.int .u8 (y1 : Int))) (c2 : w.cell? ⟨g, o + 2, none⟩ = some (.int .u8 (y2 : Int))) :
    Calls Tryd.prog 46 #[.slice (some ⟨g, o, none⟩) 3 c] w fun e w' => e = .returned (.int .u64 ((0 + y2 * 1099511627776 + y1 * 281474976710656 + y0 * 72057594037927936 : Nat) : Int)) ∧ w' = w := by
  have r2 : bits .or .u64 0 ((y2 : Int) * 1099511627776) = ((0 + y2 * 1099511627776 : Nat) : Int) := or00 y2 1099511627776 40 (by decide) h2 (by decide)
  have r1 : bits .or .u64 ((0 + y2 * 1099511627776 : Nat) : Int) ((y1 : Int) * 281474976710656) = ((0 + y2 * 1099511627776 + y1 * 281474976710656 : Nat) : Int) := orS (0 + y2 * 1099511627776) y1 281474976710656 48 (by decide) (by omega) h1 (by decide)
  have r0 : bits .or .u64 ((0 + y2 * 1099511627776 + y1 * 281474976710656 : Nat) : Int) ((y0 : Int) * 72057594037927936) = ((0 + y2 * 1099511627776 + y1 * 281474976710656 + y0 * 72057594037927936 : Nat) : Int) := orS (0 + y2 * 1099511627776 + y1 * 281474976710656) y0 72057594037927936 56 (by decide) (by omega) h0 (by decide)
  generalize 0 + y2 * 1099511627776 + y1 * 281474976710656 + y0 * 72057594037927936 = A2 at *
  generalize 0 + y2 * 1099511627776 + y1 * 281474976710656 = A1 at *
  generalize 0 + y2 * 1099511627776 = A0 at *
  go_enter Tryd.func46, Tryd.ntmps46
  go_wp2
  go_ret
  exact ⟨rfl, rfl⟩

set_option maxHeartbeats 1600000 in
theorem eightw4 (g o c : Nat) (y0 y1 y2 y3 : Nat) (w : World) (h0 : y0 < 256) (h1 : y1 < 256) (h2 : y2 < 256) (h3 : y3 < 256) (c0 : w.cell? ⟨g, o, none⟩ = some (.int .u8 (y0 : Int))) (c1 : w.cell? ⟨g, o + 1, none⟩ = some (.int .u8 (y1 : Int))) (c2 : w.cell? ⟨g, o + 2, none⟩ = some (.int .u8 (y2 : Int))) (c3 : w.cell? ⟨g, o + 3, none⟩ = some (.int .u8 (y3 : Int))) :
    Calls Tryd.prog 46 #[.slice (some ⟨g, o, none⟩) 4 c] w fun e w' => e = .returned (.int .u64 ((0 + y3 * 4294967296 + y2 * 1099511627776 + y1 * 281474976710656 + y0 * 72057594037927936 : Nat) : Int)) ∧ w' = w := by
  have r3 : bits .or .u64 0 ((y3 : Int) * 4294967296) = ((0 + y3 * 4294967296 : Nat) : Int) := or00 y3 4294967296 32 (by decide) h3 (by decide)
  have r2 : bits .or .u64 ((0 + y3 * 4294967296 : Nat) : Int) ((y2 : Int) * 1099511627776) = ((0 + y3 * 4294967296 + y2 * 1099511627776 : Nat) : Int) := orS (0 + y3 * 4294967296) y2 1099511627776 40 (by decide) (by omega) h2 (by decide)
  have r1 : bits .or .u64 ((0 + y3 * 4294967296 + y2 * 1099511627776 : Nat) : Int) ((y1 : Int) * 281474976710656) = ((0 + y3 * 4294967296 + y2 * 1099511627776 + y1 * 281474976710656 : Nat) : Int) := orS (0 + y3 * 4294967296 + y2 * 1099511627776) y1 281474976710656 48 (by decide) (by omega) h1 (by decide)
  have r0 : bits .or .u64 ((0 + y3 * 4294967296 + y2 * 1099511627776 + y1 * 281474976710656 : Nat) : Int) ((y0 : Int) * 72057594037927936) = ((0 + y3 * 4294967296 + y2 * 1099511627776 + y1 * 281474976710656 + y0 * 72057594037927936 : Nat) : Int) := orS (0 + y3 * 4294967296 + y2 * 1099511627776 + y1 * 281474976710656) y0 72057594037927936 56 (by decide) (by omega) h0 (by decide)
  generalize 0 + y3 * 4294967296 + y2 * 1099511627776 + y1 * 281474976710656 + y0 * 72057594037927936 = A3 at *
  generalize 0 + y3 * 4294967296 + y2 * 1099511627776 + y1 * 281474976710656 = A2 at *
  generalize 0 + y3 * 4294967296 + y2 * 1099511627776 = A1 at *
  generalize 0 + y3 * 4294967296 = A0 at *
  go_enter Tryd.func46, Tryd.ntmps46
  go_wp2
  go_ret
  exact ⟨rfl, rfl⟩

set_option maxHeartbeats 1600000 in
theorem eightw5 (g o c : Nat) (y0 y1 y2 y3 y4 : Nat) (w : World) (h0 : y0 < 256) (h1 : y1 < 256) (h2 : y2 < 256) (h3 : y3 < 256) (h4 : y4 < 256) (c0 : w.cell? ⟨g, o, none⟩ = some (.int .u8 (y0 : Int))) (c1 : w.cell? ⟨g, o + 1, none⟩ = some (.int .u8 (y1 : Int))) (c2 : w.cell? ⟨g, o + 2, none⟩ = some (.int .u8 (y2 : Int))) (c3 : w.cell? ⟨g, o + 3, none⟩ = some (.int .u8 (y3 : Int))) (c4 : w.cell? ⟨g, o + 4, none⟩ = some (.int .u8 (y4 : Int))) :
    Calls Tryd.prog 46 #[.slice (some ⟨g, o, none⟩) 5 c] w fun e w' => e = .returned (.int .u64 ((0 + y4 * 16777216 + y3 * 4294967296 + y2 * 1099511627776 + y1 * 281474976710656 + y0 * 72057594037927936 : Nat) : Int)) ∧ w' = w := by
  have r4 : bits .or .u64 0 ((y4 : Int) * 16777216) = ((0 + y4 * 16777216 : Nat) : Int) := or00 y4 16777216 24 (by decide) h4 (by decide)
  have r3 : bits .or .u64 ((0 + y4 * 16777216 : Nat) : Int) ((y3 : Int) * 4294967296) = ((0 + y4 * 16777216 + y3 * 4294967296 : Nat) : Int) := orS (0 + y4 * 16777216) y3 4294967296 32 (by decide) (by omega) h3 (by decide)
  have r2 : bits .or .u64 ((0 + y4 * 16777216 + y3 * 4294967296 : Nat) : Int) ((y2 : Int) * 1099511627776) = ((0 + y4 * 16777216 + y3 * 4294967296 + y2 * 1099511627776 : Nat) : Int) := orS (0 + y4 * 16777216 + y3 * 4294967296) y2 1099511627776 40 (by decide) (by omega) h2 (by decide)
  have r1 : bits .or .u64 ((0 + y4 * 16777216 + y3 * 4294967296 + y2 * 1099511627776 : Nat) : Int) ((y1 : Int) * 281474976710656) = ((0 + y4 * 16777216 + y3 * 4294967296 + y2 * 1099511627776 + y1 * 281474976710656 : Nat) : Int) := orS (0 + y4 * 16777216 + y3 * 4294967296 + y2 * 1099511627776) y1 281474976710656 48 (by decide) (by omega) h1 (by decide)
  have r0 : bits .or .u64 ((0 + y4 * 16777216 + y3 * 4294967296 + y2 * 1099511627776 + y1 * 281474976710656 : Nat) : Int) ((y0 : Int) * 72057594037927936) = ((0 + y4 * 16777216 + y3 * 4294967296 + y2 * 1099511627776 + y1 * 281474976710656 + y0 * 72057594037927936 : Nat) : Int) := orS (0 + y4 * 16777216 + y3 * 4294967296 + y2 * 1099511627776 + y1 * 281474976710656) y0 72057594037927936 56 (by decide) (by omega) h0 (by decide)
  generalize 0 + y4 * 16777216 + y3 * 4294967296 + y2 * 1099511627776 + y1 * 281474976710656 + y0 * 72057594037927936 = A4 at *
  generalize 0 + y4 * 16777216 + y3 * 4294967296 + y2 * 1099511627776 + y1 * 281474976710656 = A3 at *
  generalize 0 + y4 * 16777216 + y3 * 4294967296 + y2 * 1099511627776 = A2 at *
  generalize 0 + y4 * 16777216 + y3 * 4294967296 = A1 at *
  generalize 0 + y4 * 16777216 = A0 at *
  go_enter Tryd.func46, Tryd.ntmps46
  go_wp2
  go_ret
  exact ⟨rfl, rfl⟩

set_option maxHeartbeats 1600000 in
theorem eightw6 (g o c : Nat) (y0 y1 y2 y3 y4 y5 : Nat) (w : World) (h0 : y0 < 256) (h1 : y1 < 256) (h2 : y2 < 256) (h3 : y3 < 256) (h4 : y4 < 256) (h5 : y5 < 256) (c0 : w.cell? ⟨g, o, none⟩ = some (.int .u8 (y0 : Int))) (c1 : w.cell? ⟨g, o + 1, none⟩ = some (.int .u8 (y1 : Int))) (c2 : w.cell? ⟨g, o + 2, none⟩ = some (.int .u8 (y2 : Int))) (c3 : w.cell? ⟨g, o + 3, none⟩ = some (.int .u8 (y3 : Int))) (c4 : w.cell? ⟨g, o + 4, none⟩ = some (.int .u8 (y4 : Int))) (c5 : w.cell? ⟨g, o + 5, none⟩ = some (.int .u8 (y5 : Int))) :
    Calls Tryd.prog 46 #[.slice (some ⟨g, o, none⟩) 6 c] w fun e w' => e = .returned (.int .u64 ((0 + y5 * 65536 + y4 * 16777216 + y3 * 4294967296 + y2 * 1099511627776 + y1 * 281474976710656 + y0 * 72057594037927936 : Nat) : Int)) ∧ w' = w := by
  have r5 : bits .or .u64 0 ((y5 : Int) * 65536) = ((0 + y5 * 65536 : Nat) : Int) := or00 y5 65536 16 (by decide) h5 (by decide)
  have r4 : bits .or .u64 ((0 + y5 * 65536 : Nat) : Int) ((y4 : Int) * 16777216) = ((0 + y5 * 65536 + y4 * 16777216 : Nat) : Int) := orS (0 + y5 * 65536) y4 16777216 24 (by decide) (by omega) h4 (by decide)
  have r3 : bits .or .u64 ((0 + y5 * 65536 + y4 * 16777216 : Nat) : Int) ((y3 : Int) * 4294967296) = ((0 + y5 * 65536 + y4 * 16777216 + y3 * 4294967296 : Nat) : Int) := orS (0 + y5 * 65536 + y4 * 16777216) y3 4294967296 32 (by decide) (by omega) h3 (by decide)
  have r2 : bits .or .u64 ((0 + y5 * 65536 + y4 * 16777216 + y3 * 4294967296 : Nat) : Int) ((y2 : Int) * 1099511627776) = ((0 + y5 * 65536 + y4 * 16777216 + y3 * 4294967296 + y2 * 1099511627776 : Nat) : Int) := orS (0 + y5 * 65536 + y4 * 16777216 + y3 * 4294967296) y2 1099511627776 40 (by decide) (by omega) h2 (by decide)
  have r1 : bits .or .u64 ((0 + y5 * 65536 + y4 * 16777216 + y3 * 4294967296 + y2 * 1099511627776 : Nat) : Int) ((y1 : Int) * 281474976710656) = ((0 + y5 * 65536 + y4 * 16777216 + y3 * 4294967296 + y2 * 1099511627776 + y1 * 281474976710656 : Nat) : Int) := orS (0 + y5 * 65536 + y4 * 16777216 + y3 * 4294967296 + y2 * 1099511627776) y1 281474976710656 48 (by decide) (by omega) h1 (by decide)
  have r0 : bits .or .u64 ((0 + y5 * 65536 + y4 * 16777216 + y3 * 4294967296 + y2 * 1099511627776 + y1 * 281474976710656 : Nat) : Int) ((y0 : Int) * 72057594037927936) = ((0 + y5 * 65536 + y4 * 16777216 + y3 * 4294967296 + y2 * 1099511627776 + y1 * 281474976710656 + y0 * 72057594037927936 : Nat) : Int) := orS (0 + y5 * 65536 + y4 * 16777216 + y3 * 4294967296 + y2 * 1099511627776 + y1 * 281474976710656) y0 72057594037927936 56 (by decide) (by omega) h0 (by decide)
  generalize 0 + y5 * 65536 + y4 * 16777216 + y3 * 4294967296 + y2 * 1099511627776 + y1 * 281474976710656 + y0 * 72057594037927936 = A5 at *
  generalize 0 + y5 * 65536 + y4 * 16777216 + y3 * 4294967296 + y2 * 1099511627776 + y1 * 281474976710656 = A4 at *
  generalize 0 + y5 * 65536 + y4 * 16777216 + y3 * 4294967296 + y2 * 1099511627776 = A3 at *
  generalize 0 + y5 * 65536 + y4 * 16777216 + y3 * 4294967296 = A2 at *
  generalize 0 + y5 * 65536 + y4 * 16777216 = A1 at *
  generalize 0 + y5 * 65536 = A0 at *
  go_enter Tryd.func46, Tryd.ntmps46
  go_wp2
  go_ret
  exact ⟨rfl, rfl⟩

set_option maxHeartbeats 1600000 in
theorem eightw7 (g o c : Nat) (y0 y1 y2 y3 y4 y5 y6 : Nat) (w : World) (h0 : y0 < 256) (h1 : y1 < 256) (h2 : y2 < 256) (h3 : y3 < 256) (h4 : y4 < 256) (h5 : y5 < 256) (h6 : y6 < 256) (c0 : w.cell? ⟨g, o, none⟩ = some (.int .u8 (y0 : Int))) (c1 : w.cell? ⟨g, o + 1, none⟩ = some (.int .u8 (y1 : Int))) (c2 : w.cell? ⟨g, o + 2, none⟩ = some (.int .u8 (y2 : Int))) (c3 : w.cell? ⟨g, o + 3, none⟩ = some (.int .u8 (y3 : Int))) (c4 : w.cell? ⟨g, o + 4, none⟩ = some (.int .u8 (y4 : Int))) (c5 : w.cell? ⟨g, o + 5, none⟩ = some (.int .u8 (y5 : Int))) (c6 : w.cell? ⟨g, o + 6, none⟩ = some (.int .u8 (y6 : Int))) :
    Calls Tryd.prog 46 #[.slice (some ⟨g, o, none⟩) 7 c] w fun e w' => e = .returned (.int .u64 ((0 + y6 * 256 + y5 * 65536 + y4 * 16777216 + y3 * 4294967296 + y2 * 1099511627776 + y1 * 281474976710656 + y0 * 72057594037927936 : Nat) : Int)) ∧ w' = w := by
  have r6 : bits .or .u64 0 ((y6 : Int) * 256) = ((0 + y6 * 256 : Nat) : Int) := or00 y6 256 8 (by decide) h6 (by decide)
  have r5 : bits .or .u64 ((0 + y6 * 256 : Nat) : Int) ((y5 : Int) * 65536) = ((0 + y6 * 256 + y5 * 65536 : Nat) : Int) := orS (0 + y6 * 256) y5 65536 16 (by decide) (by omega) h5 (by decide)
  have r4 : bits .or .u64 ((0 + y6 * 256 + y5 * 65536 : Nat) : Int) ((y4 : Int) * 16777216) = ((0 + y6 * 256 + y5 * 65536 + y4 * 16777216 : Nat) : Int) := orS (0 + y6 * 256 + y5 * 65536) y4 16777216 24 (by decide) (by omega) h4 (by decide)
  have r3 : bits .or .u64 ((0 + y6 * 256 + y5 * 65536 + y4 * 16777216 : Nat) : Int) ((y3 : Int) * 4294967296) = ((0 + y6 * 256 + y5 * 65536 + y4 * 16777216 + y3 * 4294967296 : Nat) : Int) := orS (0 + y6 * 256 + y5 * 65536 + y4 * 16777216) y3 4294967296 32 (by decide) (by omega) h3 (by decide)
  have r2 : bits .or .u64 ((0 + y6 * 256 + y5 * 65536 + y4 * 16777216 + y3 * 4294967296 : Nat) : Int) ((y2 : Int) * 1099511627776) = ((0 + y6 * 256 + y5 * 65536 + y4 * 16777216 + y3 * 4294967296 + y2 * 1099511627776 : Nat) : Int) := orS (0 + y6 * 256 + y5 * 65536 + y4 * 16777216 + y3 * 4294967296) y2 1099511627776 40 (by decide) (by omega) h2 (by decide)
  have r1 : bits .or .u64 ((0 + y6 * 256 + y5 * 65536 + y4 * 16777216 + y3 * 4294967296 + y2 * 1099511627776 : Nat) : Int) ((y1 : Int) * 281474976710656) = ((0 + y6 * 256 + y5 * 65536 + y4 * 16777216 + y3 * 4294967296 + y2 * 1099511627776 + y1 * 281474976710656 : Nat) : Int) := orS (0 + y6 * 256 + y5 * 65536 + y4 * 16777216 + y3 * 4294967296 + y2 * 1099511627776) y1 281474976710656 48 (by decide) (by omega) h1 (by decide)
  have r0 : bits .or .u64 ((0 + y6 * 256 + y5 * 65536 + y4 * 16777216 + y3 * 4294967296 + y2 * 1099511627776 + y1 * 281474976710656 : Nat) : Int) ((y0 : Int) * 72057594037927936) = ((0 + y6 * 256 + y5 * 65536 + y4 * 16777216 + y3 * 4294967296 + y2 * 1099511627776 + y1 * 281474976710656 + y0 * 72057594037927936 : Nat) : Int) := orS (0 + y6 * 256 + y5 * 65536 + y4 * 16777216 + y3 * 4294967296 + y2 * 1099511627776 + y1 * 281474976710656) y0 72057594037927936 56 (by decide) (by omega) h0 (by decide)
  generalize 0 + y6 * 256 + y5 * 65536 + y4 * 16777216 + y3 * 4294967296 + y2 * 1099511627776 + y1 * 281474976710656 + y0 * 72057594037927936 = A6 at *
  generalize 0 + y6 * 256 + y5 * 65536 + y4 * 16777216 + y3 * 4294967296 + y2 * 1099511627776 + y1 * 281474976710656 = A5 at *
  generalize 0 + y6 * 256 + y5 * 65536 + y4 * 16777216 + y3 * 4294967296 + y2 * 1099511627776 = A4 at *
  generalize 0 + y6 * 256 + y5 * 65536 + y4 * 16777216 + y3 * 4294967296 = A3 at *
  generalize 0 + y6 * 256 + y5 * 65536 + y4 * 16777216 = A2 at *
  generalize 0 + y6 * 256 + y5 * 65536 = A1 at *
  generalize 0 + y6 * 256 = A0 at *
  go_enter Tryd.func46, Tryd.ntmps46
  go_wp2
  go_ret
  exact ⟨rfl, rfl⟩

set_option maxHeartbeats 1600000 in
theorem eightw8 (g o c : Nat) (y0 y1 y2 y3 y4 y5 y6 y7 : Nat) (w : World) (h0 : y0 < 256) (h1 : y1 < 256) (h2 : y2 < 256) (h3 : y3 < 256) (h4 : y4 < 256) (h5 : y5 < 256) (h6 : y6 < 256) (h7 : y7 < 256) (c0 : w.cell? ⟨g, o, none⟩ = some (.int .u8 (y0 : Int))) (c1 : w.cell? ⟨g, o + 1, none⟩ = some (.int .u8 (y1 : Int))) (c2 : w.cell? ⟨g, o + 2, none⟩ = some (.int .u8 (y2 : Int))) (c3 : w.cell? ⟨g, o + 3, none⟩ = some (.int .u8 (y3 : Int))) (c4 : w.cell? ⟨g, o + 4, none⟩ = some (.int .u8 (y4 : Int))) (c5 : w.cell? ⟨g, o + 5, none⟩ = some (.int .u8 (y5 : Int))) (c6 : w.cell? ⟨g, o + 6, none⟩ = some (.int .u8 (y6 : Int))) (c7 : w.cell? ⟨g, o + 7, none⟩ = some (.int .u8 (y7 : Int))) :
    Calls Tryd.prog 46 #[.slice (some ⟨g, o, none⟩) 8 c] w fun e w' => e = .returned (.int .u64 ((y7 + y6 * 256 + y5 * 65536 + y4 * 16777216 + y3 * 4294967296 + y2 * 1099511627776 + y1 * 281474976710656 + y0 * 72057594037927936 : Nat) : Int)) ∧ w' = w := by
  have r6 : bits .or .u64 ((y7 : Nat) : Int) ((y6 : Int) * 256) = ((y7 + y6 * 256 : Nat) : Int) := orS (y7) y6 256 8 (by decide) (by omega) h6 (by decide)
  have r5 : bits .or .u64 ((y7 + y6 * 256 : Nat) : Int) ((y5 : Int) * 65536) = ((y7 + y6 * 256 + y5 * 65536 : Nat) : Int) := orS (y7 + y6 * 256) y5 65536 16 (by decide) (by omega) h5 (by decide)
  have r4 : bits .or .u64 ((y7 + y6 * 256 + y5 * 65536 : Nat) : Int) ((y4 : Int) * 16777216) = ((y7 + y6 * 256 + y5 * 65536 + y4 * 16777216 : Nat) : Int) := orS (y7 + y6 * 256 + y5 * 65536) y4 16777216 24 (by decide) (by omega) h4 (by decide)
  have r3 : bits .or .u64 ((y7 + y6 * 256 + y5 * 65536 + y4 * 16777216 : Nat) : Int) ((y3 : Int) * 4294967296) = ((y7 + y6 * 256 + y5 * 65536 + y4 * 16777216 + y3 * 4294967296 : Nat) : Int) := orS (y7 + y6 * 256 + y5 * 65536 + y4 * 16777216) y3 4294967296 32 (by decide) (by omega) h3 (by decide)
  have r2 : bits .or .u64 ((y7 + y6 * 256 + y5 * 65536 + y4 * 16777216 + y3 * 4294967296 : Nat) : Int) ((y2 : Int) * 1099511627776) = ((y7 + y6 * 256 + y5 * 65536 + y4 * 16777216 + y3 * 4294967296 + y2 * 1099511627776 : Nat) : Int) := orS (y7 + y6 * 256 + y5 * 65536 + y4 * 16777216 + y3 * 4294967296) y2 1099511627776 40 (by decide) (by omega) h2 (by decide)
  have r1 : bits .or .u64 ((y7 + y6 * 256 + y5 * 65536 + y4 * 16777216 + y3 * 4294967296 + y2 * 1099511627776 : Nat) : Int) ((y1 : Int) * 281474976710656) = ((y7 + y6 * 256 + y5 * 65536 + y4 * 16777216 + y3 * 4294967296 + y2 * 1099511627776 + y1 * 281474976710656 : Nat) : Int) := orS (y7 + y6 * 256 + y5 * 65536 + y4 * 16777216 + y3 * 4294967296 + y2 * 1099511627776) y1 281474976710656 48 (by decide) (by omega) h1 (by decide)
  have r0 : bits .or .u64 ((y7 + y6 * 256 + y5 * 65536 + y4 * 16777216 + y3 * 4294967296 + y2 * 1099511627776 + y1 * 281474976710656 : Nat) : Int) ((y0 : Int) * 72057594037927936) = ((y7 + y6 * 256 + y5 * 65536 + y4 * 16777216 + y3 * 4294967296 + y2 * 1099511627776 + y1 * 281474976710656 + y0 * 72057594037927936 : Nat) : Int) := orS (y7 + y6 * 256 + y5 * 65536 + y4 * 16777216 + y3 * 4294967296 + y2 * 1099511627776 + y1 * 281474976710656) y0 72057594037927936 56 (by decide) (by omega) h0 (by decide)
  generalize y7 + y6 * 256 + y5 * 65536 + y4 * 16777216 + y3 * 4294967296 + y2 * 1099511627776 + y1 * 281474976710656 + y0 * 72057594037927936 = A6 at *
  generalize y7 + y6 * 256 + y5 * 65536 + y4 * 16777216 + y3 * 4294967296 + y2 * 1099511627776 + y1 * 281474976710656 = A5 at *
  generalize y7 + y6 * 256 + y5 * 65536 + y4 * 16777216 + y3 * 4294967296 + y2 * 1099511627776 = A4 at *
  generalize y7 + y6 * 256 + y5 * 65536 + y4 * 16777216 + y3 * 4294967296 = A3 at *
  generalize y7 + y6 * 256 + y5 * 65536 + y4 * 16777216 = A2 at *
  generalize y7 + y6 * 256 + y5 * 65536 = A1 at *
  generalize y7 + y6 * 256 = A0 at *
  go_enter Tryd.func46, Tryd.ntmps46
  go_wp2
  go_ret
  exact ⟨rfl, rfl⟩

set_option maxHeartbeats 1600000 in
theorem eightw9 (g o c : Nat) (y0 y1 y2 y3 y4 y5 y6 y7 : Nat) (m : Nat) (hm : 8 < m) (w : World) (h0 : y0 < 256) (h1 : y1 < 256) (h2 : y2 < 256) (h3 : y3 < 256) (h4 : y4 < 256) (h5 : y5 < 256) (h6 : y6 < 256) (h7 : y7 < 256) (c0 : w.cell? ⟨g, o, none⟩ = some (.int .u8 (y0 : Int))) (c1 : w.cell? ⟨g, o + 1, none⟩ = some (.int .u8 (y1 : Int))) (c2 : w.cell? ⟨g, o + 2, none⟩ = some (.int .u8 (y2 : Int))) (c3 : w.cell? ⟨g, o + 3, none⟩ = some (.int .u8 (y3 : Int))) (c4 : w.cell? ⟨g, o + 4, none⟩ = some (.int .u8 (y4 : Int))) (c5 : w.cell? ⟨g, o + 5, none⟩ = some (.int .u8 (y5 : Int))) (c6 : w.cell? ⟨g, o + 6, none⟩ = some (.int .u8 (y6 : Int))) (c7 : w.cell? ⟨g, o + 7, none⟩ = some (.int .u8 (y7 : Int))) :
    Calls Tryd.prog 46 #[.slice (some ⟨g, o, none⟩) m c] w fun e w' => e = .returned (.int .u64 ((y7 + y6 * 256 + y5 * 65536 + y4 * 16777216 + y3 * 4294967296 + y2 * 1099511627776 + y1 * 281474976710656 + y0 * 72057594037927936 : Nat) : Int)) ∧ w' = w := by
  have r6 : bits .or .u64 ((y7 : Nat) : Int) ((y6 : Int) * 256) = ((y7 + y6 * 256 : Nat) : Int) := orS (y7) y6 256 8 (by decide) (by omega) h6 (by decide)
  have r5 : bits .or .u64 ((y7 + y6 * 256 : Nat) : Int) ((y5 : Int) * 65536) = ((y7 + y6 * 256 + y5 * 65536 : Nat) : Int) := orS (y7 + y6 * 256) y5 65536 16 (by decide) (by omega) h5 (by decide)
  have r4 : bits .or .u64 ((y7 + y6 * 256 + y5 * 65536 : Nat) : Int) ((y4 : Int) * 16777216) = ((y7 + y6 * 256 + y5 * 65536 + y4 * 16777216 : Nat) : Int) := orS (y7 + y6 * 256 + y5 * 65536) y4 16777216 24 (by decide) (by omega) h4 (by decide)
  have r3 : bits .or .u64 ((y7 + y6 * 256 + y5 * 65536 + y4 * 16777216 : Nat) : Int) ((y3 : Int) * 4294967296) = ((y7 + y6 * 256 + y5 * 65536 + y4 * 16777216 + y3 * 4294967296 : Nat) : Int) := orS (y7 + y6 * 256 + y5 * 65536 + y4 * 16777216) y3 4294967296 32 (by decide) (by omega) h3 (by decide)
  have r2 : bits .or .u64 ((y7 + y6 * 256 + y5 * 65536 + y4 * 16777216 + y3 * 4294967296 : Nat) : Int) ((y2 : Int) * 1099511627776) = ((y7 + y6 * 256 + y5 * 65536 + y4 * 16777216 + y3 * 4294967296 + y2 * 1099511627776 : Nat) : Int) := orS (y7 + y6 * 256 + y5 * 65536 + y4 * 16777216 + y3 * 4294967296) y2 1099511627776 40 (by decide) (by omega) h2 (by decide)
  have r1 : bits .or .u64 ((y7 + y6 * 256 + y5 * 65536 + y4 * 16777216 + y3 * 4294967296 + y2 * 1099511627776 : Nat) : Int) ((y1 : Int) * 281474976710656) = ((y7 + y6 * 256 + y5 * 65536 + y4 * 16777216 + y3 * 4294967296 + y2 * 1099511627776 + y1 * 281474976710656 : Nat) : Int) := orS (y7 + y6 * 256 + y5 * 65536 + y4 * 16777216 + y3 * 4294967296 + y2 * 1099511627776) y1 281474976710656 48 (by decide) (by omega) h1 (by decide)
  have r0 : bits .or .u64 ((y7 + y6 * 256 + y5 * 65536 + y4 * 16777216 + y3 * 4294967296 + y2 * 1099511627776 + y1 * 281474976710656 : Nat) : Int) ((y0 : Int) * 72057594037927936) = ((y7 + y6 * 256 + y5 * 65536 + y4 * 16777216 + y3 * 4294967296 + y2 * 1099511627776 + y1 * 281474976710656 + y0 * 72057594037927936 : Nat) : Int) := orS (y7 + y6 * 256 + y5 * 65536 + y4 * 16777216 + y3 * 4294967296 + y2 * 1099511627776 + y1 * 281474976710656) y0 72057594037927936 56 (by decide) (by omega) h0 (by decide)
  generalize y7 + y6 * 256 + y5 * 65536 + y4 * 16777216 + y3 * 4294967296 + y2 * 1099511627776 + y1 * 281474976710656 + y0 * 72057594037927936 = A6 at *
  generalize y7 + y6 * 256 + y5 * 65536 + y4 * 16777216 + y3 * 4294967296 + y2 * 1099511627776 + y1 * 281474976710656 = A5 at *
  generalize y7 + y6 * 256 + y5 * 65536 + y4 * 16777216 + y3 * 4294967296 + y2 * 1099511627776 = A4 at *
  generalize y7 + y6 * 256 + y5 * 65536 + y4 * 16777216 + y3 * 4294967296 = A3 at *
  generalize y7 + y6 * 256 + y5 * 65536 + y4 * 16777216 = A2 at *
  generalize y7 + y6 * 256 + y5 * 65536 = A1 at *
  generalize y7 + y6 * 256 = A0 at *
  have hm2 : (8 : Int) < (m : Int) := by omega
  have hm3 : (0 : Int) < (m : Int) ∧ (1 : Int) < (m : Int) ∧ (2 : Int) < (m : Int) ∧ (3 : Int) < (m : Int) ∧ (4 : Int) < (m : Int) ∧ (5 : Int) < (m : Int) ∧ (6 : Int) < (m : Int) ∧ (7 : Int) < (m : Int) := by omega
  obtain ⟨k0, k1, k2, k3, k4, k5, k6, k7⟩ := hm3
  go_enter Tryd.func46, Tryd.ntmps46
  go_wp2
  go_ret
  exact ⟨rfl, rfl⟩
theorem eight_any (v : Value) (L : List UInt8) (w : World) (hv : Rd w v L) :
    Calls Tryd.prog 46 #[v] w fun e w' => e = .returned (.int .u64 (I64 (BitVec.ofNat 64 (e8 (fun k => (L.getD k 0).toNat))))) ∧ w' = w := by
  obtain ⟨a, c, rfl, hlc, hcm, hra, hz⟩ := hv
  have hlt : ∀ j, (L.getD j 0).toNat < 256 := fun j => (L.getD j 0).toNat_lt
  have hE := e8_lt (fun k => (L.getD k 0).toNat) hlt
  rw [← u64_lit hE]
  have h0 : ∀ j, L.length ≤ j → (L.getD j 0).toNat = 0 := fun j hj => by simp only [List.getD]; rw [List.getElem?_eq_none hj]; rfl
  by_cases hl : L.length = 0
  · rw [hl]
    have e : e8 (fun k => (L.getD k 0).toNat) = 0 := by unfold e8; simp only [h0 0 (by omega), h0 1 (by omega), h0 2 (by omega), h0 3 (by omega), h0 4 (by omega), h0 5 (by omega), h0 6 (by omega), h0 7 (by omega)]
    rw [e]
    exact eight0 a c w
  · obtain ⟨g, o, rfl, hc0⟩ := hra 0 (by omega)
    have hc : ∀ j, j < L.length → w.cell? ⟨g, o + j, none⟩ = some (.int .u8 ((L.getD j 0).toNat : Int)) := fun j hj => by
      obtain ⟨g', o', he, hcj⟩ := hra j hj
      cases he
      exact hcj
    rw [Nat.add_zero] at hc0
    by_cases h9 : 8 < L.length
    · have := eightw9 g o c _ _ _ _ _ _ _ _ L.length h9 w (hlt 0) (hlt 1) (hlt 2) (hlt 3) (hlt 4) (hlt 5) (hlt 6) (hlt 7) hc0 (hc 1 (by omega)) (hc 2 (by omega)) (hc 3 (by omega)) (hc 4 (by omega)) (hc 5 (by omega)) (hc 6 (by omega)) (hc 7 (by omega))
      exact this
    · by_cases h8_ : L.length = 8
      · rw [h8_]
        exact eightw8 g o c _ _ _ _ _ _ _ _ w (hlt 0) (hlt 1) (hlt 2) (hlt 3) (hlt 4) (hlt 5) (hlt 6) (hlt 7) hc0 (hc 1 (by omega)) (hc 2 (by omega)) (hc 3 (by omega)) (hc 4 (by omega)) (hc 5 (by omega)) (hc 6 (by omega)) (hc 7 (by omega))
      · by_cases h7_ : L.length = 7
        · rw [h7_]
          have e : e8 (fun k => (L.getD k 0).toNat) = 0 + (L.getD 6 0).toNat * 256 + (L.getD 5 0).toNat * 65536 + (L.getD 4 0).toNat * 16777216 + (L.getD 3 0).toNat * 4294967296 + (L.getD 2 0).toNat * 1099511627776 + (L.getD 1 0).toNat * 281474976710656 + (L.getD 0 0).toNat * 72057594037927936 := by unfold e8; simp only [h0 7 (by omega)]
          rw [e]
          exact eightw7 g o c _ _ _ _ _ _ _ w (hlt 0) (hlt 1) (hlt 2) (hlt 3) (hlt 4) (hlt 5) (hlt 6) hc0 (hc 1 (by omega)) (hc 2 (by omega)) (hc 3 (by omega)) (hc 4 (by omega)) (hc 5 (by omega)) (hc 6 (by omega))
        · by_cases h6_ : L.length = 6
          · rw [h6_]
            have e : e8 (fun k => (L.getD k 0).toNat) = 0 + (L.getD 5 0).toNat * 65536 + (L.getD 4 0).toNat * 16777216 + (L.getD 3 0).toNat * 4294967296 + (L.getD 2 0).toNat * 1099511627776 + (L.getD 1 0).toNat * 281474976710656 + (L.getD 0 0).toNat * 72057594037927936 := by unfold e8; simp only [h0 6 (by omega), h0 7 (by omega)]
            rw [e]
            exact eightw6 g o c _ _ _ _ _ _ w (hlt 0) (hlt 1) (hlt 2) (hlt 3) (hlt 4) (hlt 5) hc0 (hc 1 (by omega)) (hc 2 (by omega)) (hc 3 (by omega)) (hc 4 (by omega)) (hc 5 (by omega))
          · by_cases h5_ : L.length = 5
            · rw [h5_]
              have e : e8 (fun k => (L.getD k 0).toNat) = 0 + (L.getD 4 0).toNat * 16777216 + (L.getD 3 0).toNat * 4294967296 + (L.getD 2 0).toNat * 1099511627776 + (L.getD 1 0).toNat * 281474976710656 + (L.getD 0 0).toNat * 72057594037927936 := by unfold e8; simp only [h0 5 (by omega), h0 6 (by omega), h0 7 (by omega)]
              rw [e]
              exact eightw5 g o c _ _ _ _ _ w (hlt 0) (hlt 1) (hlt 2) (hlt 3) (hlt 4) hc0 (hc 1 (by omega)) (hc 2 (by omega)) (hc 3 (by omega)) (hc 4 (by omega))
            · by_cases h4_ : L.length = 4
              · rw [h4_]
                have e : e8 (fun k => (L.getD k 0).toNat) = 0 + (L.getD 3 0).toNat * 4294967296 + (L.getD 2 0).toNat * 1099511627776 + (L.getD 1 0).toNat * 281474976710656 + (L.getD 0 0).toNat * 72057594037927936 := by unfold e8; simp only [h0 4 (by omega), h0 5 (by omega), h0 6 (by omega), h0 7 (by omega)]
                rw [e]
                exact eightw4 g o c _ _ _ _ w (hlt 0) (hlt 1) (hlt 2) (hlt 3) hc0 (hc 1 (by omega)) (hc 2 (by omega)) (hc 3 (by omega))
              · by_cases h3_ : L.length = 3
                · rw [h3_]
                  have e : e8 (fun k => (L.getD k 0).toNat) = 0 + (L.getD 2 0).toNat * 1099511627776 + (L.getD 1 0).toNat * 281474976710656 + (L.getD 0 0).toNat * 72057594037927936 := by unfold e8; simp only [h0 3 (by omega), h0 4 (by omega), h0 5 (by omega), h0 6 (by omega), h0 7 (by omega)]
                  rw [e]
                  exact eightw3 g o c _ _ _ w (hlt 0) (hlt 1) (hlt 2) hc0 (hc 1 (by omega)) (hc 2 (by omega))
                · by_cases h2_ : L.length = 2
                  · rw [h2_]
                    have e : e8 (fun k => (L.getD k 0).toNat) = 0 + (L.getD 1 0).toNat * 281474976710656 + (L.getD 0 0).toNat * 72057594037927936 := by unfold e8; simp only [h0 2 (by omega), h0 3 (by omega), h0 4 (by omega), h0 5 (by omega), h0 6 (by omega), h0 7 (by omega)]
                    rw [e]
                    exact eightw2 g o c _ _ w (hlt 0) (hlt 1) hc0 (hc 1 (by omega))
                  · have h1_ : L.length = 1 := by omega
                    rw [h1_]
                    have e : e8 (fun k => (L.getD k 0).toNat) = 0 + (L.getD 0 0).toNat * 72057594037927936 := by unfold e8; simp only [h0 1 (by omega), h0 2 (by omega), h0 3 (by omega), h0 4 (by omega), h0 5 (by omega), h0 6 (by omega), h0 7 (by omega)]
                    rw [e]
                    exact eightw1 g o c _ w (hlt 0) hc0
end Go.Proofs.YtgbpnkamamafjabDoor
