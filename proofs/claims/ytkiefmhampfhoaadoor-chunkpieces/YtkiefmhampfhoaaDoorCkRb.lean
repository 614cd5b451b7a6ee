/-
  A reader of bits: what eight, look and Left come to: the walks.
-/
import Derived.Test.YtkiefmhampfhoaaDoorBitsE
import Derived.Test.YtkiefmhampfhoaaDoorCkPuts
import Derived.BigRegion
import Derived.Deep.QuietTactic
import Derived.BigQuiet
namespace Go.Proofs.YtkiefmhampfhoaaDoor
open Go.RowKit

/-- a reader at block g -/
def Rr (w : World) (g : Nat) (v : Value) (p s : Nat) : Prop := w.heap[g]? = some (.cells #[v, .int .i64 (p : Int), .int .i64 (s : Int)] 141 (0, 0))
theorem Rr.cells {w : World} {g : Nat} {v : Value} {p s : Nat} (h : Rr w g v p s) : w.cell? ⟨g, 0, none⟩ = some v ∧ w.cell? ⟨g, 1, none⟩ = some (.int .i64 (p : Int)) ∧ w.cell? ⟨g, 2, none⟩ = some (.int .i64 (s : Int)) ∧ w.frozen? ⟨g, 1, none⟩ = false ∧ g < w.heap.size := by
  unfold Rr at h
  refine ⟨?_, ?_, ?_, ?_, (Array.getElem?_eq_some_iff.1 h).1⟩
  · simp [World.cell?, h]
  · simp [World.cell?, h]
  · simp [World.cell?, h]
  · simp [World.frozen?, h]
theorem Rr.keep {w w' : World} {g : Nat} {v : Value} {p s : Nat} (h : Rr w g v p s) (hg : w.grownBy w' none) : Rr w' g v p s := by
  unfold Rr
  rw [hg.block g h.cells.2.2.2.2 (by simp)]
  exact h
theorem left_any (g : Nat) (v : Value) (p s : Nat) (w : World) (h : Rr w g v p s) (hp : p ≤ s) (hs : s ≤ 8388608) :
    Calls Tryd.prog 107 #[.pointer (some ⟨g, 0, none⟩)] w fun e w' => e = .returned (.int .i64 ((s - p : Nat) : Int)) ∧ w.grownBy w' none := by
  have hc := h.cells
  have c1 := hc.2.1
  have c2 := hc.2.2.1
  have hsub : Hid ((s : Int) - (p : Int) = ((s - p : Nat) : Int)) := by show (s : Int) - (p : Int) = ((s - p : Nat) : Int); omega
  clear hc h
  go_enter Tryd.func107, Tryd.ntmps107
  go_wp2
  go_region
  all_goals (try go_wp2)
  all_goals go_ret
  all_goals exact ⟨ret_int hsub.out, gb_drew _ _⟩
theorem orS (a y N s : Nat) (hN : N = 2 ^ s) (ha : a < 2 ^ s) (hy : y < 256) (hs : s ≤ 56) : bits .or .u64 (a : Int) ((y : Int) * (N : Int)) = ((a + y * N : Nat) : Int) := by
  subst hN
  have h1 : (2 : Nat) ^ s ≤ 2 ^ 56 := Nat.pow_le_pow_right (by decide) hs
  have e56 : (2 : Nat) ^ 56 = 72057594037927936 := by decide
  have hp : y * 2 ^ s ≤ 255 * 2 ^ s := Nat.mul_le_mul_right _ (by omega)
  have e : ((y : Int) * ((2 ^ s : Nat) : Int)) = ((y * 2 ^ s : Nat) : Int) := (Int.natCast_mul _ _).symm
  rw [e, u64_or_nat _ _ (by omega) (by omega)]
  congr 1
  rw [Nat.or_comm, Nat.mul_comm, ← Nat.two_pow_add_eq_or_of_lt ha, Nat.add_comm]
theorem or00 (y N s : Nat) (hN : N = 2 ^ s) (hy : y < 256) (hs : s ≤ 56) : bits .or .u64 0 ((y : Int) * (N : Int)) = ((0 + y * N : Nat) : Int) := orS 0 y N s hN (Nat.pow_pos (by decide)) hy hs
theorem u64_lit {n : Nat} (h : n < 18446744073709551616) : (n : Int) = I64 (BitVec.ofNat 64 n) := by
  unfold I64
  rw [BitVec.toNat_ofNat, Nat.mod_eq_of_lt h]
theorem eight0 (a : Option Addr) (c : Nat) (w : World) : Calls Tryd.prog 109 #[.slice a 0 c] w fun e w' => e = .returned (.int .u64 0) ∧ w' = w := by
  go_enter Tryd.func109, Tryd.ntmps109
  go_wp2
  go_ret
  exact ⟨rfl, rfl⟩
set_option maxHeartbeats 1600000 in
theorem eightw1 (g o c : Nat) (y0 : Nat) (w : World) (h0 : y0 < 256) (c0 : w.cell? ⟨g, o, none⟩ = some (.int .u8 (y0 : Int))) :
    Calls Tryd.prog 109 #[.slice (some ⟨g, o, none⟩) 1 c] w fun e w' => e = .returned (.int .u64 ((0 + y0 * 72057594037927936 : Nat) : Int)) ∧ w' = w := by
  have r0 : bits .or .u64 0 ((y0 : Int) * 72057594037927936) = ((0 + y0 * 72057594037927936 : Nat) : Int) := or00 y0 72057594037927936 56 (by decide) h0 (by decide)
  generalize 0 + y0 * 72057594037927936 = A0 at *
  go_enter Tryd.func109, Tryd.ntmps109
  go_wp2
  go_ret
  exact ⟨rfl, rfl⟩
set_option maxHeartbeats 1600000 in
theorem eightw2 (g o c : Nat) (y0 y1 : Nat) (w : World) (h0 : y0 < 256) (h1 : y1 < 256) (c0 : w.cell? ⟨g, o, none⟩ = some (.int .u8 (y0 : Int))) (c1 : w.cell? ⟨g, o + 1, none⟩ = some (.int .u8 (y1 : Int))) :
    Calls Tryd.prog 109 #[.slice (some ⟨g, o, none⟩) 2 c] w fun e w' => e = .returned (.int .u64 ((0 + y1 * 281474976710656 + y0 * 72057594037927936 : Nat) : Int)) ∧ w' = w := by
  have r1 : bits .or .u64 0 ((y1 : Int) * 281474976710656) = ((0 + y1 * 281474976710656 : Nat) : Int) := or00 y1 281474976710656 48 (by decide) h1 (by decide)
  have r0 : bits .or .u64 ((0 + y1 * 281474976710656 : Nat) : Int) ((y0 : Int) * 72057594037927936) = ((0 + y1 * 281474976710656 + y0 * 72057594037927936 : Nat) : Int) := orS (0 + y1 * 281474976710656) y0 72057594037927936 56 (by decide) (by omega) h0 (by decide)
  generalize 0 + y1 * 281474976710656 + y0 * 72057594037927936 = A1 at *
  generalize 0 + y1 * 281474976710656 = A0 at *
  go_enter Tryd.func109, Tryd.ntmps109
  go_wp2
  go_ret
  exact ⟨rfl, rfl⟩
set_option maxHeartbeats 1600000 in
theorem eightw3 (g o c : Nat) (y0 y1 y2 : Nat) (w : World) (h0 : y0 < 256) (h1 : y1 < 256) (h2 : y2 < 256) (c0 : w.cell? ⟨g, o, none⟩ = some (.int .u8 (y0 : Int))) (c1 : w.cell? ⟨g, o + 1, none⟩ = some (.int .u8 (y1 : Int))) (c2 : w.cell? ⟨g, o + 2, none⟩ = some (.int .u8 (y2 : Int))) :
    Calls Tryd.prog 109 #[.slice (some ⟨g, o, none⟩) 3 c] w fun e w' => e = .returned (.int .u64 ((0 + y2 * 1099511627776 + y1 * 281474976710656 + y0 * 72057594037927936 : Nat) : Int)) ∧ w' = w := by
  have r2 : bits .or .u64 0 ((y2 : Int) * 1099511627776) = ((0 + y2 * 1099511627776 : Nat) : Int) := or00 y2 1099511627776 40 (by decide) h2 (by decide)
  have r1 : bits .or .u64 ((0 + y2 * 1099511627776 : Nat) : Int) ((y1 : Int) * 281474976710656) = ((0 + y2 * 1099511627776 + y1 * 281474976710656 : Nat) : Int) := orS (0 + y2 * 1099511627776) y1 281474976710656 48 (by decide) (by omega) h1 (by decide)
  have r0 : bits .or .u64 ((0 + y2 * 1099511627776 + y1 * 281474976710656 : Nat) : Int) ((y0 : Int) * 72057594037927936) = ((0 + y2 * 1099511627776 + y1 * 281474976710656 + y0 * 72057594037927936 : Nat) : Int) := orS (0 + y2 * 1099511627776 + y1 * 281474976710656) y0 72057594037927936 56 (by decide) (by omega) h0 (by decide)
  generalize 0 + y2 * 1099511627776 + y1 * 281474976710656 + y0 * 72057594037927936 = A2 at *
  generalize 0 + y2 * 1099511627776 + y1 * 281474976710656 = A1 at *
  generalize 0 + y2 * 1099511627776 = A0 at *
  go_enter Tryd.func109, Tryd.ntmps109
  go_wp2
  go_ret
  exact ⟨rfl, rfl⟩
set_option maxHeartbeats 1600000 in
theorem eightw4 (g o c : Nat) (y0 y1 y2 y3 : Nat) (w : World) (h0 : y0 < 256) (h1 : y1 < 256) (h2 : y2 < 256) (h3 : y3 < 256) (c0 : w.cell? ⟨g, o, none⟩ = some (.int .u8 (y0 : Int))) (c1 : w.cell? ⟨g, o + 1, none⟩ = some (.int .u8 (y1 : Int))) (c2 : w.cell? ⟨g, o + 2, none⟩ = some (.int .u8 (y2 : Int))) (c3 : w.cell? ⟨g, o + 3, none⟩ = some (.int .u8 (y3 : Int))) :
    Calls Tryd.prog 109 #[.slice (some ⟨g, o, none⟩) 4 c] w fun e w' => e = .returned (.int .u64 ((0 + y3 * 4294967296 + y2 * 1099511627776 + y1 * 281474976710656 + y0 * 72057594037927936 : Nat) : Int)) ∧ w' = w := by
  have r3 : bits .or .u64 0 ((y3 : Int) * 4294967296) = ((0 + y3 * 4294967296 : Nat) : Int) := or00 y3 4294967296 32 (by decide) h3 (by decide)
  have r2 : bits .or .u64 ((0 + y3 * 4294967296 : Nat) : Int) ((y2 : Int) * 1099511627776) = ((0 + y3 * 4294967296 + y2 * 1099511627776 : Nat) : Int) := orS (0 + y3 * 4294967296) y2 1099511627776 40 (by decide) (by omega) h2 (by decide)
  have r1 : bits .or .u64 ((0 + y3 * 4294967296 + y2 * 1099511627776 : Nat) : Int) ((y1 : Int) * 281474976710656) = ((0 + y3 * 4294967296 + y2 * 1099511627776 + y1 * 281474976710656 : Nat) : Int) := orS (0 + y3 * 4294967296 + y2 * 1099511627776) y1 281474976710656 48 (by decide) (by omega) h1 (by decide)
  have r0 : bits .or .u64 ((0 + y3 * 4294967296 + y2 * 1099511627776 + y1 * 281474976710656 : Nat) : Int) ((y0 : Int) * 72057594037927936) = ((0 + y3 * 4294967296 + y2 * 1099511627776 + y1 * 281474976710656 + y0 * 72057594037927936 : Nat) : Int) := orS (0 + y3 * 4294967296 + y2 * 1099511627776 + y1 * 281474976710656) y0 72057594037927936 56 (by decide) (by omega) h0 (by decide)
  generalize 0 + y3 * 4294967296 + y2 * 1099511627776 + y1 * 281474976710656 + y0 * 72057594037927936 = A3 at *
  generalize 0 + y3 * 4294967296 + y2 * 1099511627776 + y1 * 281474976710656 = A2 at *
  generalize 0 + y3 * 4294967296 + y2 * 1099511627776 = A1 at *
  generalize 0 + y3 * 4294967296 = A0 at *
  go_enter Tryd.func109, Tryd.ntmps109
  go_wp2
  go_ret
  exact ⟨rfl, rfl⟩
set_option maxHeartbeats 1600000 in
theorem eightw5 (g o c : Nat) (y0 y1 y2 y3 y4 : Nat) (w : World) (h0 : y0 < 256) (h1 : y1 < 256) (h2 : y2 < 256) (h3 : y3 < 256) (h4 : y4 < 256) (c0 : w.cell? ⟨g, o, none⟩ = some (.int .u8 (y0 : Int))) (c1 : w.cell? ⟨g, o + 1, none⟩ = some (.int .u8 (y1 : Int))) (c2 : w.cell? ⟨g, o + 2, none⟩ = some (.int .u8 (y2 : Int))) (c3 : w.cell? ⟨g, o + 3, none⟩ = some (.int .u8 (y3 : Int))) (c4 : w.cell? ⟨g, o + 4, none⟩ = some (.int .u8 (y4 : Int))) :
    Calls Tryd.prog 109 #[.slice (some ⟨g, o, none⟩) 5 c] w fun e w' => e = .returned (.int .u64 ((0 + y4 * 16777216 + y3 * 4294967296 + y2 * 1099511627776 + y1 * 281474976710656 + y0 * 72057594037927936 : Nat) : Int)) ∧ w' = w := by
  have r4 : bits .or .u64 0 ((y4 : Int) * 16777216) = ((0 + y4 * 16777216 : Nat) : Int) := or00 y4 16777216 24 (by decide) h4 (by decide)
  have r3 : bits .or .u64 ((0 + y4 * 16777216 : Nat) : Int) ((y3 : Int) * 4294967296) = ((0 + y4 * 16777216 + y3 * 4294967296 : Nat) : Int) := orS (0 + y4 * 16777216) y3 4294967296 32 (by decide) (by omega) h3 (by decide)
  have r2 : bits .or .u64 ((0 + y4 * 16777216 + y3 * 4294967296 : Nat) : Int) ((y2 : Int) * 1099511627776) = ((0 + y4 * 16777216 + y3 * 4294967296 + y2 * 1099511627776 : Nat) : Int) := orS (0 + y4 * 16777216 + y3 * 4294967296) y2 1099511627776 40 (by decide) (by omega) h2 (by decide)
  have r1 : bits .or .u64 ((0 + y4 * 16777216 + y3 * 4294967296 + y2 * 1099511627776 : Nat) : Int) ((y1 : Int) * 281474976710656) = ((0 + y4 * 16777216 + y3 * 4294967296 + y2 * 1099511627776 + y1 * 281474976710656 : Nat) : Int) := orS (0 + y4 * 16777216 + y3 * 4294967296 + y2 * 1099511627776) y1 281474976710656 48 (by decide) (by omega) h1 (by decide)
  have r0 : bits .or .u64 ((0 + y4 * 16777216 + y3 * 4294967296 + y2 * 1099511627776 + y1 * 281474976710656 : Nat) : Int) ((y0 : Int) * 72057594037927936) = ((0 + y4 * 16777216 + y3 * 4294967296 + y2 * 1099511627776 + y1 * 281474976710656 + y0 * 72057594037927936 : Nat) : Int) := orS (0 + y4 * 16777216 + y3 * 4294967296 + y2 * 1099511627776 + y1 * 281474976710656) y0 72057594037927936 56 (by decide) (by omega) h0 (by decide)
  generalize 0 + y4 * 16777216 + y3 * 4294967296 + y2 * 1099511627776 + y1 * 281474976710656 + y0 * 72057594037927936 = A4 at *
  generalize 0 + y4 * 16777216 + y3 * 4294967296 + y2 * 1099511627776 + y1 * 281474976710656 = A3 at *
  generalize 0 + y4 * 16777216 + y3 * 4294967296 + y2 * 1099511627776 = A2 at *
  generalize 0 + y4 * 16777216 + y3 * 4294967296 = A1 at *
  generalize 0 + y4 * 16777216 = A0 at *
  go_enter Tryd.func109, Tryd.ntmps109
  go_wp2
  go_ret
  exact ⟨rfl, rfl⟩
set_option maxHeartbeats 1600000 in
theorem eightw6 (g o c : Nat) (y0 y1 y2 y3 y4 y5 : Nat) (w : World) (h0 : y0 < 256) (h1 : y1 < 256) (h2 : y2 < 256) (h3 : y3 < 256) (h4 : y4 < 256) (h5 : y5 < 256) (c0 : w.cell? ⟨g, o, none⟩ = some (.int .u8 (y0 : Int))) (c1 : w.cell? ⟨g, o + 1, none⟩ = some (.int .u8 (y1 : Int))) (c2 : w.cell? ⟨g, o + 2, none⟩ = some (.int .u8 (y2 : Int))) (c3 : w.cell? ⟨g, o + 3, none⟩ = some (.int .u8 (y3 : Int))) (c4 : w.cell? ⟨g, o + 4, none⟩ = some (.int .u8 (y4 : Int))) (c5 : w.cell? ⟨g, o + 5, none⟩ = some (.int .u8 (y5 : Int))) :
    Calls Tryd.prog 109 #[.slice (some ⟨g, o, none⟩) 6 c] w fun e w' => e = .returned (.int .u64 ((0 + y5 * 65536 + y4 * 16777216 + y3 * 4294967296 + y2 * 1099511627776 + y1 * 281474976710656 + y0 * 72057594037927936 : Nat) : Int)) ∧ w' = w := by
  have r5 : bits .or .u64 0 ((y5 : Int) * 65536) = ((0 + y5 * 65536 : Nat) : Int) := or00 y5 65536 16 (by decide) h5 (by decide)
  have r4 : bits .or .u64 ((0 + y5 * 65536 : Nat) : Int) ((y4 : Int) * 16777216) = ((0 + y5 * 65536 + y4 * 16777216 : Nat) : Int) := orS (0 + y5 * 65536) y4 16777216 24 (by decide) (by omega) h4 (by decide)
  have r3 : bits .or .u64 ((0 + y5 * 65536 + y4 * 16777216 : Nat) : Int) ((y3 : Int) * 4294967296) = ((0 + y5 * 65536 + y4 * 16777216 + y3 * 4294967296 : Nat) : Int) := orS (0 + y5 * 65536 + y4 * 16777216) y3 4294967296 32 (by decide) (by omega) h3 (by decide)
  have r2 : bits .or .u64 ((0 + y5 * 65536 + y4 * 16777216 + y3 * 4294967296 : Nat) : Int) ((y2 : Int) * 1099511627776) = ((0 + y5 * 65536 + y4 * 16777216 + y3 * 4294967296 + y2 * 1099511627776 : Nat) : Int) := orS (0 + y5 * 65536 + y4 * 16777216 + y3 * 4294967296) y2 1099511627776 40 (by decide) (by omega) h2 (by decide)
  have r1 : bits .or .u64 ((0 + y5 * 65536 + y4 * 16777216 + y3 * 4294967296 + y2 * 1099511627776 : Nat) : Int) ((y1 : Int) * 281474976710656) = ((0 + y5 * 65536 + y4 * 16777216 + y3 * 4294967296 + y2 * 1099511627776 + y1 * 281474976710656 : Nat) : Int) := orS (0 + y5 * 65536 + y4 * 16777216 + y3 * 4294967296 + y2 * 1099511627776) y1 281474976710656 48 (by decide) (by omega) h1 (by decide)
  have r0 : bits .or .u64 ((0 + y5 * 65536 + y4 * 16777216 + y3 * 4294967296 + y2 * 1099511627776 + y1 * 281474976710656 : Nat) : Int) ((y0 : Int) * 72057594037927936) = ((0 + y5 * 65536 + y4 * 16777216 + y3 * 4294967296 + y2 * 1099511627776 + y1 * 281474976710656 + y0 * 72057594037927936 : Nat) : Int) := orS (0 + y5 * 65536 + y4 * 16777216 + y3 * 4294967296 + y2 * 1099511627776 + y1 * 281474976710656) y0 72057594037927936 56 (by decide) (by omega) h0 (by decide)
  generalize 0 + y5 * 65536 + y4 * 16777216 + y3 * 4294967296 + y2 * 1099511627776 + y1 * 281474976710656 + y0 * 72057594037927936 = A5 at *
  generalize 0 + y5 * 65536 + y4 * 16777216 + y3 * 4294967296 + y2 * 1099511627776 + y1 * 281474976710656 = A4 at *
  generalize 0 + y5 * 65536 + y4 * 16777216 + y3 * 4294967296 + y2 * 1099511627776 = A3 at *
  generalize 0 + y5 * 65536 + y4 * 16777216 + y3 * 4294967296 = A2 at *
  generalize 0 + y5 * 65536 + y4 * 16777216 = A1 at *
  generalize 0 + y5 * 65536 = A0 at *
  go_enter Tryd.func109, Tryd.ntmps109
  go_wp2
  go_ret
  exact ⟨rfl, rfl⟩
set_option maxHeartbeats 1600000 in
theorem eightw7 (g o c : Nat) (y0 y1 y2 y3 y4 y5 y6 : Nat) (w : World) (h0 : y0 < 256) (h1 : y1 < 256) (h2 : y2 < 256) (h3 : y3 < 256) (h4 : y4 < 256) (h5 : y5 < 256) (h6 : y6 < 256) (c0 : w.cell? ⟨g, o, none⟩ = some (.int .u8 (y0 : Int))) (c1 : w.cell? ⟨g, o + 1, none⟩ = some (.int .u8 (y1 : Int))) (c2 : w.cell? ⟨g, o + 2, none⟩ = some (.int .u8 (y2 : Int))) (c3 : w.cell? ⟨g, o + 3, none⟩ = some (.int .u8 (y3 : Int))) (c4 : w.cell? ⟨g, o + 4, none⟩ = some (.int .u8 (y4 : Int))) (c5 : w.cell? ⟨g, o + 5, none⟩ = some (.int .u8 (y5 : Int))) (c6 : w.cell? ⟨g, o + 6, none⟩ = some (.int .u8 (y6 : Int))) :
    Calls Tryd.prog 109 #[.slice (some ⟨g, o, none⟩) 7 c] w fun e w' => e = .returned (.int .u64 ((0 + y6 * 256 + y5 * 65536 + y4 * 16777216 + y3 * 4294967296 + y2 * 1099511627776 + y1 * 281474976710656 + y0 * 72057594037927936 : Nat) : Int)) ∧ w' = w := by
  have r6 : bits .or .u64 0 ((y6 : Int) * 256) = ((0 + y6 * 256 : Nat) : Int) := or00 y6 256 8 (by decide) h6 (by decide)
  have r5 : bits .or .u64 ((0 + y6 * 256 : Nat) : Int) ((y5 : Int) * 65536) = ((0 + y6 * 256 + y5 * 65536 : Nat) : Int) := orS (0 + y6 * 256) y5 65536 16 (by decide) (by omega) h5 (by decide)
  have r4 : bits .or .u64 ((0 + y6 * 256 + y5 * 65536 : Nat) : Int) ((y4 : Int) * 16777216) = ((0 + y6 * 256 + y5 * 65536 + y4 * 16777216 : Nat) : Int) := orS (0 + y6 * 256 + y5 * 65536) y4 16777216 24 (by decide) (by omega) h4 (by decide)
  have r3 : bits .or .u64 ((0 + y6 * 256 + y5 * 65536 + y4 * 16777216 : Nat) : Int) ((y3 : Int) * 4294967296) = ((0 + y6 * 256 + y5 * 65536 + y4 * 16777216 + y3 * 4294967296 : Nat) : Int) := orS (0 + y6 * 256 + y5 * 65536 + y4 * 16777216) y3 4294967296 32 (by decide) (by omega) h3 (by decide)
  have r2 : bits .or .u64 ((0 + y6 * 256 + y5 * 65536 + y4 * 16777216 + y3 * 4294967296 : Nat) : Int) ((y2 : Int) * 1099511627776) = ((0 + y6 * 256 + y5 * 65536 + y4 * 16777216 + y3 * 4294967296 + y2 * 1099511627776 : Nat) : Int) := orS (0 + y6 * 256 + y5 * 65536 + y4 * 16777216 + y3 * 4294967296) y2 1099511627776 40 (by decide) (by omega) h2 (by decide)
  have r1 : bits .or .u64 ((0 + y6 * 256 + y5 * 65536 + y4 * 16777216 + y3 * 4294967296 + y2 * 1099511627776 : Nat) : Int) ((y1 : Int) * 281474976710656) = ((0 + y6 * 256 + y5 * 65536 + y4 * 16777216 + y3 * 4294967296 + y2 * 1099511627776 + y1 * 281474976710656 : Nat) : Int) := orS (0 + y6 * 256 + y5 * 65536 + y4 * 16777216 + y3 * 4294967296 + y2 * 1099511627776) y1 281474976710656 48 (by decide) (by omega) h1 (by decide)
  have r0 : bits .or .u64 ((0 + y6 * 256 + y5 * 65536 + y4 * 16777216 + y3 * 4294967296 + y2 * 1099511627776 + y1 * 281474976710656 : Nat) : Int) ((y0 : Int) * 72057594037927936) = ((0 + y6 * 256 + y5 * 65536 + y4 * 16777216 + y3 * 4294967296 + y2 * 1099511627776 + y1 * 281474976710656 + y0 * 72057594037927936 : Nat) : Int) := orS (0 + y6 * 256 + y5 * 65536 + y4 * 16777216 + y3 * 4294967296 + y2 * 1099511627776 + y1 * 281474976710656) y0 72057594037927936 56 (by decide) (by omega) h0 (by decide)
  generalize 0 + y6 * 256 + y5 * 65536 + y4 * 16777216 + y3 * 4294967296 + y2 * 1099511627776 + y1 * 281474976710656 + y0 * 72057594037927936 = A6 at *
  generalize 0 + y6 * 256 + y5 * 65536 + y4 * 16777216 + y3 * 4294967296 + y2 * 1099511627776 + y1 * 281474976710656 = A5 at *
  generalize 0 + y6 * 256 + y5 * 65536 + y4 * 16777216 + y3 * 4294967296 + y2 * 1099511627776 = A4 at *
  generalize 0 + y6 * 256 + y5 * 65536 + y4 * 16777216 + y3 * 4294967296 = A3 at *
  generalize 0 + y6 * 256 + y5 * 65536 + y4 * 16777216 = A2 at *
  generalize 0 + y6 * 256 + y5 * 65536 = A1 at *
  generalize 0 + y6 * 256 = A0 at *
  go_enter Tryd.func109, Tryd.ntmps109
  go_wp2
  go_ret
  exact ⟨rfl, rfl⟩
set_option maxHeartbeats 1600000 in
theorem eightw8 (g o c : Nat) (y0 y1 y2 y3 y4 y5 y6 y7 : Nat) (w : World) (h0 : y0 < 256) (h1 : y1 < 256) (h2 : y2 < 256) (h3 : y3 < 256) (h4 : y4 < 256) (h5 : y5 < 256) (h6 : y6 < 256) (h7 : y7 < 256) (c0 : w.cell? ⟨g, o, none⟩ = some (.int .u8 (y0 : Int))) (c1 : w.cell? ⟨g, o + 1, none⟩ = some (.int .u8 (y1 : Int))) (c2 : w.cell? ⟨g, o + 2, none⟩ = some (.int .u8 (y2 : Int))) (c3 : w.cell? ⟨g, o + 3, none⟩ = some (.int .u8 (y3 : Int))) (c4 : w.cell? ⟨g, o + 4, none⟩ = some (.int .u8 (y4 : Int))) (c5 : w.cell? ⟨g, o + 5, none⟩ = some (.int .u8 (y5 : Int))) (c6 : w.cell? ⟨g, o + 6, none⟩ = some (.int .u8 (y6 : Int))) (c7 : w.cell? ⟨g, o + 7, none⟩ = some (.int .u8 (y7 : Int))) :
    Calls Tryd.prog 109 #[.slice (some ⟨g, o, none⟩) 8 c] w fun e w' => e = .returned (.int .u64 ((y7 + y6 * 256 + y5 * 65536 + y4 * 16777216 + y3 * 4294967296 + y2 * 1099511627776 + y1 * 281474976710656 + y0 * 72057594037927936 : Nat) : Int)) ∧ w' = w := by
  have r6 : bits .or .u64 ((y7 : Nat) : Int) ((y6 : Int) * 256) = ((y7 + y6 * 256 : Nat) : Int) := orS (y7) y6 256 8 (by decide) (by omega) h6 (by decide)
  have r5 : bits .or .u64 ((y7 + y6 * 256 : Nat) : Int) ((y5 : Int) * 65536) = ((y7 + y6 * 256 + y5 * 65536 : Nat) : Int) := orS (y7 + y6 * 256) y5 65536 16 (by decide) (by omega) h5 (by decide)
  have r4 : bits .or .u64 ((y7 + y6 * 256 + y5 * 65536 : Nat) : Int) ((y4 : Int) * 16777216) = ((y7 + y6 * 256 + y5 * 65536 + y4 * 16777216 : Nat) : Int) := orS (y7 + y6 * 256 + y5 * 65536) y4 16777216 24 (by decide) (by omega) h4 (by decide)
  have r3 : bits .or .u64 ((y7 + y6 * 256 + y5 * 65536 + y4 * 16777216 : Nat) : Int) ((y3 : Int) * 4294967296) = ((y7 + y6 * 256 + y5 * 65536 + y4 * 16777216 + y3 * 4294967296 : Nat) : Int) := orS (y7 + y6 * 256 + y5 * 65536 + y4 * 16777216) y3 4294967296 32 (by decide) (by omega) h3 (by decide)
  have r2 : bits .or .u64 ((y7 + y6 * 256 + y5 * 65536 + y4 * 16777216 + y3 * 4294967296 : Nat) : Int) ((y2 : Int) * 1099511627776) = ((y7 + y6 * 256 + y5 * 65536 + y4 * 16777216 + y3 * 4294967296 + y2 * 1099511627776 : Nat) : Int) := orS (y7 + y6 * 256 + y5 * 65536 + y4 * 16777216 + y3 * 4294967296) y2 1099511627776 40 (by decide) (by omega) h2 (by decide)
  have r1 : bits .or .u64 ((y7 + y6 * 256 + y5 * 65536 + y4 * 16777216 + y3 * 4294967296 + y2 * 1099511627776 : Nat) : Int) ((y1 : Int) * 281474976710656) = ((y7 + y6 * 256 + y5 * 65536 + y4 * 16777216 + y3 * 4294967296 + y2 * 1099511627776 + y1 * 281474976710656 : Nat) : Int) := orS (y7 + y6 * 256 + y5 * 65536 + y4 * 16777216 + y3 * 4294967296 + y2 * 1099511627776) y1 281474976710656 48 (by decide) (by omega) h1 (by decide)
  have r0 : bits .or .u64 ((y7 + y6 * 256 + y5 * 65536 + y4 * 16777216 + y3 * 4294967296 + y2 * 1099511627776 + y1 * 281474976710656 : Nat) : Int) ((y0 : Int) * 72057594037927936) = ((y7 + y6 * 256 + y5 * 65536 + y4 * 16777216 + y3 * 4294967296 + y2 * 1099511627776 + y1 * 281474976710656 + y0 * 72057594037927936 : Nat) : Int) := orS (y7 + y6 * 256 + y5 * 65536 + y4 * 16777216 + y3 * 4294967296 + y2 * 1099511627776 + y1 * 281474976710656) y0 72057594037927936 56 (by decide) (by omega) h0 (by decide)
  generalize y7 + y6 * 256 + y5 * 65536 + y4 * 16777216 + y3 * 4294967296 + y2 * 1099511627776 + y1 * 281474976710656 + y0 * 72057594037927936 = A6 at *
  generalize y7 + y6 * 256 + y5 * 65536 + y4 * 16777216 + y3 * 4294967296 + y2 * 1099511627776 + y1 * 281474976710656 = A5 at *
  generalize y7 + y6 * 256 + y5 * 65536 + y4 * 16777216 + y3 * 4294967296 + y2 * 1099511627776 = A4 at *
  generalize y7 + y6 * 256 + y5 * 65536 + y4 * 16777216 + y3 * 4294967296 = A3 at *
  generalize y7 + y6 * 256 + y5 * 65536 + y4 * 16777216 = A2 at *
  generalize y7 + y6 * 256 + y5 * 65536 = A1 at *
  generalize y7 + y6 * 256 = A0 at *
  go_enter Tryd.func109, Tryd.ntmps109
  go_wp2
  go_ret
  exact ⟨rfl, rfl⟩
set_option maxHeartbeats 1600000 in
theorem eightw9 (g o c : Nat) (y0 y1 y2 y3 y4 y5 y6 y7 : Nat) (m : Nat) (hm : 8 < m) (w : World) (h0 : y0 < 256) (h1 : y1 < 256) (h2 : y2 < 256) (h3 : y3 < 256) (h4 : y4 < 256) (h5 : y5 < 256) (h6 : y6 < 256) (h7 : y7 < 256) (c0 : w.cell? ⟨g, o, none⟩ = some (.int .u8 (y0 : Int))) (c1 : w.cell? ⟨g, o + 1, none⟩ = some (.int .u8 (y1 : Int))) (c2 : w.cell? ⟨g, o + 2, none⟩ = some (.int .u8 (y2 : Int))) (c3 : w.cell? ⟨g, o + 3, none⟩ = some (.int .u8 (y3 : Int))) (c4 : w.cell? ⟨g, o + 4, none⟩ = some (.int .u8 (y4 : Int))) (c5 : w.cell? ⟨g, o + 5, none⟩ = some (.int .u8 (y5 : Int))) (c6 : w.cell? ⟨g, o + 6, none⟩ = some (.int .u8 (y6 : Int))) (c7 : w.cell? ⟨g, o + 7, none⟩ = some (.int .u8 (y7 : Int))) :
    Calls Tryd.prog 109 #[.slice (some ⟨g, o, none⟩) m c] w fun e w' => e = .returned (.int .u64 ((y7 + y6 * 256 + y5 * 65536 + y4 * 16777216 + y3 * 4294967296 + y2 * 1099511627776 + y1 * 281474976710656 + y0 * 72057594037927936 : Nat) : Int)) ∧ w' = w := by
  have r6 : bits .or .u64 ((y7 : Nat) : Int) ((y6 : Int) * 256) = ((y7 + y6 * 256 : Nat) : Int) := orS (y7) y6 256 8 (by decide) (by omega) h6 (by decide)
  have r5 : bits .or .u64 ((y7 + y6 * 256 : Nat) : Int) ((y5 : Int) * 65536) = ((y7 + y6 * 256 + y5 * 65536 : Nat) : Int) := orS (y7 + y6 * 256) y5 65536 16 (by decide) (by omega) h5 (by decide)
  have r4 : bits .or .u64 ((y7 + y6 * 256 + y5 * 65536 : Nat) : Int) ((y4 : Int) * 16777216) = ((y7 + y6 * 256 + y5 * 65536 + y4 * 16777216 : Nat) : Int) := orS (y7 + y6 * 256 + y5 * 65536) y4 16777216 24 (by decide) (by omega) h4 (by decide)
  have r3 : bits .or .u64 ((y7 + y6 * 256 + y5 * 65536 + y4 * 16777216 : Nat) : Int) ((y3 : Int) * 4294967296) = ((y7 + y6 * 256 + y5 * 65536 + y4 * 16777216 + y3 * 4294967296 : Nat) : Int) := orS (y7 + y6 * 256 + y5 * 65536 + y4 * 16777216) y3 4294967296 32 (by decide) (by omega) h3 (by decide)
  have r2 : bits .or .u64 ((y7 + y6 * 256 + y5 * 65536 + y4 * 16777216 + y3 * 4294967296 : Nat) : Int) ((y2 : Int) * 1099511627776) = ((y7 + y6 * 256 + y5 * 65536 + y4 * 16777216 + y3 * 4294967296 + y2 * 1099511627776 : Nat) : Int) := orS (y7 + y6 * 256 + y5 * 65536 + y4 * 16777216 + y3 * 4294967296) y2 1099511627776 40 (by decide) (by omega) h2 (by decide)
  have r1 : bits .or .u64 ((y7 + y6 * 256 + y5 * 65536 + y4 * 16777216 + y3 * 4294967296 + y2 * 1099511627776 : Nat) : Int) ((y1 : Int) * 281474976710656) = ((y7 + y6 * 256 + y5 * 65536 + y4 * 16777216 + y3 * 4294967296 + y2 * 1099511627776 + y1 * 281474976710656 : Nat) : Int) := orS (y7 + y6 * 256 + y5 * 65536 + y4 * 16777216 + y3 * 4294967296 + y2 * 1099511627776) y1 281474976710656 48 (by decide) (by omega) h1 (by decide)
  have r0 : bits .or .u64 ((y7 + y6 * 256 + y5 * 65536 + y4 * 16777216 + y3 * 4294967296 + y2 * 1099511627776 + y1 * 281474976710656 : Nat) : Int) ((y0 : Int) * 72057594037927936) = ((y7 + y6 * 256 + y5 * 65536 + y4 * 16777216 + y3 * 4294967296 + y2 * 1099511627776 + y1 * 281474976710656 + y0 * 72057594037927936 : Nat) : Int) := orS (y7 + y6 * 256 + y5 * 65536 + y4 * 16777216 + y3 * 4294967296 + y2 * 1099511627776 + y1 * 281474976710656) y0 72057594037927936 56 (by decide) (by omega) h0 (by decide)
  generalize y7 + y6 * 256 + y5 * 65536 + y4 * 16777216 + y3 * 4294967296 + y2 * 1099511627776 + y1 * 281474976710656 + y0 * 72057594037927936 = A6 at *
  generalize y7 + y6 * 256 + y5 * 65536 + y4 * 16777216 + y3 * 4294967296 + y2 * 1099511627776 + y1 * 281474976710656 = A5 at *
  generalize y7 + y6 * 256 + y5 * 65536 + y4 * 16777216 + y3 * 4294967296 + y2 * 1099511627776 = A4 at *
  generalize y7 + y6 * 256 + y5 * 65536 + y4 * 16777216 + y3 * 4294967296 = A3 at *
  generalize y7 + y6 * 256 + y5 * 65536 + y4 * 16777216 = A2 at *
  generalize y7 + y6 * 256 + y5 * 65536 = A1 at *
  generalize y7 + y6 * 256 = A0 at *
  have hm2 : (8 : Int) < (m : Int) := by omega
  have hm3 : (0 : Int) < (m : Int) ∧ (1 : Int) < (m : Int) ∧ (2 : Int) < (m : Int) ∧ (3 : Int) < (m : Int) ∧ (4 : Int) < (m : Int) ∧ (5 : Int) < (m : Int) ∧ (6 : Int) < (m : Int) ∧ (7 : Int) < (m : Int) := by omega
  obtain ⟨k0, k1, k2, k3, k4, k5, k6, k7⟩ := hm3
  go_enter Tryd.func109, Tryd.ntmps109
  go_wp2
  go_ret
  exact ⟨rfl, rfl⟩
theorem eight_any (v : Value) (L : List UInt8) (w : World) (hv : Rd w v L) :
    Calls Tryd.prog 109 #[v] w fun e w' => e = .returned (.int .u64 (I64 (BitVec.ofNat 64 (e8 (fun k => (L.getD k 0).toNat))))) ∧ w' = w := by
  obtain ⟨a, c, rfl, hlc, hcm, hra, hz⟩ := hv
  have hlt : ∀ j, (L.getD j 0).toNat < 256 := fun j => (L.getD j 0).toNat_lt
  have hE := e8_lt (fun k => (L.getD k 0).toNat) hlt
  rw [← u64_lit hE]
  have h0 : ∀ j, L.length ≤ j → (L.getD j 0).toNat = 0 := fun j hj => by simp only [List.getD]; rw [List.getElem?_eq_none hj]; rfl
  by_cases hl : L.length = 0
  · rw [hl]
    have e : e8 (fun k => (L.getD k 0).toNat) = 0 := by unfold e8; simp only [h0 0 (by omega), h0 1 (by omega), h0 2 (by omega), h0 3 (by omega), h0 4 (by omega), h0 5 (by omega), h0 6 (by omega), h0 7 (by omega)]
    rw [e]
    exact eight0 a c w
  · obtain ⟨g, o, rfl, hc0⟩ := hra 0 (by omega)
    have hc : ∀ j, j < L.length → w.cell? ⟨g, o + j, none⟩ = some (.int .u8 ((L.getD j 0).toNat : Int)) := fun j hj => by
      obtain ⟨g', o', he, hcj⟩ := hra j hj
      cases he
      exact hcj
    rw [Nat.add_zero] at hc0
    by_cases h9 : 8 < L.length
    · have := eightw9 g o c _ _ _ _ _ _ _ _ L.length h9 w (hlt 0) (hlt 1) (hlt 2) (hlt 3) (hlt 4) (hlt 5) (hlt 6) (hlt 7) hc0 (hc 1 (by omega)) (hc 2 (by omega)) (hc 3 (by omega)) (hc 4 (by omega)) (hc 5 (by omega)) (hc 6 (by omega)) (hc 7 (by omega))
      exact this
    · by_cases h8_ : L.length = 8
      · rw [h8_]
        exact eightw8 g o c _ _ _ _ _ _ _ _ w (hlt 0) (hlt 1) (hlt 2) (hlt 3) (hlt 4) (hlt 5) (hlt 6) (hlt 7) hc0 (hc 1 (by omega)) (hc 2 (by omega)) (hc 3 (by omega)) (hc 4 (by omega)) (hc 5 (by omega)) (hc 6 (by omega)) (hc 7 (by omega))
      · by_cases h7_ : L.length = 7
        · rw [h7_]
          have e : e8 (fun k => (L.getD k 0).toNat) = 0 + (L.getD 6 0).toNat * 256 + (L.getD 5 0).toNat * 65536 + (L.getD 4 0).toNat * 16777216 + (L.getD 3 0).toNat * 4294967296 + (L.getD 2 0).toNat * 1099511627776 + (L.getD 1 0).toNat * 281474976710656 + (L.getD 0 0).toNat * 72057594037927936 := by unfold e8; simp only [h0 7 (by omega)]
          rw [e]
          exact eightw7 g o c _ _ _ _ _ _ _ w (hlt 0) (hlt 1) (hlt 2) (hlt 3) (hlt 4) (hlt 5) (hlt 6) hc0 (hc 1 (by omega)) (hc 2 (by omega)) (hc 3 (by omega)) (hc 4 (by omega)) (hc 5 (by omega)) (hc 6 (by omega))
        · by_cases h6_ : L.length = 6
          · rw [h6_]
            have e : e8 (fun k => (L.getD k 0).toNat) = 0 + (L.getD 5 0).toNat * 65536 + (L.getD 4 0).toNat * 16777216 + (L.getD 3 0).toNat * 4294967296 + (L.getD 2 0).toNat * 1099511627776 + (L.getD 1 0).toNat * 281474976710656 + (L.getD 0 0).toNat * 72057594037927936 := by unfold e8; simp only [h0 6 (by omega), h0 7 (by omega)]
            rw [e]
            exact eightw6 g o c _ _ _ _ _ _ w (hlt 0) (hlt 1) (hlt 2) (hlt 3) (hlt 4) (hlt 5) hc0 (hc 1 (by omega)) (hc 2 (by omega)) (hc 3 (by omega)) (hc 4 (by omega)) (hc 5 (by omega))
          · by_cases h5_ : L.length = 5
            · rw [h5_]
              have e : e8 (fun k => (L.getD k 0).toNat) = 0 + (L.getD 4 0).toNat * 16777216 + (L.getD 3 0).toNat * 4294967296 + (L.getD 2 0).toNat * 1099511627776 + (L.getD 1 0).toNat * 281474976710656 + (L.getD 0 0).toNat * 72057594037927936 := by unfold e8; simp only [h0 5 (by omega), h0 6 (by omega), h0 7 (by omega)]
              rw [e]
              exact eightw5 g o c _ _ _ _ _ w (hlt 0) (hlt 1) (hlt 2) (hlt 3) (hlt 4) hc0 (hc 1 (by omega)) (hc 2 (by omega)) (hc 3 (by omega)) (hc 4 (by omega))
            · by_cases h4_ : L.length = 4
              · rw [h4_]
                have e : e8 (fun k => (L.getD k 0).toNat) = 0 + (L.getD 3 0).toNat * 4294967296 + (L.getD 2 0).toNat * 1099511627776 + (L.getD 1 0).toNat * 281474976710656 + (L.getD 0 0).toNat * 72057594037927936 := by unfold e8; simp only [h0 4 (by omega), h0 5 (by omega), h0 6 (by omega), h0 7 (by omega)]
                rw [e]
                exact eightw4 g o c _ _ _ _ w (hlt 0) (hlt 1) (hlt 2) (hlt 3) hc0 (hc 1 (by omega)) (hc 2 (by omega)) (hc 3 (by omega))
              · by_cases h3_ : L.length = 3
                · rw [h3_]
                  have e : e8 (fun k => (L.getD k 0).toNat) = 0 + (L.getD 2 0).toNat * 1099511627776 + (L.getD 1 0).toNat * 281474976710656 + (L.getD 0 0).toNat * 72057594037927936 := by unfold e8; simp only [h0 3 (by omega), h0 4 (by omega), h0 5 (by omega), h0 6 (by omega), h0 7 (by omega)]
                  rw [e]
                  exact eightw3 g o c _ _ _ w (hlt 0) (hlt 1) (hlt 2) hc0 (hc 1 (by omega)) (hc 2 (by omega))
                · by_cases h2_ : L.length = 2
                  · rw [h2_]
                    have e : e8 (fun k => (L.getD k 0).toNat) = 0 + (L.getD 1 0).toNat * 281474976710656 + (L.getD 0 0).toNat * 72057594037927936 := by unfold e8; simp only [h0 2 (by omega), h0 3 (by omega), h0 4 (by omega), h0 5 (by omega), h0 6 (by omega), h0 7 (by omega)]
                    rw [e]
                    exact eightw2 g o c _ _ w (hlt 0) (hlt 1) hc0 (hc 1 (by omega))
                  · have h1_ : L.length = 1 := by omega
                    rw [h1_]
                    have e : e8 (fun k => (L.getD k 0).toNat) = 0 + (L.getD 0 0).toNat * 72057594037927936 := by unfold e8; simp only [h0 1 (by omega), h0 2 (by omega), h0 3 (by omega), h0 4 (by omega), h0 5 (by omega), h0 6 (by omega), h0 7 (by omega)]
                    rw [e]
                    exact eightw1 g o c _ w (hlt 0) hc0
theorem RdA.cut {w : World} {g o : Nat} {l : List UInt8} (h : RdA w (some ⟨g, o, none⟩) l) (k n : Nat) (hk : k + n ≤ l.length) : RdA w (some ⟨g, o + k, none⟩) ((l.drop k).take n) := by
  intro j hj
  have hj' : j < n := by simp at hj; omega
  obtain ⟨b, q, hb, hc⟩ := h (k + j) (by omega)
  simp only [Option.some.injEq, Addr.mk.injEq, and_true] at hb
  obtain ⟨rfl, rfl⟩ := hb
  refine ⟨g, o + k, rfl, ?_⟩
  rw [Nat.add_assoc, hc]
  have e : ((l.drop k).take n).getD j 0 = l.getD (k + j) 0 := by
    simp only [List.getD, List.getElem?_take, hj', if_true, List.getElem?_drop]
  rw [e]
theorem cut_len (l : List UInt8) (k n : Nat) (hk : k + n ≤ l.length) : ((l.drop k).take n).length = n := by
  simp; omega
theorem Rd.cut {w : World} {g o c : Nat} {l : List UInt8} (h : Rd w (.slice (some ⟨g, o, none⟩) l.length c) l) (k n : Nat) (hk : k + n ≤ l.length) : Rd w (.slice (some ⟨g, o + k, none⟩) n (c - k)) ((l.drop k).take n) := by
  obtain ⟨a, c', hv, h1, h2, h3, h4⟩ := h
  simp only [Value.slice.injEq, true_and] at hv
  obtain ⟨rfl, rfl⟩ := hv
  refine ⟨_, _, by rw [cut_len l k n hk], by rw [cut_len l k n hk]; omega, by omega, h3.cut k n hk, fun h => by cases h⟩
theorem Rd.cut0 {w : World} {g o c : Nat} {l : List UInt8} (h : Rd w (.slice (some ⟨g, o, none⟩) l.length c) l) (k n : Nat) (hc : c ≤ k) (hk : k + n ≤ l.length) : Rd w (.slice (some ⟨g, o, none⟩) n 0) ((l.drop k).take n) := by
  obtain ⟨a, c', hv, h1, h2, h3, h4⟩ := h
  simp only [Value.slice.injEq, true_and] at hv
  obtain ⟨rfl, rfl⟩ := hv
  obtain rfl : n = 0 := by omega
  rw [List.take_zero]
  exact ⟨some ⟨g, o, none⟩, 0, rfl, Nat.le_refl _, by simp [maxLen], fun j hj => by simp at hj, fun h => by cases h⟩
theorem shlX {e s : Nat} (he : e < 18446744073709551616) : IntKind.u64.wrap (I64 (BitVec.ofNat 64 e) * 2 ^ s) = I64 (BitVec.ofNat 64 (e * 2 ^ s % 18446744073709551616)) := by
  rw [← u64_lit he, ← u64_lit (Nat.mod_lt _ (by decide)), IntKind.wrap_u64]
  have e1 : (e : Int) * 2 ^ s = ((e * 2 ^ s : Nat) : Int) := by rw [Int.natCast_mul, Int.natCast_pow]; rfl
  rw [e1]
  exact (Int.natCast_emod _ _).symm
theorem orX {a b s : Nat} (ha : a < 18446744073709551616) (hb : b < 256) : bits .or .u64 (I64 (BitVec.ofNat 64 a)) ((b : Int) / 2 ^ s) = I64 (BitVec.ofNat 64 (a ||| b / 2 ^ s)) := by
  have hb2 : b / 2 ^ s ≤ b := Nat.div_le_self _ _
  have hlt : (a ||| b / 2 ^ s) < 18446744073709551616 := Nat.or_lt_two_pow (n := 64) ha (by omega)
  rw [← u64_lit ha, ← u64_lit hlt]
  have e1 : (b : Int) / 2 ^ s = ((b / 2 ^ s : Nat) : Int) := by rw [Int.natCast_ediv, Int.natCast_pow]; rfl
  rw [e1, u64_or_nat _ _ ha (by omega)]
theorem shrX {a s : Nat} (ha : a < 18446744073709551616) : I64 (BitVec.ofNat 64 a) / 2 ^ s = I64 (BitVec.ofNat 64 (a / 2 ^ s)) := by
  have h2 : a / 2 ^ s ≤ a := Nat.div_le_self _ _
  rw [← u64_lit ha, ← u64_lit (by omega), Int.natCast_ediv, Int.natCast_pow]
  rfl
set_option maxHeartbeats 3200000 in
theorem look_any (g gb c p s : Nat) (L : List UInt8) (a n : Nat) (w : World) (h : Rr w g (.slice (some ⟨gb, 0, none⟩) L.length c) p s) (hv : Rd w (.slice (some ⟨gb, 0, none⟩) L.length c) L) (hL : L.length ≤ 1048576) (hn : n ≤ 64) (ha : a + n ≤ 8 * L.length) :
    Calls Tryd.prog 108 #[.pointer (some ⟨g, 0, none⟩), .int .i64 (a : Int), .int .i64 (n : Int)] w fun e w' => e = .returned (.int .u64 (I64 (BitVec.ofNat 64 (natOf (ubits L a n))))) ∧ w' = w := by
  obtain ⟨f, hf⟩ : ∃ f, f = a / 8 := ⟨_, rfl⟩
  obtain ⟨k, hk⟩ : ∃ k, k = a % 8 := ⟨_, rfl⟩
  have hq : (a : Int).tdiv 8 = (f : Int) := by rw [Int.tdiv_eq_ediv_of_nonneg (by omega)]; omega
  have hm : (a : Int).tmod 8 = (k : Int) := by rw [Int.tmod_eq_emod_of_nonneg (by omega)]; omega
  have hk8 : k < 8 := by omega
  have hae : a = 8 * f + k := by omega
  have hfl : f ≤ L.length := by omega
  have HR : Hid (natOf (ubits L a n) = lookN L f k n) := by show natOf (ubits L a n) = lookN L f k n; rw [hae]; exact (look_eq L f k n hk8 hn).symm
  have hE := e8_lt (fun j => (L.getD (f + j) 0).toNat) (fun j => (L.getD (f + j) 0).toNat_lt)
  have HE : Hid (∀ a' c', Rd w (.slice a' (L.length - f) c') ((L.drop f).take (L.length - f)) → Calls Tryd.prog 109 #[.slice a' (L.length - f) c'] w fun e w' => e = .returned (.int .u64 (I64 (BitVec.ofNat 64 (e8 (fun j => (L.getD (f + j) 0).toNat))))) ∧ w' = w) := fun a' c' hr => by
    have hd : (L.drop f).take (L.length - f) = L.drop f := List.take_of_length_le (by simp)
    rw [hd] at hr
    have := eight_any _ _ w hr
    have e : (fun j => ((L.drop f).getD j 0).toNat) = (fun j => (L.getD (f + j) 0).toNat) := by
      funext j
      simp only [List.getD, List.getElem?_drop]
    rw [e] at this
    exact this
  have hsh := shlX (s := k) hE
  have HV : Hid (Rd w (.slice (some ⟨gb, 0, none⟩) L.length c) L) := hv
  have hcm : L.length ≤ c ∧ c ≤ 9223372036854775807 := by
    obtain ⟨a', c', hv', h1, h2, -, -⟩ := hv
    simp only [Value.slice.injEq, true_and] at hv'
    obtain ⟨-, rfl⟩ := hv'
    exact ⟨h1, h2⟩
  have hcm1 := hcm.1
  have hcm2 := hcm.2
  have c0 := h.cells.1
  have hf2 : f ≤ 1048576 := by omega
  have hn0 : (n : Int) ≤ 64 := by omega
  have hV1 : e8 (fun j => (L.getD (f + j) 0).toNat) * 2 ^ k % 18446744073709551616 < 18446744073709551616 := Nat.mod_lt _ (by decide)
  by_cases h9 : 64 - k < n
  · have h9' : (64 : Int) - (k : Int) < (n : Int) := by omega
    have hi8 : f + 8 < L.length := by omega
    have hc8 : w.cell? ⟨gb, f + 8, none⟩ = some (.int .u8 ((L.getD (f + 8) 0).toNat : Int)) := by
      obtain ⟨a', c', hv', -, -, hra, -⟩ := hv
      simp only [Value.slice.injEq, true_and] at hv'
      obtain ⟨rfl, rfl⟩ := hv'
      obtain ⟨b, o, hb, hc⟩ := hra (f + 8) hi8
      simp only [Option.some.injEq, Addr.mk.injEq, and_true] at hb
      obtain ⟨rfl, rfl⟩ := hb
      rw [Nat.zero_add] at hc
      exact hc
    have hb8 := (L.getD (f + 8) 0).toNat_lt
    have hor := orX (s := 8 - k) hV1 hb8
    have hV2 : (e8 (fun j => (L.getD (f + j) 0).toNat) * 2 ^ k % 18446744073709551616 ||| (L.getD (f + 8) 0).toNat / 2 ^ (8 - k)) < 18446744073709551616 := Nat.or_lt_two_pow (n := 64) hV1 (Nat.lt_of_le_of_lt (Nat.div_le_self _ _) (by omega))
    have hsr := shrX (s := 64 - n) hV2
    have HF : Hid ((e8 (fun j => (L.getD (f + j) 0).toNat) * 2 ^ k % 18446744073709551616 ||| (L.getD (f + 8) 0).toNat / 2 ^ (8 - k)) / 2 ^ (64 - n) = natOf (ubits L a n)) := by
      show _ = _
      rw [HR.out]
      unfold lookN
      simp only [if_pos h9]
    clear h hv hE hV1 hV2 HR hf hk hae hcm
    generalize (e8 (fun j => (L.getD (f + j) 0).toNat) * 2 ^ k % 18446744073709551616 ||| (L.getD (f + 8) 0).toNat / 2 ^ (8 - k)) / 2 ^ (64 - n) = R at *
    generalize e8 (fun j => (L.getD (f + j) 0).toNat) * 2 ^ k % 18446744073709551616 ||| (L.getD (f + 8) 0).toNat / 2 ^ (8 - k) = V2 at *
    generalize e8 (fun j => (L.getD (f + j) 0).toNat) * 2 ^ k % 18446744073709551616 = V1 at *
    generalize e8 (fun j => (L.getD (f + j) 0).toNat) = E at *
    generalize (L.getD (f + 8) 0).toNat = B8 at *
    generalize natOf (ubits L a n) = NN at *
    generalize BitVec.ofNat 64 E = EE at *
    generalize BitVec.ofNat 64 V1 = VV1 at *
    generalize BitVec.ofNat 64 V2 = VV2 at *
    go_enter Tryd.func108, Tryd.ntmps108
    go_wp2_with fail
    all_goals refine (HE.out _ _ (by first | exact (by simpa using HV.out.cut f (L.length - f) (by omega)) | exact HV.out.cut0 f (L.length - f) (by omega) (by omega))).mono ?_
    all_goals rintro e w1 ⟨rfl, rfl⟩
    all_goals go_wp2
    all_goals go_ret
    all_goals exact ⟨ret_int (by rw [HF.out]), rfl⟩
  · have h9' : ¬ (64 : Int) - (k : Int) < (n : Int) := by omega
    have hsr := shrX (s := 64 - n) hV1
    have HF : Hid (e8 (fun j => (L.getD (f + j) 0).toNat) * 2 ^ k % 18446744073709551616 / 2 ^ (64 - n) = natOf (ubits L a n)) := by
      show _ = _
      rw [HR.out]
      unfold lookN
      simp only [if_neg h9]
    clear h hv hE hV1 HR hf hk hae hcm
    generalize e8 (fun j => (L.getD (f + j) 0).toNat) * 2 ^ k % 18446744073709551616 / 2 ^ (64 - n) = R at *
    generalize e8 (fun j => (L.getD (f + j) 0).toNat) * 2 ^ k % 18446744073709551616 = V1 at *
    generalize e8 (fun j => (L.getD (f + j) 0).toNat) = E at *
    generalize natOf (ubits L a n) = NN at *
    generalize BitVec.ofNat 64 E = EE at *
    generalize BitVec.ofNat 64 V1 = VV1 at *
    go_enter Tryd.func108, Tryd.ntmps108
    go_wp2_with fail
    all_goals refine (HE.out _ _ (by first | exact (by simpa using HV.out.cut f (L.length - f) (by omega)) | exact HV.out.cut0 f (L.length - f) (by omega) (by omega))).mono ?_
    all_goals rintro e w1 ⟨rfl, rfl⟩
    all_goals go_wp2
    all_goals go_ret
    all_goals exact ⟨ret_int (by rw [HF.out]), rfl⟩
end Go.Proofs.YtkiefmhampfhoaaDoor
