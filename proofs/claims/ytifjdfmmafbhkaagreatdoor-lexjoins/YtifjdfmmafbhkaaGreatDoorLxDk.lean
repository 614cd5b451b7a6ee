/-
  Two hex digits as a number: internal/strconv.ParseUint: the walk.
-/
import Derived.Test.YtifjdfmmafbhkaaGreatDoorLxDj
import Derived.Test.YtifjdfmmafbhkaaGreatDoorLxGD
import Derived.Lib.ConvBytes
namespace Go.Proofs.YtifjdfmmafbhkaaGreatDoor
open Go.RowKit

theorem lower_any (w : World) (c : Nat) (hc : (65 ≤ c ∧ c ≤ 70) ∨ (97 ≤ c ∧ c ≤ 102)) : Calls Tryz.prog 86 #[.int .u8 (c : Int)] w fun e w' => e = .returned (.int .u8 (if 97 ≤ c then (c : Int) else (c : Int) + 32)) ∧ w' = w := by
  have : c = 65 ∨ c = 66 ∨ c = 67 ∨ c = 68 ∨ c = 69 ∨ c = 70 ∨ c = 97 ∨ c = 98 ∨ c = 99 ∨ c = 100 ∨ c = 101 ∨ c = 102 := by omega
  rcases this with rfl | rfl | rfl | rfl | rfl | rfl | rfl | rfl | rfl | rfl | rfl | rfl
  all_goals
    go_enter Tryz.func86, Tryz.ntmps86
    go_wp2
    go_ret
    exact ⟨by first | rfl | decide, rfl⟩
set_option maxRecDepth 8000 in
set_option maxHeartbeats 6400000 in
theorem parseHex_any (w : World) (x y : UInt8) (hx : 48 ≤ x.toNat ∧ x.toNat ≤ 55) (hy : 48 ≤ y.toNat ∧ y.toNat ≤ 57) :
    Calls Tryz.prog 74 #[.string (ByteArray.mk ⟨[x, y]⟩), .int .i64 16, .int .i64 8] w fun e w' => e = .returned (.tuple #[.int .u64 (((x.toNat - 48) * 16 + (y.toNat - 48) : Nat) : Int), .nilIface]) ∧ w.grownBy w' none := by
  have hz : (ByteArray.mk ⟨[x, y]⟩).size = 2 := rfl
  go_enter Tryz.func74, Tryz.ntmps74
  have hcv := Lib.run_convert_string_bytes (P := Tryz.prog) w 9 36 5 (ByteArray.mk ⟨[x, y]⟩) Tryz.underlying9 Tryz.underlying36 Tryz.underlying5
  have c0 := Lib.bytesWorld_cell w 5 (ByteArray.mk ⟨[x, y]⟩) 0 (by rw [hz]; omega)
  have c1 := Lib.bytesWorld_cell w 5 (ByteArray.mk ⟨[x, y]⟩) 1 (by rw [hz]; omega)
  have hg1 : w.grownBy (Lib.bytesWorld w 5 (ByteArray.mk ⟨[x, y]⟩)) none := ⟨rfl, rfl, rfl, by rw [Lib.bytesWorld_size]; omega, fun k hk _ => Lib.bytesWorld_at_old w _ _ k hk⟩
  have HG := hidJ hg1
  have c0 : (Lib.bytesWorld w 5 (ByteArray.mk ⟨[x, y]⟩)).cell? ⟨w.heap.size, 0, none⟩ = some (.int .u8 (x.toNat : Int)) := c0
  have c1 : (Lib.bytesWorld w 5 (ByteArray.mk ⟨[x, y]⟩)).cell? ⟨w.heap.size, 1, none⟩ = some (.int .u8 (y.toNat : Int)) := c1
  rw [hz] at hcv
  generalize Lib.bytesWorld w 5 (ByteArray.mk ⟨[x, y]⟩) = W1 at *
  generalize grownCap w 2 0 5 = cp at *
  clear hg1
  obtain ⟨X, hX⟩ : ∃ X, x.toNat - 48 = X := ⟨_, rfl⟩
  obtain ⟨Y, hY⟩ : ∃ Y, y.toNat - 48 = Y := ⟨_, rfl⟩
  rw [hX, hY]
  have HX := hidJ hX
  have hxi : (x.toNat : Int) - 48 = (X : Int) := by omega
  have hyi : (y.toNat : Int) - 48 = (Y : Int) := by omega
  have b1 : (48 : Int) ≤ (x.toNat : Int) := by omega
  have b2 : (x.toNat : Int) ≤ 57 := by omega
  have b3 : (48 : Int) ≤ (y.toNat : Int) := by omega
  have b4 : (y.toNat : Int) ≤ 57 := by omega
  have b5 : X ≤ 7 := by omega
  have b6 : Y ≤ 9 := by omega
  have d1 : ¬ (x.toNat : Int) = 95 := by omega
  have d2 : ¬ (y.toNat : Int) = 95 := by omega
  have d3 : ((x.toNat : Int) == 95) = false := by rw [beq_eq_false_iff_ne]; exact d1
  have d4 : ((y.toNat : Int) == 95) = false := by rw [beq_eq_false_iff_ne]; exact d2
  clear hX hY hx hy
  go_wp2_with fail
  go_loopg [12, 13, 101] 3 (fun gk v12 v13 v101 wr => ∃ (i N : Nat), v12 = .bool false ∧ v13 = .int .u64 (N : Int) ∧ v101 = .int .i64 (i : Int) ∧ 2 < i + gk ∧ ((i = 0 ∧ N = 0) ∨ (i = 1 ∧ N = X) ∨ (i = 2 ∧ N = X * 16 + Y)) ∧ wr = W1)
  case atStart => exact ⟨0, 0, rfl, rfl, rfl, by omega, Or.inl ⟨rfl, rfl⟩, rfl⟩
  case round =>
    obtain ⟨i, N, rfl, rfl, rfl, hg, hc, rfl⟩ := hrel
    rcases hc with ⟨rfl, rfl⟩ | ⟨rfl, hN⟩ | ⟨rfl, hN⟩
    · obtain ⟨k, rfl⟩ : ∃ k, gk = k + 1 := ⟨gk - 1, by omega⟩
      go_wp2
      go_roundg k
      case measure => omega
      case rel => exact ⟨1, X, rfl, by go_num, rfl, by omega, Or.inr (Or.inl ⟨rfl, rfl⟩), rfl⟩
    · obtain ⟨k, rfl⟩ : ∃ k, gk = k + 1 := ⟨gk - 1, by omega⟩
      subst hN
      have hN8 : N = 0 ∨ N = 1 ∨ N = 2 ∨ N = 3 ∨ N = 4 ∨ N = 5 ∨ N = 6 ∨ N = 7 := by omega
      have hY8 : 0 ≤ (Y : Int) := by omega
      have hY9 : (Y : Int) ≤ 9 := by omega
      clear hxi b5 HX b1 b2 d1 d3
      rcases hN8 with rfl | rfl | rfl | rfl | rfl | rfl | rfl | rfl
      all_goals
        go_wp2
        go_roundg k
        case measure => omega
        case rel => exact ⟨2, _, rfl, by go_num, rfl, by omega, Or.inr (Or.inr ⟨rfl, rfl⟩), rfl⟩
    · subst hN
      go_wp2
      go_ret2
      exact ⟨rfl, HG.out⟩
end Go.Proofs.YtifjdfmmafbhkaaGreatDoor
