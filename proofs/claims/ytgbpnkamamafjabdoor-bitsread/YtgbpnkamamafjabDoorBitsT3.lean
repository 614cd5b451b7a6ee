/-
  The document's Says and ReadInt: the walks.
-/
import Derived.Test.YtgbpnkamamafjabDoorBitsT2
namespace Go.Proofs.YtgbpnkamamafjabDoor
open Go.RowKit

theorem says64 (x : BitVec 64) (w : World) : Calls Tryd.prog 45 #[.int .u64 (I64 x), .int .i64 64] w fun e w' => e = .returned (.int .i64 (wrap64 (I64 x))) ∧ w' = w := by
  go_enter Tryd.func45, Tryd.ntmps45
  go_wp2
  go_ret
  exact ⟨rfl, rfl⟩
theorem says3 (z : Int) (w : World) (h0 : 0 ≤ z) (h1 : z < 8) : Calls Tryd.prog 45 #[.int .u64 z, .int .i64 3] w fun e w' => e = .returned (.int .i64 (if z ≤ 4 then z else z - 8)) ∧ w' = w := by
  by_cases h2 : z ≤ 4
  · rw [if_pos h2]
    go_enter Tryd.func45, Tryd.ntmps45
    go_wp2
    go_ret
    exact ⟨rfl, rfl⟩
  · rw [if_neg h2]
    go_enter Tryd.func45, Tryd.ntmps45
    go_wp2
    go_ret
    exact ⟨rfl, rfl⟩
theorem says6 (z : Int) (w : World) (h0 : 0 ≤ z) (h1 : z < 64) : Calls Tryd.prog 45 #[.int .u64 z, .int .i64 6] w fun e w' => e = .returned (.int .i64 (if z ≤ 32 then z else z - 64)) ∧ w' = w := by
  by_cases h2 : z ≤ 32
  · rw [if_pos h2]
    go_enter Tryd.func45, Tryd.ntmps45
    go_wp2
    go_ret
    exact ⟨rfl, rfl⟩
  · rw [if_neg h2]
    go_enter Tryd.func45, Tryd.ntmps45
    go_wp2
    go_ret
    exact ⟨rfl, rfl⟩
theorem says9 (z : Int) (w : World) (h0 : 0 ≤ z) (h1 : z < 512) : Calls Tryd.prog 45 #[.int .u64 z, .int .i64 9] w fun e w' => e = .returned (.int .i64 (if z ≤ 256 then z else z - 512)) ∧ w' = w := by
  by_cases h2 : z ≤ 256
  · rw [if_pos h2]
    go_enter Tryd.func45, Tryd.ntmps45
    go_wp2
    go_ret
    exact ⟨rfl, rfl⟩
  · rw [if_neg h2]
    go_enter Tryd.func45, Tryd.ntmps45
    go_wp2
    go_ret
    exact ⟨rfl, rfl⟩
theorem says12 (z : Int) (w : World) (h0 : 0 ≤ z) (h1 : z < 4096) : Calls Tryd.prog 45 #[.int .u64 z, .int .i64 12] w fun e w' => e = .returned (.int .i64 (if z ≤ 2048 then z else z - 4096)) ∧ w' = w := by
  by_cases h2 : z ≤ 2048
  · rw [if_pos h2]
    go_enter Tryd.func45, Tryd.ntmps45
    go_wp2
    go_ret
    exact ⟨rfl, rfl⟩
  · rw [if_neg h2]
    go_enter Tryd.func45, Tryd.ntmps45
    go_wp2
    go_ret
    exact ⟨rfl, rfl⟩
theorem says18 (z : Int) (w : World) (h0 : 0 ≤ z) (h1 : z < 262144) : Calls Tryd.prog 45 #[.int .u64 z, .int .i64 18] w fun e w' => e = .returned (.int .i64 (if z ≤ 131072 then z else z - 262144)) ∧ w' = w := by
  by_cases h2 : z ≤ 131072
  · rw [if_pos h2]
    go_enter Tryd.func45, Tryd.ntmps45
    go_wp2
    go_ret
    exact ⟨rfl, rfl⟩
  · rw [if_neg h2]
    go_enter Tryd.func45, Tryd.ntmps45
    go_wp2
    go_ret
    exact ⟨rfl, rfl⟩
theorem says25 (z : Int) (w : World) (h0 : 0 ≤ z) (h1 : z < 33554432) : Calls Tryd.prog 45 #[.int .u64 z, .int .i64 25] w fun e w' => e = .returned (.int .i64 (if z ≤ 16777216 then z else z - 33554432)) ∧ w' = w := by
  by_cases h2 : z ≤ 16777216
  · rw [if_pos h2]
    go_enter Tryd.func45, Tryd.ntmps45
    go_wp2
    go_ret
    exact ⟨rfl, rfl⟩
  · rw [if_neg h2]
    go_enter Tryd.func45, Tryd.ntmps45
    go_wp2
    go_ret
    exact ⟨rfl, rfl⟩
theorem says56 (z : Int) (w : World) (h0 : 0 ≤ z) (h1 : z < 72057594037927936) : Calls Tryd.prog 45 #[.int .u64 z, .int .i64 56] w fun e w' => e = .returned (.int .i64 (if z ≤ 36028797018963968 then z else z - 72057594037927936)) ∧ w' = w := by
  by_cases h2 : z ≤ 36028797018963968
  · rw [if_pos h2]
    go_enter Tryd.func45, Tryd.ntmps45
    go_wp2
    go_ret
    exact ⟨rfl, rfl⟩
  · rw [if_neg h2]
    go_enter Tryd.func45, Tryd.ntmps45
    go_wp2
    go_ret
    exact ⟨rfl, rfl⟩
theorem says_any (v r : Nat) (hr0 : 0 < r) (hr : r ≤ 8) (hv : v < 2 ^ wd r) (w : World) : Calls Tryd.prog 45 #[.int .u64 (I64 (BitVec.ofNat 64 v)), .int .i64 (wd r : Int)] w fun e w' => e = .returned (.int .i64 (numN v (wd r))) ∧ w' = w := by
  rcases (show r = 1 ∨ r = 2 ∨ r = 3 ∨ r = 4 ∨ r = 5 ∨ r = 6 ∨ r = 7 ∨ r = 8 by omega) with rfl | rfl | rfl | rfl | rfl | rfl | rfl | rfl
  · have hw : wd 1 = 3 := rfl
    have hp : (2 : Nat) ^ 3 = 8 := by decide
    rw [hw, hp] at hv
    rw [hw, ← u64_lit (by omega)]
    have hc := says3 (v : Int) w (by omega) (by omega)
    have e : numN v 3 = if (v : Int) ≤ 4 then (v : Int) else (v : Int) - 8 := by
      rw [numN3 v]
      by_cases h : v ≤ 4
      · rw [if_pos h, if_pos (by omega)]
      · rw [if_neg h, if_neg (by omega)]
    rw [e]
    exact hc
  · have hw : wd 2 = 6 := rfl
    have hp : (2 : Nat) ^ 6 = 64 := by decide
    rw [hw, hp] at hv
    rw [hw, ← u64_lit (by omega)]
    have hc := says6 (v : Int) w (by omega) (by omega)
    have e : numN v 6 = if (v : Int) ≤ 32 then (v : Int) else (v : Int) - 64 := by
      rw [numN6 v]
      by_cases h : v ≤ 32
      · rw [if_pos h, if_pos (by omega)]
      · rw [if_neg h, if_neg (by omega)]
    rw [e]
    exact hc
  · have hw : wd 3 = 9 := rfl
    have hp : (2 : Nat) ^ 9 = 512 := by decide
    rw [hw, hp] at hv
    rw [hw, ← u64_lit (by omega)]
    have hc := says9 (v : Int) w (by omega) (by omega)
    have e : numN v 9 = if (v : Int) ≤ 256 then (v : Int) else (v : Int) - 512 := by
      rw [numN9 v]
      by_cases h : v ≤ 256
      · rw [if_pos h, if_pos (by omega)]
      · rw [if_neg h, if_neg (by omega)]
    rw [e]
    exact hc
  · have hw : wd 4 = 12 := rfl
    have hp : (2 : Nat) ^ 12 = 4096 := by decide
    rw [hw, hp] at hv
    rw [hw, ← u64_lit (by omega)]
    have hc := says12 (v : Int) w (by omega) (by omega)
    have e : numN v 12 = if (v : Int) ≤ 2048 then (v : Int) else (v : Int) - 4096 := by
      rw [numN12 v]
      by_cases h : v ≤ 2048
      · rw [if_pos h, if_pos (by omega)]
      · rw [if_neg h, if_neg (by omega)]
    rw [e]
    exact hc
  · have hw : wd 5 = 18 := rfl
    have hp : (2 : Nat) ^ 18 = 262144 := by decide
    rw [hw, hp] at hv
    rw [hw, ← u64_lit (by omega)]
    have hc := says18 (v : Int) w (by omega) (by omega)
    have e : numN v 18 = if (v : Int) ≤ 131072 then (v : Int) else (v : Int) - 262144 := by
      rw [numN18 v]
      by_cases h : v ≤ 131072
      · rw [if_pos h, if_pos (by omega)]
      · rw [if_neg h, if_neg (by omega)]
    rw [e]
    exact hc
  · have hw : wd 6 = 25 := rfl
    have hp : (2 : Nat) ^ 25 = 33554432 := by decide
    rw [hw, hp] at hv
    rw [hw, ← u64_lit (by omega)]
    have hc := says25 (v : Int) w (by omega) (by omega)
    have e : numN v 25 = if (v : Int) ≤ 16777216 then (v : Int) else (v : Int) - 33554432 := by
      rw [numN25 v]
      by_cases h : v ≤ 16777216
      · rw [if_pos h, if_pos (by omega)]
      · rw [if_neg h, if_neg (by omega)]
    rw [e]
    exact hc
  · have hw : wd 7 = 56 := rfl
    have hp : (2 : Nat) ^ 56 = 72057594037927936 := by decide
    rw [hw, hp] at hv
    rw [hw, ← u64_lit (by omega)]
    have hc := says56 (v : Int) w (by omega) (by omega)
    have e : numN v 56 = if (v : Int) ≤ 36028797018963968 then (v : Int) else (v : Int) - 72057594037927936 := by
      rw [numN56 v]
      by_cases h : v ≤ 36028797018963968
      · rw [if_pos h, if_pos (by omega)]
      · rw [if_neg h, if_neg (by omega)]
    rw [e]
    exact hc
  · have hw : wd 8 = 64 := rfl
    have hp : (2 : Nat) ^ 64 = 18446744073709551616 := by decide
    rw [hw, hp] at hv
    rw [hw]
    have hc := says64 (BitVec.ofNat 64 v) w
    have e : numN v 64 = wrap64 (v : Int) := by unfold numN; rw [if_pos rfl]
    rw [← u64_lit hv] at hc ⊢
    rw [e]
    exact hc

/-! ### the next form of a stream -/
def rowL (l : List Bool) (p : Nat) : Nat → Nat → Option Nat
  | 0, r => some r
  | f + 1, r => if p + r = l.length then none else if l.getD (p + r) false = true then rowL l p f (r + 1) else some r
theorem rowL_step (l : List Bool) (p r : Nat) (h : r < 8) : rowL l p (8 - r) r = if p + r = l.length then none else if l.getD (p + r) false = true then rowL l p (8 - (r + 1)) (r + 1) else some r := by
  obtain ⟨f, hf⟩ : ∃ f, 8 - r = f + 1 := ⟨8 - r - 1, by omega⟩
  have hf2 : 8 - (r + 1) = f := by omega
  rw [hf, hf2, rowL]
theorem ubits_slot (L : List UInt8) (s j : Nat) (h : j < s) : (ubits L 0 s).getD j false = ubit L j := by
  rw [ubits_get _ _ _ _ h, Nat.zero_add]
theorem rowL_eq (L : List UInt8) (p s : Nat) : ∀ f r, p + r ≤ s → rowL (ubits L 0 s) p f r = rowS L p s f r := by
  intro f
  induction f with
  | zero => intro r _; rfl
  | succ f ih =>
    intro r hr
    rw [rowL, rowS, ubits_len]
    by_cases h : p + r = s
    · rw [if_pos h, if_pos h]
    · rw [if_neg h, if_neg h, ubits_slot L s (p + r) (by omega)]
      by_cases hb : ubit L (p + r) = true
      · rw [if_pos hb, if_pos hb]
        exact ih (r + 1) (by omega)
      · rw [if_neg hb, if_neg hb]
theorem bitsAt_ubits (L : List UInt8) (s p n : Nat) (h : p + n ≤ s) : bitsAt (ubits L 0 s) p n = ubits L p n := by
  unfold bitsAt ubits
  apply List.map_congr_left
  intro j hj
  have hj2 := List.mem_range.1 hj
  exact ubits_slot L s (p + j) (by omega)
/-- rowL's value: how many bits are gone over -/
theorem rowL_le (l : List Bool) (p : Nat) : ∀ f r q, p + r ≤ l.length → rowL l p f r = some q → r ≤ q ∧ q ≤ r + f ∧ p + q ≤ l.length ∧ (q < r + f → p + q < l.length) := by
  intro f
  induction f with
  | zero => intro r q hr h; simp [rowL] at h; omega
  | succ f ih =>
    intro r q hr h
    rw [rowL] at h
    split at h
    · cases h
    · split at h
      · have := ih (r + 1) q (by omega) h
        omega
      · simp at h; omega
def riL (l : List Bool) (p : Nat) : Int × Int × Nat :=
  match rowL l p 8 0 with
  | none => (0, 9, p)
  | some r => if l.length - p < hb r + wd r then (0, 9, p) else if rowN (numN (natOf (bitsAt l (p + hb r) (wd r))) (wd r)) < r then (0, 3, p) else (numN (natOf (bitsAt l (p + hb r) (wd r))) (wd r), 0, p + (hb r + wd r))
theorem riL_eq (L : List UInt8) (p s : Nat) (h : p ≤ s) : riL (ubits L 0 s) p = riS L p s := by
  unfold riL riS
  rw [rowL_eq L p s 8 0 (by omega), ubits_len]
  cases rowS L p s 8 0 with
  | none => rfl
  | some r =>
    simp only
    by_cases h1 : s - p < hb r + wd r
    · rw [if_pos h1, if_pos h1]
    · rw [if_neg h1, if_neg h1, bitsAt_ubits L s _ _ (by omega)]
theorem St.keptS {w w' : World} {g g2 p p2 : Nat} {v v2 : Value} {l l2 : List Bool} (h : St w g v l p) (h2 : St w g2 v2 l2 p2) (hne : g ≠ g2) (hg : w.grownBy w' (some g2)) : St w' g v l p := by
  refine ⟨by rw [hg.block g h.cells.2.2.2 (by simpa using hne)]; exact h.1, World.ownsRow.kept h.2 hg (.inr ?_)⟩
  intro e
  rcases h.2.2 with ⟨rfl, _⟩ | ⟨g', cap, cur, rfl, _, hh, _⟩
  · simp [Value.ownBlock] at e
  · simp only [Value.ownBlock, Option.some.injEq] at e
    subst e
    rw [h2.1] at hh
    simp at hh

end Go.Proofs.YtgbpnkamamafjabDoor
