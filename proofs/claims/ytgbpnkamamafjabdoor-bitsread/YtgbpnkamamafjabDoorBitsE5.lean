/-
  A reader that the call made: row, number, Int, whatever they answer: the walks.
-/
import Derived.Test.YtgbpnkamamafjabDoorBitsE4
import Derived.Test.YtgbpnkamamafjabDoorBitsI
namespace Go.Proofs.YtgbpnkamamafjabDoor
open Go.RowKit

/-- the row of the form that comes next -/
def rowS (L : List UInt8) (p s : Nat) : Nat → Nat → Option Nat
  | 0, r => some r
  | f + 1, r => if p + r = s then none else if ubit L (p + r) = true then rowS L p s f (r + 1) else some r
theorem rowS_step (L : List UInt8) (p s r : Nat) (h : r < 8) : rowS L p s (8 - r) r = if p + r = s then none else if ubit L (p + r) = true then rowS L p s (8 - (r + 1)) (r + 1) else some r := by
  obtain ⟨f, hf⟩ : ∃ f, 8 - r = f + 1 := ⟨8 - r - 1, by omega⟩
  have hf2 : 8 - (r + 1) = f := by omega
  rw [hf, hf2, rowS]
theorem rowS_le (L : List UInt8) (p s : Nat) : ∀ f r q, rowS L p s f r = some q → r ≤ q ∧ q ≤ r + f := by
  intro f
  induction f with
  | zero => intro r q h; simp [rowS] at h; omega
  | succ f ih =>
    intro r q h
    rw [rowS] at h
    split at h
    · cases h
    · split at h
      · have := ih (r + 1) q h
        omega
      · simp at h; omega
def rowOut : Option Nat → Int × Int
  | none => (0, 9)
  | some r => ((r : Int), 0)
theorem ret_two {a b c d : Int} (h1 : a = c) (h2 : b = d) : Ending.returned (.tuple #[.int .i64 a, .int .i64 b]) = .returned (.tuple #[.int .i64 c, .int .i64 d]) := by rw [h1, h2]
theorem look1 {b : Bool} {L : List UInt8} {q : Nat} (h : ubit L q = b) : I64 (BitVec.ofNat 64 (natOf (ubits L q 1))) = if b then 1 else 0 := by
  have e : ubits L q 1 = [b] := by simp [ubits, h]
  rw [e]
  cases b <;> decide

set_option maxHeartbeats 3200000 in
theorem rrow_any (w w0 : World) (g p s : Nat) (L : List UInt8) (h : RN w w0 g L p s) :
    Calls Tryd.prog 34 #[.pointer (some ⟨g, 0, none⟩)] w0 fun e w' => e = .returned (.tuple #[.int .i64 (rowOut (rowS L p s 8 0)).1, .int .i64 (rowOut (rowS L p s 8 0)).2]) ∧ w0.grownBy w' none := by
  have HH : Hid (RN w w0 g L p s) := h
  have hpl := h.place
  have hmo := h.most
  have hby := h.bytes
  have HK : Hid (∀ w' r, p + r < s → RN w w' g L p s → Calls Tryd.prog 33 #[.pointer (some ⟨g, 0, none⟩), .int .i64 ((p + r : Nat) : Int), .int .i64 1] w' fun e w'' => e = .returned (.int .u64 (if ubit L (p + r) = true then 1 else 0)) ∧ w'' = w') := fun w' r hr hh => by
    obtain ⟨gb, c, g1, g2, g3⟩ := hh.here
    have := look_any g gb c p s L (p + r) 1 w' g2 g3 (by omega) (by omega) (by omega)
    rw [look1 rfl] at this
    exact this
  clear h hby
  generalize hR0 : rowS L p s 8 0 = R
  have HN : Hid (R = rowS L p s (8 - 0) 0) := hR0.symm
  clear hR0
  have hp2 : (p : Int) ≤ 8388608 := by omega
  have HPL : Hid (p ≤ s ∧ s ≤ 8388608) := ⟨hpl, hmo⟩
  clear hpl hmo
  go_enter Tryd.func34, Tryd.ntmps34
  go_wp2
  go_step3
  go_wp2
  go_step3
  go_wp2
  go_loopw [4] (fun i w2 => ∃ r : Nat, r ≤ 8 ∧ i = .int .i64 (r : Int) ∧ Hid (R = rowS L p s (8 - r) r ∧ p + r ≤ s ∧ RN w w2 g L p s ∧ w0.grownBy w2 none)) (fun i _ => 8 - (intOf i).toNat)
  case atStart => exact ⟨0, by omega, rfl, HN.out, by have := HPL.out.1; omega, HH.out, gb_refl _ _⟩
  case round =>
    obtain ⟨r, hr, rfl, hR⟩ := hrel
    clear HN
    by_cases h8 : r < 8
    · have hst := rowS_step L p s r h8
      rw [← hR.out.1] at hst
      by_cases hps : p + r = s
      · rw [if_pos hps] at hst
        subst hst
        have hll : Hid (((s - p : Nat) : Int) = (r : Int)) := by show ((s - p : Nat) : Int) = (r : Int); omega
        go_wp2_with fail
        refine (leftN w _ g p s L hR.out.2.2.1).mono ?_
        rintro e w1 ⟨he, hg1⟩
        rw [hll.out] at he
        subst he
        have H1 : Hid (w0.grownBy w1 none) := gb_none hR.out.2.2.2 hg1
        clear hg1 hR HK HH HPL hps
        go_wp2
        try rw [Exit.noGoto_ret]
        go_ret2
        exact ⟨rfl, H1.out⟩
      · rw [if_neg hps] at hst
        have hll : Hid (∃ q : Nat, ((s - p : Nat) : Int) = (q : Int) ∧ ((r : Int) == (q : Int)) = false) := ⟨s - p, rfl, by have := hR.out.2.1; simp; omega⟩
        obtain ⟨q, hq1, hq2⟩ := hll.out
        have HQ : Hid (((s - p : Nat) : Int) = (q : Int)) := hq1
        clear hq1 hll
        have hprs : p + r < s := by have := hR.out.2.1; omega
        cases hu : ubit L (p + r) with
        | true =>
          rw [hu, if_pos rfl] at hst
          have HL := HK.out
          have HL1 : Hid (∀ w', RN w w' g L p s → Calls Tryd.prog 33 #[.pointer (some ⟨g, 0, none⟩), .int .i64 ((p : Int) + (r : Int)), .int .i64 1] w' fun e w'' => e = .returned (.int .u64 1) ∧ w'' = w') := fun w' hh => by
            have := HL w' r hprs hh
            rw [hu] at this
            exact this
          have H0 : Hid (R = rowS L p s (8 - (r + 1)) (r + 1) ∧ p + (r + 1) ≤ s) := ⟨hst, by omega⟩
          clear HL HK hst hu hps hprs
          go_wp2_with fail
          refine (leftN w _ g p s L hR.out.2.2.1).mono ?_
          rintro e w1 ⟨he, hg1⟩
          rw [HQ.out] at he
          subst he
          have H1 : Hid (RN w w1 g L p s ∧ w0.grownBy w1 none) := ⟨hR.out.2.2.1.keep hg1, gb_none hR.out.2.2.2 hg1⟩
          have hcs : w1.cell? ⟨g, 1, none⟩ = some (.int .i64 (p : Int)) := by
            obtain ⟨gb, c, g1, g2, g3⟩ := H1.out.1.here
            exact g2.cells.2.1
          clear hg1 hR
          go_wp2_with fail
          refine (HL1.out _ H1.out.1).mono ?_
          rintro e w2 ⟨rfl, rfl⟩
          go_wp2
          go_roundw
          case rel => exact ⟨r + 1, by omega, by go_num, H0.out.1, H0.out.2, H1.out⟩
          case measure => simp [intOf]; omega
        | false =>
          rw [hu, if_neg (by simp)] at hst
          subst hst
          have HL := HK.out
          have HL1 : Hid (∀ w', RN w w' g L p s → Calls Tryd.prog 33 #[.pointer (some ⟨g, 0, none⟩), .int .i64 ((p : Int) + (r : Int)), .int .i64 1] w' fun e w'' => e = .returned (.int .u64 0) ∧ w'' = w') := fun w' hh => by
            have := HL w' r hprs hh
            rw [hu] at this
            exact this
          clear HL HK hu hps hprs
          go_wp2_with fail
          refine (leftN w _ g p s L hR.out.2.2.1).mono ?_
          rintro e w1 ⟨he, hg1⟩
          rw [HQ.out] at he
          subst he
          have H1 : Hid (RN w w1 g L p s ∧ w0.grownBy w1 none) := ⟨hR.out.2.2.1.keep hg1, gb_none hR.out.2.2.2 hg1⟩
          have hcs : w1.cell? ⟨g, 1, none⟩ = some (.int .i64 (p : Int)) := by
            obtain ⟨gb, c, g1, g2, g3⟩ := H1.out.1.here
            exact g2.cells.2.1
          clear hg1 hR
          go_wp2_with fail
          refine (HL1.out _ H1.out.1).mono ?_
          rintro e w2 ⟨rfl, rfl⟩
          go_wp2
          try rw [Exit.noGoto_ret]
          go_ret2
          exact ⟨rfl, H1.out.2⟩
    · obtain rfl : r = 8 := by omega
      have hst : R = some 8 := hR.out.1
      subst hst
      have H1 : Hid (w0.grownBy wr none) := hR.out.2.2.2
      clear hR HK HH HPL
      go_wp2
      try rw [Exit.noGoto_ret]
      go_ret2
      exact ⟨rfl, H1.out⟩

/-- the number that k bits say -/
def numN (v k : Nat) : Int := if k = 64 then wrap64 (v : Int) else if k = 0 ∨ v ≤ 2 ^ (k - 1) then (v : Int) else (v : Int) - ((2 ^ k : Nat) : Int)
theorem num0 (w : World) : Calls Tryd.prog 36 #[.int .u64 0, .int .i64 0] w fun e w' => e = .returned (.int .i64 0) ∧ w' = w := by
  go_enter Tryd.func36, Tryd.ntmps36
  go_wp2
  go_ret
  exact ⟨rfl, rfl⟩
theorem num64 (x : BitVec 64) (w : World) : Calls Tryd.prog 36 #[.int .u64 (I64 x), .int .i64 64] w fun e w' => e = .returned (.int .i64 (wrap64 (I64 x))) ∧ w' = w := by
  go_enter Tryd.func36, Tryd.ntmps36
  go_wp2
  go_ret
  exact ⟨rfl, rfl⟩
theorem num3 (z : Int) (w : World) (h0 : 0 ≤ z) (h1 : z < 8) : Calls Tryd.prog 36 #[.int .u64 z, .int .i64 3] w fun e w' => e = .returned (.int .i64 (if z ≤ 4 then z else z - 8)) ∧ w' = w := by
  by_cases h2 : z ≤ 4
  · rw [if_pos h2]
    go_enter Tryd.func36, Tryd.ntmps36
    go_wp2
    go_ret
    exact ⟨rfl, rfl⟩
  · rw [if_neg h2]
    go_enter Tryd.func36, Tryd.ntmps36
    go_wp2
    go_ret
    exact ⟨rfl, rfl⟩
theorem num6 (z : Int) (w : World) (h0 : 0 ≤ z) (h1 : z < 64) : Calls Tryd.prog 36 #[.int .u64 z, .int .i64 6] w fun e w' => e = .returned (.int .i64 (if z ≤ 32 then z else z - 64)) ∧ w' = w := by
  by_cases h2 : z ≤ 32
  · rw [if_pos h2]
    go_enter Tryd.func36, Tryd.ntmps36
    go_wp2
    go_ret
    exact ⟨rfl, rfl⟩
  · rw [if_neg h2]
    go_enter Tryd.func36, Tryd.ntmps36
    go_wp2
    go_ret
    exact ⟨rfl, rfl⟩
theorem num9 (z : Int) (w : World) (h0 : 0 ≤ z) (h1 : z < 512) : Calls Tryd.prog 36 #[.int .u64 z, .int .i64 9] w fun e w' => e = .returned (.int .i64 (if z ≤ 256 then z else z - 512)) ∧ w' = w := by
  by_cases h2 : z ≤ 256
  · rw [if_pos h2]
    go_enter Tryd.func36, Tryd.ntmps36
    go_wp2
    go_ret
    exact ⟨rfl, rfl⟩
  · rw [if_neg h2]
    go_enter Tryd.func36, Tryd.ntmps36
    go_wp2
    go_ret
    exact ⟨rfl, rfl⟩
theorem num12 (z : Int) (w : World) (h0 : 0 ≤ z) (h1 : z < 4096) : Calls Tryd.prog 36 #[.int .u64 z, .int .i64 12] w fun e w' => e = .returned (.int .i64 (if z ≤ 2048 then z else z - 4096)) ∧ w' = w := by
  by_cases h2 : z ≤ 2048
  · rw [if_pos h2]
    go_enter Tryd.func36, Tryd.ntmps36
    go_wp2
    go_ret
    exact ⟨rfl, rfl⟩
  · rw [if_neg h2]
    go_enter Tryd.func36, Tryd.ntmps36
    go_wp2
    go_ret
    exact ⟨rfl, rfl⟩
theorem num18 (z : Int) (w : World) (h0 : 0 ≤ z) (h1 : z < 262144) : Calls Tryd.prog 36 #[.int .u64 z, .int .i64 18] w fun e w' => e = .returned (.int .i64 (if z ≤ 131072 then z else z - 262144)) ∧ w' = w := by
  by_cases h2 : z ≤ 131072
  · rw [if_pos h2]
    go_enter Tryd.func36, Tryd.ntmps36
    go_wp2
    go_ret
    exact ⟨rfl, rfl⟩
  · rw [if_neg h2]
    go_enter Tryd.func36, Tryd.ntmps36
    go_wp2
    go_ret
    exact ⟨rfl, rfl⟩
theorem num25 (z : Int) (w : World) (h0 : 0 ≤ z) (h1 : z < 33554432) : Calls Tryd.prog 36 #[.int .u64 z, .int .i64 25] w fun e w' => e = .returned (.int .i64 (if z ≤ 16777216 then z else z - 33554432)) ∧ w' = w := by
  by_cases h2 : z ≤ 16777216
  · rw [if_pos h2]
    go_enter Tryd.func36, Tryd.ntmps36
    go_wp2
    go_ret
    exact ⟨rfl, rfl⟩
  · rw [if_neg h2]
    go_enter Tryd.func36, Tryd.ntmps36
    go_wp2
    go_ret
    exact ⟨rfl, rfl⟩
theorem num56 (z : Int) (w : World) (h0 : 0 ≤ z) (h1 : z < 72057594037927936) : Calls Tryd.prog 36 #[.int .u64 z, .int .i64 56] w fun e w' => e = .returned (.int .i64 (if z ≤ 36028797018963968 then z else z - 72057594037927936)) ∧ w' = w := by
  by_cases h2 : z ≤ 36028797018963968
  · rw [if_pos h2]
    go_enter Tryd.func36, Tryd.ntmps36
    go_wp2
    go_ret
    exact ⟨rfl, rfl⟩
  · rw [if_neg h2]
    go_enter Tryd.func36, Tryd.ntmps36
    go_wp2
    go_ret
    exact ⟨rfl, rfl⟩
theorem numN3 (v : Nat) : numN v 3 = if v ≤ 4 then (v : Int) else (v : Int) - 8 := by
  unfold numN
  rw [if_neg (by decide)]
  by_cases h : v ≤ 4
  · rw [if_pos h, if_pos (Or.inr h)]
  · rw [if_neg h, if_neg (by rintro (h1 | h1); exact absurd h1 (by decide); exact h h1)]
    rfl
theorem numN6 (v : Nat) : numN v 6 = if v ≤ 32 then (v : Int) else (v : Int) - 64 := by
  unfold numN
  rw [if_neg (by decide)]
  by_cases h : v ≤ 32
  · rw [if_pos h, if_pos (Or.inr h)]
  · rw [if_neg h, if_neg (by rintro (h1 | h1); exact absurd h1 (by decide); exact h h1)]
    rfl
theorem numN9 (v : Nat) : numN v 9 = if v ≤ 256 then (v : Int) else (v : Int) - 512 := by
  unfold numN
  rw [if_neg (by decide)]
  by_cases h : v ≤ 256
  · rw [if_pos h, if_pos (Or.inr h)]
  · rw [if_neg h, if_neg (by rintro (h1 | h1); exact absurd h1 (by decide); exact h h1)]
    rfl
theorem numN12 (v : Nat) : numN v 12 = if v ≤ 2048 then (v : Int) else (v : Int) - 4096 := by
  unfold numN
  rw [if_neg (by decide)]
  by_cases h : v ≤ 2048
  · rw [if_pos h, if_pos (Or.inr h)]
  · rw [if_neg h, if_neg (by rintro (h1 | h1); exact absurd h1 (by decide); exact h h1)]
    rfl
theorem numN18 (v : Nat) : numN v 18 = if v ≤ 131072 then (v : Int) else (v : Int) - 262144 := by
  unfold numN
  rw [if_neg (by decide)]
  by_cases h : v ≤ 131072
  · rw [if_pos h, if_pos (Or.inr h)]
  · rw [if_neg h, if_neg (by rintro (h1 | h1); exact absurd h1 (by decide); exact h h1)]
    rfl
theorem numN25 (v : Nat) : numN v 25 = if v ≤ 16777216 then (v : Int) else (v : Int) - 33554432 := by
  unfold numN
  rw [if_neg (by decide)]
  by_cases h : v ≤ 16777216
  · rw [if_pos h, if_pos (Or.inr h)]
  · rw [if_neg h, if_neg (by rintro (h1 | h1); exact absurd h1 (by decide); exact h h1)]
    rfl
theorem numN56 (v : Nat) : numN v 56 = if v ≤ 36028797018963968 then (v : Int) else (v : Int) - 72057594037927936 := by
  unfold numN
  rw [if_neg (by decide)]
  by_cases h : v ≤ 36028797018963968
  · rw [if_pos h, if_pos (Or.inr h)]
  · rw [if_neg h, if_neg (by rintro (h1 | h1); exact absurd h1 (by decide); exact h h1)]
    rfl
theorem number_any (v r : Nat) (hr : r ≤ 8) (hv : v < 2 ^ wd r) (w : World) : Calls Tryd.prog 36 #[.int .u64 (I64 (BitVec.ofNat 64 v)), .int .i64 (wd r : Int)] w fun e w' => e = .returned (.int .i64 (numN v (wd r))) ∧ w' = w := by
  rcases (show r = 0 ∨ r = 1 ∨ r = 2 ∨ r = 3 ∨ r = 4 ∨ r = 5 ∨ r = 6 ∨ r = 7 ∨ r = 8 by omega) with rfl | rfl | rfl | rfl | rfl | rfl | rfl | rfl | rfl
  · have hw : wd 0 = 0 := rfl
    rw [hw, Nat.pow_zero] at hv
    rw [hw]
    obtain rfl : v = 0 := by omega
    have e : numN 0 0 = 0 := by unfold numN; rw [if_neg (by decide), if_pos (Or.inl rfl)]; rfl
    rw [e, ← u64_lit (by decide)]
    exact num0 w
  · have hw : wd 1 = 3 := rfl
    have hp : (2 : Nat) ^ 3 = 8 := by decide
    rw [hw, hp] at hv
    rw [hw, ← u64_lit (by omega)]
    have hc := num3 (v : Int) w (by omega) (by omega)
    have e : numN v 3 = if (v : Int) ≤ 4 then (v : Int) else (v : Int) - 8 := by
      rw [numN3 v]
      by_cases h : v ≤ 4
      · rw [if_pos h, if_pos (by omega)]
      · rw [if_neg h, if_neg (by omega)]
    rw [e]
    exact hc
  · have hw : wd 2 = 6 := rfl
    have hp : (2 : Nat) ^ 6 = 64 := by decide
    rw [hw, hp] at hv
    rw [hw, ← u64_lit (by omega)]
    have hc := num6 (v : Int) w (by omega) (by omega)
    have e : numN v 6 = if (v : Int) ≤ 32 then (v : Int) else (v : Int) - 64 := by
      rw [numN6 v]
      by_cases h : v ≤ 32
      · rw [if_pos h, if_pos (by omega)]
      · rw [if_neg h, if_neg (by omega)]
    rw [e]
    exact hc
  · have hw : wd 3 = 9 := rfl
    have hp : (2 : Nat) ^ 9 = 512 := by decide
    rw [hw, hp] at hv
    rw [hw, ← u64_lit (by omega)]
    have hc := num9 (v : Int) w (by omega) (by omega)
    have e : numN v 9 = if (v : Int) ≤ 256 then (v : Int) else (v : Int) - 512 := by
      rw [numN9 v]
      by_cases h : v ≤ 256
      · rw [if_pos h, if_pos (by omega)]
      · rw [if_neg h, if_neg (by omega)]
    rw [e]
    exact hc
  · have hw : wd 4 = 12 := rfl
    have hp : (2 : Nat) ^ 12 = 4096 := by decide
    rw [hw, hp] at hv
    rw [hw, ← u64_lit (by omega)]
    have hc := num12 (v : Int) w (by omega) (by omega)
    have e : numN v 12 = if (v : Int) ≤ 2048 then (v : Int) else (v : Int) - 4096 := by
      rw [numN12 v]
      by_cases h : v ≤ 2048
      · rw [if_pos h, if_pos (by omega)]
      · rw [if_neg h, if_neg (by omega)]
    rw [e]
    exact hc
  · have hw : wd 5 = 18 := rfl
    have hp : (2 : Nat) ^ 18 = 262144 := by decide
    rw [hw, hp] at hv
    rw [hw, ← u64_lit (by omega)]
    have hc := num18 (v : Int) w (by omega) (by omega)
    have e : numN v 18 = if (v : Int) ≤ 131072 then (v : Int) else (v : Int) - 262144 := by
      rw [numN18 v]
      by_cases h : v ≤ 131072
      · rw [if_pos h, if_pos (by omega)]
      · rw [if_neg h, if_neg (by omega)]
    rw [e]
    exact hc
  · have hw : wd 6 = 25 := rfl
    have hp : (2 : Nat) ^ 25 = 33554432 := by decide
    rw [hw, hp] at hv
    rw [hw, ← u64_lit (by omega)]
    have hc := num25 (v : Int) w (by omega) (by omega)
    have e : numN v 25 = if (v : Int) ≤ 16777216 then (v : Int) else (v : Int) - 33554432 := by
      rw [numN25 v]
      by_cases h : v ≤ 16777216
      · rw [if_pos h, if_pos (by omega)]
      · rw [if_neg h, if_neg (by omega)]
    rw [e]
    exact hc
  · have hw : wd 7 = 56 := rfl
    have hp : (2 : Nat) ^ 56 = 72057594037927936 := by decide
    rw [hw, hp] at hv
    rw [hw, ← u64_lit (by omega)]
    have hc := num56 (v : Int) w (by omega) (by omega)
    have e : numN v 56 = if (v : Int) ≤ 36028797018963968 then (v : Int) else (v : Int) - 72057594037927936 := by
      rw [numN56 v]
      by_cases h : v ≤ 36028797018963968
      · rw [if_pos h, if_pos (by omega)]
      · rw [if_neg h, if_neg (by omega)]
    rw [e]
    exact hc
  · have hw : wd 8 = 64 := rfl
    have hp : (2 : Nat) ^ 64 = 18446744073709551616 := by decide
    rw [hw, hp] at hv
    rw [hw]
    have hc := num64 (BitVec.ofNat 64 v) w
    have e : numN v 64 = wrap64 (v : Int) := by unfold numN; rw [if_pos rfl]
    rw [← u64_lit hv] at hc ⊢
    rw [e]
    exact hc
end Go.Proofs.YtgbpnkamamafjabDoor
