/-
  A chunk's stream: what inR, formOf, lowest and (*Chunk).putTurn come to, whatever the turn: the walks.
-/
import Derived.Test.YtkiefmhampfhoaaDoorGB
import Derived.Test.YtkiefmhampfhoaaDoorCk3
namespace Go.Proofs.YtkiefmhampfhoaaDoor
open Go.RowKit
variable {R : Rst}

theorem formN_one (d : Int) (h : d ≠ 0) : formN d ≤ 1 ↔ (-8192 < d ∧ d ≤ 8192) := by
  unfold formN
  rw [if_neg h]
  split
  · simp; omega
  · split
    · simp; omega
    · split <;> simp <;> omega
theorem formN_two (d : Int) (h : d ≠ 0) : formN d ≤ 2 ↔ (-65536 < d ∧ d ≤ 65536) := by
  unfold formN
  rw [if_neg h]
  split
  · simp; omega
  · split
    · simp; omega
    · split <;> simp <;> omega
theorem formN_three (d : Int) (h : d ≠ 0) : formN d ≤ 3 ↔ (-524288 < d ∧ d ≤ 524288) := by
  unfold formN
  rw [if_neg h]
  split
  · simp; omega
  · split
    · simp; omega
    · split <;> simp <;> omega
theorem formN_pos (d : Int) (h : d ≠ 0) : 1 ≤ formN d := by
  unfold formN
  rw [if_neg h]
  split
  · omega
  · split
    · omega
    · split <;> omega

theorem inR_any (d : Int) (z : Nat) (h0 : d ≠ 0) (hz : z = 1 ∨ z = 2 ∨ z = 3) (w : World) :
    Calls Tryd.prog 98 #[.int .i64 d, .int .i64 (tw z : Int)] w fun e w' => e = .returned (.bool (decide (formN d ≤ z))) ∧ w.grownBy w' none := by
  have key : ∀ (h : Int), (z = 1 ∧ h = 8192 ∨ z = 2 ∧ h = 65536 ∨ z = 3 ∧ h = 524288) → (formN d ≤ z ↔ (-h < d ∧ d ≤ h)) := by
    rintro h (⟨rfl, rfl⟩ | ⟨rfl, rfl⟩ | ⟨rfl, rfl⟩)
    · exact formN_one d h0
    · exact formN_two d h0
    · exact formN_three d h0
  have fin : ∀ (h : Int), (z = 1 ∧ h = 8192 ∨ z = 2 ∧ h = 65536 ∨ z = 3 ∧ h = 524288) → ∀ b : Bool, (b = true ↔ (-h < d ∧ d ≤ h)) → decide (formN d ≤ z) = b := by
    intro h hh b hb
    have := key h hh
    cases b
    · exact decide_eq_false (fun e => by have := hb.2 (this.1 e); cases this)
    · exact decide_eq_true (this.2 (hb.1 rfl))
  rcases hz with rfl | rfl | rfl
  · show Calls Tryd.prog 98 #[.int .i64 d, .int .i64 14] w _
    by_cases h1 : (-8192 : Int) < d
    · by_cases h2 : d ≤ 8192
      · have H : Hid (decide (formN d ≤ 1) = true) := fin 8192 (.inl ⟨rfl, rfl⟩) true (by simp; exact ⟨h1, h2⟩)
        clear key fin
        generalize decide (formN d ≤ 1) = b at *
        go_enter Tryd.func98, Tryd.ntmps98
        go_wp2
        go_ret
        exact ⟨ret_bool H.out.symm, gb_refl _ _⟩
      · have H : Hid (decide (formN d ≤ 1) = false) := fin 8192 (.inl ⟨rfl, rfl⟩) false (by simp; intro _; omega)
        clear key fin
        generalize decide (formN d ≤ 1) = b at *
        go_enter Tryd.func98, Tryd.ntmps98
        go_wp2
        go_ret
        exact ⟨ret_bool H.out.symm, gb_refl _ _⟩
    · have H : Hid (decide (formN d ≤ 1) = false) := fin 8192 (.inl ⟨rfl, rfl⟩) false (by simp; intro _; omega)
      clear key fin
      generalize decide (formN d ≤ 1) = b at *
      go_enter Tryd.func98, Tryd.ntmps98
      go_wp2
      go_ret
      exact ⟨ret_bool H.out.symm, gb_refl _ _⟩
  · show Calls Tryd.prog 98 #[.int .i64 d, .int .i64 17] w _
    by_cases h1 : (-65536 : Int) < d
    · by_cases h2 : d ≤ 65536
      · have H : Hid (decide (formN d ≤ 2) = true) := fin 65536 (.inr (.inl ⟨rfl, rfl⟩)) true (by simp; exact ⟨h1, h2⟩)
        clear key fin
        generalize decide (formN d ≤ 2) = b at *
        go_enter Tryd.func98, Tryd.ntmps98
        go_wp2
        go_ret
        exact ⟨ret_bool H.out.symm, gb_refl _ _⟩
      · have H : Hid (decide (formN d ≤ 2) = false) := fin 65536 (.inr (.inl ⟨rfl, rfl⟩)) false (by simp; intro _; omega)
        clear key fin
        generalize decide (formN d ≤ 2) = b at *
        go_enter Tryd.func98, Tryd.ntmps98
        go_wp2
        go_ret
        exact ⟨ret_bool H.out.symm, gb_refl _ _⟩
    · have H : Hid (decide (formN d ≤ 2) = false) := fin 65536 (.inr (.inl ⟨rfl, rfl⟩)) false (by simp; intro _; omega)
      clear key fin
      generalize decide (formN d ≤ 2) = b at *
      go_enter Tryd.func98, Tryd.ntmps98
      go_wp2
      go_ret
      exact ⟨ret_bool H.out.symm, gb_refl _ _⟩
  · show Calls Tryd.prog 98 #[.int .i64 d, .int .i64 20] w _
    by_cases h1 : (-524288 : Int) < d
    · by_cases h2 : d ≤ 524288
      · have H : Hid (decide (formN d ≤ 3) = true) := fin 524288 (.inr (.inr ⟨rfl, rfl⟩)) true (by simp; exact ⟨h1, h2⟩)
        clear key fin
        generalize decide (formN d ≤ 3) = b at *
        go_enter Tryd.func98, Tryd.ntmps98
        go_wp2
        go_ret
        exact ⟨ret_bool H.out.symm, gb_refl _ _⟩
      · have H : Hid (decide (formN d ≤ 3) = false) := fin 524288 (.inr (.inr ⟨rfl, rfl⟩)) false (by simp; intro _; omega)
        clear key fin
        generalize decide (formN d ≤ 3) = b at *
        go_enter Tryd.func98, Tryd.ntmps98
        go_wp2
        go_ret
        exact ⟨ret_bool H.out.symm, gb_refl _ _⟩
    · have H : Hid (decide (formN d ≤ 3) = false) := fin 524288 (.inr (.inr ⟨rfl, rfl⟩)) false (by simp; intro _; omega)
      clear key fin
      generalize decide (formN d ≤ 3) = b at *
      go_enter Tryd.func98, Tryd.ntmps98
      go_wp2
      go_ret
      exact ⟨ret_bool H.out.symm, gb_refl _ _⟩

set_option maxHeartbeats 1600000 in
theorem formOf_any (d : Int) (w : World) (hT : TabC w) : Calls Tryd.prog 80 #[.int .i64 d] w fun e w' => e = .returned (.int .i64 (formN d : Int)) ∧ w.grownBy w' none := by
  by_cases h0 : d = 0
  · subst h0
    exact formOf_zero w hT
  · have hb0 : (d == 0) = false := by simpa using h0
    have HT : Hid (TabC w) := hT
    have HI : Hid (∀ z, z = 1 ∨ z = 2 ∨ z = 3 → ∀ W, Calls Tryd.prog 98 #[.int .i64 d, .int .i64 (tw z : Int)] W fun e w' => e = .returned (.bool (decide (formN d ≤ z))) ∧ W.grownBy w' none) := fun z hz W => inR_any d z h0 hz W
    have HF : Hid (1 ≤ formN d ∧ formN d ≤ 4) := ⟨formN_pos d h0, formN_le d⟩
    clear hT
    generalize formN d = F at *
    go_enter Tryd.func80, Tryd.ntmps80
    go_wp2
    go_step3
    go_wp2
    go_step3
    go_wp2
    go_loopw [3] (fun i wr => ∃ z : Nat, z ≤ 4 ∧ i = .int .i64 z ∧ Hid (z ≤ F ∧ w.grownBy wr none)) (fun i _ => 4 - (intOf i).toNat)
    case atStart => exact ⟨0, by omega, rfl, Nat.zero_le _, gb_refl _ _⟩
    case round =>
      obtain ⟨z, hz, rfl, hr⟩ := hrel
      rcases (show z = 0 ∨ z = 1 ∨ z = 2 ∨ z = 3 ∨ z = 4 by omega) with rfl | rfl | rfl | rfl | rfl
      · have t0 : wr.cell? ⟨1, 0, none⟩ = some (.int .i64 0) := (HT.out.keep hr.out.2) 0 (by omega)
        have HR : Hid (1 ≤ F ∧ w.grownBy wr none) := ⟨HF.out.1, hr.out.2⟩
        clear hr
        go_wp2
        go_roundw
        case rel => exact ⟨1, by omega, rfl, HR⟩
        case measure => simp [intOf]
      · have t0 : wr.cell? ⟨1, 1, none⟩ = some (.int .i64 14) := (HT.out.keep hr.out.2) 1 (by omega)
        have HI1 : Hid (Calls Tryd.prog 98 #[.int .i64 d, .int .i64 14] wr fun e w' => e = .returned (.bool (decide (F ≤ 1))) ∧ wr.grownBy w' none) := HI.out 1 (by omega) wr
        by_cases hF : F ≤ 1
        · have HE : Hid (((1 : Nat) : Int) = (F : Int) ∧ w.grownBy wr none) := ⟨by have := hr.out.1; omega, hr.out.2⟩
          rw [decide_eq_true hF] at HI1
          clear hr hF
          go_wp2_with fail
          refine HI1.out.mono ?_
          rintro e w1 ⟨rfl, hg1⟩
          have H1 : Hid (w.grownBy w1 none) := gb_none HE.out.2 hg1
          clear hg1 HI1
          go_wp2
          try rw [Exit.noGoto_ret]
          go_ret
          exact ⟨ret_int HE.out.1, H1.out⟩
        · have HE : Hid (2 ≤ F ∧ w.grownBy wr none) := ⟨by omega, hr.out.2⟩
          rw [decide_eq_false hF] at HI1
          clear hr hF
          go_wp2_with fail
          refine HI1.out.mono ?_
          rintro e w1 ⟨rfl, hg1⟩
          have H1 : Hid (2 ≤ F ∧ w.grownBy w1 none) := ⟨HE.out.1, gb_none HE.out.2 hg1⟩
          clear hg1 HI1 HE
          go_wp2
          go_roundw
          case rel => exact ⟨2, by omega, rfl, H1⟩
          case measure => simp [intOf]
      · have t0 : wr.cell? ⟨1, 2, none⟩ = some (.int .i64 17) := (HT.out.keep hr.out.2) 2 (by omega)
        have HI1 : Hid (Calls Tryd.prog 98 #[.int .i64 d, .int .i64 17] wr fun e w' => e = .returned (.bool (decide (F ≤ 2))) ∧ wr.grownBy w' none) := HI.out 2 (by omega) wr
        by_cases hF : F ≤ 2
        · have HE : Hid (((2 : Nat) : Int) = (F : Int) ∧ w.grownBy wr none) := ⟨by have := hr.out.1; omega, hr.out.2⟩
          rw [decide_eq_true hF] at HI1
          clear hr hF
          go_wp2_with fail
          refine HI1.out.mono ?_
          rintro e w1 ⟨rfl, hg1⟩
          have H1 : Hid (w.grownBy w1 none) := gb_none HE.out.2 hg1
          clear hg1 HI1
          go_wp2
          try rw [Exit.noGoto_ret]
          go_ret
          exact ⟨ret_int HE.out.1, H1.out⟩
        · have HE : Hid (3 ≤ F ∧ w.grownBy wr none) := ⟨by omega, hr.out.2⟩
          rw [decide_eq_false hF] at HI1
          clear hr hF
          go_wp2_with fail
          refine HI1.out.mono ?_
          rintro e w1 ⟨rfl, hg1⟩
          have H1 : Hid (3 ≤ F ∧ w.grownBy w1 none) := ⟨HE.out.1, gb_none HE.out.2 hg1⟩
          clear hg1 HI1 HE
          go_wp2
          go_roundw
          case rel => exact ⟨3, by omega, rfl, H1⟩
          case measure => simp [intOf]
      · have t0 : wr.cell? ⟨1, 3, none⟩ = some (.int .i64 20) := (HT.out.keep hr.out.2) 3 (by omega)
        have HI1 : Hid (Calls Tryd.prog 98 #[.int .i64 d, .int .i64 20] wr fun e w' => e = .returned (.bool (decide (F ≤ 3))) ∧ wr.grownBy w' none) := HI.out 3 (by omega) wr
        by_cases hF : F ≤ 3
        · have HE : Hid (((3 : Nat) : Int) = (F : Int) ∧ w.grownBy wr none) := ⟨by have := hr.out.1; omega, hr.out.2⟩
          rw [decide_eq_true hF] at HI1
          clear hr hF
          go_wp2_with fail
          refine HI1.out.mono ?_
          rintro e w1 ⟨rfl, hg1⟩
          have H1 : Hid (w.grownBy w1 none) := gb_none HE.out.2 hg1
          clear hg1 HI1
          go_wp2
          try rw [Exit.noGoto_ret]
          go_ret
          exact ⟨ret_int HE.out.1, H1.out⟩
        · have HE : Hid (4 ≤ F ∧ w.grownBy wr none) := ⟨by omega, hr.out.2⟩
          rw [decide_eq_false hF] at HI1
          clear hr hF
          go_wp2_with fail
          refine HI1.out.mono ?_
          rintro e w1 ⟨rfl, hg1⟩
          have H1 : Hid (4 ≤ F ∧ w.grownBy w1 none) := ⟨HE.out.1, gb_none HE.out.2 hg1⟩
          clear hg1 HI1 HE
          go_wp2
          go_roundw
          case rel => exact ⟨4, by omega, rfl, H1⟩
          case measure => simp [intOf]
      · have HE : Hid (((4 : Nat) : Int) = (F : Int) ∧ w.grownBy wr none) := ⟨by have := hr.out.1; have := HF.out.2; omega, hr.out.2⟩
        clear hr
        go_wp2
        try rw [Exit.noGoto_ret]
        go_ret
        exact ⟨ret_int HE.out.1, HE.out.2⟩

/-- the lowest bits -/
theorem lowest_any (x : BitVec 64) (n : Nat) (hn : n = 0 ∨ n = 6 ∨ n = 14 ∨ n = 17 ∨ n = 20 ∨ n = 64) (w : World) : Calls Tryd.prog 81 #[.int .u64 (I64 x), .int .i64 (n : Int)] w fun e w' => e = .returned (.int .u64 ((x.toNat % 2 ^ n : Nat) : Int)) ∧ w' = w := by
  rcases hn with rfl | rfl | rfl | rfl | rfl | rfl
  · show Calls Tryd.prog 81 #[.int .u64 (I64 x), .int .i64 0] w _
    have H : Hid (IntKind.u64.wrap (I64 x * 18446744073709551616) / 18446744073709551616 = ((x.toNat % 2 ^ 0 : Nat) : Int)) := by
      show IntKind.u64.wrap (I64 x * 18446744073709551616) / 18446744073709551616 = ((x.toNat % 2 ^ 0 : Nat) : Int)
      have hx := x.isLt
      rw [IntKind.wrap_u64]
      unfold I64
      simp only [show (2 : Nat) ^ 0 = 1 by decide]
      omega
    go_enter Tryd.func81, Tryd.ntmps81
    go_wp2
    go_ret
    exact ⟨ret_int H.out, rfl⟩
  · show Calls Tryd.prog 81 #[.int .u64 (I64 x), .int .i64 6] w _
    have H : Hid (IntKind.u64.wrap (I64 x * 288230376151711744) / 288230376151711744 = ((x.toNat % 2 ^ 6 : Nat) : Int)) := by
      show IntKind.u64.wrap (I64 x * 288230376151711744) / 288230376151711744 = ((x.toNat % 2 ^ 6 : Nat) : Int)
      have hx := x.isLt
      rw [IntKind.wrap_u64]
      unfold I64
      simp only [show (2 : Nat) ^ 6 = 64 by decide]
      omega
    go_enter Tryd.func81, Tryd.ntmps81
    go_wp2
    go_ret
    exact ⟨ret_int H.out, rfl⟩
  · show Calls Tryd.prog 81 #[.int .u64 (I64 x), .int .i64 14] w _
    have H : Hid (IntKind.u64.wrap (I64 x * 1125899906842624) / 1125899906842624 = ((x.toNat % 2 ^ 14 : Nat) : Int)) := by
      show IntKind.u64.wrap (I64 x * 1125899906842624) / 1125899906842624 = ((x.toNat % 2 ^ 14 : Nat) : Int)
      have hx := x.isLt
      rw [IntKind.wrap_u64]
      unfold I64
      simp only [show (2 : Nat) ^ 14 = 16384 by decide]
      omega
    go_enter Tryd.func81, Tryd.ntmps81
    go_wp2
    go_ret
    exact ⟨ret_int H.out, rfl⟩
  · show Calls Tryd.prog 81 #[.int .u64 (I64 x), .int .i64 17] w _
    have H : Hid (IntKind.u64.wrap (I64 x * 140737488355328) / 140737488355328 = ((x.toNat % 2 ^ 17 : Nat) : Int)) := by
      show IntKind.u64.wrap (I64 x * 140737488355328) / 140737488355328 = ((x.toNat % 2 ^ 17 : Nat) : Int)
      have hx := x.isLt
      rw [IntKind.wrap_u64]
      unfold I64
      simp only [show (2 : Nat) ^ 17 = 131072 by decide]
      omega
    go_enter Tryd.func81, Tryd.ntmps81
    go_wp2
    go_ret
    exact ⟨ret_int H.out, rfl⟩
  · show Calls Tryd.prog 81 #[.int .u64 (I64 x), .int .i64 20] w _
    have H : Hid (IntKind.u64.wrap (I64 x * 17592186044416) / 17592186044416 = ((x.toNat % 2 ^ 20 : Nat) : Int)) := by
      show IntKind.u64.wrap (I64 x * 17592186044416) / 17592186044416 = ((x.toNat % 2 ^ 20 : Nat) : Int)
      have hx := x.isLt
      rw [IntKind.wrap_u64]
      unfold I64
      simp only [show (2 : Nat) ^ 20 = 1048576 by decide]
      omega
    go_enter Tryd.func81, Tryd.ntmps81
    go_wp2
    go_ret
    exact ⟨ret_int H.out, rfl⟩
  · show Calls Tryd.prog 81 #[.int .u64 (I64 x), .int .i64 64] w _
    have H : Hid (IntKind.u64.wrap (I64 x * 1) / 1 = ((x.toNat % 2 ^ 64 : Nat) : Int)) := by
      show IntKind.u64.wrap (I64 x * 1) / 1 = ((x.toNat % 2 ^ 64 : Nat) : Int)
      have hx := x.isLt
      rw [IntKind.wrap_u64]
      unfold I64
      simp only [show (2 : Nat) ^ 64 = 18446744073709551616 by decide]
      omega
    rw [show I64 x * (1 : Int) = I64 x from Int.mul_one _, Int.ediv_one] at H
    go_enter Tryd.func81, Tryd.ntmps81
    go_wp2
    go_ret
    exact ⟨ret_int H.out, rfl⟩

theorem tw_one (F : Nat) (h : F ≤ 4) : tw F = 0 ∨ tw F = 6 ∨ tw F = 14 ∨ tw F = 17 ∨ tw F = 20 ∨ tw F = 64 := by
  rcases (show F = 0 ∨ F = 1 ∨ F = 2 ∨ F = 3 ∨ F = 4 by omega) with rfl | rfl | rfl | rfl | rfl <;> simp [tw]
theorem U64_wrap (d : Int) : IntKind.u64.wrap d = I64 (BitVec.ofNat 64 (U64 d)) := by
  have := U64_lt d
  rw [I64_of this, IntKind.wrap_u64]
  unfold U64
  omega
theorem rep_snoc (bs : List Bool) (z : Nat) : bs ++ List.replicate (z + 1) true = bs ++ List.replicate z true ++ [true] := by rw [List.replicate_succ', List.append_assoc]

set_option maxRecDepth 8000 in
set_option maxHeartbeats 3200000 in
theorem putTurn_any (g : Nat) (v : Value) (bs : List Bool) (d : Int) (w : World) (hw : Wr R w g v bs) (hT : TabC w) (hg : g ≠ 1) (hv : v.ownBlock ≠ some 1) (hsz : bs.length + 100 ≤ 8388608) :
    Calls Tryd.prog 56 #[.pointer (some ⟨g, 0, none⟩), .int .i64 d] w fun e w' => e = .returned (.tuple #[]) ∧ ∃ v', Wr R w' g v' (bs ++ turnB d) ∧ Fw w w' g v v' := by
  have HW : Hid (Wr R w g v bs ∧ TabC w ∧ g ≠ 1 ∧ v.ownBlock ≠ some 1) := ⟨hw, hT, hg, hv⟩
  have HX : Hid (IntKind.u64.wrap d = I64 (BitVec.ofNat 64 (U64 d))) := U64_wrap d
  have HF : Hid (formN d ≤ 4 ∧ (tw (formN d) = 0 ∨ tw (formN d) = 6 ∨ tw (formN d) = 14 ∨ tw (formN d) = 17 ∨ tw (formN d) = 20 ∨ tw (formN d) = 64) ∧ (BitVec.ofNat 64 (U64 d)).toNat = U64 d ∧ turnB d = headB (formN d) ++ bitsOf (U64 d % 2 ^ tw (formN d)) (tw (formN d))) :=
    ⟨formN_le d, tw_one _ (formN_le d), by rw [BitVec.toNat_ofNat, Nat.mod_eq_of_lt (U64_lt d)], rfl⟩
  have HFo : Hid (∀ W, TabC W → Calls Tryd.prog 80 #[.int .i64 d] W fun e w' => e = .returned (.int .i64 (formN d : Int)) ∧ W.grownBy w' none) := fun W h => formOf_any d W h
  have hF4 : formN d ≤ 4 := formN_le d
  clear hw hT hg hv
  generalize formN d = F at *
  generalize turnB d = tb at *
  generalize U64 d = ud at *
  go_enter Tryd.func56, Tryd.ntmps56
  go_wp2_with fail
  refine (HFo.out _ HW.out.2.1).mono ?_
  rintro e w1 ⟨rfl, hg1⟩
  have H1 : Hid (Wr R w1 g v bs ∧ TabC w1 ∧ w.grownBy w1 none) := ⟨HW.out.1.keep hg1, HW.out.2.1.keep hg1, hg1⟩
  clear hg1 HFo
  go_wp2_with fail
  go_loopw [9] (fun i wr => ∃ z : Nat, z ≤ F ∧ i = .int .i64 z ∧ Hid (∃ v', Wr R wr g v' (bs ++ List.replicate z true) ∧ Fw w1 wr g v v')) (fun i _ => F - (intOf i).toNat)
  case atStart => exact ⟨0, by omega, rfl, v, by simpa using H1.out.1, Fw.refl _ _ _⟩
  case round =>
    obtain ⟨z, hz, rfl, hr⟩ := hrel
    by_cases hlt : z < F
    · have hzi : (z : Int) < (F : Int) := by omega
      have HB : Hid (Calls Tryd.prog 78 #[.pointer (some ⟨g, 0, none⟩), .bool true] wr fun e w' => e = .returned (.int .i64 0) ∧ ∃ v', Wr R w' g v' (bs ++ List.replicate (z + 1) true) ∧ Fw w1 w' g v v') := by
        obtain ⟨v', h1, h2⟩ := hr.out
        refine (wbit_ok g v' _ true _ h1 (by rw [List.length_append, List.length_replicate]; omega)).mono ?_
        rintro e w2 ⟨rfl, v2, h3, h4⟩
        exact ⟨rfl, v2, by rw [rep_snoc]; exact h3, h2.trans h4⟩
      clear hr
      go_wp2_with fail
      refine HB.out.mono ?_
      rintro e w2 ⟨rfl, hq⟩
      have H2 : Hid (∃ v', Wr R w2 g v' (bs ++ List.replicate (z + 1) true) ∧ Fw w1 w2 g v v') := hq
      clear hq HB
      go_wp2
      go_roundw
      case rel => exact ⟨z + 1, by omega, by go_num, H2⟩
      case measure => simp [intOf]; omega
    · obtain rfl : z = F := by omega
      have hzi : ¬ (z : Int) < (z : Int) := by omega
      have HEnd : Hid (∀ W v2, Wr R W g v2 (bs ++ headB z) → Fw w1 W g v v2 → Hid (W.cell? ⟨1, z, none⟩ = some (.int .i64 (tw z : Int))) ∧ Hid (∀ X W1, X = ((ud % 2 ^ tw z : Nat) : Int) → W.grownBy W1 none → Calls Tryd.prog 52 #[.pointer (some ⟨g, 0, none⟩), .int .u64 X, .int .i64 (tw z : Int)] W1 fun e w' => e = .returned (.int .i64 0) ∧ Hid (∃ v', Wr R w' g v' (bs ++ tb) ∧ Fw w w' g v v'))) := fun W v2 h1 h2 => by
        refine ⟨(H1.out.2.1.fw h2 HW.out.2.2.1 HW.out.2.2.2) z (by omega), fun X W1 hX hW => ?_⟩
        have hm : ud % 2 ^ tw z < 2 ^ tw z := Nat.mod_lt _ (Nat.pow_pos (by decide))
        have htw := tw_le z
        have h64 : ud % 2 ^ tw z < 18446744073709551616 := Nat.lt_of_lt_of_le hm (Nat.pow_le_pow_right (by decide : 2 > 0) htw)
        have e64 : (BitVec.ofNat 64 (ud % 2 ^ tw z)).toNat = ud % 2 ^ tw z := by rw [BitVec.toNat_ofNat]; exact Nat.mod_eq_of_lt h64
        have hhl := headB_len (k := z) (by omega)
        refine (wbits_eq g v2 _ (BitVec.ofNat 64 (ud % 2 ^ tw z)) (tw z) X _ (by rw [hX, I64_of h64]) rfl W1 (h1.keep hW) htw (by rw [e64]; exact hm) (by rw [List.length_append]; omega)).mono ?_
        rintro e w4 ⟨rfl, v4, h3, h4⟩
        rw [e64, List.append_assoc, ← HF.out.2.2.2] at h3
        exact ⟨rfl, v4, h3, Fw.pre H1.out.2.2 ((h2.trans (Fw.of_none hW g v2)).trans h4)⟩
      have HLo : Hid (∀ X W1, X = I64 (BitVec.ofNat 64 ud) → Calls Tryd.prog 81 #[.int .u64 X, .int .i64 (tw z : Int)] W1 fun e w' => e = .returned (.int .u64 ((ud % 2 ^ tw z : Nat) : Int)) ∧ w' = W1) := fun X W1 hX => by
        have := lowest_any (BitVec.ofNat 64 ud) (tw z) HF.out.2.1 W1
        rw [HF.out.2.2.1] at this
        rw [hX]
        exact this
      clear H1
      by_cases h4 : z < 4
      · have h4i : (z : Int) < 4 := by omega
        have HB : Hid (Calls Tryd.prog 78 #[.pointer (some ⟨g, 0, none⟩), .bool false] wr fun e w' => e = .returned (.int .i64 0) ∧ ∃ v', Wr R w' g v' (bs ++ headB z) ∧ Fw w1 w' g v v') := by
          obtain ⟨v', h1, h2⟩ := hr.out
          refine (wbit_ok g v' _ false _ h1 (by rw [List.length_append, List.length_replicate]; omega)).mono ?_
          rintro e w2 ⟨rfl, v2, h3, h4'⟩
          refine ⟨rfl, v2, ?_, h2.trans h4'⟩
          unfold headB
          rw [if_pos h4, ← List.append_assoc]
          exact h3
        clear hr
        go_wp2_with fail
        refine HB.out.mono ?_
        rintro e w2 ⟨rfl, v2, h2, h3⟩
        obtain ⟨t0, HBi⟩ := HEnd.out w2 v2 h2 h3
        have t0 := t0.out
        clear h2 h3 HB HEnd
        generalize tw z = wz at *
        generalize ud % 2 ^ wz = lo at *
        go_wp2_with fail
        go_region_held3 (fun _ => True) (go_keep)
          (first
            | (go_at_call 81; refine (HLo.out _ _ HX.out).mono ?_; rintro e w3 ⟨rfl, rfl⟩)
            | (go_at_call 52; refine (HBi.out _ _ rfl ?_).mono ?_; (first | exact gb_refl _ _ | exact gb_drew _ _); rintro e w4 ⟨rfl, H4⟩))
        clear HBi HLo
        go_wp2
        go_end0
        exact ⟨rfl, H4.out⟩
      · have h4i : ¬ (z : Int) < 4 := by omega
        obtain ⟨v2, h2, h3⟩ := hr.out
        have h2' : Wr R wr g v2 (bs ++ headB z) := by
          unfold headB
          rw [if_neg h4, List.append_nil]
          exact h2
        obtain ⟨t0, HBi⟩ := HEnd.out wr v2 h2' h3
        have t0 := t0.out
        clear h2 h3 h2' hr HEnd
        generalize tw z = wz at *
        generalize ud % 2 ^ wz = lo at *
        go_wp2_with fail
        go_region_held3 (fun _ => True) (go_keep)
          (first
            | (go_at_call 81; refine (HLo.out _ _ HX.out).mono ?_; rintro e w3 ⟨rfl, rfl⟩)
            | (go_at_call 52; refine (HBi.out _ _ rfl ?_).mono ?_; (first | exact gb_refl _ _ | exact gb_drew _ _); rintro e w4 ⟨rfl, H4⟩))
        clear HBi HLo
        go_wp2
        go_end0
        exact ⟨rfl, H4.out⟩
end Go.Proofs.YtkiefmhampfhoaaDoor
