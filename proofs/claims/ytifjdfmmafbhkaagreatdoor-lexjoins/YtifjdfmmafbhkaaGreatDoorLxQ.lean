/-
  Is a rune one of the signs? the library's search in a fixed text: the walk.
-/
import Derived.Test.YtifjdfmmafbhkaaGreatDoorLxP
import Derived.Deep.RegionHeld3
namespace Go.Proofs.YtifjdfmmafbhkaaGreatDoor
open Go.RowKit

def sg16 : LxS := [40, 41, 123, 125, 91, 93, 44, 61, 43, 45, 42, 47, 37, 94, 62, 60]
theorem sg16_has : ∀ r : Fin 128, decide (0 ≤ Lib.indexByte sg16 (((r.val : Nat) : Int).toNat.toUInt8)) = sgB r.val := by decide +kernel
theorem sg16_not2 : ∀ y : Fin 256, 128 ≤ y.val → Lib.indexByte (sg16.drop 2) (UInt8.ofNat y.val) = -1 := by decide +kernel
theorem sg16_not3 : ∀ y : Fin 256, 128 ≤ y.val → Lib.indexByte (sg16.drop 3) (UInt8.ofNat y.val) = -1 := by decide +kernel
theorem sg16_not4 : ∀ y : Fin 256, 128 ≤ y.val → Lib.indexByte (sg16.drop 4) (UInt8.ofNat y.val) = -1 := by decide +kernel
theorem containsSign_lo (w : World) (r : Nat) (h1 : r < 128) :
    Calls Tryz.prog 68 #[.string (ByteArray.mk ⟨sg16⟩), .int .i32 (r : Int)] w fun e w' => e = .returned (.bool (sgB r)) ∧ w' = w := by
  have h := Any.strings_ContainsRune_ascii Tryz.lays151 (ByteArray.mk ⟨sg16⟩) (r : Int) w (by omega) (by omega)
  rw [show decide (0 ≤ Lib.indexByte (ByteArray.mk ⟨sg16⟩).data.toList (r : Int).toNat.toUInt8) = sgB r from sg16_has ⟨r, h1⟩] at h
  exact h
theorem enc_high (r : Int) (h0 : 128 ≤ r) : ∃ y : UInt8, 128 ≤ y.toNat ∧ ((∃ a, Utf8.encode r = ByteArray.mk ⟨[a, y]⟩) ∨ (∃ a b, Utf8.encode r = ByteArray.mk ⟨[a, b, y]⟩) ∨ (∃ a b c, Utf8.encode r = ByteArray.mk ⟨[a, b, c, y]⟩)) := by
  unfold Utf8.encode
  have hc : 128 ≤ (if Utf8.valid r then r.toNat else Utf8.runeError) := by
    split
    · omega
    · decide
  generalize (if Utf8.valid r then r.toNat else Utf8.runeError) = c at *
  refine ⟨UInt8.ofNat (0x80 + c % 64), ?_, ?_⟩
  · rw [UInt8.toNat_ofNat']; omega
  · simp only []
    rw [if_neg (show ¬ c < 0x80 by omega)]
    by_cases c1 : c < 0x800
    · rw [if_pos c1]; exact Or.inl ⟨_, rfl⟩
    · rw [if_neg c1]
      by_cases c2 : c < 0x10000
      · rw [if_pos c2]; exact Or.inr (Or.inl ⟨_, _, rfl⟩)
      · rw [if_neg c2]; exact Or.inr (Or.inr ⟨_, _, _, rfl⟩)
def SomeB (e : Ending) : Prop := ∃ v, e = .returned (.bool v)
theorem validRune_some (w : World) (r : Int) (h0 : 0 ≤ r) (_h1 : r ≤ 2147483647) : Calls Tryz.prog 95 #[.int .i32 r] w fun e w' => SomeB e ∧ w' = w := by
  go_enter Tryz.func95, Tryz.ntmps95
  go_wp2
  all_goals go_ret
  all_goals exact ⟨⟨_, rfl⟩, rfl⟩
theorem indexByte_any (w : World) (l : LxS) (y : UInt8) : Calls Tryz.prog 94 #[.string (ByteArray.mk ⟨l⟩), .int .u8 (y.toNat : Int)] w fun e w' => e = .returned (.int .i64 (Lib.indexByte l y)) ∧ w' = w := by
  have h := Any.strings_IndexByte { Tryz.lays151 with } (ByteArray.mk ⟨l⟩) (y.toNat : Int) w
  rw [show ((y.toNat : Nat) : Int).toNat.toUInt8 = y by simp] at h
  exact h
set_option maxRecDepth 16000 in
set_option maxHeartbeats 6400000 in
theorem indexRune_high (w : World) (r : Int) (h0 : 128 ≤ r) (h1 : r ≤ 2147483647) :
    Calls Tryz.prog 80 #[.string (ByteArray.mk ⟨[40, 41, 123, 125, 91, 93, 44, 61, 43, 45, 42, 47, 37, 94, 62, 60]⟩), .int .i32 r] w fun e w' => e = .returned (.int .i64 (-1)) ∧ w.grownBy w' none := by
  have hz : (ByteArray.mk ⟨[40, 41, 123, 125, 91, 93, 44, 61, 43, 45, 42, 47, 37, 94, 62, 60]⟩).size = 16 := rfl
  by_cases c : r = 65533
  · subst c
    have hall : ∀ j, j < 16 → byN sg16 j < 128 := by decide
    have hlen16 : sg16.length = 16 := rfl
    have HA := hidJ (And.intro hall hlen16)
    clear hall hlen16
    rw [show (ByteArray.mk ⟨[40, 41, 123, 125, 91, 93, 44, 61, 43, 45, 42, 47, 37, 94, 62, 60]⟩) = ByteArray.mk ⟨sg16⟩ from rfl] at hz ⊢
    generalize sg16 = l at *
    go_enter Tryz.func80, Tryz.ntmps80
    go_wp2_with fail
    have H0 := hidJ (ItW.start w (ByteArray.mk ⟨l⟩))
    generalize w.iter (ByteArray.mk ⟨l⟩) 0 = w1 at *
    generalize w.heap.size = it at *
    go_loopg [5] 17 (fun gk _ wr => ∃ p : Nat, 16 < p + gk ∧ p ≤ 16 ∧ Hid (ItW w wr it (ByteArray.mk ⟨l⟩) p))
    case atStart => exact ⟨0, by omega, by omega, H0⟩
    case round =>
      obtain ⟨p, hg, hp, hr⟩ := hrel
      by_cases hlt : p < 16
      · obtain ⟨k, rfl⟩ : ∃ k, gk = k + 1 := ⟨gk - 1, by omega⟩
        have hnx := fun ty => Lib.run_next_any_at (P := Tryz.prog) wr it (ByteArray.mk ⟨l⟩) p ty hr.out.2.1 (by rw [hz]; exact hlt)
        have HR := hidJ (hr.out.next (p + (Utf8.decode (ByteArray.mk ⟨l⟩) p).2))
        have hc := HA.out.1 p hlt
        rw [dec_lo hc] at hnx HR
        dsimp only at hnx HR
        clear hr
        generalize byN l p = b at *
        generalize wr.iterAt it (ByteArray.mk ⟨l⟩) (p + 1) = w2 at *
        have hb : ((b : Int) == 65533) = false := by rw [beq_eq_false_iff_ne]; omega
        have hb2 : ¬ (b : Int) = 65533 := by omega
        go_wp2_with fail
        go_roundg k
        case measure => omega
        case rel => exact ⟨p + 1, by omega, by omega, HR⟩
      · have hnx := fun ty => Lib.run_next_end_at (P := Tryz.prog) wr it (ByteArray.mk ⟨l⟩) p ty hr.out.2.1 (by rw [hz]; omega)
        have HR := hidJ hr.out.1
        clear hr
        go_wp2
        go_ret
        exact ⟨rfl, HR.out⟩
  · obtain ⟨y, hy, hE⟩ := enc_high r h0
    have hcv : ∀ W, (convert 21 9 (.int .i32 r)).run Tryz.prog W = .ok (.string (Utf8.encode r)) W := fun W => run_convert_int_string W 21 9 .i32 r (by rw [Tryz.underlying21]; rfl) Tryz.underlying9
    have HV := hidJ (fun W => validRune_some W r (by omega) h1)
    rcases hE with ⟨a, hE⟩ | ⟨a, b, hE⟩ | ⟨a, b, c, hE⟩
    · rw [hE] at hcv
      have hz2 : (ByteArray.mk ⟨[a, y]⟩).size = 2 := rfl
      have i1 : ∀ h, (ByteArray.mk ⟨[40, 41, 123, 125, 91, 93, 44, 61, 43, 45, 42, 47, 37, 94, 62, 60]⟩)[1]'h = 41 := fun _ => rfl
      have i2 : ∀ h, (ByteArray.mk ⟨[a, y]⟩)[1]'h = y := fun _ => rfl
      have hx : (ByteArray.mk ⟨[40, 41, 123, 125, 91, 93, 44, 61, 43, 45, 42, 47, 37, 94, 62, 60]⟩).extract 2 16 = ByteArray.mk ⟨sg16.drop 2⟩ := ext_drop sg16 2
      have HI := hidJ (fun W => indexByte_any W (sg16.drop 2) y)
      rw [show Lib.indexByte (sg16.drop 2) y = -1 by have := sg16_not2 ⟨y.toNat, y.toNat_lt⟩ hy; simpa using this] at HI
      generalize sg16.drop 2 = t2 at *
      have hyn : ((41 : Int) == (y.toNat : Int)) = false := by rw [beq_eq_false_iff_ne]; omega
      have hyn2 : ¬ (41 : Int) = (y.toNat : Int) := by omega
      generalize ByteArray.mk ⟨[40, 41, 123, 125, 91, 93, 44, 61, 43, 45, 42, 47, 37, 94, 62, 60]⟩ = st at *
      generalize ByteArray.mk ⟨[a, y]⟩ = e2 at *
      have hwr : IntKind.i64.wrap (2 : Int) = 2 := by decide
      go_enter Tryz.func80, Tryz.ntmps80
      go_wp2_with (first | (go_at_call 95; refine (HV.out _).mono ?_; rintro e w' ⟨⟨v, rfl⟩, rfl⟩; cases v) | fail)
      · go_wp2
        go_ret
        exact ⟨rfl, gb_refl _ _⟩
      · go_wp2_with fail
        go_step3
        go_wp2_with fail
        go_loopg [9] 2 (fun gk v9 wr => v9 = .int .i64 1 ∧ 0 < gk ∧ Hid (w'.grownBy wr none))
        case atStart => exact ⟨rfl, by omega, gb_refl _ _⟩
        case round =>
          obtain ⟨rfl, hgk, hr⟩ := hrel
          go_wp2_with fail
          go_step3
          go_wp2_with fail
          go_region
          have hr5 := hidJ (gb_none hr.out (gb_drew wr none))
          generalize wr.drew = w5 at *
          go_wp2_with fail
          go_quiet ((go_at_call 94; exact Calls.quiet_of_same (HI.out _)))
          have hgd : w5.grownBy (w5.drewN nq) none := ⟨rfl, rfl, rfl, Nat.le_refl _, fun _ _ _ => rfl⟩
          have hr6 := hidJ (gb_none hr5.out hgd)
          clear hgd
          generalize w5.drewN nq = w6 at *
          go_wp2
          simp only [Exit.noGoto_ret, Exit.inBlock, Exit.then]
          go_ret
          exact ⟨rfl, hr6.out⟩
    · rw [hE] at hcv
      have hz2 : (ByteArray.mk ⟨[a, b, y]⟩).size = 3 := rfl
      have i1 : ∀ h, (ByteArray.mk ⟨[40, 41, 123, 125, 91, 93, 44, 61, 43, 45, 42, 47, 37, 94, 62, 60]⟩)[2]'h = 123 := fun _ => rfl
      have i2 : ∀ h, (ByteArray.mk ⟨[a, b, y]⟩)[2]'h = y := fun _ => rfl
      have hx : (ByteArray.mk ⟨[40, 41, 123, 125, 91, 93, 44, 61, 43, 45, 42, 47, 37, 94, 62, 60]⟩).extract 3 16 = ByteArray.mk ⟨sg16.drop 3⟩ := ext_drop sg16 3
      have HI := hidJ (fun W => indexByte_any W (sg16.drop 3) y)
      rw [show Lib.indexByte (sg16.drop 3) y = -1 by have := sg16_not3 ⟨y.toNat, y.toNat_lt⟩ hy; simpa using this] at HI
      generalize sg16.drop 3 = t2 at *
      have hyn : ((123 : Int) == (y.toNat : Int)) = false := by rw [beq_eq_false_iff_ne]; omega
      have hyn2 : ¬ (123 : Int) = (y.toNat : Int) := by omega
      generalize ByteArray.mk ⟨[40, 41, 123, 125, 91, 93, 44, 61, 43, 45, 42, 47, 37, 94, 62, 60]⟩ = st at *
      generalize ByteArray.mk ⟨[a, b, y]⟩ = e2 at *
      have hwr : IntKind.i64.wrap (3 : Int) = 3 := by decide
      go_enter Tryz.func80, Tryz.ntmps80
      go_wp2_with (first | (go_at_call 95; refine (HV.out _).mono ?_; rintro e w' ⟨⟨v, rfl⟩, rfl⟩; cases v) | fail)
      · go_wp2
        go_ret
        exact ⟨rfl, gb_refl _ _⟩
      · go_wp2_with fail
        go_step3
        go_wp2_with fail
        go_loopg [9] 2 (fun gk v9 wr => v9 = .int .i64 2 ∧ 0 < gk ∧ Hid (w'.grownBy wr none))
        case atStart => exact ⟨rfl, by omega, gb_refl _ _⟩
        case round =>
          obtain ⟨rfl, hgk, hr⟩ := hrel
          go_wp2_with fail
          go_step3
          go_wp2_with fail
          go_region
          have hr5 := hidJ (gb_none hr.out (gb_drew wr none))
          generalize wr.drew = w5 at *
          go_wp2_with fail
          go_quiet ((go_at_call 94; exact Calls.quiet_of_same (HI.out _)))
          have hgd : w5.grownBy (w5.drewN nq) none := ⟨rfl, rfl, rfl, Nat.le_refl _, fun _ _ _ => rfl⟩
          have hr6 := hidJ (gb_none hr5.out hgd)
          clear hgd
          generalize w5.drewN nq = w6 at *
          go_wp2
          simp only [Exit.noGoto_ret, Exit.inBlock, Exit.then]
          go_ret
          exact ⟨rfl, hr6.out⟩
    · rw [hE] at hcv
      have hz2 : (ByteArray.mk ⟨[a, b, c, y]⟩).size = 4 := rfl
      have i1 : ∀ h, (ByteArray.mk ⟨[40, 41, 123, 125, 91, 93, 44, 61, 43, 45, 42, 47, 37, 94, 62, 60]⟩)[3]'h = 125 := fun _ => rfl
      have i2 : ∀ h, (ByteArray.mk ⟨[a, b, c, y]⟩)[3]'h = y := fun _ => rfl
      have hx : (ByteArray.mk ⟨[40, 41, 123, 125, 91, 93, 44, 61, 43, 45, 42, 47, 37, 94, 62, 60]⟩).extract 4 16 = ByteArray.mk ⟨sg16.drop 4⟩ := ext_drop sg16 4
      have HI := hidJ (fun W => indexByte_any W (sg16.drop 4) y)
      rw [show Lib.indexByte (sg16.drop 4) y = -1 by have := sg16_not4 ⟨y.toNat, y.toNat_lt⟩ hy; simpa using this] at HI
      generalize sg16.drop 4 = t2 at *
      have hyn : ((125 : Int) == (y.toNat : Int)) = false := by rw [beq_eq_false_iff_ne]; omega
      have hyn2 : ¬ (125 : Int) = (y.toNat : Int) := by omega
      generalize ByteArray.mk ⟨[40, 41, 123, 125, 91, 93, 44, 61, 43, 45, 42, 47, 37, 94, 62, 60]⟩ = st at *
      generalize ByteArray.mk ⟨[a, b, c, y]⟩ = e2 at *
      have hwr : IntKind.i64.wrap (4 : Int) = 4 := by decide
      go_enter Tryz.func80, Tryz.ntmps80
      go_wp2_with (first | (go_at_call 95; refine (HV.out _).mono ?_; rintro e w' ⟨⟨v, rfl⟩, rfl⟩; cases v) | fail)
      · go_wp2
        go_ret
        exact ⟨rfl, gb_refl _ _⟩
      · go_wp2_with fail
        go_step3
        go_wp2_with fail
        go_loopg [9] 2 (fun gk v9 wr => v9 = .int .i64 3 ∧ 0 < gk ∧ Hid (w'.grownBy wr none))
        case atStart => exact ⟨rfl, by omega, gb_refl _ _⟩
        case round =>
          obtain ⟨rfl, hgk, hr⟩ := hrel
          go_wp2_with fail
          go_step3
          go_wp2_with fail
          go_region
          have hr5 := hidJ (gb_none hr.out (gb_drew wr none))
          generalize wr.drew = w5 at *
          go_wp2_with fail
          go_quiet ((go_at_call 94; exact Calls.quiet_of_same (HI.out _)))
          have hgd : w5.grownBy (w5.drewN nq) none := ⟨rfl, rfl, rfl, Nat.le_refl _, fun _ _ _ => rfl⟩
          have hr6 := hidJ (gb_none hr5.out hgd)
          clear hgd
          generalize w5.drewN nq = w6 at *
          go_wp2
          simp only [Exit.noGoto_ret, Exit.inBlock, Exit.then]
          go_ret
          exact ⟨rfl, hr6.out⟩
theorem containsSign_hi (w : World) (r : Int) (h0 : 128 ≤ r) (h1 : r ≤ 2147483647) :
    Calls Tryz.prog 68 #[.string (ByteArray.mk ⟨[40, 41, 123, 125, 91, 93, 44, 61, 43, 45, 42, 47, 37, 94, 62, 60]⟩), .int .i32 r] w fun e w' => e = .returned (.bool false) ∧ w.grownBy w' none := by
  have HI := hidJ (fun W => indexRune_high W r h0 h1)
  generalize ByteArray.mk ⟨[40, 41, 123, 125, 91, 93, 44, 61, 43, 45, 42, 47, 37, 94, 62, 60]⟩ = st at *
  go_enter Tryz.func68, Tryz.ntmps68
  go_wp2_with fail
  refine (HI.out _).mono ?_
  rintro e w2 ⟨rfl, hg⟩
  have H2 := hidJ hg
  clear hg HI
  go_wp2
  go_ret
  exact ⟨rfl, H2.out⟩
end Go.Proofs.YtifjdfmmafbhkaaGreatDoor
