/-
  Runes that are decoded, escapes in strings: the walks.
-/
import Derived.Test.YtifjdfmmafbhkaaGreatDoorLxBd
import Derived.Test.YtifjdfmmafbhkaaGreatDoorShelf
namespace Go.Proofs.YtifjdfmmafbhkaaGreatDoor
open Go.RowKit

/-- UTF-8's tables hold what their initialisers lay -/
def U8S (w : World) : Prop := Lib.Utf8Tabs (Tryz.lays197_ren.g 3) (Tryz.lays197_ren.g 4) w
theorem utf8Tabs_below {g3 g4 : Nat} {w w' : World} (h : Lib.Utf8Tabs g3 g4 w) (hb : Below w.heap.size w w') : Lib.Utf8Tabs g3 g4 w' := by
  have key : ∀ b o v, w.cell? ⟨b, o, none⟩ = some v → w'.cell? ⟨b, o, none⟩ = some v := fun b o v hc => (World.cell?_of_block (hb.block b (block_lt hc))).trans hc
  exact ⟨fun c hc => key _ _ _ (h.1 c hc), fun i hi => ⟨key _ _ _ (h.2 i hi).1, key _ _ _ (h.2 i hi).2⟩⟩
theorem U8S.keep {w w' : World} (h : U8S w) (hg : w.grownBy w' none) : U8S w' := utf8Tabs_below h (gb_below hg)
theorem decodeGo_dcG (l : LxS) : Lib.decodeGo (ByteArray.mk ⟨l⟩) = dcG l := by
  unfold Lib.decodeGo dcG
  cases l with
  | nil => rfl
  | cons c t =>
    rw [if_neg (show ¬ (ByteArray.mk ⟨c :: t⟩).size = 0 from Nat.succ_ne_zero _), if_neg (List.cons_ne_nil c t)]
    have h := Lib.decodeL_drop (ByteArray.mk ⟨c :: t⟩) 0
    rw [List.drop_zero] at h
    exact h.symm
theorem dcG_rune (l : LxS) : (dcG l).1 ≤ 1114111 := by
  by_cases h : l = []
  · subst h; decide
  · rw [dcG_N l h]
    have b0 := byN_lt l 0
    have b1 := byN_lt l 1
    have b2 := byN_lt l 2
    have b3 := byN_lt l 3
    generalize byN l 0 = x0 at *
    generalize byN l 1 = x1 at *
    generalize byN l 2 = x2 at *
    generalize byN l 3 = x3 at *
    unfold Lib.decodeN
    (repeat' split) <;> (try simp only []) <;> omega
theorem decodeRune_any (w : World) (l : LxS) (hT : U8S w) :
    Calls Tryz.prog 45 #[.string (ByteArray.mk ⟨l⟩)] w fun e w' => e = .returned (.tuple #[.int .i32 ((dcG l).1 : Int), .int .i64 ((dcG l).2 : Int)]) ∧ w.grownBy w' none := by
  have h := Any.utf8_DecodeRuneInString Tryz.lays197 (ByteArray.mk ⟨l⟩) w hT
  rw [decodeGo_dcG] at h
  exact h.mono fun e w' h => ⟨h.1, gb_of_below h.2⟩
/-- a byte of ASCII is a rune -/
theorem dcG_lo {l : LxS} (hl : l ≠ []) (h : byN l 0 < 128) : dcG l = (byN l 0, 1) := by
  rw [dcG_N l hl, Lib.decodeN_ascii _ _ _ _ _ h]
/-- all other runes are greater -/
theorem dcG_hi {l : LxS} (h : l = [] ∨ 128 ≤ byN l 0) : 128 ≤ (dcG l).1 := by
  by_cases hl : l = []
  · subst hl; decide
  · have h : 128 ≤ byN l 0 := h.resolve_left hl
    rw [dcG_N l hl]
    generalize byN l 0 = x0 at *
    generalize byN l 1 = x1 at *
    generalize byN l 2 = x2 at *
    generalize byN l 3 = x3 at *
    unfold Lib.decodeN
    rw [if_neg (by omega)]
    (repeat' split) <;> (try simp only []) <;> omega
/-- the rune is a byte's or none of ASCII -/
theorem dcG_byte (l : LxS) : ((dcG l).1 < 128 → (dcG l).1 = byN l 0 ∧ (dcG l).2 = 1 ∧ l ≠ []) := fun h => by
  by_cases hl : l = []
  · subst hl; exact absurd h (by decide)
  · by_cases c : byN l 0 < 128
    · rw [dcG_lo hl c]; exact ⟨rfl, rfl, hl⟩
    · have := dcG_hi (l := l) (Or.inr (by omega)); omega
/-- what x and two hexadecimal digits say -/
def twoW (l : LxS) : Nat × Nat := if hxB (byN l 1) = true ∧ hxB (byN l 2) = true ∧ byN l 1 < 56 then (16 * hxV (byN l 1) + hxV (byN l 2), 3) else (0, 0)
theorem hxV_le (c : Nat) : hxV c ≤ 15 := by
  unfold hxV
  (repeat' split) <;> omega
theorem twoW_esc (l : LxS) (h : byN l 0 = 120) : escW l = twoW l := by
  unfold escW twoW
  rw [if_pos h]
  split
  · rename_i c
    obtain ⟨h1, h2, h3⟩ := c
    rw [hxB_iff] at h1 h2
    have e : (if byN l 1 ≤ 57 then byN l 1 - 48 else if 97 ≤ byN l 1 then byN l 1 - 87 else byN l 1 - 55) * 16 + (if byN l 2 ≤ 57 then byN l 2 - 48 else if 97 ≤ byN l 2 then byN l 2 - 87 else byN l 2 - 55) = 16 * hxV (byN l 1) + hxV (byN l 2) := by
      unfold hxV
      (repeat' split) <;> omega
    rw [e]
  · rfl
theorem big_two (l : LxS) (h1 : hxB (byN l 1) = true) : byN l 1 < 56 ↔ 16 * hxV (byN l 1) + hxV (byN l 2) < 128 := by
  have := hxV_le (byN l 2)
  rw [hxB_iff] at h1
  unfold hxV at *
  (repeat' split) <;> omega
set_option maxRecDepth 8000 in
set_option maxHeartbeats 1600000 in
theorem twoDigits_any (w : World) (l : LxS) (hl : l.length ≤ 1000000000000000000) :
    Calls Tryz.prog 78 #[.string (ByteArray.mk ⟨l⟩)] w fun e w' => e = .returned (.tuple #[.int .i32 ((twoW l).1 : Int), .int .i64 ((twoW l).2 : Int)]) ∧ w' = w := by
  have hz : (ByteArray.mk ⟨l⟩).size = l.length := rfl
  by_cases c : l.length < 3
  · have ci : (l.length : Int) < 3 := by omega
    have e : twoW l = (0, 0) := by
      unfold twoW
      rw [if_neg]
      rintro ⟨-, h, -⟩
      rw [byN_out l 2 (by omega)] at h
      exact absurd h (by decide)
    rw [e]
    go_enter Tryz.func78, Tryz.ntmps78
    go_wp2
    go_ret2
    exact ⟨rfl, rfl⟩
  · have ci : ¬ (l.length : Int) < 3 := by omega
    have k1 : (1 : Int) < (l.length : Int) := by omega
    have k2 : (2 : Int) < (l.length : Int) := by omega
    have b1 : ∀ h, (ByteArray.mk ⟨l⟩)[1]'h = l.getD 1 0 := fun h => by
      have : l.getD 1 0 = l[1]'(by omega) := by simp [List.getD, List.getElem?_eq_getElem (show 1 < l.length by omega)]
      rw [this]; rfl
    have b2 : ∀ h, (ByteArray.mk ⟨l⟩)[2]'h = l.getD 2 0 := fun h => by
      have : l.getD 2 0 = l[2]'(by omega) := by simp [List.getD, List.getElem?_eq_getElem (show 2 < l.length by omega)]
      rw [this]; rfl
    have HX1 : Hid (∀ W, Calls Tryz.prog 92 #[.int .i32 ((l.getD 1 0).toNat : Int)] W fun e w' => e = .returned (.tuple #[.int .u64 (hxV (byN l 1) : Int), .bool (hxB (byN l 1))]) ∧ w' = W) := fun W => hexDigit_any (byN l 1) (by have := byN_lt l 1; omega) W
    have HX2 : Hid (∀ W, Calls Tryz.prog 92 #[.int .i32 ((l.getD 2 0).toNat : Int)] W fun e w' => e = .returned (.tuple #[.int .u64 (hxV (byN l 2) : Int), .bool (hxB (byN l 2))]) ∧ w' = W) := fun W => hexDigit_any (byN l 2) (by have := byN_lt l 2; omega) W
    have hbig := hidJ (big_two l)
    have l1 := (l.getD 1 0).toNat_lt
    have l2 := (l.getD 2 0).toNat_lt
    have v1 := hxV_le (byN l 1)
    have v2 := hxV_le (byN l 2)
    have HR := hidJ (show twoW l = if hxB (byN l 1) = true ∧ hxB (byN l 2) = true ∧ byN l 1 < 56 then (16 * hxV (byN l 1) + hxV (byN l 2), 3) else (0, 0) from rfl)
    generalize hxV (byN l 1) = V1 at *
    generalize hxV (byN l 2) = V2 at *
    generalize l.getD 1 0 = x1 at *
    generalize l.getD 2 0 = x2 at *
    generalize twoW l = R at *
    by_cases q : hxB (byN l 1) = true ∧ hxB (byN l 2) = true ∧ byN l 1 < 56
    · have hR := HR.out
      rw [if_pos q] at hR
      subst hR
      have hv := (hbig.out q.1).1 q.2.2
      have hvi : ¬ (128 : Int) ≤ 16 * (V1 : Int) + (V2 : Int) := by omega
      rw [q.1] at HX1
      rw [q.2.1] at HX2
      clear HR hbig q
      go_enter Tryz.func78, Tryz.ntmps78
      go_wp2_with (go_at_call 92; first | (with_reducible refine (HX1.out _).mono ?_; rintro e w' ⟨rfl, rfl⟩) | (with_reducible refine (HX2.out _).mono ?_; rintro e w' ⟨rfl, rfl⟩))
      go_ret2
      exact ⟨rfl, rfl⟩
    · have hR := HR.out
      rw [if_neg q] at hR
      subst hR
      clear HR
      have q' : hxB (byN l 1) = true → hxB (byN l 2) = true → ¬ 16 * V1 + V2 < 128 := fun h1 h2 h3 => q ⟨h1, h2, (hbig.out h1).2 h3⟩
      clear hbig q
      generalize hxB (byN l 1) = B1 at *
      generalize hxB (byN l 2) = B2 at *
      go_enter Tryz.func78, Tryz.ntmps78
      cases B1 <;> cases B2
      case true.true =>
        have hv := q' rfl rfl
        have hvi : (128 : Int) ≤ 16 * (V1 : Int) + (V2 : Int) := by omega
        go_wp2_with (go_at_call 92; first | (with_reducible refine (HX1.out _).mono ?_; rintro e w' ⟨rfl, rfl⟩) | (with_reducible refine (HX2.out _).mono ?_; rintro e w' ⟨rfl, rfl⟩))
        go_ret2
        exact ⟨rfl, rfl⟩
      all_goals
        clear q'
        go_wp2_with (go_at_call 92; first | (with_reducible refine (HX1.out _).mono ?_; rintro e w' ⟨rfl, rfl⟩) | (with_reducible refine (HX2.out _).mono ?_; rintro e w' ⟨rfl, rfl⟩))
        go_ret2
        exact ⟨rfl, rfl⟩
end Go.Proofs.YtifjdfmmafbhkaaGreatDoor
