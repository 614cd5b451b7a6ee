/-
  Labels compared: what cmp.Compare, cmp.Or, compareOne come to: the walks.
-/
import Derived.Test.YtmgbcmogdjhacaaDoorLbL
namespace Go.Proofs.YtmgbcmogdjhacaaDoor
open Go.RowKit

/-- which of two texts comes first -/
def cmpS (a b : List UInt8) : Int := if a < b then -1 else if b < a then 1 else 0
theorem isNaN_any (w : World) (st : ByteArray) : Calls Tryd.prog 81 #[.string st] w fun e w' => e = .returned (.bool false) ∧ w' = w := by
  go_enter Tryd.func81, Tryd.ntmps81
  go_wp2
  go_ret
  exact ⟨rfl, rfl⟩
set_option maxHeartbeats 1600000 in
theorem compareS_any (w : World) (a b : List UInt8) :
    Calls Tryd.prog 71 #[.string (ByteArray.mk ⟨a⟩), .string (ByteArray.mk ⟨b⟩)] w fun e w' => e = .returned (.int .i64 (cmpS a b)) ∧ w' = w := by
  have HR : Hid (cmpS a b = if a < b then -1 else if b < a then 1 else 0) := rfl
  generalize cmpS a b = r at *
  go_enter Tryd.func71, Tryd.ntmps71
  go_wp2_with (go_at_call 81; refine (isNaN_any _ _).mono ?_; rintro e w' ⟨rfl, rfl⟩)
  · rename_i h
    rw [bytesLess_eq, decide_eq_true_eq] at h
    go_ret
    exact ⟨by rw [HR.out, if_pos h]; rfl, rfl⟩
  · rename_i h _ _ h2
    rw [bytesLess_eq, decide_eq_false_iff_not] at h
    have hne : a ≠ b := by intro e; subst e; simp at h2
    have hlt : b < a := by
      rcases List.le_total a b with h' | h'
      · exact absurd (List.le_antisymm h' (List.not_lt.1 h)) hne
      · exact List.not_le.1 (fun hba => hne (List.le_antisymm hba h'))
    go_ret
    exact ⟨by rw [HR.out, if_neg h, if_pos hlt]; rfl, rfl⟩
  · rename_i h h2
    rw [bytesLess_eq, decide_eq_false_iff_not] at h
    have he : a = b := by simpa using h2
    subst he
    go_ret
    exact ⟨by rw [HR.out, if_neg h, if_neg h]; rfl, rfl⟩

set_option maxHeartbeats 1600000 in
theorem or_any (W : World) (b : Nat) (r1 r2 : Int) (c1 : W.cell? ⟨b, 0, none⟩ = some (.int .i64 r1)) (c2 : W.cell? ⟨b, 1, none⟩ = some (.int .i64 r2)) :
    Calls Tryd.prog 70 #[.slice (some ⟨b, 0, none⟩) 2 2] W fun e w' => e = .returned (.int .i64 (if r1 ≠ 0 then r1 else r2)) ∧ w' = W := by
  obtain ⟨r, hr⟩ : ∃ r, r = if r1 ≠ 0 then r1 else r2 := ⟨_, rfl⟩
  rw [← hr]
  have HR : Hid (r = if r1 ≠ 0 then r1 else r2) := hr
  clear hr
  go_enter Tryd.func70, Tryd.ntmps70
  go_wp2
  go_loopw [8] (fun i wr => Hid (wr = W) ∧ (i = .int .i64 0 ∨ (r1 = 0 ∧ i = .int .i64 1) ∨ (r1 = 0 ∧ r2 = 0 ∧ i = .int .i64 2))) (fun i _ => 2 - (intOf i).toNat)
  case atStart => exact ⟨rfl, .inl rfl⟩
  case round =>
    obtain ⟨hw, hrel⟩ := hrel
    have hw := hw.out
    subst hw
    rcases hrel with rfl | ⟨h1, rfl⟩ | ⟨h1, h2, rfl⟩
    · by_cases h1 : r1 = 0
      · subst h1
        go_wp2
        go_roundw
        case rel => exact ⟨trivial, .inr (.inl ⟨trivial, rfl⟩)⟩
        case measure => decide
      · have hb : (r1 == 0) = false := by rw [beq_eq_false_iff_ne]; exact h1
        go_wp2
        go_ret
        exact ⟨by rw [HR.out, if_pos h1]; rfl, rfl⟩
    · subst h1
      by_cases h2 : r2 = 0
      · subst h2
        go_wp2
        go_roundw
        case rel => exact ⟨trivial, .inr (.inr ⟨trivial, trivial, rfl⟩)⟩
        case measure => decide
      · have hb : (r2 == 0) = false := by rw [beq_eq_false_iff_ne]; exact h2
        go_wp2
        go_ret
        exact ⟨by rw [HR.out]; rfl, rfl⟩
    · subst h1
      subst h2
      go_wp2
      go_ret
      exact ⟨by rw [HR.out]; rfl, rfl⟩
/-- which of two labels comes first -/
def cmpL (x y : LbT) : Int := if cmpS x.1 y.1 ≠ 0 then cmpS x.1 y.1 else cmpS x.2 y.2
end Go.Proofs.YtmgbcmogdjhacaaDoor
