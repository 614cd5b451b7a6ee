/-
  LbC, LbC2, in one text.
-/
import Derived.Test.YtpglhdnepmcahaaGreatDoorLbL
import Derived.Shelf.SlSortCmp.Kit1
import Derived.Deep.QuietTactic
import Derived.BigQuiet
import Derived.Deep.RegionHeld3
/- LbC -/
namespace Go.Proofs.YtpglhdnepmcahaaGreatDoor
open Go.RowKit

/-- which of two texts comes first -/
def cmpS (a b : List UInt8) : Int := if a < b then -1 else if b < a then 1 else 0
theorem isNaN_any (w : World) (st : ByteArray) : Calls Tryz.prog 138 #[.string st] w fun e w' => e = .returned (.bool false) ∧ w' = w := by
  go_enter Tryz.func138, Tryz.ntmps138
  go_wp2
  go_ret
  exact ⟨rfl, rfl⟩
set_option maxHeartbeats 1600000 in
theorem compareS_any (w : World) (a b : List UInt8) :
    Calls Tryz.prog 130 #[.string (ByteArray.mk ⟨a⟩), .string (ByteArray.mk ⟨b⟩)] w fun e w' => e = .returned (.int .i64 (cmpS a b)) ∧ w' = w := by
  have HR : Hid (cmpS a b = if a < b then -1 else if b < a then 1 else 0) := rfl
  generalize cmpS a b = r at *
  go_enter Tryz.func130, Tryz.ntmps130
  go_wp2_with (go_at_call 138; refine (isNaN_any _ _).mono ?_; rintro e w' ⟨rfl, rfl⟩)
  · rename_i h
    rw [bytesLess_eq, decide_eq_true_eq] at h
    go_ret
    exact ⟨by rw [HR.out, if_pos h]; rfl, rfl⟩
  · rename_i h _ _ h2
    rw [bytesLess_eq, decide_eq_false_iff_not] at h
    have hne : a ≠ b := by intro e; subst e; simp at h2
    have hlt : b < a := by
      rcases List.le_total a b with h' | h'
      · exact absurd (List.le_antisymm h' (List.not_lt.1 h)) hne
      · exact List.not_le.1 (fun hba => hne (List.le_antisymm hba h'))
    go_ret
    exact ⟨by rw [HR.out, if_neg h, if_pos hlt]; rfl, rfl⟩
  · rename_i h h2
    rw [bytesLess_eq, decide_eq_false_iff_not] at h
    have he : a = b := by simpa using h2
    subst he
    go_ret
    exact ⟨by rw [HR.out, if_neg h, if_neg h]; rfl, rfl⟩

set_option maxHeartbeats 1600000 in
theorem or_any (W : World) (b : Nat) (r1 r2 : Int) (c1 : W.cell? ⟨b, 0, none⟩ = some (.int .i64 r1)) (c2 : W.cell? ⟨b, 1, none⟩ = some (.int .i64 r2)) :
    Calls Tryz.prog 129 #[.slice (some ⟨b, 0, none⟩) 2 2] W fun e w' => e = .returned (.int .i64 (if r1 ≠ 0 then r1 else r2)) ∧ w' = W := by
  obtain ⟨r, hr⟩ : ∃ r, r = if r1 ≠ 0 then r1 else r2 := ⟨_, rfl⟩
  rw [← hr]
  have HR : Hid (r = if r1 ≠ 0 then r1 else r2) := hr
  clear hr
  go_enter Tryz.func129, Tryz.ntmps129
  go_wp2
  go_loopw [8] (fun i wr => Hid (wr = W) ∧ (i = .int .i64 0 ∨ (r1 = 0 ∧ i = .int .i64 1) ∨ (r1 = 0 ∧ r2 = 0 ∧ i = .int .i64 2))) (fun i _ => 2 - (intOf i).toNat)
  case atStart => exact ⟨rfl, .inl rfl⟩
  case round =>
    obtain ⟨hw, hrel⟩ := hrel
    have hw := hw.out
    subst hw
    rcases hrel with rfl | ⟨h1, rfl⟩ | ⟨h1, h2, rfl⟩
    · by_cases h1 : r1 = 0
      · subst h1
        go_wp2
        go_roundw
        case rel => exact ⟨trivial, .inr (.inl ⟨trivial, rfl⟩)⟩
        case measure => decide
      · have hb : (r1 == 0) = false := by rw [beq_eq_false_iff_ne]; exact h1
        go_wp2
        go_ret
        exact ⟨by rw [HR.out, if_pos h1]; rfl, rfl⟩
    · subst h1
      by_cases h2 : r2 = 0
      · subst h2
        go_wp2
        go_roundw
        case rel => exact ⟨trivial, .inr (.inr ⟨trivial, trivial, rfl⟩)⟩
        case measure => decide
      · have hb : (r2 == 0) = false := by rw [beq_eq_false_iff_ne]; exact h2
        go_wp2
        go_ret
        exact ⟨by rw [HR.out]; rfl, rfl⟩
    · subst h1
      subst h2
      go_wp2
      go_ret
      exact ⟨by rw [HR.out]; rfl, rfl⟩
/-- which of two labels comes first -/
def cmpL (x y : LbT) : Int := if cmpS x.1 y.1 ≠ 0 then cmpS x.1 y.1 else cmpS x.2 y.2
end Go.Proofs.YtpglhdnepmcahaaGreatDoor

/- LbC2 -/
namespace Go.Proofs.YtpglhdnepmcahaaGreatDoor
open Go.RowKit Go.Shelf Go.Sort
set_option maxRecDepth 8000 in
set_option maxHeartbeats 3200000 in
theorem compareOne_any (W : World) (x y : LbT) :
    Calls Tryz.prog 122 #[.agg #[.string (ByteArray.mk ⟨x.1⟩), .string (ByteArray.mk ⟨x.2⟩)], .agg #[.string (ByteArray.mk ⟨y.1⟩), .string (ByteArray.mk ⟨y.2⟩)]] W fun e w' => e = .returned (.int .i64 (cmpL x y)) ∧ ∃ q os', w' = grow (W.drewN q) os' := by
  have HR : Hid (cmpL x y = if cmpS x.1 y.1 ≠ 0 then cmpS x.1 y.1 else cmpS x.2 y.2) := rfl
  have HA : Hid (∀ w, Calls Tryz.prog 130 #[.string (ByteArray.mk ⟨x.1⟩), .string (ByteArray.mk ⟨y.1⟩)] w fun e w' => e = .returned (.int .i64 (cmpS x.1 y.1)) ∧ w' = w) := fun w => compareS_any w _ _
  have HB : Hid (∀ w, Calls Tryz.prog 130 #[.string (ByteArray.mk ⟨x.2⟩), .string (ByteArray.mk ⟨y.2⟩)] w fun e w' => e = .returned (.int .i64 (cmpS x.2 y.2)) ∧ w' = w) := fun w => compareS_any w _ _
  generalize cmpL x y = r at *
  generalize cmpS x.1 y.1 = r1 at *
  generalize cmpS x.2 y.2 = r2 at *
  go_enter Tryz.func122, Tryz.ntmps122
  go_wp2_with fail
  have HO : Hid (∀ w : World, Calls Tryz.prog 129 #[.slice (some ⟨w.heap.size, 0, none⟩) 2 2] (w.alloc (.cells #[.int .i64 r1, .int .i64 r2] 3)).drew fun e w' => e = .returned (.int .i64 r) ∧ w' = (w.alloc (.cells #[.int .i64 r1, .int .i64 r2] 3)).drew) := fun w => by
    have hb := Go.heap_alloc_new w (.cells #[.int .i64 r1, .int .i64 r2] 3)
    rw [HR.out]
    refine or_any _ _ r1 r2 ?_ ?_
    · show (w.alloc (.cells #[.int .i64 r1, .int .i64 r2] 3)).cell? _ = _
      rw [World.cell?, hb]; rfl
    · show (w.alloc (.cells #[.int .i64 r1, .int .i64 r2] 3)).cell? _ = _
      rw [World.cell?, hb]; rfl
  have hb1 := Go.heap_alloc_new (W.alloc (.cells #[.string (ByteArray.mk ⟨x.1⟩), .string (ByteArray.mk ⟨x.2⟩)] 51)) (.cells #[.string (ByteArray.mk ⟨y.1⟩), .string (ByteArray.mk ⟨y.2⟩)] 51)
  have hb0 : ((W.alloc (.cells #[.string (ByteArray.mk ⟨x.1⟩), .string (ByteArray.mk ⟨x.2⟩)] 51)).alloc (.cells #[.string (ByteArray.mk ⟨y.1⟩), .string (ByteArray.mk ⟨y.2⟩)] 51)).heap[W.heap.size]? = some (.cells #[.string (ByteArray.mk ⟨x.1⟩), .string (ByteArray.mk ⟨x.2⟩)] 51) :=
    ((World.grownBy_alloc _ _ none).block _ (Array.getElem?_eq_some_iff.1 (Go.heap_alloc_new W _)).1 (by simp)).trans (Go.heap_alloc_new W _)
  have hgr : Hid (∀ C, ∃ os', (((W.alloc (.cells #[.string (ByteArray.mk ⟨x.1⟩), .string (ByteArray.mk ⟨x.2⟩)] 51)).alloc (.cells #[.string (ByteArray.mk ⟨y.1⟩), .string (ByteArray.mk ⟨y.2⟩)] 51)).alloc C).drew = grow (W.drewN 1) os') := fun C => ⟨_, by rw [alloc_eq_grow, alloc_eq_grow, alloc_eq_grow, grow_grow, grow_grow]; rfl⟩
  have hsz : (W.alloc (.cells #[.string (ByteArray.mk ⟨x.1⟩), .string (ByteArray.mk ⟨x.2⟩)] 51)).heap.size = W.heap.size + 1 := by simp
  rw [hsz] at hb1
  generalize (W.alloc (.cells #[.string (ByteArray.mk ⟨x.1⟩), .string (ByteArray.mk ⟨x.2⟩)] 51)).alloc (.cells #[.string (ByteArray.mk ⟨y.1⟩), .string (ByteArray.mk ⟨y.2⟩)] 51) = W1 at *
  clear hsz
  have q0 : W1.cell? ⟨W.heap.size, 0, none⟩ = some (.string (ByteArray.mk ⟨x.1⟩)) := by rw [World.cell?, hb0]; rfl
  have q1 : W1.cell? ⟨W.heap.size, 1, none⟩ = some (.string (ByteArray.mk ⟨x.2⟩)) := by rw [World.cell?, hb0]; rfl
  have q2 : W1.cell? ⟨W.heap.size + 1, 0, none⟩ = some (.string (ByteArray.mk ⟨y.1⟩)) := by rw [World.cell?, hb1]; rfl
  have q3 : W1.cell? ⟨W.heap.size + 1, 1, none⟩ = some (.string (ByteArray.mk ⟨y.2⟩)) := by rw [World.cell?, hb1]; rfl
  clear hb0 hb1
  generalize ByteArray.mk ⟨x.1⟩ = x1 at *
  generalize ByteArray.mk ⟨x.2⟩ = x2 at *
  generalize ByteArray.mk ⟨y.1⟩ = y1 at *
  generalize ByteArray.mk ⟨y.2⟩ = y2 at *
  generalize hbe : W.heap.size = b0 at *
  clear hbe
  generalize hbf : b0 + 1 = b1 at *
  clear hbf
  go_region_held3 (fun w' => w'.cell? ⟨b0, 0, none⟩ = some (.string x1) ∧ w'.cell? ⟨b0, 1, none⟩ = some (.string x2) ∧ w'.cell? ⟨b1, 0, none⟩ = some (.string y1) ∧ w'.cell? ⟨b1, 1, none⟩ = some (.string y2)) (go_keep)
    (first
      | (go_at_call_of 130 x1; with_reducible refine (HA.out _).mono ?_; rintro e w' ⟨rfl, rfl⟩)
      | (go_at_call_of 130 x2; with_reducible refine (HB.out _).mono ?_; rintro e w' ⟨rfl, rfl⟩)
      | (go_at_call 129; with_reducible refine (HO.out _).mono ?_; rintro e w' ⟨rfl, rfl⟩))
  go_wp2
  go_ret
  exact ⟨rfl, 1, hgr.out _⟩
end Go.Proofs.YtpglhdnepmcahaaGreatDoor
