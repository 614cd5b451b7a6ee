/-
  A disk's map of files: how a pointer among a map's elements reads, and what find answers: the walks.
-/
import Derived.Test.YtgafmplmngbbfaaDiskF
import Derived.Maps.OwnSet
import Derived.Maps.OwnOps
import Derived.StringKeys
namespace Go.Proofs.Ytgafmplmngbbfaa
open Go.RowKit Go.Maps Go.WideMaps

/-- how a pointer to a whole block reads: as the block's number; nil as -1 -/
def ptrElem (v : Value) : Option (DataW Unit × List MemPlace) :=
  match v with
  | .pointer none => some (.lit (.int .i64 (-1)), [])
  | .pointer (some ⟨b, 0, none⟩) => some (.lit (.int .i64 (b : Int)), [])
  | _ => none
theorem ptrElem_nil : ptrElem (.pointer none) = some (.lit (.int .i64 (-1)), []) := rfl
theorem ptrElem_mk (b : Nat) : ptrElem (.pointer (some ⟨b, 0, none⟩)) = some (.lit (.int .i64 (b : Int)), []) := rfl
theorem ptrElem_inv {v : Value} {b : Nat} {ps : List MemPlace} (h : ptrElem v = some (.lit (.int .i64 (b : Int)), ps)) : v = .pointer (some ⟨b, 0, none⟩) := by
  unfold ptrElem at h
  split at h
  · simp at h
    try omega
  · rename_i c
    simp at h
    obtain ⟨h1, -⟩ := h
    have : c = b := by omega
    rw [this]
  · cases h
theorem ptrElem_inv0 {v : Value} {ps : List MemPlace} (h : ptrElem v = some (.lit (.int .i64 (-1)), ps)) : v = .pointer none := by
  unfold ptrElem at h
  split at h
  · rfl
  · simp at h
    try omega
  · cases h
theorem lawS : Keyed Try.prog 9 := string_keyed Try.underlying9
theorem zeroF (w : World) : (zeroValue 67).run Try.prog w = .ok (.pointer none) w := by kernel_rfl
theorem keyS (l : List UInt8) (h : l.length ≤ maxLen) : keyOf Try.prog 9 (.string (ByteArray.mk ⟨l⟩)) = some (.string l) := keyOf_string_mk Try.underlying9 h

set_option maxHeartbeats 1600000 in
theorem find_bad (gd : Nat) (l : List UInt8) (w : World) (hl : l.length ≤ 9223372036854775807) (hok : nameOk l = false) :
    Calls Try.prog 44 #[.pointer (some ⟨gd, 0, none⟩), .string (ByteArray.mk ⟨l⟩)] w fun e w' => e = .returned (.tuple #[.pointer none, .int .i64 40]) ∧ w' = w := by
  have HN := isName_any l w hl
  rw [hok] at HN
  have HN2 : Hid (Calls Try.prog 52 #[.string (ByteArray.mk ⟨l⟩)] w fun e w' => e = .returned (.bool false) ∧ w' = w) := HN
  clear HN hok
  generalize ByteArray.mk ⟨l⟩ = s at *
  go_enter Try.func44, Try.ntmps44
  go_wp2_with fail
  refine HN2.out.mono ?_
  rintro e w1 ⟨rfl, hw1⟩
  rw [hw1]
  clear hw1 w1
  go_wp2
  go_ret2
  exact ⟨rfl, rfl⟩

set_option maxHeartbeats 1600000 in
theorem find_there (gd gm n gf : Nat) (D : DataW Unit) (l : List UInt8) (w : World) (hl : l.length ≤ 9223372036854775807) (hok : nameOk l = true) (hc : w.cell? ⟨gd, 0, none⟩ = some (.map (some gm)))
    (hown : w.ownsMap Try.prog 9 ptrElem gm n D) (hhas : Maps.has D (.string l) = true) (hat : D.atKey (.string l) (.lit (.int .i64 (-1))) = .lit (.int .i64 (gf : Int))) :
    Calls Try.prog 44 #[.pointer (some ⟨gd, 0, none⟩), .string (ByteArray.mk ⟨l⟩)] w fun e w' => e = .returned (.tuple #[.pointer (some ⟨gf, 0, none⟩), .int .i64 0]) ∧ w' = w := by
  have HN := isName_any l w hl
  rw [hok] at HN
  have HN2 : Hid (Calls Try.prog 52 #[.string (ByteArray.mk ⟨l⟩)] w fun e w' => e = .returned (.bool true) ∧ w' = w) := HN
  have hrun : (Instr.lookup 64 (.map (some gm)) (.string (ByteArray.mk ⟨l⟩)) true).run Try.prog w = .ok (.tuple #[.pointer (some ⟨gf, 0, none⟩), .bool true]) w := by
    obtain ⟨v, ps, h1, h2⟩ := hown.look_ok lawS Try.underlying64 (zeroF w) ptrElem_nil (keyS l (by unfold maxLen; omega))
    rw [hat] at h2
    rw [ptrElem_inv h2, hhas] at h1
    exact h1
  clear HN hok hat hhas hown
  generalize ByteArray.mk ⟨l⟩ = s at *
  go_enter Try.func44, Try.ntmps44
  go_wp2_with fail
  refine HN2.out.mono ?_
  rintro e w1 ⟨rfl, hw1⟩
  rw [hw1]
  clear hw1 w1
  go_wp2
  go_ret2
  exact ⟨rfl, rfl⟩

set_option maxHeartbeats 1600000 in
theorem find_none (gd gm n : Nat) (D : DataW Unit) (l : List UInt8) (w : World) (hl : l.length ≤ 9223372036854775807) (hok : nameOk l = true) (hc : w.cell? ⟨gd, 0, none⟩ = some (.map (some gm)))
    (hown : w.ownsMap Try.prog 9 ptrElem gm n D) (hhas : Maps.has D (.string l) = false) (hat : D.atKey (.string l) (.lit (.int .i64 (-1))) = .lit (.int .i64 (-1))) :
    Calls Try.prog 44 #[.pointer (some ⟨gd, 0, none⟩), .string (ByteArray.mk ⟨l⟩)] w fun e w' => e = .returned (.tuple #[.pointer none, .int .i64 5]) ∧ w' = w := by
  have HN := isName_any l w hl
  rw [hok] at HN
  have HN2 : Hid (Calls Try.prog 52 #[.string (ByteArray.mk ⟨l⟩)] w fun e w' => e = .returned (.bool true) ∧ w' = w) := HN
  have hrun : (Instr.lookup 64 (.map (some gm)) (.string (ByteArray.mk ⟨l⟩)) true).run Try.prog w = .ok (.tuple #[.pointer none, .bool false]) w := by
    obtain ⟨v, ps, h1, h2⟩ := hown.look_ok lawS Try.underlying64 (zeroF w) ptrElem_nil (keyS l (by unfold maxLen; omega))
    rw [hat] at h2
    rw [ptrElem_inv0 h2, hhas] at h1
    exact h1
  clear HN hok hat hhas hown
  generalize ByteArray.mk ⟨l⟩ = s at *
  go_enter Try.func44, Try.ntmps44
  go_wp2_with fail
  refine HN2.out.mono ?_
  rintro e w1 ⟨rfl, hw1⟩
  rw [hw1]
  clear hw1 w1
  go_wp2
  go_ret2
  exact ⟨rfl, rfl⟩
end Go.Proofs.Ytgafmplmngbbfaa
