/-
  A text that is read: what (*text).skipBlanks, take, ended, word come to: the walks.
-/
import Derived.Test.YtknlnllcpdiglaaDoorLbP2
import Derived.Deep.RegionWith
namespace Go.Proofs.YtknlnllcpdiglaaDoor
open Go.RowKit

/-- a text in memory, and the place up to which it is read -/
def Tx (w : World) (g : Nat) (s : List UInt8) (k : Nat) : Prop := w.heap[g]? = some (.cells #[.string (ByteArray.mk ⟨s⟩), .int .i64 (k : Int)] 77 (0, 0))
theorem Tx.cells {w : World} {g : Nat} {s : List UInt8} {k : Nat} (h : Tx w g s k) : w.cell? ⟨g, 0, none⟩ = some (.string (ByteArray.mk ⟨s⟩)) ∧ w.cell? ⟨g, 1, none⟩ = some (.int .i64 (k : Int)) ∧ w.frozen? ⟨g, 1, none⟩ = false := by
  unfold Tx at h
  exact ⟨by simp [World.cell?, h], by simp [World.cell?, h], by simp [World.frozen?, h]⟩
theorem Tx.keep {w w' : World} {g : Nat} {s : List UInt8} {k : Nat} (h : Tx w g s k) (hg : w.grownBy w' none) : Tx w' g s k := (hg.block g (Array.getElem?_eq_some_iff.1 h).1 (by simp)).trans h
theorem Tx.put {w : World} {g : Nat} {s : List UInt8} {k : Nat} (h : Tx w g s k) (k' : Nat) (K : Int) (hK : K = (k' : Int)) : Tx (w.setCell ⟨g, 1, none⟩ (.int .i64 K)) g s k' ∧ w.grownBy (w.setCell ⟨g, 1, none⟩ (.int .i64 K)) (some g) := by
  subst hK
  refine ⟨?_, ⟨rfl, rfl, rfl, by simp, fun j _ hj => Below.heap_setCell _ _ _ _ (fun e => hj (by rw [e]))⟩⟩
  have := heap_setCell_same w g 1 _ _ (.int .i64 (k' : Int)) h
  unfold Tx
  rw [this]
  rfl

theorem ext_mk (s : List UInt8) (a b : Nat) : (ByteArray.mk ⟨s⟩).extract a b = ByteArray.mk ⟨(s.drop a).take (b - a)⟩ := by
  apply ByteArray.ext
  rw [ByteArray.data_extract]
  apply Array.ext'
  simp [List.extract_eq_take_drop]
theorem ext_end (s : List UInt8) (a : Nat) : (ByteArray.mk ⟨s⟩).extract a s.length = ByteArray.mk ⟨s.drop a⟩ := by
  rw [ext_mk, List.take_of_length_le (by simp)]

set_option maxHeartbeats 1600000 in
theorem skipBlanks_any (w : World) (g : Nat) (s : List UInt8) (k : Nat) (h : Tx w g s k) (hk : k ≤ s.length) (hs : s.length ≤ 1000000000000000) :
    Calls Tryd.prog 97 #[.pointer (some ⟨g, 0, none⟩)] w fun e w' => e = .returned (.tuple #[]) ∧ Tx w' g s (k + span pisBlank (s.drop k)) ∧ w.grownBy w' (some g) := by
  have H0 : Hid (Tx w g s k) := h
  obtain ⟨c0, c1, f1⟩ := h.cells
  have hz : (ByteArray.mk ⟨s⟩).size = s.length := rfl
  have hki : (k : Int) ≤ (s.length : Int) := by omega
  have hle : span pisBlank (s.drop k) ≤ s.length := by have := span_le pisBlank (s.drop k); rw [List.length_drop] at this; omega
  have HS : Hid (∀ W, w.grownBy W none → Calls Tryd.prog 83 #[.string ((ByteArray.mk ⟨s⟩).extract k s.length), .func (.func 115) #[] #[]] W fun e w' => e = .returned (.int .i64 ((span pisBlank (s.drop k) : Nat) : Int)) ∧ w'.cell? ⟨g, 0, none⟩ = some (.string (ByteArray.mk ⟨s⟩)) ∧ w'.cell? ⟨g, 1, none⟩ = some (.int .i64 (k : Int)) ∧ w'.frozen? ⟨g, 1, none⟩ = false ∧ Hid (Tx w' g s k ∧ w.grownBy w' none)) := fun W hW => by
    rw [ext_end]
    refine (spanOf_isBlank W (s.drop k) (by rw [List.length_drop]; omega)).mono ?_
    rintro e w' ⟨h1, h2⟩
    have hx := (H0.out.keep hW).keep h2
    exact ⟨h1, hx.cells.1, hx.cells.2.1, hx.cells.2.2, hx, gb_none hW h2⟩
  clear h
  generalize span pisBlank (s.drop k) = n at *
  have HW : Hid (IntKind.i64.wrap ((k : Int) + (n : Int)) = ((k + n : Nat) : Int)) := by show IntKind.i64.wrap ((k : Int) + (n : Int)) = ((k + n : Nat) : Int); rw [IntKind.wrap_i64]; omega
  go_enter Tryd.func97, Tryd.ntmps97
  go_wp2_with fail
  go_region_with (go_at_call 83; refine (HS.out _ ?_).mono ?_; (first | exact gb_refl _ _ | exact gb_drew _ _); rintro e w1 ⟨rfl, d0, d1, d2, H1⟩)
  all_goals go_wp2
  all_goals go_end0
  all_goals (have hp := H1.out.1.put (k + n) (IntKind.i64.wrap ((k : Int) + (n : Int))) HW.out; exact ⟨rfl, hp.1, gb_trans (gb_any H1.out.2 _) hp.2 (fun _ h _ => h.symm)⟩)

end Go.Proofs.YtknlnllcpdiglaaDoor
