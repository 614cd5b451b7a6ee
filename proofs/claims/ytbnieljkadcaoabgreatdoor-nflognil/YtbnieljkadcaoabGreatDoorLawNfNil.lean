/-
  NflogNil: what a log that is not there answers: the walk of the law.
-/
import Derived.Test.YtbnieljkadcaoabGreatDoorNfi
import Derived.Test.YtbnieljkadcaoabGreatDoorNfj
namespace Go.Proofs.YtbnieljkadcaoabGreatDoor
open Go.RowKit Go.Shelf Go.Sort

/-- a struct of eight cells -/
def B8 (w : World) (b : Nat) (t : TypeId) (c0 c1 c2 c3 c4 c5 c6 c7 : Value) : Prop := w.heap[b]? = some (.cells #[c0, c1, c2, c3, c4, c5, c6, c7] t (0, 0))
theorem B8.cells {w : World} {b : Nat} {t : TypeId} {c0 c1 c2 c3 c4 c5 c6 c7 : Value} (h : B8 w b t c0 c1 c2 c3 c4 c5 c6 c7) : w.cell? ⟨b, 1, none⟩ = some c1 ∧ w.cell? ⟨b, 2, none⟩ = some c2 ∧ w.cell? ⟨b, 3, none⟩ = some c3 ∧ w.cell? ⟨b, 4, none⟩ = some c4 ∧ w.cell? ⟨b, 5, none⟩ = some c5 ∧ w.cell? ⟨b, 6, none⟩ = some c6 ∧ w.cell? ⟨b, 7, none⟩ = some c7 := by
  unfold B8 at h
  exact ⟨by simp [World.cell?, h], by simp [World.cell?, h], by simp [World.cell?, h], by simp [World.cell?, h], by simp [World.cell?, h], by simp [World.cell?, h], by simp [World.cell?, h]⟩
theorem B8.keep {w w' : World} {b : Nat} {t : TypeId} {c0 c1 c2 c3 c4 c5 c6 c7 : Value} (h : B8 w b t c0 c1 c2 c3 c4 c5 c6 c7) (hg : w.grownBy w' none) : B8 w' b t c0 c1 c2 c3 c4 c5 c6 c7 := (hg.block b (some_lt h) (by simp)).trans h
set_option maxRecDepth 8000 in
set_option maxHeartbeats 6400000 in
theorem nfNil_walk (w : World) (kd at_ nw nn : Int) (r k : ByteArray) (fa : Option Addr) (fn fc : Nat) (sa : Option Addr) (sn sc : Nat) (hT : U8S w) :
    Calls Tryz.prog 4 #[.agg #[.int .i64 kd, .string r, .string k, .int .i64 at_, .slice fa fn fc, .slice sa sn sc, .int .i64 nw, .int .i64 nn]] w fun e w' => e = .returned (.bool true) ∧ Below w.heap.size w w' := by
  have HT := hidJ hT
  clear hT
  have HB : Hid (B8 (w.alloc (.cells #[.int .i64 kd, .string r, .string k, .int .i64 at_, .slice fa fn fc, .slice sa sn sc, .int .i64 nw, .int .i64 nn] 38)) w.heap.size 38 (.int .i64 kd) (.string r) (.string k) (.int .i64 at_) (.slice fa fn fc) (.slice sa sn sc) (.int .i64 nw) (.int .i64 nn) ∧ w.grownBy (w.alloc (.cells #[.int .i64 kd, .string r, .string k, .int .i64 at_, .slice fa fn fc, .slice sa sn sc, .int .i64 nw, .int .i64 nn] 38)) none) := ⟨Go.heap_alloc_new w _, World.grownBy_alloc _ _ none⟩
  have H1 : Hid (∀ W, Calls Tryz.prog 11 #[.pointer none, .string r, .string k] W fun e w' => e = .returned (.tuple #[.agg #[.string ⟨#[]⟩, .string ⟨#[]⟩, .int .i64 0, .slice none 0 0, .slice none 0 0], .bool false]) ∧ W.grownBy w' none) := fun W => find_nil W r k
  have H2 : Hid (∀ W, Calls Tryz.prog 12 #[.pointer none, .string r, .string k, .int .i64 nw, .int .i64 nn, .slice fa fn fc, .slice sa sn sc] W fun e w' => e = .returned (.tuple #[.bool false, .int .i64 2]) ∧ w' = W) := fun W => needs_nil W r k nw nn fa fn fc sa sn sc
  have H3 : Hid (∀ W, Calls Tryz.prog 13 #[.pointer none, .int .i64 nw, .int .i64 nn] W fun e w' => e = .returned (.tuple #[.int .i64 0, .int .i64 2]) ∧ W.grownBy w' none) := fun W => sweep_nil W nw nn
  have H4 : Hid (∀ W, Calls Tryz.prog 7 #[.pointer none, .agg #[.string r, .string k, .int .i64 at_, .slice fa fn fc, .slice sa sn sc]] W fun e w' => e = .returned (.int .i64 2) ∧ W.grownBy w' none) := fun W => put_nil W r k at_ fa fn fc sa sn sc
  have H5 : Hid (∀ W, Calls Tryz.prog 14 #[.agg #[.string ⟨#[]⟩, .string ⟨#[]⟩, .int .i64 0, .slice none 0 0, .slice none 0 0], .agg #[.string ⟨#[]⟩, .string ⟨#[]⟩, .int .i64 0, .slice none 0 0, .slice none 0 0]] W fun e w' => e = .returned (.bool true) ∧ W.grownBy w' none) := same_zero
  have H6 : Hid (∀ W, Calls Tryz.prog 9 #[.pointer none] W fun e w' => e = .returned (.int .i64 0) ∧ w' = W) := lenL_nil
  have H7 : Hid (∀ W, Calls Tryz.prog 15 #[.pointer none, .int .i64 1] W fun e w' => e = .returned (.slice none 0 0) ∧ W.grownBy w' none) := fun W => every_nil W 1
  have H8 : Hid (∀ W, Calls Tryz.prog 16 #[.pointer none] W fun e w' => e = .returned (.slice none 0 0) ∧ W.grownBy w' none) := records_nil
  have H9 : Hid (∀ W, w.grownBy W none → Calls Tryz.prog 10 #[] W fun e w' => e = .returned (.bool true) ∧ W.grownBy w' none) := fun W hW => awakeN_any W (HT.out.keep hW)
  clear HT
  go_enter Tryz.func4, Tryz.ntmps4
  go_wp2_with fail
  refine (H1.out _).mono ?_
  rintro e w1 ⟨rfl, g1⟩
  clear H1
  have HB1 := hidJ (And.intro (HB.out.1.keep g1) (gb_none HB.out.2 g1))
  clear g1 HB
  have k2 := World.grownBy_alloc w1 (.cells #[.string ⟨#[]⟩, .string ⟨#[]⟩, .int .i64 0, .slice none 0 0, .slice none 0 0] 24) none
  have hm2 := B5.new w1 24 (.string ⟨#[]⟩) (.string ⟨#[]⟩) (.int .i64 0) (.slice none 0 0) (.slice none 0 0)
  have HB2 := hidJ (And.intro (HB1.out.1.keep k2) (And.intro (gb_none HB1.out.2 k2) hm2))
  clear k2 hm2
  have HBC : Hid (∀ C, B8 (w1.alloc C) w.heap.size 38 (.int .i64 kd) (.string r) (.string k) (.int .i64 at_) (.slice fa fn fc) (.slice sa sn sc) (.int .i64 nw) (.int .i64 nn)) := fun C => HB1.out.1.keep (World.grownBy_alloc w1 C none)
  clear HB1
  have c1 := fun C => (HBC.out C).cells.1
  have c2 := fun C => (HBC.out C).cells.2.1
  have c3 := fun C => (HBC.out C).cells.2.2.1
  have c4 := fun C => (HBC.out C).cells.2.2.2.1
  have c5 := fun C => (HBC.out C).cells.2.2.2.2.1
  have c6 := fun C => (HBC.out C).cells.2.2.2.2.2.1
  have c7 := fun C => (HBC.out C).cells.2.2.2.2.2.2
  go_wp2_with fail
  refine (H2.out _).mono ?_
  rintro e w3 ⟨rfl, h3⟩
  have h3 := h3.symm
  subst h3
  clear H2
  go_wp2_with fail
  refine (H3.out _).mono ?_
  rintro e w3 ⟨rfl, g3⟩
  clear H3 c1 c2 c3 c4 c5 c6 c7 HBC
  have HB3 := hidJ (And.intro (HB2.out.1.keep g3) (And.intro (gb_none HB2.out.2.1 g3) (HB2.out.2.2.keep g3)))
  clear HB2 g3
  obtain ⟨c1, c2, c3, c4, c5, c6, c7⟩ := HB3.out.1.cells
  go_wp2_with fail
  refine (H4.out _).mono ?_
  rintro e w4 ⟨rfl, g4⟩
  clear H4 c1 c2 c3 c4 c5 c6 c7
  have HB4 := hidJ (And.intro (gb_none HB3.out.2.1 g4) (HB3.out.2.2.keep g4))
  clear HB3 g4
  obtain ⟨d0, d1, d2, d3, d4⟩ := HB4.out.2.cells
  go_wp2_with fail
  refine (H5.out _).mono ?_
  rintro e w5 ⟨rfl, g5⟩
  have HB5 := hidJ (gb_none HB4.out.1 g5)
  clear H5 d0 d1 d2 d3 d4 HB4 g5
  go_wp2_with fail
  refine (H6.out _).mono ?_
  rintro e w6 ⟨rfl, h6⟩
  have h6 := h6.symm
  subst h6
  clear H6
  go_wp2_with fail
  refine (H7.out _).mono ?_
  rintro e w7 ⟨rfl, g7⟩
  have HB7 := hidJ (gb_none HB5.out g7)
  clear H7 HB5 g7
  go_wp2_with fail
  refine (H8.out _).mono ?_
  rintro e w8 ⟨rfl, g8⟩
  have HB8 := hidJ (gb_none HB7.out g8)
  clear H8 HB7 g8
  go_wp2_with fail
  refine (H9.out _ HB8.out).mono ?_
  rintro e w9 ⟨rfl, g9⟩
  have HB9 := hidJ (gb_below (gb_none HB8.out g9))
  clear H9 HB8 g9
  go_wp2
  go_ret
  exact ⟨rfl, HB9.out⟩
end Go.Proofs.YtbnieljkadcaoabGreatDoor
