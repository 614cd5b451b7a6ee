/-
  AlertsNil: what a set that is not there answers: the walk of the law.
-/
import Derived.Test.YtmgbcmogdjhacaaDoorVD
namespace Go.Proofs.YtmgbcmogdjhacaaDoor
open Go.RowKit Go.Shelf Go.Sort Go.Maps Go.WideMaps

set_option maxHeartbeats 1600000 in
theorem sweep_nil (w : World) (now keep : Int) : Calls Tryd.prog 15 #[.pointer none, .int .i64 now, .int .i64 keep] w fun e w' => e = .returned (.tuple #[.int .i64 0, .int .i64 2]) ∧ w' = w := by
  go_enter Tryd.func15, Tryd.ntmps15
  go_wp2
  go_ret2
  exact ⟨rfl, rfl⟩
set_option maxHeartbeats 1600000 in
theorem put_nil (w : World) (now st en : Int) (a : Option Addr) (n c : Nat) : Calls Tryd.prog 17 #[.pointer none, .int .i64 now, .agg #[.slice a n c, .int .i64 st, .int .i64 en]] w fun e w' => e = .returned (.int .i64 2) ∧ w.grownBy w' none := by
  go_enter Tryd.func17, Tryd.ntmps17
  go_wp2
  go_ret
  exact ⟨rfl, World.grownBy_alloc _ _ none⟩
set_option maxRecDepth 8000 in
set_option maxHeartbeats 1600000 in
theorem get_nil (w : World) (u : Value) (ls : List LbT) (hu : RdL w u ls) (hl : LbIn ls) (hT : U8S w) :
    Calls Tryd.prog 16 #[.pointer none, u] w fun e w' => e = .returned (.tuple #[.agg #[.slice none 0 0, .int .i64 0, .int .i64 0], .bool false]) ∧ w.grownBy w' none := by
  have k1 := World.grownBy_alloc w (.cells #[.slice none 0 0, .int .i64 0, .int .i64 0] 34) none
  have HK : Hid (Calls Tryd.prog 35 #[u] (w.alloc (.cells #[.slice none 0 0, .int .i64 0, .int .i64 0] 34)) fun e w' => ∃ K b, e = .returned (.tuple #[.string K, .bool b]) ∧ Hid (w.grownBy w' none ∧ B3 w' w.heap.size 34 (.slice none 0 0) (.int .i64 0) (.int .i64 0))) := by
    refine (keyOf_any _ u ls (hu.keep k1) hl (hT.keep k1)).mono ?_
    rintro e w' ⟨rfl, q⟩
    exact ⟨_, _, rfl, gb_none k1 q, (B3.new w 34 _ _ _).keep q⟩
  obtain ⟨a, c, rfl⟩ : ∃ a c, u = .slice a ls.length c := by obtain ⟨a, c, h, _⟩ := hu; exact ⟨a, c, h⟩
  clear hu hl hT k1
  go_enter Tryd.func16, Tryd.ntmps16
  go_wp2_with fail
  refine HK.out.mono ?_
  rintro e w1 ⟨K, b, rfl, H1⟩
  clear HK
  obtain ⟨d0, d1, d2, e0, e1, e2⟩ := H1.out.2.cells
  go_wp2
  exact bodyPost_ret (results_cell2 rfl _ _ w.heap.size _ _ _ _ rfl (set3 H1.out.2) Tryd.underlying34 rfl (by kernel_rfl)) rfl ⟨rfl, set3_gb H1.out.1 (Nat.le_refl _)⟩
set_option maxRecDepth 8000 in
set_option maxHeartbeats 6400000 in
theorem alNil_walk (w : World) (now st en : Int) (u : Value) (ls : List LbT) (hu : RdL w u ls) (hl : LbIn ls) (hT : U8S w) :
    Calls Tryd.prog 6 #[.int .i64 now, .agg #[u, .int .i64 st, .int .i64 en]] w fun e w' => e = .returned (.bool true) ∧ Below w.heap.size w w' := by
  have HU := hidJ (And.intro hu (And.intro hl hT))
  obtain ⟨a, c, rfl⟩ : ∃ a c, u = .slice a ls.length c := by obtain ⟨a, c, h, _⟩ := hu; exact ⟨a, c, h⟩
  clear hu hl hT
  have k1 := World.grownBy_alloc w (.cells #[.slice a ls.length c, .int .i64 st, .int .i64 en] 34) none
  have hb := B3.new w 34 (.slice a ls.length c) (.int .i64 st) (.int .i64 en)
  have HS : Hid (Calls Tryd.prog 15 #[.pointer none, .int .i64 now, .int .i64 1] (w.alloc (.cells #[.slice a ls.length c, .int .i64 st, .int .i64 en] 34)) fun e w' => e = .returned (.tuple #[.int .i64 0, .int .i64 2]) ∧ Hid (w.grownBy w' none ∧ B3 w' w.heap.size 34 (.slice a ls.length c) (.int .i64 st) (.int .i64 en))) :=
    (sweep_nil _ now 1).mono fun e w' ⟨h1, h2⟩ => ⟨h1, by rw [h2]; exact ⟨k1, hb⟩⟩
  clear k1 hb
  go_enter Tryd.func6, Tryd.ntmps6
  go_wp2_with fail
  refine HS.out.mono ?_
  rintro e w1 ⟨rfl, H1⟩
  clear HS
  obtain ⟨b0, b1, b2, -⟩ := H1.out.2.cells
  have HG : Hid (Calls Tryd.prog 16 #[.pointer none, .slice a ls.length c] w1 fun e w' => e = .returned (.tuple #[.agg #[.slice none 0 0, .int .i64 0, .int .i64 0], .bool false]) ∧ Hid (w.grownBy w' none ∧ B3 w' w.heap.size 34 (.slice a ls.length c) (.int .i64 st) (.int .i64 en))) :=
    (get_nil w1 _ ls (HU.out.1.keep H1.out.1) HU.out.2.1 (HU.out.2.2.keep H1.out.1)).mono fun e w' ⟨h1, h2⟩ => ⟨h1, gb_none H1.out.1 h2, H1.out.2.keep h2⟩
  go_wp2_with fail
  refine HG.out.mono ?_
  rintro e w2 ⟨rfl, H2⟩
  clear HG H1 b0 b1 b2
  have hcA : ∀ C, (w2.alloc C).cell? ⟨w.heap.size, 0, none⟩ = some (.slice a ls.length c) := fun C => (H2.out.2.keep (World.grownBy_alloc w2 C none)).cells.1
  have hcB : ∀ C, (w2.alloc C).cell? ⟨w.heap.size, 1, none⟩ = some (.int .i64 st) := fun C => (H2.out.2.keep (World.grownBy_alloc w2 C none)).cells.2.1
  have hcC : ∀ C, (w2.alloc C).cell? ⟨w.heap.size, 2, none⟩ = some (.int .i64 en) := fun C => (H2.out.2.keep (World.grownBy_alloc w2 C none)).cells.2.2.1
  have HP : Hid (∀ C, Calls Tryd.prog 17 #[.pointer none, .int .i64 now, .agg #[.slice a ls.length c, .int .i64 st, .int .i64 en]] (w2.alloc C) fun e w' => e = .returned (.int .i64 2) ∧ Hid (w.grownBy w' none)) := fun C => (put_nil _ now st en a _ c).mono fun e w' ⟨h1, h2⟩ => ⟨h1, gb_none H2.out.1 (gb_none (World.grownBy_alloc w2 C none) h2)⟩
  have HF : Hid (∀ W, w.grownBy W none → Calls Tryd.prog 21 #[.pointer none, .int .i64 now] W fun e w' => ∃ a c, e = .returned (.slice a 0 c) ∧ Hid (w.grownBy w' none)) := fun W hW => (firing_any W (.pointer none) now [] ⟨_, rfl⟩ (.inl ⟨rfl, rfl⟩)).mono fun e w' ⟨v', l, h1, h2, h3, h4, h5⟩ => by
    obtain ⟨a, c, e2⟩ := h2.shape
    rw [len_of_map h3] at e2
    exact ⟨a, c, by rw [h1, e2]; rfl, gb_none hW h5⟩
  have HA : Hid (∀ W, w.grownBy W none → Calls Tryd.prog 14 #[.pointer none, .int .i64 0] W fun e w' => ∃ a c, e = .returned (.slice a 0 c) ∧ Hid (w.grownBy w' none)) := fun W hW => (allL_any W (.pointer none) 0 [] ⟨_, rfl⟩ (.inl ⟨rfl, rfl⟩)).mono fun e w' ⟨v', l, h1, h2, h3, h4, h5⟩ => by
    obtain ⟨a, c, e2⟩ := h2.shape
    rw [len_of_map h3] at e2
    exact ⟨a, c, by rw [h1, e2]; rfl, gb_none hW h5⟩
  have HL : Hid (∀ W, Calls Tryd.prog 12 #[.pointer none] W fun e w' => e = .returned (.int .i64 0) ∧ w' = W) := len_nil
  have HKn : Hid (∀ W, w.grownBy W none → Calls Tryd.prog 9 #[] W fun e w' => e = .returned (.bool true) ∧ Hid (w.grownBy w' none)) := fun W hW => (known_any W (HU.out.2.2.keep hW)).mono fun e w' ⟨h1, h2⟩ => ⟨h1, gb_none hW h2⟩
  clear HU
  go_wp2_with fail
  refine (HP.out _).mono ?_
  rintro e w3 ⟨rfl, H3⟩
  clear HP H2 hcA hcB hcC
  go_wp2_with fail
  refine (HF.out _ H3.out).mono ?_
  rintro e w4 ⟨a4, c4, rfl, H4⟩
  clear HF H3
  go_wp2_with fail
  refine (HA.out _ H4.out).mono ?_
  rintro e w5 ⟨a5, c5, rfl, H5⟩
  clear HA H4
  go_wp2_with fail
  refine (HL.out _).mono ?_
  rintro e w6 ⟨rfl, hw6⟩
  have hw6 := hw6.symm
  subst hw6
  clear HL
  go_wp2_with fail
  refine (HKn.out _ H5.out).mono ?_
  rintro e w7 ⟨rfl, H7⟩
  clear HKn H5
  go_wp2
  go_ret
  exact ⟨rfl, gb_below H7.out⟩
end Go.Proofs.YtmgbcmogdjhacaaDoor
