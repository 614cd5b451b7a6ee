/-
  The table of functions, and Call.
-/
import Derived.Test.YtgpednikianneaaOvD
namespace Go.Proofs.Ytgpednikianneaa
open Go.RowKit

/-! ### the table -/
def plV (n : Int) (f : Nat) : Value := .agg #[.int .i64 n, .func (.func f) #[] #[]]
/-- a line: its name, its type, its value -/
def tabL : List (ByteArray × Nat × Value) :=
  [(⟨#[115, 117, 109, 95, 111, 118, 101, 114, 95, 116, 105, 109, 101]⟩, 81, plV 1 48),
   (⟨#[97, 118, 103, 95, 111, 118, 101, 114, 95, 116, 105, 109, 101]⟩, 81, plV 1 49),
   (⟨#[109, 105, 110, 95, 111, 118, 101, 114, 95, 116, 105, 109, 101]⟩, 81, plV 1 50),
   (⟨#[109, 97, 120, 95, 111, 118, 101, 114, 95, 116, 105, 109, 101]⟩, 81, plV 1 51),
   (⟨#[99, 111, 117, 110, 116, 95, 111, 118, 101, 114, 95, 116, 105, 109, 101]⟩, 81, plV 1 52),
   (⟨#[108, 97, 115, 116, 95, 111, 118, 101, 114, 95, 116, 105, 109, 101]⟩, 81, plV 1 53),
   (⟨#[112, 114, 101, 115, 101, 110, 116, 95, 111, 118, 101, 114, 95, 116, 105, 109, 101]⟩, 81, plV 1 54),
   (⟨#[113, 117, 97, 110, 116, 105, 108, 101, 95, 111, 118, 101, 114, 95, 116, 105, 109, 101]⟩, 83, plV 1 55),
   (⟨#[99, 104, 97, 110, 103, 101, 115]⟩, 81, plV 1 56),
   (⟨#[114, 101, 115, 101, 116, 115]⟩, 81, plV 1 57),
   (⟨#[100, 101, 108, 116, 97]⟩, 81, plV 2 58),
   (⟨#[105, 110, 99, 114, 101, 97, 115, 101]⟩, 81, plV 2 59),
   (⟨#[114, 97, 116, 101]⟩, 81, plV 2 60),
   (⟨#[105, 114, 97, 116, 101]⟩, 81, plV 2 61),
   (⟨#[105, 100, 101, 108, 116, 97]⟩, 81, plV 2 62)]
def tabZ : ByteArray × Nat × Value := (⟨#[]⟩, 0, undef)
def tabC : List Value := tabL.flatMap fun x => [.string x.1, .iface x.2.1 x.2.2]
theorem tab_at : ∀ j, j < 15 → tabC[j * 2]? = some (.string (tabL.getD j tabZ).1) ∧ tabC[j * 2 + 1]? = some (.iface (tabL.getD j tabZ).2.1 (tabL.getD j tabZ).2.2) := by
  intro j hj
  have : j = 0 ∨ j = 1 ∨ j = 2 ∨ j = 3 ∨ j = 4 ∨ j = 5 ∨ j = 6 ∨ j = 7 ∨ j = 8 ∨ j = 9 ∨ j = 10 ∨ j = 11 ∨ j = 12 ∨ j = 13 ∨ j = 14 := by omega
  rcases this with rfl | rfl | rfl | rfl | rfl | rfl | rfl | rfl | rfl | rfl | rfl | rfl | rfl | rfl | rfl <;> exact ⟨rfl, rfl⟩
set_option maxRecDepth 8000 in
set_option maxHeartbeats 3200000 in
theorem table_any (w : World) : Calls Try.prog 32 #[] w fun e w' => e = .returned (.slice (some ⟨w.heap.size, 0, none⟩) 15 15) ∧ w' = w.alloc (.cells tabC.toArray 64) := by
  go_enter Try.func32, Try.ntmps32
  go_wp2
  go_ret
  exact ⟨rfl, rfl⟩
/-- the table in memory -/
theorem tab_cells (w : World) (j : Nat) (hj : j < 15) : ∀ wr, (w.alloc (.cells tabC.toArray 64)).grownBy wr none → w.heap.size < wr.heap.size ∧ wr.cell? ⟨w.heap.size, j * 2, none⟩ = some (.string (tabL.getD j tabZ).1) ∧ wr.cell? ⟨w.heap.size, j * 2 + 1, none⟩ = some (.iface (tabL.getD j tabZ).2.1 (tabL.getD j tabZ).2.2) := fun wr hg => by
  have hb := Go.heap_alloc_new w (.cells tabC.toArray 64)
  have hlt := some_lt hb
  have hb2 := (hg.block _ hlt (by simp)).trans hb
  refine ⟨Nat.lt_of_lt_of_le hlt hg.size, ?_, ?_⟩
  · rw [World.cell?, hb2]
    have := (tab_at j hj).1
    simpa using this
  · rw [World.cell?, hb2]
    have := (tab_at j hj).2
    simpa using this
theorem store_iface (a : Addr) (t : TypeId) (v : Value) (m : Mode) (w : World) : (store a (.iface t v) m).run Try.prog w = stored Try.prog w a (.iface t v) m := run_store _ w a _ m rfl
set_option maxRecDepth 8000 in
set_option maxHeartbeats 3200000 in
theorem find_at (w : World) (k : Nat) (hk : k < 15) (hne : ∀ j, j < k → ((tabL.getD j tabZ).1.toList == (tabL.getD k tabZ).1.toList) = false) :
    Calls Try.prog 23 #[.string (tabL.getD k tabZ).1] w fun e w' => e = .returned (.tuple #[.iface (tabL.getD k tabZ).2.1 (tabL.getD k tabZ).2.2, .bool true]) ∧ w.grownBy w' none := by
  have HT := hidJ (table_any w)
  have HE := hidJ (tab_cells w)
  have HN := hidJ hne
  have HG0 := hidJ (alloc_gb w (.cells tabC.toArray 64))
  obtain ⟨RQ, hRQ⟩ : ∃ RQ : Ending → World → Prop, RQ = fun e w' => e = .returned (.tuple #[.iface (tabL.getD k tabZ).2.1 (tabL.getD k tabZ).2.2, .bool true]) ∧ w.grownBy w' none := ⟨_, rfl⟩
  have HF : Hid (∀ w' t v, .iface t v = Value.iface (tabL.getD k tabZ).2.1 (tabL.getD k tabZ).2.2 → w.grownBy w' none → RQ (.returned (.tuple #[.iface t v, .bool true])) w') := fun w' t v hv hg => by
    rw [hRQ, hv]
    exact ⟨rfl, hg⟩
  rw [show (fun e w' => e = .returned (.tuple #[.iface (tabL.getD k tabZ).2.1 (tabL.getD k tabZ).2.2, .bool true]) ∧ w.grownBy w' none) = (fun e w' => RQ e w') from by rw [hRQ]]
  clear hRQ hne
  obtain ⟨nm, hnm⟩ : ∃ nm, (tabL.getD k tabZ).1 = nm := ⟨_, rfl⟩
  rw [hnm] at HN ⊢
  have HM := hidJ hnm
  clear hnm
  generalize tabC.toArray = TC at *
  go_enter Try.func23, Try.ntmps23
  go_wp2_with fail
  refine HT.out.mono ?_
  rintro e w1 ⟨rfl, hw1⟩
  rw [← hw1] at HE HG0
  clear HT hw1
  go_wp2
  go_loopw [8] (fun i wr => ∃ z : Nat, z ≤ k ∧ i = .int .i64 z ∧ Hid (w1.grownBy wr none)) (fun i _ => 15 - (intOf i).toNat)
  case atStart => exact ⟨0, by omega, rfl, gb_refl _ _⟩
  case round =>
    obtain ⟨z, hzk, rfl, hr⟩ := hrel
    have hz15 : z < 15 := by omega
    have hzi : (z : Int) < 15 := by omega
    obtain ⟨hbl, d0, d1⟩ := HE.out z hz15 wr hr.out
    have hlt2 : ¬ wr.heap.size = w.heap.size := by omega
    obtain ⟨C2, hC2⟩ : ∃ C2 : Obj, C2 = .cells #[.string (tabL.getD z tabZ).1, .iface (tabL.getD z tabZ).2.1 (tabL.getD z tabZ).2.2] 64 := ⟨_, rfl⟩
    have HG : Hid (w1.grownBy (wr.alloc C2) none) := gb_none hr.out (alloc_gb _ _)
    have HY : Hid (((tabL.getD z tabZ).1.toList == nm.toList) = true → RQ (.returned (.tuple #[.iface (tabL.getD z tabZ).2.1 (tabL.getD z tabZ).2.2, .bool true])) (wr.alloc C2)) := fun h => by
      have e : z = k := by
        rcases Nat.lt_or_ge z k with h2 | h2
        · rw [HN.out z h2] at h; cases h
        · omega
      exact HF.out _ _ _ (by rw [e]) (gb_none HG0.out HG.out)
    have HZ : Hid (((tabL.getD z tabZ).1.toList == nm.toList) = false → z + 1 ≤ k) := fun h => by
      rcases Nat.lt_or_ge z k with h2 | h2
      · omega
      · rw [show z = k by omega, HM.out] at h
        simp at h
    clear hr HE HF HN HM HG0
    subst hC2
    have hsi := store_iface
    generalize (tabL.getD z tabZ).1 = zn at *
    generalize (tabL.getD z tabZ).2.1 = zt at *
    generalize (tabL.getD z tabZ).2.2 = zv at *
    cases hq : (zn.toList == nm.toList) with
    | true =>
      have HR := hidJ (HY.out hq)
      clear HY HZ HG
      go_wp2
      exact HR.out
    | false =>
      have hz1 := HZ.out hq
      have HG2 := hidJ HG.out
      clear HY HZ HG
      go_wp2
      go_roundw
      case rel => exact ⟨z + 1, hz1, by go_num, HG2.out⟩
      case measure => simp [intOf]; omega
end Go.Proofs.Ytgpednikianneaa
