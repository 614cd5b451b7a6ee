/-
  From the listed variables of the row of VintTexts to the tables.
-/
import Derived.Test.YtfggcmkoihemoaaDoorLift
import Derived.Test.YtfggcmkoihemoaaDoorU8Valid
import Derived.Lib.LaidU8T
import Derived.PinnedBridge
import Derived.MakeChecks
namespace Go.Proofs.YtfggcmkoihemoaaDoor
open Go.RowKit Go.Lib Go.Shelf

def rho : Ren := ⟨fun x => x, fun n => if n = 5 then 5 else if n = 119 then 68 else if n = 138 then 70 else if n = 139 then 71 else 0, fun n => if n = 3 then 1 else if n = 4 then 2 else 0⟩
theorem rhoT : U8Types Tryd.prog rho := ⟨Tryd.underlying5, Tryd.underlying68, Tryd.underlying70, Tryd.underlying71⟩
theorem rhoX : U8Extra Tryd.prog rho := ⟨by kernel_rfl, by kernel_rfl, by kernel_rfl, by kernel_rfl, by kernel_rfl, by kernel_rfl, by kernel_rfl⟩
theorem u8_of {W : World} {laid : List (String × DataW Unit)} (h : laidMet Tryd.prog laid W) (h1 : ("unicode/utf8.first", Rows.laid_unicode_utf8_first) ∈ laid) (h2 : ("unicode/utf8.acceptRanges", (Rows.laid_unicode_utf8_acceptRanges : DataW Unit)) ∈ laid) : U8Tab W := by
  have r1 := laidMet.reads h h1
  have r2 := laidMet.reads h h2
  rw [show Rows.laid_unicode_utf8_first = firstData from Pinned.utf8First_eq] at r1
  rw [show (Rows.laid_unicode_utf8_acceptRanges : DataW Unit) = acceptData from by kernel_rfl] at r2
  have t := utf8Tabs_of_readsT rhoT rhoX r1 r2
  refine ⟨fun c hc => t.1 c hc, fun i hi => ?_⟩
  have := t.2 i hi
  rw [Nat.mul_comm] at this
  exact this
theorem half_of {W : World} {laid : List (String × DataW Unit)} (h : laidMet Tryd.prog laid W) (h1 : ("tocsin/vint.halfSums", (Rows.laid_tocsin_vint_halfSums : DataW Unit)) ∈ laid) : TabIn W := by
  obtain ⟨g, t, cs, fuel, p, hg, hty, hvar, hd⟩ := laidMet.reads h h1
  obtain rfl := Option.some.inj (gTab.symm.trans hg)
  obtain rfl := Option.some.inj (gTabType.symm.trans hty)
  have hcs := cells_of_tab (zs := [0, 274646895, 549293790, 820201905, 1098587580, 1361435347, 1640403810, 1905808397, 2197175160, 2460548119, 2722870694, 2987750089, 3280807620, 3553878443, 3811616794, 4084100981]) Tryd.underlying64 Tryd.underlying40 cellsU32 cellsT hd
  refine tabIn_of (zs := [0, 274646895, 549293790, 820201905, 1098587580, 1361435347, 1640403810, 1905808397, 2197175160, 2460548119, 2722870694, 2987750089, 3280807620, 3553878443, 3811616794, 4084100981]) ?_ tab_ints.symm
  unfold TabIs
  rw [hvar, ← hcs]
theorem texts_tabs {W : World} (h : laidMetH Tryd.prog Rows.vintTextsRow.laid W) : TabIn W ∧ U8Tab W := by
  have h : laidMet Tryd.prog Rows.vintTextsRow.laid W := by rw [← Go.MakeChecks.laidMetH_plain _ _ _ (by kernel_rfl)]; exact h
  exact ⟨half_of h (by simp [Rows.vintTextsRow]), u8_of h (by simp [Rows.vintTextsRow]) (by simp [Rows.vintTextsRow])⟩
/-- A WORLD FOR THE WITNESS: the three tables hold what their initialisers lay. -/
noncomputable def laidWorldU (os : Os) : World :=
  { laidWorld os with heap := ((laidWorld os).heap.modify 1 fun
      | .cells _ t frozen => .cells (Go.Pinned.utf8FirstZ.map fun n : Nat => Value.int .u8 (n : Int)).toArray t frozen
      | o => o).modify 2 fun
      | .cells _ t frozen => .cells #[.int .u8 128, .int .u8 191, .int .u8 160, .int .u8 191, .int .u8 128, .int .u8 159, .int .u8 144, .int .u8 191, .int .u8 128, .int .u8 143, .int .u8 0, .int .u8 0, .int .u8 0, .int .u8 0, .int .u8 0, .int .u8 0, .int .u8 0, .int .u8 0, .int .u8 0, .int .u8 0, .int .u8 0, .int .u8 0, .int .u8 0, .int .u8 0, .int .u8 0, .int .u8 0, .int .u8 0, .int .u8 0, .int .u8 0, .int .u8 0, .int .u8 0, .int .u8 0] t frozen
      | o => o }
end Go.Proofs.YtfggcmkoihemoaaDoor
