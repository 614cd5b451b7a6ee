/-
  LabelsRights: names and label sets are right as the chapter says, or have its first fault: the walk, but for awake.
-/
import Derived.Test.YtfdoncmecijcmaaDoorLbSame
import Derived.Test.YtfdoncmecijcmaaDoorLbP2
namespace Go.Proofs.YtfdoncmecijcmaaDoor
open Go.RowKit

set_option maxRecDepth 8000 in
set_option maxHeartbeats 3200000 in
theorem lbRights_walk (w : World) (s : List UInt8) (v : Value) (ls : List LbT) (hs : s.length ≤ 1000000000000000000) (hv : RdL w v ls) (hl : LbIn ls) (hll : ls.length ≤ 4398046511104) (hT : U8S w)
    (AW : ∀ W, w.grownBy W none → Calls Tryd.prog 17 #[] W fun e w' => e = .returned (.bool true) ∧ W.grownBy w' none) :
    Calls Tryd.prog 3 #[.string (ByteArray.mk ⟨s⟩), v] w fun e w' => e = .returned (.bool true) ∧ Below w.heap.size w w' := by
  have HV : Hid (RdL w v ls ∧ LbIn ls ∧ ls.length ≤ 4398046511104 ∧ U8S w ∧ s.length ≤ 1000000000000000000) := ⟨hv, hl, hll, hT, hs⟩
  have HA : Hid (∀ W, w.grownBy W none → Calls Tryd.prog 17 #[] W fun e w' => e = .returned (.bool true) ∧ W.grownBy w' none) := AW
  obtain ⟨a, c, rfl⟩ : ∃ a c, v = .slice a ls.length c := by obtain ⟨a, c, h, _⟩ := hv; exact ⟨a, c, h⟩
  clear hv hl hll hT hs AW
  have HN : Hid (∀ W, Calls Tryd.prog 12 #[.string (ByteArray.mk ⟨s⟩)] W fun e w' => e = .returned (.bool (nameB s)) ∧ W.grownBy w' none) := fun W => name_any W s HV.out.2.2.2.2
  have HM : Hid (∀ W, Calls Tryd.prog 14 #[.string (ByteArray.mk ⟨s⟩)] W fun e w' => e = .returned (.bool (metricB s)) ∧ W.grownBy w' none) := fun W => metric_any W s HV.out.2.2.2.2
  have HRN : Hid (∀ W, Calls Tryd.prog 13 #[.string (ByteArray.mk ⟨s⟩)] W fun e w' => e = .returned (.bool (nameB s)) ∧ W.grownBy w' none) := fun W => refName_any W s HV.out.2.2.2.2
  have HRM : Hid (∀ W, Calls Tryd.prog 15 #[.string (ByteArray.mk ⟨s⟩)] W fun e w' => e = .returned (.bool (metricB s)) ∧ W.grownBy w' none) := fun W => refMetric_any W s HV.out.2.2.2.2
  generalize nameB s = bn at *
  generalize metricB s = bm at *
  have HR1 : Hid (∀ W g cap base, LentL W base g cap ls → w.grownBy W none → Calls Tryd.prog 10 #[.slice (some ⟨g, 0, none⟩) ls.length cap] W fun e w' => e = .returned (.tuple #[.int .i64 (rightS ls).1, .int .i64 ((rightS ls).2 : Int)]) ∧ W.grownBy w' none) := fun W g cap base h hg => right_any W _ ls h.rd.1 HV.out.2.1 (HV.out.2.2.2.1.keep hg)
  have HR2 : Hid (∀ W, w.grownBy W none → Calls Tryd.prog 11 #[.slice a ls.length c] W fun e w' => e = .returned (.tuple #[.int .i64 (rightS ls).1, .int .i64 ((rightS ls).2 : Int)]) ∧ W.grownBy w' none) := fun W hg => refRight_any W _ ls (HV.out.1.keep hg) HV.out.2.1
  generalize (rightS ls).1 = r1 at *
  generalize (rightS ls).2 = r2 at *
  go_enter Tryd.func3, Tryd.ntmps3
  go_wp2_with fail
  refine (lentL_any _ _ ls HV.out.1 HV.out.2.2.1).mono ?_
  rintro e w1 ⟨g, cap, rfl, ho1, hg1⟩
  have H1 : Hid (LentL w1 w.heap.size g cap ls ∧ w.grownBy w1 none) := ⟨ho1, hg1⟩
  clear ho1 hg1
  go_wp2_with fail
  refine (HR1.out _ g cap _ H1.out.1 H1.out.2).mono ?_
  rintro e w2 ⟨rfl, hg2⟩
  have H2 : Hid (LentL w2 w.heap.size g cap ls ∧ w.grownBy w2 none) := ⟨OwnL.keep H1.out.1 hg2, gb_none H1.out.2 hg2⟩
  clear hg2 H1
  go_wp2_with fail
  refine (HR2.out _ H2.out.2).mono ?_
  rintro e w3 ⟨rfl, hg3⟩
  have H3 : Hid (LentL w3 w.heap.size g cap ls ∧ w.grownBy w3 none) := ⟨OwnL.keep H2.out.1 hg3, gb_none H2.out.2 hg3⟩
  clear hg3 H2
  have qn : (bn == bn) = true := by cases bn <;> rfl
  have qm : (bm == bm) = true := by cases bm <;> rfl
  go_wp2_with fail
  refine (HN.out _).mono ?_
  rintro e w4 ⟨rfl, hg4⟩
  have H4 : Hid (LentL w4 w.heap.size g cap ls ∧ w.grownBy w4 none) := ⟨OwnL.keep H3.out.1 hg4, gb_none H3.out.2 hg4⟩
  clear hg4 H3
  go_wp2_with fail
  refine (HRN.out _).mono ?_
  rintro e w5 ⟨rfl, hg5⟩
  have H5 : Hid (LentL w5 w.heap.size g cap ls ∧ w.grownBy w5 none) := ⟨OwnL.keep H4.out.1 hg5, gb_none H4.out.2 hg5⟩
  clear hg5 H4
  go_wp2_with fail
  refine (HM.out _).mono ?_
  rintro e w6 ⟨rfl, hg6⟩
  have H6 : Hid (LentL w6 w.heap.size g cap ls ∧ w.grownBy w6 none) := ⟨OwnL.keep H5.out.1 hg6, gb_none H5.out.2 hg6⟩
  clear hg6 H5
  go_wp2_with fail
  refine (HRM.out _).mono ?_
  rintro e w7 ⟨rfl, hg7⟩
  have H7 : Hid (LentL w7 w.heap.size g cap ls ∧ w.grownBy w7 none) := ⟨OwnL.keep H6.out.1 hg7, gb_none H6.out.2 hg7⟩
  clear hg7 H6
  go_wp2_with fail
  refine (keptL_any _ _ g cap _ ls H7.out.1 (HV.out.1.keep H7.out.2)).mono ?_
  rintro e w8 ⟨rfl, hg8⟩
  have H8 : Hid (w.grownBy w8 none) := gb_none H7.out.2 hg8
  clear hg8 H7
  go_wp2_with fail
  refine (HA.out _ H8.out).mono ?_
  rintro e w9 ⟨rfl, hg9⟩
  have H9 : Hid (Below w.heap.size w w9) := gb_below (gb_none H8.out hg9)
  clear hg9 H8
  go_wp2
  go_ret
  exact ⟨rfl, H9.out⟩
end Go.Proofs.YtfdoncmecijcmaaDoor
