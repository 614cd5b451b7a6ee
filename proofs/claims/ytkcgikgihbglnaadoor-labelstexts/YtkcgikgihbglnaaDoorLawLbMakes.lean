/-
  LabelsMakes: labels in any order are made a label set, or refused: the walk.
-/
import Derived.Test.YtkcgikgihbglnaaDoorLbMk
import Derived.Test.YtkcgikgihbglnaaDoorLbGt
import Derived.Test.YtkcgikgihbglnaaDoorMgE
namespace Go.Proofs.YtkcgikgihbglnaaDoor
open Go.RowKit

theorem madeS_len (ls : List LbT) : (madeS ls).1.length ≤ ls.length := by
  by_cases h : ndN ls
  · rw [madeS_nd h]
    by_cases h2 : (rightS (sortN (fullL ls))).1 = 0
    · rw [if_pos h2]; exact sort_len ls
    · rw [if_neg h2]; simp
  · rw [madeS_dup h]; simp
/-- a list of the call's own stays where another block is written -/
theorem OwnL.far {w w' : World} {base : Nat} {v : Value} {ls : List LbT} {g : Option Nat} (h : OwnL w base v ls) (hg : w.grownBy w' g) (hne : v.ownBlock = none ∨ v.ownBlock ≠ g) : OwnL w' base v ls := World.ownsRow.kept h hg hne

set_option maxRecDepth 8000 in
set_option maxHeartbeats 6400000 in
theorem lbMakes_walk (w : World) (v : Value) (ls : List LbT) (nm : List UInt8) (hv : RdL w v ls) (hl : LbIn ls) (hll : ls.length ≤ 4398046511104) (hT : U8S w) :
    Calls Tryd.prog 4 #[v, .string (ByteArray.mk ⟨nm⟩)] w fun e w' => e = .returned (.bool true) ∧ Below w.heap.size w w' := by
  have HV : Hid (RdL w v ls ∧ LbIn ls ∧ ls.length ≤ 4398046511104 ∧ U8S w) := ⟨hv, hl, hll, hT⟩
  obtain ⟨a, c, rfl⟩ : ∃ a c, v = .slice a ls.length c := by obtain ⟨a, c, h, _⟩ := hv; exact ⟨a, c, h⟩
  have HML := madeS_len ls
  clear hv hl hT
  have HM : Hid (∀ W g cap base, LentL W base g cap ls → w.grownBy W none → Calls Tryd.prog 18 #[.slice (some ⟨g, 0, none⟩) ls.length cap] W fun e w' => ∃ v', e = .returned (.tuple #[v', .int .i64 (madeS ls).2.1]) ∧ OwnL w' W.heap.size v' (madeS ls).1 ∧ W.grownBy w' none) := fun W g cap base h hg => make_any W _ ls h.rd.1 HV.out.2.1 HV.out.2.2.1 (HV.out.2.2.2.keep hg)
  have HRM : Hid (∀ W, w.grownBy W none → Calls Tryd.prog 19 #[.slice a ls.length c] W fun e w' => ∃ v', e = .returned (.tuple #[v', .int .i64 (madeS ls).2.1]) ∧ OwnL w' W.heap.size v' (madeS ls).1 ∧ W.grownBy w' none) := fun W hg => refMake_any W _ ls (HV.out.1.keep hg) HV.out.2.1 HV.out.2.2.1
  generalize (madeS ls).1 = S at *
  generalize (madeS ls).2.1 = E at *
  have HG1 : Hid (∀ W g cap base, LentL W base g cap ls → Calls Tryd.prog 21 #[.slice (some ⟨g, 0, none⟩) ls.length cap, .string (ByteArray.mk ⟨nm⟩)] W fun e w' => e = .returned (.string (ByteArray.mk ⟨getL ls nm⟩)) ∧ W.grownBy w' none) := fun W g cap base h => get_labels W _ ls nm h.rd.1
  have HG2 : Hid (∀ W, w.grownBy W none → Calls Tryd.prog 22 #[.slice a ls.length c, .string (ByteArray.mk ⟨nm⟩)] W fun e w' => e = .returned (.string (ByteArray.mk ⟨getL ls nm⟩)) ∧ W.grownBy w' none) := fun W hg => get_tocsinref04 W _ ls nm (HV.out.1.keep hg)
  generalize ByteArray.mk ⟨getL ls nm⟩ = sg at *
  generalize ByteArray.mk ⟨nm⟩ = sn at *
  go_enter Tryd.func4, Tryd.ntmps4
  go_wp2_with fail
  refine (lentL_any _ _ ls HV.out.1 HV.out.2.2.1).mono ?_
  rintro e w1 ⟨g, cap, rfl, ho1, hg1⟩
  have H1 : Hid (LentL w1 w.heap.size g cap ls ∧ w.grownBy w1 none) := ⟨ho1, hg1⟩
  clear ho1 hg1
  go_wp2_with fail
  refine (HM.out _ g cap _ H1.out.1 H1.out.2).mono ?_
  rintro e w2 ⟨va, rfl, hoa, hg2⟩
  have H2 : Hid (LentL w2 w.heap.size g cap ls ∧ w.grownBy w2 none ∧ OwnL w2 w1.heap.size va S) := ⟨OwnL.keep H1.out.1 hg2, gb_none H1.out.2 hg2, hoa⟩
  have HGL : Hid (g < w1.heap.size ∧ w.heap.size ≤ w1.heap.size) := ⟨(OwnL.lt H1.out.1 g rfl).2, H1.out.2.size⟩
  clear hg2 hoa H1
  go_wp2_with fail
  refine (HM.out _ g cap _ H2.out.1 H2.out.2.1).mono ?_
  rintro e w3 ⟨vb, rfl, hob, hg3⟩
  have H3 : Hid (LentL w3 w.heap.size g cap ls ∧ w.grownBy w3 none ∧ OwnL w3 w1.heap.size va S ∧ OwnL w3 w2.heap.size vb S) := ⟨OwnL.keep H2.out.1 hg3, gb_none H2.out.2.1 hg3, H2.out.2.2.keep hg3, hob⟩
  have HGL2 : Hid ((∀ k, va.ownBlock = some k → w1.heap.size ≤ k ∧ k < w2.heap.size) ∧ w2.heap.size ≤ w3.heap.size) := ⟨fun k hk => H2.out.2.2.lt k hk, hg3.size⟩
  clear hg3 hob H2
  go_wp2_with fail
  refine (HRM.out _ H3.out.2.1).mono ?_
  rintro e w4 ⟨vc, rfl, hoc, hg4⟩
  have H4 : Hid (LentL w4 w.heap.size g cap ls ∧ w.grownBy w4 none ∧ OwnL w4 w1.heap.size va S ∧ OwnL w4 w2.heap.size vb S ∧ OwnL w4 w3.heap.size vc S) := ⟨OwnL.keep H3.out.1 hg4, gb_none H3.out.2.1 hg4, H3.out.2.2.1.keep hg4, H3.out.2.2.2.keep hg4, hoc⟩
  clear hg4 hoc H3 HM HRM
  have qg : (sg.toList == sg.toList) = true := by simp
  have HSame : Hid (∀ W u1 u2, RdL W u1 S → RdL W u2 S → Calls Tryd.prog 20 #[u1, u2] W fun e w' => e = .returned (.bool true) ∧ W.grownBy w' none) := fun W u1 u2 h1 h2 => by
    have := sameL_any W u1 u2 S S h1 h2
    rwa [decide_eq_true rfl] at this
  go_wp2_with fail
  refine (HSame.out _ _ _ H4.out.2.2.1.rd H4.out.2.2.2.2.rd).mono ?_
  rintro e w5 ⟨rfl, hg5⟩
  have H5 : Hid (LentL w5 w.heap.size g cap ls ∧ w.grownBy w5 none ∧ OwnL w5 w1.heap.size va S ∧ OwnL w5 w2.heap.size vb S ∧ OwnL w5 w3.heap.size vc S) := ⟨OwnL.keep H4.out.1 hg5, gb_none H4.out.2.1 hg5, H4.out.2.2.1.keep hg5, H4.out.2.2.2.1.keep hg5, H4.out.2.2.2.2.keep hg5⟩
  clear hg5 H4
  go_wp2_with fail
  refine (keptL_any _ _ g cap _ ls H5.out.1 (HV.out.1.keep H5.out.2.1)).mono ?_
  rintro e w6 ⟨rfl, hg6⟩
  have H6 : Hid (LentL w6 w.heap.size g cap ls ∧ w.grownBy w6 none ∧ OwnL w6 w1.heap.size va S ∧ OwnL w6 w2.heap.size vb S ∧ OwnL w6 w3.heap.size vc S) := ⟨OwnL.keep H5.out.1 hg6, gb_none H5.out.2.1 hg6, H5.out.2.2.1.keep hg6, H5.out.2.2.2.1.keep hg6, H5.out.2.2.2.2.keep hg6⟩
  clear hg6 H5
  go_wp2_with fail
  refine (HG1.out _ g cap _ H6.out.1).mono ?_
  rintro e w7 ⟨rfl, hg7⟩
  have H7 : Hid (LentL w7 w.heap.size g cap ls ∧ w.grownBy w7 none ∧ OwnL w7 w1.heap.size va S ∧ OwnL w7 w2.heap.size vb S ∧ OwnL w7 w3.heap.size vc S) := ⟨OwnL.keep H6.out.1 hg7, gb_none H6.out.2.1 hg7, H6.out.2.2.1.keep hg7, H6.out.2.2.2.1.keep hg7, H6.out.2.2.2.2.keep hg7⟩
  clear hg7 H6
  go_wp2_with fail
  refine (HG2.out _ H7.out.2.1).mono ?_
  rintro e w8 ⟨rfl, hg8⟩
  have H8 : Hid (LentL w8 w.heap.size g cap ls ∧ w.grownBy w8 none ∧ OwnL w8 w1.heap.size va S ∧ OwnL w8 w2.heap.size vb S ∧ OwnL w8 w3.heap.size vc S) := ⟨OwnL.keep H7.out.1 hg8, gb_none H7.out.2.1 hg8, H7.out.2.2.1.keep hg8, H7.out.2.2.2.1.keep hg8, H7.out.2.2.2.2.keep hg8⟩
  clear hg8 H7 HG1 HG2
  go_wp2_with fail
  refine (spoilL_any _ va w.heap.size S (H8.out.2.2.1.mono HGL.out.2) H8.out.2.1.size (by omega)).mono ?_
  rintro e w9 ⟨rfl, hg9⟩
  have H9 : Hid (LentL w9 w.heap.size g cap ls ∧ w.grownBy w9 none ∧ OwnL w9 w2.heap.size vb S ∧ OwnL w9 w3.heap.size vc S) := by
    refine ⟨OwnL.far H8.out.1 hg9 (.inr ?_), gb_new H8.out.2.1 hg9 (fun k hk => Nat.le_trans HGL.out.2 (HGL2.out.1 k hk).1), OwnL.far H8.out.2.2.2.1 hg9 ?_, OwnL.far H8.out.2.2.2.2 hg9 ?_⟩
    · intro e
      have h1 := (HGL2.out.1 g e.symm).1
      have h2 := HGL.out.1
      omega
    · cases hb : vb.ownBlock with
      | none => exact .inl rfl
      | some k =>
        right
        intro e
        have h1 := (HGL2.out.1 k e.symm).2
        have h2 := (H8.out.2.2.2.1.lt k hb).1
        omega
    · cases hb : vc.ownBlock with
      | none => exact .inl rfl
      | some k =>
        right
        intro e
        have h1 := (HGL2.out.1 k e.symm).2
        have h2 := (H8.out.2.2.2.2.lt k hb).1
        have h3 := HGL2.out.2
        omega
  clear hg9 H8 HGL HGL2
  go_wp2_with fail
  refine (keptL_any _ _ g cap _ ls H9.out.1 (HV.out.1.keep H9.out.2.1)).mono ?_
  rintro e wa ⟨rfl, hga⟩
  have Ha : Hid (w.grownBy wa none ∧ OwnL wa w2.heap.size vb S ∧ OwnL wa w3.heap.size vc S) := ⟨gb_none H9.out.2.1 hga, H9.out.2.2.1.keep hga, H9.out.2.2.2.keep hga⟩
  clear hga H9
  go_wp2_with fail
  refine (HSame.out _ _ _ Ha.out.2.1.rd Ha.out.2.2.rd).mono ?_
  rintro e wb ⟨rfl, hgb⟩
  have Hb : Hid (w.grownBy wb none) := gb_none Ha.out.1 hgb
  clear hgb Ha
  go_wp2_with fail
  refine (awakeL_any _ (HV.out.2.2.2.keep Hb.out)).mono ?_
  rintro e wc ⟨rfl, hgc⟩
  have Hc : Hid (Below w.heap.size w wc) := gb_below (gb_none Hb.out hgc)
  clear hgc Hb
  go_wp2
  go_ret
  exact ⟨rfl, Hc.out⟩
end Go.Proofs.YtkcgikgihbglnaaDoor
