/-
  LabelsTexts: label sets are written as text and read from it, or refused at a place: the walk.
-/
import Derived.Test.YtkcgikgihbglnaaDoorLawLbMakes
import Derived.Test.YtkcgikgihbglnaaDoorLbPi
import Derived.Test.YtkcgikgihbglnaaDoorLbPrR
import Derived.Test.YtkcgikgihbglnaaDoorLbPs
import Derived.Test.YtkcgikgihbglnaaDoorMgI
namespace Go.Proofs.YtkcgikgihbglnaaDoor
open Go.RowKit

theorem parseS_len (s : List UInt8) : (parseS s).1.length ≤ 65537 := by
  unfold parseS
  split
  · simp
  · split
    · simp
    · have := madeS_len (setS s 0).1
      have := (setS_in (Nat.zero_le s.length) (k := 0)).1
      omega

set_option maxRecDepth 8000 in
set_option maxHeartbeats 6400000 in
theorem lbTexts_walk (w : World) (v : Value) (ls : List LbT) (st : List UInt8) (hv : RdL w v ls) (hl : LbIn ls) (hll : ls.length ≤ 4398046511104) (hT : U8S w) :
    Calls Tryd.prog 7 #[v, .string (ByteArray.mk ⟨st⟩)] w fun e w' => e = .returned (.bool true) ∧ Below w.heap.size w w' := by
  have HV : Hid (RdL w v ls ∧ LbIn ls ∧ ls.length ≤ 4398046511104 ∧ U8S w) := ⟨hv, hl, hll, hT⟩
  obtain ⟨a, c, rfl⟩ : ∃ a c, v = .slice a ls.length c := by obtain ⟨a, c, h, _⟩ := hv; exact ⟨a, c, h⟩
  have HSL := parseS_len st
  clear hv hl hT
  have HP1 : Hid (∀ W g cap base, LentL W base g cap ls → w.grownBy W none → Calls Tryd.prog 33 #[.slice (some ⟨g, 0, none⟩) ls.length cap] W fun e w' => e = .returned (.tuple #[.string (ByteArray.mk ⟨(printS ls).1⟩), .int .i64 (printS ls).2]) ∧ W.grownBy w' none) := fun W g cap base h hg => print_any W _ ls h.rd.1 HV.out.2.1 (HV.out.2.2.2.keep hg)
  have HP2 : Hid (∀ W, w.grownBy W none → Calls Tryd.prog 34 #[.slice a ls.length c] W fun e w' => e = .returned (.tuple #[.string (ByteArray.mk ⟨(printS ls).1⟩), .int .i64 (printS ls).2]) ∧ W.grownBy w' none) := fun W hg => refPrint_any W _ ls (HV.out.1.keep hg) HV.out.2.1
  generalize ByteArray.mk ⟨(printS ls).1⟩ = sp at *
  generalize (printS ls).2 = ep at *
  have HM : Hid (∀ W, w.grownBy W none → Calls Tryd.prog 35 #[.string (ByteArray.mk ⟨st⟩)] W fun e w' => ∃ v', e = .returned (.tuple #[v', .int .i64 (parseS st).2.1, .int .i64 ((parseS st).2.2 : Int)]) ∧ OwnL w' W.heap.size v' (parseS st).1 ∧ W.grownBy w' none) := fun W hg => parse_any W st (HV.out.2.2.2.keep hg)
  have HRM : Hid (∀ W, Calls Tryd.prog 36 #[.string (ByteArray.mk ⟨st⟩)] W fun e w' => ∃ v', e = .returned (.tuple #[v', .int .i64 (parseS st).2.1, .int .i64 ((parseS st).2.2 : Int)]) ∧ OwnL w' W.heap.size v' (parseS st).1 ∧ W.grownBy w' none) := fun W => refParse_any W st
  generalize (parseS st).1 = S at *
  generalize (parseS st).2.1 = E at *
  generalize (parseS st).2.2 = P at *
  generalize ByteArray.mk ⟨st⟩ = sn at *
  have qs : (sp.toList == sp.toList) = true := by simp
  have HSame : Hid (∀ W u1 u2, RdL W u1 S → RdL W u2 S → Calls Tryd.prog 20 #[u1, u2] W fun e w' => e = .returned (.bool true) ∧ W.grownBy w' none) := fun W u1 u2 h1 h2 => by
    have := sameL_any W u1 u2 S S h1 h2
    rwa [decide_eq_true rfl] at this
  go_enter Tryd.func7, Tryd.ntmps7
  go_wp2_with fail
  refine (lentL_any _ _ ls HV.out.1 HV.out.2.2.1).mono ?_
  rintro e w1 ⟨g, cap, rfl, ho1, hg1⟩
  have H1 : Hid (LentL w1 w.heap.size g cap ls ∧ w.grownBy w1 none) := ⟨ho1, hg1⟩
  clear ho1 hg1
  go_wp2_with fail
  refine (HP1.out _ g cap _ H1.out.1 H1.out.2).mono ?_
  rintro e w2 ⟨rfl, hg2⟩
  have H2 : Hid (LentL w2 w.heap.size g cap ls ∧ w.grownBy w2 none) := ⟨OwnL.keep H1.out.1 hg2, gb_none H1.out.2 hg2⟩
  clear hg2 H1
  go_wp2_with fail
  refine (HP2.out _ H2.out.2).mono ?_
  rintro e w3 ⟨rfl, hg3⟩
  have H3 : Hid (LentL w3 w.heap.size g cap ls ∧ w.grownBy w3 none) := ⟨OwnL.keep H2.out.1 hg3, gb_none H2.out.2 hg3⟩
  clear hg3 H2 HP1 HP2
  go_wp2_with fail
  refine (keptL_any _ _ g cap _ ls H3.out.1 (HV.out.1.keep H3.out.2)).mono ?_
  rintro e w4 ⟨rfl, hg4⟩
  have H4 : Hid (w.grownBy w4 none) := gb_none H3.out.2 hg4
  clear hg4 H3
  go_wp2_with fail
  refine (HM.out _ H4.out).mono ?_
  rintro e w5 ⟨va, rfl, hoa, hg5⟩
  have H5 : Hid (w.grownBy w5 none ∧ OwnL w5 w4.heap.size va S ∧ w.heap.size ≤ w4.heap.size) := ⟨gb_none H4.out hg5, hoa, H4.out.size⟩
  clear hg5 hoa H4
  go_wp2_with fail
  refine (HM.out _ H5.out.1).mono ?_
  rintro e w6 ⟨vb, rfl, hob, hg6⟩
  have H6 : Hid (w.grownBy w6 none ∧ OwnL w6 w4.heap.size va S ∧ OwnL w6 w5.heap.size vb S) := ⟨gb_none H5.out.1 hg6, H5.out.2.1.keep hg6, hob⟩
  have HGL : Hid ((∀ k, va.ownBlock = some k → w4.heap.size ≤ k ∧ k < w5.heap.size) ∧ w5.heap.size ≤ w6.heap.size ∧ w.heap.size ≤ w4.heap.size) := ⟨fun k hk => H5.out.2.1.lt k hk, hg6.size, H5.out.2.2⟩
  clear hg6 hob H5
  go_wp2_with fail
  refine (HRM.out _).mono ?_
  rintro e w7 ⟨vc, rfl, hoc, hg7⟩
  have H7 : Hid (w.grownBy w7 none ∧ OwnL w7 w4.heap.size va S ∧ OwnL w7 w5.heap.size vb S ∧ OwnL w7 w6.heap.size vc S) := ⟨gb_none H6.out.1 hg7, H6.out.2.1.keep hg7, H6.out.2.2.keep hg7, hoc⟩
  clear hg7 hoc H6 HM HRM
  go_wp2_with fail
  refine (HSame.out _ _ _ H7.out.2.1.rd H7.out.2.2.2.rd).mono ?_
  rintro e w8 ⟨rfl, hg8⟩
  have H8 : Hid (w.grownBy w8 none ∧ OwnL w8 w4.heap.size va S ∧ OwnL w8 w5.heap.size vb S ∧ OwnL w8 w6.heap.size vc S) := ⟨gb_none H7.out.1 hg8, H7.out.2.1.keep hg8, H7.out.2.2.1.keep hg8, H7.out.2.2.2.keep hg8⟩
  clear hg8 H7
  go_wp2_with fail
  refine (spoilL_any _ va w.heap.size S (H8.out.2.1.mono HGL.out.2.2) H8.out.1.size (by omega)).mono ?_
  rintro e w9 ⟨rfl, hg9⟩
  have H9 : Hid (w.grownBy w9 none ∧ OwnL w9 w5.heap.size vb S ∧ OwnL w9 w6.heap.size vc S) := by
    refine ⟨gb_new H8.out.1 hg9 (fun k hk => Nat.le_trans HGL.out.2.2 (HGL.out.1 k hk).1), OwnL.far H8.out.2.2.1 hg9 ?_, OwnL.far H8.out.2.2.2 hg9 ?_⟩
    · cases hb : vb.ownBlock with
      | none => exact .inl rfl
      | some k =>
        right
        intro e
        have h1 := (HGL.out.1 k e.symm).2
        have h2 := (H8.out.2.2.1.lt k hb).1
        omega
    · cases hb : vc.ownBlock with
      | none => exact .inl rfl
      | some k =>
        right
        intro e
        have h1 := (HGL.out.1 k e.symm).2
        have h2 := (H8.out.2.2.2.lt k hb).1
        have h3 := HGL.out.2.1
        omega
  clear hg9 H8 HGL
  go_wp2_with fail
  refine (HSame.out _ _ _ H9.out.2.1.rd H9.out.2.2.rd).mono ?_
  rintro e wb ⟨rfl, hgb⟩
  have Hb : Hid (w.grownBy wb none) := gb_none H9.out.1 hgb
  clear hgb H9
  go_wp2_with fail
  refine (awakeL_any _ (HV.out.2.2.2.keep Hb.out)).mono ?_
  rintro e wc ⟨rfl, hgc⟩
  have Hc : Hid (Below w.heap.size w wc) := gb_below (gb_none Hb.out hgc)
  clear hgc Hb
  go_wp2
  go_ret
  exact ⟨rfl, Hc.out⟩
end Go.Proofs.YtkcgikgihbglnaaDoor
