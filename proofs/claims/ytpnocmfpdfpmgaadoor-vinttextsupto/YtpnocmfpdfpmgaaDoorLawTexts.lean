/-
  VintTexts: what vint.PutText and Text answer is the document's answer: the walk.
-/
import Derived.Test.YtpnocmfpdfpmgaaDoorU8Text2
import Derived.Test.YtpnocmfpdfpmgaaDoorLent
import Derived.Test.YtpnocmfpdfpmgaaDoorSame
namespace Go.Proofs.YtpnocmfpdfpmgaaDoor
open Go.RowKit Go.Lib

set_option maxHeartbeats 3200000 in
theorem texts_walk (v : Value) (l s : List UInt8) (p m : Int) (w : World) (hv : Rd w v l) (hT : TabIn w) (hU : U8Tab w) (hsz : l.length + s.length ≤ 100000000000000) (hm : m ≤ 9223372036854775807) :
    Calls Tryd.prog 4 #[v, .string (ByteArray.mk ⟨s⟩), .int .i64 p, .int .i64 m] w fun e w' => e = .returned (.bool true) ∧ Below w.heap.size w w' := by
  have hv2 : Hid (Rd w v l) := hv
  have hT2 : Hid (TabIn w ∧ U8Tab w) := ⟨hT, hU⟩
  obtain ⟨D, hD⟩ : ∃ D, l ++ uv s.length ++ s = D := ⟨_, rfl⟩
  have HDl : Hid (D.length ≤ 100000000000010) := by
    have hul := uv_len64 (BitVec.ofNat 64 s.length)
    have e : (BitVec.ofNat 64 s.length).toNat = s.length := by simp; omega
    rw [e] at hul
    show D.length ≤ 100000000000010
    rw [← hD, List.length_append, List.length_append]
    omega
  have HP : Hid (∀ W u, Rd W u l → Calls Tryd.prog 22 #[u, .string (ByteArray.mk ⟨s⟩)] W fun e w' => ∃ v', e = .returned v' ∧ Own w' W.heap.size v' D ∧ W.grownBy w' none) := fun W u hu => by rw [← hD]; exact putText_any u l s W hu hsz
  have HQ : Hid (∀ W u, Rd W u l → Calls Tryd.prog 23 #[u, .string (ByteArray.mk ⟨s⟩)] W fun e w' => ∃ v', e = .returned v' ∧ Own w' W.heap.size v' D ∧ W.grownBy w' none) := fun W u hu => by rw [← hD]; exact refPutText_any u l s W hu hsz
  clear hv hT hU hD
  have HSz : Hid (l.length ≤ 100000000000000) := by show l.length ≤ 100000000000000; omega
  clear hsz
  generalize ByteArray.mk ⟨s⟩ = st at *
  go_enter Tryd.func4, Tryd.ntmps4
  go_wp2_with fail
  refine (lent_any v l _ hv2.out (by have := HSz.out; omega)).mono ?_
  rintro e w1 ⟨v1, rfl, hl1, hg1⟩
  have H1 : Hid (LentAs w1 w.heap.size v1 l ∧ w.grownBy w1 none) := ⟨hl1, hg1⟩
  clear hl1 hg1
  go_wp2_with fail
  refine (HP.out _ _ H1.out.1.rd).mono ?_
  rintro e w2 ⟨v2, rfl, ho2, hg2⟩
  have H2 : Hid (Own w2 w1.heap.size v2 D ∧ w1.grownBy w2 none) := ⟨ho2, hg2⟩
  clear ho2 hg2
  go_wp2_with fail
  refine (HQ.out _ _ ((hv2.out.keep H1.out.2).keep H2.out.2)).mono ?_
  rintro e w3 ⟨v3, rfl, ho3, hg3⟩
  have H3 : Hid (Own w3 w2.heap.size v3 D ∧ w2.grownBy w3 none) := ⟨ho3, hg3⟩
  clear ho3 hg3
  go_wp2_with fail
  refine (same_any v2 v3 D D _ (H2.out.1.rd.keep H3.out.2) H3.out.1.rd).mono ?_
  rintro e w4 ⟨he, hg4⟩
  rw [decide_eq_true rfl] at he
  subst he
  have G4 : Hid (w2.grownBy w4 none) := gb_none H3.out.2 hg4
  clear hg4 H3
  go_wp2_with fail
  refine (spoil_any v2 w1.heap.size D _ (H2.out.1.keep G4.out) (by have := H2.out.2.size; have := G4.out.size; omega) (by have := HDl.out; omega)).mono ?_
  rintro e w5 ⟨rfl, hg5⟩
  have H5 : Hid (w1.grownBy w5 none) := gb_new (gb_none H2.out.2 G4.out) hg5 (fun k hk => (H2.out.1.lt k hk).1)
  clear hg5 H2 G4
  go_wp2_with fail
  refine (text_any v1 l p m _ (H1.out.1.keep H5.out).rd (hT2.out.2.keep (gb_none H1.out.2 H5.out)) (by have := HSz.out; omega) hm).mono ?_
  rintro e w6 ⟨rfl, hg6⟩
  have H6 : Hid (w1.grownBy w6 none) := gb_none H5.out hg6
  clear hg6 H5
  unfold tupT
  generalize hr1 : (tSpec l p m).1 = r1
  generalize hr2 : (tSpec l p m).2.1 = r2
  generalize hr3 : (tSpec l p m).2.2 = r3
  have HT : Hid (∀ W u, Rd W u l → Calls Tryd.prog 25 #[u, .int .i64 p, .int .i64 m] W fun e w' => e = .returned (.tuple #[.string (ByteArray.mk ⟨r1⟩), .int .i64 r2, .int .i64 r3]) ∧ W.grownBy w' none) := fun W u hu => by
    have := refText_any u l p m W hu (by have := HSz.out; omega) hm
    unfold tupT at this
    rw [hr1, hr2, hr3] at this
    exact this
  clear hr1 hr2 hr3
  generalize ByteArray.mk ⟨r1⟩ = t1 at *
  go_wp2_with fail
  refine (HT.out _ _ ((hv2.out.keep H1.out.2).keep H6.out)).mono ?_
  rintro e w7 ⟨rfl, hg7⟩
  have H7 : Hid (w1.grownBy w7 none) := gb_none H6.out hg7
  clear hg7 H6
  have hq : (t1.toList == t1.toList) = true := by simp
  go_wp2_with fail
  refine (kept_any v1 v w.heap.size l _ (H1.out.1.keep H7.out) ((hv2.out.keep H1.out.2).keep H7.out)).mono ?_
  rintro e w14 ⟨rfl, hg14⟩
  have H14 : Hid (w.grownBy w14 none) := gb_none (gb_none H1.out.2 H7.out) hg14
  clear hg14 H7 H1
  go_wp2_with fail
  refine (known_any _ (hT2.out.1.keep0 H14.out)).mono ?_
  rintro e w15 ⟨rfl, hg15⟩
  have H15 : Hid (Below w.heap.size w w15) := gb_below (gb_none H14.out hg15)
  clear hg15 H14
  go_wp2
  go_ret
  exact ⟨rfl, H15.out⟩
end Go.Proofs.YtpnocmfpdfpmgaaDoor
