/-
  LabelsTurns: label sets with another label, without some, with some alone: the walk.
-/
import Derived.Test.YtknlnllcpdiglaaDoorLbRw
import Derived.Test.YtknlnllcpdiglaaDoorLbA7
namespace Go.Proofs.YtknlnllcpdiglaaDoor
open Go.RowKit

theorem OwnL.off {w w' : World} {base : Nat} {v : Value} {ls : List LbT} {g : Option Nat} (h : OwnL w base v ls) (hg : w.grownBy w' g) (hne : v.ownBlock = none ∨ v.ownBlock ≠ g) : OwnL w' base v ls := World.ownsRow.kept h hg hne
theorem withS_len (ls : List LbT) (nm val : List UInt8) (h : ls.length ≤ 4398046511104) : (withS ls nm val).1.length ≤ 4398046511104 := by
  unfold withS
  have := pick_len (p_Without [nm]) ls
  split
  · simp
  · split
    · simp
    · split
      · show (pickL (p_Without [nm]) ls).length ≤ _; omega
      · split
        · simp
        · split
          · simp
          · show (sortN (pickL (p_Without [nm]) ls ++ [(nm, val)])).length ≤ _; omega
theorem chosS_len (p : List UInt8 → Bool) (ls : List LbT) (h : ls.length ≤ 4398046511104) : (chosS p ls).1.length ≤ 4398046511104 := by
  unfold chosS
  have := pick_len p ls
  split
  · show (pickL p ls).length ≤ _; omega
  · simp
/-- what a list of the call's own leaves when it is written over -/
theorem spoil_rest {w w1 w2 w3 : World} {g cap : Nat} {v : Value} {ls S : List LbT} (hc : LentL w2 w.heap.size g cap ls) (hg : w.grownBy w2 none) (hv : OwnL w2 w1.heap.size v S) (hgl : g < w1.heap.size) (hw : w.heap.size ≤ w1.heap.size) (hs : w2.grownBy w3 v.ownBlock) : LentL w3 w.heap.size g cap ls ∧ w.grownBy w3 none := by
  refine ⟨OwnL.off hc hs (.inr ?_), gb_new hg hs (fun k hk => Nat.le_trans hw (hv.lt k hk).1)⟩
  intro e
  have h1 := (hv.lt g e.symm).1
  omega

set_option maxRecDepth 8000 in
set_option maxHeartbeats 6400000 in
theorem lbTurns_walk (w : World) (v vn : Value) (ls : List LbT) (nm val : List UInt8) (ns : List (List UInt8)) (hv : RdL w v ls) (hl : LbIn ls) (hll : ls.length ≤ 4398046511104) (hnm : nm.length ≤ 1000000000000000000) (hval : val.length ≤ 1000000000000000000) (hn : RdN w vn ns) (hT : U8S w) :
    Calls Tryd.prog 5 #[v, .string (ByteArray.mk ⟨nm⟩), .string (ByteArray.mk ⟨val⟩), vn] w fun e w' => e = .returned (.bool true) ∧ Below w.heap.size w w' := by
  have HV : Hid (RdL w v ls ∧ LbIn ls ∧ ls.length ≤ 4398046511104 ∧ U8S w ∧ RdN w vn ns) := ⟨hv, hl, hll, hT, hn⟩
  obtain ⟨a, c, rfl⟩ : ∃ a c, v = .slice a ls.length c := by obtain ⟨a, c, h, _⟩ := hv; exact ⟨a, c, h⟩
  obtain ⟨na, nc, rfl⟩ : ∃ a c, vn = .slice a ns.length c := by obtain ⟨a, c, h, _⟩ := hn; exact ⟨a, c, h⟩
  have HA1 : Hid (∀ W g cap base, LentL W base g cap ls → w.grownBy W none → Calls Tryd.prog 24 #[.slice (some ⟨g, 0, none⟩) ls.length cap, .string (ByteArray.mk ⟨nm⟩), .string (ByteArray.mk ⟨val⟩)] W fun e w' => ∃ v', e = .returned (.tuple #[v', .int .i64 (withS ls nm val).2]) ∧ OwnL w' W.heap.size v' (withS ls nm val).1 ∧ W.grownBy w' none) := fun W g cap base h hg => with_any W _ ls nm val h.rd.1 hl hll hnm hval (hT.keep hg)
  have HB1 : Hid (∀ W, w.grownBy W none → Calls Tryd.prog 25 #[.slice a ls.length c, .string (ByteArray.mk ⟨nm⟩), .string (ByteArray.mk ⟨val⟩)] W fun e w' => ∃ v', e = .returned (.tuple #[v', .int .i64 (withS ls nm val).2]) ∧ OwnL w' W.heap.size v' (withS ls nm val).1 ∧ W.grownBy w' none) := fun W hg => refWith_any W _ ls nm val (hv.keep hg) hl hll hnm hval
  have HA2 : Hid (∀ W g cap base, LentL W base g cap ls → w.grownBy W none → Calls Tryd.prog 26 #[.slice (some ⟨g, 0, none⟩) ls.length cap, .slice na ns.length nc] W fun e w' => ∃ v', e = .returned (.tuple #[v', .int .i64 (chosS (p_Without ns) ls).2]) ∧ OwnL w' W.heap.size v' (chosS (p_Without ns) ls).1 ∧ W.grownBy w' none) := fun W g cap base h hg => choice_Without W _ _ ls ns h.rd.1 hl hll (hT.keep hg) (hn.keep hg)
  have HB2 : Hid (∀ W, w.grownBy W none → Calls Tryd.prog 27 #[.slice a ls.length c, .slice na ns.length nc, .bool false] W fun e w' => ∃ v', e = .returned (.tuple #[v', .int .i64 (chosS (p_Without ns) ls).2]) ∧ OwnL w' W.heap.size v' (chosS (p_Without ns) ls).1 ∧ W.grownBy w' none) := fun W hg => by
    have h := refKeep_any W _ _ false ls ns (hv.keep hg) hl hll (hn.keep hg)
    rwa [p_In_false] at h
  have HA3 : Hid (∀ W g cap base, LentL W base g cap ls → w.grownBy W none → Calls Tryd.prog 28 #[.slice (some ⟨g, 0, none⟩) ls.length cap, .slice na ns.length nc] W fun e w' => ∃ v', e = .returned (.tuple #[v', .int .i64 (chosS (p_Keep ns) ls).2]) ∧ OwnL w' W.heap.size v' (chosS (p_Keep ns) ls).1 ∧ W.grownBy w' none) := fun W g cap base h hg => choice_Keep W _ _ ls ns h.rd.1 hl hll (hT.keep hg) (hn.keep hg)
  have HB3 : Hid (∀ W, w.grownBy W none → Calls Tryd.prog 27 #[.slice a ls.length c, .slice na ns.length nc, .bool true] W fun e w' => ∃ v', e = .returned (.tuple #[v', .int .i64 (chosS (p_Keep ns) ls).2]) ∧ OwnL w' W.heap.size v' (chosS (p_Keep ns) ls).1 ∧ W.grownBy w' none) := fun W hg => by
    have h := refKeep_any W _ _ true ls ns (hv.keep hg) hl hll (hn.keep hg)
    rwa [p_In_true] at h
  have L1 := withS_len ls nm val hll
  have L2 := chosS_len (p_Without ns) ls hll
  have L3 := chosS_len (p_Keep ns) ls hll
  clear hv hl hT hn
  generalize (withS ls nm val).1 = S1 at *
  generalize (withS ls nm val).2 = E1 at *
  generalize (chosS (p_Without ns) ls).1 = S2 at *
  generalize (chosS (p_Without ns) ls).2 = E2 at *
  generalize (chosS (p_Keep ns) ls).1 = S3 at *
  generalize (chosS (p_Keep ns) ls).2 = E3 at *
  generalize ByteArray.mk ⟨nm⟩ = sn at *
  generalize ByteArray.mk ⟨val⟩ = sv at *
  have HSame : Hid (∀ W S u1 u2, RdL W u1 S → RdL W u2 S → Calls Tryd.prog 20 #[u1, u2] W fun e w' => e = .returned (.bool true) ∧ W.grownBy w' none) := fun W S u1 u2 h1 h2 => by
    have := sameL_any W u1 u2 S S h1 h2
    rwa [decide_eq_true rfl] at this
  go_enter Tryd.func5, Tryd.ntmps5
  go_wp2_with fail
  refine (lentL_any _ _ ls HV.out.1 HV.out.2.2.1).mono ?_
  rintro e w1 ⟨g, cap, rfl, ho1, hg1⟩
  have H1 : Hid (LentL w1 w.heap.size g cap ls ∧ w.grownBy w1 none) := ⟨ho1, hg1⟩
  have HGL : Hid (g < w1.heap.size ∧ w.heap.size ≤ w1.heap.size) := ⟨(OwnL.lt H1.out.1 g rfl).2, H1.out.2.size⟩
  clear ho1 hg1
  go_wp2_with fail
  refine (HA1.out _ g cap _ H1.out.1 H1.out.2).mono ?_
  rintro e wa1 ⟨va1, rfl, hoa, hga⟩
  have Ha1 : Hid (LentL wa1 w.heap.size g cap ls ∧ w.grownBy wa1 none ∧ OwnL wa1 w1.heap.size va1 S1) := ⟨OwnL.keep H1.out.1 hga, gb_none H1.out.2 hga, hoa.mono (Nat.le_refl _)⟩
  clear hga hoa HA1
  go_wp2_with fail
  refine (HB1.out _ Ha1.out.2.1).mono ?_
  rintro e wb1 ⟨vb1, rfl, hob, hgb⟩
  have Hb1 : Hid (LentL wb1 w.heap.size g cap ls ∧ w.grownBy wb1 none ∧ OwnL wb1 w1.heap.size va1 S1 ∧ OwnL wb1 wa1.heap.size vb1 S1) := ⟨OwnL.keep Ha1.out.1 hgb, gb_none Ha1.out.2.1 hgb, Ha1.out.2.2.keep hgb, hob⟩
  clear hgb hob HB1 Ha1
  go_wp2_with fail
  refine (HSame.out _ S1 _ _ Hb1.out.2.2.1.rd Hb1.out.2.2.2.rd).mono ?_
  rintro e wc1 ⟨rfl, hgc⟩
  have Hc1 : Hid (LentL wc1 w.heap.size g cap ls ∧ w.grownBy wc1 none ∧ OwnL wc1 w1.heap.size va1 S1) := ⟨OwnL.keep Hb1.out.1 hgc, gb_none Hb1.out.2.1 hgc, Hb1.out.2.2.1.keep hgc⟩
  clear hgc Hb1
  go_wp2_with fail
  refine (spoilL_any _ va1 w.heap.size S1 (Hc1.out.2.2.mono HGL.out.2) Hc1.out.2.1.size L1).mono ?_
  rintro e we1 ⟨rfl, hge⟩
  have He1 : Hid (LentL we1 w.heap.size g cap ls ∧ w.grownBy we1 none) := spoil_rest Hc1.out.1 Hc1.out.2.1 Hc1.out.2.2 HGL.out.1 HGL.out.2 hge
  clear hge Hc1
  have HGL2 : Hid (g < we1.heap.size ∧ w.heap.size ≤ we1.heap.size) := ⟨(OwnL.lt He1.out.1 g rfl).2, He1.out.2.size⟩
  go_wp2_with fail
  refine (HA2.out _ g cap _ He1.out.1 He1.out.2).mono ?_
  rintro e wa2 ⟨va2, rfl, hoa, hga⟩
  have Ha2 : Hid (LentL wa2 w.heap.size g cap ls ∧ w.grownBy wa2 none ∧ OwnL wa2 we1.heap.size va2 S2) := ⟨OwnL.keep He1.out.1 hga, gb_none He1.out.2 hga, hoa⟩
  clear hga hoa HA2
  go_wp2_with fail
  refine (HB2.out _ Ha2.out.2.1).mono ?_
  rintro e wb2 ⟨vb2, rfl, hob, hgb⟩
  have Hb2 : Hid (LentL wb2 w.heap.size g cap ls ∧ w.grownBy wb2 none ∧ OwnL wb2 we1.heap.size va2 S2 ∧ OwnL wb2 wa2.heap.size vb2 S2) := ⟨OwnL.keep Ha2.out.1 hgb, gb_none Ha2.out.2.1 hgb, Ha2.out.2.2.keep hgb, hob⟩
  clear hgb hob HB2 Ha2
  go_wp2_with fail
  refine (HSame.out _ S2 _ _ Hb2.out.2.2.1.rd Hb2.out.2.2.2.rd).mono ?_
  rintro e wc2 ⟨rfl, hgc⟩
  have Hc2 : Hid (LentL wc2 w.heap.size g cap ls ∧ w.grownBy wc2 none ∧ OwnL wc2 we1.heap.size va2 S2) := ⟨OwnL.keep Hb2.out.1 hgc, gb_none Hb2.out.2.1 hgc, Hb2.out.2.2.1.keep hgc⟩
  clear hgc Hb2
  go_wp2_with fail
  refine (keptL_any _ _ g cap _ ls Hc2.out.1 (HV.out.1.keep Hc2.out.2.1)).mono ?_
  rintro e wd2 ⟨rfl, hgd⟩
  have Hd2 : Hid (LentL wd2 w.heap.size g cap ls ∧ w.grownBy wd2 none ∧ OwnL wd2 we1.heap.size va2 S2) := ⟨OwnL.keep Hc2.out.1 hgd, gb_none Hc2.out.2.1 hgd, Hc2.out.2.2.keep hgd⟩
  clear hgd Hc2
  go_wp2_with fail
  refine (spoilL_any _ va2 w.heap.size S2 (Hd2.out.2.2.mono HGL2.out.2) Hd2.out.2.1.size L2).mono ?_
  rintro e we2 ⟨rfl, hge⟩
  have He2 : Hid (LentL we2 w.heap.size g cap ls ∧ w.grownBy we2 none) := spoil_rest Hd2.out.1 Hd2.out.2.1 Hd2.out.2.2 HGL2.out.1 HGL2.out.2 hge
  clear hge Hd2
  have HGL3 : Hid (g < we2.heap.size ∧ w.heap.size ≤ we2.heap.size) := ⟨(OwnL.lt He2.out.1 g rfl).2, He2.out.2.size⟩
  go_wp2_with fail
  refine (HA3.out _ g cap _ He2.out.1 He2.out.2).mono ?_
  rintro e wa3 ⟨va3, rfl, hoa, hga⟩
  have Ha3 : Hid (LentL wa3 w.heap.size g cap ls ∧ w.grownBy wa3 none ∧ OwnL wa3 we2.heap.size va3 S3) := ⟨OwnL.keep He2.out.1 hga, gb_none He2.out.2 hga, hoa⟩
  clear hga hoa HA3
  go_wp2_with fail
  refine (HB3.out _ Ha3.out.2.1).mono ?_
  rintro e wb3 ⟨vb3, rfl, hob, hgb⟩
  have Hb3 : Hid (LentL wb3 w.heap.size g cap ls ∧ w.grownBy wb3 none ∧ OwnL wb3 we2.heap.size va3 S3 ∧ OwnL wb3 wa3.heap.size vb3 S3) := ⟨OwnL.keep Ha3.out.1 hgb, gb_none Ha3.out.2.1 hgb, Ha3.out.2.2.keep hgb, hob⟩
  clear hgb hob HB3 Ha3
  go_wp2_with fail
  refine (HSame.out _ S3 _ _ Hb3.out.2.2.1.rd Hb3.out.2.2.2.rd).mono ?_
  rintro e wc3 ⟨rfl, hgc⟩
  have Hc3 : Hid (LentL wc3 w.heap.size g cap ls ∧ w.grownBy wc3 none ∧ OwnL wc3 we2.heap.size va3 S3) := ⟨OwnL.keep Hb3.out.1 hgc, gb_none Hb3.out.2.1 hgc, Hb3.out.2.2.1.keep hgc⟩
  clear hgc Hb3
  go_wp2_with fail
  refine (keptL_any _ _ g cap _ ls Hc3.out.1 (HV.out.1.keep Hc3.out.2.1)).mono ?_
  rintro e wd3 ⟨rfl, hgd⟩
  have Hd3 : Hid (LentL wd3 w.heap.size g cap ls ∧ w.grownBy wd3 none ∧ OwnL wd3 we2.heap.size va3 S3) := ⟨OwnL.keep Hc3.out.1 hgd, gb_none Hc3.out.2.1 hgd, Hc3.out.2.2.keep hgd⟩
  clear hgd Hc3
  go_wp2_with fail
  refine (spoilL_any _ va3 w.heap.size S3 (Hd3.out.2.2.mono HGL3.out.2) Hd3.out.2.1.size L3).mono ?_
  rintro e we3 ⟨rfl, hge⟩
  have He3 : Hid (LentL we3 w.heap.size g cap ls ∧ w.grownBy we3 none) := spoil_rest Hd3.out.1 Hd3.out.2.1 Hd3.out.2.2 HGL3.out.1 HGL3.out.2 hge
  clear hge Hd3
  go_wp2_with fail
  refine (keptL_any _ _ g cap _ ls He3.out.1 (HV.out.1.keep He3.out.2)).mono ?_
  rintro e wf ⟨rfl, hgf⟩
  have Hf : Hid (w.grownBy wf none) := gb_none He3.out.2 hgf
  clear hgf He3
  go_wp2_with fail
  refine (awakeL_any _ (HV.out.2.2.2.1.keep Hf.out)).mono ?_
  rintro e wz ⟨rfl, hgz⟩
  have Hz : Hid (Below w.heap.size w wz) := gb_below (gb_none Hf.out hgz)
  clear hgz Hf
  go_wp2
  go_ret
  exact ⟨rfl, Hz.out⟩
end Go.Proofs.YtknlnllcpdiglaaDoor
