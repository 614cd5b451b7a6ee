/-
  LabelsAlgebra: making a set hangs on no order; a label that is set is told; Keep and Without part a set: plain facts of lists; the walk.
-/
import Derived.Test.YtknlnllcpdiglabDoorLbRw
import Derived.Test.YtknlnllcpdiglabDoorLbRm
import Derived.Test.YtknlnllcpdiglabDoorLbGt
import Derived.Test.YtknlnllcpdiglabDoorLbMk
import Derived.Test.YtknlnllcpdiglabDoorLbA7
import Derived.Deep.RegionHeld3
namespace Go.Proofs.YtknlnllcpdiglabDoor

/-- turned about, the same set is made -/
theorem made_perm {a b : List LbT} (h : a.Perm b) : madeS a = madeS b := by
  by_cases hn : ndN b
  · have hna := (ndN_perm h).2 hn
    have e : sortN (fullL a) = sortN (fullL b) := sort_uniq ((sortN_perm _).trans (full_perm h)) (sortN_srt _) (full_nd hn)
    rw [madeS_nd hn, madeS_nd hna, e]
  · have hna : ¬ ndN a := fun h2 => hn ((ndN_perm h).1 h2)
    rw [madeS_dup hn, madeS_dup hna]
theorem made_ok {ls : List LbT} (h : (madeS ls).2.1 = 0) : (rightS (madeS ls).1).1 = 0 := by
  by_cases hn : ndN ls
  · rw [madeS_nd hn] at h ⊢
    by_cases h2 : (rightS (sortN (fullL ls))).1 = 0
    · rw [if_pos h2]; exact h2
    · rw [if_neg h2] at h; exact absurd h h2
  · rw [madeS_dup hn] at h; cases h
theorem right_full {ls : List LbT} (h : (rightS ls).1 = 0) : fullL ls = ls := by
  have h0 := h
  unfold rightS at h
  by_cases h16 : 16 < ls.length
  · rw [if_pos h16] at h; cases h
  · rw [if_neg h16] at h
    refine List.filter_eq_self.2 fun x hx => ?_
    obtain ⟨j, hj, rfl⟩ := List.getElem_of_mem hx
    have he := firstAt_ok ls _ _ h j (by omega) (by omega)
    have e1 : ls.getD j ([], []) = ls[j] := by simp [List.getD, hj]
    unfold errAt at he
    rw [e1] at he
    by_cases h3 : oneE ls[j].1 ls[j].2 = 0
    · unfold oneE at h3
      cases hv : ls[j].2 with
      | nil =>
        rw [hv] at h3
        by_cases h4 : nameB ls[j].1 = false
        · rw [if_pos h4] at h3; cases h3
        · rw [if_neg h4, if_pos rfl] at h3; cases h3
      | cons _ _ => rfl
    · rw [if_pos h3] at he
      exact absurd he h3
/-- what is right is made of itself -/
theorem made_self {S : List LbT} (h : (rightS S).1 = 0) : (madeS S).1 = S ∧ (madeS S).2.1 = 0 := by
  have hr := (right_ris h).2
  have e : sortN (fullL S) = S := by
    rw [right_full h]
    exact (sort_uniq (.refl S) (ris_srt hr) (ris_nd hr)).symm
  rw [madeS_nd (ris_nd hr), e, if_pos h]
  exact ⟨rfl, rfl⟩
theorem getL_mem : ∀ {ls : List LbT} {x : LbT}, ndN ls → x ∈ ls → getL ls x.1 = x.2
  | [], _, _, h => by cases h
  | y :: t, x, hn, h => by
    have hn' := List.pairwise_cons.1 hn
    rw [getL]
    rcases List.mem_cons.1 h with rfl | h
    · rw [if_pos rfl]
    · rw [if_neg (hn'.1 x h)]
      exact getL_mem hn'.2 h
theorem getL_out : ∀ {ls : List LbT} {nm : List UInt8}, (∀ x ∈ ls, x.1 ≠ nm) → getL ls nm = []
  | [], _, _ => rfl
  | y :: t, nm, h => by
    rw [getL, if_neg (h y (List.mem_cons_self ..))]
    exact getL_out (fun x hx => h x (List.mem_cons_of_mem _ hx))
/-- a label that is set is told -/
theorem with_told {S : List LbT} {nm val : List UInt8} (h : (rightS S).1 = 0) (hw : (withS S nm val).2 = 0) : getL (withS S nm val).1 nm = val := by
  unfold withS at hw ⊢
  rw [if_neg (by simpa using h)] at hw ⊢
  by_cases hb : nameB nm = false
  · rw [if_pos hb] at hw; cases hw
  · rw [if_neg hb] at hw ⊢
    have hout : ∀ x ∈ pickL (p_Without [nm]) S, x.1 ≠ nm := fun x hx => by
      have := (List.mem_filter.1 hx).2
      rw [pW_one] at this
      simpa using this
    by_cases hv : val = []
    · rw [if_pos hv]
      rw [hv]
      exact getL_out hout
    · rw [if_neg hv] at hw ⊢
      by_cases hE : valueE val = 0
      · rw [if_neg (by simpa using hE)] at hw ⊢
        by_cases h16 : 16 < (sortN (pickL (p_Without [nm]) S ++ [(nm, val)])).length
        · rw [if_pos h16] at hw; cases hw
        · rw [if_neg h16]
          have hnd : ndN (pickL (p_Without [nm]) S ++ [(nm, val)]) := by
            refine List.pairwise_append.2 ⟨(ris_nd (right_ris h).2).filter _, by simp, fun x hx y hy => ?_⟩
            have hy : y = (nm, val) := by simpa using hy
            subst hy
            exact hout x hx
          have := getL_mem (x := (nm, val)) ((ndN_perm (sortN_perm _)).2 hnd) ((sortN_perm _).mem_iff.2 (by simp))
          exact this
      · rw [if_pos hE] at hw
        exact absurd hw hE
theorem chos_ok {p : List UInt8 → Bool} {S : List LbT} (h : (rightS S).1 = 0) : chosS p S = (pickL p S, 0) := by unfold chosS; rw [if_pos h]
theorem parts_len (ns : List (List UInt8)) (S : List LbT) : (pickL (p_Keep ns) S).length + (pickL (p_Without ns) S).length = S.length := by
  induction S with
  | nil => rfl
  | cons x t ih =>
    unfold pickL at ih ⊢
    rw [List.filter_cons, List.filter_cons]
    have e : p_Without ns x.1 = !p_Keep ns x.1 := rfl
    rw [e]
    cases p_Keep ns x.1 <;> simp <;> omega
theorem parts_told {ns : List (List UInt8)} {S : List LbT} (hn : ndN S) {x : LbT} (hx : x ∈ S) : getL (pickL (p_Keep ns) S) x.1 ++ getL (pickL (p_Without ns) S) x.1 = x.2 := by
  have e : p_Without ns x.1 = !p_Keep ns x.1 := rfl
  cases hk : p_Keep ns x.1 with
  | true =>
    have h1 : getL (pickL (p_Keep ns) S) x.1 = x.2 := getL_mem (hn.filter _) (List.mem_filter.2 ⟨hx, hk⟩)
    have h2 : getL (pickL (p_Without ns) S) x.1 = [] := getL_out fun y hy ey => by
      have := (List.mem_filter.1 hy).2
      rw [ey, e, hk] at this
      cases this
    rw [h1, h2, List.append_nil]
  | false =>
    have h1 : getL (pickL (p_Without ns) S) x.1 = x.2 := getL_mem (hn.filter _) (List.mem_filter.2 ⟨hx, by rw [e, hk]; rfl⟩)
    have h2 : getL (pickL (p_Keep ns) S) x.1 = [] := getL_out fun y hy ey => by
      have := (List.mem_filter.1 hy).2
      rw [ey, hk] at this
      cases this
    rw [h1, h2, List.nil_append]
end Go.Proofs.YtknlnllcpdiglabDoor

namespace Go.Proofs.YtknlnllcpdiglabDoor
open Go.RowKit

theorem mk_app (a b : List UInt8) : ByteArray.mk ⟨a⟩ ++ ByteArray.mk ⟨b⟩ = ByteArray.mk ⟨a ++ b⟩ := by
  apply ByteArray.ext
  apply Array.toList_inj.1
  simp
theorem mkd_len (ls : List LbT) : (madeS ls).1.length ≤ ls.length := by
  by_cases h : ndN ls
  · rw [madeS_nd h]
    by_cases h2 : (rightS (sortN (fullL ls))).1 = 0
    · rw [if_pos h2]; exact sort_len ls
    · rw [if_neg h2]; simp
  · rw [madeS_dup h]; simp
theorem mkd_in {ls : List LbT} (hl : LbIn ls) : LbIn (madeS ls).1 := by
  by_cases h : ndN ls
  · rw [madeS_nd h]
    by_cases h2 : (rightS (sortN (fullL ls))).1 = 0
    · rw [if_pos h2]; exact hl.made
    · rw [if_neg h2]; exact ⟨by simp, fun j => by simp⟩
  · rw [madeS_dup h]; exact ⟨by simp, fun j => by simp⟩
theorem rev_step {ls : List LbT} {y : Nat} (hy : y < ls.length) : (ls.drop y).reverse = (ls.drop (y + 1)).reverse ++ [ls.getD y ([], [])] := by
  have e : ls.getD y ([], []) = ls[y] := by simp [List.getD, hy]
  rw [List.drop_eq_getElem_cons hy, List.reverse_cons, e]

set_option maxRecDepth 16000 in
set_option maxHeartbeats 12800000 in
theorem lbAlg_walk (w : World) (v vn : Value) (ls : List LbT) (nm val : List UInt8) (ns : List (List UInt8)) (hv : RdL w v ls) (hl : LbIn ls) (hll : ls.length ≤ 4398046511104) (hnm : nm.length ≤ 1000000000000000000) (hval : val.length ≤ 1000000000000000000) (hn : RdN w vn ns) (hT : U8S w) :
    Calls Tryd.prog 4 #[v, .string (ByteArray.mk ⟨nm⟩), .string (ByteArray.mk ⟨val⟩), vn] w fun e w' => e = .returned (.bool true) ∧ Below w.heap.size w w' := by
  have HV : Hid (RdL w v ls ∧ LbIn ls ∧ ls.length ≤ 4398046511104 ∧ U8S w ∧ RdN w vn ns) := ⟨hv, hl, hll, hT, hn⟩
  have hSl := mkd_len ls
  have HM : Hid (∀ W u, RdL W u ls → w.grownBy W none → Calls Tryd.prog 12 #[u] W fun e w' => ∃ v', e = .returned (.tuple #[v', .int .i64 (madeS ls).2.1]) ∧ OwnL w' W.heap.size v' (madeS ls).1 ∧ W.grownBy w' none) := fun W u h hg => make_any W u ls h hl hll (hT.keep hg)
  have HMB : Hid (∀ W u, RdL W u ls.reverse → w.grownBy W none → Calls Tryd.prog 12 #[u] W fun e w' => ∃ v', e = .returned (.tuple #[v', .int .i64 (madeS ls).2.1]) ∧ OwnL w' W.heap.size v' (madeS ls).1 ∧ W.grownBy w' none) := fun W u h hg => by
    have h2 := make_any W u ls.reverse h (hl.perm (List.reverse_perm ls)) (by simpa using hll) (hT.keep hg)
    rwa [made_perm (List.reverse_perm ls)] at h2
  have HMS : Hid ((madeS ls).2.1 = 0 → ∀ W u, RdL W u (madeS ls).1 → w.grownBy W none → Calls Tryd.prog 12 #[u] W fun e w' => ∃ v', e = .returned (.tuple #[v', .int .i64 0]) ∧ OwnL w' W.heap.size v' (madeS ls).1 ∧ W.grownBy w' none) := fun h W u hu hg => by
    have h2 := make_any W u (madeS ls).1 hu (mkd_in hl) (Nat.le_trans hSl hll) (hT.keep hg)
    have h3 := made_self (made_ok h)
    rwa [h3.1, h3.2] at h2
  have HW : Hid (∀ W u, RdL W u (madeS ls).1 → w.grownBy W none → Calls Tryd.prog 13 #[u, .string (ByteArray.mk ⟨nm⟩), .string (ByteArray.mk ⟨val⟩)] W fun e w' => ∃ v', e = .returned (.tuple #[v', .int .i64 (withS (madeS ls).1 nm val).2]) ∧ OwnL w' W.heap.size v' (withS (madeS ls).1 nm val).1 ∧ W.grownBy w' none) := fun W u hu hg => with_any W u _ nm val hu (mkd_in hl) (Nat.le_trans hSl hll) hnm hval (hT.keep hg)
  have HWG : Hid ((madeS ls).2.1 = 0 → (withS (madeS ls).1 nm val).2 = 0 → ∀ W u, RdL W u (withS (madeS ls).1 nm val).1 → Calls Tryd.prog 14 #[u, .string (ByteArray.mk ⟨nm⟩)] W fun e w' => e = .returned (.string (ByteArray.mk ⟨val⟩)) ∧ W.grownBy w' none) := fun h1 h2 W u hu => by
    have h3 := get_labels W u _ nm hu
    rwa [with_told (made_ok h1) h2] at h3
  have HK : Hid ((madeS ls).2.1 = 0 → ∀ W u, RdL W u (madeS ls).1 → w.grownBy W none → Calls Tryd.prog 15 #[u, vn] W fun e w' => ∃ v', e = .returned (.tuple #[v', .int .i64 0]) ∧ OwnL w' W.heap.size v' (pickL (p_Keep ns) (madeS ls).1) ∧ W.grownBy w' none) := fun h W u hu hg => by
    have h2 := choice_Keep W u vn _ ns hu (mkd_in hl) (Nat.le_trans hSl hll) (hT.keep hg) (hn.keep hg)
    rwa [chos_ok (made_ok h)] at h2
  have HO : Hid ((madeS ls).2.1 = 0 → ∀ W u, RdL W u (madeS ls).1 → w.grownBy W none → Calls Tryd.prog 16 #[u, vn] W fun e w' => ∃ v', e = .returned (.tuple #[v', .int .i64 0]) ∧ OwnL w' W.heap.size v' (pickL (p_Without ns) (madeS ls).1) ∧ W.grownBy w' none) := fun h W u hu hg => by
    have h2 := choice_Without W u vn _ ns hu (mkd_in hl) (Nat.le_trans hSl hll) (hT.keep hg) (hn.keep hg)
    rwa [chos_ok (made_ok h)] at h2
  have HPL := parts_len ns (madeS ls).1
  have HPT : Hid ((madeS ls).2.1 = 0 → ∀ x, x ∈ (madeS ls).1 → getL (pickL (p_Keep ns) (madeS ls).1) x.1 ++ getL (pickL (p_Without ns) (madeS ls).1) x.1 = x.2) := fun h x hx => parts_told (ris_nd (right_ris (made_ok h)).2) hx
  have HIN : Hid (LbIn (madeS ls).1) := mkd_in hl
  obtain ⟨a, c, rfl, hc1, hc2, -, -⟩ := hv
  unfold maxLen at hc2
  obtain ⟨na, nc, rfl⟩ : ∃ a c, vn = .slice a ns.length c := by obtain ⟨a, c, h, _⟩ := hn; exact ⟨a, c, h⟩
  clear hl hT hn
  generalize (madeS ls).1 = S at *
  generalize (madeS ls).2.1 = E at *
  generalize (withS S nm val).1 = T at *
  generalize (withS S nm val).2 = F at *
  generalize pickL (p_Keep ns) S = PK at *
  generalize pickL (p_Without ns) S = PW at *
  generalize ByteArray.mk ⟨nm⟩ = sn at *
  generalize ByteArray.mk ⟨val⟩ = sv at *
  have HSame : Hid (∀ W S u1 u2, RdL W u1 S → RdL W u2 S → Calls Tryd.prog 11 #[u1, u2] W fun e w' => e = .returned (.bool true) ∧ W.grownBy w' none) := fun W S u1 u2 h1 h2 => by
    have := sameL_any W u1 u2 S S h1 h2
    rwa [decide_eq_true rfl] at this
  obtain ⟨i0, hi, hz0, hz1, hz2⟩ := info_parts infoLb
  have HI : Hid (Tryd.prog.info? 42 = some i0 ∧ i0.zero = some (.agg #[.string ⟨#[]⟩, .string ⟨#[]⟩]) ∧ i0.size = 2 ∧ i0.bytes = 32) := ⟨hi, hz0, hz1, hz2⟩
  clear hi hz0 hz1 hz2
  go_enter Tryd.func4, Tryd.ntmps4
  go_wp2_with fail
  refine (HM.out _ _ HV.out.1 (gb_refl _ _)).mono ?_
  rintro e w1 ⟨va, rfl, hoa, hg1⟩
  have H1 : Hid (OwnL w1 w.heap.size va S ∧ w.grownBy w1 none) := ⟨hoa, hg1⟩
  clear HM hoa hg1
  go_wp2
  go_loopw [11, 12] (fun u i wr => ∃ z : Nat, z ≤ ls.length ∧ i = .int .i64 ((z : Int) - 1) ∧ Hid (OwnL wr w1.heap.size u (ls.drop z).reverse ∧ w1.grownBy wr none)) (fun _ i _ => ((intOf i) + 1).toNat)
  case atStart => exact ⟨ls.length, by omega, by simp, by simpa using OwnL.nil _ _, gb_refl _ _⟩
  case round =>
    obtain ⟨z, hzN, rfl, hr⟩ := hrel
    by_cases hz0 : z = 0
    · subst hz0
      have hzi : ¬ (0 : Int) ≤ ((0 : Nat) : Int) - 1 := by omega
      have H2 : Hid (OwnL wr w1.heap.size u11 ls.reverse ∧ w1.grownBy wr none) := ⟨by simpa using hr.out.1, hr.out.2⟩
      have H2W : Hid (w.grownBy wr none ∧ OwnL wr w.heap.size va S) := ⟨gb_none H1.out.2 H2.out.2, H1.out.1.keep H2.out.2⟩
      clear hr
      go_wp2_with fail
      refine (HMB.out _ _ H2.out.1.rd H2W.out.1).mono ?_
      rintro e w3 ⟨vb, rfl, hob, hg3⟩
      have H3 : Hid (w.grownBy w3 none ∧ OwnL w3 w.heap.size va S ∧ OwnL w3 wr.heap.size vb S) := ⟨gb_none H2W.out.1 hg3, H2W.out.2.keep hg3, hob⟩
      clear HMB hob hg3 H2 H2W H1
      go_wp2_with fail
      refine (HSame.out _ S _ _ H3.out.2.1.rd H3.out.2.2.rd).mono ?_
      rintro e w4 ⟨rfl, hg4⟩
      have H4 : Hid (w.grownBy w4 none ∧ OwnL w4 w.heap.size va S) := ⟨gb_none H3.out.1 hg4, H3.out.2.1.keep hg4⟩
      clear hg4 H3
      by_cases hE : E = 0
      · subst hE
        go_wp2_with fail
        refine (HMS.out (by first | rfl | trivial) _ _ H4.out.2.rd H4.out.1).mono ?_
        rintro e w5 ⟨vc, rfl, hoc, hg5⟩
        have H5 : Hid (w.grownBy w5 none ∧ OwnL w5 w.heap.size va S ∧ OwnL w5 w4.heap.size vc S) := ⟨gb_none H4.out.1 hg5, H4.out.2.keep hg5, hoc⟩
        clear HMS hoc hg5 H4
        go_wp2_with fail
        refine (HSame.out _ S _ _ H5.out.2.2.rd H5.out.2.1.rd).mono ?_
        rintro e w6 ⟨rfl, hg6⟩
        have H6 : Hid (w.grownBy w6 none ∧ OwnL w6 w.heap.size va S) := ⟨gb_none H5.out.1 hg6, H5.out.2.1.keep hg6⟩
        clear hg6 H5
        go_wp2_with fail
        refine (HW.out _ _ H6.out.2.rd H6.out.1).mono ?_
        rintro e w7 ⟨vw, rfl, how, hg7⟩
        have H7 : Hid (w.grownBy w7 none ∧ OwnL w7 w.heap.size va S ∧ OwnL w7 w6.heap.size vw T) := ⟨gb_none H6.out.1 hg7, H6.out.2.keep hg7, how⟩
        clear HW how hg7 H6
        have qv : (sv.toList == sv.toList) = true := by simp
        by_cases hF : F = 0
        · subst hF
          go_wp2_with fail
          refine (HWG.out (by first | rfl | trivial) (by first | rfl | trivial) _ _ H7.out.2.2.rd).mono ?_
          rintro e w8 ⟨rfl, hg8⟩
          have H8 : Hid (w.grownBy w8 none ∧ OwnL w8 w.heap.size va S) := ⟨gb_none H7.out.1 hg8, H7.out.2.1.keep hg8⟩
          clear HWG hg8 H7
          go_wp2_with fail
          refine (HK.out (by first | rfl | trivial) _ _ H8.out.2.rd H8.out.1).mono ?_
          rintro e w9 ⟨vk, rfl, hok, hg9⟩
          have H9 : Hid (w.grownBy w9 none ∧ OwnL w9 w.heap.size va S ∧ OwnL w9 w8.heap.size vk PK) := ⟨gb_none H8.out.1 hg9, H8.out.2.keep hg9, hok⟩
          clear HK hok hg9 H8
          go_wp2_with fail
          refine (HO.out (by first | rfl | trivial) _ _ H9.out.2.1.rd H9.out.1).mono ?_
          rintro e wA ⟨vo, rfl, hoo, hgA⟩
          have HA : Hid (w.grownBy wA none ∧ OwnL wA w.heap.size va S ∧ RdL wA vk PK ∧ RdL wA vo PW) := ⟨gb_none H9.out.1 hgA, H9.out.2.1.keep hgA, (H9.out.2.2.keep hgA).rd, hoo.rd⟩
          clear HO hoo hgA H9
          obtain ⟨ka, kc, rfl⟩ : ∃ a c, vk = .slice a PK.length c := by obtain ⟨a, c, h, _⟩ := HA.out.2.2.1; exact ⟨a, c, h⟩
          obtain ⟨oa, oc, rfl⟩ : ∃ a c, vo = .slice a PW.length c := by obtain ⟨a, c, h, _⟩ := HA.out.2.2.2; exact ⟨a, c, h⟩
          obtain ⟨sa, sc, rfl⟩ := HA.out.2.1.shape
          have hpl : (PK.length : Int) + (PW.length : Int) = (S.length : Int) := by omega
          have hb1 : (PK.length : Int) ≤ 4398046511104 := by omega
          have hb2 : (PW.length : Int) ≤ 4398046511104 := by omega
          go_wp2
          go_loopw [120] (fun i wr => ∃ z : Nat, z ≤ S.length ∧ i = .int .i64 z ∧ Hid (wA.grownBy wr none)) (fun i _ => S.length - (intOf i).toNat)
          case atStart => exact ⟨0, by omega, rfl, gb_refl _ _⟩
          case round =>
            obtain ⟨z, hzN, rfl, hr⟩ := hrel
            by_cases hzl : z < S.length
            · have hzi : (z : Int) < (S.length : Int) := by omega
              obtain ⟨a', c', he, -, -, h3, -⟩ := HA.out.2.1.rd.keep hr.out
              simp only [Value.slice.injEq] at he
              obtain ⟨rfl, -, rfl⟩ := he
              obtain ⟨b, o, rfl, c0, c1⟩ := h3 z hzl
              have hbl : ¬ b = wr.heap.size := by have := block_lt c0; omega
              have hbl2 : ¬ wr.heap.size = b := by omega
              have hmem : S.getD z ([], []) ∈ S := by
                have e1 : S.getD z ([], []) = S[z] := by simp [List.getD, hzl]
                rw [e1]; exact List.getElem_mem hzl
              have hpt := HPT.out (by first | rfl | trivial) _ hmem
              have hvl := (HIN.out.2 z).2
              have hcat : ByteArray.mk ⟨getL PK (S.getD z ([], [])).1⟩ ++ ByteArray.mk ⟨getL PW (S.getD z ([], [])).1⟩ = ByteArray.mk ⟨(S.getD z ([], [])).2⟩ := by rw [mk_app, hpt]
              have hsz : (getL PK (S.getD z ([], [])).1).length + (getL PW (S.getD z ([], [])).1).length ≤ 1000000000000000000 := by rw [← List.length_append, hpt]; exact hvl
              have l1 : (ByteArray.mk ⟨getL PK (S.getD z ([], [])).1⟩).size = (getL PK (S.getD z ([], [])).1).length := rfl
              have l2 : (ByteArray.mk ⟨getL PW (S.getD z ([], [])).1⟩).size = (getL PW (S.getD z ([], [])).1).length := rfl
              have HG : Hid (w.grownBy wr none ∧ wA.grownBy wr none) := ⟨gb_none HA.out.1 hr.out, hr.out⟩
              have HG1 : Hid (∀ W, wA.grownBy W none → Bx w wr.heap.size (ByteArray.mk ⟨(S.getD z ([], [])).1⟩) (ByteArray.mk ⟨(S.getD z ([], [])).2⟩) W → Calls Tryd.prog 14 #[.slice ka PK.length kc, .string (ByteArray.mk ⟨(S.getD z ([], [])).1⟩)] W fun e w' => e = .returned (.string (ByteArray.mk ⟨getL PK (S.getD z ([], [])).1⟩)) ∧ Hid (wA.grownBy w' none ∧ Bx w wr.heap.size (ByteArray.mk ⟨(S.getD z ([], [])).1⟩) (ByteArray.mk ⟨(S.getD z ([], [])).2⟩) w') ∧ w'.cell? ⟨wr.heap.size, 0, none⟩ = some (.string (ByteArray.mk ⟨(S.getD z ([], [])).1⟩)) ∧ w'.cell? ⟨wr.heap.size, 1, none⟩ = some (.string (ByteArray.mk ⟨(S.getD z ([], [])).2⟩))) := fun W h1 h2 => (get_labels W _ PK _ (HA.out.2.2.1.keep h1)).mono fun e w' ⟨e1, e2⟩ => ⟨e1, ⟨gb_none h1 e2, h2.keep e2⟩, (h2.keep e2).cells.1, (h2.keep e2).cells.2⟩
              have HG2 : Hid (∀ W, wA.grownBy W none → Bx w wr.heap.size (ByteArray.mk ⟨(S.getD z ([], [])).1⟩) (ByteArray.mk ⟨(S.getD z ([], [])).2⟩) W → Calls Tryd.prog 14 #[.slice oa PW.length oc, .string (ByteArray.mk ⟨(S.getD z ([], [])).1⟩)] W fun e w' => e = .returned (.string (ByteArray.mk ⟨getL PW (S.getD z ([], [])).1⟩)) ∧ Hid (wA.grownBy w' none ∧ Bx w wr.heap.size (ByteArray.mk ⟨(S.getD z ([], [])).1⟩) (ByteArray.mk ⟨(S.getD z ([], [])).2⟩) w') ∧ w'.cell? ⟨wr.heap.size, 0, none⟩ = some (.string (ByteArray.mk ⟨(S.getD z ([], [])).1⟩)) ∧ w'.cell? ⟨wr.heap.size, 1, none⟩ = some (.string (ByteArray.mk ⟨(S.getD z ([], [])).2⟩))) := fun W h1 h2 => (get_labels W _ PW _ (HA.out.2.2.2.keep h1)).mono fun e w' ⟨e1, e2⟩ => ⟨e1, ⟨gb_none h1 e2, h2.keep e2⟩, (h2.keep e2).cells.1, (h2.keep e2).cells.2⟩
              have HB0 : Hid (wA.grownBy (wr.alloc (.cells #[.string (ByteArray.mk ⟨(S.getD z ([], [])).1⟩), .string (ByteArray.mk ⟨(S.getD z ([], [])).2⟩)] 42)) none ∧ Bx w wr.heap.size (ByteArray.mk ⟨(S.getD z ([], [])).1⟩) (ByteArray.mk ⟨(S.getD z ([], [])).2⟩) (wr.alloc (.cells #[.string (ByteArray.mk ⟨(S.getD z ([], [])).1⟩), .string (ByteArray.mk ⟨(S.getD z ([], [])).2⟩)] 42))) := ⟨gb_none HG.out.2 (World.grownBy_alloc _ _ none), Go.heap_alloc_new wr _, gb_none HG.out.1 (World.grownBy_alloc _ _ none)⟩
              clear h3 hr hpt hvl hmem
              generalize (getL PK (S.getD z ([], [])).1).length = n1 at *
              generalize (getL PW (S.getD z ([], [])).1).length = n2 at *
              have hm6 : ¬ 9223372036854775807 < n1 + n2 := by omega
              generalize ByteArray.mk ⟨getL PK (S.getD z ([], [])).1⟩ = sk at *
              generalize ByteArray.mk ⟨getL PW (S.getD z ([], [])).1⟩ = so at *
              generalize ByteArray.mk ⟨(S.getD z ([], [])).1⟩ = sx at *
              generalize ByteArray.mk ⟨(S.getD z ([], [])).2⟩ = sy at *
              have qy : (sy.toList == sy.toList) = true := by simp
              go_wp2_with fail
              have q0 := HB0.out.2.cells.1
              have q1 := HB0.out.2.cells.2
              clear c0 c1 hbl hbl2 HG
              generalize wr.alloc (.cells #[.string sx, .string sy] 42) = W1 at *
              generalize wr.heap.size = b0 at *
              have HB1 : Hid (wA.grownBy W1.drew none ∧ Bx w b0 sx sy W1.drew) := ⟨gb_none HB0.out.1 (gb_drew _ none), HB0.out.2.keep (gb_drew _ none)⟩
              go_region_held3 (fun w' => w'.cell? ⟨b0, 0, none⟩ = some (.string sx) ∧ w'.cell? ⟨b0, 1, none⟩ = some (.string sy)) (go_keep)
                (first
                  | (go_at_call_of 14 ka; with_reducible refine (HG1.out _ ?_ ?_).mono ?_; (first | exact HB0.out.1 | exact HB1.out.1); (first | exact HB0.out.2 | exact HB1.out.2); rintro e wk ⟨rfl, hk1, hk2, hk3⟩)
                  | (go_at_call_of 14 oa; with_reducible refine (HG2.out _ hk1.out.1 hk1.out.2).mono ?_; rintro e wo ⟨rfl, ho1, ho2, ho3⟩))
              clear HG1 HG2
              go_wp2
              go_roundw
              case rel => exact ⟨z + 1, by omega, by simp, by first | exact ho1.out.1 | exact gb_none ho1.out.1 (gb_drew _ none)⟩
              case measure => simp [intOf]; omega
            · have hzi : ¬ (z : Int) < (S.length : Int) := by omega
              have HB : Hid (w.grownBy wr none) := gb_none HA.out.1 hr.out
              clear hr
              go_wp2_with fail
              refine (awakeL_any _ (HV.out.2.2.2.1.keep HB.out)).mono ?_
              rintro e wz ⟨rfl, hgz⟩
              have Hz : Hid (Below w.heap.size w wz) := gb_below (gb_none HB.out hgz)
              clear hgz HB
              go_wp2
              go_ret
              exact ⟨rfl, Hz.out⟩
        · have hFb : (F == 0) = false := by rw [beq_eq_false_iff_ne]; exact hF
          obtain ⟨w8, hw8⟩ : ∃ w8, w8 = w7 := ⟨_, rfl⟩
          have H8 : Hid (w.grownBy w8 none ∧ OwnL w8 w.heap.size va S) := by rw [hw8]; exact ⟨H7.out.1, H7.out.2.1⟩
          subst hw8
          clear HWG H7
          go_wp2_with fail
          refine (HK.out (by first | rfl | trivial) _ _ H8.out.2.rd H8.out.1).mono ?_
          rintro e w9 ⟨vk, rfl, hok, hg9⟩
          have H9 : Hid (w.grownBy w9 none ∧ OwnL w9 w.heap.size va S ∧ OwnL w9 w8.heap.size vk PK) := ⟨gb_none H8.out.1 hg9, H8.out.2.keep hg9, hok⟩
          clear HK hok hg9 H8
          go_wp2_with fail
          refine (HO.out (by first | rfl | trivial) _ _ H9.out.2.1.rd H9.out.1).mono ?_
          rintro e wA ⟨vo, rfl, hoo, hgA⟩
          have HA : Hid (w.grownBy wA none ∧ OwnL wA w.heap.size va S ∧ RdL wA vk PK ∧ RdL wA vo PW) := ⟨gb_none H9.out.1 hgA, H9.out.2.1.keep hgA, (H9.out.2.2.keep hgA).rd, hoo.rd⟩
          clear HO hoo hgA H9
          obtain ⟨ka, kc, rfl⟩ : ∃ a c, vk = .slice a PK.length c := by obtain ⟨a, c, h, _⟩ := HA.out.2.2.1; exact ⟨a, c, h⟩
          obtain ⟨oa, oc, rfl⟩ : ∃ a c, vo = .slice a PW.length c := by obtain ⟨a, c, h, _⟩ := HA.out.2.2.2; exact ⟨a, c, h⟩
          obtain ⟨sa, sc, rfl⟩ := HA.out.2.1.shape
          have hpl : (PK.length : Int) + (PW.length : Int) = (S.length : Int) := by omega
          have hb1 : (PK.length : Int) ≤ 4398046511104 := by omega
          have hb2 : (PW.length : Int) ≤ 4398046511104 := by omega
          go_wp2
          go_loopw [120] (fun i wr => ∃ z : Nat, z ≤ S.length ∧ i = .int .i64 z ∧ Hid (wA.grownBy wr none)) (fun i _ => S.length - (intOf i).toNat)
          case atStart => exact ⟨0, by omega, rfl, gb_refl _ _⟩
          case round =>
            obtain ⟨z, hzN, rfl, hr⟩ := hrel
            by_cases hzl : z < S.length
            · have hzi : (z : Int) < (S.length : Int) := by omega
              obtain ⟨a', c', he, -, -, h3, -⟩ := HA.out.2.1.rd.keep hr.out
              simp only [Value.slice.injEq] at he
              obtain ⟨rfl, -, rfl⟩ := he
              obtain ⟨b, o, rfl, c0, c1⟩ := h3 z hzl
              have hbl : ¬ b = wr.heap.size := by have := block_lt c0; omega
              have hbl2 : ¬ wr.heap.size = b := by omega
              have hmem : S.getD z ([], []) ∈ S := by
                have e1 : S.getD z ([], []) = S[z] := by simp [List.getD, hzl]
                rw [e1]; exact List.getElem_mem hzl
              have hpt := HPT.out (by first | rfl | trivial) _ hmem
              have hvl := (HIN.out.2 z).2
              have hcat : ByteArray.mk ⟨getL PK (S.getD z ([], [])).1⟩ ++ ByteArray.mk ⟨getL PW (S.getD z ([], [])).1⟩ = ByteArray.mk ⟨(S.getD z ([], [])).2⟩ := by rw [mk_app, hpt]
              have hsz : (getL PK (S.getD z ([], [])).1).length + (getL PW (S.getD z ([], [])).1).length ≤ 1000000000000000000 := by rw [← List.length_append, hpt]; exact hvl
              have l1 : (ByteArray.mk ⟨getL PK (S.getD z ([], [])).1⟩).size = (getL PK (S.getD z ([], [])).1).length := rfl
              have l2 : (ByteArray.mk ⟨getL PW (S.getD z ([], [])).1⟩).size = (getL PW (S.getD z ([], [])).1).length := rfl
              have HG : Hid (w.grownBy wr none ∧ wA.grownBy wr none) := ⟨gb_none HA.out.1 hr.out, hr.out⟩
              have HG1 : Hid (∀ W, wA.grownBy W none → Bx w wr.heap.size (ByteArray.mk ⟨(S.getD z ([], [])).1⟩) (ByteArray.mk ⟨(S.getD z ([], [])).2⟩) W → Calls Tryd.prog 14 #[.slice ka PK.length kc, .string (ByteArray.mk ⟨(S.getD z ([], [])).1⟩)] W fun e w' => e = .returned (.string (ByteArray.mk ⟨getL PK (S.getD z ([], [])).1⟩)) ∧ Hid (wA.grownBy w' none ∧ Bx w wr.heap.size (ByteArray.mk ⟨(S.getD z ([], [])).1⟩) (ByteArray.mk ⟨(S.getD z ([], [])).2⟩) w') ∧ w'.cell? ⟨wr.heap.size, 0, none⟩ = some (.string (ByteArray.mk ⟨(S.getD z ([], [])).1⟩)) ∧ w'.cell? ⟨wr.heap.size, 1, none⟩ = some (.string (ByteArray.mk ⟨(S.getD z ([], [])).2⟩))) := fun W h1 h2 => (get_labels W _ PK _ (HA.out.2.2.1.keep h1)).mono fun e w' ⟨e1, e2⟩ => ⟨e1, ⟨gb_none h1 e2, h2.keep e2⟩, (h2.keep e2).cells.1, (h2.keep e2).cells.2⟩
              have HG2 : Hid (∀ W, wA.grownBy W none → Bx w wr.heap.size (ByteArray.mk ⟨(S.getD z ([], [])).1⟩) (ByteArray.mk ⟨(S.getD z ([], [])).2⟩) W → Calls Tryd.prog 14 #[.slice oa PW.length oc, .string (ByteArray.mk ⟨(S.getD z ([], [])).1⟩)] W fun e w' => e = .returned (.string (ByteArray.mk ⟨getL PW (S.getD z ([], [])).1⟩)) ∧ Hid (wA.grownBy w' none ∧ Bx w wr.heap.size (ByteArray.mk ⟨(S.getD z ([], [])).1⟩) (ByteArray.mk ⟨(S.getD z ([], [])).2⟩) w') ∧ w'.cell? ⟨wr.heap.size, 0, none⟩ = some (.string (ByteArray.mk ⟨(S.getD z ([], [])).1⟩)) ∧ w'.cell? ⟨wr.heap.size, 1, none⟩ = some (.string (ByteArray.mk ⟨(S.getD z ([], [])).2⟩))) := fun W h1 h2 => (get_labels W _ PW _ (HA.out.2.2.2.keep h1)).mono fun e w' ⟨e1, e2⟩ => ⟨e1, ⟨gb_none h1 e2, h2.keep e2⟩, (h2.keep e2).cells.1, (h2.keep e2).cells.2⟩
              have HB0 : Hid (wA.grownBy (wr.alloc (.cells #[.string (ByteArray.mk ⟨(S.getD z ([], [])).1⟩), .string (ByteArray.mk ⟨(S.getD z ([], [])).2⟩)] 42)) none ∧ Bx w wr.heap.size (ByteArray.mk ⟨(S.getD z ([], [])).1⟩) (ByteArray.mk ⟨(S.getD z ([], [])).2⟩) (wr.alloc (.cells #[.string (ByteArray.mk ⟨(S.getD z ([], [])).1⟩), .string (ByteArray.mk ⟨(S.getD z ([], [])).2⟩)] 42))) := ⟨gb_none HG.out.2 (World.grownBy_alloc _ _ none), Go.heap_alloc_new wr _, gb_none HG.out.1 (World.grownBy_alloc _ _ none)⟩
              clear h3 hr hpt hvl hmem
              generalize (getL PK (S.getD z ([], [])).1).length = n1 at *
              generalize (getL PW (S.getD z ([], [])).1).length = n2 at *
              have hm6 : ¬ 9223372036854775807 < n1 + n2 := by omega
              generalize ByteArray.mk ⟨getL PK (S.getD z ([], [])).1⟩ = sk at *
              generalize ByteArray.mk ⟨getL PW (S.getD z ([], [])).1⟩ = so at *
              generalize ByteArray.mk ⟨(S.getD z ([], [])).1⟩ = sx at *
              generalize ByteArray.mk ⟨(S.getD z ([], [])).2⟩ = sy at *
              have qy : (sy.toList == sy.toList) = true := by simp
              go_wp2_with fail
              have q0 := HB0.out.2.cells.1
              have q1 := HB0.out.2.cells.2
              clear c0 c1 hbl hbl2 HG
              generalize wr.alloc (.cells #[.string sx, .string sy] 42) = W1 at *
              generalize wr.heap.size = b0 at *
              have HB1 : Hid (wA.grownBy W1.drew none ∧ Bx w b0 sx sy W1.drew) := ⟨gb_none HB0.out.1 (gb_drew _ none), HB0.out.2.keep (gb_drew _ none)⟩
              go_region_held3 (fun w' => w'.cell? ⟨b0, 0, none⟩ = some (.string sx) ∧ w'.cell? ⟨b0, 1, none⟩ = some (.string sy)) (go_keep)
                (first
                  | (go_at_call_of 14 ka; with_reducible refine (HG1.out _ ?_ ?_).mono ?_; (first | exact HB0.out.1 | exact HB1.out.1); (first | exact HB0.out.2 | exact HB1.out.2); rintro e wk ⟨rfl, hk1, hk2, hk3⟩)
                  | (go_at_call_of 14 oa; with_reducible refine (HG2.out _ hk1.out.1 hk1.out.2).mono ?_; rintro e wo ⟨rfl, ho1, ho2, ho3⟩))
              clear HG1 HG2
              go_wp2
              go_roundw
              case rel => exact ⟨z + 1, by omega, by simp, by first | exact ho1.out.1 | exact gb_none ho1.out.1 (gb_drew _ none)⟩
              case measure => simp [intOf]; omega
            · have hzi : ¬ (z : Int) < (S.length : Int) := by omega
              have HB : Hid (w.grownBy wr none) := gb_none HA.out.1 hr.out
              clear hr
              go_wp2_with fail
              refine (awakeL_any _ (HV.out.2.2.2.1.keep HB.out)).mono ?_
              rintro e wz ⟨rfl, hgz⟩
              have Hz : Hid (Below w.heap.size w wz) := gb_below (gb_none HB.out hgz)
              clear hgz HB
              go_wp2
              go_ret
              exact ⟨rfl, Hz.out⟩
      · have hEb : (E == 0) = false := by rw [beq_eq_false_iff_ne]; exact hE
        go_wp2_with fail
        refine (awakeL_any _ (HV.out.2.2.2.1.keep H4.out.1)).mono ?_
        rintro e w5 ⟨rfl, hg5⟩
        have H5 : Hid (Below w.heap.size w w5) := gb_below (gb_none H4.out.1 hg5)
        clear hg5 H4
        go_wp2
        go_ret
        exact ⟨rfl, H5.out⟩
    · obtain ⟨y, hy⟩ : ∃ y, z = y + 1 := ⟨z - 1, by omega⟩
      have hyi : (z : Int) - 1 = (y : Int) := by omega
      have hy0 : (0 : Int) ≤ (y : Int) := by omega
      have hyl : y < ls.length := by omega
      have hyli : (y : Int) < (ls.length : Int) := by omega
      obtain ⟨a', c', he, -, -, h3, -⟩ := HV.out.1.keep (gb_none H1.out.2 hr.out.2)
      simp only [Value.slice.injEq] at he
      obtain ⟨rfl, -, rfl⟩ := he
      obtain ⟨b, o, rfl, c0, c1⟩ := h3 y hyl
      have HE : Hid (OwnL wr w1.heap.size u11 (ls.drop z).reverse ∧ w1.grownBy wr none ∧ (ls.drop y).reverse = (ls.drop z).reverse ++ [((ls.getD y ([], [])).1, (ls.getD y ([], [])).2)] ∧ (ls.drop z).reverse.length ≤ 4398046511104 ∧ z = y + 1) := ⟨hr.out.1, hr.out.2, by rw [hy]; exact rev_step hyl, by simp; omega, hy⟩
      clear h3 hr hy
      generalize (ls.getD y ([], [])).1 = tn at *
      generalize (ls.getD y ([], [])).2 = tv at *
      go_wp2_with (at_builtin; refine wp_appH rfl _ _ 22 42 rfl i0 _ 2 32 w1.heap.size Tryd.underlying22 HI.out.1 HI.out.2.1 HI.out.2.2.1 HI.out.2.2.2 rfl (by decide) _ (ls.drop z).reverse.length (lbf (ls.drop z).reverse) (some ⟨wr.heap.size, 0, none⟩) 1 1 [.string (ByteArray.mk ⟨tn⟩), .string (ByteArray.mk ⟨tv⟩)] rfl rfl (World.ownsRow.alloc HE.out.1 _) rfl (box_rdc wr _ _) (fun h => by cases h) (two_one _ _) (by have := HE.out.2.2.2.1; omega) (by have := HE.out.2.2.2.1; omega) (by have := HE.out.2.1.size; simp; omega) ?_)
      intro v1 w2 ho1 hf1
      have H2 : Hid (OwnL w2 w1.heap.size v1 (ls.drop y).reverse ∧ w1.grownBy w2 none) := by
        refine ⟨by rw [HE.out.2.2.1]; refine OwnL.snoc ?_; simpa using ho1, gb_new HE.out.2.1 (gb_trans (gb_any (World.grownBy_alloc wr (.cells #[.string (ByteArray.mk ⟨tn⟩), .string (ByteArray.mk ⟨tv⟩)] 42) none) _) hf1.1 (fun k hk _ => hk.symm)) (fun k hk => (HE.out.1.lt k hk).1)⟩
      have HZ : Hid (z = y + 1) := HE.out.2.2.2.2
      clear ho1 hf1 HE
      go_wp2
      go_roundw
      case rel => exact ⟨y, by omega, by first | rfl | simp, H2.out⟩
      case measure => simp [intOf]; have := HZ.out; omega
end Go.Proofs.YtknlnllcpdiglabDoor
