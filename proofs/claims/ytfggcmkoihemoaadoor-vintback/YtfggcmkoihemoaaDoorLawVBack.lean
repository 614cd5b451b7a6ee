/-
  VintBack: what was put is read again, and what is read as a number is that number's one form: the walk.
-/
import Derived.Test.YtfggcmkoihemoaaDoorVBack
import Derived.Test.YtfggcmkoihemoaaDoorU8Text2
import Derived.Test.YtfggcmkoihemoaaDoorVRoom
import Derived.Test.YtfggcmkoihemoaaDoorU8Ref2
import Derived.Test.YtfggcmkoihemoaaDoorKnown
import Derived.Test.YtfggcmkoihemoaaDoorSame
import Derived.Deep.RegionHeld3
namespace Go.Proofs.YtfggcmkoihemoaaDoor
open Go.RowKit Go.Lib

theorem i64_ofNat {x : BitVec 64} : BitVec.ofNat 64 x.toNat = x := by simp

set_option maxRecDepth 8000 in
set_option maxHeartbeats 6400000 in
theorem back_core (v u : Value) (l p D : List UInt8) (st t1 : ByteArray) (ok : Bool) (N G : Int) (x : BitVec 64) (m a : Int) (w : World) (hv : Rd w v l) (hu : Rd w u p) (hT : TabIn w) (hU : U8Tab w) (hl : l.length ≤ 140737488351232) (hp : p.length ≤ 140737488351232) (hm1 : -9223372036854775808 ≤ m) (hm2 : m ≤ 9223372036854775807) (ha1 : -9223372036854775808 ≤ a) (ha2 : a ≤ 9223372036854775807)
    (hst : ByteArray.mk ⟨p⟩ = st)
    (HPT : Hid (∀ W, Rd W v l → Calls Tryd.prog 22 #[v, .string st] W fun e w' => ∃ v', e = .returned v' ∧ Own w' W.heap.size v' D ∧ W.grownBy w' none))
    (HTX : Hid (∀ W y, Rd W y D → U8Tab W → Calls Tryd.prog 24 #[y, .int .i64 (l.length : Int), .int .i64 (st.size : Int)] W fun e w' => e = .returned (.tuple #[.string t1, .int .i64 N, .int .i64 G]) ∧ W.grownBy w' none))
    (HU8 : Hid (∀ W, Calls Tryd.prog 37 #[.string st] W fun e w' => e = .returned (.bool ok) ∧ W.grownBy w' none))
    (hc : (ok = true ∧ t1 = st ∧ G = 0 ∧ (l.length : Int) < N) ∨ (ok = false ∧ G = 12)) :
    Calls Tryd.prog 7 #[v, .int .u64 (I64 x), .int .i64 m, u, .int .i64 a] w fun e w' => e = .returned (.bool true) ∧ Below w.heap.size w w' := by
  have hv2 : Hid (Rd w v l) := hv
  have hu2 : Hid (Rd w u p) := hu
  have hT2 : Hid (TabIn w ∧ U8Tab w) := ⟨hT, hU⟩
  have HL : Hid (l.length ≤ 140737488351232) := hl
  have HP : Hid (p.length ≤ 140737488351232) := hp
  have HM : Hid (-9223372036854775808 ≤ m ∧ m ≤ 9223372036854775807) := ⟨hm1, hm2⟩
  have hUl : Hid ((uv x.toNat).length ≤ 10 ∧ uSpec (l ++ uv x.toNat) (l.length : Int) = (x.toNat, ((l ++ uv x.toNat).length : Int), 0)) := ⟨uv_len64 x, by have := uSpec_uv l [] x.toNat x.isLt; simp only [List.append_nil] at this; rw [this, List.length_append]⟩
  have hIl : Hid (uSpec (l ++ uv (zz m)) (l.length : Int) = (zz m, ((l ++ uv (zz m)).length : Int), 0) ∧ uz (BitVec.ofNat 64 (zz m)).toNat = m) := ⟨by
      have h := ofNat_zz hm1 hm2
      have h2 := (BitVec.ofNat 64 (zz m)).isLt
      rw [h] at h2
      have := uSpec_uv l [] (zz m) h2
      simp only [List.append_nil] at this
      rw [this, List.length_append], by rw [ofNat_zz hm1 hm2]; exact uz_zz hm1 hm2⟩
  obtain ⟨A, hA⟩ : ∃ A, l ++ uv x.toNat = A := ⟨_, rfl⟩
  obtain ⟨B, hB⟩ : ∃ B, l ++ uv (zz m) = B := ⟨_, rfl⟩
  have HPA : Hid (∀ W, Rd W v l → Calls Tryd.prog 10 #[v, .int .u64 (I64 x)] W fun e w' => ∃ v', e = .returned v' ∧ Own w' W.heap.size v' A ∧ W.grownBy w' none) := fun W h => by rw [← hA]; exact putU_any v l x W h (by omega)
  have HPB : Hid (∀ W, Rd W v l → Calls Tryd.prog 11 #[v, .int .i64 m] W fun e w' => ∃ v', e = .returned v' ∧ Own w' W.heap.size v' B ∧ W.grownBy w' none) := fun W h => by rw [← hB]; exact putI_any v l m W h (by omega) hm1 hm2
  have HRA : Hid (∀ W y, Rd W y A → Calls Tryd.prog 16 #[y, .int .i64 (l.length : Int)] W fun e w' => e = .returned (.tuple #[.int .u64 (I64 x), .int .i64 (A.length : Int), .int .i64 0]) ∧ w' = W) := fun W y h => by
    have := u_any y A (l.length : Int) W h
    have h2 := hUl.out.2
    rw [hA] at h2
    rw [h2] at this
    unfold tup3 at this
    rw [i64_ofNat] at this
    exact this
  have HRB : Hid (∀ W y, Rd W y B → Calls Tryd.prog 18 #[y, .int .i64 (l.length : Int)] W fun e w' => e = .returned (.tuple #[.int .i64 m, .int .i64 (B.length : Int), .int .i64 0]) ∧ w' = W) := fun W y h => by
    have := i_any y B (l.length : Int) W h
    have h2 := hIl.out.1
    rw [hB] at h2
    rw [h2] at this
    unfold tup3i at this
    simp only [hIl.out.2] at this
    exact this
  have HAB : Hid (A.length ≤ 140737488351300 ∧ B.length ≤ 140737488351300) := by
    refine ⟨?_, ?_⟩
    · rw [← hA, List.length_append]; have := hUl.out.1; omega
    · have h1 := uv_len64 (BitVec.ofNat 64 (zz m))
      rw [ofNat_zz hm1 hm2] at h1
      rw [← hB, List.length_append]; omega
  obtain ⟨va, vc, hvs⟩ : ∃ va vc, v = .slice va l.length vc := by obtain ⟨a, c, h, _⟩ := hv; exact ⟨a, c, h⟩
  obtain ⟨ua, uc, hus⟩ : ∃ ua uc, u = .slice ua p.length uc := by obtain ⟨a, c, h, _⟩ := hu; exact ⟨a, c, h⟩
  subst hvs hus
  clear hv hu hT hU hUl hIl hA hB
  go_enter Tryd.func7, Tryd.ntmps7
  go_wp2_with fail
  refine (HPA.out _ hv2.out).mono ?_
  rintro e w1 ⟨v1, rfl, ho1, hg1⟩
  have H1 : Hid (Own w1 w.heap.size v1 A ∧ w.grownBy w1 none) := ⟨ho1, hg1⟩
  obtain ⟨a1, c1, rfl⟩ : ∃ a1 c1, v1 = .slice a1 A.length c1 := by obtain ⟨a, c, h, _⟩ := ho1.rd; exact ⟨a, c, h⟩
  clear ho1 hg1
  go_wp2_with fail
  refine (HRA.out _ _ H1.out.1.rd).mono ?_
  rintro e w2 ⟨rfl, hw2⟩
  subst hw2
  go_wp2_with fail
  refine (HPB.out _ (hv2.out.keep H1.out.2)).mono ?_
  rintro e w3 ⟨v3, rfl, ho3, hg3⟩
  have H3 : Hid (Rd w3 v3 B ∧ w.grownBy w3 none) := ⟨ho3.rd, gb_none H1.out.2 hg3⟩
  obtain ⟨a3, c3, rfl⟩ : ∃ a1 c1, v3 = .slice a1 B.length c1 := by obtain ⟨a, c, h, _⟩ := ho3.rd; exact ⟨a, c, h⟩
  clear ho3 hg3 H1
  go_wp2_with fail
  refine (HRB.out _ _ H3.out.1).mono ?_
  rintro e w4 ⟨rfl, hw4⟩
  subst hw4
  go_wp2_with fail
  by_cases hbig : p.length ≤ 65536
  · refine (putFrame_ok _ _ l p _ (hv2.out.keep H3.out.2) (hu2.out.keep H3.out.2) (hT2.out.1.keep0 H3.out.2) hbig (by have := HL.out; omega)).mono ?_
    rintro e w5 ⟨v5, rfl, ho5, hg5⟩
    have H5 : Hid (Rd w5 v5 (l ++ frame p) ∧ w.grownBy w5 none) := ⟨ho5.rd, gb_none H3.out.2 hg5⟩
    obtain ⟨a5, c5, rfl⟩ : ∃ a1 c1, v5 = .slice a1 (l ++ frame p).length c1 := by obtain ⟨a, c, h, _⟩ := ho5.rd; exact ⟨a, c, h⟩
    clear ho5 hg5 H3
    have HF : Hid (fSpec (l ++ frame p) (l.length : Int) = .ok (p, (l ++ frame p).length)) := by
      have := fSpec_frame l p [] hbig
      simp only [List.append_nil] at this
      show fSpec (l ++ frame p) (l.length : Int) = .ok (p, (l ++ frame p).length)
      rw [this, List.length_append]
    generalize l ++ frame p = F at *
    go_wp2_with fail
    refine (frame_ok _ F _ p F.length _ H5.out.1 (hT2.out.1.keep0 H5.out.2) HF.out).mono ?_
    rintro e w6 ⟨v6, rfl, ho6, hg6, _⟩
    have H6 : Hid (Rd w6 v6 p ∧ w.grownBy w6 none) := ⟨ho6.rd, gb_none H5.out.2 hg6⟩
    clear ho6 hg6 H5
    go_wp2_with fail
    refine (same_any _ _ p p _ H6.out.1 (hu2.out.keep H6.out.2)).mono ?_
    rintro e w7 ⟨he, hg7⟩
    rw [decide_eq_true rfl] at he
    subst he
    have H7 : Hid (w.grownBy w7 none) := gb_none H6.out.2 hg7
    clear hg7 H6 HF
    have hcv := run_strU (hu2.out.keep H7.out)
    rw [hst] at hcv
    go_wp2_with fail
    refine (HPT.out _ (hv2.out.keep H7.out)).mono ?_
    rintro e w8 ⟨v8, rfl, ho8, hg8⟩
    have H8 : Hid (Rd w8 v8 D ∧ w.grownBy w8 none) := ⟨ho8.rd, gb_none H7.out hg8⟩
    clear ho8 hg8 H7
    go_wp2_with fail
    refine (HTX.out _ _ H8.out.1 (hT2.out.2.keep H8.out.2)).mono ?_
    rintro e w9 ⟨rfl, hg9⟩
    have H9a : Hid (w.grownBy w9 none) := gb_none H8.out.2 hg9
    clear hg9 H8
    go_wp2_with fail
    refine (HU8.out _).mono ?_
    rintro e w9 ⟨rfl, hg9⟩
    have H9 : Hid (w.grownBy w9 none) := gb_none H9a.out hg9
    clear hg9 H9a
    rcases hc with ⟨rfl, rfl, rfl, hNl⟩ | ⟨rfl, rfl⟩
    · have hstq : (t1.toList == t1.toList) = true := by simp
      by_cases hea1 : (uSpec l a).2.2 = 0
      · obtain ⟨na1, ka1, husa1, hna1, ha0a1, haka1, hkla1⟩ := uSpec_ok hea1
        obtain ⟨ana1, rfl⟩ := Int.eq_ofNat_of_zero_le ha0a1
        have hvra1 : ∃ g o, va = some ⟨g, o, none⟩ := by
          obtain ⟨a', c', h1, h2, h3, h4, h5⟩ := hv2.out
          obtain ⟨b', o', h6, -⟩ := h4 0 (by omega)
          simp only [Value.slice.injEq] at h1
          exact ⟨b', o', h1.1.trans h6⟩
        obtain ⟨gva1, ova1, rfl⟩ := hvra1
        have hvca1 : l.length ≤ vc ∧ vc ≤ 9223372036854775807 := by
          obtain ⟨a', c', h1, h2, h3, h4, h5⟩ := hv2.out
          simp only [Value.slice.injEq] at h1
          unfold maxLen at h3
          obtain ⟨-, -, h6⟩ := h1
          omega
        have HUa1 : Hid (Calls Tryd.prog 16 #[.slice (some ⟨gva1, ova1, none⟩) l.length vc, .int .i64 (ana1 : Int)] w9 fun e w' => e = .returned (.tuple #[.int .u64 (I64 (BitVec.ofNat 64 na1)), .int .i64 (ka1 : Int), .int .i64 0]) ∧ w' = w9) := by
          have := u_any _ l (ana1 : Int) w9 (hv2.out.keep H9.out)
          rw [husa1] at this
          exact this
        have HEa1 : Hid (uv (BitVec.ofNat 64 na1).toNat = (l.drop ana1).take (ka1 - ana1)) := by
          have h1 := uSpec_back husa1 ha0a1 hkla1 haka1
          have h2 : (BitVec.ofNat 64 na1).toNat = na1 := by simp; omega
          show uv (BitVec.ofNat 64 na1).toNat = (l.drop ana1).take (ka1 - ana1)
          rw [h2, h1, Int.toNat_natCast]
        have hak2a1 : ana1 < ka1 := by omega
        clear husa1 hea1 ha0a1 haka1
        generalize BitVec.ofNat 64 na1 = ya1 at *
        go_wp2_with fail
        refine HUa1.out.mono ?_
        rintro e w10 ⟨rfl, rfl⟩
        clear HUa1
        have HPUa1 : Hid (∀ W, w.grownBy W none → Calls Tryd.prog 10 #[.slice none 0 0, .int .u64 (I64 ya1)] W fun e w' => ∃ v', e = .returned v' ∧ Hid (Rd w' v' ((l.drop ana1).take (ka1 - ana1)) ∧ w.grownBy w' none)) := fun W h => by
          refine (putU_any _ [] ya1 _ (Rd.nil _) (by simp)).mono ?_
          rintro e w11 ⟨v11, rfl, ho11, hg11⟩
          rw [List.nil_append, HEa1.out] at ho11
          exact ⟨_, rfl, ho11.rd, gb_none h hg11⟩
        have HCuta1 : Hid (∀ W, w.grownBy W none → Rd W (.slice (some ⟨gva1, ova1 + ana1, none⟩) (ka1 - ana1) (vc - ana1)) ((l.drop ana1).take (ka1 - ana1))) := fun W h => (hv2.out.keep h).cut ana1 (ka1 - ana1) (by omega)
        have b1a1 : decide ((ka1 : Int) ≤ (ana1 : Int)) = false := decide_eq_false (by omega)
        have b2a1 : decide ((l.length : Int) < (ka1 : Int)) = false := decide_eq_false (by omega)
        have b5a1 : decide (ka1 ≤ ana1) = false := decide_eq_false (by omega)
        have b6a1 : decide (l.length < ka1) = false := decide_eq_false (by omega)
        have i1a1 : (0 : Int) ≤ (ana1 : Int) := by omega
        have i2a1 : (ana1 : Int) ≤ (ka1 : Int) := by omega
        have i3a1 : (ka1 : Int) ≤ (vc : Int) := by omega
        have b3a1 : ¬ (ka1 : Int) ≤ (ana1 : Int) := by omega
        have b4a1 : ¬ (l.length : Int) < (ka1 : Int) := by omega
        have HKKa1 : Hid (ana1 < ka1 ∧ ka1 ≤ l.length) := ⟨hak2a1, hkla1⟩
        go_wp2_with fail
        go_region_held3 (fun _ => True) (go_keep)
          (first
            | (go_at_call 10; refine (HPUa1.out _ ?_).mono ?_; (first | exact H9.out | exact gb_none H9.out (gb_drew _ _)); rintro e w11 ⟨v11, rfl, H11⟩)
            | (go_at_call 12; refine (same_any _ _ _ _ _ H11.out.1 (HCuta1.out _ H11.out.2)).mono ?_; rintro e w12 ⟨he12, hg12⟩; rw [decide_eq_true rfl] at he12; subst he12))
        have H12 : Hid (w.grownBy w12 none) := gb_none H11.out.2 hg12
        clear hg12 H11 H9 b1a1 b2a1 b3a1 b4a1 b5a1 b6a1 i1a1 i2a1 i3a1 hvca1 hak2a1 hkla1
        go_wp2_with fail
        refine (known_any _ (hT2.out.1.keep0 H12.out)).mono ?_
        rintro e w15 ⟨rfl, hg15⟩
        have H15 : Hid (Below w.heap.size w w15) := gb_below (gb_none H12.out hg15)
        clear hg15 H12
        go_wp2
        go_ret
        exact ⟨rfl, H15.out⟩
      · have HUa1 : Hid (Calls Tryd.prog 16 #[.slice va l.length vc, .int .i64 a] w9 fun e w' => e = .returned (.tuple #[.int .u64 (I64 (BitVec.ofNat 64 (uSpec l a).1)), .int .i64 (uSpec l a).2.1, .int .i64 (uSpec l a).2.2]) ∧ w' = w9) := u_any _ l a w9 (hv2.out.keep H9.out)
        generalize (uSpec l a).1 = r1a1 at *
        generalize (uSpec l a).2.1 = r2a1 at *
        generalize (uSpec l a).2.2 = r3a1 at *
        have he2a1 : (r3a1 == 0) = false := by simpa using hea1
        go_wp2_with fail
        refine HUa1.out.mono ?_
        rintro e w10 ⟨rfl, rfl⟩
        clear HUa1
        go_wp2_with fail
        refine (known_any _ (hT2.out.1.keep0 H9.out)).mono ?_
        rintro e w15 ⟨rfl, hg15⟩
        have H15 : Hid (Below w.heap.size w w15) := gb_below (gb_none H9.out hg15)
        clear hg15 H9
        go_wp2
        go_ret
        exact ⟨rfl, H15.out⟩

    · skip
      by_cases hea2 : (uSpec l a).2.2 = 0
      · obtain ⟨na2, ka2, husa2, hna2, ha0a2, haka2, hkla2⟩ := uSpec_ok hea2
        obtain ⟨ana2, rfl⟩ := Int.eq_ofNat_of_zero_le ha0a2
        have hvra2 : ∃ g o, va = some ⟨g, o, none⟩ := by
          obtain ⟨a', c', h1, h2, h3, h4, h5⟩ := hv2.out
          obtain ⟨b', o', h6, -⟩ := h4 0 (by omega)
          simp only [Value.slice.injEq] at h1
          exact ⟨b', o', h1.1.trans h6⟩
        obtain ⟨gva2, ova2, rfl⟩ := hvra2
        have hvca2 : l.length ≤ vc ∧ vc ≤ 9223372036854775807 := by
          obtain ⟨a', c', h1, h2, h3, h4, h5⟩ := hv2.out
          simp only [Value.slice.injEq] at h1
          unfold maxLen at h3
          obtain ⟨-, -, h6⟩ := h1
          omega
        have HUa2 : Hid (Calls Tryd.prog 16 #[.slice (some ⟨gva2, ova2, none⟩) l.length vc, .int .i64 (ana2 : Int)] w9 fun e w' => e = .returned (.tuple #[.int .u64 (I64 (BitVec.ofNat 64 na2)), .int .i64 (ka2 : Int), .int .i64 0]) ∧ w' = w9) := by
          have := u_any _ l (ana2 : Int) w9 (hv2.out.keep H9.out)
          rw [husa2] at this
          exact this
        have HEa2 : Hid (uv (BitVec.ofNat 64 na2).toNat = (l.drop ana2).take (ka2 - ana2)) := by
          have h1 := uSpec_back husa2 ha0a2 hkla2 haka2
          have h2 : (BitVec.ofNat 64 na2).toNat = na2 := by simp; omega
          show uv (BitVec.ofNat 64 na2).toNat = (l.drop ana2).take (ka2 - ana2)
          rw [h2, h1, Int.toNat_natCast]
        have hak2a2 : ana2 < ka2 := by omega
        clear husa2 hea2 ha0a2 haka2
        generalize BitVec.ofNat 64 na2 = ya2 at *
        go_wp2_with fail
        refine HUa2.out.mono ?_
        rintro e w10 ⟨rfl, rfl⟩
        clear HUa2
        have HPUa2 : Hid (∀ W, w.grownBy W none → Calls Tryd.prog 10 #[.slice none 0 0, .int .u64 (I64 ya2)] W fun e w' => ∃ v', e = .returned v' ∧ Hid (Rd w' v' ((l.drop ana2).take (ka2 - ana2)) ∧ w.grownBy w' none)) := fun W h => by
          refine (putU_any _ [] ya2 _ (Rd.nil _) (by simp)).mono ?_
          rintro e w11 ⟨v11, rfl, ho11, hg11⟩
          rw [List.nil_append, HEa2.out] at ho11
          exact ⟨_, rfl, ho11.rd, gb_none h hg11⟩
        have HCuta2 : Hid (∀ W, w.grownBy W none → Rd W (.slice (some ⟨gva2, ova2 + ana2, none⟩) (ka2 - ana2) (vc - ana2)) ((l.drop ana2).take (ka2 - ana2))) := fun W h => (hv2.out.keep h).cut ana2 (ka2 - ana2) (by omega)
        have b1a2 : decide ((ka2 : Int) ≤ (ana2 : Int)) = false := decide_eq_false (by omega)
        have b2a2 : decide ((l.length : Int) < (ka2 : Int)) = false := decide_eq_false (by omega)
        have b5a2 : decide (ka2 ≤ ana2) = false := decide_eq_false (by omega)
        have b6a2 : decide (l.length < ka2) = false := decide_eq_false (by omega)
        have i1a2 : (0 : Int) ≤ (ana2 : Int) := by omega
        have i2a2 : (ana2 : Int) ≤ (ka2 : Int) := by omega
        have i3a2 : (ka2 : Int) ≤ (vc : Int) := by omega
        have b3a2 : ¬ (ka2 : Int) ≤ (ana2 : Int) := by omega
        have b4a2 : ¬ (l.length : Int) < (ka2 : Int) := by omega
        have HKKa2 : Hid (ana2 < ka2 ∧ ka2 ≤ l.length) := ⟨hak2a2, hkla2⟩
        go_wp2_with fail
        go_region_held3 (fun _ => True) (go_keep)
          (first
            | (go_at_call 10; refine (HPUa2.out _ ?_).mono ?_; (first | exact H9.out | exact gb_none H9.out (gb_drew _ _)); rintro e w11 ⟨v11, rfl, H11⟩)
            | (go_at_call 12; refine (same_any _ _ _ _ _ H11.out.1 (HCuta2.out _ H11.out.2)).mono ?_; rintro e w12 ⟨he12, hg12⟩; rw [decide_eq_true rfl] at he12; subst he12))
        have H12 : Hid (w.grownBy w12 none) := gb_none H11.out.2 hg12
        clear hg12 H11 H9 b1a2 b2a2 b3a2 b4a2 b5a2 b6a2 i1a2 i2a2 i3a2 hvca2 hak2a2 hkla2
        go_wp2_with fail
        refine (known_any _ (hT2.out.1.keep0 H12.out)).mono ?_
        rintro e w15 ⟨rfl, hg15⟩
        have H15 : Hid (Below w.heap.size w w15) := gb_below (gb_none H12.out hg15)
        clear hg15 H12
        go_wp2
        go_ret
        exact ⟨rfl, H15.out⟩
      · have HUa2 : Hid (Calls Tryd.prog 16 #[.slice va l.length vc, .int .i64 a] w9 fun e w' => e = .returned (.tuple #[.int .u64 (I64 (BitVec.ofNat 64 (uSpec l a).1)), .int .i64 (uSpec l a).2.1, .int .i64 (uSpec l a).2.2]) ∧ w' = w9) := u_any _ l a w9 (hv2.out.keep H9.out)
        generalize (uSpec l a).1 = r1a2 at *
        generalize (uSpec l a).2.1 = r2a2 at *
        generalize (uSpec l a).2.2 = r3a2 at *
        have he2a2 : (r3a2 == 0) = false := by simpa using hea2
        go_wp2_with fail
        refine HUa2.out.mono ?_
        rintro e w10 ⟨rfl, rfl⟩
        clear HUa2
        go_wp2_with fail
        refine (known_any _ (hT2.out.1.keep0 H9.out)).mono ?_
        rintro e w15 ⟨rfl, hg15⟩
        have H15 : Hid (Below w.heap.size w w15) := gb_below (gb_none H9.out hg15)
        clear hg15 H9
        go_wp2
        go_ret
        exact ⟨rfl, H15.out⟩


  · refine (putFrame_big _ _ l p _ (hv2.out.keep H3.out.2) (hu2.out.keep H3.out.2) (by omega)).mono ?_
    rintro e w7 ⟨rfl, rfl⟩
    have H7 : Hid (w.grownBy w7 none) := H3.out.2
    clear H3
    have hcv := run_strU (hu2.out.keep H7.out)
    rw [hst] at hcv
    go_wp2_with fail
    refine (HPT.out _ (hv2.out.keep H7.out)).mono ?_
    rintro e w8 ⟨v8, rfl, ho8, hg8⟩
    have H8 : Hid (Rd w8 v8 D ∧ w.grownBy w8 none) := ⟨ho8.rd, gb_none H7.out hg8⟩
    clear ho8 hg8 H7
    go_wp2_with fail
    refine (HTX.out _ _ H8.out.1 (hT2.out.2.keep H8.out.2)).mono ?_
    rintro e w9 ⟨rfl, hg9⟩
    have H9a : Hid (w.grownBy w9 none) := gb_none H8.out.2 hg9
    clear hg9 H8
    go_wp2_with fail
    refine (HU8.out _).mono ?_
    rintro e w9 ⟨rfl, hg9⟩
    have H9 : Hid (w.grownBy w9 none) := gb_none H9a.out hg9
    clear hg9 H9a
    rcases hc with ⟨rfl, rfl, rfl, hNl⟩ | ⟨rfl, rfl⟩
    · have hstq : (t1.toList == t1.toList) = true := by simp
      by_cases heb1 : (uSpec l a).2.2 = 0
      · obtain ⟨nb1, kb1, husb1, hnb1, ha0b1, hakb1, hklb1⟩ := uSpec_ok heb1
        obtain ⟨anb1, rfl⟩ := Int.eq_ofNat_of_zero_le ha0b1
        have hvrb1 : ∃ g o, va = some ⟨g, o, none⟩ := by
          obtain ⟨a', c', h1, h2, h3, h4, h5⟩ := hv2.out
          obtain ⟨b', o', h6, -⟩ := h4 0 (by omega)
          simp only [Value.slice.injEq] at h1
          exact ⟨b', o', h1.1.trans h6⟩
        obtain ⟨gvb1, ovb1, rfl⟩ := hvrb1
        have hvcb1 : l.length ≤ vc ∧ vc ≤ 9223372036854775807 := by
          obtain ⟨a', c', h1, h2, h3, h4, h5⟩ := hv2.out
          simp only [Value.slice.injEq] at h1
          unfold maxLen at h3
          obtain ⟨-, -, h6⟩ := h1
          omega
        have HUb1 : Hid (Calls Tryd.prog 16 #[.slice (some ⟨gvb1, ovb1, none⟩) l.length vc, .int .i64 (anb1 : Int)] w9 fun e w' => e = .returned (.tuple #[.int .u64 (I64 (BitVec.ofNat 64 nb1)), .int .i64 (kb1 : Int), .int .i64 0]) ∧ w' = w9) := by
          have := u_any _ l (anb1 : Int) w9 (hv2.out.keep H9.out)
          rw [husb1] at this
          exact this
        have HEb1 : Hid (uv (BitVec.ofNat 64 nb1).toNat = (l.drop anb1).take (kb1 - anb1)) := by
          have h1 := uSpec_back husb1 ha0b1 hklb1 hakb1
          have h2 : (BitVec.ofNat 64 nb1).toNat = nb1 := by simp; omega
          show uv (BitVec.ofNat 64 nb1).toNat = (l.drop anb1).take (kb1 - anb1)
          rw [h2, h1, Int.toNat_natCast]
        have hak2b1 : anb1 < kb1 := by omega
        clear husb1 heb1 ha0b1 hakb1
        generalize BitVec.ofNat 64 nb1 = yb1 at *
        go_wp2_with fail
        refine HUb1.out.mono ?_
        rintro e w10 ⟨rfl, rfl⟩
        clear HUb1
        have HPUb1 : Hid (∀ W, w.grownBy W none → Calls Tryd.prog 10 #[.slice none 0 0, .int .u64 (I64 yb1)] W fun e w' => ∃ v', e = .returned v' ∧ Hid (Rd w' v' ((l.drop anb1).take (kb1 - anb1)) ∧ w.grownBy w' none)) := fun W h => by
          refine (putU_any _ [] yb1 _ (Rd.nil _) (by simp)).mono ?_
          rintro e w11 ⟨v11, rfl, ho11, hg11⟩
          rw [List.nil_append, HEb1.out] at ho11
          exact ⟨_, rfl, ho11.rd, gb_none h hg11⟩
        have HCutb1 : Hid (∀ W, w.grownBy W none → Rd W (.slice (some ⟨gvb1, ovb1 + anb1, none⟩) (kb1 - anb1) (vc - anb1)) ((l.drop anb1).take (kb1 - anb1))) := fun W h => (hv2.out.keep h).cut anb1 (kb1 - anb1) (by omega)
        have b1b1 : decide ((kb1 : Int) ≤ (anb1 : Int)) = false := decide_eq_false (by omega)
        have b2b1 : decide ((l.length : Int) < (kb1 : Int)) = false := decide_eq_false (by omega)
        have b5b1 : decide (kb1 ≤ anb1) = false := decide_eq_false (by omega)
        have b6b1 : decide (l.length < kb1) = false := decide_eq_false (by omega)
        have i1b1 : (0 : Int) ≤ (anb1 : Int) := by omega
        have i2b1 : (anb1 : Int) ≤ (kb1 : Int) := by omega
        have i3b1 : (kb1 : Int) ≤ (vc : Int) := by omega
        have b3b1 : ¬ (kb1 : Int) ≤ (anb1 : Int) := by omega
        have b4b1 : ¬ (l.length : Int) < (kb1 : Int) := by omega
        have HKKb1 : Hid (anb1 < kb1 ∧ kb1 ≤ l.length) := ⟨hak2b1, hklb1⟩
        go_wp2_with fail
        go_region_held3 (fun _ => True) (go_keep)
          (first
            | (go_at_call 10; refine (HPUb1.out _ ?_).mono ?_; (first | exact H9.out | exact gb_none H9.out (gb_drew _ _)); rintro e w11 ⟨v11, rfl, H11⟩)
            | (go_at_call 12; refine (same_any _ _ _ _ _ H11.out.1 (HCutb1.out _ H11.out.2)).mono ?_; rintro e w12 ⟨he12, hg12⟩; rw [decide_eq_true rfl] at he12; subst he12))
        have H12 : Hid (w.grownBy w12 none) := gb_none H11.out.2 hg12
        clear hg12 H11 H9 b1b1 b2b1 b3b1 b4b1 b5b1 b6b1 i1b1 i2b1 i3b1 hvcb1 hak2b1 hklb1
        go_wp2_with fail
        refine (known_any _ (hT2.out.1.keep0 H12.out)).mono ?_
        rintro e w15 ⟨rfl, hg15⟩
        have H15 : Hid (Below w.heap.size w w15) := gb_below (gb_none H12.out hg15)
        clear hg15 H12
        go_wp2
        go_ret
        exact ⟨rfl, H15.out⟩
      · have HUb1 : Hid (Calls Tryd.prog 16 #[.slice va l.length vc, .int .i64 a] w9 fun e w' => e = .returned (.tuple #[.int .u64 (I64 (BitVec.ofNat 64 (uSpec l a).1)), .int .i64 (uSpec l a).2.1, .int .i64 (uSpec l a).2.2]) ∧ w' = w9) := u_any _ l a w9 (hv2.out.keep H9.out)
        generalize (uSpec l a).1 = r1b1 at *
        generalize (uSpec l a).2.1 = r2b1 at *
        generalize (uSpec l a).2.2 = r3b1 at *
        have he2b1 : (r3b1 == 0) = false := by simpa using heb1
        go_wp2_with fail
        refine HUb1.out.mono ?_
        rintro e w10 ⟨rfl, rfl⟩
        clear HUb1
        go_wp2_with fail
        refine (known_any _ (hT2.out.1.keep0 H9.out)).mono ?_
        rintro e w15 ⟨rfl, hg15⟩
        have H15 : Hid (Below w.heap.size w w15) := gb_below (gb_none H9.out hg15)
        clear hg15 H9
        go_wp2
        go_ret
        exact ⟨rfl, H15.out⟩

    · skip
      by_cases heb2 : (uSpec l a).2.2 = 0
      · obtain ⟨nb2, kb2, husb2, hnb2, ha0b2, hakb2, hklb2⟩ := uSpec_ok heb2
        obtain ⟨anb2, rfl⟩ := Int.eq_ofNat_of_zero_le ha0b2
        have hvrb2 : ∃ g o, va = some ⟨g, o, none⟩ := by
          obtain ⟨a', c', h1, h2, h3, h4, h5⟩ := hv2.out
          obtain ⟨b', o', h6, -⟩ := h4 0 (by omega)
          simp only [Value.slice.injEq] at h1
          exact ⟨b', o', h1.1.trans h6⟩
        obtain ⟨gvb2, ovb2, rfl⟩ := hvrb2
        have hvcb2 : l.length ≤ vc ∧ vc ≤ 9223372036854775807 := by
          obtain ⟨a', c', h1, h2, h3, h4, h5⟩ := hv2.out
          simp only [Value.slice.injEq] at h1
          unfold maxLen at h3
          obtain ⟨-, -, h6⟩ := h1
          omega
        have HUb2 : Hid (Calls Tryd.prog 16 #[.slice (some ⟨gvb2, ovb2, none⟩) l.length vc, .int .i64 (anb2 : Int)] w9 fun e w' => e = .returned (.tuple #[.int .u64 (I64 (BitVec.ofNat 64 nb2)), .int .i64 (kb2 : Int), .int .i64 0]) ∧ w' = w9) := by
          have := u_any _ l (anb2 : Int) w9 (hv2.out.keep H9.out)
          rw [husb2] at this
          exact this
        have HEb2 : Hid (uv (BitVec.ofNat 64 nb2).toNat = (l.drop anb2).take (kb2 - anb2)) := by
          have h1 := uSpec_back husb2 ha0b2 hklb2 hakb2
          have h2 : (BitVec.ofNat 64 nb2).toNat = nb2 := by simp; omega
          show uv (BitVec.ofNat 64 nb2).toNat = (l.drop anb2).take (kb2 - anb2)
          rw [h2, h1, Int.toNat_natCast]
        have hak2b2 : anb2 < kb2 := by omega
        clear husb2 heb2 ha0b2 hakb2
        generalize BitVec.ofNat 64 nb2 = yb2 at *
        go_wp2_with fail
        refine HUb2.out.mono ?_
        rintro e w10 ⟨rfl, rfl⟩
        clear HUb2
        have HPUb2 : Hid (∀ W, w.grownBy W none → Calls Tryd.prog 10 #[.slice none 0 0, .int .u64 (I64 yb2)] W fun e w' => ∃ v', e = .returned v' ∧ Hid (Rd w' v' ((l.drop anb2).take (kb2 - anb2)) ∧ w.grownBy w' none)) := fun W h => by
          refine (putU_any _ [] yb2 _ (Rd.nil _) (by simp)).mono ?_
          rintro e w11 ⟨v11, rfl, ho11, hg11⟩
          rw [List.nil_append, HEb2.out] at ho11
          exact ⟨_, rfl, ho11.rd, gb_none h hg11⟩
        have HCutb2 : Hid (∀ W, w.grownBy W none → Rd W (.slice (some ⟨gvb2, ovb2 + anb2, none⟩) (kb2 - anb2) (vc - anb2)) ((l.drop anb2).take (kb2 - anb2))) := fun W h => (hv2.out.keep h).cut anb2 (kb2 - anb2) (by omega)
        have b1b2 : decide ((kb2 : Int) ≤ (anb2 : Int)) = false := decide_eq_false (by omega)
        have b2b2 : decide ((l.length : Int) < (kb2 : Int)) = false := decide_eq_false (by omega)
        have b5b2 : decide (kb2 ≤ anb2) = false := decide_eq_false (by omega)
        have b6b2 : decide (l.length < kb2) = false := decide_eq_false (by omega)
        have i1b2 : (0 : Int) ≤ (anb2 : Int) := by omega
        have i2b2 : (anb2 : Int) ≤ (kb2 : Int) := by omega
        have i3b2 : (kb2 : Int) ≤ (vc : Int) := by omega
        have b3b2 : ¬ (kb2 : Int) ≤ (anb2 : Int) := by omega
        have b4b2 : ¬ (l.length : Int) < (kb2 : Int) := by omega
        have HKKb2 : Hid (anb2 < kb2 ∧ kb2 ≤ l.length) := ⟨hak2b2, hklb2⟩
        go_wp2_with fail
        go_region_held3 (fun _ => True) (go_keep)
          (first
            | (go_at_call 10; refine (HPUb2.out _ ?_).mono ?_; (first | exact H9.out | exact gb_none H9.out (gb_drew _ _)); rintro e w11 ⟨v11, rfl, H11⟩)
            | (go_at_call 12; refine (same_any _ _ _ _ _ H11.out.1 (HCutb2.out _ H11.out.2)).mono ?_; rintro e w12 ⟨he12, hg12⟩; rw [decide_eq_true rfl] at he12; subst he12))
        have H12 : Hid (w.grownBy w12 none) := gb_none H11.out.2 hg12
        clear hg12 H11 H9 b1b2 b2b2 b3b2 b4b2 b5b2 b6b2 i1b2 i2b2 i3b2 hvcb2 hak2b2 hklb2
        go_wp2_with fail
        refine (known_any _ (hT2.out.1.keep0 H12.out)).mono ?_
        rintro e w15 ⟨rfl, hg15⟩
        have H15 : Hid (Below w.heap.size w w15) := gb_below (gb_none H12.out hg15)
        clear hg15 H12
        go_wp2
        go_ret
        exact ⟨rfl, H15.out⟩
      · have HUb2 : Hid (Calls Tryd.prog 16 #[.slice va l.length vc, .int .i64 a] w9 fun e w' => e = .returned (.tuple #[.int .u64 (I64 (BitVec.ofNat 64 (uSpec l a).1)), .int .i64 (uSpec l a).2.1, .int .i64 (uSpec l a).2.2]) ∧ w' = w9) := u_any _ l a w9 (hv2.out.keep H9.out)
        generalize (uSpec l a).1 = r1b2 at *
        generalize (uSpec l a).2.1 = r2b2 at *
        generalize (uSpec l a).2.2 = r3b2 at *
        have he2b2 : (r3b2 == 0) = false := by simpa using heb2
        go_wp2_with fail
        refine HUb2.out.mono ?_
        rintro e w10 ⟨rfl, rfl⟩
        clear HUb2
        go_wp2_with fail
        refine (known_any _ (hT2.out.1.keep0 H9.out)).mono ?_
        rintro e w15 ⟨rfl, hg15⟩
        have H15 : Hid (Below w.heap.size w w15) := gb_below (gb_none H9.out hg15)
        clear hg15 H9
        go_wp2
        go_ret
        exact ⟨rfl, H15.out⟩



set_option maxHeartbeats 1600000 in
theorem back_walk (v u : Value) (l p : List UInt8) (x : BitVec 64) (m a : Int) (w : World) (hv : Rd w v l) (hu : Rd w u p) (hT : TabIn w) (hU : U8Tab w) (hl : l.length ≤ 140737488351232) (hp : p.length ≤ 140737488351232) (hm1 : -9223372036854775808 ≤ m) (hm2 : m ≤ 9223372036854775807) (ha1 : -9223372036854775808 ≤ a) (ha2 : a ≤ 9223372036854775807) :
    Calls Tryd.prog 7 #[v, .int .u64 (I64 x), .int .i64 m, u, .int .i64 a] w fun e w' => e = .returned (.bool true) ∧ Below w.heap.size w w' := by
  obtain ⟨D, hD⟩ : ∃ D, l ++ uv p.length ++ p = D := ⟨_, rfl⟩
  have HPT : Hid (∀ W, Rd W v l → Calls Tryd.prog 22 #[v, .string (ByteArray.mk ⟨p⟩)] W fun e w' => ∃ v', e = .returned v' ∧ Own w' W.heap.size v' D ∧ W.grownBy w' none) := fun W h => by rw [← hD]; exact putText_full v l p W h (by omega)
  have hDl : D.length ≤ 1000000000000000000 := by
    have hul := uv_len64 (BitVec.ofNat 64 p.length)
    rw [ofNat_len (by omega)] at hul
    rw [← hD, List.length_append, List.length_append]
    omega
  have HTX0 : ∀ W y, Rd W y D → U8Tab W → Calls Tryd.prog 24 #[y, .int .i64 (l.length : Int), .int .i64 (p.length : Int)] W fun e w' => e = .returned (tupT (if validD p = false then ([], 0, 12) else (p, ((l.length + (uv p.length).length : Nat) : Int) + (p.length : Int), 0))) ∧ W.grownBy w' none := fun W y h h2 => by
    have := text_any y D (l.length : Int) (p.length : Int) W h h2 hDl (by omega)
    rw [← hD, tSpec_back l p (by omega)] at this
    exact this
  have HU8 : Hid (∀ W, Calls Tryd.prog 37 #[.string (ByteArray.mk ⟨p⟩)] W fun e w' => e = .returned (.bool (validD p)) ∧ W.grownBy w' none) := fun W => utf8_walk W p (by omega)
  by_cases hval : validD p = false
  · refine back_core v u l p D _ (ByteArray.mk ⟨[]⟩) false 0 12 x m a w hv hu hT hU hl hp hm1 hm2 ha1 ha2 rfl HPT (fun W y h h2 => ?_) (by rw [← hval]; exact HU8) (.inr ⟨rfl, rfl⟩)
    have := HTX0 W y h h2
    rw [if_pos hval] at this
    exact this
  · have hup := uv_pos p.length
    have hval2 : validD p = true := by simpa using hval
    refine back_core v u l p D _ (ByteArray.mk ⟨p⟩) true (((l.length + (uv p.length).length : Nat) : Int) + (p.length : Int)) 0 x m a w hv hu hT hU hl hp hm1 hm2 ha1 ha2 rfl HPT (fun W y h h2 => ?_) (by rw [← hval2]; exact HU8) (.inl ⟨rfl, rfl, rfl, ?_⟩)
    · have := HTX0 W y h h2
      rw [if_neg hval] at this
      exact this
    · omega
end Go.Proofs.YtfggcmkoihemoaaDoor
