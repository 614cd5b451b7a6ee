/-
  The text at a place: the program's Text: the walk.
-/
import Derived.Test.YtfggcmkoihemoaaDoorU8Text
import Derived.Test.YtfggcmkoihemoaaDoorU8Valid
namespace Go.Proofs.YtfggcmkoihemoaaDoor
open Go.RowKit Go.Lib

theorem valid_rd {w : World} {g o n c : Nat} {q : List UInt8} (h : Rd w (.slice (some ⟨g, o, none⟩) n c) q) (hT : U8Tab w) :
    Calls Tryd.prog 46 #[.slice (some ⟨g, o, none⟩) n c] w fun e w' => e = .returned (.bool (validD q)) ∧ w.grownBy w' none := by
  obtain ⟨a, c', hv, h1, h2, h3, -⟩ := h
  simp only [Value.slice.injEq] at hv
  obtain ⟨rfl, rfl, rfl⟩ := hv
  refine valid_walk w g o c q (fun j hj => ?_) h1 h2 hT
  obtain ⟨b, o', hb, hc⟩ := h3 j hj
  cases hb
  exact hc

set_option maxRecDepth 8000 in
set_option maxHeartbeats 3200000 in
theorem text_any (v : Value) (l : List UInt8) (p m : Int) (w : World) (hv : Rd w v l) (hT : U8Tab w) (hl : l.length ≤ 1000000000000000000) (hm : m ≤ 9223372036854775807) :
    Calls Tryd.prog 24 #[v, .int .i64 p, .int .i64 m] w fun e w' => e = .returned (tupT (tSpec l p m)) ∧ w.grownBy w' none := by
  have HU := u_any v l p w hv
  have HV : Hid (Rd w v l) := hv
  have HT : Hid (U8Tab w) := hT
  clear hT
  obtain ⟨a, c, rfl, hn, hcm, hb, hz⟩ := hv
  unfold maxLen at hcm
  have hb2 : Hid (RdA w a l) := hb
  clear hb
  have hlen : (l.length : Int) ≤ 1000000000000000000 := by omega
  by_cases hbad : p < 0 ∨ (l.length : Int) < p ∨ m < 0
  · have HS : Hid (tSpec l p m = ([], 0, 1)) := by show tSpec l p m = _; rw [tSpec, if_pos hbad]
    rw [HS.out]
    clear HU
    rcases hbad with h | h | h
    · go_enter Tryd.func24, Tryd.ntmps24
      go_wp2
      go_ret3
      exact ⟨rfl, gb_refl _ _⟩
    · have h' : ¬ p < 0 := by omega
      go_enter Tryd.func24, Tryd.ntmps24
      go_wp2
      go_ret3
      exact ⟨rfl, gb_refl _ _⟩
    · by_cases h1 : p < 0
      · go_enter Tryd.func24, Tryd.ntmps24
        go_wp2
        go_ret3
        exact ⟨rfl, gb_refl _ _⟩
      · by_cases h2 : (l.length : Int) < p
        · go_enter Tryd.func24, Tryd.ntmps24
          go_wp2
          go_ret3
          exact ⟨rfl, gb_refl _ _⟩
        · go_enter Tryd.func24, Tryd.ntmps24
          go_wp2
          go_ret3
          exact ⟨rfl, gb_refl _ _⟩
  · have h1 : ¬ p < 0 := by omega
    have h2 : ¬ (l.length : Int) < p := by omega
    have h3 : ¬ m < 0 := by omega
    by_cases he : (uSpec l p).2.2 = 0
    · obtain ⟨n, k, hu, hn64, hk0, hk1, hk2⟩ := uSpec_ok he
      rw [hu] at HU
      unfold tup3 at HU
      simp only [] at HU
      rw [I64_of hn64] at HU
      have HC : Hid (Calls Tryd.prog 16 #[.slice a l.length c, .int .i64 p] w fun x w' => x = .returned (.tuple #[.int .u64 (n : Int), .int .i64 (k : Int), .int .i64 0]) ∧ w' = w) := HU
      have HS : Hid (tSpec l p m = if m < (n : Int) then ([], 0, 4) else if (l.length : Int) - (k : Int) < (n : Int) then ([], 0, 9) else if validD ((l.drop k).take n) = false then ([], 0, 12) else ((l.drop k).take n, (k : Int) + (n : Int), 0)) := by
        show tSpec l p m = _
        rw [tSpec, if_neg hbad, if_neg (by rw [he]; simp), hu]
        simp
      clear HU hu he
      have hm64 : IntKind.u64.wrap m = m := by
        unfold IntKind.wrap
        simp [IntKind.signed, IntKind.bits]
        omega
      by_cases g1 : m < (n : Int)
      · rw [HS.out, if_pos g1]
        clear HS
        go_enter Tryd.func24, Tryd.ntmps24
        go_wp2_with fail
        refine HC.out.mono ?_
        rintro x w1 ⟨rfl, rfl⟩
        go_wp2
        go_ret3
        exact ⟨rfl, gb_refl _ _⟩
      · by_cases g2 : (l.length : Int) - (k : Int) < (n : Int)
        · rw [HS.out, if_neg g1, if_pos g2]
          clear HS
          have hw1 : IntKind.u64.wrap ((l.length : Int) - (k : Int)) = (l.length : Int) - (k : Int) := by
            unfold IntKind.wrap
            simp [IntKind.signed, IntKind.bits]
            omega
          go_enter Tryd.func24, Tryd.ntmps24
          go_wp2_with fail
          refine HC.out.mono ?_
          rintro x w1 ⟨rfl, rfl⟩
          go_wp2
          go_ret3
          exact ⟨rfl, gb_refl _ _⟩
        · rw [HS.out, if_neg g1, if_neg g2]
          clear HS
          have hw1 : IntKind.u64.wrap ((l.length : Int) - (k : Int)) = (l.length : Int) - (k : Int) := by
            unfold IntKind.wrap
            simp [IntKind.signed, IntKind.bits]
            omega
          obtain ⟨g, o, rfl, -⟩ := hb2.out 0 (by omega)
          obtain ⟨q, hq⟩ : ∃ q, (l.drop k).take n = q := ⟨_, rfl⟩
          have hql : q.length = n := by rw [← hq]; exact cut_len l k n (by omega)
          rw [hq]
          have HUt : Hid (∀ v, (∃ g o c, v = .slice (some ⟨g, o, none⟩) n c) → Rd w v q → Calls Tryd.prog 46 #[v] w fun e w' => e = .returned (.bool (validD q)) ∧ w.grownBy w' none) := fun v hv hr => by
            obtain ⟨g, o, c, rfl⟩ := hv
            exact valid_rd hr HT.out
          have HQ : Hid (∀ h : k < c, Rd w (.slice (some ⟨g, o + k, none⟩) n (c - k)) q) := fun h => by rw [← hq]; exact HV.out.cut k n (by omega)
          have HQ0 : Hid (∀ h : c ≤ k, Rd w (.slice (some ⟨g, o, none⟩) n 0) q) := fun h => by rw [← hq]; exact HV.out.cut0 k n h (by omega)
          obtain ⟨V, hV⟩ : ∃ V, validD q = V := ⟨_, rfl⟩
          rw [hV] at HUt ⊢
          clear hq hV
          have hnl : (n : Int) ≤ (l.length : Int) := by omega
          cases V with
          | false =>
            by_cases hkc : k < c
            · simp only [if_true]
              have HR : Hid (Rd w _ q) := HQ.out hkc
              go_enter Tryd.func24, Tryd.ntmps24
              go_wp2_with fail
              refine HC.out.mono ?_
              rintro x w1 ⟨rfl, rfl⟩
              go_wp2_with fail
              refine (HUt.out _ ⟨_, _, _, rfl⟩ HR.out).mono ?_
              rintro x w2 ⟨rfl, hg2⟩
              have H2 := hid_mkU hg2
              clear hg2
              go_wp2
              go_ret3
              exact ⟨rfl, H2.out⟩
            · simp only [if_true]
              have HR : Hid (Rd w _ q) := HQ0.out (by omega)
              go_enter Tryd.func24, Tryd.ntmps24
              go_wp2_with fail
              refine HC.out.mono ?_
              rintro x w1 ⟨rfl, rfl⟩
              go_wp2_with fail
              refine (HUt.out _ ⟨_, _, _, rfl⟩ HR.out).mono ?_
              rintro x w2 ⟨rfl, hg2⟩
              have H2 := hid_mkU hg2
              clear hg2
              go_wp2
              go_ret3
              exact ⟨rfl, H2.out⟩
          | true =>
            by_cases hkc : k < c
            · simp only [Bool.true_eq_false, if_false]
              have HR : Hid (Rd w _ q) := HQ.out hkc
              go_enter Tryd.func24, Tryd.ntmps24
              go_wp2_with fail
              refine HC.out.mono ?_
              rintro x w1 ⟨rfl, rfl⟩
              go_wp2_with fail
              refine (HUt.out _ ⟨_, _, _, rfl⟩ HR.out).mono ?_
              rintro x w2 ⟨rfl, hg2⟩
              have H2 := hid_mkU hg2
              have hcv := run_strU (HR.out.keep hg2)
              clear hg2
              go_wp2
              go_ret3
              exact ⟨rfl, H2.out⟩
            · simp only [Bool.true_eq_false, if_false]
              have HR : Hid (Rd w _ q) := HQ0.out (by omega)
              go_enter Tryd.func24, Tryd.ntmps24
              go_wp2_with fail
              refine HC.out.mono ?_
              rintro x w1 ⟨rfl, rfl⟩
              go_wp2_with fail
              refine (HUt.out _ ⟨_, _, _, rfl⟩ HR.out).mono ?_
              rintro x w2 ⟨rfl, hg2⟩
              have H2 := hid_mkU hg2
              have hcv := run_strU (HR.out.keep hg2)
              clear hg2
              go_wp2
              go_ret3
              exact ⟨rfl, H2.out⟩
    · have HS : Hid (tSpec l p m = ([], 0, (uSpec l p).2.2)) := by show tSpec l p m = _; rw [tSpec, if_neg hbad, if_pos he]
      rw [HS.out]
      have hne : ((uSpec l p).2.2 != 0) = true := by rw [bne_iff_ne]; exact he
      unfold tup3 at HU
      clear HS
      generalize (uSpec l p).2.2 = e at *
      generalize (uSpec l p).2.1 = r at *
      generalize (uSpec l p).1 = q at *
      have HC : Hid (Calls Tryd.prog 16 #[.slice a l.length c, .int .i64 p] w fun x w' => x = .returned (.tuple #[.int .u64 (I64 (BitVec.ofNat 64 q)), .int .i64 r, .int .i64 e]) ∧ w' = w) := HU
      clear HU he
      go_enter Tryd.func24, Tryd.ntmps24
      go_wp2_with fail
      refine HC.out.mono ?_
      rintro x w1 ⟨rfl, rfl⟩
      go_wp2
      go_ret3
      exact ⟨rfl, gb_refl _ _⟩
end Go.Proofs.YtfggcmkoihemoaaDoor
