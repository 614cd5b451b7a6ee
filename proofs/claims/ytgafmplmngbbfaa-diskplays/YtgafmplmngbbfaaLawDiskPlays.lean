/-
  DiskPlays: any calls one after another, and a copy that goes on by itself: the walk.
-/
import Derived.Test.YtgafmplmngbbfaaDPlays
namespace Go.Proofs.Ytgafmplmngbbfaa
open Go.RowKit Go.Maps Go.WideMaps Go.Sort

set_option maxRecDepth 8000 in
set_option maxHeartbeats 6400000 in
theorem plays_walk (w : World) (v : Value) (os : List Opm) (hv : OpsIn w v os) (cut : Int) :
    Calls Try.prog 3 #[v, .int .i64 cut] w fun e w' => e = .returned (.bool true) ∧ Below w.heap.size w w' := by
  have HV := hid_mk' hv
  obtain ⟨a, c, rfl, hm, -⟩ := hv
  have hm2 : (os.length : Int) ≤ 9223372036854775807 := by unfold maxLen at hm; omega
  clear hm
  generalize hL : os.length = L at *
  have HL : Hid (os.length = L) := hL
  clear hL
  go_enter Try.func3, Try.ntmps3
  go_wp2_with fail
  refine (new_ok _).mono ?_
  rintro e w1 ⟨gd, rfl, hd1, hg1⟩
  have H1 : Hid (Duo w (w1.alloc (.cells #[.slice none 0 0] 28)) gd w1.heap.size (fun _ => none) 0) := Duo.new hg1 hd1
  clear hd1 hg1
  generalize hGR : w1.heap.size = GR at *
  generalize hW2 : (w1.alloc (.cells #[.slice none 0 0] 28)) = w2 at *
  have H2 : Hid (∃ M N, Duo w (w2.alloc (.cells #[.slice none 0 0] 28)) gd GR M N) := ⟨_, _, H1.out.keep (World.grownBy_alloc _ _ none)⟩
  go_wp2
  go_loopw [7, 8, 9] (fun vc vw i wr => ∃ k : Nat, k ≤ L ∧ i = .int .i64 (k : Int) ∧ ((vc = .pointer none ∧ (∃ g0, vw = .pointer (some ⟨g0, 0, none⟩)) ∧ (cut < 0 ∨ (k : Int) ≤ cut) ∧ Hid (∃ M N, Duo w wr gd GR M N)) ∨ ∃ gc gw, vc = .pointer (some ⟨gc, 0, none⟩) ∧ vw = .pointer (some ⟨gw, 0, none⟩) ∧ 0 ≤ cut ∧ cut < (k : Int) ∧ Hid (PlayQ w wr gd GR gc gw))) (fun _ _ i _ => L - (intOf i).toNat)
  case atStart =>
    exact ⟨0, by omega, rfl, .inl ⟨rfl, ⟨_, rfl⟩, by omega, H2⟩⟩
  case round =>
    obtain ⟨k, hk, rfl, hcase⟩ := hrel
    by_cases hkl : k < L
    · have hkl2 : (k : Int) < (L : Int) := by omega
      have HG : Hid (w.grownBy wr none) := by
        rcases hcase with ⟨-, -, -, h⟩ | ⟨gc, gw, -, -, -, -, h⟩
        · exact play_gb h.out
        · exact play_gb h.out.duo
      obtain ⟨a0, c0, hv0, -, h3⟩ := HV.out
      simp only [Value.slice.injEq] at hv0
      obtain ⟨rfl, -, -⟩ := hv0
      obtain ⟨b, o, rfl, x0, x1, x2, x3, x4, x5, ho, y0, y1, y2, y3, y4, y5⟩ := h3 k (by rw [HL.out]; exact hkl)
      have HO := hid_mk' ho
      have HY := hid_mk' (And.intro y0 (And.intro y1 (And.intro y2 (And.intro y3 (And.intro y4 y5)))))
      clear h3 ho y0 y1 y2 y3 y4 y5
      rcases hcase with ⟨rfl, ⟨g0, rfl⟩, hcut, HD⟩ | ⟨gc, gw, rfl, rfl, hc0, hc1, HQ⟩
      · by_cases hkc : (k : Int) = cut
        · have hkb : ((k : Int) == cut) = true := by simpa using hkc
          have HC := hid_mk' (play_copy w wr gd GR HD.out)
          have HKC : Hid (0 ≤ cut ∧ cut < ((k + 1 : Nat) : Int)) := ⟨by omega, by omega⟩
          clear hcut HD hkc
          go_wp2_with fail
          refine HC.out.mono ?_
          rintro e w3 ⟨gc, rfl, R3⟩
          go_wp2_with fail
          refine R3.out.mono ?_
          rintro e w4 ⟨gw, rfl, R4⟩
          clear HC R3
          have hG4 := play_gb R4.out.duo
          have z0 := cell_keep HY.out.1 hG4
          have z1 := cell_keep HY.out.2.1 hG4
          have z2 := cell_keep HY.out.2.2.1 hG4
          have z3 := cell_keep HY.out.2.2.2.1 hG4
          have z4 := cell_keep HY.out.2.2.2.2.1 hG4
          have z5 := cell_keep HY.out.2.2.2.2.2 hG4
          have HS := hid_mk' (play_stepB w w4 gd GR gc gw R4.out _ _ HO.out)
          clear hG4 R4 HY HO
          go_wp2_with fail
          refine HS.out.mono ?_
          rintro e w5 ⟨rfl, R5⟩
          clear z0 z1 z2 z3 z4 z5 HS
          have HLi := hid_mk' (play_list w w5 gd GR R5.out.duo)
          go_wp2_with fail
          refine HLi.out.mono ?_
          rintro e w6 ⟨v6, rfl, R6⟩
          go_wp2_with fail
          refine R6.out.mono ?_
          rintro e w7 ⟨v7, rfl, R7⟩
          go_wp2_with fail
          refine R7.out.mono ?_
          rintro e w8 ⟨rfl, R8⟩
          have R9 : Hid (PlayQ w w8 gd GR gc gw) := R5.out.keep R8.out
          clear HLi R6 R7 R5 R8
          go_wp2
          go_roundw
          case rel => exact ⟨k + 1, by omega, by go_num, .inr ⟨gc, gw, rfl, rfl, HKC.out.1, HKC.out.2, R9⟩⟩
          case measure => simp [intOf]; omega

        · have hkb : ((k : Int) == cut) = false := by simpa using hkc
          have z0 := cell_keep HY.out.1 HG.out
          have z1 := cell_keep HY.out.2.1 HG.out
          have z2 := cell_keep HY.out.2.2.1 HG.out
          have z3 := cell_keep HY.out.2.2.2.1 HG.out
          have z4 := cell_keep HY.out.2.2.2.2.1 HG.out
          have z5 := cell_keep HY.out.2.2.2.2.2 HG.out
          have HS := hid_mk' (play_stepA w wr gd GR HD.out _ _ HO.out)
          clear HY HO HD
          go_wp2_with fail
          refine HS.out.mono ?_
          rintro e w5 ⟨rfl, R5⟩
          clear z0 z1 z2 z3 z4 z5 HS
          have HLi := hid_mk' (play_list w w5 gd GR R5.out)
          go_wp2_with fail
          refine HLi.out.mono ?_
          rintro e w6 ⟨v6, rfl, R6⟩
          go_wp2_with fail
          refine R6.out.mono ?_
          rintro e w7 ⟨v7, rfl, R7⟩
          go_wp2_with fail
          refine R7.out.mono ?_
          rintro e w8 ⟨rfl, R8⟩
          have R9 : Hid (∃ M N, Duo w w8 gd GR M N) := play_keep R5.out R8.out
          clear HLi R6 R7 R5 R8
          go_wp2
          go_roundw
          case rel => exact ⟨k + 1, by omega, by go_num, .inl ⟨rfl, ⟨_, rfl⟩, by omega, R9⟩⟩
          case measure => simp [intOf]; omega
      · have hkb : ((k : Int) == cut) = false := by simp; omega
        have z0 := cell_keep HY.out.1 HG.out
        have z1 := cell_keep HY.out.2.1 HG.out
        have z2 := cell_keep HY.out.2.2.1 HG.out
        have z3 := cell_keep HY.out.2.2.2.1 HG.out
        have z4 := cell_keep HY.out.2.2.2.2.1 HG.out
        have z5 := cell_keep HY.out.2.2.2.2.2 HG.out
        have HS := hid_mk' (play_stepB w wr gd GR gc gw HQ.out _ _ HO.out)
        have HKC : Hid (0 ≤ cut ∧ cut < ((k + 1 : Nat) : Int)) := ⟨by omega, by omega⟩
        clear HY HO HQ
        go_wp2_with fail
        refine HS.out.mono ?_
        rintro e w5 ⟨rfl, R5⟩
        clear z0 z1 z2 z3 z4 z5 HS
        have HLi := hid_mk' (play_list w w5 gd GR R5.out.duo)
        go_wp2_with fail
        refine HLi.out.mono ?_
        rintro e w6 ⟨v6, rfl, R6⟩
        go_wp2_with fail
        refine R6.out.mono ?_
        rintro e w7 ⟨v7, rfl, R7⟩
        go_wp2_with fail
        refine R7.out.mono ?_
        rintro e w8 ⟨rfl, R8⟩
        have R9 : Hid (PlayQ w w8 gd GR gc gw) := R5.out.keep R8.out
        clear HLi R6 R7 R5 R8
        go_wp2
        go_roundw
        case rel => exact ⟨k + 1, by omega, by go_num, .inr ⟨gc, gw, rfl, rfl, HKC.out.1, HKC.out.2, R9⟩⟩
        case measure => simp [intOf]; omega

    · have hkl2 : ¬ (k : Int) < (L : Int) := by omega
      have hkL : k = L := by omega
      subst hkL
      rcases hcase with ⟨rfl, ⟨g0, rfl⟩, hcut, HD⟩ | ⟨gc, gw, rfl, rfl, hc0, hc1, HQ⟩
      · have HA := hid_mk' (play_alike w wr gd GR HD.out)
        rcases hcut with hcut | hcut
        · have hq : ¬ (0 : Int) ≤ cut := by omega
          go_wp2_with fail
          refine HA.out.mono ?_
          rintro e w9 ⟨rfl, R9⟩
          go_wp2_with fail
          refine (known_any _).mono ?_
          rintro e w10 ⟨rfl, hg10⟩
          have H10 : Hid (Below w.heap.size w w10) := gb_below (gb_none R9.out hg10)
          clear hg10
          go_wp2
          go_ret
          exact ⟨rfl, H10.out⟩
        · have hq : (0 : Int) ≤ cut := by omega
          have hq2 : ¬ cut < (k : Int) := by omega
          go_wp2_with fail
          refine HA.out.mono ?_
          rintro e w9 ⟨rfl, R9⟩
          go_wp2_with fail
          refine (known_any _).mono ?_
          rintro e w10 ⟨rfl, hg10⟩
          have H10 : Hid (Below w.heap.size w w10) := gb_below (gb_none R9.out hg10)
          clear hg10
          go_wp2
          go_ret
          exact ⟨rfl, H10.out⟩
      · have HA := hid_mk' (play_alikeC w wr gd GR gc gw HQ.out)
        have hcv := conv_const
        go_wp2_with fail
        refine HA.out.mono ?_
        rintro e w5 ⟨rfl, R5⟩
        clear HA HQ
        go_wp2_with fail
        refine (play_append w _ gd GR gc gw (R5.out.keep (World.grownBy_alloc _ _ none)) [111, 116, 104, 101, 114] [120] (by simp) _ (Rd_lit _ [120] 1 rfl (by simp) _ rfl)).mono ?_
        rintro e w6 ⟨E, rfl, R6⟩
        have HB := hid_mk' (play_alike w w6 gd GR R6.out)
        clear R5 R6 hcv
        go_wp2_with fail
        refine HB.out.mono ?_
        rintro e w9 ⟨rfl, R9⟩
        go_wp2_with fail
        refine (known_any _).mono ?_
        rintro e w10 ⟨rfl, hg10⟩
        have H10 : Hid (Below w.heap.size w w10) := gb_below (gb_none R9.out hg10)
        clear hg10
        go_wp2
        go_ret
        exact ⟨rfl, H10.out⟩
end Go.Proofs.Ytgafmplmngbbfaa
