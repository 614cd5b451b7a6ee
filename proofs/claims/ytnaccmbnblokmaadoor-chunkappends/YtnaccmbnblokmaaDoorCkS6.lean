/-
  The document's New, Bytes, Wrong: the walks.
-/
import Derived.Test.YtnaccmbnblokmaaDoorCkS5
namespace Go.Proofs.YtnaccmbnblokmaaDoor
open Go.RowKit

theorem dNew_any (w : World) : Calls Tryd.prog 36 #[] w fun e w' => e = .returned (.pointer (some ⟨w.heap.size, 0, none⟩)) ∧ w' = w.alloc (.cells #[.int .i64 0, .int .i64 0, .int .u64 0, .int .i64 64, .int .i64 0] 92) := by
  go_enter Tryd.func36, Tryd.ntmps36
  go_wp2
  go_ret
  exact ⟨rfl, rfl⟩

set_option maxRecDepth 8000 in
set_option maxHeartbeats 3200000 in
theorem dBytes_any (w : World) (v : Value) (l : List SmpT) (hr : RdP w v l) (hl : okL startP l) :
    Calls Tryd.prog 17 #[v] w fun e w' => ∃ v', e = .returned v' ∧ Own w' w.heap.size v' (ckB l) ∧ w.grownBy w' none := by
  have HR := hidJ (And.intro hr hl)
  obtain ⟨a, c, rfl, hlc, hcm, -⟩ := hr
  have hcm2 : c ≤ 9223372036854775807 := hcm
  have h120 := okL_most hl
  clear hcm hl
  obtain ⟨N, hN⟩ : ∃ N, l.length = N := ⟨_, rfl⟩
  have HN := hidJ hN
  rw [hN] at hlc h120
  rw [hN]
  clear hN
  go_enter Tryd.func17, Tryd.ntmps17
  go_wp2_with fail
  refine (dNew_any _).mono ?_
  rintro e w1 ⟨rfl, hw1⟩
  have H1 : Hid (SdP w w1 w.heap.size (w.heap.size + 1) [] startP) := by
    rw [hw1]
    have hg := alloc_gb w (.cells #[.slice none 0 0, .int .i64 0] 79)
    have hh := Go.heap_alloc_new w (.cells #[.slice none 0 0, .int .i64 0] 79)
    have hsz : (w.alloc (.cells #[.slice none 0 0, .int .i64 0] 79)).heap.size = w.heap.size + 1 := by simp
    generalize w.alloc (.cells #[.slice none 0 0, .int .i64 0] 79) = W at *
    have hg2 := alloc_gb W (.cells #[.int .i64 0, .int .i64 0, .int .u64 0, .int .i64 64, .int .i64 0] 92)
    have hh2 := Go.heap_alloc_new W (.cells #[.int .i64 0, .int .i64 0, .int .u64 0, .int .i64 64, .int .i64 0] 92)
    rw [hsz] at hh2
    refine ⟨0, fun _ => rfl, gb_none hg hg2, Nat.le_refl _, by omega, ⟨.slice none 0 0, ⟨?_, OwnB.nil _⟩, fun k hk => by simp [Value.ownBlock] at hk⟩, hh2⟩
    rw [hg2.block _ (by omega) (by simp)]
    exact hh
  clear hw1
  go_wp2_with fail
  have hsf := store_float
  go_loopw [13] (fun i wr => ∃ z : Nat, z ≤ N ∧ i = .int .i64 z ∧ Hid (SdP w wr w.heap.size (w.heap.size + 1) (encB startP (l.take z)) (stA startP (l.take z)))) (fun i _ => N - (intOf i).toNat)
  case atStart => exact ⟨0, by omega, rfl, H1.out⟩
  case round =>
    obtain ⟨z, hz, rfl, hr⟩ := hrel
    have hgr : w.grownBy wr none := hr.out.choose_spec.2.old
    by_cases hlt : z < N
    · have hzi : (z : Int) < (N : Int) := by omega
      have hzl : z < l.length := by rw [HN.out]; exact hlt
      obtain ⟨a', c', he, -, -, hc⟩ := HR.out.1.keep hgr
      simp only [Value.slice.injEq] at he
      obtain ⟨rfl, -, rfl⟩ := he
      obtain ⟨b, o, rfl, c0, c1⟩ := hc z hzl
      have hok : okL startP (l.take z) ∧ wrongN (stA startP (l.take z)) (l.getD z smZ).1 = 0 ∧ (l.getD z smZ).2 < 18446744073709551616 := by
        have h1 := HR.out.2
        rw [← List.take_append_drop (z + 1) l, take_snocS hzl, okL_app] at h1
        exact okL_snoc.1 h1.1
      have hnz : (stA startP (l.take z)).n = z := by rw [stA_n, List.length_take]; simp [startP]; omega
      have hbl : (encB startP (l.take z)).length ≤ 19200 := by
        have h1 := encB_len startOk hok.1
        rw [List.length_take] at h1
        omega
      have HA : Hid (∀ W, wr.grownBy W none → Calls Tryd.prog 37 #[.pointer (some ⟨w.heap.size + 1, 0, none⟩), .pointer (some ⟨w.heap.size, 0, none⟩), .int .i64 (z : Int), .agg #[.int .i64 (l.getD z smZ).1, .float .f64 (l.getD z smZ).2]] W fun e w' => e = .returned (.tuple #[]) ∧ Hid (SdP w w' w.heap.size (w.heap.size + 1) (encB startP (l.take (z + 1))) (stA startP (l.take (z + 1))))) := fun W hW => by
        obtain ⟨D, hD, hS⟩ := hr.out
        have h1 := dPut_any w W w.heap.size (w.heap.size + 1) (encB startP (l.take z)) (stA startP (l.take z)) (l.getD z smZ).1 (l.getD z smZ).2 ⟨D, hD, hS.keep hW⟩ (stA_ok startOk hok.1) hok.2.1 hok.2.2 (by omega)
        rw [hnz] at h1
        refine h1.mono ?_
        rintro e w' ⟨rfl, h2⟩
        refine ⟨rfl, ?_⟩
        rw [take_snocS hzl, encB_snoc, stA_snoc]
        exact h2
      clear hc hr hgr hok hnz hbl
      generalize (l.getD z smZ).1 = tz at *
      generalize (l.getD z smZ).2 = fz at *
      have hnew : ¬ b = wr.heap.size := by have := block_lt c0; omega
      have hnew2 : ¬ wr.heap.size = b := by omega
      clear hzl
      go_wp2_with fail
      with_reducible refine (HA.out _ (alloc_gb _ _)).mono ?_
      rintro e w2 ⟨rfl, H2⟩
      clear HA c0 c1
      go_wp2
      go_roundw
      case rel => exact ⟨z + 1, by omega, by go_num, H2⟩
      case measure => simp [intOf]; omega
    · obtain rfl : z = N := by omega
      have hzi : ¬ (z : Int) < (z : Int) := by omega
      have HE : Hid (SdP w wr w.heap.size (w.heap.size + 1) (encB startP l) (stA startP l) ∧ (encB startP l).length ≤ 19200) := by
        have h := hr.out
        rw [List.take_of_length_le (by rw [HN.out]; omega)] at h
        have h1 := encB_len startOk HR.out.2
        rw [HN.out] at h1
        exact ⟨h, by omega⟩
      clear hr
      have hdiv : (z : Int) / 256 = 0 := by omega
      have hz256 : z < 256 := by omega
      go_wp2_with fail
      have hlit : Own (wr.alloc (.cells #[.int .u8 0, .int .u8 (z : Int)] 5)) wr.heap.size (.slice (some ⟨wr.heap.size, 0, none⟩) 2 2) [0, UInt8.ofNat z] := by
        have h := World.ownsRow_lit (size := 1) (e := 5) wr #[.int .u8 0, .int .u8 (z : Int)] 2 (Nat.le_refl _) (by simp [maxLen]) rfl
        have e : (#[Value.int .u8 0, .int .u8 (z : Int)] : Array Value).toList = [0, UInt8.ofNat z].map bv := by
          have : ((UInt8.ofNat z).toNat : Int) = (z : Int) := by rw [UInt8.toNat_ofNat']; omega
          simp only [List.map_cons, List.map_nil, bv, this]
          rfl
        unfold Own
        rw [← e]
        exact h
      obtain ⟨D, -, hS⟩ := HE.out.1
      have HS := hidJ hS
      have HL : Hid (Own (wr.alloc (.cells #[.int .u8 0, .int .u8 (z : Int)] 5)) wr.heap.size (.slice (some ⟨wr.heap.size, 0, none⟩) 2 2) [0, UInt8.ofNat z] ∧ w.grownBy (wr.alloc (.cells #[.int .u8 0, .int .u8 (z : Int)] 5)) none ∧ wr.grownBy (wr.alloc (.cells #[.int .u8 0, .int .u8 (z : Int)] 5)) none) := ⟨hlit, gb_none hS.old (alloc_gb _ _), alloc_gb _ _⟩
      have HWr : Hid (w.heap.size ≤ wr.heap.size) := hS.old.size
      clear hlit hS
      generalize wr.alloc (.cells #[.int .u8 0, .int .u8 (z : Int)] 5) = W at *
      obtain ⟨v0, hv0, -⟩ := (HS.out.keep HL.out.2.2).str
      refine (rbytes_any w.heap.size v0 (encB startP l) 0 W hv0 (by have := HE.out.2; omega)).mono ?_
      rintro e w2 ⟨v2, rfl, ho2, hg2⟩
      have H2 : Hid (Own w2 W.heap.size v2 (pack (encB startP l)) ∧ W.grownBy w2 none) := ⟨ho2, hg2⟩
      clear ho2 hg2 hv0
      have hpl : (pack (encB startP l)).length ≤ 1048576 := by rw [pack_len]; have := HE.out.2; omega
      have HWb : Hid (wr.heap.size ≤ W.heap.size) := HL.out.2.2.size
      generalize wr.heap.size = b0 at *
      go_wp2_with (at_builtin; refine wp_app rfl _ _ rfl b0 _ _ [0, UInt8.ofNat z] (pack (encB startP l)) rfl rfl (HL.out.1.keep H2.out.2) H2.out.1.rd ?c1 ?c2 ?_)
      case c1 => simp; omega
      case c2 => have := HWb.out; have := H2.out.2.size; omega
      intro v3 w3 ho3 hf3
      have H3 : Hid (Own w3 w.heap.size v3 (ckB l) ∧ w.grownBy w3 none) := by
        refine ⟨?_, hf3.new (gb_none HL.out.2.1 H2.out.2) (fun k hk => by simp [Value.ownBlock] at hk; have := HWr.out; omega)⟩
        have : ckB l = [0, UInt8.ofNat z] ++ pack (encB startP l) := by rw [← HN.out]; rfl
        rw [this]
        exact Own.mono ho3 HWr.out
      clear ho3 hf3
      go_wp2
      go_ret
      exact ⟨_, rfl, H3.out⟩

set_option maxHeartbeats 1600000 in
/-- Wrong of a sample behind others -/
theorem dWrong_any (w : World) (v : Value) (l : List SmpT) (t : Int) (hr : RdP w v l) (hl : okL startP l) : Calls Tryd.prog 10 #[v, .int .i64 t] w fun e w' => e = .returned (.int .i64 (wrongN (stA startP l) t)) ∧ w.grownBy w' none := by
  have h120 := okL_most hl
  have hn : (stA startP l).n = l.length := by rw [stA_n]; simp [startP]
  have hlast : 0 < l.length → (stA startP l).t = (l.getD (l.length - 1) smZ).1 := fun h => by
    have e : l = l.take (l.length - 1) ++ [l.getD (l.length - 1) smZ] := by
      have := take_snocS (l := l) (j := l.length - 1) (by omega)
      rw [show l.length - 1 + 1 = l.length by omega, List.take_of_length_le (Nat.le_refl _)] at this
      exact this
    have h2 := stA_snoc startP (l.take (l.length - 1)) (l.getD (l.length - 1) smZ)
    rw [← e] at h2
    rw [h2]
    rfl
  have HE : Hid (wrongN (stA startP l) t = if t < 0 ∨ 1125899906842624 < t then 1 else if 0 < (stA startP l).n ∧ t ≤ (stA startP l).t then 90 else if (stA startP l).n = 120 then 8 else 0) := rfl
  obtain ⟨a, c, rfl, hlc, hcm, hc⟩ := hr
  have hcm2 : c ≤ 9223372036854775807 := hcm
  rw [hn] at HE
  generalize (stA startP l).t = t0 at *
  generalize wrongN (stA startP l) t = W at *
  obtain ⟨N, hN⟩ : ∃ N, l.length = N := ⟨_, rfl⟩
  rw [hN] at HE hlast hlc h120 hc
  rw [hN]
  clear hn hcm hl hN
  by_cases h1 : t < 0
  · have HW : Hid (W = 1) := by show W = 1; rw [HE.out, if_pos (.inl h1)]
    go_enter Tryd.func10, Tryd.ntmps10
    go_wp2
    go_ret
    exact ⟨ret_int HW.out.symm, gb_refl _ _⟩
  · by_cases h2 : (1125899906842624 : Int) < t
    · have HW : Hid (W = 1) := by show W = 1; rw [HE.out, if_pos (.inr h2)]
      go_enter Tryd.func10, Tryd.ntmps10
      go_wp2
      go_ret
      exact ⟨ret_int HW.out.symm, gb_refl _ _⟩
    · rw [if_neg (by omega)] at HE
      by_cases h3 : 0 < N
      · have h3i : (0 : Int) < (N : Int) := by omega
        obtain ⟨b, o, rfl, c0, -⟩ := hc (N - 1) (by omega)
        rw [← hlast h3] at c0
        obtain ⟨M, hM⟩ : ∃ M, N = M + 1 := ⟨N - 1, by omega⟩
        subst hM
        rw [show M + 1 - 1 = M by omega] at c0
        clear hc hlast
        by_cases h4 : t ≤ t0
        · have HW : Hid (W = 90) := by show W = 90; rw [HE.out, if_pos ⟨h3, h4⟩]
          go_enter Tryd.func10, Tryd.ntmps10
          go_wp2
          go_ret
          exact ⟨ret_int HW.out.symm, gb_refl _ _⟩
        · have h4i : ¬ t ≤ t0 := h4
          rw [if_neg (fun h => h4 h.2)] at HE
          by_cases h5 : M + 1 = 120
          · have HW : Hid (W = 8) := by show W = 8; rw [HE.out, if_pos h5]
            obtain rfl : M = 119 := by omega
            clear h5
            go_enter Tryd.func10, Tryd.ntmps10
            go_wp2
            go_ret
            exact ⟨ret_int HW.out.symm, gb_refl _ _⟩
          · have HW : Hid (W = 0) := by show W = 0; rw [HE.out, if_neg h5]
            have h5i : ¬ (120 : Int) ≤ (M : Int) + 1 := by omega
            go_enter Tryd.func10, Tryd.ntmps10
            go_wp2
            go_ret
            exact ⟨ret_int HW.out.symm, gb_refl _ _⟩
      · obtain rfl : N = 0 := by omega
        have HW : Hid (W = 0) := by show W = 0; rw [HE.out, if_neg (by omega), if_neg (by omega)]
        clear hc hlast
        go_enter Tryd.func10, Tryd.ntmps10
        go_wp2
        go_ret
        exact ⟨ret_int HW.out.symm, gb_refl _ _⟩
end Go.Proofs.YtnaccmbnblokmaaDoor
