/-
  ChunkFew: samples at even steps with one value take two bits each: the walk.
-/
import Derived.Test.YtdhkgblbfpbgdaaDoorCk4
import Derived.Test.YtdhkgblbfpbgdaaDoorCkG
namespace Go.Proofs.YtdhkgblbfpbgdaaDoor
open Go.RowKit

theorem infoS : (Tryd.prog.info? 27).map (fun i => (i.zero, i.size, i.bytes)) = some (some (.agg #[.int .i64 0, .float .f64 0]), 2, 16) := by kernel_rfl
/-- the cells of n samples at even steps -/
def evenCells (t : Int) (d f : Nat) : Nat → List Value
  | 0 => []
  | n + 1 => evenCells t d f n ++ [.int .i64 (t + (d : Int) * (n : Int)), .float .f64 f]
theorem evenCells_len (t : Int) (d f n : Nat) : (evenCells t d f n).length = n * 2 := by
  induction n with
  | zero => rfl
  | succ n ih => rw [evenCells, List.length_append, ih]; simp; omega
theorem evenCells_get (t : Int) (d f : Nat) : ∀ n j, j < n → (evenCells t d f n)[j * 2]? = some (.int .i64 (t + (d : Int) * (j : Int))) ∧ (evenCells t d f n)[j * 2 + 1]? = some (.float .f64 f) := by
  intro n
  induction n with
  | zero => intro j hj; omega
  | succ n ih =>
    intro j hj
    have hl := evenCells_len t d f n
    rw [evenCells]
    by_cases h : j < n
    · rw [List.getElem?_append_left (by omega), List.getElem?_append_left (by omega)]
      exact ih j h
    · obtain rfl : j = n := by omega
      rw [List.getElem?_append_right (by omega), List.getElem?_append_right (by omega), hl, Nat.sub_self, show j * 2 + 1 - j * 2 = 1 by omega]
      exact ⟨rfl, rfl⟩
/-- what a list of such samples reads as -/
theorem rdE_of {w : World} {base t d f n g o c} (h : w.ownsRow base 27 2 (.slice (some ⟨g, o, none⟩) n c) n (evenCells t d f n)) : o = 0 ∧ RdE w g 0 t d f n := by
  have hc := World.ownsRow.cells h rfl
  have ho : o = 0 := by
    rcases h.2 with ⟨h1, -⟩ | ⟨b, cap, cur, h1, -⟩
    · cases h1
    · simp only [Value.slice.injEq, Option.some.injEq, Addr.mk.injEq] at h1
      exact h1.1.2.1
  subst ho
  refine ⟨rfl, fun j hj => ?_⟩
  have h1 := evenCells_get t d f n j hj
  have h2 := hc _ _ h1.1
  have h3 := hc _ _ h1.2
  rw [Go.WideShapes.add_plain] at h2 h3
  exact ⟨by simpa using h2, by simpa using h3⟩

theorem tmod_bd (z : Int) : (-100 : Int) < z.tmod 100 ∧ z.tmod 100 < 100 := by
  rcases Int.le_total 0 z with h | h
  · rw [Int.tmod_eq_emod_of_nonneg h]
    omega
  · have h2 : z.tmod 100 = -((-z).tmod 100) := by rw [Int.neg_tmod, Int.neg_neg]
    rw [h2, Int.tmod_eq_emod_of_nonneg (by omega)]
    omega

set_option maxRecDepth 8000 in
set_option maxHeartbeats 3200000 in
theorem few_walk (t s : Int) (f : Nat) (z : Int) (w : World) (hT : TabC w) (hf : f < 18446744073709551616) (ht1 : -9223372036854775808 ≤ t) (ht2 : t ≤ 9223372036854775807) (hs1 : -9223372036854775808 ≤ s) (hs2 : s ≤ 9223372036854775807) :
    Calls Tryd.prog 8 #[.int .i64 t, .int .i64 s, .float .f64 f, .int .i64 z] w fun e w' => e = .returned (.bool true) ∧ Below w.heap.size w w' := by
  have HT : Hid (TabC w) := hT
  clear hT
  by_cases hbad : t < 0 ∨ s < 1 ∨ 562949953421312 < t ∨ 1073741824 < s
  · by_cases h1 : t < 0
    · go_enter Tryd.func8, Tryd.ntmps8
      go_wp2_with fail
      refine (awake_any _).mono ?_
      rintro e w4 ⟨rfl, hg4⟩
      have H4 : Hid (Below w.heap.size w w4) := gb_below hg4
      clear hg4
      go_wp2
      go_ret
      exact ⟨rfl, H4.out⟩
    by_cases h2 : s < 1
    · go_enter Tryd.func8, Tryd.ntmps8
      go_wp2_with fail
      refine (awake_any _).mono ?_
      rintro e w4 ⟨rfl, hg4⟩
      have H4 : Hid (Below w.heap.size w w4) := gb_below hg4
      clear hg4
      go_wp2
      go_ret
      exact ⟨rfl, H4.out⟩
    by_cases h3 : 562949953421312 < t
    · go_enter Tryd.func8, Tryd.ntmps8
      go_wp2_with fail
      refine (awake_any _).mono ?_
      rintro e w4 ⟨rfl, hg4⟩
      have H4 : Hid (Below w.heap.size w w4) := gb_below hg4
      clear hg4
      go_wp2
      go_ret
      exact ⟨rfl, H4.out⟩
    have h4 : 1073741824 < s := by omega
    go_enter Tryd.func8, Tryd.ntmps8
    go_wp2_with fail
    refine (awake_any _).mono ?_
    rintro e w4 ⟨rfl, hg4⟩
    have H4 : Hid (Below w.heap.size w w4) := gb_below hg4
    clear hg4
    go_wp2
    go_ret
    exact ⟨rfl, H4.out⟩
  · have b1 : ¬ t < 0 := by omega
    have b2 : ¬ s < 1 := by omega
    have b3 : ¬ 562949953421312 < t := by omega
    have b4 : ¬ 1073741824 < s := by omega
    obtain ⟨d, rfl⟩ : ∃ d : Nat, s = (d : Int) := ⟨s.toNat, by omega⟩
    have hm1 := tmod_bd z
    obtain ⟨m, hm⟩ : ∃ m, z.tmod 100 = m := ⟨_, rfl⟩
    rw [hm] at hm1
    obtain ⟨N, hN⟩ : ∃ N : Nat, 2 + m % 100 = (N : Int) := ⟨(2 + m % 100).toNat, by omega⟩
    have hN2 : 2 ≤ N ∧ N ≤ 101 := by omega
    have hbp : (1 : Int) ≤ (d : Int) ∧ (d : Int) ≤ 1073741824 ∧ 0 ≤ t ∧ t ≤ 562949953421312 := by omega
    clear hbad
    go_enter Tryd.func8, Tryd.ntmps8
    go_wp2_with fail
    have HN : Hid (2 ≤ N ∧ N ≤ 101) := hN2
    have HB : Hid ((1 : Int) ≤ (d : Int) ∧ (d : Int) ≤ 1073741824 ∧ 0 ≤ t ∧ t ≤ 562949953421312) := hbp
    clear hm hN hm1 b1 b2 b3 b4
    go_loopw [9, 10] (fun l i wr => ∃ z : Nat, z ≤ N ∧ i = .int .i64 z ∧ Hid (wr.ownsRow w.heap.size 27 2 l z (evenCells t d f z) ∧ w.grownBy wr none)) (fun _ i _ => N - (intOf i).toNat)
    case atStart => exact ⟨0, by omega, rfl, World.ownsRow_nil _ _ _ _, gb_refl _ _⟩
    case round =>
      obtain ⟨z, hz, rfl, hr⟩ := hrel
      by_cases hlt : z < N
      · have hdz : 0 ≤ (d : Int) * (z : Int) ∧ (d : Int) * (z : Int) ≤ 1073741824 * 101 := by
          have h1 : d * z ≤ 1073741824 * 101 := Nat.mul_le_mul (by omega) (by omega)
          rw [← Int.natCast_mul]
          omega
        obtain ⟨i0, hi, hz0, hz1, hz2⟩ := info_parts infoS
        have HI : Hid (Tryd.prog.info? 27 = some i0 ∧ i0.zero = some (.agg #[.int .i64 0, .float .f64 0]) ∧ i0.size = 2 ∧ i0.bytes = 16) := ⟨hi, hz0, hz1, hz2⟩
        clear hi hz0 hz1 hz2
        generalize hTz : t + (d : Int) * (z : Int) = Tz at *
        have HTz : Hid (t + (d : Int) * (z : Int) = Tz) := hTz
        go_wp2_with (at_builtin; refine wp_appG rfl _ _ 22 27 rfl i0 _ 2 16 w.heap.size Tryd.underlying22 HI.out.1 HI.out.2.1 HI.out.2.2.1 HI.out.2.2.2 rfl (by decide) (by decide) _ z (evenCells t d f z) (some ⟨wr.heap.size, 0, none⟩) 1 1 [.int .i64 Tz, .float .f64 f] rfl rfl (World.ownsRow.alloc hr.out.1 _) ?b1 ?b2 ?b3 ?b4 ?b5 ?b6 ?_)
        case b1 => rfl
        case b2 =>
          intro j u hj
          refine ⟨_, rfl, ?_⟩
          rw [Go.WideShapes.add_plain]
          have ha := Go.heap_alloc_new wr (.cells #[.int .i64 Tz, .float .f64 f] 27)
          simp only [World.cell?, ha]
          simpa using hj
        case b3 => intro h; cases h
        case b4 =>
          intro u hu
          simp only [List.mem_cons, List.not_mem_nil, or_false] at hu
          rcases hu with rfl | rfl <;> rfl
        case b5 => omega
        case b6 => have := hr.out.2.size; simp; omega
        intro v2 w2 ho2 hf2
        have H2 : Hid (w2.ownsRow w.heap.size 27 2 v2 (z + 1) (evenCells t d f (z + 1)) ∧ w.grownBy w2 none) := by
          refine ⟨?_, hf2.new (gb_none hr.out.2 (alloc_gb _ _)) (fun k hk => (World.ownsRow.lt hr.out.1 k hk).1)⟩
          rw [evenCells, HTz.out]
          exact ho2
        clear ho2 hf2 hr
        go_wp2
        go_roundw
        case rel => exact ⟨z + 1, by omega, by go_num, H2⟩
        case measure => simp [intOf]; omega
      · obtain rfl : z = N := by omega
        obtain ⟨gl, cap, hl, hcap⟩ : ∃ gl cap, u9 = .slice (some ⟨gl, 0, none⟩) z cap ∧ z ≤ cap ∧ cap ≤ 9223372036854775807 := by
          rcases hr.out.1.2 with ⟨-, h⟩ | ⟨b, cap, cur, h, -, -, h1, h2, -⟩
          · have := HN.out; omega
          · exact ⟨b, cap, h, h1, h2⟩
        subst hl
        have HRd : Hid (RdE wr gl 0 t d f z ∧ TabC wr ∧ w.grownBy wr none) := ⟨(rdE_of hr.out.1).2, HT.out.keep hr.out.2, hr.out.2⟩
        clear hr hlt
        have HE : Hid (∀ n W, n ≤ z → wr.grownBy W none → Calls Tryd.prog 20 #[.slice (some ⟨gl, 0, none⟩) n cap] W fun e w' => ∃ v' L, e = .returned (.tuple #[v', .int .i64 0, .int .i64 0]) ∧ (∃ a c, v' = .slice a L c) ∧ Hid (L = 2 + ((evenBits t d f n).length + 7) / 8 ∧ wr.grownBy w' none)) := fun n W hn hW => by
          have hRW : RdE W gl 0 t d f n := fun j hj => by
            have h := HRd.out.1 j (by omega)
            have hb := hW.block gl (block_lt h.1) (by simp)
            exact ⟨(World.cell?_of_block hb).trans h.1, (World.cell?_of_block hb).trans h.2⟩
          have hb := HB.out
          have hnn := HN.out
          refine (encode_even gl 0 cap t d f n W hRW (by omega) (HRd.out.2.1.keep hW) (by omega) hf (by omega) (by omega)).mono ?_
          rintro e w' ⟨v', rfl, h1, h2⟩
          obtain ⟨a, c, h3⟩ := h1.shape
          refine ⟨v', _, rfl, ⟨a, c, h3⟩, ?_, gb_none hW h2⟩
          simp only [ckBytes, List.length_append, pack_len, List.length_cons, List.length_nil]
        have hz2 : (2 : Int) ≤ (z : Int) := by have := HN.out; omega
        have hzc : (2 : Int) ≤ (cap : Int) := by omega
        go_wp2_with fail
        refine (HE.out 2 _ (by have := HN.out; omega) (gb_refl _ _)).mono ?_
        rintro e w2 ⟨v2, L2, rfl, ⟨a2, c2, rfl⟩, H2⟩
        go_wp2_with fail
        refine (HE.out z _ (Nat.le_refl _) H2.out.2).mono ?_
        rintro e w3 ⟨v3, L3, rfl, ⟨a3, c3, rfl⟩, H3⟩
        obtain ⟨K, hK⟩ : ∃ K : Nat, 2 * ((z : Int) - 2) = (K : Int) := ⟨2 * (z - 2), by have := HN.out; omega⟩
        have hLL : L2 + K / 8 ≤ L3 + 1 ∧ L3 ≤ L2 + (K + 7) / 8 ∧ L3 ≤ 1000 ∧ L2 ≤ 1000 ∧ K ≤ 1000 := by
          have h2 := H2.out.1
          have h3 := H3.out.1
          have hnn := HN.out
          have hb := HB.out
          have hl := evenBits_len t d f z (by omega) (by omega)
          obtain ⟨k, rfl⟩ : ∃ k, z = k + 2 := ⟨z - 2, by omega⟩
          have e : (evenBits t d f (k + 2)).length = (evenBits t d f 2).length + 2 * k := by
            simp only [evenBits, List.length_append, List.length_replicate, Nat.mul_zero]
            omega
          rw [e] at h3 hl
          generalize (evenBits t d f 2).length = Y at *
          omega
        have HKK : Hid (w.grownBy w3 none) := gb_none HRd.out.2.2 H3.out.2
        clear H2 H3 HE HRd
        go_wp2_with fail
        refine (awake_any _).mono ?_
        rintro e w4 ⟨rfl, hg4⟩
        have H4 : Hid (Below w.heap.size w w4) := gb_below (gb_none HKK.out hg4)
        clear hg4 HKK
        go_wp2
        go_ret
        exact ⟨rfl, H4.out⟩
end Go.Proofs.YtdhkgblbfpbgdaaDoor
