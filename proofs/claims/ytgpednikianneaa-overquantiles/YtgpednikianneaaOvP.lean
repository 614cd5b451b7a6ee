/-
  The values of a window; the quantile of a window: the walks; what Quantile answers is one.
-/
import Derived.Test.YtgpednikianneaaOvN
import Derived.Laws.MakeOwn
namespace Go.Proofs.Ytgpednikianneaa
open Go.RowKit Go.Shelf Go.Sort

/-! ### one answer -/
theorem leV_iff (a b : Nat) : leV a b ↔ ¬ ((nanB b = true ∧ nanB a = false) ∨ (nanB b = false ∧ nanB a = false ∧ kyN b < kyN a)) := by
  unfold leV
  rw [cmpV_lt]
theorem leV_cz {a b : Nat} (h : leV a b) : leV (cz a) (cz b) := by
  rw [leV_iff] at h ⊢
  rw [nanB_cz, nanB_cz]
  intro h2
  refine h ?_
  rcases h2 with h2 | ⟨h2, h3, h4⟩
  · exact .inl h2
  · rw [cz_num h2, cz_num h3] at h4
    exact .inr ⟨h2, h3, h4⟩
theorem kyN_inj {a b : Nat} (ha : a < 18446744073709551616) (hb : b < 18446744073709551616) (h : kyN a = kyN b) : a = b := by
  have pos : ∀ r, r ≠ 0 → 0 < vl r := fun r h => by have := vl_lt (show 0 < r by omega); rw [vl_zero] at this; exact this
  have ea : ∀ x, x < 18446744073709551616 → x = (if sgB x = true then 9223372036854775808 else 0) + mg x := fun x hx => by
    unfold sgB mg
    rcases Nat.lt_or_ge x 9223372036854775808 with h | h
    · rw [show x / 9223372036854775808 = 0 by omega]
      simp
      omega
    · rw [show x / 9223372036854775808 = 1 by omega]
      simp
      omega
  unfold kyN at h
  have inj : ∀ x y, vl x = vl y → x = y := fun x y h => Nat.le_antisymm (vl_inj_le (by omega)) (vl_inj_le (by omega))
  have key : mg a = mg b ∧ sgB a = sgB b := by
    unfold sv at h
    generalize sgB a = sa at *
    generalize sgB b = sb at *
    generalize mg a = x at *
    generalize mg b = y at *
    clear ea
    by_cases za : x = 0
    · rw [if_pos za] at h
      by_cases zb : y = 0
      · rw [if_pos zb] at h
        refine ⟨by omega, ?_⟩
        cases sa <;> cases sb <;> first | rfl | (simp at h)
      · exfalso
        rw [if_neg zb] at h
        have := pos _ zb
        cases sa <;> cases sb <;> simp at h <;> omega
    · rw [if_neg za] at h
      have pa := pos _ za
      by_cases zb : y = 0
      · exfalso
        rw [if_pos zb] at h
        cases sa <;> cases sb <;> simp at h <;> omega
      · rw [if_neg zb] at h
        have pb := pos _ zb
        cases sa <;> cases sb <;> simp at h <;> first | exact ⟨inj _ _ (by omega), rfl⟩ | (exfalso; omega)
  rw [ea a ha, ea b hb, key.1, key.2]
theorem leV_eq {a b : Nat} (ha : a < 18446744073709551616) (hb : b < 18446744073709551616) (h1 : leV (cz a) (cz b)) (h2 : leV (cz b) (cz a)) : cz a = cz b := by
  rw [leV_iff, nanB_cz, nanB_cz] at h1 h2
  cases na : nanB a with
  | true =>
    cases nb : nanB b with
    | true => rw [cz_nan na, cz_nan nb]
    | false => exact absurd (.inl ⟨na, nb⟩) h2
  | false =>
    cases nb : nanB b with
    | true => exact absurd (.inl ⟨nb, na⟩) h1
    | false =>
      rw [cz_num na, cz_num nb] at *
      refine kyN_inj ha hb ?_
      by_cases h3 : kyN b < kyN a
      · exact absurd (.inr ⟨nb, na, h3⟩) h1
      · by_cases h4 : kyN a < kyN b
        · exact absurd (.inr ⟨na, nb, h4⟩) h2
        · omega
theorem sorted_one {l s t : List Nat} (hin : ∀ x ∈ l, x < 18446744073709551616) (h1 : s.Perm l) (h2 : s.Pairwise leV) (h3 : t.Perm l) (h4 : t.Pairwise leV) : s.map cz = t.map cz := by
  refine List.Perm.eq_of_pairwise (le := leV) ?_ ?_ ?_ ((h1.trans h3.symm).map cz)
  · intro x y hx hy a1 a2
    obtain ⟨a, ha, rfl⟩ := List.mem_map.1 hx
    obtain ⟨b, hb, rfl⟩ := List.mem_map.1 hy
    exact leV_eq (hin a (h1.mem_iff.1 ha)) (hin b (h3.mem_iff.1 hb)) a1 a2
  · exact List.pairwise_map.2 (h2.imp fun h => leV_cz h)
  · exact List.pairwise_map.2 (h4.imp fun h => leV_cz h)
theorem getD_cz (s : List Nat) (i : Nat) : cz (s.getD i 0) = (s.map cz).getD i 0 := by
  simp only [List.getD, List.getElem?_map]
  cases s[i]? with
  | none => exact cz_num (by decide)
  | some x => rfl
theorem quaC_one {q : Nat} {s t : List Nat} (h : s.map cz = t.map cz) : quaC q s = quaC q t := by
  have hl : s.length = t.length := by have := congrArg List.length h; simpa using this
  unfold quaC
  rw [getD_cz, getD_cz, getD_cz, getD_cz, h, hl]
theorem QuP.one {q : Nat} {l : List Nat} {x y : Nat} (hin : ∀ x ∈ l, x < 18446744073709551616) (h1 : QuP q l x) (h2 : QuP q l y) : cz x = cz y := by
  unfold QuP at h1 h2
  rcases h1 with ⟨a1, rfl⟩ | ⟨a1, a2, rfl⟩ | ⟨a1, a2, a3, rfl⟩ | ⟨a1, a2, a3, s, a4, a5, a6⟩ <;>
    rcases h2 with ⟨b1, rfl⟩ | ⟨b1, b2, rfl⟩ | ⟨b1, b2, b3, rfl⟩ | ⟨b1, b2, b3, t, b4, b5, b6⟩ <;> first | rfl | (simp_all; done) | skip
  rw [a6, b6, quaC_one (sorted_one hin a4 a5 b4 b5)]
/-! ### the values -/
theorem OwnFl.keep {w w' : World} {base : Nat} {v : Value} {l : List Nat} (h : OwnFl w base v l) (hg : w.grownBy w' none) : OwnFl w' base v l := by
  refine World.ownsRow.kept h hg ?_
  cases hv : v.ownBlock with
  | none => exact .inl rfl
  | some k => exact .inr (by simp)
set_option maxRecDepth 8000 in
set_option maxHeartbeats 6400000 in
theorem values_any (w : World) (a : Option Addr) (c : Nat) (m : List SmpT) (frm upt : Int) (hv : RdP w (.slice a m.length c) m) (hl : m.length ≤ 8796093022208) :
    Calls Try.prog 72 #[.agg #[.slice a m.length c, .int .i64 frm, .int .i64 upt]] w fun e w' => ∃ v, e = .returned v ∧ Hid (OwnFl w' w.heap.size v (m.map (·.2)) ∧ w.grownBy w' none) := by
  obtain ⟨i0, hi, hz0, hz1, hz2⟩ := info_parts infoFl
  have HV := hidJ hv
  have HMK : Hid (∀ W : World, (Instr.makeSlice 23 (.int .i64 0) (.int .i64 (m.length : Int))).run Try.prog W = .ok (.slice (some ⟨W.heap.size, 0, none⟩) 0 m.length) (W.alloc (.cells (madeCells #[.float .f64 0] m.length) 22))) := fun W => by
    have hmk := run_make W 23 22 i0 _ Try.underlying23 hi hz0 .i64 .i64 0 (m.length : Int) (by omega) (by omega) (by rw [hz2]; omega) (by omega)
    rw [hz1] at hmk
    simp only [Int.toNat_natCast, Nat.mul_one, Int.toNat_zero] at hmk
    exact hmk
  have HI := hidJ (And.intro hi (And.intro hz0 (And.intro hz1 hz2)))
  obtain ⟨N, hN⟩ : ∃ N, m.length = N := ⟨_, rfl⟩
  have HN := hidJ hN
  have HE : Hid (∀ j, j < N → ∀ wr, w.grownBy wr none → ∃ b o, a = some ⟨b, o, none⟩ ∧ wr.cell? ⟨b, o + j * 2, none⟩ = some (.int .i64 (m.getD j smZ).1) ∧ wr.cell? ⟨b, o + j * 2 + 1, none⟩ = some (.float .f64 (m.getD j smZ).2)) := fun j hj wr hg => by
    obtain ⟨a', c', e, -, -, h3⟩ := HV.out.keep hg
    obtain ⟨b, o, e1, d0, d1⟩ := h3 j (by rw [hN]; exact hj)
    simp only [Value.slice.injEq] at e
    exact ⟨b, o, e.1.trans e1, d0, d1⟩
  rw [hN] at HMK hl ⊢
  clear hN hi hz0 hz1 hz2 hv HV
  go_enter Try.func72, Try.ntmps72
  obtain ⟨C, hC⟩ : ∃ C : Obj, C = .cells #[.slice a N c, .int .i64 frm, .int .i64 upt] 54 := ⟨_, rfl⟩
  have hmk := HMK.out (w.alloc C)
  obtain ⟨w1, hw1⟩ : ∃ w1, (w.alloc C).alloc (.cells (madeCells #[.float .f64 0] N) 22) = w1 := ⟨_, rfl⟩
  have g1 : w.grownBy w1 none := by rw [← hw1]; exact gb_none (alloc_gb _ _) (alloc_gb _ _)
  have hb1 := ((alloc_gb (w.alloc C) (.cells (madeCells #[.float .f64 0] N) 22)).block _ (some_lt (Go.heap_alloc_new w C)) (by simp)).trans (Go.heap_alloc_new w C)
  rw [hw1] at hb1 hmk
  have p0 : w1.cell? ⟨w.heap.size, 0, none⟩ = some (.slice a N c) := by rw [World.cell?, hb1, hC]; rfl
  have ho : OwnFl w1 w.heap.size (.slice (some ⟨(w.alloc C).heap.size, 0, none⟩) 0 N) [] := by
    refine ⟨rfl, .inr ⟨(w.alloc C).heap.size, N, _, rfl, by rw [World.size_alloc]; omega, by rw [← hw1]; exact Go.heap_alloc_new _ _, Nat.zero_le _, by unfold maxLen; omega, ?_, rfl⟩⟩
    rw [size_madeCells]
    simp
  have H0 := hidJ (And.intro ho g1)
  clear hb1 g1 ho hw1 HMK
  subst hC
  go_wp2
  clear hmk p0
  have hsf := store_float
  go_loopw [3, 13] (fun uo ui wr => ∃ z : Nat, z ≤ N ∧ ui = .int .i64 z ∧ Hid (OwnFl wr w.heap.size uo ((m.take z).map (·.2)) ∧ w.grownBy wr none)) (fun _ ui _ => N - (intOf ui).toNat)
  case atStart =>
    refine ⟨0, by omega, rfl, ?_, H0.out.2⟩
    have := H0.out.1
    rw [World.size_alloc] at this
    exact this
  case round =>
    obtain ⟨z, hzN, rfl, hr⟩ := hrel
    clear H0
    by_cases hzl : z < N
    · have hzi : (z : Int) < (N : Int) := by omega
      have hq1 : ¬ N ≤ z := by omega
      obtain ⟨b, o, rfl, d0, d1⟩ := HE.out z hzl wr hr.out.2
      have HT : Hid ((m.take (z + 1)).map (·.2) = (m.take z).map (·.2) ++ [(m.getD z smZ).2]) := by
        show _ = _
        rw [take_snocS (by rw [HN.out]; exact hzl), List.map_append]
        rfl
      generalize hft : (m.getD z smZ).1 = ft at *
      generalize hfv : (m.getD z smZ).2 = fv at *
      clear hft hfv
      obtain ⟨C4, hC4⟩ : ∃ C4 : Obj, C4 = .cells #[.int .i64 ft, .float .f64 fv] 33 := ⟨_, rfl⟩
      obtain ⟨w4, hw4⟩ : ∃ w4, wr.alloc C4 = w4 := ⟨_, rfl⟩
      have hb4 := Go.heap_alloc_new wr C4
      have g4 := alloc_gb wr C4
      rw [hw4] at hb4 g4
      have p1 : w4.cell? ⟨wr.heap.size, 1, none⟩ = some (.float .f64 fv) := by rw [World.cell?, hb4, hC4]; rfl
      -- the one row
      have hb5 := Go.heap_alloc_new w4 (.cells #[.float .f64 fv] 22)
      have g5 := alloc_gb w4 (.cells #[.float .f64 fv] 22)
      obtain ⟨w5, hw5⟩ : ∃ w5, w4.alloc (.cells #[.float .f64 fv] 22) = w5 := ⟨_, rfl⟩
      rw [hw5] at hb5 g5
      have hrd : RdC w5 (some ⟨w4.heap.size, 0, none⟩) [.float .f64 fv] := fun j u hj => by
        refine ⟨_, rfl, ?_⟩
        rw [Go.WideShapes.add_plain]
        have hj0 : j = 0 := by
          have := (List.getElem?_eq_some_iff.1 hj).1
          simp at this
          exact this
        subst hj0
        rw [World.cell?, hb5]
        exact hj
      obtain ⟨hi, hz0, hz1, hz2⟩ := HI.out
      have how := OwnFl.keep hr.out.1 (gb_none g4 g5)
      have hbase : w.heap.size ≤ w5.heap.size := (gb_none hr.out.2 (gb_none g4 g5)).size
      have hlen : ((m.take z).map (·.2)).length = z := by
        have := HN.out
        simp
        omega
      have how2 : w5.ownsRow w.heap.size 22 1 u3 z (((m.take z).map (·.2)).map flV) := by
        have := how
        unfold OwnFl at this
        rw [hlen] at this
        exact this
      obtain ⟨v', w6, hrun, h2, h3⟩ := run_appH w5 23 23 22 i0 _ 1 8 w.heap.size Try.underlying23 hi hz0 hz1 hz2 rfl (by decide) u3 z _ how2 (some ⟨w4.heap.size, 0, none⟩) 1 1 [.float .f64 fv] rfl hrd (fun h => by cases h) (by intro u hu; simp at hu; subst hu; rfl) (by omega) (by omega) hbase
      have HO : Hid (OwnFl w6 w.heap.size v' ((m.take (z + 1)).map (·.2)) ∧ w.grownBy w6 none) := by
        refine ⟨?_, gb_new (gb_none hr.out.2 (gb_none g4 g5)) h3.1 (fun k hk => ?_)⟩
        · unfold OwnFl
          rw [HT.out, List.length_append, hlen, List.map_append]
          exact h2
        · rcases how2.2 with ⟨rfl, _⟩ | ⟨g, cap, cur, rfl, hbg, _⟩
          · simp [Value.ownBlock] at hk
          · simp [Value.ownBlock] at hk
            omega
      have HRun := hidJ hrun
      clear hrun h2 h3 how how2 hbase hlen hrd hb5 g5 hb4 g4 hr HE hi hz0 hz1 hz2 HI HT HN
      subst hC4
      go_wp2_with (at_builtin; refine wp_appRun rfl _ _ 23 rfl _ _ _ rfl rfl HRun.out ?_)
      go_wp2
      go_roundw
      case rel => exact ⟨z + 1, by omega, by go_num, HO.out⟩
      case measure => simp [intOf]; omega
    · have hzi : ¬ (z : Int) < (N : Int) := by omega
      have hzn : z = N := by omega
      subst hzn
      have HFF : Hid (OwnFl wr w.heap.size u3 (m.map (·.2)) ∧ w.grownBy wr none) := by
        have := hr.out.1
        rw [← HN.out, List.take_length] at this
        exact ⟨this, hr.out.2⟩
      clear hr HE HN HI
      go_wp2
      go_ret
      exact ⟨_, rfl, HFF.out⟩
end Go.Proofs.Ytgpednikianneaa
