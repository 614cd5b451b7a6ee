/-
  Labels less those without a value: what slices.DeleteFunc comes to, at whatever labels: the walks.
-/
import Derived.Test.YtkipnkpnkhfjhabGreatDoorLbD
import Derived.Test.YtkipnkpnkhfjhabGreatDoorLbMd
import Derived.Test.YtkipnkpnkhfjhabGreatDoorLbSp
import Derived.Test.YtkipnkpnkhfjhabGreatDoorLbK
namespace Go.Proofs.YtkipnkpnkhfjhabGreatDoor
open Go.RowKit

theorem empty_hit (W : World) (a : List UInt8) :
    Calls Tryz.prog 60 #[.agg #[.string (ByteArray.mk ⟨a⟩), .string (ByteArray.mk ⟨[]⟩)]] W fun e w' => e = .returned (.bool true) ∧ W.grownBy w' none := by
  go_enter Tryz.func60, Tryz.ntmps60
  go_wp2
  go_ret
  exact ⟨rfl, World.grownBy_alloc _ _ none⟩
/-- the predicate: is there no value? -/
theorem empty_is (W : World) (a b : List UInt8) :
    Calls Tryz.prog 60 #[.agg #[.string (ByteArray.mk ⟨a⟩), .string (ByteArray.mk ⟨b⟩)]] W fun e w' => e = .returned (.bool (decide (b = []))) ∧ W.grownBy w' none := by
  by_cases hb : b = []
  · subst hb
    rw [decide_eq_true rfl]
    exact empty_hit W a
  · rw [decide_eq_false hb]
    exact empty_any W a b hb

set_option maxRecDepth 8000 in
set_option maxHeartbeats 3200000 in
theorem indexFunc_at (w : World) (v : Value) (ls : List LbT) (k : Nat) (hv : RdL w v ls) (hk : k < ls.length) (h0 : (ls.getD k ([], [])).2 = []) (hn : ∀ j, j < k → (ls.getD j ([], [])).2 ≠ []) :
    Calls Tryz.prog 80 #[v, .func (.func 60) #[] #[]] w fun e w' => e = .returned (.int .i64 (k : Int)) ∧ w.grownBy w' none := by
  have HV : Hid (RdL w v ls ∧ ∀ j, j < k → (ls.getD j ([], [])).2 ≠ []) := ⟨hv, hn⟩
  have HK : Hid ((ls.getD k ([], [])).2 = []) := h0
  obtain ⟨a, c, rfl, hc1, hc2, hc3, hc4⟩ := hv
  unfold maxLen at hc2
  clear hc3 hc4 hn h0
  go_enter Tryz.func80, Tryz.ntmps80
  go_wp2
  go_loopw [8] (fun i wr => ∃ z : Nat, z ≤ k ∧ i = .int .i64 z ∧ Hid (w.grownBy wr none)) (fun i _ => ls.length - (intOf i).toNat)
  case atStart => exact ⟨0, by omega, rfl, gb_refl _ _⟩
  case round =>
    obtain ⟨z, hzN, rfl, hr⟩ := hrel
    have hzl : z < ls.length := by omega
    obtain ⟨a', c', he, -, -, h3, -⟩ := HV.out.1.keep hr.out
    simp only [Value.slice.injEq] at he
    obtain ⟨rfl, -, rfl⟩ := he
    obtain ⟨b, o, rfl, c0, c1⟩ := h3 z hzl
    have HO : Hid (∀ W, Calls Tryz.prog 60 #[.agg #[.string (ByteArray.mk ⟨(ls.getD z ([], [])).1⟩), .string (ByteArray.mk ⟨(ls.getD z ([], [])).2⟩)]] W fun e w' => e = .returned (.bool (decide ((ls.getD z ([], [])).2 = []))) ∧ W.grownBy w' none) := fun W => empty_is W _ _
    have hzi : (z : Int) < (ls.length : Int) := by omega
    clear h3
    by_cases hzk : z = k
    · subst hzk
      rw [decide_eq_true HK.out] at HO
      generalize ByteArray.mk ⟨(ls.getD z ([], [])).1⟩ = sn at *
      generalize ByteArray.mk ⟨(ls.getD z ([], [])).2⟩ = sv at *
      go_wp2_with fail
      refine (HO.out _).mono ?_
      rintro e w1 ⟨rfl, hg1⟩
      have H1 : Hid (w.grownBy w1 none) := gb_none hr.out hg1
      clear HO hg1 hr c0 c1
      go_wp2
      go_ret
      exact ⟨rfl, H1.out⟩
    · rw [decide_eq_false (HV.out.2 z (by omega))] at HO
      generalize ByteArray.mk ⟨(ls.getD z ([], [])).1⟩ = sn at *
      generalize ByteArray.mk ⟨(ls.getD z ([], [])).2⟩ = sv at *
      go_wp2_with fail
      refine (HO.out _).mono ?_
      rintro e w1 ⟨rfl, hg1⟩
      have H1 : Hid (w.grownBy w1 none) := gb_none hr.out hg1
      clear HO hg1 hr c0 c1
      go_wp2
      go_roundw
      case rel => exact ⟨z + 1, by omega, by simp, H1.out⟩
      case measure => simp [intOf]; omega

theorem lbf_take (ls : List LbT) : ∀ k, (lbf ls).take (k * 2) = lbf (ls.take k) := by
  induction ls with
  | nil => intro k; simp [lbf]
  | cons x t ih =>
    intro k
    cases k with
    | zero => simp [lbf]
    | succ k =>
      have e : ∀ u : List LbT, lbf (x :: u) = .string (ByteArray.mk ⟨x.1⟩) :: .string (ByteArray.mk ⟨x.2⟩) :: lbf u := fun _ => rfl
      rw [List.take_succ_cons, e, e, show (k + 1) * 2 = k * 2 + 1 + 1 by omega, List.take_succ_cons, List.take_succ_cons, ih]
theorem zero_cells (n : Nat) : (Builtin.zeroCells #[Value.string ⟨#[]⟩, .string ⟨#[]⟩] n).toList = List.replicate (n * 2) (Value.string ⟨#[]⟩) := by
  simp [Builtin.zeroCells]
  apply List.ext_getElem
  · simp; try omega
  · intro i h1 h2
    have : i % 2 = 0 ∨ i % 2 = 1 := by omega
    rcases this with h | h <;> simp [h]
/-- clear of the end of a list of the call's own -/
theorem run_clearL {w : World} {base g n cap : Nat} {ls : List LbT} (h : OwnL w base (.slice (some ⟨g, 0, none⟩) n cap) ls) (hn : n = ls.length) (k : Nat) (hk : k < n) :
    ∃ w', (∀ ty c, (Builtin.clear_ #[29] ty #[.slice (some ⟨g, k * 2, none⟩) (n - k) c]).run Tryz.prog w = .ok (.tuple #[]) w') ∧ OwnL w' base (.slice (some ⟨g, 0, none⟩) k cap) (ls.take k) ∧ w.grownBy w' (some g) := by
  subst hn
  rcases h.2 with ⟨h', _⟩ | ⟨g', cap', cur, h', hbg, hh, hnc, hcm, hcs, htake⟩
  · simp at h'
  · simp only [Value.slice.injEq, Option.some.injEq, Addr.mk.injEq, and_true, true_and] at h'
    obtain ⟨rfl, rfl⟩ := h'
    have hv : ∀ w, (zeroValue 70).run Tryz.prog w = .ok (.agg #[.string ⟨#[]⟩, .string ⟨#[]⟩]) w := Tryz.zeroValue70
    have hst := run_storeCells_at Tryz.prog g (k * 2) 70 (List.replicate ((ls.length - k) * 2) (Value.string ⟨#[]⟩)) 0 cur w hh (by simp; omega) (by intro u hu; rw [List.eq_of_mem_replicate hu]; rfl)
    obtain ⟨m, hm⟩ : ∃ m, ls.length - k = m + 1 := ⟨ls.length - k - 1, by omega⟩
    have hzc := zero_cells (ls.length - k)
    have hlen2 : (List.replicate ((ls.length - k) * 2) (Value.string ⟨#[]⟩)).length = (ls.length - k) * 2 := List.length_replicate
    rw [Nat.add_zero, hlen2] at hst
    have htk : (cur.toList.take (k * 2)).length = k * 2 := by rw [List.length_take, Array.length_toList]; omega
    refine ⟨w.setRow g (cur.toList.take (k * 2) ++ List.replicate ((ls.length - k) * 2) (Value.string ⟨#[]⟩) ++ cur.toList.drop (k * 2 + (ls.length - k) * 2)).toArray, fun ty c => ?_, ?_, ?_⟩
    · rw [hm] at hst hzc ⊢
      simp [Builtin.clear_, run_underlying Tryz.underlying29, hv, Value.cells, hzc, hst]
    · refine ⟨?_, .inr ⟨g, cap, _, by simp; omega, hbg, setRow_heap w g cur _ 70 _ hh, ?_, hcm, ?_, ?_⟩⟩
      · rw [lbf_len]
      · simp; omega
      · simp only [List.size_toArray, List.length_append, htk, hlen2, List.length_drop, Array.length_toList]
        omega
      · rw [List.length_take, Nat.min_eq_left (by omega)]
        rw [List.append_assoc, List.take_append_of_le_length (by omega), List.take_of_length_le (by omega)]
        rw [← lbf_take, ← htake, List.take_take, Nat.min_eq_left (by omega)]
    · exact ⟨rfl, rfl, rfl, by simp [World.setRow], fun j hj hne => setRow_other w g j _ (fun e => hne (by rw [e]))⟩
theorem take_set_step {cur : List LbT} {k : Nat} (x : LbT) (hk : k < cur.length) : (cur.set k x).take (k + 1) = cur.take k ++ [x] := by
  rw [List.take_succ_eq_append_getElem (by simpa using hk), List.getElem_set_self, List.take_set_of_le (Nat.le_refl _)]
theorem set_getD_other {cur : List LbT} {k m : Nat} (x : LbT) (h : k ≠ m) : (cur.set k x).getD m ([], []) = cur.getD m ([], []) := by
  simp only [List.getD, List.getElem?_set_ne h]
theorem first_empty (ls : List LbT) : (∀ j, j < ls.length → (ls.getD j ([], [])).2 ≠ []) ∨ ∃ k, k < ls.length ∧ (ls.getD k ([], [])).2 = [] ∧ ∀ j, j < k → (ls.getD j ([], [])).2 ≠ [] := by
  induction ls with
  | nil => left; intro j hj; simp at hj
  | cons x t ih =>
    by_cases hx : x.2 = []
    · right; exact ⟨0, by simp, by simpa using hx, fun j hj => by omega⟩
    · rcases ih with h | ⟨k, h1, h2, h3⟩
      · left
        intro j hj
        cases j with
        | zero => simpa using hx
        | succ j => simpa using h j (by simpa using hj)
      · right
        refine ⟨k + 1, by simpa using h1, by simpa using h2, fun j hj => ?_⟩
        cases j with
        | zero => simpa using hx
        | succ j => simpa using h3 j (by omega)
theorem full_all {ls : List LbT} (h : ∀ j, j < ls.length → (ls.getD j ([], [])).2 ≠ []) : fullL ls = ls := by
  refine List.filter_eq_self.2 fun x hx => ?_
  obtain ⟨j, hj, rfl⟩ := List.getElem_of_mem hx
  have := h j hj
  have e1 : ls.getD j ([], []) = ls[j] := by simp [List.getD, hj]
  rw [e1] at this
  cases hh : ls[j].2 with
  | nil => exact absurd hh this
  | cons _ _ => rfl
theorem full_take_first {ls : List LbT} {k : Nat} (hk : k < ls.length) (h0 : (ls.getD k ([], [])).2 = []) (hn : ∀ j, j < k → (ls.getD j ([], [])).2 ≠ []) : fullL (ls.take (k + 1)) = ls.take k := by
  rw [full_take_step hk, if_pos h0, List.append_nil]
  refine full_all fun j hj => ?_
  have hj' : j < k := by simp at hj; omega
  have e : (ls.take k).getD j ([], []) = ls.getD j ([], []) := by simp only [List.getD, List.getElem?_take, if_pos hj']
  rw [e]
  exact hn j hj'

set_option maxRecDepth 8000 in
set_option maxHeartbeats 6400000 in
/-- DeleteFunc of a list of the call's own -/
theorem deleteFunc_any (w : World) (base g n cap : Nat) (ls : List LbT) (hv : OwnL w base (.slice (some ⟨g, 0, none⟩) n cap) ls) (hn : n = ls.length) (hl : n ≤ 1000000000000000000) :
    Calls Tryz.prog 59 #[.slice (some ⟨g, 0, none⟩) n cap, .func (.func 60) #[] #[]] w fun e w' => e = .returned (.slice (some ⟨g, 0, none⟩) (fullL ls).length cap) ∧ OwnL w' base (.slice (some ⟨g, 0, none⟩) (fullL ls).length cap) (fullL ls) ∧ w.grownBy w' (some g) := by
  rcases first_empty ls with hall | ⟨k0, hk0, hk1, hk2⟩
  · rw [full_all hall, ← hn]
    exact (deleteFunc_none w _ ls (by rw [hn] at hv ⊢; exact hv.rd) (by omega) hall).mono fun e w' ⟨h1, h2⟩ => ⟨h1, hv.keep h2, gb_any h2 _⟩
  · have HI : Hid (Calls Tryz.prog 80 #[.slice (some ⟨g, 0, none⟩) n cap, .func (.func 60) #[] #[]] w fun e w' => e = .returned (.int .i64 (k0 : Int)) ∧ w.grownBy w' none) := indexFunc_at w _ ls k0 (by rw [hn] at hv ⊢; exact hv.rd) hk0 hk1 hk2
    have HV : Hid (OwnL w base (.slice (some ⟨g, 0, none⟩) n cap) ls ∧ n = ls.length ∧ fullL (ls.take (k0 + 1)) = ls.take k0) := ⟨hv, hn, full_take_first hk0 hk1 hk2⟩
    have hcap : n ≤ cap ∧ cap ≤ 9223372036854775807 := by
      obtain ⟨g', cap', he, -, -, h1, h2, -⟩ := hv.form (by omega)
      simp only [Value.slice.injEq] at he
      obtain ⟨-, -, rfl⟩ := he
      exact ⟨by omega, h2⟩
    obtain ⟨hcap1, hcap2⟩ := hcap
    have hkn : k0 < n := by omega
    have hkb : ((k0 : Int) == -1) = false := by rw [beq_eq_false_iff_ne]; omega
    clear hv hn hk0 hk1 hk2
    go_enter Tryz.func59, Tryz.ntmps59
    go_wp2_with fail
    refine HI.out.mono ?_
    rintro e w1 ⟨rfl, hg1⟩
    have H1 : Hid (OwnL w1 base (.slice (some ⟨g, 0, none⟩) n cap) ls ∧ w.grownBy w1 none) := ⟨HV.out.1.keep hg1, hg1⟩
    clear hg1 HI
    go_wp2
    go_loopw [5, 6] (fun ui uj wr => ∃ k z : Nat, k < z ∧ z ≤ n ∧ ui = .int .i64 k ∧ uj = .int .i64 z ∧ Hid (∃ cur, OwnL wr base (.slice (some ⟨g, 0, none⟩) n cap) cur ∧ cur.length = n ∧ cur.take k = fullL (ls.take z) ∧ (∀ m, z ≤ m → m < n → cur.getD m ([], []) = ls.getD m ([], [])) ∧ w.grownBy wr (some g))) (fun _ uj _ => n - (intOf uj).toNat)
    case atStart => exact ⟨k0, k0 + 1, by omega, by omega, rfl, by simp, ls, H1.out.1, HV.out.2.1.symm, HV.out.2.2.symm, fun _ _ _ => rfl, gb_any H1.out.2 _⟩
    case round =>
      obtain ⟨k, z, hkz, hzn, rfl, rfl, hr⟩ := hrel
      obtain ⟨cur, hQ1, hQ2, hQ3, hQ4, hQ5⟩ := hr.out
      have HQ : Hid (OwnL wr base (.slice (some ⟨g, 0, none⟩) n cap) cur ∧ cur.length = n ∧ cur.take k = fullL (ls.take z) ∧ (∀ m, z ≤ m → m < n → cur.getD m ([], []) = ls.getD m ([], [])) ∧ w.grownBy wr (some g)) := ⟨hQ1, hQ2, hQ3, hQ4, hQ5⟩
      have hcell : ∀ j, j < n → wr.cell? ⟨g, j * 2, none⟩ = some (.string (ByteArray.mk ⟨(cur.getD j ([], [])).1⟩)) ∧ wr.cell? ⟨g, j * 2 + 1, none⟩ = some (.string (ByteArray.mk ⟨(cur.getD j ([], [])).2⟩)) := by
        obtain ⟨g', cap', he, -, -, -, -, h⟩ := OwnL.form hQ1 (by rw [hQ2]; omega)
        rw [hQ2] at h
        simp only [Value.slice.injEq, Option.some.injEq, Addr.mk.injEq] at he
        obtain ⟨⟨rfl, -, -⟩, -, -⟩ := he
        exact h
      clear hr hQ1 hQ2 hQ3 hQ4 hQ5 H1
      by_cases hzl : z < n
      · have hzi : (z : Int) < (n : Int) := by omega
        have hki : (k : Int) < (n : Int) := by omega
        obtain ⟨c0, c1⟩ := hcell z hzl
        obtain ⟨q0, q1⟩ := hcell k (by omega)
        have hgl : g < wr.heap.size := block_lt c0
        have hgl2 : ¬ g = wr.heap.size := by omega
        have hgl3 : ¬ wr.heap.size = g := by omega
        rw [HQ.out.2.2.2.1 z (Nat.le_refl _) hzl] at c0 c1
        have hst := full_take_step (ls := ls) (z := z) (by have := HV.out.2.1; omega)
        have HO : Hid (∀ W, wr.grownBy W none → W.heap[wr.heap.size]? = some (.cells #[.string (ByteArray.mk ⟨(ls.getD z ([], [])).1⟩), .string (ByteArray.mk ⟨(ls.getD z ([], [])).2⟩)] 70 (0, 0)) → Calls Tryz.prog 60 #[.agg #[.string (ByteArray.mk ⟨(ls.getD z ([], [])).1⟩), .string (ByteArray.mk ⟨(ls.getD z ([], [])).2⟩)]] W fun e w' => e = .returned (.bool (decide ((ls.getD z ([], [])).2 = []))) ∧ (w'.cell? ⟨wr.heap.size, 0, none⟩ = some (.string (ByteArray.mk ⟨(ls.getD z ([], [])).1⟩)) ∧ w'.cell? ⟨wr.heap.size, 1, none⟩ = some (.string (ByteArray.mk ⟨(ls.getD z ([], [])).2⟩)) ∧ (∃ o0 o1, w'.cell? ⟨g, k * 2, none⟩ = some (.string o0) ∧ w'.cell? ⟨g, k * 2 + 1, none⟩ = some (.string o1))) ∧ Hid (wr.grownBy w' none)) := fun W hW hb => (empty_is W _ _).mono fun e w' ⟨h1, h2⟩ => by
          have hG := gb_none hW h2
          have hb' := (h2.block wr.heap.size (Array.getElem?_eq_some_iff.1 hb).1 (by simp)).trans hb
          exact ⟨h1, ⟨by simp only [World.cell?, hb']; rfl, by simp only [World.cell?, hb']; rfl, _, _, (World.cell?_of_block (hG.block g hgl (by simp))).trans q0, (World.cell?_of_block (hG.block g hgl (by simp))).trans q1⟩, hG⟩
        by_cases hv : (ls.getD z ([], [])).2 = []
        · rw [decide_eq_true hv] at HO
          rw [if_pos hv, List.append_nil] at hst
          have HS : Hid (fullL (ls.take (z + 1)) = fullL (ls.take z)) := hst
          clear hst hv hcell
          generalize ByteArray.mk ⟨(ls.getD z ([], [])).1⟩ = sn at *
          generalize ByteArray.mk ⟨(ls.getD z ([], [])).2⟩ = sv at *
          go_wp2_with fail
          refine (HO.out _ (World.grownBy_alloc _ _ none) (Go.heap_alloc_new wr _)).mono ?_
          rintro e w2 ⟨rfl, -, hg2⟩
          have H2 : Hid (∃ cur, OwnL w2 base (.slice (some ⟨g, 0, none⟩) n cap) cur ∧ cur.length = n ∧ cur.take k = fullL (ls.take (z + 1)) ∧ (∀ m, z + 1 ≤ m → m < n → cur.getD m ([], []) = ls.getD m ([], [])) ∧ w.grownBy w2 (some g)) := ⟨cur, HQ.out.1.keep hg2.out, HQ.out.2.1, by rw [HS.out]; exact HQ.out.2.2.1, fun m h1 h2 => HQ.out.2.2.2.1 m (by omega) h2, gb_none HQ.out.2.2.2.2 hg2.out⟩
          clear HO HQ HS hg2 c0 c1 q0 q1
          go_wp2
          go_roundw
          case rel => exact ⟨k, z + 1, by omega, by omega, rfl, by simp, H2.out⟩
          case measure => simp [intOf]; omega
        · rw [decide_eq_false hv] at HO
          rw [if_neg hv] at hst
          have HS : Hid (fullL (ls.take (z + 1)) = fullL (ls.take z) ++ [((ls.getD z ([], [])).1, (ls.getD z ([], [])).2)]) := hst
          clear hst hv hcell
          generalize (ls.getD z ([], [])).1 = tn at *
          generalize (ls.getD z ([], [])).2 = tv at *
          go_wp2_with fail
          refine (HO.out _ (World.grownBy_alloc _ _ none) (Go.heap_alloc_new wr _)).mono ?_
          rintro e w2 ⟨rfl, ⟨d0, d1, o0, o1, r0, r1⟩, hg2⟩
          have f0 := (HQ.out.1.keep hg2.out).frozen (k * 2)
          have f1 := (HQ.out.1.keep hg2.out).frozen (k * 2 + 1)
          have H2 : Hid (∃ cur, OwnL ((w2.setCell ⟨g, k * 2, none⟩ (.string (ByteArray.mk ⟨tn⟩))).setCell ⟨g, k * 2 + 1, none⟩ (.string (ByteArray.mk ⟨tv⟩))) base (.slice (some ⟨g, 0, none⟩) n cap) cur ∧ cur.length = n ∧ cur.take (k + 1) = fullL (ls.take (z + 1)) ∧ (∀ m, z + 1 ≤ m → m < n → cur.getD m ([], []) = ls.getD m ([], [])) ∧ w.grownBy ((w2.setCell ⟨g, k * 2, none⟩ (.string (ByteArray.mk ⟨tn⟩))).setCell ⟨g, k * 2 + 1, none⟩ (.string (ByteArray.mk ⟨tv⟩))) (some g)) := by
            obtain ⟨s1, s2⟩ := (HQ.out.1.keep hg2.out).set k (tn, tv)
            refine ⟨_, s1, by rw [List.length_set]; exact HQ.out.2.1, ?_, fun m h1 h2 => ?_, gb_trans (gb_none HQ.out.2.2.2.2 hg2.out) s2 (fun k' hk' _ => hk'.symm)⟩
            · rw [take_set_step _ (by rw [HQ.out.2.1]; omega), HQ.out.2.2.1, HS.out]
            · rw [set_getD_other _ (by omega)]
              exact HQ.out.2.2.2.1 m (by omega) h2
          clear HO HQ HS hg2 c0 c1 q0 q1
          go_wp2
          go_roundw
          case rel => exact ⟨k + 1, z + 1, by omega, by omega, by simp, by simp, H2.out⟩
          case measure => simp [intOf]; omega
      · have hzi : ¬ (z : Int) < (n : Int) := by omega
        have hzn' : z = n := by omega
        obtain ⟨w2, hcl, ho2, hg2⟩ := run_clearL HQ.out.1 HQ.out.2.1.symm k (by omega)
        have e : cur.take k = fullL ls := by rw [HQ.out.2.2.1, List.take_of_length_le (by have := HV.out.2.1; omega)]
        have ek : k = (fullL ls).length := by rw [← e, List.length_take, HQ.out.2.1]; omega
        have H2 : Hid (OwnL w2 base (.slice (some ⟨g, 0, none⟩) (fullL ls).length cap) (fullL ls) ∧ w.grownBy w2 (some g)) := ⟨by rw [e, ek] at ho2; exact ho2, gb_trans HQ.out.2.2.2.2 hg2 (fun k' hk' _ => hk'.symm)⟩
        clear HQ ho2 hg2 hcell e hzn'
        have hkc : (k : Int) ≤ (cap : Int) := by omega
        have hkc2 : (k : Int) ≤ (n : Int) := by omega
        have EK : Hid (k = (fullL ls).length) := ek
        clear ek
        have hn1 : ¬ k = n := by omega
        go_wp2
        go_ret
        exact ⟨by rw [← EK.out]; rfl, H2.out⟩
end Go.Proofs.YtkipnkpnkhfjhabGreatDoor
