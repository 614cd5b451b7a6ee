/-
  LbJe, LbJg, LbJh, LbJi, in one text.
-/
import Derived.Test.YtkipnkpnkhfjhabGreatDoorKmC
import Derived.Test.YtkipnkpnkhfjhabGreatDoorLbDf
import Derived.Test.YtkipnkpnkhfjhabGreatDoorLbJd
/- LbJe -/
namespace Go.Proofs.YtkipnkpnkhfjhabGreatDoor
open Go.RowKit

def intV (n : Int) : Value := .int .i64 n
def OwnN (w : World) (base : Nat) (v : Value) (ns : List Int) : Prop := w.ownsRow base 3 1 v ns.length (ns.map intV)
theorem OwnN.keep {w w' : World} {base : Nat} {v : Value} {ns : List Int} (h : OwnN w base v ns) (hg : w.grownBy w' none) : OwnN w' base v ns := World.ownsRow.kept h hg (by cases v.ownBlock <;> simp)
theorem OwnN.caps {w : World} {base g n cap : Nat} {ns : List Int} (h : OwnN w base (.slice (some ⟨g, 0, none⟩) n cap) ns) : n = ns.length ∧ ns.length ≤ cap ∧ cap ≤ 9223372036854775807 ∧ g < w.heap.size ∧ ∀ j, w.frozen? ⟨g, j, none⟩ = false := by
  rcases h.2 with ⟨h', _⟩ | ⟨g', cap', cur, h', hbg, hh, hnc, hcm, hcs, htake⟩
  · simp at h'
  · simp only [Value.slice.injEq, Option.some.injEq, Addr.mk.injEq, and_true] at h'
    obtain ⟨rfl, rfl, rfl⟩ := h'
    exact ⟨rfl, hnc, by unfold maxLen at hcm; omega, some_lt hh, fun j => by simp [World.frozen?, hh]⟩
theorem OwnN.cells {w : World} {base g n cap : Nat} {ns : List Int} (h : OwnN w base (.slice (some ⟨g, 0, none⟩) n cap) ns) : ∀ j, j < ns.length → w.cell? ⟨g, j, none⟩ = some (.int .i64 (ns.getD j 0)) := fun j hj => by
  have hn := h.caps.1
  subst hn
  have := World.ownsRow.cellAt h j (by omega)
  rw [this, List.getElem?_map]
  have hg2 : ns[j]? = some (ns.getD j 0) := by simp [List.getD, hj]
  rw [hg2]
  rfl
theorem OwnN.set {w : World} {base g n cap : Nat} {ns : List Int} (h : OwnN w base (.slice (some ⟨g, 0, none⟩) n cap) ns) (j : Nat) (x : Int) :
    OwnN (w.setCell ⟨g, j, none⟩ (.int .i64 x)) base (.slice (some ⟨g, 0, none⟩) n cap) (ns.set j x) ∧ w.grownBy (w.setCell ⟨g, j, none⟩ (.int .i64 x)) (some g) := by
  refine ⟨?_, gb_setI w g j _⟩
  have hn := h.caps.1
  subst hn
  have := World.ownsRow.stored h j (intV x)
  unfold OwnN
  rw [List.length_set, List.map_set]
  exact this.1

theorem dropFn_any (W : World) (n id : Int) (ib : Nat) (hc : W.cell? ⟨ib, 0, none⟩ = some (.int .i64 id)) :
    Calls Tryz.prog 34 #[.int .i64 n, .pointer (some ⟨ib, 0, none⟩)] W fun e w' => e = .returned (.bool (decide (n = id))) ∧ w' = W := by
  by_cases h : n = id
  · subst h
    rw [decide_eq_true rfl]
    have hq : (n == n) = true := by simp
    go_enter Tryz.func34, Tryz.ntmps34
    go_wp2
    go_ret
    exact ⟨rfl, rfl⟩
  · rw [decide_eq_false h]
    have hq : (n == id) = false := by rw [beq_eq_false_iff_ne]; exact h
    go_enter Tryz.func34, Tryz.ntmps34
    go_wp2
    go_ret
    exact ⟨rfl, rfl⟩

set_option maxRecDepth 8000 in
set_option maxHeartbeats 3200000 in
theorem indexN_at (w : World) (base g n cap p ib : Nat) (ns : List Int) (id : Int) (hv : OwnN w base (.slice (some ⟨g, 0, none⟩) n cap) ns) (hc : w.cell? ⟨ib, 0, none⟩ = some (.int .i64 id)) (hp : p < ns.length) (h0 : ns.getD p 0 = id) (hno : ∀ j, j < p → ns.getD j 0 ≠ id) :
    Calls Tryz.prog 48 #[.slice (some ⟨g, 0, none⟩) n cap, .func (.func 34) #[] #[.pointer (some ⟨ib, 0, none⟩)]] w fun e w' => e = .returned (.int .i64 (p : Int)) ∧ w' = w := by
  have hce := hv.cells
  obtain ⟨hn, h1, h2, -, -⟩ := hv.caps
  have HX : Hid ((∀ j, j < ns.length → w.cell? ⟨g, j, none⟩ = some (.int .i64 (ns.getD j 0))) ∧ ns.getD p 0 = id ∧ (∀ j, j < p → ns.getD j 0 ≠ id) ∧ n = ns.length) := ⟨hce, h0, hno, hn⟩
  have HF : Hid (∀ m : Int, Calls Tryz.prog 34 #[.int .i64 m, .pointer (some ⟨ib, 0, none⟩)] w fun e w' => e = .returned (.bool (decide (m = id))) ∧ w' = w) := fun m => dropFn_any w m id ib hc
  have hpn : p < n := by omega
  have hnc : n ≤ cap := by omega
  clear hv hce h0 hno hn hp hc
  go_enter Tryz.func48, Tryz.ntmps48
  go_wp2
  go_loopw [8] (fun i wr => ∃ z : Nat, z ≤ p ∧ i = .int .i64 z ∧ Hid (wr = w)) (fun i _ => n - (intOf i).toNat)
  case atStart => exact ⟨0, by omega, rfl, rfl⟩
  case round =>
    obtain ⟨z, hzN, rfl, hw⟩ := hrel
    have hzi : (z : Int) < (n : Int) := by omega
    have hzn : z < n := by omega
    have c0 : wr.cell? ⟨g, z, none⟩ = some (.int .i64 (ns.getD z 0)) := by rw [hw.out]; exact HX.out.1 z (by have := HX.out.2.2.2; omega)
    have HFz : Hid (Calls Tryz.prog 34 #[.int .i64 (ns.getD z 0), .pointer (some ⟨ib, 0, none⟩)] wr fun e w' => e = .returned (.bool (decide (ns.getD z 0 = id))) ∧ w' = wr) := by rw [hw.out]; exact HF.out (ns.getD z 0)
    by_cases hzp : z = p
    · subst hzp
      rw [decide_eq_true HX.out.2.1] at HFz
      generalize ns.getD z 0 = m at *
      clear HX HF
      go_wp2_with fail
      refine HFz.out.mono ?_
      rintro e w1 ⟨rfl, hw1⟩
      rw [hw1]
      clear hw1 w1
      go_wp2
      go_ret
      exact ⟨rfl, hw.out⟩
    · rw [decide_eq_false (HX.out.2.2.1 z (by omega))] at HFz
      generalize ns.getD z 0 = m at *
      have HZP : Hid (z + 1 ≤ p) := by show z + 1 ≤ p; omega
      clear HX HF
      go_wp2_with fail
      refine HFz.out.mono ?_
      rintro e w1 ⟨rfl, hw1⟩
      rw [hw1]
      clear hw1 w1
      go_wp2
      go_roundw
      case rel => exact ⟨z + 1, HZP.out, by simp, hw.out⟩
      case measure => simp [intOf]; omega

/-- clear of the last number -/
theorem run_clearN {w : World} {base g n cap : Nat} {ns : List Int} (h : OwnN w base (.slice (some ⟨g, 0, none⟩) n cap) ns) (k : Nat) (hk : k < n) :
    ∃ w', (∀ ty c, (Builtin.clear_ #[71] ty #[.slice (some ⟨g, k, none⟩) (n - k) c]).run Tryz.prog w = .ok (.tuple #[]) w') ∧ OwnN w' base (.slice (some ⟨g, 0, none⟩) k cap) (ns.take k) ∧ w.grownBy w' (some g) := by
  have hn := h.caps.1
  subst hn
  rcases h.2 with ⟨h', _⟩ | ⟨g', cap', cur, h', hbg, hh, hnc, hcm, hcs, htake⟩
  · simp at h'
  · simp only [Value.slice.injEq, Option.some.injEq, Addr.mk.injEq, and_true, true_and] at h'
    obtain ⟨rfl, rfl⟩ := h'
    have hv : ∀ w, (zeroValue 3).run Tryz.prog w = .ok (.int .i64 0) w := Tryz.zeroValue3
    have hst := run_storeCells_at Tryz.prog g k 3 (List.replicate (ns.length - k) (Value.int .i64 0)) 0 cur w hh (by simp; omega) (by intro u hu; rw [List.eq_of_mem_replicate hu]; rfl)
    obtain ⟨m, hm⟩ : ∃ m, ns.length - k = m + 1 := ⟨ns.length - k - 1, by omega⟩
    have hzc : ∀ n, (Builtin.zeroCells #[Value.int .i64 0] n).toList = List.replicate n (Value.int .i64 0) := fun n => by
      simp [Builtin.zeroCells]
      apply List.ext_getElem
      · simp
      · intro i h1 h2
        simp [Nat.mod_one]
    have hzc := hzc (ns.length - k)
    have hlen2 : (List.replicate (ns.length - k) (Value.int .i64 0)).length = ns.length - k := List.length_replicate
    rw [Nat.add_zero, hlen2] at hst
    have htk : (cur.toList.take k).length = k := by rw [List.length_take, Array.length_toList]; omega
    refine ⟨w.setRow g (cur.toList.take k ++ List.replicate (ns.length - k) (Value.int .i64 0) ++ cur.toList.drop (k + (ns.length - k))).toArray, fun ty c => ?_, ?_, ?_⟩
    · rw [hm] at hst hzc ⊢
      simp [Builtin.clear_, run_underlying Tryz.underlying71, hv, Value.cells, hzc, hst]
    · refine ⟨?_, .inr ⟨g, cap, _, by simp; omega, hbg, setRow_heap w g cur _ 3 _ hh, ?_, hcm, ?_, ?_⟩⟩
      · simp
      · simp; omega
      · simp only [List.size_toArray, List.length_append, htk, hlen2, List.length_drop, Array.length_toList]
        omega
      · rw [List.length_take, Nat.min_eq_left (by omega), Nat.mul_one]
        rw [List.append_assoc, List.take_append_of_le_length (by omega), List.take_of_length_le (by omega)]
        have ht2 : cur.toList.take ns.length = ns.map intV := by rw [Nat.mul_one] at htake; exact htake
        rw [List.map_take, ← ht2, List.take_take, Nat.min_eq_left (by omega)]
    · exact ⟨rfl, rfl, rfl, by simp [World.setRow], fun j hj hne => setRow_other w g j _ (fun e => hne (by rw [e]))⟩
theorem erase_take {ns : List Int} {p z : Nat} (hp : p < z) (hz : z < ns.length) : (ns.eraseIdx p).take z = (ns.eraseIdx p).take (z - 1) ++ [ns.getD z 0] := by
  obtain ⟨k, rfl⟩ : ∃ k, z = k + 1 := ⟨z - 1, by omega⟩
  have hlen : (ns.eraseIdx p).length = ns.length - 1 := by rw [List.length_eraseIdx, if_pos (by omega)]
  have e : (ns.eraseIdx p)[k]'(by omega) = ns.getD (k + 1) 0 := by
    rw [List.getElem_eraseIdx, dif_neg (by omega)]
    simp [List.getD, hz]
  rw [List.take_succ_eq_append_getElem (by omega), e]
  rfl
end Go.Proofs.YtkipnkpnkhfjhabGreatDoor

/- LbJg -/
namespace Go.Proofs.YtkipnkpnkhfjhabGreatDoor
open Go.RowKit

theorem set_takeN {cur : List Int} {k : Nat} (x : Int) (hk : k < cur.length) : (cur.set k x).take (k + 1) = cur.take k ++ [x] := by
  rw [List.take_succ_eq_append_getElem (by simpa using hk), List.getElem_set_self, List.take_set_of_le (Nat.le_refl _)]
theorem set_getN {cur : List Int} {k m : Nat} (x : Int) (h : k ≠ m) : (cur.set k x).getD m 0 = cur.getD m 0 := by
  simp only [List.getD, List.getElem?_set_ne h]

set_option maxRecDepth 8000 in
set_option maxHeartbeats 6400000 in
theorem deleteN_at (w : World) (base g n cap p ib : Nat) (ns : List Int) (id : Int) (hv : OwnN w base (.slice (some ⟨g, 0, none⟩) n cap) ns) (hib : ib ≠ g) (hc : w.cell? ⟨ib, 0, none⟩ = some (.int .i64 id)) (hp : p < ns.length) (h0 : ns.getD p 0 = id) (hno : ∀ j, j < ns.length → j ≠ p → ns.getD j 0 ≠ id) :
    Calls Tryz.prog 33 #[.slice (some ⟨g, 0, none⟩) n cap, .func (.func 34) #[] #[.pointer (some ⟨ib, 0, none⟩)]] w fun e w' => e = .returned (.slice (some ⟨g, 0, none⟩) (n - 1) cap) ∧ OwnN w' base (.slice (some ⟨g, 0, none⟩) (n - 1) cap) (ns.eraseIdx p) ∧ w.grownBy w' (some g) := by
  have HI := hidJ (indexN_at w base g n cap p ib ns id hv hc hp h0 (fun j hj => hno j (by omega) (by omega)))
  obtain ⟨hn, h1, h2, hgl, -⟩ := hv.caps
  have hcl : ib < w.heap.size := block_lt hc
  have HV : Hid (OwnN w base (.slice (some ⟨g, 0, none⟩) n cap) ns ∧ n = ns.length ∧ w.cell? ⟨ib, 0, none⟩ = some (.int .i64 id) ∧ (∀ j, j < ns.length → j ≠ p → ns.getD j 0 ≠ id) ∧ (ns.eraseIdx p).take p = ns.take p ∧ (ns.eraseIdx p).length = ns.length - 1) := ⟨hv, hn, hc, hno, by
    rw [List.eraseIdx_eq_take_drop_succ, List.take_append_of_le_length (by rw [List.length_take]; omega), List.take_take, Nat.min_self], by rw [List.length_eraseIdx, if_pos hp]⟩
  have hpn : p < n := by omega
  have hnc : n ≤ cap := by omega
  have hkb : ((p : Int) == -1) = false := by rw [beq_eq_false_iff_ne]; omega
  have HER : Hid (∀ z, p < z → z < ns.length → (ns.eraseIdx p).take z = (ns.eraseIdx p).take (z - 1) ++ [ns.getD z 0]) := fun z h1 h2 => erase_take h1 h2
  generalize ns.eraseIdx p = es at *
  clear hv hn hp h0 hno hc h1
  go_enter Tryz.func33, Tryz.ntmps33
  go_wp2_with fail
  refine HI.out.mono ?_
  rintro e w1 ⟨rfl, hw1⟩
  rw [hw1]
  clear hw1 w1 HI
  go_wp2
  go_loopw [5, 6] (fun ui uj wr => ∃ k z : Nat, k < z ∧ z ≤ n ∧ ui = .int .i64 k ∧ uj = .int .i64 z ∧ Hid (z = k + 1 ∧ p < z ∧ ∃ cur, OwnN wr base (.slice (some ⟨g, 0, none⟩) n cap) cur ∧ cur.take k = es.take k ∧ (∀ m, z ≤ m → m < n → cur.getD m 0 = ns.getD m 0) ∧ w.grownBy wr (some g))) (fun _ uj _ => n - (intOf uj).toNat)
  case atStart => exact ⟨p, p + 1, by omega, by omega, rfl, by simp, rfl, by omega, ns, HV.out.1, HV.out.2.2.2.2.1.symm, fun _ _ _ => rfl, gb_refl _ _⟩
  case round =>
    obtain ⟨k, z, hkz, hzn, rfl, rfl, hr⟩ := hrel
    obtain ⟨hz, hpz, cur, hQ1, hQ2, hQ3, hQ4⟩ := hr.out
    obtain ⟨hq, -, -, -, hfz⟩ := hQ1.caps
    have hcell := hQ1.cells
    have HQ : Hid (OwnN wr base (.slice (some ⟨g, 0, none⟩) n cap) cur ∧ cur.length = n ∧ cur.take k = es.take k ∧ (∀ m, z ≤ m → m < n → cur.getD m 0 = ns.getD m 0) ∧ w.grownBy wr (some g) ∧ z = k + 1 ∧ p < z) := ⟨hQ1, hq.symm, hQ2, hQ3, hQ4, hz, hpz⟩
    have hic : wr.cell? ⟨ib, 0, none⟩ = some (.int .i64 id) := (World.cell?_of_block (hQ4.block ib hcl (by intro e; injection e with e; exact hib e))).trans HV.out.2.2.1
    clear hr hQ1 hQ2 hQ4 hz hq
    by_cases hzl : z < n
    · have hzi : (z : Int) < (n : Int) := by omega
      have hki : (k : Int) < (n : Int) := by omega
      have c0 := hcell z (by have := HQ.out.2.1; omega)
      have q0 := hcell k (by have := HQ.out.2.1; omega)
      have fk := hfz k
      rw [hQ3 z (Nat.le_refl _) hzl] at c0
      have HFz := hidJ (dropFn_any wr (ns.getD z 0) id ib hic)
      rw [decide_eq_false (HV.out.2.2.2.1 z (by have := HV.out.2.1; omega) (by omega))] at HFz
      have HS := hidJ (HER.out z hpz (by have := HV.out.2.1; omega))
      have H2 : Hid (∃ cur', OwnN (wr.setCell ⟨g, k, none⟩ (.int .i64 (ns.getD z 0))) base (.slice (some ⟨g, 0, none⟩) n cap) cur' ∧ cur'.take (k + 1) = es.take (k + 1) ∧ (∀ m, z + 1 ≤ m → m < n → cur'.getD m 0 = ns.getD m 0) ∧ w.grownBy (wr.setCell ⟨g, k, none⟩ (.int .i64 (ns.getD z 0))) (some g)) := by
        obtain ⟨s1, s2⟩ := HQ.out.1.set k (ns.getD z 0)
        have hzk := HQ.out.2.2.2.2.2.1
        refine ⟨_, s1, ?_, fun m h1 h2 => ?_, gb_trans HQ.out.2.2.2.2.1 s2 (fun k' hk' _ => hk'.symm)⟩
        · rw [set_takeN _ (by rw [HQ.out.2.1]; omega), HQ.out.2.2.1]
          have := HS.out
          rw [show z - 1 = k by omega, hzk] at this
          rw [hzk]
          exact this.symm
        · rw [set_getN _ (by omega)]
          exact HQ.out.2.2.2.1 m (by omega) h2
      have HZK : Hid (z = k + 1) := HQ.out.2.2.2.2.2.1
      clear hcell hQ3 HQ HS hic hfz
      generalize ns.getD z 0 = m at *
      generalize cur.getD k 0 = m0 at *
      go_wp2_with fail
      refine HFz.out.mono ?_
      rintro e w2 ⟨rfl, hw2⟩
      rw [hw2]
      clear hw2 w2 HFz
      go_wp2
      go_roundw
      case rel => exact ⟨k + 1, z + 1, by omega, by omega, by simp, by simp, by rw [HZK.out], by omega, H2.out⟩
      case measure => simp [intOf]; omega
    · have hzi : ¬ (z : Int) < (n : Int) := by omega
      have hkn : k = n - 1 := by have := HQ.out.2.2.2.2.2.1; omega
      obtain ⟨w2, hcl2, ho2, hg2⟩ := run_clearN HQ.out.1 k (by omega)
      have e : cur.take k = es := by
        rw [HQ.out.2.2.1]
        exact List.take_of_length_le (by rw [HV.out.2.2.2.2.2]; have := HV.out.2.1; omega)
      have H2 : Hid (OwnN w2 base (.slice (some ⟨g, 0, none⟩) k cap) es ∧ w.grownBy w2 (some g)) := ⟨by rw [e] at ho2; exact ho2, gb_trans HQ.out.2.2.2.2.1 hg2 (fun k' hk' _ => hk'.symm)⟩
      have HKN : Hid (k = n - 1) := hkn
      clear HQ ho2 hg2 hcell e hfz hQ3 hkn hic
      have hkc : (k : Int) ≤ (cap : Int) := by omega
      have hkc2 : (k : Int) ≤ (n : Int) := by omega
      have hn1 : ¬ k = n := by omega
      have hn2 : ¬ cap = k := by omega
      go_wp2
      go_ret
      exact ⟨by rw [← HKN.out]; rfl, by rw [← HKN.out]; exact H2.out.1, H2.out.2⟩
end Go.Proofs.YtkipnkpnkhfjhabGreatDoor

/- LbJh -/
namespace Go.Proofs.YtkipnkpnkhfjhabGreatDoor
open Go.RowKit Go.Maps Go.WideMaps

theorem ofH_app (A B : List IdR) (y : BitVec 64) : ofH (A ++ B) y = ofH A y ++ ofH B y := by
  unfold ofH
  rw [List.filter_append]
theorem ofH_cons_same (r : IdR) (B : List IdR) : ofH (r :: B) (hs r.lbs) = r :: ofH B (hs r.lbs) := by
  unfold ofH
  simp
theorem ofH_cons_other (r : IdR) (B : List IdR) {y : BitVec 64} (h : y ≠ hs r.lbs) : ofH (r :: B) y = ofH B y := by
  unfold ofH
  rw [List.filter_cons_of_neg (by simpa using fun e => h e.symm)]
theorem ofH_mid_same (A B : List IdR) (r : IdR) : ofH (A ++ r :: B) (hs r.lbs) = ofH A (hs r.lbs) ++ r :: ofH B (hs r.lbs) := by rw [ofH_app, ofH_cons_same]
theorem ofH_mid_other (A B : List IdR) (r : IdR) {y : BitVec 64} (h : y ≠ hs r.lbs) : ofH (A ++ r :: B) y = ofH (A ++ B) y := by rw [ofH_app, ofH_app, ofH_cons_other r B h]
theorem own_tightI {w : World} {k : TypeId} {gm n N : Nat} {D : DataW Unit} (h : w.ownsMap Tryz.prog k slElem gm n D) (hs : Maps.size D ≤ N) : w.ownsMap Tryz.prog k slElem gm N D := by
  obtain ⟨es, clock, hb, F, hn, rfl⟩ := h
  refine ⟨es, clock, hb, F, ?_, rfl⟩
  have : Maps.size (DataW.map ((es.toList.map (WideElems.rg Tryz.prog k slElem)).foldr DataW.insert []) : DataW Unit) = es.size := by simp [Maps.size, length_sorted]
  omega

theorem dropP_end {w w4 w5 w6 : World} {S : Nat → Prop} {gx last gs gh g : Nat} {A B : List IdR} {r : IdR} {Ds Dh Dh' : DataW Unit} {hv : BitVec 64 → Value} {v' : Value} (HW : PrjI w S gx (A ++ r :: B) last gs gh Ds Dh hv)
    (hvg : (hv (hs r.lbs)).ownBlock = some g) (hv'g : ∀ k, v'.ownBlock = some k → k = g)
    (ho4 : w4.ownsRow 0 3 1 v' (ofH (A ++ B) (hs r.lbs)).length (idsOf (A ++ B) (hs r.lbs))) (hg4 : w.grownBy w4 (some g))
    (hm5 : w5.ownsMap Tryz.prog 64 slElem gh last Dh') (hg5 : w4.grownBy w5 (some gh))
    (hasH' : ∀ y, Maps.has Dh' (.int .u64 (I64 y)) = !(ofH (A ++ B) y).isEmpty) (atH' : ∀ y, ofH (A ++ B) y ≠ [] → Dh'.atKey (.int .u64 (I64 y)) .nil = slD (hvSet hv (hs r.lbs) v' y))
    (hm6 : w6.ownsMap Tryz.prog 3 slElem gs last (Ds.del (.int .i64 (r.num : Int)))) (hg6 : w5.grownBy w6 (some gs)) :
    PrjI w6 S gx (A ++ B) last gs gh (Ds.del (.int .i64 (r.num : Int))) Dh' (hvSet hv (hs r.lbs) v') ∧ Ch w w6 S := by
  obtain ⟨nsx, nhx⟩ := HW.ne_sx
  have lx : gx < w.heap.size := some_lt HW.box
  have ls' : gs < w.heap.size := HW.sets.lt
  have lh : gh < w.heap.size := HW.hash.lt
  have z4 := hg4.size
  have z5 := hg5.size
  have z6 := hg6.size
  have hxne : ofH (A ++ r :: B) (hs r.lbs) ≠ [] := by rw [ofH_mid_same]; simp
  obtain ⟨g1, g2, g3, g4⟩ := HW.ne_row hxne hvg
  have hch : Ch w w6 (fun k => k = g ∨ k = gh ∨ k = gs) := by
    refine ⟨hg6.os.trans (hg5.os.trans hg4.os), hg6.tape.trans (hg5.tape.trans hg4.tape), hg6.output.trans (hg5.output.trans hg4.output), by omega, fun k hk hn => ?_⟩
    rw [hg6.block k (by omega) (fun e => hn (.inr (.inr (Option.some.inj e).symm.symm))), hg5.block k (by omega) (fun e => hn (.inr (.inl (Option.some.inj e).symm.symm)))]
    exact hg4.block k hk (fun e => hn (.inl (Option.some.inj e).symm.symm))
  have hmem : ∀ q ∈ A ++ B, q ∈ A ++ r :: B := fun q hq => by
    rcases List.mem_append.1 hq with h | h
    · exact List.mem_append.2 (.inl h)
    · exact List.mem_append.2 (.inr (List.mem_cons_of_mem _ h))
  have hrise := List.pairwise_append.1 HW.rise
  have hnum : ∀ q ∈ A ++ B, (q.num : Int) ≠ (r.num : Int) := fun q hq e => by
    rcases List.mem_append.1 hq with h | h
    · have := hrise.2.2 q h r (List.mem_cons_self ..)
      omega
    · have := (List.pairwise_cons.1 hrise.2.1).1 q h
      omega
  have hsub : ∀ y, ofH (A ++ B) y ≠ [] → ofH (A ++ r :: B) y ≠ [] := fun y hy => by
    by_cases e : y = hs r.lbs
    · rw [e]; exact hxne
    · rw [ofH_mid_other A B r e]; exact hy
  have hblk : ∀ y, ofH (A ++ B) y ≠ [] → ∀ k, (hvSet hv (hs r.lbs) v' y).ownBlock = some k → (hv y).ownBlock = some k := fun y _ k hk => by
    unfold hvSet at hk
    by_cases e : y = hs r.lbs
    · rw [if_pos e] at hk
      rw [e, hvg, hv'g k hk]
    · rw [if_neg e] at hk
      exact hk
  refine ⟨⟨?_, hm6, ?_, ?_, ?_, ?_, fun q hq => HW.shp q (hmem q hq), ?_, hasH', atH', ?_, HW.inX, HW.inS, HW.inH, ?_, ?_, HW.gsh, ?_, fun q hq => HW.upto q (hmem q hq), ?_, HW.lastB⟩, hch.mono (fun k _ hk => ?_)⟩
  · rw [hch.block lx (fun h => h.elim (fun h => g1 h.symm) (fun h => h.elim (fun h => nhx h.symm) (fun h => nsx h.symm)))]
    exact HW.box
  · exact mapI_via hm5 (hg6.block gh hm5.lt (fun e => HW.gsh (Option.some.inj e).symm))
  · have h1 := size_del (k := .int .i64 (r.num : Int)) (HW.sets.tidy keyI)
    rw [HW.hasS, HW.size] at h1
    simp only [List.any_append, List.any_cons, decide_true, Bool.true_or, Bool.or_true, if_true, List.length_append, List.length_cons] at h1
    simp only [List.length_append]
    omega
  · intro n
    by_cases hn : n = (r.num : Int)
    · subst hn
      rw [has_del_same, eq_comm, List.any_eq_false]
      intro q hq
      simpa using hnum q hq
    · rw [has_del_other (litI_ne hn), HW.hasS]
      have : decide ((r.num : Int) = n) = false := decide_eq_false (fun e => hn e.symm)
      simp only [List.any_append, List.any_cons, this, Bool.false_or]
  · intro q hq
    rw [atKey_del_other (litI_ne (hnum q hq))]
    exact HW.atS q (hmem q hq)
  · intro q hq
    have hRl := HW.each q (hmem q hq)
    have hno : ∀ k, q.val.ownBlock = some k → ¬ (k = g ∨ k = gh ∨ k = gs) := fun k hk h => by
      obtain ⟨q1, q2, q3, q4⟩ := HW.ne_val (hmem q hq) hk
      rcases h with h | h | h
      · exact q4 _ hxne (by rw [hvg, h])
      · exact q3 h
      · exact q2 h
    refine ⟨hRl.1.ch hch (fun k hk _ => hno k hk), fun k hk => ?_⟩
    obtain ⟨h1, cur, fr, h2⟩ := hRl.2 k hk
    exact ⟨h1, cur, fr, by rw [hch.block (some_lt h2) (hno k hk)]; exact h2⟩
  · intro y hy
    by_cases e : y = hs r.lbs
    · subst e
      have e2 : hvSet hv (hs r.lbs) v' (hs r.lbs) = v' := by unfold hvSet; rw [if_pos rfl]
      rw [e2]
      refine row_via ho4 (fun k hk => ?_)
      have hkg := hv'g k hk
      subst hkg
      rw [hg6.block k (by omega) (fun e => g2 (Option.some.inj e).symm.symm), hg5.block k (by omega) (fun e => g3 (Option.some.inj e).symm.symm)]
    · have e2 : hvSet hv (hs r.lbs) v' y = hv y := by unfold hvSet; rw [if_neg e]
      have e3 : idsOf (A ++ B) y = idsOf (A ++ r :: B) y := by unfold idsOf; rw [ofH_mid_other A B r e]
      rw [e2, e3, ← ofH_mid_other A B r e]
      refine row_via (HW.rows y (hsub y hy)) (fun k hk => ?_)
      obtain ⟨q1, q2, q3, q4⟩ := HW.ne_row (hsub y hy) hk
      refine hch.block q4 (fun h => ?_)
      rcases h with h | h | h
      · exact HW.apart (hs r.lbs) y hxne (hsub y hy) (fun e' => e e'.symm) g hvg (by rw [← h]; exact hk)
      · exact q3 h
      · exact q2 h
  · intro y hy k hk
    exact HW.inR y (hsub y hy) k (hblk y hy k hk)
  · intro y z hy hz hyz k hk hk2
    exact HW.apart y z (hsub y hy) (hsub z hz) hyz k (hblk y hy k hk) (hblk z hz k hk2)
  · exact List.pairwise_append.2 ⟨hrise.1, (List.pairwise_cons.1 hrise.2.1).2, fun p hp q hq => hrise.2.2 p hp q (List.mem_cons_of_mem _ hq)⟩
  · have := HW.most
    simp only [List.length_append, List.length_cons] at this ⊢
    omega
  · rcases hk with rfl | rfl | rfl
    · exact HW.inR _ hxne _ hvg
    · exact HW.inH
    · exact HW.inS

/-- the hash without any set more: its row is gone -/
theorem hashDel {w w4 : World} {S : Nat → Prop} {gx last gs gh : Nat} {A B : List IdR} {r : IdR} {Ds Dh : DataW Unit} {hv : BitVec 64 → Value} (v' : Value) (HW : PrjI w S gx (A ++ r :: B) last gs gh Ds Dh hv)
    (hm : w4.ownsMap Tryz.prog 64 slElem gh last Dh) (h0 : ofH (A ++ B) (hs r.lbs) = []) :
    ∃ w5 Dh', (∀ ty, (Builtin.delete_ #[49, 64] ty #[.map (some gh), .int .u64 (I64 (hs r.lbs))]).run Tryz.prog w4 = .ok (.tuple #[]) w5) ∧ w5.ownsMap Tryz.prog 64 slElem gh last Dh' ∧ w4.grownBy w5 (some gh) ∧
      (∀ y, Maps.has Dh' (.int .u64 (I64 y)) = !(ofH (A ++ B) y).isEmpty) ∧ (∀ y, ofH (A ++ B) y ≠ [] → Dh'.atKey (.int .u64 (I64 y)) .nil = slD (hvSet hv (hs r.lbs) v' y)) := by
  obtain ⟨w5, h1, h2, h3⟩ := hm.drop keyU Tryz.underlying49 (keyUn (hs r.lbs)) 0
  refine ⟨w5, _, fun _ => h1, h2, h3.grown, fun y => ?_, fun y hy => ?_⟩
  · by_cases e : y = hs r.lbs
    · subst e
      rw [has_del_same, h0]
      rfl
    · rw [has_del_other (litU_ne e), HW.hasH, ofH_mid_other A B r e]
  · have e : y ≠ hs r.lbs := fun e => hy (by rw [e]; exact h0)
    have e2 : hvSet hv (hs r.lbs) v' y = hv y := by unfold hvSet; rw [if_neg e]
    rw [atKey_del_other (litU_ne e), e2]
    exact HW.atH y (by rw [ofH_mid_other A B r e]; exact hy)
/-- the hash with other sets: its row is one shorter -/
theorem hashPut {w w4 : World} {S : Nat → Prop} {gx last gs gh : Nat} {A B : List IdR} {r : IdR} {Ds Dh : DataW Unit} {hv : BitVec 64 → Value} (v' : Value) (HW : PrjI w S gx (A ++ r :: B) last gs gh Ds Dh hv)
    (hm : w4.ownsMap Tryz.prog 64 slElem gh last Dh) (hs' : Shp v') (h0 : ofH (A ++ B) (hs r.lbs) ≠ []) :
    ∃ w5 Dh', ((Instr.mapUpdate 49 (.map (some gh)) (.int .u64 (I64 (hs r.lbs))) v').run Tryz.prog w4 = .ok () w5) ∧ w5.ownsMap Tryz.prog 64 slElem gh last Dh' ∧ w4.grownBy w5 (some gh) ∧
      (∀ y, Maps.has Dh' (.int .u64 (I64 y)) = !(ofH (A ++ B) y).isEmpty) ∧ (∀ y, ofH (A ++ B) y ≠ [] → Dh'.atKey (.int .u64 (I64 y)) .nil = slD (hvSet hv (hs r.lbs) v' y)) := by
  have hlb := HW.lastB
  obtain ⟨w5, h1, h2, h3⟩ := hm.update keyU Tryz.underlying49 (by unfold maxLen; omega) (keyUn (hs r.lbs)) (val := v') (d := slD v') (ps := []) hs'.elem
  have hxne : ofH (A ++ r :: B) (hs r.lbs) ≠ [] := by rw [ofH_mid_same]; simp
  have hhas : Maps.has Dh (.int .u64 (I64 (hs r.lbs))) = true := by
    rw [HW.hasH]
    cases e : ofH (A ++ r :: B) (hs r.lbs) with
    | nil => exact absurd e hxne
    | cons _ _ => rfl
  refine ⟨w5, _, h1, own_tightI h2 ?_, h3, fun y => ?_, fun y hy => ?_⟩
  · rw [size_put (hm.tidy keyU), hhas, if_pos rfl]
    exact hm.size_le
  · by_cases e : y = hs r.lbs
    · subst e
      rw [has_put_same hm.isMap (isKeyU _)]
      cases e : ofH (A ++ B) (hs r.lbs) with
      | nil => exact absurd e h0
      | cons _ _ => rfl
    · rw [has_put_other (litU_ne e), HW.hasH, ofH_mid_other A B r e]
  · by_cases e : y = hs r.lbs
    · subst e
      have e2 : hvSet hv (hs r.lbs) v' (hs r.lbs) = v' := by unfold hvSet; rw [if_pos rfl]
      rw [atKey_put_same hm.isMap (isKeyU _), e2]
    · have e2 : hvSet hv (hs r.lbs) v' y = hv y := by unfold hvSet; rw [if_neg e]
      rw [atKey_put_other (litU_ne e), e2]
      exact HW.atH y (by rw [ofH_mid_other A B r e]; exact hy)
/-- the map of sets without a number -/
theorem setsDel {w w5 : World} {S : Nat → Prop} {gx last gs gh : Nat} {rs : List IdR} {Ds Dh : DataW Unit} {hv : BitVec 64 → Value} (HW : PrjI w S gx rs last gs gh Ds Dh hv) {r : IdR} (hr : r ∈ rs)
    (hm : w5.ownsMap Tryz.prog 3 slElem gs last Ds) :
    ∃ w6, (∀ ty, (Builtin.delete_ #[48, 3] ty #[.map (some gs), .int .i64 (r.num : Int)]).run Tryz.prog w5 = .ok (.tuple #[]) w6) ∧ w6.ownsMap Tryz.prog 3 slElem gs last (Ds.del (.int .i64 (r.num : Int))) ∧ w5.grownBy w6 (some gs) := by
  have hu := HW.upto r hr
  have hb := HW.lastB
  obtain ⟨w6, h1, h2, h3⟩ := hm.drop keyI Tryz.underlying48 (keyIn (r.num : Int) (by omega) (by omega)) 0
  exact ⟨w6, fun _ => h1, h2, h3.grown⟩
end Go.Proofs.YtkipnkpnkhfjhabGreatDoor

/- LbJi -/
namespace Go.Proofs.YtkipnkpnkhfjhabGreatDoor
open Go.RowKit Go.Maps Go.WideMaps

theorem dropI_cases (rs : List IdR) (ls : List LbT) : (numI rs ls = (0, false) ∧ dropI rs ls = (5, rs)) ∨ ∃ A r B, rs = A ++ r :: B ∧ r.lbs = ls ∧ numI rs ls = ((r.num : Int), true) ∧ dropI rs ls = (0, A ++ B) := by
  rcases posI_cases rs ls with ⟨h1, h2⟩ | ⟨k, h1, hk, h2, h3⟩
  · have h := numI_none h2
    refine .inl ⟨h, ?_⟩
    unfold dropI
    rw [h]
    rfl
  · have h := numI_some hk h2 h3
    refine .inr ⟨rs.take k, rs.getD k idZ, rs.drop (k + 1), ?_, h2, h, ?_⟩
    · have e : rs.getD k idZ = rs[k] := by simp [List.getD, hk]
      rw [e, ← List.drop_eq_getElem_cons hk, List.take_append_drop]
    · unfold dropI
      rw [h, h1]
      simp
theorem gb_allocSet (w : World) (o : Obj) (u : Value) (j : Nat) : w.grownBy ((w.alloc o).setCell ⟨w.heap.size, j, none⟩ u) none := by
  have h1 := World.grownBy_alloc w o none
  have h2 := gb_setI (w.alloc o) w.heap.size j u
  refine ⟨h2.os.trans h1.os, h2.tape.trans h1.tape, h2.output.trans h1.output, Nat.le_trans h1.size h2.size, fun k hk _ => ?_⟩
  rw [h2.block k (Nat.lt_of_lt_of_le hk h1.size) (fun e => by injection e with e; omega)]
  exact h1.block k hk (by simp)

/-- the row of numbers of a hash, less the number of a set -/
theorem idsN {A B : List IdR} {r : IdR} {x : BitVec 64} (hx : hs r.lbs = x) (hrise : (A ++ r :: B).Pairwise (fun a b => a.num < b.num)) :
    ∃ (ns : List Int) (p : Nat), idsOf (A ++ r :: B) x = ns.map intV ∧ ns.length = (ofH (A ++ r :: B) x).length ∧ p < ns.length ∧ ns.getD p 0 = (r.num : Int) ∧ (∀ j, j < ns.length → j ≠ p → ns.getD j 0 ≠ (r.num : Int)) ∧ idsOf (A ++ B) x = (ns.eraseIdx p).map intV ∧ (ofH (A ++ B) x).length = ns.length - 1 := by
  subst hx
  refine ⟨(ofH (A ++ r :: B) (hs r.lbs)).map (fun q => (q.num : Int)), (ofH A (hs r.lbs)).length, ?_, ?_, ?_, ?_, ?_, ?_, ?_⟩
  · unfold idsOf
    rw [List.map_map]
    rfl
  · simp
  · rw [ofH_mid_same]
    simp
  · rw [ofH_mid_same]
    simp [List.getD]
  · intro j hj hne
    have hp : ((ofH (A ++ r :: B) (hs r.lbs)).map (fun q => (q.num : Int))).Pairwise (fun a b => a < b) := by
      rw [List.pairwise_map]
      exact (hrise.sublist List.filter_sublist).imp (fun h => by omega)
    have e : ((ofH (A ++ r :: B) (hs r.lbs)).map (fun q => (q.num : Int)))[(ofH A (hs r.lbs)).length]? = some (r.num : Int) := by
      rw [ofH_mid_same]
      simp
    have hl : (ofH A (hs r.lbs)).length < ((ofH (A ++ r :: B) (hs r.lbs)).map (fun q => (q.num : Int))).length := by
      rw [ofH_mid_same]
      simp
    generalize ((ofH (A ++ r :: B) (hs r.lbs)).map (fun q => (q.num : Int))) = ns at *
    generalize (ofH A (hs r.lbs)).length = p at *
    have ep : ns[p] = (r.num : Int) := by
      rw [List.getElem?_eq_getElem hl] at e
      exact Option.some.inj e
    have ej : ns.getD j 0 = ns[j] := by simp [List.getD, hj]
    rw [ej, ← ep]
    rw [List.pairwise_iff_getElem] at hp
    rcases Nat.lt_or_gt_of_ne hne with h | h
    · have := hp j p hj hl h
      omega
    · have := hp p j hl hj h
      omega
  · unfold idsOf
    rw [ofH_mid_same, ofH_app, List.map_append, List.map_append, List.map_cons]
    have hl : (ofH A (hs r.lbs)).length = ((ofH A (hs r.lbs)).map (fun q => (q.num : Int))).length := by simp
    rw [hl, List.eraseIdx_append_of_length_le (Nat.le_refl _), Nat.sub_self, List.eraseIdx_cons_zero, List.map_append, List.map_map, List.map_map]
    rfl
  · rw [ofH_mid_same, ofH_app]
    simp

def EndD (w3 w5 : World) (S : Nat → Prop) (gx gs ib last : Nat) (rs : List IdR) (num : Int) : Prop :=
  w5.cell? ⟨gx, 0, none⟩ = some (.map (some gs)) ∧ w5.cell? ⟨ib, 0, none⟩ = some (.int .i64 num) ∧ ∀ W, W = w5 ∨ W = w5.drew → ∃ w6, (∀ ty, (Builtin.delete_ #[48, 3] ty #[.map (some gs), .int .i64 num]).run Tryz.prog W = .ok (.tuple #[]) w6) ∧ Hid (PrjOK w6 S gx rs last ∧ Ch w3 w6 S)
theorem dropChain {w3 w4 : World} {S : Nat → Prop} {gx last gs gh g n cap ib : Nat} {A B : List IdR} {r : IdR} {Ds Dh : DataW Unit} {hv : BitVec 64 → Value} (HW : PrjI w3 S gx (A ++ r :: B) last gs gh Ds Dh hv)
    (hvx : hv (hs r.lbs) = .slice (some ⟨g, 0, none⟩) n cap) (hib : w3.cell? ⟨ib, 0, none⟩ = some (.int .i64 (r.num : Int))) (hib2 : ib ≠ g ∧ ib ≠ gh ∧ ib ≠ gs)
    (ho4 : w4.ownsRow 0 3 1 (.slice (some ⟨g, 0, none⟩) (n - 1) cap) (ofH (A ++ B) (hs r.lbs)).length (idsOf (A ++ B) (hs r.lbs))) (hg4 : w3.grownBy w4 (some g)) :
    w4.cell? ⟨gx, 1, none⟩ = some (.map (some gh)) ∧
    ((ofH (A ++ B) (hs r.lbs)).length = 0 → ∃ w5, (∀ ty, (Builtin.delete_ #[49, 64] ty #[.map (some gh), .int .u64 (I64 (hs r.lbs))]).run Tryz.prog w4 = .ok (.tuple #[]) w5) ∧ EndD w3 w5 S gx gs ib last (A ++ B) (r.num : Int)) ∧
    ((ofH (A ++ B) (hs r.lbs)).length ≠ 0 → ∃ w5, (Instr.mapUpdate 49 (.map (some gh)) (.int .u64 (I64 (hs r.lbs))) (.slice (some ⟨g, 0, none⟩) (n - 1) cap)).run Tryz.prog w4 = .ok () w5 ∧ EndD w3 w5 S gx gs ib last (A ++ B) (r.num : Int)) := by
  have hxne : ofH (A ++ r :: B) (hs r.lbs) ≠ [] := by rw [ofH_mid_same]; simp
  have hvg : (hv (hs r.lbs)).ownBlock = some g := by rw [hvx]; rfl
  obtain ⟨g1, g2, g3, g4⟩ := HW.ne_row hxne hvg
  obtain ⟨nsx, nhx⟩ := HW.ne_sx
  have hx4 : w4.heap[gx]? = _ := (hg4.block gx (some_lt HW.box) (fun e => g1 (Option.some.inj e).symm)).trans HW.box
  have hm4 : w4.ownsMap Tryz.prog 64 slElem gh last Dh := mapI_via HW.hash (hg4.block gh HW.hash.lt (fun e => g3 (Option.some.inj e).symm))
  have hmr : r ∈ A ++ r :: B := List.mem_append.2 (.inr (List.mem_cons_self ..))
  have key : ∀ w5 Dh', w5.ownsMap Tryz.prog 64 slElem gh last Dh' → w4.grownBy w5 (some gh) → (∀ y, Maps.has Dh' (.int .u64 (I64 y)) = !(ofH (A ++ B) y).isEmpty) → (∀ y, ofH (A ++ B) y ≠ [] → Dh'.atKey (.int .u64 (I64 y)) .nil = slD (hvSet hv (hs r.lbs) (.slice (some ⟨g, 0, none⟩) (n - 1) cap) y)) → EndD w3 w5 S gx gs ib last (A ++ B) (r.num : Int) := fun w5 Dh' h1 h2 h3 h4 => by
    have z4 := hg4.size
    have hx5 : w5.heap[gx]? = _ := (h2.block gx (some_lt hx4) (fun e => nhx (Option.some.inj e).symm)).trans hx4
    have hb5 : w5.heap[ib]? = w3.heap[ib]? := (h2.block ib (Nat.lt_of_lt_of_le (block_lt hib) z4) (fun e => hib2.2.1 (Option.some.inj e).symm.symm)).trans (hg4.block ib (block_lt hib) (fun e => hib2.1 (Option.some.inj e).symm.symm))
    have hs5 : w5.ownsMap Tryz.prog 3 slElem gs last Ds := mapI_via HW.sets ((h2.block gs (Nat.lt_of_lt_of_le HW.sets.lt z4) (fun e => HW.gsh (Option.some.inj e).symm.symm)).trans (hg4.block gs HW.sets.lt (fun e => g2 (Option.some.inj e).symm)))
    refine ⟨by simp [World.cell?, hx5], (World.cell?_of_block hb5).trans hib, fun W hW => ?_⟩
    rcases hW with rfl | rfl
    · obtain ⟨w6, q1, q2, q3⟩ := setsDel HW hmr hs5
      have := dropP_end HW hvg (fun k hk => by cases hk; rfl) ho4 hg4 h1 h2 h3 h4 q2 q3
      exact ⟨w6, q1, ⟨_, _, _, _, _, this.1⟩, this.2⟩
    · obtain ⟨w6, q1, q2, q3⟩ := setsDel HW hmr hs5.drew
      have := dropP_end HW hvg (fun k hk => by cases hk; rfl) ho4 hg4 h1.drew (gb_trans h2 (gb_drew _ none) (fun k hk _ => by cases hk)) h3 h4 q2 q3
      exact ⟨w6, q1, ⟨_, _, _, _, _, this.1⟩, this.2⟩
  refine ⟨by simp [World.cell?, hx4], fun h0 => ?_, fun h0 => ?_⟩
  · obtain ⟨w5, Dh', q1, q2, q3, q4, q5⟩ := hashDel (.slice (some ⟨g, 0, none⟩) (n - 1) cap) HW hm4 (List.eq_nil_of_length_eq_zero h0)
    exact ⟨w5, q1, key w5 Dh' q2 q3 q4 q5⟩
  · obtain ⟨w5, Dh', q1, q2, q3, q4, q5⟩ := hashPut (.slice (some ⟨g, 0, none⟩) (n - 1) cap) HW hm4 (.inr ⟨g, n - 1, cap, rfl⟩) (fun e => h0 (by rw [e]; rfl))
    exact ⟨w5, q1, key w5 Dh' q2 q3 q4 q5⟩

set_option maxRecDepth 8000 in
set_option maxHeartbeats 12800000 in
theorem prjDrop_any (w : World) (S : Nat → Prop) (gx last : Nat) (rs : List IdR) (u : Value) (ls : List LbT) (h : PrjOK w S gx rs last) (hu : RdL w u ls) (hl : LbIn ls) :
    Calls Tryz.prog 13 #[.pointer (some ⟨gx, 0, none⟩), u] w fun e w' => e = .returned (.int .i64 (dropI rs ls).1) ∧ PrjOK w' S gx (dropI rs ls).2 last ∧ Ch w w' S := by
  obtain ⟨gs, gh, Ds, Dh, hv, h⟩ := h
  have HFI := hidJ (prjFind_any w S gx last gs gh rs Ds Dh hv u ls h hu hl)
  obtain ⟨ua, uc, rfl⟩ : ∃ a c, u = .slice a ls.length c := by obtain ⟨a, c, h, _⟩ := hu; exact ⟨a, c, h⟩
  rcases dropI_cases rs ls with ⟨hn, hd⟩ | ⟨A, r, B, hrs, hrl, hn, hd⟩
  · rw [hn] at HFI
    rw [hd]
    have HW : Hid (PrjI w S gx rs last gs gh Ds Dh hv) := h
    have HFIN : Hid (∀ w1 o, w.grownBy w1 none → PrjOK (w1.alloc o) S gx rs last ∧ Ch w (w1.alloc o) S) := fun w1 o hg => by
      have hg' := gb_none hg (World.grownBy_alloc w1 o none)
      exact ⟨⟨_, _, _, _, _, HW.out.keep hg'⟩, Ch.of_gb hg' (fun k hk => by cases hk)⟩
    clear h hu hl hn hd
    go_enter Tryz.func13, Tryz.ntmps13
    go_wp2_with fail
    refine HFI.out.mono ?_
    rintro e w1 ⟨rfl, hg1⟩
    have H1 := hidJ hg1
    clear hg1 HFI
    go_wp2
    go_ret
    exact ⟨rfl, HFIN.out w1 _ H1.out⟩
  · rw [hn] at HFI
    rw [hd]
    subst hrs
    subst hrl
    have hxne : ofH (A ++ r :: B) (hs r.lbs) ≠ [] := by rw [ofH_mid_same]; simp
    have hrow := h.rows (hs r.lbs) hxne
    obtain ⟨g, n, cap, hvx⟩ : ∃ g n cap, hv (hs r.lbs) = .slice (some ⟨g, 0, none⟩) n cap := by
      rcases hrow.2 with ⟨e, hn⟩ | ⟨g, cap, cur, e, _⟩
      · exact absurd (List.eq_nil_of_length_eq_zero hn) hxne
      · exact ⟨g, _, cap, e⟩
    have hgn := h.ne_row hxne (by rw [hvx]; rfl : (hv (hs r.lbs)).ownBlock = some g)
    have hlS := h.sets.lt
    have hlH := h.hash.lt
    obtain ⟨ns, p, i1, i2, i3, i4, i5, i6, i7⟩ := idsN (A := A) (B := B) (r := r) rfl h.rise
    have hnn : n = ns.length := by
      rw [hvx, ← i2] at hrow
      rcases hrow.2 with ⟨e, _⟩ | ⟨g', cap', cur, e, _⟩
      · simp at e
      · injection e with _ e _
    have HW : Hid (PrjI w S gx (A ++ r :: B) last gs gh Ds Dh hv) := h
    have HRD : Hid (RdL w (.slice ua r.lbs.length uc) r.lbs ∧ LbIn r.lbs) := ⟨hu, hl⟩
    have HLK : Hid (∀ W, w.grownBy W none → (Instr.lookup 49 (.map (some gh)) (.int .u64 (I64 (hs r.lbs))) false).run Tryz.prog W = .ok (.slice (some ⟨g, 0, none⟩) n cap) W) := fun W hW => by
      have := (HW.out.keep hW).lookH (hs r.lbs)
      unfold rowH at this
      rw [if_neg hxne, hvx] at this
      exact this
    have HHA : Hid (∀ W, w.grownBy W none → Calls Tryz.prog 28 #[.slice ua r.lbs.length uc] W fun e w3 => e = .returned (.int .u64 (I64 (hs r.lbs))) ∧ w3.cell? ⟨gx, 1, none⟩ = some (.map (some gh)) ∧ (Instr.lookup 49 (.map (some gh)) (.int .u64 (I64 (hs r.lbs))) false).run Tryz.prog w3 = .ok (.slice (some ⟨g, 0, none⟩) n cap) w3 ∧ Hid (W.grownBy w3 none)) := fun W hW =>
      (hash_any W _ r.lbs (HRD.out.1.keep hW) HRD.out.2).mono fun e w3 ⟨h1, h2⟩ => ⟨h1, (HW.out.keep (gb_none hW h2)).cells.2.1, HLK.out w3 (gb_none hW h2), h2⟩
    have HDL : Hid (∀ w3 ib, w.grownBy w3 none → w.heap.size ≤ ib → w3.cell? ⟨ib, 0, none⟩ = some (.int .i64 (r.num : Int)) → Calls Tryz.prog 33 #[.slice (some ⟨g, 0, none⟩) n cap, .func (.func 34) #[] #[.pointer (some ⟨ib, 0, none⟩)]] w3 fun e w4 => e = .returned (.slice (some ⟨g, 0, none⟩) (n - 1) cap) ∧ w4.cell? ⟨gx, 1, none⟩ = some (.map (some gh)) ∧
        (n - 1 = 0 → ∃ w5, (∀ ty, (Builtin.delete_ #[49, 64] ty #[.map (some gh), .int .u64 (I64 (hs r.lbs))]).run Tryz.prog w4 = .ok (.tuple #[]) w5) ∧ EndD w3 w5 S gx gs ib last (A ++ B) (r.num : Int)) ∧
        (n - 1 ≠ 0 → ∃ w5, (Instr.mapUpdate 49 (.map (some gh)) (.int .u64 (I64 (hs r.lbs))) (.slice (some ⟨g, 0, none⟩) (n - 1) cap)).run Tryz.prog w4 = .ok () w5 ∧ EndD w3 w5 S gx gs ib last (A ++ B) (r.num : Int))) := fun w3 ib hg hib hc => by
      have hk := HW.out.keep hg
      have hr3 := hk.rows (hs r.lbs) hxne
      rw [hvx, i1, ← i2] at hr3
      have ho : OwnN w3 0 (.slice (some ⟨g, 0, none⟩) n cap) ns := hr3
      refine (deleteN_at w3 0 g n cap p ib ns (r.num : Int) ho (by omega) hc i3 i4 i5).mono fun e w4 ⟨h1, h2, h3⟩ => ?_
      have hl2 : (ns.eraseIdx p).length = ns.length - 1 := by rw [List.length_eraseIdx, if_pos i3]
      unfold OwnN at h2
      rw [hl2, ← i7, ← i6] at h2
      have := dropChain hk hvx hc ⟨by omega, by omega, by omega⟩ h2 h3
      rw [i7, ← hnn] at this
      exact ⟨h1, this.1, this.2.1, this.2.2⟩
    have hn1 : 1 ≤ n := by omega
    have hncap : n ≤ 1000 := by
      have := HW.out.most
      have h2 : (ofH (A ++ r :: B) (hs r.lbs)).length ≤ (A ++ r :: B).length := List.length_filter_le _ _
      omega
    obtain ⟨m, hm⟩ : ∃ m, n - 1 = m := ⟨_, rfl⟩
    have hmb : m ≤ 1000 := by omega
    rw [hm] at HDL
    clear h hu hl hn hd hrow hvx hgn i1 i2 i3 i4 i5 i6 i7 hnn hxne hlS hlH HRD HLK hm hn1 hncap
    have HSZ : Hid (∀ w1, w.grownBy w1 none → w.heap.size ≤ w1.heap.size) := fun w1 h => h.size
    have HFIN : Hid (∀ w3 w6, w.grownBy w3 none → Ch w3 w6 S → Ch w w6 S) := fun w3 w6 h1 h2 => Ch.trans (Ch.of_gb h1 (fun k hk => by cases hk)) h2 (fun k _ h => h)
    generalize hs r.lbs = x at *
    generalize r.num = num at *
    go_enter Tryz.func13, Tryz.ntmps13
    go_wp2_with fail
    refine HFI.out.mono ?_
    rintro e w1 ⟨rfl, hg1⟩
    have H1 := hidJ hg1
    clear hg1 HFI
    go_wp2_with fail
    refine (HHA.out _ ?_).mono ?_
    · exact gb_none H1.out (World.grownBy_alloc _ _ none)
    rintro e w3 ⟨rfl, c1, lk, H3⟩
    have H3' : Hid (w.grownBy w3 none) := gb_none (gb_none H1.out (World.grownBy_alloc _ _ none)) H3.out
    have HC3 : Hid (w3.cell? ⟨w1.heap.size, 0, none⟩ = some (.int .i64 (num : Int))) := by
      have e1 : w3.heap[w1.heap.size]? = _ := (H3.out.block w1.heap.size (by simp) (by simp)).trans (alloc_atI w1 _)
      show w3.cell? ⟨w1.heap.size, 0, none⟩ = some (.int .i64 (num : Int))
      simp [World.cell?, e1]
    have HI := hidJ (HSZ.out w1 H1.out)
    generalize w1.heap.size = ib at *
    clear H3 HHA H1
    go_wp2_with fail
    refine (HDL.out w3 ib H3'.out HI.out HC3.out).mono ?_
    rintro e w4 ⟨rfl, d1, hz, hnz⟩
    have HZ := hidJ hz
    have HNZ := hidJ hnz
    clear hz hnz HDL HC3 lk c1
    by_cases hm0 : m = 0
    · obtain ⟨w5, hrun, e0, eb, hend⟩ := HZ.out hm0
      subst hm0
      obtain ⟨w6, hr6, H6⟩ := hend w5 (.inl rfl)
      obtain ⟨w7, hr7, H7⟩ := hend w5.drew (.inr rfl)
      clear hend HZ HNZ
      go_wp2_with fail
      go_region
      all_goals (try go_wp2)
      all_goals go_ret
      all_goals first | exact ⟨rfl, H6.out.1, HFIN.out w3 w6 H3'.out H6.out.2⟩ | exact ⟨rfl, H7.out.1, HFIN.out w3 w7 H3'.out H7.out.2⟩
    · obtain ⟨w5, hrun, e0, eb, hend⟩ := HNZ.out hm0
      obtain ⟨w6, hr6, H6⟩ := hend w5 (.inl rfl)
      obtain ⟨w7, hr7, H7⟩ := hend w5.drew (.inr rfl)
      have hmi : ((m : Int) == 0) = false := by rw [beq_eq_false_iff_ne]; omega
      clear hend HZ HNZ
      go_wp2_with fail
      go_region
      all_goals (try go_wp2)
      all_goals go_ret
      all_goals first | exact ⟨rfl, H6.out.1, HFIN.out w3 w6 H3'.out H6.out.2⟩ | exact ⟨rfl, H7.out.1, HFIN.out w3 w7 H3'.out H7.out.2⟩
end Go.Proofs.YtkipnkpnkhfjhabGreatDoor
