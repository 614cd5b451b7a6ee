/-
  LbJj, LbJk, in one text.
-/
import Derived.Test.YtkipnkpnkhfjhabGreatDoorKmD
import Derived.Test.YtkipnkpnkhfjhabGreatDoorShelfI
import Derived.Sort.KeysCollected
import Derived.Sort.OwnSortedInts
import Derived.Maps.AppendAt
import Derived.Maps.RangeWalk
/- LbJj -/
namespace Go.Proofs.YtkipnkpnkhfjhabGreatDoor
open Go.RowKit Go.Maps Go.WideMaps Go.Sort

theorem infoSl : (Tryz.prog.info? 29).map (fun i => (i.zero, i.size, i.bytes)) = some (some (.slice none 0 0), 1, 24) := by kernel_rfl
def mkSl : Option (Nat × Nat × Nat) → Value
  | none => .slice none 0 0
  | some (b, n, c) => .slice (some ⟨b, 0, none⟩) n c
theorem mkSl_inv (v : Value) (y : DataW Unit × List MemPlace) (h : slElem v = some y) : ∃ c, v = mkSl c := by
  unfold slElem at h
  split at h
  · exact ⟨none, rfl⟩
  · exact ⟨some (_, _, _), rfl⟩
  · cases h
theorem mkN_inv (key : Value) (kl : Lit) (h : keyOf Tryz.prog 3 key = some kl) : ∃ x, key = Value.int .i64 x := by
  obtain ⟨x, h1, -⟩ := Maps.keyOf_int_inv Tryz.underlying3 h
  exact ⟨x, h1⟩
/-- the numbers met so far -/
def CollN (D0 : DataW Unit) (left : Lit → Bool) (ss : List Int) : Prop := ss.Nodup ∧ ∀ x, x ∈ ss ↔ (Maps.has D0 (.int .i64 x) = true ∧ left (.int .i64 x) = false)
theorem CollN.start (D0 : DataW Unit) : CollN D0 (Maps.has D0) [] := ⟨List.nodup_nil, fun x => by cases Maps.has D0 (.int .i64 x) <;> simp⟩
theorem sameKey_int (x y : Int) : (Lit.int .i64 x).sameKey (.int .i64 y) = decide (x = y) := by simp [Lit.sameKey]
theorem CollN.step {D0 : DataW Unit} {left : Lit → Bool} {ss : List Int} (h : CollN D0 left ss) {x : Int} {y : DataW Unit} (hlk : left (.int .i64 x) = true) (hat : ∀ zd, D0.atKey (.int .i64 x) zd = y) : CollN D0 (fun z => left z && !z.sameKey (.int .i64 x)) (ss ++ [x]) := by
  have hhas : Maps.has D0 (.int .i64 x) = true := has_true_of_atKey hat
  have hnew : x ∉ ss := fun hx => by have := ((h.2 x).1 hx).2; rw [hlk] at this; cases this
  refine ⟨List.nodup_append.2 ⟨h.1, by simp, fun a ha b hb => by simp at hb; subst hb; exact fun e => hnew (e ▸ ha)⟩, fun y => ?_⟩
  by_cases hy : y = x
  · subst hy
    simp [hhas, sameKey_int]
  · simp [h.2 y, hy, sameKey_int]
/-- rising lists with the same members are one -/
theorem sortedN_eq {ss ns : List Int} (h1 : ss.Nodup) (h2 : ns.Pairwise (fun a b => a < b)) (hm : ∀ x, x ∈ ss ↔ x ∈ ns) : ss.mergeSort (fun x y => decide (x ≤ y)) = ns := by
  have hn2 : ns.Nodup := h2.imp (fun h => by omega)
  have hp : ss.Perm ns := (List.perm_ext_iff_of_nodup h1 hn2).2 hm
  have hs := List.pairwise_mergeSort (le := fun x y : Int => decide (x ≤ y)) (fun a b c h1 h2 => by simp only [decide_eq_true_eq] at *; omega) (fun a b => by simp only [Bool.or_eq_true, decide_eq_true_eq]; omega) ss
  refine List.Perm.eq_of_pairwise (le := fun a b : Int => a ≤ b) (fun a b _ _ h1 h2 => by omega) (hs.imp (fun {a b} h => by simpa using h)) (h2.imp (fun h => by omega)) ((List.mergeSort_perm ss _).trans hp)
def numsI (rs : List IdR) : List Int := rs.map (fun r => (r.num : Int))
theorem numsI_of {w : World} {S : Nat → Prop} {gx last gs gh : Nat} {rs : List IdR} {Ds Dh : DataW Unit} {hv : BitVec 64 → Value} (h : PrjI w S gx rs last gs gh Ds Dh hv) {left : Lit → Bool} {ss : List Int} (hC : CollN Ds left ss) (hl : ∀ kl, left kl = false) :
    ss.mergeSort (fun x y => decide (x ≤ y)) = numsI rs := by
  refine sortedN_eq hC.1 ?_ (fun x => ?_)
  · unfold numsI
    rw [List.pairwise_map]
    exact h.rise.imp (fun h => by omega)
  · rw [hC.2 x, h.hasS, hl]
    unfold numsI
    simp only [List.any_eq_true, decide_eq_true_eq, and_true, List.mem_map]
theorem sortN_any (blk cap : Nat) (ss : List Int) (w : World) (hH : Holds (Value.int .i64) w blk 0 ss.toArray) (hblk : blk < w.heap.size) (hsz : ss.length < 4611686018427387904) :
    Calls Tryz.prog 51 #[.slice (some ⟨blk, 0, none⟩) ss.length cap] w fun e w' => e = .returned (.tuple #[]) ∧ ∃ n os, w' = grow (putRow (Value.int .i64) (Sort.ahead w n) blk 0 (ss.mergeSort fun x y => decide (x ≤ y)).toArray) os :=
  Any.slices_Sort_int Tryz.lays189 blk 0 cap ss w hH hblk hsz
/-- the sort of a row of the call's own -/
theorem sortN_own (w : World) (base g n cap : Nat) (ss : List Int) (h : OwnN w base (.slice (some ⟨g, 0, none⟩) n cap) ss) (hsz : n ≤ 1000) :
    Calls Tryz.prog 51 #[.slice (some ⟨g, 0, none⟩) n cap] w fun e w' => e = .returned (.tuple #[]) ∧ OwnN w' base (.slice (some ⟨g, 0, none⟩) n cap) (ss.mergeSort fun x y => decide (x ≤ y)) ∧ w.grownBy w' (some g) := by
  have hn := h.caps.1
  subst hn
  rcases h.2 with ⟨h', _⟩ | ⟨g', cap', cur, h', hbg, hh, hnc, hcm, hcs, htake⟩
  · simp at h'
  · simp only [Value.slice.injEq, Option.some.injEq, Addr.mk.injEq, and_true, true_and] at h'
    obtain ⟨rfl, rfl⟩ := h'
    have hH : Holds (Value.int .i64) w g 0 ss.toArray := holds_of_blockI hh (by rw [Nat.mul_one] at htake; exact htake)
    refine (sortN_any g cap ss w hH (some_lt hh) (by omega)).mono ?_
    rintro e w' ⟨rfl, nn, os, rfl⟩
    refine ⟨rfl, ?_, grownBy_sortedI _⟩
    have := ownsRow_sortedI (n := nn) (os := os) (ts := ss.mergeSort fun x y => decide (x ≤ y)) (ss := ss) (by simp) hbg hh hnc hcm hcs
    unfold OwnN
    rw [List.length_mergeSort]
    exact this
/-- a row of sets of the call's own -/
def OwnV (w : World) (base : Nat) (v : Value) (us : List Value) : Prop := w.ownsRow base 29 1 v us.length us
def valsI (rs : List IdR) : List Value := rs.map (fun r => r.val)
theorem OwnV.keep {w w' : World} {base : Nat} {v : Value} {us : List Value} (h : OwnV w base v us) (hg : w.grownBy w' none) : OwnV w' base v us := World.ownsRow.kept h hg (by cases v.ownBlock <;> simp)
theorem OwnV.len {w : World} {base g n c : Nat} {us : List Value} (h : OwnV w base (.slice (some ⟨g, 0, none⟩) n c) us) : n = us.length ∧ g < w.heap.size ∧ base ≤ g ∧ ∀ j, w.frozen? ⟨g, j, none⟩ = false := by
  rcases h.2 with ⟨h', _⟩ | ⟨g', cap', cur, h', hbg, hh, hnc, hcm, hcs, htake⟩
  · simp at h'
  · simp only [Value.slice.injEq, Option.some.injEq, Addr.mk.injEq, and_true] at h'
    obtain ⟨rfl, rfl, rfl⟩ := h'
    exact ⟨rfl, some_lt hh, hbg, fun j => by simp [World.frozen?, hh]⟩
theorem OwnV.cells {w : World} {base g n c : Nat} {us : List Value} (h : OwnV w base (.slice (some ⟨g, 0, none⟩) n c) us) : ∀ j, j < us.length → w.cell? ⟨g, j, none⟩ = some (us.getD j .nilFunc) := fun j hj => by
  have hn := h.len.1
  subst hn
  have := World.ownsRow.cellAt h j (by omega)
  rw [this]
  simp [List.getD, hj]
theorem OwnV.set {w : World} {base g n c : Nat} {us : List Value} (h : OwnV w base (.slice (some ⟨g, 0, none⟩) n c) us) (j : Nat) (x : Value) :
    OwnV (w.setCell ⟨g, j, none⟩ x) base (.slice (some ⟨g, 0, none⟩) n c) (us.set j x) ∧ w.grownBy (w.setCell ⟨g, j, none⟩ x) (some g) := by
  refine ⟨?_, gb_setI w g j _⟩
  have hn := h.len.1
  subst hn
  have := World.ownsRow.stored h j x
  unfold OwnV
  rw [List.length_set]
  exact this.1
theorem set_takeV {cur : List Value} {k : Nat} (x : Value) (hk : k < cur.length) : (cur.set k x).take (k + 1) = cur.take k ++ [x] := by
  rw [List.take_succ_eq_append_getElem (by simpa using hk), List.getElem_set_self, List.take_set_of_le (Nat.le_refl _)]
theorem valsI_take {rs : List IdR} {k : Nat} (hk : k < rs.length) : (valsI rs).take (k + 1) = (valsI rs).take k ++ [(rs.getD k idZ).val] := by
  rw [List.take_succ_eq_append_getElem (by simpa [valsI] using hk)]
  congr 1
  simp [valsI, hk]
theorem made_len (z : Value) (n : Nat) : (madeCells #[z] (n * 1)).toList.length = n := by
  simp [madeCells]
theorem cell_keepJ {w w' : World} {g j : Nat} {u : Value} (h : w.cell? ⟨g, j, none⟩ = some u) (hg : w.grownBy w' none) : w'.cell? ⟨g, j, none⟩ = some u := by
  rw [← h]
  exact World.cell?_of_block (hg.block g (block_lt h) (by simp))
end Go.Proofs.YtkipnkpnkhfjhabGreatDoor

/- LbJk -/
namespace Go.Proofs.YtkipnkpnkhfjhabGreatDoor
open Go.RowKit Go.Maps Go.WideMaps Go.Sort

set_option maxRecDepth 8000 in
set_option maxHeartbeats 12800000 in
theorem prjRising_any (w : World) (S : Nat → Prop) (gx last : Nat) (rs : List IdR) (h : PrjOK w S gx rs last) :
    Calls Tryz.prog 37 #[.pointer (some ⟨gx, 0, none⟩)] w fun e w' => ∃ g1 c1 g2 c2, e = .returned (.tuple #[.slice (some ⟨g1, 0, none⟩) rs.length c1, .slice (some ⟨g2, 0, none⟩) rs.length c2]) ∧ OwnN w' w.heap.size (.slice (some ⟨g1, 0, none⟩) rs.length c1) (numsI rs) ∧ OwnV w' w.heap.size (.slice (some ⟨g2, 0, none⟩) rs.length c2) (valsI rs) ∧ w.grownBy w' none := by
  obtain ⟨gs, gh, Ds, Dh, hv, h⟩ := h
  have HD : Hid (PrjI w S gx rs last gs gh Ds Dh hv) := h
  have hcell := h.cells.1
  have hlx : gx < w.heap.size := some_lt h.box
  have hmap := h.sets
  have hlast := h.lastB
  obtain ⟨N, hN⟩ : ∃ N, N = rs.length := ⟨_, rfl⟩
  have hmost : N ≤ 1000 := by rw [hN]; exact h.most
  have HSz : Hid (Maps.size Ds = N) := by rw [hN]; exact h.size
  have HN : Hid (rs.length = N) := hN.symm
  have hbl : gs < w.heap.size := hmap.lt
  rw [← hN]
  obtain ⟨i0, hi, hz0, hz1, hz2⟩ := info_parts infoInt
  obtain ⟨j0, hj, hy0, hy1, hy2⟩ := info_parts infoSl
  clear h hN
  go_enter Tryz.func37, Tryz.ntmps37
  go_wp2_with (first
    | (at_len; refine wpList_len_own _ rfl _ 48 rfl 3 29 Tryz.underlying48 _ gs last Ds rfl hmap ?_; rw [HSz.out])
    | (at_make; refine wpList_make_own _ rfl _ _ 71 rfl w.heap.size 3 i0 (.int .i64 0) 1 Tryz.underlying71 hi hz0 hz1 _ _ _ N rfl rfl rfl (by rw [hz2]; omega) (by unfold maxLen; omega) (Nat.le_refl _) ?_; intro w1 hrow1 hg1; have hc1 := cell_keepJ hcell hg1)
    | (at_range; refine wpList_range_own _ rfl _ 48 rfl 3 29 keyI Tryz.underlying48 _ gs last Ds rfl (hmap.kept hg1 (by simp)) ?_; intro w2 hrg2 hg2 hs2)
    | go_in)
  go_frame
  have HR2 : Hid (w2.ranges Tryz.prog 3 slElem gs w1.heap.size last Ds (Maps.has Ds) (Maps.size Ds) ∧ w1.grownBy w2 none ∧ w.grownBy w1 none ∧ w1.ownsRow w.heap.size 3 1 (.slice (some ⟨w.heap.size, 0, none⟩) 0 N) 0 []) := ⟨hrg2, hg2, hg1, hrow1⟩
  clear hrg2 hg2 hs2 hrow1 hg1 hc1 hcell
  go_loopw [4] (fun v wr => ∃ (left : Lit → Bool) (cnt : Nat) (ss : List Int), Hid (wr.ranges Tryz.prog 3 slElem gs w1.heap.size last Ds left cnt ∧ ss.length + cnt ≤ N ∧ OwnN wr w.heap.size v ss ∧ v ≠ .slice none 0 0 ∧ CollN Ds left ss ∧ w.grownBy wr none)) (fun _ wr => wr.rangeLeft gs w1.heap.size)
  case atStart =>
    exact ⟨_, _, [], HR2.out.1, by rw [HSz.out]; simp, HR2.out.2.2.2.kept HR2.out.2.1 (Or.inr (by simp [Value.ownBlock])), by simp, CollN.start Ds, gb_none HR2.out.2.2.1 HR2.out.2.1⟩
  case round =>
    obtain ⟨left, cnt, ss, HI⟩ := hrel
    have hrg := HI.out.1
    go_wp2_with (first
      | (at_next; refine wpList_next_ranges _ rfl _ rfl 3 keyI slElem (Value.int .i64) mkSl mkN_inv mkSl_inv gs w1.heap.size last Ds left cnt rfl hrg ?_ ?_)
      | go_in)
    · intro _ hl0
      obtain ⟨h1, h2, hrow, hnn, hC, hg⟩ := HI.out
      obtain ⟨g, n4, cap, rfl⟩ : ∃ g n cap, u4 = .slice (some ⟨g, 0, none⟩) n cap := by
        rcases hrow.2 with ⟨hnil, _⟩ | ⟨g, cap, cur, e, _⟩
        · exact absurd hnil hnn
        · exact ⟨g, _, cap, e⟩
      have hbase : w.heap.size ≤ g := (hrow.lt g rfl).1
      have hnl := hrow.caps.1
      have e1 : ss.mergeSort (fun x y => decide (x ≤ y)) = numsI rs := numsI_of HD.out hC hl0
      have hsl : ss.length = N := by
        have := congrArg List.length e1
        rw [List.length_mergeSort] at this
        rw [this]
        unfold numsI
        rw [List.length_map]
        exact HN.out
      have hn4 : n4 = N := by rw [hnl, hsl]
      subst hn4
      have HSo : Hid (Calls Tryz.prog 51 #[.slice (some ⟨g, 0, none⟩) n4 cap] wr fun e w' => e = .returned (.tuple #[]) ∧ OwnN w' w.heap.size (.slice (some ⟨g, 0, none⟩) n4 cap) (numsI rs) ∧ w.grownBy w' none) := by
        refine (sortN_own wr w.heap.size g n4 cap ss hrow hmost).mono ?_
        rintro e w' ⟨rfl, q1, q2⟩
        rw [e1] at q1
        exact ⟨rfl, q1, gb_new hg q2 (fun k hk => by cases hk; exact hbase)⟩
      clear h1 h2 hrow hnn hC hg hl0 hrg HI hbase hnl e1 hsl
      go_wp2_with fail
      refine HSo.out.mono ?_
      rintro e w3 ⟨rfl, ho3, hg3⟩
      have H3 : Hid (OwnN w3 w.heap.size (.slice (some ⟨g, 0, none⟩) n4 cap) (numsI rs) ∧ w.grownBy w3 none) := ⟨ho3, hg3⟩
      have hw3 := hg3.size
      clear ho3 hg3 HSo
      go_wp2_with (first
        | (at_make; refine wpList_make_full _ rfl _ _ 76 rfl w.heap.size 29 j0 (.slice none 0 0) 1 Tryz.underlying76 hj hy0 hy1 _ _ _ _ n4 rfl rfl rfl rfl (by rw [hy2]; omega) (by unfold maxLen; omega) hw3 ?_; intro w4 hrow4 hg4; go_frame)
        | go_in)
      have H4 : Hid (∃ cur, OwnV w4 w.heap.size (.slice (some ⟨w3.heap.size, 0, none⟩) n4 n4) cur ∧ OwnN w4 w.heap.size (.slice (some ⟨g, 0, none⟩) n4 cap) (numsI rs) ∧ w.grownBy w4 none ∧ g ≠ w3.heap.size) := by
        have hl : (madeCells (Value.slice none 0 0).cells (n4 * 1)).toList.length = n4 := made_len _ _
        have hlt := H3.out.1.caps.2.2.2.1
        refine ⟨(madeCells (Value.slice none 0 0).cells (n4 * 1)).toList, ?_, H3.out.1.keep hg4, gb_none H3.out.2 hg4, by omega⟩
        unfold OwnV
        rw [hl]
        exact hrow4
      clear hrow4 hg4 H3
      generalize w3.heap.size = g2 at *
      clear hw3
      go_loopw [37] (fun i wr => ∃ z : Nat, z ≤ n4 ∧ i = .int .i64 z ∧ Hid (∃ cur, OwnV wr w.heap.size (.slice (some ⟨g2, 0, none⟩) n4 n4) cur ∧ OwnN wr w.heap.size (.slice (some ⟨g, 0, none⟩) n4 cap) (numsI rs) ∧ w.grownBy wr none ∧ g ≠ g2 ∧ cur.take z = (valsI rs).take z)) (fun i _ => n4 - (intOf i).toNat)
      case atStart =>
        obtain ⟨cur, q1, q2, q3, q4⟩ := H4.out
        exact ⟨0, by omega, rfl, cur, q1, q2, q3, q4, rfl⟩
      case round =>
        obtain ⟨z, hzN, rfl, hr⟩ := hrel
        obtain ⟨cur, q1, q2, q3, q4, q5⟩ := hr.out
        obtain ⟨ql, qg, qb, qf⟩ := q1.len
        by_cases hzl : z < n4
        · have hzi : (z : Int) < (n4 : Int) := by omega
          have c0 := q2.cells z (by unfold numsI; rw [List.length_map, HN.out]; exact hzl)
          have hzr : z < rs.length := by rw [HN.out]; exact hzl
          have en : (numsI rs).getD z 0 = ((rs.getD z idZ).num : Int) := by simp [numsI, hzr]
          rw [en] at c0
          have cx : wr.cell? ⟨gx, 0, none⟩ = some (.map (some gs)) := (HD.out.keep q3).cells.1
          have lk := (HD.out.keep q3).lookS (getI_mem hzr)
          obtain ⟨va, vn, vc, hval⟩ : ∃ a n c, (rs.getD z idZ).val = .slice a n c := by
            rcases HD.out.shp _ (getI_mem hzr) with e | ⟨b, n, c, e⟩
            · exact ⟨_, _, _, e⟩
            · exact ⟨_, _, _, e⟩
          rw [hval] at lk
          have d0 := q1.cells z (by omega)
          have f0 := qf z
          have H2 : Hid (∃ cur, OwnV (wr.setCell ⟨g2, z, none⟩ (.slice va vn vc)) w.heap.size (.slice (some ⟨g2, 0, none⟩) n4 n4) cur ∧ OwnN (wr.setCell ⟨g2, z, none⟩ (.slice va vn vc)) w.heap.size (.slice (some ⟨g, 0, none⟩) n4 cap) (numsI rs) ∧ w.grownBy (wr.setCell ⟨g2, z, none⟩ (.slice va vn vc)) none ∧ g ≠ g2 ∧ cur.take (z + 1) = (valsI rs).take (z + 1)) := by
            obtain ⟨s1, s2⟩ := q1.set z (.slice va vn vc)
            refine ⟨_, s1, World.ownsRow.kept q2 s2 (.inr (by simp [Value.ownBlock]; exact q4)), gb_new q3 s2 (fun k hk => by cases hk; exact qb), q4, ?_⟩
            rw [set_takeV _ (by omega), valsI_take hzr, q5, hval]
          clear hr q1 q2 q3 q4 q5 ql qg qb qf en hzr hval H4
          generalize (rs.getD z idZ).num = m at *
          generalize cur.getD z .nilFunc = d at *
          go_wp2
          go_roundw
          case rel => exact ⟨z + 1, by omega, by simp, H2⟩
          case measure => simp [intOf]; omega
        · have hzi : ¬ (z : Int) < (n4 : Int) := by omega
          have hze : z = n4 := by omega
          have HF : Hid (OwnN wr w.heap.size (.slice (some ⟨g, 0, none⟩) n4 cap) (numsI rs) ∧ OwnV wr w.heap.size (.slice (some ⟨g2, 0, none⟩) n4 n4) (valsI rs) ∧ w.grownBy wr none) := by
            have e : cur = valsI rs := by
              rw [List.take_of_length_le (by omega), List.take_of_length_le (by unfold valsI; rw [List.length_map, HN.out]; omega)] at q5
              exact q5
            rw [e] at q1
            exact ⟨q2, q1, q3⟩
          clear hr q1 q2 q3 q4 q5 ql qg qb qf H4
          go_wp2
          go_ret2
          exact ⟨_, _, _, _, rfl, HF.out⟩
    · intro x c kl y ps w3 cnt3 hkey hlk hRv hat hrg3 hlt hg3 hs3 hen
      obtain ⟨x', hkx, rfl, hll⟩ := Maps.keyOf_int_inv Tryz.underlying3 hkey
      have hxl : x = x' := by injection hkx
      subst hxl
      obtain ⟨h1, h2, hrow, hnn, hC, hg⟩ := HI.out
      have hrow3 : OwnN w3 w.heap.size u4 ss := World.ownsRow.kept hrow hg3 (Or.inr (row_ne_iter hrow hrg).symm)
      have hw3 : w.grownBy w3 none := gb_new hg hg3 (fun k hk => by cases hk; exact HR2.out.2.2.1.size)
      have H3 : Hid (w3.ranges Tryz.prog 3 slElem gs w1.heap.size last Ds (fun z => left z && !z.sameKey (.int .i64 x)) cnt3 ∧ OwnN w3 w.heap.size u4 ss ∧ w.grownBy w3 none ∧ CollN Ds (fun z => left z && !z.sameKey (.int .i64 x)) (ss ++ [x]) ∧ wr.rangeLeft gs w1.heap.size = cnt ∧ cnt3 < cnt ∧ ss.length + cnt ≤ N) :=
        ⟨hrg3, hrow3, hw3, hC.step hlk hat, hrg.left_eq, hlt, h2⟩
      have hs3b := hw3.size
      clear hkx hkey hlk hRv hat hrg3 hlt hg3 hs3 hrg HI h1 h2 hrow hnn hC hg hw3 hll
      go_wp2_with (first
        | (at_builtin; refine wpList_append_own _ rfl _ _ 71 rfl w.heap.size 3 i0 (.int .i64 0) 1 8 Tryz.underlying71 hi hz0 hz1 hz2 rfl (by decide) _ _ _ rfl (World.ownsRow.alloc hrow3 _) ⟨w3.heap.size, 0, none⟩ 1 1 [.int .i64 x] rfl rfl (cell_one_new _ _ _) (by simp [Value.oneCell']) (by have := H3.out.2.2.2.2.2.2; unfold maxLen; omega) (by have := H3.out.2.2.2.2.2.2; omega) (by simp; omega) ?_; intro v4 w4 hown4 hg4 hnil4; go_frame)
        | go_in)
      have H4 : Hid (∃ (left : Lit → Bool) (cnt' : Nat) (ss : List Int), (w4.ranges Tryz.prog 3 slElem gs w1.heap.size last Ds left cnt' ∧ ss.length + cnt' ≤ N ∧ OwnN w4 w.heap.size v4 ss ∧ v4 ≠ .slice none 0 0 ∧ CollN Ds left ss ∧ w.grownBy w4 none) ∧ w4.rangeLeft gs w1.heap.size < wr.rangeLeft gs w1.heap.size) := by
        obtain ⟨hrg3, hrow3, hw3, hC, hle, hlt, hss⟩ := H3.out
        have hrg4 := (hrg3.alloc (.cells #[.int .i64 x] 3)).kept hg4 (row_ne_low hrow3 hbl) (row_ne_iter hrow3 hrg3)
        refine ⟨_, cnt3, ss ++ [x], ⟨hrg4, by simp; omega, ?_, fun hv' => by have := (hnil4.1 hv').2; omega, hC, ?_⟩, ?_⟩
        · unfold OwnN
          simpa [intV] using hown4
        · exact gb_new (gb_none hw3 (World.grownBy_alloc _ _ none)) hg4 (fun k hk => (World.ownsRow.lt hrow3 k hk).1)
        · rw [hrg4.left_eq, hle]; exact hlt
      obtain ⟨left4, cnt4, ss4, H5, hms⟩ := H4.out
      have H6 : Hid (w4.ranges Tryz.prog 3 slElem gs w1.heap.size last Ds left4 cnt4 ∧ ss4.length + cnt4 ≤ N ∧ OwnN w4 w.heap.size v4 ss4 ∧ v4 ≠ .slice none 0 0 ∧ CollN Ds left4 ss4 ∧ w.grownBy w4 none) := H5
      clear H3 H4 H5 hown4 hg4 hnil4 hrow3
      go_roundw
      case rel => exact ⟨left4, cnt4, ss4, H6⟩
      case measure => exact hms
end Go.Proofs.YtkipnkpnkhfjhabGreatDoor
