/-
  Nft, Nfu, Nfv, Nfw, in one text.
-/
import Derived.Test.YtbnieljkadcaoaaDoorNfk
/- Nft -/
namespace Go.Proofs.YtbnieljkadcaoaaDoor
open Go.RowKit Go.Shelf Go.Sort

/-- of the first so many, the places where another set begins -/
def keepI (lss : List (List LbT)) (y : Nat) : List Nat := (List.range y).filter fun i => decide (i = 0) || decide (lss.getD i [] ≠ lss.getD (i - 1) [])
theorem keepI_zero (lss : List (List LbT)) : keepI lss 0 = [] := rfl
theorem keepI_one (lss : List (List LbT)) : keepI lss 1 = [0] := by simp [keepI, List.range_succ]
theorem keepI_same {lss : List (List LbT)} {y : Nat} (h : lss.getD (y + 1) [] = lss.getD y []) : keepI lss (y + 2) = keepI lss (y + 1) := by
  unfold keepI
  rw [List.range_succ, List.filter_append]
  have : List.filter (fun i => decide (i = 0) || decide (lss.getD i [] ≠ lss.getD (i - 1) [])) [y + 1] = [] := by
    rw [List.filter_cons_of_neg]
    · rfl
    · rw [Nat.add_sub_cancel, h]
      simp
  rw [this, List.append_nil]
theorem keepI_other {lss : List (List LbT)} {y : Nat} (h : lss.getD (y + 1) [] ≠ lss.getD y []) : keepI lss (y + 2) = keepI lss (y + 1) ++ [y + 1] := by
  unfold keepI
  rw [List.range_succ, List.filter_append]
  have : List.filter (fun i => decide (i = 0) || decide (lss.getD i [] ≠ lss.getD (i - 1) [])) [y + 1] = [y + 1] := by
    rw [List.filter_cons_of_pos]
    · rfl
    · rw [Nat.add_sub_cancel, decide_eq_true h]
      simp
  rw [this]
/-- the values there -/
def pickV (vs : List Value) (is : List Nat) : List Value := is.map fun i => vs.getD i nilV
def pickS (lss : List (List LbT)) (is : List Nat) : List (List LbT) := is.map fun i => lss.getD i []
theorem pickV_range (vs : List Value) : pickV vs (List.range vs.length) = vs := by
  apply List.ext_getElem
  · simp [pickV]
  · intro i h1 h2
    simp [pickV, h2]
theorem pick_rd {w : World} {vs : List Value} {lss : List (List LbT)} (h : RdS w vs lss) (is : List Nat) : RdS w (pickV vs is) (pickS lss is) := by
  refine ⟨by simp [pickV, pickS], fun j => ?_⟩
  by_cases hj : j < is.length
  · have e1 : (pickV vs is).getD j nilV = vs.getD is[j] nilV := by simp [pickV, List.getD, hj]
    have e2 : (pickS lss is).getD j [] = lss.getD is[j] [] := by simp [pickS, List.getD, hj]
    rw [e1, e2]
    exact h.2 _
  · have e1 : (pickV vs is).getD j nilV = nilV := by simp [pickV, List.getD, List.getElem?_eq_none (show is.length ≤ j by omega)]
    have e2 : (pickS lss is).getD j [] = [] := by simp [pickS, List.getD, List.getElem?_eq_none (show is.length ≤ j by omega)]
    rw [e1, e2]
    exact RdL.nil w
theorem keepI_le (lss : List (List LbT)) (y : Nat) : (keepI lss y).length ≤ y := by
  have := List.length_filter_le (fun i => decide (i = 0) || decide (lss.getD i [] ≠ lss.getD (i - 1) [])) (List.range y)
  simpa [keepI] using this
set_option maxHeartbeats 1600000 in
theorem sorted1_any (w : World) (v u : Value) (ls ms : List LbT) (hv : RdL w v ls) (hu : RdL w u ms) :
    Calls Tryd.prog 39 #[v, u] w fun e w' => e = .returned (.bool (decide (ls = ms))) ∧ w.grownBy w' none := by
  have HC : Hid (Calls Tryd.prog 37 #[v, u] w fun e w' => e = .returned (.int .i64 (cmpLs ls ms)) ∧ Hid (w.grownBy w' none)) := (compareG w v u ls ms hv hu).mono fun e w' h => ⟨h.1, h.2.gb⟩
  have HE : Hid (((cmpLs ls ms) == 0) = decide (ls = ms)) := by
    show _ = _
    rw [Bool.eq_iff_iff, beq_iff_eq, decide_eq_true_eq]
    exact cmpLs_zero _ _
  generalize cmpLs ls ms = R at *
  clear hv hu
  go_enter Tryd.func39, Tryd.ntmps39
  go_wp2_with fail
  refine HC.out.mono ?_
  rintro e w1 ⟨rfl, H1⟩
  clear HC
  go_wp2
  go_ret
  exact ⟨by rw [← HE.out]; rfl, H1.out⟩
theorem zero_cellsV (n : Nat) : (Builtin.zeroCells #[Value.slice none 0 0] n).toList = List.replicate n (Value.slice none 0 0) := by
  simp [Builtin.zeroCells]
  apply List.ext_getElem
  · simp
  · intro i h1 h2
    simp [Nat.mod_one]
/-- clear of the end of a row of the call's own -/
theorem run_clearV {w : World} {base g n cap : Nat} {vs : List Value} (h : OwnVs w base (.slice (some ⟨g, 0, none⟩) n cap) vs) (hn : n = vs.length) (k : Nat) (hk : k < n) :
    ∃ w', (∀ ty c, (Builtin.clear_ #[22] ty #[.slice (some ⟨g, k, none⟩) (n - k) c]).run Tryd.prog w = .ok (.tuple #[]) w') ∧ OwnVs w' base (.slice (some ⟨g, 0, none⟩) k cap) (vs.take k) ∧ w.grownBy w' (some g) := by
  subst hn
  rcases h.2 with ⟨h', _⟩ | ⟨g', cap', cur, h', hbg, hh, hnc, hcm, hcs, htake⟩
  · simp at h'
  · simp only [Value.slice.injEq, Option.some.injEq, Addr.mk.injEq, and_true, true_and] at h'
    obtain ⟨rfl, rfl⟩ := h'
    have hv : ∀ w, (zeroValue 39).run Tryd.prog w = .ok (.slice none 0 0) w := Tryd.zeroValue39
    have hst := run_storeCells_at Tryd.prog g k 39 (List.replicate (vs.length - k) (Value.slice none 0 0)) 0 cur w hh (by simp; omega) (by intro u hu; rw [List.eq_of_mem_replicate hu]; rfl)
    obtain ⟨m, hm⟩ : ∃ m, vs.length - k = m + 1 := ⟨vs.length - k - 1, by omega⟩
    have hlen2 : (List.replicate (vs.length - k) (Value.slice none 0 0)).length = vs.length - k := List.length_replicate
    rw [Nat.add_zero, hlen2] at hst
    have htk : (cur.toList.take k).length = k := by rw [List.length_take, Array.length_toList]; omega
    refine ⟨w.setRow g (cur.toList.take k ++ List.replicate (vs.length - k) (Value.slice none 0 0) ++ cur.toList.drop (k + (vs.length - k))).toArray, fun ty c => ?_, ?_, ?_⟩
    · rw [hm] at hst ⊢
      have hzc := zero_cellsV (m + 1)
      simp [Builtin.clear_, run_underlying Tryd.underlying22, hv, Value.cells, hzc, hst]
    · refine ⟨?_, .inr ⟨g, cap, _, by simp; omega, hbg, setRow_heap w g cur _ 39 _ hh, ?_, hcm, ?_, ?_⟩⟩
      · simp
      · simp; omega
      · simp only [List.size_toArray, List.length_append, htk, hlen2, List.length_drop, Array.length_toList]
        omega
      · rw [List.length_take, Nat.min_eq_left (by omega), Nat.mul_one]
        rw [List.append_assoc, List.take_append_of_le_length (by omega), List.take_of_length_le (by omega)]
        rw [← htake, List.take_take, Nat.mul_one, Nat.min_eq_left (by omega)]
    · exact ⟨rfl, rfl, rfl, by simp [World.setRow], fun j hj hne => setRow_other w g j _ (fun e => hne (by rw [e]))⟩
/-- CompactFunc, once two alike were found, between two rounds: y were looked at, k kept -/
structure CpJ (w0 : World) (g n c : Nat) (vs : List Value) (lss : List (List LbT)) (k y : Nat) (wr : World) : Prop where
  old : w0.grownBy wr none
  cnt : (keepI lss y).length = k
  row : ∃ cur, OwnVs wr w0.heap.size (.slice (some ⟨g, 0, none⟩) n c) cur ∧ cur.length = n ∧ cur.take k = pickV vs (keepI lss y) ∧ ∀ m, y ≤ m + 1 → m < n → cur.getD m nilV = vs.getD m nilV
theorem take_setV {cur : List Value} {k : Nat} (x : Value) (hk : k < cur.length) : (cur.set k x).take (k + 1) = cur.take k ++ [x] := by
  rw [List.take_succ_eq_append_getElem (by simpa using hk), List.getElem_set_self, List.take_set_of_le (Nat.le_refl _)]
/-- one that is like the one ahead -/
theorem CpJ.skip {w0 wr w1 : World} {g n c k y : Nat} {vs : List Value} {lss : List (List LbT)} (h : CpJ w0 g n c vs lss k (y + 1) wr) (hg : wr.grownBy w1 none) (he : lss.getD (y + 1) [] = lss.getD y []) : CpJ w0 g n c vs lss k (y + 2) w1 := by
  obtain ⟨cur, h1, h2, h3, h4⟩ := h.row
  exact ⟨gb_none h.old hg, by rw [keepI_same he]; exact h.cnt, cur, h1.keep hg, h2, by rw [keepI_same he]; exact h3, fun m h5 h6 => h4 m (by omega) h6⟩
/-- one that is other -/
theorem CpJ.put {w0 wr w1 : World} {g n c k y : Nat} {vs : List Value} {lss : List (List LbT)} (h : CpJ w0 g n c vs lss k (y + 1) wr) (hg : wr.grownBy w1 none) (he : lss.getD (y + 1) [] ≠ lss.getD y []) (hk : k ≤ y) (hy : y + 1 < n) : CpJ w0 g n c vs lss (k + 1) (y + 2) (w1.setCell ⟨g, k, none⟩ (vs.getD (y + 1) nilV)) := by
  obtain ⟨cur, h1, h2, h3, h4⟩ := h.row
  subst h2
  have h1' := h1.keep hg
  have hgb : w0.heap.size ≤ g := (World.ownsRow.lt h1' g rfl).1
  obtain ⟨k1, k2⟩ := World.ownsRow.stored h1' k (vs.getD (y + 1) nilV)
  refine ⟨gb_new (gb_none h.old hg) k2 (fun k hk => by cases hk; exact hgb), by rw [keepI_other he, List.length_append, h.cnt]; rfl, cur.set k (vs.getD (y + 1) nilV), ?_, by rw [List.length_set], ?_, fun m h5 h6 => ?_⟩
  · unfold OwnVs
    rw [List.length_set]
    exact k1
  · rw [take_setV _ (by omega), h3, keepI_other he]
    simp [pickV]
  · have : (cur.set k (vs.getD (y + 1) nilV)).getD m nilV = cur.getD m nilV := by simp only [List.getD, List.getElem?_set_ne (show k ≠ m by omega)]
    rw [this]
    exact h4 m (by omega) h6
theorem CpJ.rowAt {w0 wr : World} {g n c k y : Nat} {vs : List Value} {lss : List (List LbT)} (h : CpJ w0 g n c vs lss k y wr) {m : Nat} (hm : m < n) : n ≤ c ∧ c ≤ 9223372036854775807 ∧ g < wr.heap.size ∧ wr.frozen? ⟨g, m, none⟩ = false ∧ (∃ u, wr.cell? ⟨g, m, none⟩ = some u) ∧ (y ≤ m + 1 → wr.cell? ⟨g, m, none⟩ = some (vs.getD m nilV)) := by
  obtain ⟨cur, h1, h2, h3, h4⟩ := h.row
  obtain ⟨g', c', e, q1, q2, q3, q4, q5, q6⟩ := h1.cell (j := m) (by omega)
  simp only [Value.slice.injEq, Option.some.injEq, Addr.mk.injEq] at e
  obtain ⟨⟨rfl, -, -⟩, -, rfl⟩ := e
  exact ⟨by omega, q2, q6, q5, ⟨_, q4⟩, fun h5 => by rw [← h4 m h5 hm]; exact q4⟩
end Go.Proofs.YtbnieljkadcaoaaDoor

/- Nfu -/
namespace Go.Proofs.YtbnieljkadcaoaaDoor
open Go.RowKit Go.Shelf Go.Sort

set_option maxRecDepth 8000 in
set_option maxHeartbeats 12800000 in
theorem compactV_any (w0 w : World) (v : Value) (vs : List Value) (lss : List (List LbT)) (h0 : w0.grownBy w none) (hv : OwnVs w w0.heap.size v vs) (hs : RdS w0 vs lss) :
    Calls Tryd.prog 41 #[v, .func (.func 39) #[] #[]] w fun e w' => ∃ v', e = .returned v' ∧ OwnVs w' w0.heap.size v' (pickV vs (keepI lss vs.length)) ∧ w0.grownBy w' none := by
  by_cases h2 : vs.length < 2
  · have HP : Hid (pickV vs (keepI lss vs.length) = vs) := by
      show _ = _
      have : keepI lss vs.length = List.range vs.length := by
        rcases (by omega : vs.length = 0 ∨ vs.length = 1) with e | e <;> rw [e]
        · rfl
        · rw [keepI_one]; rfl
      rw [this]
      exact pickV_range vs
    have HF := hidJ (And.intro hv h0)
    rw [HP.out]
    obtain ⟨a, c, rfl⟩ := hv.shape
    clear hv hs h0 HP
    have h2i : (vs.length : Int) < 2 := by omega
    generalize vs.length = n at *
    go_enter Tryd.func41, Tryd.ntmps41
    go_wp2
    go_ret
    exact ⟨_, rfl, HF.out⟩
  · obtain ⟨g, c, rfl, hnc, hcm, hbg, -, -, hgl⟩ := hv.cell (j := 0) (by omega)
    obtain ⟨n, hn⟩ : ∃ n, vs.length = n := ⟨_, rfl⟩
    have HN := hidJ hn
    rw [hn] at hv hnc h2
    rw [hn]
    have HV := hidJ (And.intro hv h0)
    have HS := hidJ hs
    have h2i : ¬ (n : Int) < 2 := by omega
    -- what two of them come to
    have HO : Hid (∀ W a b, w0.grownBy W none → Calls Tryd.prog 39 #[vs.getD a nilV, vs.getD b nilV] W fun e w' => e = .returned (.bool (decide (lss.getD a [] = lss.getD b []))) ∧ W.grownBy w' none) := fun W a b hW => sorted1_any W _ _ _ _ ((HS.out.2 a).keep hW) ((HS.out.2 b).keep hW)
    have HSh : Hid (∀ j, ∃ a m c, vs.getD j nilV = .slice a m c) := fun j => by
      obtain ⟨a, c, e⟩ := (HS.out.2 j).shape
      exact ⟨a, _, c, e⟩
    obtain ⟨Q, hQ⟩ : ∃ Q : Value → World → Prop, Q = fun v' w' => OwnVs w' w0.heap.size v' (pickV vs (keepI lss n)) ∧ w0.grownBy w' none := ⟨_, rfl⟩
    have HQ : Hid (∀ v' w', OwnVs w' w0.heap.size v' (pickV vs (keepI lss n)) → w0.grownBy w' none → Q v' w') := fun v' w' h1 h2 => by rw [hQ]; exact ⟨h1, h2⟩
    have hgoal : ∀ v' w', (OwnVs w' w0.heap.size v' (pickV vs (keepI lss n)) ∧ w0.grownBy w' none) = Q v' w' := fun v' w' => by rw [hQ]
    simp only [hgoal]
    clear hgoal hQ hv hs h0 hn hbg hgl
    go_enter Tryd.func41, Tryd.ntmps41
    go_wp2
    go_loopw [5] (fun i wr => ∃ z : Nat, 1 ≤ z ∧ z ≤ n ∧ i = .int .i64 z ∧ Hid (w0.grownBy wr none ∧ OwnVs wr w0.heap.size (.slice (some ⟨g, 0, none⟩) n c) vs ∧ keepI lss z = List.range z)) (fun i _ => n - (intOf i).toNat)
    case atStart => exact ⟨1, by omega, by omega, rfl, HV.out.2, HV.out.1, by rw [keepI_one]; rfl⟩
    case round =>
      obtain ⟨z, hz1, hzN, rfl, hr⟩ := hrel
      clear HV
      by_cases hzl : z < n
      · have hzi : (z : Int) < (n : Int) := by omega
        obtain ⟨y, hy⟩ : ∃ y, z = y + 1 := ⟨z - 1, by omega⟩
        have hyi : (z : Int) - 1 = (y : Int) := by omega
        have hyl : y < n := by omega
        have hyI : (y : Int) < (n : Int) := by omega
        obtain ⟨g1, c1, e1, -, -, -, c0, -, hgl⟩ := hr.out.2.1.cell (j := z) (by have := HN.out; omega)
        simp only [Value.slice.injEq, Option.some.injEq, Addr.mk.injEq] at e1
        obtain ⟨⟨rfl, -, -⟩, -, rfl⟩ := e1
        obtain ⟨g2, c2, e2, -, -, -, d0, -, -⟩ := hr.out.2.1.cell (j := y) (by have := HN.out; omega)
        simp only [Value.slice.injEq, Option.some.injEq, Addr.mk.injEq] at e2
        obtain ⟨⟨rfl, -, -⟩, -, rfl⟩ := e2
        obtain ⟨za, zm, zc, ez⟩ := HSh.out z
        obtain ⟨ya, ym, yc, ey⟩ := HSh.out y
        have HB : Hid (∀ W, wr.grownBy W none → Calls Tryd.prog 39 #[.slice za zm zc, .slice ya ym yc] W fun e w' => e = .returned (.bool (decide (lss.getD z [] = lss.getD y []))) ∧ w'.cell? ⟨g, z, none⟩ = some (.slice za zm zc) ∧ w'.cell? ⟨g, y, none⟩ = some (.slice ya ym yc) ∧ Hid (wr.grownBy w' none)) := fun W hW => by
          have h := HO.out W z y (gb_none hr.out.1 hW)
          rw [ez, ey] at h
          rw [ez] at c0
          rw [ey] at d0
          exact h.mono fun e w' ⟨h1, h2⟩ => ⟨h1, (World.cell?_of_block ((gb_none hW h2).block g hgl (by simp))).trans c0, (World.cell?_of_block ((gb_none hW h2).block g hgl (by simp))).trans d0, gb_none hW h2⟩
        rw [ez] at c0
        rw [ey] at d0
        have HYZ := hidJ hy
        have HR := hidJ hr.out
        clear hr hy ez ey
        have HD : Hid (wr.grownBy wr.drew none) := gb_drew _ _
        have hwy : IntKind.i64.wrap ((z : Int) - 1) = (y : Int) := by rw [hyi, IntKind.wrap_i64]; omega
        have hwy2 : IntKind.i64.wrap (y : Int) = (y : Int) := by rw [IntKind.wrap_i64]; omega
        by_cases hm : lss.getD z [] = lss.getD y []
        · have HE := hidJ hm
          rw [decide_eq_true hm] at HB
          clear hm
          go_wp2
          go_region_held3 (fun w' => w'.cell? ⟨g, z, none⟩ = some (.slice za zm zc) ∧ w'.cell? ⟨g, y, none⟩ = some (.slice ya ym yc)) (go_keep)
            (first | (go_at_call 39; with_reducible refine (HB.out _ HD.out).mono ?_; rintro e w2 ⟨rfl, k1, k2, H2⟩))
          have HJ : Hid (CpJ w0 g n c vs lss z (z + 1) w2) := by
            have hk : keepI lss (z + 1) = keepI lss z := by
              have e := HYZ.out
              have e2 := HE.out
              subst e
              exact keepI_same e2
            refine ⟨gb_none HR.out.1 H2.out, by rw [hk, HR.out.2.2, List.length_range], vs, HR.out.2.1.keep H2.out, HN.out, ?_, fun m _ _ => rfl⟩
            rw [hk, HR.out.2.2]
            apply List.ext_getElem
            · have := HN.out; simp [pickV]; omega
            · intro i q1 q2
              have hi : i < vs.length := by simp at q1; omega
              simp [pickV, hi]
          have hzc : ¬ z = c := by omega
          have hzci : (z : Int) ≤ (c : Int) := by omega
          have hzni : (z : Int) ≤ (n : Int) := by omega
          clear HB HR HYZ HE k1 k2 c0 d0 HD hwy hwy2 hyi hyI hyl
          go_wp2
          go_loopw [5, 7] (fun i j wr => ∃ k q : Nat, 1 ≤ q ∧ q ≤ n - z ∧ k < z + q ∧ i = .int .i64 k ∧ j = .int .i64 q ∧ Hid (CpJ w0 g n c vs lss k (z + q) wr)) (fun _ j _ => n - z - (intOf j).toNat)
          case atStart => exact ⟨z, 1, by omega, by omega, by omega, rfl, rfl, HJ.out⟩
          case round =>
            obtain ⟨k, q, hq1, hqN, hkq, rfl, rfl, hr⟩ := hrel
            clear HJ H2
            have hkn : k < n := by
              have h1 := hr.out.cnt
              have h2 := keepI_le lss (z + q)
              omega
            by_cases hql : q < n - z
            · have hqi : (q : Int) < ((n - z : Nat) : Int) := by omega
              obtain ⟨p, hp⟩ : ∃ p, q = p + 1 := ⟨q - 1, by omega⟩
              have hpi : (q : Int) - 1 = (p : Int) := by omega
              have hpl : p < n - z := by omega
              have hpI : (p : Int) < ((n - z : Nat) : Int) := by omega
              obtain ⟨-, -, hgl2, -, -, c9⟩ := hr.out.rowAt (m := z + q) (by omega)
              obtain ⟨-, -, -, -, -, d9⟩ := hr.out.rowAt (m := z + p) (by omega)
              obtain ⟨-, -, -, fk, ⟨uk, ck⟩, -⟩ := hr.out.rowAt (m := k) hkn
              have c0 := c9 (by omega)
              have d0 := d9 (by omega)
              clear c9 d9
              obtain ⟨za, zm, zc, ez⟩ := HSh.out (z + q)
              obtain ⟨ya, ym, yc, ey⟩ := HSh.out (z + p)
              have HZV : Hid (vs.getD (z + q) nilV = .slice za zm zc) := ez
              rw [ez] at c0
              rw [ey] at d0
              have HB : Hid (∀ W, wr.grownBy W none → Calls Tryd.prog 39 #[.slice za zm zc, .slice ya ym yc] W fun e w' => e = .returned (.bool (decide (lss.getD (z + q) [] = lss.getD (z + p) []))) ∧ w'.cell? ⟨g, z + q, none⟩ = some (.slice za zm zc) ∧ w'.cell? ⟨g, z + p, none⟩ = some (.slice ya ym yc) ∧ Hid (wr.grownBy w' none)) := fun W hW => by
                have h := HO.out W (z + q) (z + p) (gb_none hr.out.old hW)
                rw [ez, ey] at h
                exact h.mono fun e w' ⟨h1, h2⟩ => ⟨h1, (World.cell?_of_block ((gb_none hW h2).block g hgl2 (by simp))).trans c0, (World.cell?_of_block ((gb_none hW h2).block g hgl2 (by simp))).trans d0, gb_none hW h2⟩
              have HPQ := hidJ hp
              have HR := hidJ hr.out
              have HFK := hidJ (And.intro fk ck)
              clear hr hp ez ey fk ck
              have HD : Hid (wr.grownBy wr.drew none) := gb_drew _ _
              have hwy : IntKind.i64.wrap ((q : Int) - 1) = (p : Int) := by rw [hpi, IntKind.wrap_i64]; omega
              have hwy2 : IntKind.i64.wrap (p : Int) = (p : Int) := by rw [IntKind.wrap_i64]; omega
              by_cases hm : lss.getD (z + q) [] = lss.getD (z + p) []
              · have HE := hidJ hm
                rw [decide_eq_true hm] at HB
                clear hm
                go_wp2
                go_region_held3 (fun w' => w'.cell? ⟨g, z + q, none⟩ = some (.slice za zm zc) ∧ w'.cell? ⟨g, z + p, none⟩ = some (.slice ya ym yc)) (go_keep)
                  (first | (go_at_call 39; with_reducible refine (HB.out _ HD.out).mono ?_; rintro e w3 ⟨rfl, k1, k2, H3⟩))
                have HJ : Hid (CpJ w0 g n c vs lss k (z + (q + 1)) w3) := by
                  have e := HPQ.out
                  have e2 := HE.out
                  have h := HR.out
                  subst e
                  exact CpJ.skip (y := z + p) h H3.out e2
                clear HB HR HPQ HE k1 k2 c0 d0 HD
                go_wp2
                go_roundw
                case rel => exact ⟨k, q + 1, by omega, by omega, by omega, rfl, by go_num, HJ.out⟩
                case measure => simp [intOf]; omega
              · have HE := hidJ hm
                rw [decide_eq_false hm] at HB
                clear hm
                go_wp2
                go_region_held3 (fun w' => w'.cell? ⟨g, z + q, none⟩ = some (.slice za zm zc) ∧ w'.cell? ⟨g, z + p, none⟩ = some (.slice ya ym yc)) (go_keep)
                  (first | (go_at_call 39; with_reducible refine (HB.out _ HD.out).mono ?_; rintro e w3 ⟨rfl, k1, k2, H3⟩))
                have HJ : Hid (CpJ w0 g n c vs lss (k + 1) (z + (q + 1)) (w3.setCell ⟨g, k, none⟩ (.slice za zm zc))) := by
                  have e := HPQ.out
                  have e2 := HE.out
                  have h := HR.out
                  have e3 := HZV.out
                  subst e
                  have := CpJ.put (y := z + p) h H3.out e2 (by omega) (by omega)
                  rw [← e3]
                  exact this
                have f5 : w3.cell? ⟨g, k, none⟩ = some uk := (World.cell?_of_block (H3.out.block g hgl2 (by simp))).trans HFK.out.2
                have f6 : w3.frozen? ⟨g, k, none⟩ = false := by
                  have hb := H3.out.block g hgl2 (by simp)
                  rw [← HFK.out.1]
                  simp only [World.frozen?, hb]
                have hki : (k : Int) < (n : Int) := by omega
                clear HB HR HPQ HE k2 c0 d0 HD HFK
                go_wp2
                go_roundw
                case rel => exact ⟨k + 1, q + 1, by omega, by omega, by omega, by go_num, by go_num, HJ.out⟩
                case measure => simp [intOf]; omega
            · have hqi : ¬ (q : Int) < ((n - z : Nat) : Int) := by omega
              have hr0 := hr.out
              have e : z + q = n := by omega
              rw [e] at hr0
              obtain ⟨cur, h1, h2, h3, h4⟩ := hr0.row
              obtain ⟨w3, hcl, ho3, hg3⟩ := run_clearV h1 h2.symm k hkn
              have hgb : w0.heap.size ≤ g := (World.ownsRow.lt h1 g rfl).1
              have HF : Hid (Q (.slice (some ⟨g, 0, none⟩) k c) w3) := by
                rw [h3] at ho3
                exact HQ.out _ _ ho3 (gb_new hr0.old hg3 (fun j hj => by cases hj; exact hgb))
              have HCl := hidJ hcl
              clear hr hr0 h1 h2 h3 h4 ho3 hg3
              have hkc : (k : Int) ≤ (c : Int) := by omega
              have hkc2 : (k : Int) ≤ (n : Int) := by omega
              have hn1 : ¬ k = n := by omega
              have hn2 : ¬ k = c := by omega
              clear HCl
              go_wp2
              go_ret
              exact ⟨_, rfl, HF.out⟩
        · have HE := hidJ hm
          rw [decide_eq_false hm] at HB
          clear hm
          go_wp2
          go_region_held3 (fun w' => w'.cell? ⟨g, z, none⟩ = some (.slice za zm zc) ∧ w'.cell? ⟨g, y, none⟩ = some (.slice ya ym yc)) (go_keep)
            (first | (go_at_call 39; with_reducible refine (HB.out _ HD.out).mono ?_; rintro e w2 ⟨rfl, k1, k2, H2⟩))
          have HJ : Hid (w0.grownBy w2 none ∧ OwnVs w2 w0.heap.size (.slice (some ⟨g, 0, none⟩) n c) vs ∧ keepI lss (z + 1) = List.range (z + 1)) := by
            refine ⟨gb_none HR.out.1 H2.out, HR.out.2.1.keep H2.out, ?_⟩
            have hk := HR.out.2.2
            have e := HYZ.out
            have e2 := HE.out
            subst e
            rw [keepI_other e2, hk, ← List.range_succ]
          clear HB HR HYZ HE k1 k2 c0 d0 HD
          go_wp2
          go_roundw
          case rel => exact ⟨z + 1, by omega, by omega, by go_num, HJ.out⟩
          case measure => simp [intOf]; omega
      · have hzi : ¬ (z : Int) < (n : Int) := by omega
        have HF : Hid (Q (.slice (some ⟨g, 0, none⟩) n c) wr) := by
          have e : z = n := by omega
          have h := hr.out
          rw [e] at h
          refine HQ.out _ _ ?_ h.1
          rw [h.2.2]
          have := HN.out
          subst this
          rw [pickV_range]
          exact h.2.1
        clear hr
        go_wp2
        go_ret
        exact ⟨_, rfl, HF.out⟩
end Go.Proofs.YtbnieljkadcaoaaDoor

/- Nfv -/
namespace Go.Proofs.YtbnieljkadcaoaaDoor
open Go.RowKit Go.Shelf Go.Sort

theorem keepI_mem {lss : List (List LbT)} {y i : Nat} : i ∈ keepI lss y ↔ i < y ∧ (i = 0 ∨ lss.getD i [] ≠ lss.getD (i - 1) []) := by
  simp [keepI]
theorem pick_mem (lss : List (List LbT)) (x : List LbT) : x ∈ pickS lss (keepI lss lss.length) ↔ x ∈ lss := by
  unfold pickS
  rw [List.mem_map]
  constructor
  · rintro ⟨i, hi, rfl⟩
    have hl := (keepI_mem.1 hi).1
    have e : lss.getD i [] = lss[i] := by simp [List.getD, hl]
    rw [e]
    exact List.getElem_mem hl
  · intro hx
    obtain ⟨i, hi, rfl⟩ := List.mem_iff_getElem.1 hx
    have e : lss[i] = lss.getD i [] := by simp [List.getD, hi]
    rw [e]
    clear e hx
    induction i with
    | zero => exact ⟨0, keepI_mem.2 ⟨hi, .inl rfl⟩, rfl⟩
    | succ i ih =>
      by_cases h : lss.getD (i + 1) [] = lss.getD i []
      · rw [h]
        exact ih (by omega)
      · exact ⟨i + 1, keepI_mem.2 ⟨hi, .inr h⟩, rfl⟩
/-- each above the one ahead -/
def upS (lss : List (List LbT)) : Prop := lss.Pairwise fun a b => cmpLs a b < 0
theorem leLs_lt {a b c : List LbT} (h1 : cmpLs a b ≤ 0) (h2 : cmpLs b c < 0) : cmpLs a c < 0 := by
  rcases Int.lt_or_eq_of_le h1 with h | h
  · exact cmpLs_lt_trans _ _ _ h h2
  · rw [(cmpLs_zero a b).1 h]
    exact h2
theorem pick_up {lss : List (List LbT)} (h : risL lss) : upS (pickS lss (keepI lss lss.length)) := by
  unfold upS pickS
  rw [List.pairwise_map]
  have hr : (keepI lss lss.length).Pairwise (· < ·) := List.Pairwise.filter _ List.pairwise_lt_range
  refine List.Pairwise.imp_of_mem ?_ hr
  intro i j hi hj hij
  have hi := keepI_mem.1 hi
  have hj := keepI_mem.1 hj
  have hat : ∀ a b, a < b → b < lss.length → cmpLs (lss.getD a []) (lss.getD b []) ≤ 0 := fun a b hab hb => by
    have := List.pairwise_iff_getElem.1 h a b (by omega) hb hab
    have e1 : lss.getD b [] = lss[b] := by simp [List.getD, hb]
    have e2 : lss.getD a [] = lss[a]'(by omega) := by simp [List.getD, show a < lss.length by omega]
    rw [e1, e2]
    exact this
  have hne : lss.getD j [] ≠ lss.getD (j - 1) [] := by
    rcases hj.2 with h | h
    · omega
    · exact h
  have hlt : cmpLs (lss.getD (j - 1) []) (lss.getD j []) < 0 := by
    have h1 := hat (j - 1) j (by omega) hj.1
    rcases Int.lt_or_eq_of_le h1 with h | h
    · exact h
    · exact absurd ((cmpLs_zero _ _).1 h).symm hne
  by_cases e : i = j - 1
  · rw [e]
    exact hlt
  · exact leLs_lt (hat i (j - 1) (by omega) (by omega)) hlt
/-- what Sorted answers -/
def SrtQ (w : World) (lss : List (List LbT)) (e : Ending) (w' : World) : Prop := w.grownBy w' none ∧ ((allR lss = false ∧ e = .returned (.tuple #[.slice none 0 0, .int .i64 41])) ∨ (allR lss = true ∧ ∃ a n c R, e = .returned (.tuple #[.slice a n c, .int .i64 0]) ∧ OwnLL w' w.heap.size (.slice a n c) R ∧ upS R ∧ ∀ x, x ∈ R ↔ x ∈ lss))
theorem allR_mem {lss : List (List LbT)} (h : allR lss = true) {x : List LbT} (hx : x ∈ lss) : (rightS x).1 = 0 := by
  unfold allR at h
  rw [List.all_eq_true] at h
  exact of_decide_eq_true (h x hx)
set_option maxRecDepth 8000 in
set_option maxHeartbeats 3200000 in
theorem sorted_any (w : World) (v : Value) (lss : List (List LbT)) (hv : RdLL w v lss) (hi : LLIn lss) (hl : lss.length ≤ 6000000000000) (hT : U8S w) :
    Calls Tryd.prog 14 #[v] w fun e w' => SrtQ w lss e w' := by
  have HA := hidJ (areRight_any w v lss hv hi hT)
  obtain ⟨vs, hV, hS⟩ := hv
  have HI : Hid (∀ W, w.grownBy W none → Calls Tryd.prog 35 #[v] W fun e w' => ∃ a n c vs' lss', e = .returned (.slice a n c) ∧ OwnVs w' W.heap.size (.slice a n c) vs' ∧ RdS W vs' lss' ∧ lss'.Perm lss ∧ risL lss' ∧ W.grownBy w' none) := fun W hW => by
    refine (inOrder_any W v vs lss (hV.keep hW) (hS.keep hW) (by rw [hS.1]; exact hl)).mono ?_
    rintro e w' ⟨v', vs', lss', q1, q2, q3, q4, q5, -, q7⟩
    obtain ⟨a, c, e2⟩ := q2.shape
    subst e2
    exact ⟨a, _, c, vs', lss', q1, q2, q3, q4, q5, q7⟩
  have hvs : ∃ a n c, v = .slice a n c := by obtain ⟨a, c, e, -⟩ := hV; exact ⟨_, _, _, e⟩
  obtain ⟨va, vn, vc, rfl⟩ := hvs
  have HL := hidJ hl
  clear hV hS hi hT hl
  by_cases h0 : allR lss = true
  · rw [h0] at HA
    have HQ : Hid (∀ a n c R w', w.grownBy w' none → OwnLL w' w.heap.size (.slice a n c) R → upS R → (∀ x, x ∈ R ↔ x ∈ lss) → SrtQ w lss (.returned (.tuple #[.slice a n c, .int .i64 0])) w') := fun a n c R w' h1 h2 h3 h4 => ⟨h1, .inr ⟨h0, a, n, c, R, rfl, h2, h3, h4⟩⟩
    have HR := hidJ h0
    clear h0
    go_enter Tryd.func14, Tryd.ntmps14
    go_wp2_with fail
    refine HA.out.mono ?_
    rintro e w1 ⟨rfl, g1⟩
    have H1 := hidJ g1
    clear HA g1
    go_wp2_with fail
    refine (HI.out _ H1.out).mono ?_
    rintro e w2 ⟨a, n, c, vs', lss', rfl, q2, q3, q4, q5, q6⟩
    have H2 := hidJ (And.intro q2 (And.intro q3 (And.intro q4 (And.intro q5 q6))))
    clear HI q2 q3 q4 q5 q6
    have HC := hidJ (compactV_any w1 w2 (.slice a n c) vs' lss' H2.out.2.2.2.2 H2.out.1 H2.out.2.1)
    go_wp2_with fail
    refine HC.out.mono ?_
    rintro e w3 ⟨v3, rfl, q1, q2⟩
    have H3 := hidJ (And.intro q1 q2)
    obtain ⟨a3, c3, e3⟩ := q1.shape
    obtain ⟨n3, hn3⟩ : ∃ n3, (pickV vs' (keepI lss' vs'.length)).length = n3 := ⟨_, rfl⟩
    rw [hn3] at e3
    subst e3
    clear HC q1 q2 hn3
    have HMem : Hid (∀ x, x ∈ pickS lss' (keepI lss' vs'.length) ↔ x ∈ lss) := fun x => by
      rw [H2.out.2.1.1, pick_mem]
      exact H2.out.2.2.1.mem_iff
    have HUp : Hid (upS (pickS lss' (keepI lss' vs'.length))) := by
      show upS _
      rw [H2.out.2.1.1]
      exact pick_up H2.out.2.2.2.1
    have HCp := hidJ (copySets_any w3 (.slice a3 n3 c3) (pickS lss' (keepI lss' vs'.length)) ⟨_, H3.out.1.rd, (pick_rd H2.out.2.1 _).keep H3.out.2⟩ (by
        have h1 := keepI_le lss' vs'.length
        have h2 := H2.out.2.1.1
        have h3 := H2.out.2.2.1.length_eq
        have h4 := HL.out
        simp only [pickS, List.length_map]
        omega) (fun j => by
        by_cases hj : j < (pickS lss' (keepI lss' vs'.length)).length
        · have e : (pickS lss' (keepI lss' vs'.length)).getD j [] = (pickS lss' (keepI lss' vs'.length))[j] := by simp [List.getD, hj]
          rw [e]
          have := right_16 (allR_mem HR.out ((HMem.out _).1 (List.getElem_mem hj)))
          omega
        · simp [List.getD, List.getElem?_eq_none (show (pickS lss' (keepI lss' vs'.length)).length ≤ j by omega)]))
    go_wp2_with fail
    refine HCp.out.mono ?_
    rintro e w4 ⟨v', rfl, r1, r2⟩
    have hg := gb_none (gb_none H1.out H3.out.2) r2
    obtain ⟨a4, c4, e4⟩ := r1.shape
    obtain ⟨n4, hn4⟩ : ∃ n4, (pickS lss' (keepI lss' vs'.length)).length = n4 := ⟨_, rfl⟩
    rw [hn4] at e4
    subst e4
    have HF := hidJ (HQ.out a4 n4 c4 _ w4 hg (r1.mono (gb_none H1.out H3.out.2).size) HUp.out HMem.out)
    clear HCp r1 r2 hg H1 H2 H3 HMem HUp hn4
    go_wp2
    go_ret2
    exact HF.out
  · rw [Bool.not_eq_true] at h0
    rw [h0] at HA
    have HQ : Hid (∀ w', w.grownBy w' none → SrtQ w lss (.returned (.tuple #[.slice none 0 0, .int .i64 41])) w') := fun w' h1 => ⟨h1, .inl ⟨h0, rfl⟩⟩
    clear h0 HI
    go_enter Tryd.func14, Tryd.ntmps14
    go_wp2_with fail
    refine HA.out.mono ?_
    rintro e w1 ⟨rfl, g1⟩
    have HF := hidJ (HQ.out w1 g1)
    clear HA g1 HQ
    go_wp2
    go_ret2
    exact HF.out
end Go.Proofs.YtbnieljkadcaoaaDoor

/- Nfw -/
namespace Go.Proofs.YtbnieljkadcaoaaDoor
open Go.RowKit Go.Shelf Go.Sort

theorem run_headV (W : World) (a : Option Addr) (n c p : Nat) (hp : p ≤ n) (hc : n ≤ c) : (Instr.slice 22 (.slice a n c) none (some (.int .i64 (p : Int))) none).run Tryd.prog W = .ok (.slice a p c) W := by
  have ht' : Tryd.prog.underlying 22 = some (.slice (Tryd.prog.elem 22)) := by simp [Program.elem, Tryd.underlying22]
  have he : Tryd.prog.elem 22 = 39 := by simp [Program.elem, Tryd.underlying22]
  rw [run_slice_h W _ _ _ _ ht' .i64 _ (by omega) (by omega), he, Tryd.sizeOf39]
  have hm : (Option.map (fun x => Addr.add x (0 * 1)) a) = a := by cases a <;> simp [Addr.add]
  simp [Result.andThen, sliced]
  intro _
  simpa using hm
theorem OwnVs.head {w : World} {base : Nat} {a : Option Addr} {n c : Nat} {l : List Value} (h : OwnVs w base (.slice a n c) l) (k : Nat) : RdC w a (l.take k) ∧ (a = none → l = [] ∧ n = 0 ∧ c = 0) ∧ n = l.length ∧ n ≤ c ∧ c ≤ maxLen := by
  rcases h.2 with ⟨e, hn⟩ | ⟨g, cap, cur, e, hg, hh, hnc, hcm, hcs, ht⟩
  · simp only [Value.slice.injEq] at e
    obtain ⟨rfl, rfl, rfl⟩ := e
    have hl : l = [] := List.eq_nil_of_length_eq_zero hn
    subst hl
    refine ⟨fun j u hj => by simp at hj, fun _ => ⟨rfl, rfl, rfl⟩, rfl, Nat.le_refl _, by unfold maxLen; omega⟩
  · simp only [Value.slice.injEq] at e
    obtain ⟨rfl, rfl, rfl⟩ := e
    refine ⟨fun j u hj => ?_, fun e => (by cases e), rfl, hnc, hcm⟩
    refine ⟨_, rfl, ?_⟩
    rw [Go.WideShapes.add_plain, Nat.zero_add]
    have hj2 : l[j]? = some u := by
      rw [List.getElem?_take] at hj
      split at hj
      · exact hj
      · cases hj
    rw [World.ownsRow.cellAt h j (by have := (List.getElem?_eq_some_iff.1 hj2).1; omega)]
    exact hj2
theorem OwnVs.tail {w : World} {base : Nat} {a : Option Addr} {n c : Nat} {l : List Value} (h : OwnVs w base (.slice a n c) l) (k : Nat) (hk : k ≤ n) :
    ∃ a', (∀ W, (Instr.slice 22 (.slice a n c) (some (.int .i64 (k : Int))) none none).run Tryd.prog W = .ok (.slice a' (n - k) (c - k)) W) ∧ RdC w a' (l.drop k) ∧ (a' = none → n - k = 0 ∧ c - k = 0) := by
  have ht' : Tryd.prog.underlying 22 = some (.slice (Tryd.prog.elem 22)) := by simp [Program.elem, Tryd.underlying22]
  have he : Tryd.prog.elem 22 = 39 := by simp [Program.elem, Tryd.underlying22]
  obtain ⟨-, hno, hnl, hnc, hcm⟩ := h.head 0
  unfold maxLen at hcm
  by_cases hc : c = k
  · refine ⟨a, fun W => ?_, fun j u hj => ?_, fun e => ⟨by omega, by omega⟩⟩
    · rw [run_slice_l W _ _ _ _ ht' .i64 _ (by omega) (by omega), he, Tryd.sizeOf39]
      simp [Result.andThen, sliced, hc]
    · rw [List.drop_eq_nil_of_le (by omega)] at hj
      simp at hj
  · rcases h.2 with ⟨e, hn⟩ | ⟨g, cap, cur, e, hg, hh, hnc', hcm', hcs, ht⟩
    · simp only [Value.slice.injEq] at e
      omega
    · simp only [Value.slice.injEq] at e
      obtain ⟨rfl, hn, rfl⟩ := e
      refine ⟨some ⟨g, k, none⟩, fun W => ?_, fun j u hj => ?_, fun e => (by cases e)⟩
      · rw [run_slice_l W _ _ _ _ ht' .i64 _ (by omega) (by omega), he, Tryd.sizeOf39]
        simp [Result.andThen, sliced, Addr.add, hc]
        intro h; omega
      · refine ⟨_, rfl, ?_⟩
        rw [Go.WideShapes.add_plain]
        rw [List.getElem?_drop] at hj
        have hlt : k + j < l.length := (List.getElem?_eq_some_iff.1 hj).1
        subst hn
        rw [World.ownsRow.cellAt h (k + j) (by omega)]
        exact hj
/-- a row and the cells behind an address -/
theorem OwnVs.more {X : World} {base : Nat} {v : Value} {xs ys : List Value} (h : OwnVs X base v xs) (ad : Option Addr) (m c : Nat) (hm : ys.length = m) (hr : RdC X ad ys) (hnil : ad = none → m = 0 ∧ c = 0) (h1 : ∀ y ∈ ys, y.oneCell' = true) (hl : xs.length + m ≤ 6000000000000) (hb : base ≤ X.heap.size) :
    ∃ a2 c2 W2, (Builtin.append_ #[22, 22] 22 #[v, .slice ad m c]).run Tryd.prog X = .ok (.slice a2 (xs.length + m) c2) W2 ∧ OwnVs W2 base (.slice a2 (xs.length + m) c2) (xs ++ ys) ∧ Fr X W2 v (.slice a2 (xs.length + m) c2) := by
  obtain ⟨i0, hi, hz0, hz1, hz2⟩ := info_parts infoLs
  obtain ⟨v2, W2, hrun, ho, hfr⟩ := run_appH X 22 22 39 i0 _ 1 24 base Tryd.underlying22 hi hz0 hz1 hz2 rfl (by decide) v xs.length xs h ad m c ys (by omega) hr hnil h1 (by omega) (by omega) hb
  have ho2 : OwnVs W2 base v2 (xs ++ ys) := by
    unfold OwnVs
    rw [List.length_append, hm]
    exact ho
  obtain ⟨a2, cc, e⟩ := ho2.shape
  rw [List.length_append, hm] at e
  subst e
  exact ⟨a2, cc, W2, hrun, ho2, hfr⟩
theorem rdc_keep {w w' : World} {a : Option Addr} {news : List Value} (h : RdC w a news) (hg : w.grownBy w' none) : RdC w' a news := by
  intro j u hj
  obtain ⟨ad, rfl, hc⟩ := h j u hj
  refine ⟨ad, rfl, ?_⟩
  rw [← hc]
  have hlt : (ad.add j).block < w.heap.size := by
    by_cases hb : (ad.add j).block < w.heap.size
    · exact hb
    · exfalso
      have : w.heap[(ad.add j).block]? = none := by simp; omega
      simp [World.cell?, this] at hc
  exact World.cell?_of_block (hg.block _ hlt (by simp))
/-- the three appends -/
theorem threeV {W : World} {base : Nat} {la : Option Addr} {n lc : Nat} {us : List Value} (h : OwnVs W base (.slice la n lc) us) (k : Nat) (hk : k ≤ n) (x : Value) (hx : x.oneCell' = true) (hus : ∀ u ∈ us, u.oneCell' = true) (hn : n ≤ 5999999999999) :
    ∃ a2 c2 W2 a3 c3 W3 a' a4 c4 W4,
      (Builtin.append_ #[22, 22] 22 #[.slice none 0 0, .slice la k lc]).run Tryd.prog W = .ok (.slice a2 k c2) W2 ∧
      (Builtin.append_ #[22, 22] 22 #[.slice a2 k c2, .slice (some ⟨W2.heap.size, 0, none⟩) 1 1]).run Tryd.prog (W2.alloc (.cells #[x] 39)) = .ok (.slice a3 (k + 1) c3) W3 ∧
      (∀ W, (Instr.slice 22 (.slice la n lc) (some (.int .i64 (k : Int))) none none).run Tryd.prog W = .ok (.slice a' (n - k) (lc - k)) W) ∧
      (Builtin.append_ #[22, 22] 22 #[.slice a3 (k + 1) c3, .slice a' (n - k) (lc - k)]).run Tryd.prog W3 = .ok (.slice a4 (n + 1) c4) W4 ∧
      OwnVs W4 W.heap.size (.slice a4 (n + 1) c4) (us.take k ++ [x] ++ us.drop k) ∧ W.grownBy W4 none := by
  obtain ⟨hd, hno, hnl, hnc, hcm⟩ := h.head k
  obtain ⟨a', t1, t2, t3⟩ := h.tail k hk
  have hkk : (us.take k).length = k := by rw [List.length_take]; omega
  obtain ⟨a2, c2, W2, r1, o2, f2⟩ := (OwnVs.nil W W.heap.size).more la k lc hkk hd (fun e => by have := hno e; omega) (fun u hu => hus u (List.mem_of_mem_take hu)) (by simp; omega) (Nat.le_refl _)
  simp only [List.length_nil, Nat.zero_add, List.nil_append] at r1 o2 f2
  have g2 : W.grownBy W2 none := gb_trans (gb_refl _ _) f2.1 (fun j hj => by simp [Value.ownBlock] at hj)
  have hal := World.grownBy_alloc W2 (.cells #[x] 39) none
  obtain ⟨a3, c3, W3, r2, o3, f3⟩ := o2.push x hx (by omega) g2.size hal rfl
  rw [hkk] at r2 o3 f3
  have g3 : W.grownBy W3 none := gb_new (gb_none g2 hal) f3.1 (fun j hj => (o2.lt j hj).1)
  have hl3 : (us.take k ++ [x]).length = k + 1 := by rw [List.length_append, hkk]; rfl
  obtain ⟨a4, c4, W4, r3, o4, f4⟩ := o3.more a' (n - k) (lc - k) (ys := us.drop k) (by rw [List.length_drop]; omega) (rdc_keep t2 g3) t3 (fun u hu => hus u (List.mem_of_mem_drop hu)) (by omega) g3.size
  rw [hl3, show k + 1 + (n - k) = n + 1 by omega] at r3 o4 f4
  exact ⟨a2, c2, W2, a3, c3, W3, a', a4, c4, W4, r1, r2, t1, r3, o4, gb_new g3 f4.1 (fun j hj => (o3.lt j hj).1)⟩
end Go.Proofs.YtbnieljkadcaoaaDoor
