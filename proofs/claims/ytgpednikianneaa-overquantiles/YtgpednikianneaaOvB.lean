/-
  slices.DeleteFunc of samples; alive.
-/
import Derived.Test.YtgpednikianneaaOvA
namespace Go.Proofs.Ytgpednikianneaa
open Go.RowKit

/-- a float is one cell -/
theorem store_float (a : Addr) (f : Nat) (m : Mode) (w : World) : (store a (.float .f64 f) m).run Try.prog w = stored Try.prog w a (.float .f64 f) m := run_store _ w a _ m rfl
theorem gb_set (w : World) (g j : Nat) (x : Value) : w.grownBy (w.setCell ⟨g, j, none⟩ x) (some g) :=
  ⟨rfl, rfl, rfl, by simp, fun k _ hk => Below.heap_setCell _ _ _ _ (fun e => hk (by rw [e]))⟩
theorem heap_set {W : World} {g o : Nat} {cur : Array Value} {t : TypeId} {fr : Nat × Nat} (u : Value) (h : W.heap[g]? = some (.cells cur t fr)) : (W.setCell ⟨g, o, none⟩ u).heap[g]? = some (.cells (cur.setIfInBounds o u) t fr) := by
  have hl := some_lt h
  have h2 : W.heap[g] = .cells cur t fr := by
    rw [Array.getElem?_eq_getElem hl] at h
    exact Option.some.inj h
  simp only [World.setCell]
  rw [Array.getElem?_eq_getElem (by simpa using hl)]
  simp [Array.getElem_modify_self, h2]
def set2 (W : World) (g o : Nat) (x y : Value) : World := (W.setCell ⟨g, o, none⟩ x).setCell ⟨g, o + 1, none⟩ y
theorem set2_gb (W : World) (g o : Nat) (x y : Value) : W.grownBy (set2 W g o x y) (some g) := gb_trans (gb_set _ _ _ _) (gb_set _ _ _ _) (fun _ h _ => h.symm)
theorem OwnP.of {w : World} {base g n cap : Nat} {cur : Array Value} {l : List SmpT} (hh : w.heap[g]? = some (.cells cur 33 (0, 0))) (hb : base ≤ g) (hn : n = l.length) (hnc : n ≤ cap) (hcm : cap ≤ maxLen) (hcs : cur.size = cap * 2) (ht : cur.toList.take (n * 2) = smC l) : OwnP w base (.slice (some ⟨g, 0, none⟩) n cap) l := by
  subst hn
  exact ⟨smC_len l, .inr ⟨g, cap, cur, rfl, hb, hh, hnc, hcm, hcs, ht⟩⟩
theorem OwnP.set {w : World} {base g c n p : Nat} {l : List SmpT} (x : SmpT) (h : OwnP w base (.slice (some ⟨g, 0, none⟩) n c) l) (hn : n = l.length) (hp : p < l.length) : OwnP (set2 w g (p * 2) (.int .i64 x.1) (.float .f64 x.2)) base (.slice (some ⟨g, 0, none⟩) n c) (l.set p x) := by
  subst hn
  rcases h.2 with ⟨h', _⟩ | ⟨g', c', cur, h', hgb, hh, hnc, hcm, hcs, htake⟩
  · simp at h'
  · simp only [Value.slice.injEq, Option.some.injEq, Addr.mk.injEq, and_true, true_and] at h'
    obtain ⟨rfl, rfl⟩ := h'
    refine OwnP.of (cur := (cur.setIfInBounds (p * 2) (.int .i64 x.1)).setIfInBounds (p * 2 + 1) (.float .f64 x.2)) ?_ hgb (by simp) hnc hcm (by simpa using hcs) ?_
    · unfold set2
      exact heap_set _ (heap_set _ hh)
    · rw [smC_set l p x hp, ← htake]
      simp only [Array.toList_setIfInBounds]
      rw [List.take_set, List.take_set]
/-- what is at a place of a row -/
theorem OwnP.cells {w : World} {base g n c : Nat} {l : List SmpT} (h : OwnP w base (.slice (some ⟨g, 0, none⟩) n c) l) {j : Nat} (hj : j < l.length) : g < w.heap.size ∧ w.cell? ⟨g, j * 2, none⟩ = some (.int .i64 (l.getD j smZ).1) ∧ w.cell? ⟨g, j * 2 + 1, none⟩ = some (.float .f64 (l.getD j smZ).2) ∧ ∀ k, w.frozen? ⟨g, k, none⟩ = false := by
  obtain ⟨a, c', e, -, -, h3⟩ := h.rd
  obtain ⟨b, o, e1, c0, c1⟩ := h3 j hj
  rcases h.2 with ⟨h', _⟩ | ⟨g', c'', cur, h', hgb, hh, hnc, hcm, hcs, htake⟩
  · simp at h'
  · simp only [Value.slice.injEq, Option.some.injEq, Addr.mk.injEq, and_true] at h'
    obtain ⟨rfl, -⟩ := h'
    have hc := h.2
    have ho : w.ownsRow base 33 2 (.slice (some ⟨g, 0, none⟩) n c) l.length (smC l) := h
    have k0 := World.ownsRow.cells ho rfl (j * 2) _ (smC_at l j hj).1
    have k1 := World.ownsRow.cells ho rfl (j * 2 + 1) _ (smC_at l j hj).2
    rw [Go.WideShapes.add_plain] at k0 k1
    rw [Nat.zero_add] at k0
    rw [Nat.zero_add] at k1
    exact ⟨some_lt hh, k0, k1, fun k => by simp [World.frozen?, hh]⟩
def zP : Array Value := #[.int .i64 0, .float .f64 0]
theorem zeroP_len (n : Nat) : (Builtin.zeroCells zP n).size = n * 2 := by
  simp [Builtin.zeroCells, zP]
theorem zeroP_one (n : Nat) : ∀ u ∈ (Builtin.zeroCells zP n).toList, u.oneCell' = true := by
  intro u hu
  obtain ⟨i, hi, rfl⟩ := List.getElem_of_mem hu
  have hb : i % 2 < 2 := Nat.mod_lt _ (by omega)
  simp [Builtin.zeroCells, zP] at hi ⊢
  generalize i % 2 = f at hb
  have : f = 0 ∨ f = 1 := by omega
  rcases this with rfl | rfl <;> rfl
/-- clear of the end of a row of samples -/
theorem run_clearP {w : World} {base g n cap : Nat} {l : List SmpT} (h : OwnP w base (.slice (some ⟨g, 0, none⟩) n cap) l) (hn : n = l.length) (k : Nat) (hk : k < n) :
    ∃ w', (∀ ty c, (Builtin.clear_ #[28] ty #[.slice (some ⟨g, k * 2, none⟩) (n - k) c]).run Try.prog w = .ok (.tuple #[]) w') ∧ OwnP w' base (.slice (some ⟨g, 0, none⟩) k cap) (l.take k) ∧ w.grownBy w' (some g) := by
  subst hn
  rcases h.2 with ⟨h', _⟩ | ⟨g', cap', cur, h', hbg, hh, hnc, hcm, hcs, htake⟩
  · simp at h'
  · simp only [Value.slice.injEq, Option.some.injEq, Addr.mk.injEq, and_true, true_and] at h'
    obtain ⟨rfl, rfl⟩ := h'
    have hv : ∀ w, (zeroValue 33).run Try.prog w = .ok (.agg zP) w := Try.zeroValue33
    have hlen2 : (Builtin.zeroCells zP (l.length - k)).toList.length = (l.length - k) * 2 := by rw [Array.length_toList]; exact zeroP_len _
    have hst := run_storeCells_at Try.prog g (k * 2) 33 (Builtin.zeroCells zP (l.length - k)).toList 0 cur w hh (by rw [hlen2]; omega) (zeroP_one _)
    obtain ⟨m, hm⟩ : ∃ m, l.length - k = m + 1 := ⟨l.length - k - 1, by omega⟩
    rw [Nat.add_zero, hlen2] at hst
    have htk : (cur.toList.take (k * 2)).length = k * 2 := by rw [List.length_take, Array.length_toList]; omega
    refine ⟨w.setRow g (cur.toList.take (k * 2) ++ (Builtin.zeroCells zP (l.length - k)).toList ++ cur.toList.drop (k * 2 + (l.length - k) * 2)).toArray, fun ty c => ?_, ?_, ?_⟩
    · rw [hm] at hst ⊢
      simp [Builtin.clear_, run_underlying Try.underlying28, hv, Value.cells, hst]
    · refine OwnP.of (setRow_heap w g cur _ 33 _ hh) hbg (by simp; omega) (by omega) hcm ?_ ?_
      · simp only [List.size_toArray, List.length_append, htk, hlen2, List.length_drop, Array.length_toList]
        omega
      · rw [List.append_assoc, List.take_append_of_le_length (by omega), List.take_of_length_le (by omega)]
        rw [smC_take, ← htake, List.take_take, Nat.min_eq_left (by omega)]
    · exact ⟨rfl, rfl, rfl, by simp [World.setRow], fun j hj hne => setRow_other w g j _ (fun e => hne (by rw [e]))⟩
theorem set_getDP {cur : List SmpT} {k m : Nat} (x : SmpT) (h : k ≠ m) : (cur.set k x).getD m smZ = cur.getD m smZ := by
  simp only [List.getD, List.getElem?_set_ne h]
theorem take_setP {cur : List SmpT} {k : Nat} (x : SmpT) (hk : k < cur.length) : (cur.set k x).take (k + 1) = cur.take k ++ [x] := by
  rw [List.take_succ_eq_append_getElem (by simpa using hk), List.getElem_set_self, List.take_set_of_le (Nat.le_refl _)]
theorem live_next {l : List SmpT} {z : Nat} (hz : z < l.length) : live (l.take (z + 1)) = live (l.take z) ++ if stl (l.getD z smZ) = true then [] else [l.getD z smZ] := by
  rw [take_snocS hz]
  unfold live
  rw [List.filter_append]
  congr 1
  generalize l.getD z smZ = x
  cases h : stl x with
  | true => simp [List.filter, h]
  | false => simp [List.filter, h]
theorem live_none {l : List SmpT} (hn : stI l = -1) : live l = l := by
  unfold stI at hn
  split at hn
  · omega
  · rename_i h
    refine List.filter_eq_self.2 fun x hx => ?_
    cases h2 : stl x with
    | true => exact absurd (List.any_eq_true.2 ⟨x, hx, h2⟩) h
    | false => rfl
theorem live_first {l : List SmpT} {z : Nat} (hn : stI l = z) : z < l.length ∧ stl (l.getD z smZ) = true ∧ live (l.take (z + 1)) = l.take z := by
  unfold stI at hn
  split at hn
  · rename_i h
    have hz : l.findIdx stl = z := by omega
    have hlt : z < l.length := by
      rw [← hz, List.findIdx_lt_length]
      rw [List.any_eq_true] at h
      exact h
    have e : l.getD z smZ = l[z] := by simp [List.getD, hlt]
    have h1 : stl l[z] = true := ((List.findIdx_eq hlt).1 hz).1
    refine ⟨hlt, by rw [e]; exact h1, ?_⟩
    rw [live_next hlt, e, if_pos h1, List.append_nil]
    refine List.filter_eq_self.2 fun x hx => ?_
    obtain ⟨j, hj, rfl⟩ := List.mem_iff_getElem.1 hx
    rw [List.length_take] at hj
    have := ((List.findIdx_eq hlt).1 hz).2 j (by omega)
    rw [List.getElem_take, this]
    rfl
  · omega
/-- DeleteFunc between two rounds: z were looked at, k stay -/
structure DeJ (w0 : World) (base g n cap : Nat) (l : List SmpT) (k z : Nat) (cur : List SmpT) (wr : World) : Prop where
  row : OwnP wr base (.slice (some ⟨g, 0, none⟩) n cap) cur
  len : cur.length = n
  pre : cur.take k = live (l.take z)
  suf : ∀ m, z ≤ m → m < n → cur.getD m smZ = l.getD m smZ
  old : w0.grownBy wr (some g)
theorem DeJ.keep {w0 wr w1 : World} {base g n cap k z : Nat} {l cur : List SmpT} (h : DeJ w0 base g n cap l k z cur wr) (hg : wr.grownBy w1 none) : DeJ w0 base g n cap l k z cur w1 :=
  ⟨h.row.keep hg, h.len, h.pre, h.suf, gb_none h.old hg⟩
theorem DeJ.skip {w0 wr w1 : World} {base g n cap k z : Nat} {l cur : List SmpT} (h : DeJ w0 base g n cap l k z cur wr) (hg : wr.grownBy w1 none) (hz : z < l.length) (ht : stl (l.getD z smZ) = true) : DeJ w0 base g n cap l k (z + 1) cur w1 := by
  have hk := h.keep hg
  refine ⟨hk.row, hk.len, ?_, fun m h1 h2 => hk.suf m (by omega) h2, hk.old⟩
  rw [live_next hz, if_pos ht, List.append_nil]
  exact hk.pre
theorem DeJ.put {w0 wr w1 : World} {base g n cap k z : Nat} {l cur : List SmpT} (h : DeJ w0 base g n cap l k z cur wr) (hg : wr.grownBy w1 none) (hz : z < l.length) (hl : l.length = n) (hk : k < z) (ht : stl (l.getD z smZ) = false) :
    DeJ w0 base g n cap l (k + 1) (z + 1) (cur.set k (l.getD z smZ)) (set2 w1 g (k * 2) (.int .i64 (l.getD z smZ).1) (.float .f64 (l.getD z smZ).2)) := by
  have hh := h.keep hg
  have hkn : k < cur.length := by rw [hh.len]; omega
  refine ⟨hh.row.set _ hh.len.symm hkn, by rw [List.length_set]; exact hh.len, ?_, fun m h1 h2 => ?_, ?_⟩
  · rw [take_setP _ hkn, live_next hz, ht, hh.pre]
    simp
  · rw [set_getDP _ (by omega)]
    exact hh.suf m (by omega) h2
  · exact gb_trans hh.old (set2_gb _ _ _ _ _) (fun k' hk' _ => hk'.symm)
set_option maxRecDepth 8000 in
set_option maxHeartbeats 12800000 in
theorem deleteP_any (w : World) (base g n cap : Nat) (l : List SmpT) (hv : OwnP w base (.slice (some ⟨g, 0, none⟩) n cap) l) :
    Calls Try.prog 33 #[.slice (some ⟨g, 0, none⟩) n cap, .func (.func 35) #[] #[]] w fun e w' => e = .returned (.slice (some ⟨g, 0, none⟩) (live l).length cap) ∧ OwnP w' base (.slice (some ⟨g, 0, none⟩) (live l).length cap) (live l) ∧ w.grownBy w' (some g) := by
  have hnl : n = l.length := by
    obtain ⟨a', c', e'⟩ := hv.shape
    simp only [Value.slice.injEq] at e'
    exact e'.2.1
  have hcap : n ≤ cap ∧ cap ≤ 9223372036854775807 := by
    rcases hv.2 with ⟨h', _⟩ | ⟨g', c', cur, h', hgb, hh, hnc, hcm, hcs, htake⟩
    · simp at h'
    · simp only [Value.slice.injEq, Option.some.injEq, Addr.mk.injEq, and_true] at h'
      obtain ⟨rfl, -, rfl⟩ := h'
      unfold maxLen at hcm
      exact ⟨by omega, hcm⟩
  have HI := hidJ (indexP_any w (.slice (some ⟨g, 0, none⟩) n cap) l hv.rd)
  obtain ⟨RQ, hRQ⟩ : ∃ RQ : Ending → World → Prop, RQ = fun e w' => e = .returned (.slice (some ⟨g, 0, none⟩) (live l).length cap) ∧ OwnP w' base (.slice (some ⟨g, 0, none⟩) (live l).length cap) (live l) ∧ w.grownBy w' (some g) := ⟨_, rfl⟩
  have HF : Hid (∀ w' k, k = (live l).length → OwnP w' base (.slice (some ⟨g, 0, none⟩) k cap) (live l) → w.grownBy w' (some g) → RQ (.returned (.slice (some ⟨g, 0, none⟩) k cap)) w') := fun w' k hk ho hg => by
    subst hk
    rw [hRQ]
    exact ⟨rfl, ho, hg⟩
  rw [show (fun e w' => e = .returned (.slice (some ⟨g, 0, none⟩) (live l).length cap) ∧ OwnP w' base (.slice (some ⟨g, 0, none⟩) (live l).length cap) (live l) ∧ w.grownBy w' (some g)) = (fun e w' => RQ e w') from by rw [hRQ]]
  clear hRQ
  obtain ⟨hcap1, hcap2⟩ := hcap
  have HV : Hid (OwnP w base (.slice (some ⟨g, 0, none⟩) n cap) l ∧ n = l.length) := ⟨hv, hnl⟩
  -- a sample of a row that is under way, and whether it goes
  have HE : Hid (∀ k z cur wr, DeJ w base g n cap l k z cur wr → k < n → z < n → ∃ (tk : Int) (fk : Nat), g < wr.heap.size ∧ wr.cell? ⟨g, z * 2, none⟩ = some (.int .i64 (l.getD z smZ).1) ∧ wr.cell? ⟨g, z * 2 + 1, none⟩ = some (.float .f64 (l.getD z smZ).2) ∧
      Hid (∀ W, wr.grownBy W none → W.heap[wr.heap.size]? = some (.cells #[.int .i64 (l.getD z smZ).1, .float .f64 (l.getD z smZ).2] 33 (0, 0)) → Calls Try.prog 35 #[.agg #[.int .i64 (l.getD z smZ).1, .float .f64 (l.getD z smZ).2]] W fun e w' => e = .returned (.bool (stl (l.getD z smZ))) ∧
        (w'.cell? ⟨wr.heap.size, 0, none⟩ = some (.int .i64 (l.getD z smZ).1) ∧ w'.cell? ⟨wr.heap.size, 1, none⟩ = some (.float .f64 (l.getD z smZ).2) ∧ w'.cell? ⟨g, k * 2, none⟩ = some (.int .i64 tk) ∧ w'.cell? ⟨g, k * 2 + 1, none⟩ = some (.float .f64 fk) ∧ ∀ j, w'.frozen? ⟨g, j, none⟩ = false) ∧ Hid (wr.grownBy w' none))) := fun k z cur wr hJ hkn hzn => by
    have hzl : z < cur.length := by rw [hJ.len]; exact hzn
    have hkl : k < cur.length := by rw [hJ.len]; exact hkn
    obtain ⟨hgl, d0, d1, -⟩ := hJ.row.cells hzl
    obtain ⟨-, k0, k1, -⟩ := hJ.row.cells hkl
    have hl0 := hJ.suf z (Nat.le_refl _) hzn
    rw [hl0] at d0 d1
    refine ⟨(cur.getD k smZ).1, (cur.getD k smZ).2, hgl, d0, d1, fun W hW hb => ?_⟩
    refine (alive1_any W (l.getD z smZ)).mono ?_
    rintro e w' ⟨q1, q2⟩
    have hG := gb_none hW q2
    have hb' := (q2.block wr.heap.size (some_lt hb) (by simp)).trans hb
    obtain ⟨-, p0, p1, fz⟩ := (hJ.row.keep hG).cells hkl
    exact ⟨q1, ⟨by simp only [World.cell?, hb']; rfl, by simp only [World.cell?, hb']; rfl, p0, p1, fz⟩, hG⟩
  by_cases hno : stI l = -1
  · have hs := live_none hno
    rw [hno] at HI
    have HFN : Hid (∀ w', w.grownBy w' none → RQ (.returned (.slice (some ⟨g, 0, none⟩) n cap)) w') := fun w' hg => HF.out w' n (by rw [hs]; exact HV.out.2) (by rw [hs]; exact HV.out.1.keep hg) (gb_any hg _)
    clear hs hno HF HE hv hnl HV
    go_enter Try.func33, Try.ntmps33
    go_wp2_with fail
    refine HI.out.mono ?_
    rintro e w1 ⟨rfl, hg1⟩
    have HFF := hidJ (HFN.out w1 hg1)
    clear HI HFN hg1
    go_wp2
    exact HFF.out
  · obtain ⟨k0, hk0⟩ : ∃ k0 : Nat, stI l = k0 := by
      unfold stI at hno ⊢
      split
      · exact ⟨_, rfl⟩
      · rename_i h
        rw [if_neg h] at hno
        exact absurd rfl hno
    obtain ⟨hk1, hk2, hk3⟩ := live_first hk0
    rw [hk0] at HI
    have hkn : k0 < n := by omega
    have hkb : ((k0 : Int) == -1) = false := by rw [beq_eq_false_iff_ne]; omega
    have H0 : Hid (∀ w1, w.grownBy w1 none → DeJ w base g n cap l k0 (k0 + 1) l w1) := fun w1 hg => ⟨HV.out.1.keep hg, HV.out.2.symm, by rw [hk3], fun _ _ _ => rfl, gb_any hg _⟩
    clear hk0 hk1 hk2 hk3 hno hv hnl
    go_enter Try.func33, Try.ntmps33
    go_wp2_with fail
    refine HI.out.mono ?_
    rintro e w1 ⟨rfl, hg1⟩
    have H1 := hidJ (H0.out w1 hg1)
    clear hg1 HI H0
    go_wp2
    go_loopw [5, 6] (fun ui uj wr => ∃ k z : Nat, k < z ∧ z ≤ n ∧ ui = .int .i64 k ∧ uj = .int .i64 z ∧ Hid (∃ cur, DeJ w base g n cap l k z cur wr)) (fun _ uj _ => n - (intOf uj).toNat)
    case atStart => exact ⟨k0, k0 + 1, by omega, by omega, rfl, by simp, l, H1.out⟩
    case round =>
      obtain ⟨k, z, hkz, hzn, rfl, rfl, hr⟩ := hrel
      clear H1
      obtain ⟨cur, hJ⟩ := hr.out
      have HJ := hidJ hJ
      clear hJ hr
      by_cases hzl : z < n
      · have hzi : (z : Int) < (n : Int) := by omega
        have hki : (k : Int) < (n : Int) := by omega
        obtain ⟨tk, fk, hgl, d0, d1, HC⟩ := HE.out k z cur wr HJ.out (by omega) hzl
        have hgl2 : ¬ g = wr.heap.size := by omega
        have hgl3 : ¬ wr.heap.size = g := by omega
        have HSk : Hid (∀ w1, wr.grownBy w1 none → stl (l.getD z smZ) = true → DeJ w base g n cap l k (z + 1) cur w1) := fun w1 hg ht => HJ.out.skip hg (by rw [← HV.out.2]; exact hzl) ht
        have HPu : Hid (∀ w1, wr.grownBy w1 none → stl (l.getD z smZ) = false → ∃ cur', DeJ w base g n cap l (k + 1) (z + 1) cur' (set2 w1 g (k * 2) (.int .i64 (l.getD z smZ).1) (.float .f64 (l.getD z smZ).2))) := fun w1 hg ht =>
          ⟨_, HJ.out.put hg (by rw [← HV.out.2]; exact hzl) HV.out.2.symm hkz ht⟩
        unfold set2 at HPu
        clear HJ HE HF
        generalize (l.getD z smZ).1 = tm at *
        generalize (l.getD z smZ).2 = fl at *
        generalize stl (l.getD z smZ) = bb at *
        have hsf := store_float
        go_wp2_with fail
        refine (HC.out _ (World.grownBy_alloc _ _ none) (Go.heap_alloc_new wr _)).mono ?_
        rintro e w2 ⟨rfl, ⟨p0, p1, q0, q1, fz⟩, hg2⟩
        clear HC d0 d1
        cases bb with
        | true =>
          have H2 := hidJ (HSk.out w2 hg2.out rfl)
          clear HSk HPu hg2 p0 p1 q0 q1 fz
          go_wp2
          go_roundw
          case rel => exact ⟨k, z + 1, by omega, by omega, rfl, by simp, cur, H2.out⟩
          case measure => simp [intOf]; omega
        | false =>
          have H2 := hidJ (HPu.out w2 hg2.out rfl)
          have f0 := fz (k * 2)
          have f1 := fz (k * 2 + 1)
          clear HSk HPu hg2 fz
          go_wp2
          go_roundw
          case rel => exact ⟨k + 1, z + 1, by omega, by omega, by simp, by simp, H2.out⟩
          case measure => simp [intOf]; omega
      · have hzi : ¬ (z : Int) < (n : Int) := by omega
        have hzn' : z = n := by omega
        obtain ⟨w2, hcl, ho2, hg2⟩ := run_clearP HJ.out.row HJ.out.len.symm k (by omega)
        have e : cur.take k = live l := by rw [HJ.out.pre, List.take_of_length_le (by have := HV.out.2; omega)]
        have ek : k = (live l).length := by rw [← e, List.length_take, HJ.out.len]; omega
        have HFF := hidJ (HF.out w2 k ek (by rw [← e]; exact ho2) (gb_trans HJ.out.old hg2 (fun k' hk' _ => hk'.symm)))
        clear HJ ho2 hg2 e hzn' ek HF HE
        have hkc : (k : Int) ≤ (cap : Int) := by omega
        have hkc2 : (k : Int) ≤ (n : Int) := by omega
        have hn1 : ¬ k = n := by omega
        go_wp2
        exact HFF.out
set_option maxRecDepth 8000 in
set_option maxHeartbeats 3200000 in
theorem deleteP_nil (w : World) :
    Calls Try.prog 33 #[.slice none 0 0, .func (.func 35) #[] #[]] w fun e w' => e = .returned (.slice none 0 0) ∧ w.grownBy w' none := by
  have HI := hidJ (indexP_any w (.slice none 0 0) [] (OwnP.nil w 0).rd)
  rw [show stI [] = -1 from rfl] at HI
  go_enter Try.func33, Try.ntmps33
  go_wp2_with fail
  refine HI.out.mono ?_
  rintro e w1 ⟨rfl, hg1⟩
  have HG := hidJ hg1
  clear HI hg1
  go_wp2
  go_ret
  exact ⟨rfl, HG.out⟩
/-- what alive answers: the samples but stale markers, in new memory -/
theorem alive_any (w : World) (v : Value) (l : List SmpT) (hv : RdP w v l) (hl : l.length ≤ 8796093022208) :
    Calls Try.prog 24 #[v] w fun e w' => ∃ a c, e = .returned (.slice a (live l).length c) ∧ RdP w' (.slice a (live l).length c) (live l) ∧ w.grownBy w' none := by
  have HC := hidJ (cloneP_any w v l hv hl)
  have HD : Hid (∀ w1 a c, w.grownBy w1 none → OwnP w1 w.heap.size (.slice a l.length c) l → Calls Try.prog 33 #[.slice a l.length c, .func (.func 35) #[] #[]] w1 fun e w' => ∃ a' c', e = .returned (.slice a' (live l).length c') ∧ Hid (RdP w' (.slice a' (live l).length c') (live l) ∧ w.grownBy w' none)) := fun w1 a c hg ho => by
    rcases ho.2 with ⟨h', hn⟩ | ⟨g, c', cur, h', hgb, -⟩
    · simp only [Value.slice.injEq] at h'
      obtain ⟨rfl, hn0, rfl⟩ := h'
      have : l = [] := List.eq_nil_of_length_eq_zero hn0
      subst this
      refine (deleteP_nil w1).mono ?_
      rintro e w' ⟨rfl, q⟩
      exact ⟨none, 0, rfl, (OwnP.nil w' 0).rd, gb_none hg q⟩
    · simp only [Value.slice.injEq, true_and] at h'
      obtain ⟨rfl, rfl⟩ := h'
      refine (deleteP_any w1 w.heap.size g l.length c l ho).mono ?_
      rintro e w' ⟨rfl, q1, q2⟩
      exact ⟨_, _, rfl, q1.rd, gb_new hg q2 (fun k hk => by cases hk; exact hgb)⟩
  obtain ⟨va, vc, rfl, -⟩ := hv
  clear hl
  go_enter Try.func24, Try.ntmps24
  go_wp2_with fail
  refine HC.out.mono ?_
  rintro e w1 ⟨a, c, rfl, q1, q2⟩
  have HX := hidJ (HD.out w1 a c q2 q1)
  clear HC HD q1 q2
  go_wp2_with fail
  refine HX.out.mono ?_
  rintro e w2 ⟨a', c', rfl, q⟩
  clear HX
  go_wp2
  go_ret
  exact ⟨_, _, rfl, q.out⟩
end Go.Proofs.Ytgpednikianneaa
