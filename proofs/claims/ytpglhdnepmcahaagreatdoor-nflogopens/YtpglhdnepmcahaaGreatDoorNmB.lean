/-
  Nf4, Nf5, in one text.
-/
import Derived.Test.YtpglhdnepmcahaaGreatDoorNmA
import Derived.Test.YtpglhdnepmcahaaGreatDoorShelfS
import Derived.Sort.OwnSorted
/- Nf4 -/
namespace Go.Proofs.YtpglhdnepmcahaaGreatDoor
open Go.RowKit Go.Shelf Go.Sort

/-- the slice, and the labels, of a number -/
def encV (vs : List Value) (i : Nat) : Value := vs.getD i nilV
def cfV (lss : List (List LbT)) (i j : Nat) : Int := cmpLs (lss.getD i []) (lss.getD j [])
theorem swoV (lss : List (List LbT)) : SWO (ltOf (cfV lss)) where
  irrefl x := by
    unfold ltOf cfV
    rw [(cmpLs_zero _ _).2 rfl]
    rfl
  trans x y z h1 h2 := by
    unfold ltOf cfV at *
    rw [decide_eq_true_eq] at *
    exact cmpLs_lt_trans _ _ _ h1 h2
  ntrans x y z h1 h2 := by
    unfold ltOf cfV at *
    rw [decide_eq_false_iff_not] at *
    intro h3
    have a1 : cmpLs (lss.getD y []) (lss.getD x []) ≤ 0 := by rw [cmpLs_neg]; omega
    have a2 : cmpLs (lss.getD z []) (lss.getD y []) ≤ 0 := by rw [cmpLs_neg]; omega
    by_cases e1 : cmpLs (lss.getD y []) (lss.getD x []) = 0
    · have := (cmpLs_zero _ _).1 e1
      rw [this] at h2
      exact h2 h3
    · by_cases e2 : cmpLs (lss.getD z []) (lss.getD y []) = 0
      · have := (cmpLs_zero _ _).1 e2
        rw [this] at h3
        exact h1 h3
      · have := cmpLs_lt_trans _ _ _ (show cmpLs (lss.getD z []) (lss.getD y []) < 0 by omega) (show cmpLs (lss.getD y []) (lss.getD x []) < 0 by omega)
        rw [cmpLs_neg] at this
        omega
theorem oneV {w : World} {vs : List Value} {lss : List (List LbT)} (h : RdS w vs lss) : OneCell (encV vs) := fun i => (h.2 i).one
theorem sortWV_gb {enc : Nat → Value} (w : World) (g n : Nat) (d' : Array Nat) (os : Array Obj) : w.grownBy (sortWorld enc w g 0 n d' os) (some g) := by
  refine ⟨rfl, rfl, rfl, ?_, fun k hk hne => ?_⟩
  · simp [sortWorld, putRow, mapBlock, grow, Sort.ahead]
  · have hkg : k ≠ g := fun e => hne (by rw [e])
    simp only [sortWorld, putRow, mapBlock, grow]
    rw [Array.getElem?_append_left (by simpa [Sort.ahead] using hk), Array.getElem?_modify, if_neg (fun e => hkg e.symm)]
    rfl
theorem range_encV (vs : List Value) : (List.range vs.length).map (encV vs) = vs := by
  apply List.ext_getElem
  · simp
  · intro j h1 h2
    simp [encV, List.getD, h2]
theorem range_lss (lss : List (List LbT)) (n : Nat) (hn : n = lss.length) : (List.range n).map (fun i => lss.getD i []) = lss := by
  subst hn
  apply List.ext_getElem
  · simp
  · intro j h1 h2
    simp [List.getD, h2]
theorem holdsV {vs : List Value} {w : World} {g : Nat} {cur : Array Value} (hb : w.heap[g]? = some (.cells cur 52 (0, 0))) (ht : cur.toList.take vs.length = vs) : Holds (encV vs) w g 0 (List.range vs.length).toArray := by
  intro j hj
  have hj' : j < vs.length := by simpa using hj
  refine ⟨?_, by simp [World.frozen?, hb]⟩
  have h1 : (cur.toList.take vs.length)[j]? = vs[j]? := by rw [ht]
  rw [List.getElem?_take_of_lt hj'] at h1
  simp only [World.cell?, hb, Nat.zero_add]
  simp only [Option.isSome_none, Bool.false_eq_true, if_false]
  rw [← Array.getElem?_toList, h1]
  simp [hj', encV, List.getD]
theorem ownV_sorted {vs : List Value} {w : World} {base g cap n : Nat} {os : Array Obj} {cur : Array Value} {ts : List Nat} (hl : ts.length = vs.length) (hbase : base ≤ g) (hb : w.heap[g]? = some (.cells cur 52 (0, 0)))
    (h1 : vs.length ≤ cap) (h2 : cap ≤ maxLen) (h3 : cur.size = cap * 1) : OwnVs (sortWorld (encV vs) w g 0 n ts.toArray os) base (.slice (some ⟨g, 0, none⟩) vs.length cap) (ts.map (encV vs)) := by
  have hg : g < w.heap.size := (Array.getElem?_eq_some_iff.1 hb).1
  have hh : (sortWorld (encV vs) w g 0 n ts.toArray os).heap[g]? = some (.cells (putCells (encV vs) 0 ts.toArray cur) 52 (0, 0)) := by
    unfold sortWorld
    rw [heap_grow_old _ _ (by simpa using hg)]
    simp [putRow, mapBlock, Sort.ahead, Array.getElem?_modify, hb, onCells]
  have htk : (putCells (encV vs) 0 ts.toArray cur).toList.take ts.length = ts.map (encV vs) := by
    apply List.ext_getElem?
    intro j
    by_cases hj : j < ts.length
    · rw [List.getElem?_take_of_lt hj, Array.getElem?_toList]
      simp [putCells, hj, show j < cur.size by omega]
    · rw [List.getElem?_take_eq_none (by omega), List.getElem?_eq_none (by simp; omega)]
  unfold OwnVs
  rw [List.length_map, hl]
  exact ⟨by simp [hl], .inr ⟨g, cap, _, rfl, hbase, hh, h1, h2, by simp [putCells, h3], by rw [Nat.mul_one, ← hl]; exact htk⟩⟩
/-- rising, or alike -/
def risL (lss : List (List LbT)) : Prop := lss.Pairwise fun a b => cmpLs a b ≤ 0
/-- the sort -/
theorem sortV_any (w0 w : World) (base g n cap : Nat) (vs : List Value) (lss : List (List LbT)) (hS : RdS w0 vs lss) (hg0 : w0.grownBy w none) (hb0 : w0.heap.size ≤ base) (hrow : OwnVs w base (.slice (some ⟨g, 0, none⟩) n cap) vs) (hl : vs.length ≤ 6000000000000) :
    Calls Tryz.prog 142 #[.slice (some ⟨g, 0, none⟩) n cap, .func (.func 104) #[] #[]] w fun e w' => e = .returned (.tuple #[]) ∧ ∃ vs' lss', OwnVs w' base (.slice (some ⟨g, 0, none⟩) n cap) vs' ∧ RdS w0 vs' lss' ∧ lss'.Perm lss ∧ risL lss' ∧ vs'.Perm vs ∧ w0.grownBy w' none := by
  rcases hrow.2 with ⟨h', _⟩ | ⟨g', cap', cur, h', hbg, hh, hnc, hcm, hcs, htake⟩
  · simp at h'
  · simp only [Value.slice.injEq, Option.some.injEq, Addr.mk.injEq, and_true] at h'
    obtain ⟨rfl, rfl, rfl⟩ := h'
    have hH : Holds (encV vs) w g 0 (List.range vs.length).toArray := holdsV hh (by rw [Nat.mul_one] at htake; exact htake)
    have eg : ∀ args w, (callFunc 104 args).run Tryz.prog w = .ok (.enter 104 args) w := enters_of Tryz.func104 (by kernel_rfl) rfl
    have hgbn : ∀ m dk ob, w0.grownBy (sortWorld (encV vs) w g 0 m dk ob) none := fun m dk ob => gb_new hg0 (sortWV_gb w g m dk ob) (fun k hk => by cases hk; omega)
    have hcmp : CmpLays1 Tryz.prog 104 #[] (encV vs) (cfV lss) g 0 (List.range vs.length).toArray.size w := by
      intro m ob dk _ x y
      have hk := hS.keep (hgbn m dk ob)
      exact compareG _ _ _ _ _ (hk.2 x) (hk.2 y)
    have hsort := Any.slices_SortFunc Tryz.sortSt (encV vs) (oneV hS) (cfV lss) (swoV lss) 104 #[] g 0 cap (List.range vs.length).toArray w eg hcmp hH (some_lt hh) (by simp; omega)
    have hsz : (List.range vs.length).toArray.size = vs.length := by simp
    rw [hsz] at hsort
    refine Calls.mono hsort ?_
    rintro e w' ⟨rfl, d', nn, ob, hpm, hsr, rfl⟩
    obtain ⟨q1, -, q3⟩ := hpm
    have hd : d'.toList.Perm (List.range vs.length) := by
      have e1 : d'.extract 0 vs.length = d' := by rw [← hsz, ← q1]; simp
      rw [e1] at q3
      simpa using q3
    have hq : d'.size = vs.length := by rw [q1]; simp
    rw [← hq] at hsr
    have hdl : d'.toList.length = vs.length := by simpa using hq
    refine ⟨rfl, d'.toList.map (encV vs), d'.toList.map (fun i => lss.getD i []), ?_, ⟨by simp, fun j => ?_⟩, ?_, ?_, ?_, hgbn nn d' ob⟩
    · have := ownV_sorted (vs := vs) (w := w) (n := nn) (os := ob) (ts := d'.toList) hdl hbg hh hnc hcm hcs
      simpa using this
    · by_cases hj : j < d'.toList.length
      · have h := hS.2 (d'.toList[j])
        have e1 : (d'.toList.map (encV vs)).getD j nilV = encV vs (d'.toList[j]) := by simp only [List.getD, List.getElem?_map, List.getElem?_eq_getElem hj, Option.map_some, Option.getD_some]
        have e2 : (d'.toList.map (fun i => lss.getD i [])).getD j [] = lss.getD (d'.toList[j]) [] := by simp only [List.getD, List.getElem?_map, List.getElem?_eq_getElem hj, Option.map_some, Option.getD_some]
        rw [e1, e2]
        exact h
      · have e1 : (d'.toList.map (encV vs)).getD j nilV = nilV := by simp only [List.getD, List.getElem?_map, List.getElem?_eq_none (Nat.le_of_not_lt hj), Option.map_none, Option.getD_none]
        have e2 : (d'.toList.map (fun i => lss.getD i [])).getD j [] = [] := by simp only [List.getD, List.getElem?_map, List.getElem?_eq_none (Nat.le_of_not_lt hj), Option.map_none, Option.getD_none]
        rw [e1, e2]
        exact RdL.nil w0
    · have h := hd.map (fun i => lss.getD i [])
      rwa [range_lss lss vs.length hS.1] at h
    · unfold risL
      rw [List.pairwise_map, List.pairwise_iff_getElem]
      intro i j hi hj hij
      have hi' : i < d'.size := by simpa using hi
      have hj' : j < d'.size := by simpa using hj
      have := hsr i j (Nat.zero_le _) hij hj'
      rw [getElem!_pos d' j hj', getElem!_pos d' i hi'] at this
      unfold ltOf cfV at this
      rw [decide_eq_false_iff_not] at this
      have e := cmpLs_neg (lss.getD d'[j] []) (lss.getD d'[i] [])
      simp only [Array.getElem_toList]
      omega
    · have h := hd.map (encV vs)
      rwa [range_encV] at h

set_option maxHeartbeats 2000000 in
theorem insSort_nil (fv : Value) (w : World) :
    Calls Tryz.prog 149 #[.slice none 0 0, .int .i64 0, .int .i64 0, fv] w fun e w' => e = .returned (.tuple #[]) ∧ w' = w := by
  go_enter Tryz.func149, Tryz.ntmps149
  go_wp2
  refine wp_loop_rounds 1 ?_
  rw [rounds_succ]
  go_wp2
  go_end0
  exact ⟨rfl, rfl⟩
set_option maxRecDepth 8000 in
set_option maxHeartbeats 2000000 in
theorem pdq_nil (fv : Value) (lim : Int) (w : World) :
    Calls Tryz.prog 147 #[.slice none 0 0, .int .i64 0, .int .i64 0, .int .i64 lim, fv] w fun e w' => e = .returned (.tuple #[]) ∧ w' = w := by
  have HI : Hid (∀ W, Calls Tryz.prog 149 #[.slice none 0 0, .int .i64 0, .int .i64 0, fv] W fun e w' => e = .returned (.tuple #[]) ∧ w' = W) := fun W => insSort_nil fv W
  go_enter Tryz.func147, Tryz.ntmps147
  go_wp2
  refine wp_loop_rounds 1 ?_
  rw [rounds_succ]
  go_wp2_with (go_at_call 149; refine (HI.out _).mono ?_; rintro e w' ⟨rfl, rfl⟩)
  (try simp only [Exit.inBlock, Exit.then]); refine bodyPost_ret (results_none rfl _ _ _) rfl ?_
  exact ⟨rfl, rfl⟩
theorem len_nil (w : World) : Calls Tryz.prog 148 #[.int .u64 0] w fun e w' => e = .returned (.int .i64 (Lib.bitLen 0 : Nat)) ∧ w' = w := by
  have L := Tryz.sortSt
  exact Any.bits_Len (SlLaysF0.n15.bits { L with }) 0 w (by omega) (by omega)
set_option maxHeartbeats 2000000 in
theorem sortV_nil (w : World) :
    Calls Tryz.prog 142 #[.slice none 0 0, .func (.func 104) #[] #[]] w fun e w' => e = .returned (.tuple #[]) ∧ w.grownBy w' none := by
  have HL := hidJ (len_nil w)
  have HP : Hid (∀ lim, Calls Tryz.prog 147 #[.slice none 0 0, .int .i64 0, .int .i64 0, .int .i64 lim, .func (.func 104) #[] #[]] w fun e w' => e = .returned (.tuple #[]) ∧ w' = w) := fun lim => pdq_nil _ lim w
  go_enter Tryz.func142, Tryz.ntmps142
  go_wp2_with (first | (go_at_call 148; refine HL.out.mono ?_; rintro e w' ⟨rfl, rfl⟩) | (go_at_call 147; refine (HP.out _).mono ?_; rintro e w' ⟨rfl, rfl⟩))
  go_end0
  exact ⟨rfl, gb_refl _ _⟩
set_option maxHeartbeats 1600000 in
theorem values_any (w : World) (v : Value) (hv : ∃ a n c, v = .slice a n c) :
    Calls Tryz.prog 137 #[v] w fun e w' => e = .returned (.func (.func 143) #[] #[.pointer (some ⟨w.heap.size, 0, none⟩)]) ∧ w' = w.alloc (.cells #[v] 32) := by
  obtain ⟨a, n, c, rfl⟩ := hv
  go_enter Tryz.func137, Tryz.ntmps137
  go_wp2
  go_ret
  exact ⟨rfl, rfl⟩
set_option maxHeartbeats 1600000 in
theorem sortedFunc_any (w0 w : World) (c : Nat) (v : Value) (vs : List Value) (lss : List (List LbT)) (hc : w.cell? ⟨c, 0, none⟩ = some v) (hrow : RdV w v vs) (hS : RdS w0 vs lss) (hg0 : w0.grownBy w none) (hl : vs.length ≤ 6000000000000) :
    Calls Tryz.prog 136 #[.func (.func 143) #[] #[.pointer (some ⟨c, 0, none⟩)], .func (.func 104) #[] #[]] w fun e w' => ∃ v' vs' lss', e = .returned v' ∧ OwnVs w' w0.heap.size v' vs' ∧ RdS w0 vs' lss' ∧ lss'.Perm lss ∧ risL lss' ∧ vs'.Perm vs ∧ w0.grownBy w' none := by
  have hone : ∀ u ∈ vs, ∃ a n c, u = .slice a n c := fun u hu => by
    obtain ⟨j, hj, rfl⟩ := List.mem_iff_getElem.1 hu
    have h := hS.2 j
    obtain ⟨a, c, e⟩ := h.shape
    have e2 : vs.getD j nilV = vs[j] := by simp [List.getD, hj]
    rw [e2] at e
    exact ⟨_, _, _, e⟩
  have HA := hidJ (collect_any w c v vs hc hrow hone hl)
  have HS := hidJ (And.intro hS (And.intro hg0 hl))
  clear hc hrow hone hl hS hg0
  go_enter Tryz.func136, Tryz.ntmps136
  go_wp2_with fail
  refine HA.out.mono ?_
  rintro e w1 ⟨v', rfl, H1⟩
  have H1 := hidJ H1
  clear HA
  have hrow := H1.out.1
  rcases hrow.2 with ⟨rfl, h0⟩ | ⟨g, cap, cur, rfl, -⟩
  · have HN := hidJ (List.eq_nil_of_length_eq_zero h0)
    have HB := hidJ (sortV_nil w1)
    clear h0 hrow
    go_wp2_with fail
    refine HB.out.mono ?_
    rintro e w2 ⟨rfl, H2⟩
    have H2 := hidJ H2
    clear HB
    go_wp2
    go_ret
    have hv := HN.out
    subst hv
    have hl0 : lss = [] := List.eq_nil_of_length_eq_zero (by have := HS.out.1.1; simpa using this.symm)
    subst hl0
    exact ⟨_, [], [], rfl, OwnVs.nil _ _, RdS.nil _, List.Perm.refl _, List.Pairwise.nil, List.Perm.refl _, gb_none (gb_none HS.out.2.1 H1.out.2) H2.out⟩
  · have HB := hidJ (sortV_any w0 w1 w0.heap.size g vs.length cap vs lss HS.out.1 (gb_none HS.out.2.1 H1.out.2) (Nat.le_refl _) (hrow.mono HS.out.2.1.size) HS.out.2.2)
    clear hrow
    go_wp2_with fail
    refine HB.out.mono ?_
    rintro e w2 ⟨rfl, vs', lss', H2⟩
    have H2 := hidJ H2
    clear HB
    go_wp2
    go_ret
    exact ⟨_, vs', lss', rfl, H2.out.1, H2.out.2⟩
set_option maxHeartbeats 1600000 in
theorem inOrder_any (w : World) (v : Value) (vs : List Value) (lss : List (List LbT)) (hV : RdV w v vs) (hS : RdS w vs lss) (hl : vs.length ≤ 6000000000000) :
    Calls Tryz.prog 127 #[v] w fun e w' => ∃ v' vs' lss', e = .returned v' ∧ OwnVs w' w.heap.size v' vs' ∧ RdS w vs' lss' ∧ lss'.Perm lss ∧ risL lss' ∧ vs'.Perm vs ∧ w.grownBy w' none := by
  have hvs : ∃ a n c, v = .slice a n c := by obtain ⟨a, c, e, -⟩ := hV; exact ⟨_, _, _, e⟩
  have HA := hidJ (values_any w v hvs)
  have hk := World.grownBy_alloc w (.cells #[v] 32) none
  have HB := hidJ (sortedFunc_any w (w.alloc (.cells #[v] 32)) w.heap.size v vs lss (Boxed.new w 32 v).cell (hV.keep hk) hS hk hl)
  clear hV hS hl hk
  obtain ⟨a, n, c, rfl⟩ := hvs
  go_enter Tryz.func127, Tryz.ntmps127
  go_wp2_with fail
  refine HA.out.mono ?_
  rintro e w1 ⟨rfl, rfl⟩
  clear HA
  go_wp2_with fail
  refine HB.out.mono ?_
  rintro e w2 ⟨v', vs', lss', rfl, H2⟩
  have H2 := hidJ H2
  obtain ⟨a', c', rfl⟩ := H2.out.1.shape
  clear HB
  go_wp2
  go_ret
  exact ⟨_, vs', lss', rfl, H2.out⟩
end Go.Proofs.YtpglhdnepmcahaaGreatDoor

/- Nf5 -/
namespace Go.Proofs.YtpglhdnepmcahaaGreatDoor
open Go.RowKit Go.Shelf Go.Sort

theorem ris_at {lss : List (List LbT)} (h : risL lss) {i j : Nat} (hij : i < j) (hj : j < lss.length) : cmpLs (lss.getD i []) (lss.getD j []) ≤ 0 := by
  have := List.pairwise_iff_getElem.1 h i j (by omega) hj hij
  have e1 : lss.getD j [] = lss[j] := by simp [List.getD, hj]
  have e2 : lss.getD i [] = lss[i]'(by omega) := by simp [List.getD, show i < lss.length by omega]
  rwa [e1, e2]
theorem le_lt {a b c : List LbT} (h1 : cmpLs a b ≤ 0) (h2 : cmpLs b c < 0) : cmpLs a c < 0 := by
  by_cases e : cmpLs a b = 0
  · rw [(cmpLs_zero _ _).1 e]; exact h2
  · exact cmpLs_lt_trans _ _ _ (by omega) h2
/-- found, where it would stand -/
theorem found_at {lss : List (List LbT)} {ms : List LbT} {p : Nat} (hs : risL lss) (hlo : ∀ k, k < p → cmpLs (lss.getD k []) ms < 0) (hhi : ∀ k, p ≤ k → k < lss.length → 0 ≤ cmpLs (lss.getD k []) ms) : decide (ms ∈ lss) = (decide (p < lss.length) && decide (cmpLs (lss.getD p []) ms = 0)) := by
  rw [Bool.eq_iff_iff, decide_eq_true_eq, Bool.and_eq_true, decide_eq_true_eq, decide_eq_true_eq]
  constructor
  · intro h
    obtain ⟨k, hk, he⟩ := List.mem_iff_getElem.1 h
    have ek : lss.getD k [] = ms := by simp [List.getD, hk, he]
    have hpk : p ≤ k := by
      rcases Nat.lt_or_ge k p with h1 | h1
      · have := hlo k h1
        rw [ek, (cmpLs_zero _ _).2 rfl] at this
        omega
      · exact h1
    refine ⟨by omega, ?_⟩
    rcases Nat.lt_or_ge p k with h1 | h1
    · have h2 := ris_at hs h1 hk
      have h3 := hhi p (Nat.le_refl _) (by omega)
      rw [ek] at h2
      omega
    · have : p = k := by omega
      rw [this, ek]
      exact (cmpLs_zero _ _).2 rfl
  · rintro ⟨h1, h2⟩
    have := (cmpLs_zero _ _).1 h2
    rw [← this]
    simp [List.getD, h1]

set_option maxRecDepth 8000 in
set_option maxHeartbeats 6400000 in
theorem bsearchV_any (w w1 : World) (v u : Value) (vs : List Value) (lss : List (List LbT)) (ms : List LbT) (hv : RdV w1 v vs) (hS : RdS w vs lss) (hg : w.grownBy w1 none) (hu : RdL w u ms) (hs : risL lss) (hl : lss.length ≤ 6000000000000) :
    Calls Tryz.prog 128 #[v, u, .func (.func 104) #[] #[]] w1 fun e w' => ∃ p : Nat, e = .returned (.tuple #[.int .i64 (p : Int), .bool (decide (ms ∈ lss))]) ∧ w1.grownBy w' none := by
  have hvl : RdLL w1 v lss := ⟨vs, hv, hS.keep hg⟩
  have HV : Hid (RdLL w1 v lss ∧ RdL w1 u ms ∧ risL lss) := ⟨hvl, hu.keep hg, hs⟩
  obtain ⟨a, c, rfl, hc1, hc2⟩ := hvl.shape
  obtain ⟨ua, uc, rfl⟩ := hu.shape
  clear hv hS hg hu hs hvl
  obtain ⟨R, hR⟩ : ∃ R, R = decide (ms ∈ lss) := ⟨_, rfl⟩
  rw [← hR]
  have HR := hidJ hR
  clear hR
  go_enter Tryz.func128, Tryz.ntmps128
  go_wp2
  go_loopw [9, 10] (fun ui uj wr => ∃ i j : Nat, i ≤ j ∧ j ≤ lss.length ∧ ui = .int .i64 i ∧ uj = .int .i64 j ∧ Hid (w1.grownBy wr none ∧ (∀ k, k < i → cmpLs (lss.getD k []) ms < 0) ∧ ∀ k, j ≤ k → k < lss.length → 0 ≤ cmpLs (lss.getD k []) ms)) (fun ui uj _ => (intOf uj).toNat - (intOf ui).toNat)
  case atStart => exact ⟨0, lss.length, by omega, by omega, rfl, rfl, gb_refl _ _, fun k hk => by omega, fun k h1 h2 => by omega⟩
  case round =>
    obtain ⟨i, j, hij, hjl, rfl, rfl, hr⟩ := hrel
    by_cases hlt : i < j
    · have hi : (i : Int) < (j : Int) := by omega
      obtain ⟨h, hh⟩ : ∃ h, h = (i + j) / 2 := ⟨_, rfl⟩
      have hhi : ((i : Int) + (j : Int)) / 2 = (h : Int) := by omega
      have hih : i ≤ h := by omega
      have hhj : h < j := by omega
      have hhl : (h : Int) < (lss.length : Int) := by omega
      have hu : IntKind.u64.wrap ((i : Int) + (j : Int)) = (i : Int) + (j : Int) := by rw [IntKind.wrap_u64]; omega
      clear hh
      obtain ⟨b, o, ha, hcc, rfl, c0, hrd⟩ := (HV.out.1.keep hr.out.1).at (j := h) (by omega)
      have HO : Hid (Calls Tryz.prog 104 #[.slice ha (lss.getD h []).length hcc, .slice ua ms.length uc] wr fun e w' => e = .returned (.int .i64 (cmpLs (lss.getD h []) ms)) ∧ wr.grownBy w' none) := (compareG wr _ _ _ _ hrd (HV.out.2.1.keep hr.out.1)).mono fun e w' ⟨h1, h2⟩ => ⟨h1, h2.gb⟩
      clear hrd
      generalize (lss.getD h []).length = hn at *
      by_cases hn' : cmpLs (lss.getD h []) ms < 0
      · have HE : Hid (∀ k, k < h + 1 → cmpLs (lss.getD k []) ms < 0) := fun k hk => by
          by_cases e : k = h
          · rw [e]; exact hn'
          · exact le_lt (ris_at HV.out.2.2 (by omega : k < h) (by omega)) hn'
        generalize cmpLs (lss.getD h []) ms = r at *
        go_wp2_with fail
        refine HO.out.mono ?_
        rintro e w2 ⟨rfl, hg1⟩
        have H1 : Hid (w1.grownBy w2 none ∧ (∀ k, k < h + 1 → cmpLs (lss.getD k []) ms < 0) ∧ ∀ k, j ≤ k → k < lss.length → 0 ≤ cmpLs (lss.getD k []) ms) := ⟨gb_none hr.out.1 hg1, HE.out, hr.out.2.2⟩
        clear HO hg1 hr c0 HE hu hhi
        go_wp2
        go_roundw
        case rel => exact ⟨h + 1, j, by omega, by omega, by simp, rfl, H1.out⟩
        case measure => simp [intOf]; omega
      · have HE : Hid (∀ k, h ≤ k → k < lss.length → 0 ≤ cmpLs (lss.getD k []) ms) := fun k hk hkl => by
          by_cases e2 : k = h
          · rw [e2]; omega
          · rcases Int.lt_or_le (cmpLs (lss.getD k []) ms) 0 with e | e
            · exact absurd (le_lt (ris_at HV.out.2.2 (by omega : h < k) hkl) e) hn'
            · exact e
        generalize cmpLs (lss.getD h []) ms = r at *
        go_wp2_with fail
        refine HO.out.mono ?_
        rintro e w2 ⟨rfl, hg1⟩
        have H1 : Hid (w1.grownBy w2 none ∧ (∀ k, k < i → cmpLs (lss.getD k []) ms < 0) ∧ ∀ k, h ≤ k → k < lss.length → 0 ≤ cmpLs (lss.getD k []) ms) := ⟨gb_none hr.out.1 hg1, hr.out.2.1, HE.out⟩
        clear HO hg1 hr c0 HE hu hhi
        go_wp2
        go_roundw
        case rel => exact ⟨i, h, by omega, by omega, rfl, rfl, H1.out⟩
        case measure => simp [intOf]; omega
    · obtain rfl : i = j := by omega
      have hi : ¬ (i : Int) < (i : Int) := by omega
      have HF := hidJ (found_at HV.out.2.2 hr.out.2.1 hr.out.2.2)
      have HG : Hid (w1.grownBy wr none) := hr.out.1
      by_cases hil : i < lss.length
      · have hili : (i : Int) < (lss.length : Int) := by omega
        obtain ⟨b, o, ha, hcc, rfl, c0, hrd⟩ := (HV.out.1.keep hr.out.1).at (j := i) hil
        have HO : Hid (Calls Tryz.prog 104 #[.slice ha (lss.getD i []).length hcc, .slice ua ms.length uc] wr fun e w' => e = .returned (.int .i64 (cmpLs (lss.getD i []) ms)) ∧ wr.grownBy w' none) := (compareG wr _ _ _ _ hrd (HV.out.2.1.keep hr.out.1)).mono fun e w' ⟨h1, h2⟩ => ⟨h1, h2.gb⟩
        have HB : Hid (R = (cmpLs (lss.getD i []) ms == 0)) := by
          show _ = _
          rw [HR.out, HF.out, decide_eq_true hil, Bool.true_and, Bool.eq_iff_iff, decide_eq_true_eq, beq_iff_eq]
        clear hr hrd HF HR
        generalize (lss.getD i []).length = hn at *
        generalize cmpLs (lss.getD i []) ms = r at *
        go_wp2_with fail
        refine HO.out.mono ?_
        rintro e w2 ⟨rfl, hg1⟩
        have H1 : Hid (w1.grownBy w2 none) := gb_none HG.out hg1
        clear HO hg1 c0
        go_wp2
        go_ret2
        first | exact ⟨i, by rw [HB.out]; rfl, H1.out⟩ | exact ⟨⟨i, by rw [HB.out]; rfl⟩, H1.out⟩
      · have hili : ¬ (i : Int) < (lss.length : Int) := by omega
        have HB : Hid (R = false) := by
          show _ = _
          rw [HR.out, HF.out, decide_eq_false hil, Bool.false_and]
        clear hr HF HR
        go_wp2
        go_ret2
        first | exact ⟨i, by rw [HB.out]; rfl, HG.out⟩ | exact ⟨⟨i, by rw [HB.out]; rfl⟩, HG.out⟩

/-- is each of a in b? -/
def withinB (a b : List (List LbT)) : Bool := a.all fun x => decide (x ∈ b)
theorem within_drop {a b : List (List LbT)} {z : Nat} (hz : z < a.length) : withinB (a.drop z) b = (decide (a.getD z [] ∈ b) && withinB (a.drop (z + 1)) b) := by
  have e1 : a.getD z [] = a[z] := by simp [List.getD, hz]
  rw [List.drop_eq_getElem_cons hz, e1]
  rfl
set_option maxRecDepth 8000 in
set_option maxHeartbeats 3200000 in
theorem withinN_any (w : World) (va vb : Value) (xs bs : List (List LbT)) (ha : RdLL w va xs) (hb : RdLL w vb bs) (hl : bs.length ≤ 6000000000000) :
    Calls Tryz.prog 114 #[va, vb] w fun e w' => e = .returned (.bool (withinB xs bs)) ∧ w.grownBy w' none := by
  obtain ⟨vs, hV, hS⟩ := hb
  have HA := hidJ ha
  have HI := hidJ (inOrder_any w vb vs bs hV hS (by rw [hS.1]; exact hl))
  have HL := hidJ hl
  obtain ⟨a, c, rfl, hc1, hc2⟩ := ha.shape
  have hbs : ∃ a n c, vb = .slice a n c := by obtain ⟨a, c, e, -⟩ := hV; exact ⟨_, _, _, e⟩
  obtain ⟨ba, bn, bc, rfl⟩ := hbs
  obtain ⟨R, hR⟩ : ∃ R, R = withinB xs bs := ⟨_, rfl⟩
  rw [← hR]
  have HR : Hid (R = withinB (xs.drop 0) bs) := by show R = _; rw [hR]; simp
  clear ha hV hS hl hR
  go_enter Tryz.func114, Tryz.ntmps114
  go_wp2_with fail
  refine HI.out.mono ?_
  rintro e w1 ⟨v', vs', lss', rfl, H1⟩
  have H1 := hidJ H1
  obtain ⟨a', c', rfl⟩ := H1.out.1.shape
  clear HI
  go_wp2
  go_loopw [14] (fun i wr => ∃ z : Nat, z ≤ xs.length ∧ i = .int .i64 z ∧ Hid (w1.grownBy wr none ∧ R = withinB (xs.drop z) bs)) (fun i _ => xs.length - (intOf i).toNat)
  case atStart => exact ⟨0, by omega, rfl, gb_refl _ _, HR.out⟩
  case round =>
    obtain ⟨z, hzN, rfl, hr⟩ := hrel
    have HG : Hid (w1.grownBy wr none) := hr.out.1
    have HG0 : Hid (w.grownBy wr none) := gb_none H1.out.2.2.2.2.2 hr.out.1
    by_cases hzl : z < xs.length
    · have hzi : (z : Int) < (xs.length : Int) := by omega
      obtain ⟨b, o, ha', hcc, rfl, c0, hrd⟩ := (HA.out.keep HG0.out).at (j := z) hzl
      have hrdw : RdL w (.slice ha' (xs.getD z []).length hcc) (xs.getD z []) := by
        obtain ⟨b2, o2, a2, c2, e1, d0, hrd2⟩ := HA.out.at (j := z) hzl
        cases e1
        have : wr.cell? ⟨b, o + z, none⟩ = some (.slice a2 (xs.getD z []).length c2) := (World.cell?_of_block (HG0.out.block b (block_lt d0) (by simp))).trans d0
        rw [c0] at this
        simp only [Option.some.injEq, Value.slice.injEq] at this
        obtain ⟨rfl, -, rfl⟩ := this
        exact hrd2
      have HB := hidJ (bsearchV_any w wr (.slice a' vs'.length c') (.slice ha' (xs.getD z []).length hcc) vs' lss' (xs.getD z []) (H1.out.1.rd.keep HG.out) H1.out.2.1 HG0.out hrdw H1.out.2.2.2.1 (by have := HL.out; have := H1.out.2.2.1.length_eq; omega))
      have HM : Hid (decide (xs.getD z [] ∈ lss') = decide (xs.getD z [] ∈ bs)) := by
        show _ = _
        rw [Bool.eq_iff_iff, decide_eq_true_eq, decide_eq_true_eq]
        exact H1.out.2.2.1.mem_iff
      have HW : Hid (R = (decide (xs.getD z [] ∈ bs) && withinB (xs.drop (z + 1)) bs)) := by
        show _ = _
        rw [← within_drop hzl]
        exact hr.out.2
      rw [HM.out] at HB
      clear hr hrd hrdw HM HR
      generalize (xs.getD z []).length = hn at *
      by_cases hm : xs.getD z [] ∈ bs
      · rw [decide_eq_true hm] at HB HW
        rw [Bool.true_and] at HW
        clear hm
        go_wp2_with fail
        refine HB.out.mono ?_
        rintro e w2 ⟨p, rfl, hg2⟩
        have H2 := hidJ (gb_none HG.out hg2)
        clear HB hg2 c0
        go_wp2
        go_roundw
        case rel => exact ⟨z + 1, by omega, by go_num, H2.out, HW.out⟩
        case measure => simp [intOf]; omega
      · rw [decide_eq_false hm] at HB HW
        rw [Bool.false_and] at HW
        clear hm
        go_wp2_with fail
        refine HB.out.mono ?_
        rintro e w2 ⟨p, rfl, hg2⟩
        have H2 := hidJ (gb_none HG0.out hg2)
        clear HB hg2 c0
        go_wp2
        go_ret
        exact ⟨by rw [HW.out]; rfl, H2.out⟩
    · have hzi : ¬ (z : Int) < (xs.length : Int) := by omega
      have HW : Hid (R = true) := by
        show _ = _
        rw [hr.out.2, List.drop_eq_nil_of_le (by omega)]
        rfl
      clear hr HR
      go_wp2
      go_ret
      exact ⟨by rw [HW.out]; rfl, HG0.out⟩
end Go.Proofs.YtpglhdnepmcahaaGreatDoor
