/-
  Ng1, Ng2, Ng3, Ng4, Ng5, in one text.
-/
import Derived.Test.YtbnieljkadcaoaaDoorNfk
import Derived.Lib.AppendZeros
import Derived.Lib.Overlaps
import Derived.Laws.Externs
/- Ng1 -/
namespace Go.Proofs.YtbnieljkadcaoaaDoor
open Go.RowKit Go.Shelf Go.Sort

/-- copy into a row that is known whole, of elements of several cells -/
theorem run_copyE {P : Program} (w : World) (dT sT ty elem : TypeId) (size : Nat) (g o dLen dCap : Nat) (a : Addr) (sLen sCap : Nat) (cur : Array Value) (t : TypeId) (cs : List Value)
    (hu : P.underlying dT = some (.slice elem)) (hs : (P.info? elem).map (·.size) = some size)
    (hg : w.heap[g]? = some (.cells cur t (0, 0))) (hn : cs.length = Nat.min sLen dLen * size)
    (hsrc : ∀ j v, cs[j]? = some v → w.cell? (a.add j) = some v) (hfit : o + cs.length ≤ cur.size) (h1 : ∀ v ∈ cs, v.oneCell' = true) :
    (Builtin.copy_ #[dT, sT] ty #[.slice (some ⟨g, o, none⟩) dLen dCap, .slice (some a) sLen sCap]).run P w =
      .ok (goInt (Nat.min sLen dLen : Nat)) (w.setRow g (cur.toList.take o ++ cs ++ cur.toList.drop (o + cs.length)).toArray) := by
  have hst := run_storeCells_at P g o t cs 0 cur w hg (by simpa using hfit) h1
  cases hq : P.info? elem with
  | none => simp [hq] at hs
  | some i =>
    have hi : i.size = size := by simpa [hq] using hs
    have hf := run_firstCells_some (P := P) w size (Nat.min sLen dLen) a sLen sCap cs hn hsrc
    simp [Builtin.copy_, run_underlying hu, Builtin.lenOf, sizeOf, typeInfo, hq, hi, hf, hst]
/-- append of so many zeros, where there is no room -/
theorem run_growZ {P : Program} (w : World) (t tn ty e : TypeId) (i : TypeInfo) (z : Value) (k kn : IntKind) (ht : P.underlying t = some (.slice e)) (htn : P.underlying tn = some (.int kn)) (hi : P.info? e = some i) (hz : i.zero = some z)
    (b : Addr) (sLen sCap : Nat) (olds : List Value) (hlo : olds.length = sLen * i.size) (holds : ∀ j v, olds[j]? = some v → w.cell? (b.add j) = some v)
    (n : Nat) (h0 : 0 < n) (hs : 0 < i.size) (hg : sCap < sLen + n) (h63 : ((sLen + n : Nat) : Int) ≤ 9223372036854775807) (h48 : n * i.bytes ≤ 281474976710656) (hfit : Builtin.nextslicecap (sLen + n) sCap * i.bytes ≤ 281474976710656) :
    (Builtin.append_ #[t, tn] ty #[.slice (some b) sLen sCap, .int k n]).run P w =
      .ok (.slice (some ⟨w.heap.size, 0, none⟩) (sLen + n) (grownCap w (sLen + n) sCap e))
        (w.drew.alloc (.cells (olds.toArray ++ Builtin.zeroCells z.cells n ++ Builtin.zeroCells z.cells (grownCap w (sLen + n) sCap e - (sLen + n))) e)) := by
  have hn : n ≠ 0 := by omega
  have hroom : ¬ (sLen + n ≤ sCap) := by omega
  have hw : IntKind.i64.wrap (n : Int) = n := by rw [IntKind.wrap_i64]; omega
  have h63' : ¬ (9223372036854775807 < ((sLen : Int) + (n : Int))) := by omega
  have h48' : ¬ (281474976710656 < Builtin.nextslicecap (sLen + n) sCap * i.bytes) := by omega
  have h48i : ¬ (281474976710656 < (n : Int) * (i.bytes : Int)) := by
    rw [← Int.natCast_mul]
    omega
  have hneg : ¬ ((n : Int) < 0) := by omega
  have hns : ¬ (n * i.size = 0) := Nat.mul_ne_zero hn (by omega)
  have hfo := run_firstCells_some (P := P) w.drew i.size sLen b sLen sCap olds hlo (by simpa using holds)
  simp [Builtin.append_, run_underlying ht, run_underlying htn, sizeOf, typeInfo, zeroValue, hi, hz, asInt, asIntOf, hw, hneg, hns, hroom, h63', h48', h48i, Question.forced, hfo, newRow, grownCap]
theorem entF_take (l : List MkX) (k : Nat) : (entF l).take (k * 7) = entF (l.take k) := by
  induction l generalizing k with
  | nil => simp [entF]
  | cons x l ih =>
    cases k with
    | zero => simp [entF]
    | succ k =>
      have e : entF (x :: l) = entC x ++ entF l := rfl
      have e2 : entF ((x :: l).take (k + 1)) = entC x ++ entF (l.take k) := rfl
      have hl : (entC x).length = 7 := rfl
      rw [e, e2, List.take_append, hl, show (k + 1) * 7 - 7 = k * 7 by omega, ih, List.take_of_length_le (by omega)]
theorem entF_drop (l : List MkX) (k : Nat) : (entF l).drop (k * 7) = entF (l.drop k) := by
  induction l generalizing k with
  | nil => simp [entF]
  | cons x l ih =>
    cases k with
    | zero => simp [entF]
    | succ k =>
      have e : entF (x :: l) = entC x ++ entF l := rfl
      have hl : (entC x).length = 7 := rfl
      rw [e, List.drop_append, hl, show (k + 1) * 7 - 7 = k * 7 by omega, ih, List.drop_of_length_le (by omega)]
      rfl
/-- one entry laid over what stands at its place, then others behind it -/
theorem splice2 {α : Type} (cur X Y : List α) (o : Nat) (ho : o + X.length + Y.length ≤ cur.length) :
    (((cur.take o ++ X ++ cur.drop (o + X.length)).take (o + X.length) ++ Y ++ (cur.take o ++ X ++ cur.drop (o + X.length)).drop (o + X.length + Y.length)).take (o + X.length + Y.length)) = cur.take o ++ X ++ Y := by
  have h1 : (cur.take o ++ X).length = o + X.length := by rw [List.length_append, List.length_take]; omega
  have h2 : (cur.take o ++ X ++ cur.drop (o + X.length)).take (o + X.length) = cur.take o ++ X := by
    rw [List.take_append_of_le_length (by omega), List.take_of_length_le (by omega)]
  rw [h2, List.take_append_of_le_length (by rw [List.length_append]; omega), List.take_of_length_le (by rw [List.length_append]; omega)]
/-- in place: those behind are laid one further first, then the entry -/
theorem splice3 {α : Type} (cur X Y : List α) (o : Nat) (ho : o + X.length + Y.length ≤ cur.length) :
    (((cur.take (o + X.length) ++ Y ++ cur.drop (o + X.length + Y.length)).take o ++ X ++ (cur.take (o + X.length) ++ Y ++ cur.drop (o + X.length + Y.length)).drop (o + X.length)).take (o + X.length + Y.length)) = cur.take o ++ X ++ Y := by
  have h1 : (cur.take (o + X.length)).length = o + X.length := by rw [List.length_take]; omega
  have h2 : (cur.take (o + X.length) ++ Y ++ cur.drop (o + X.length + Y.length)).take o = cur.take o := by
    rw [List.append_assoc, List.take_append_of_le_length (by omega), List.take_take, Nat.min_eq_left (by omega)]
  have h3 : (cur.take (o + X.length) ++ Y ++ cur.drop (o + X.length + Y.length)).drop (o + X.length) = Y ++ cur.drop (o + X.length + Y.length) := by
    rw [List.append_assoc, List.drop_append, h1, Nat.sub_self, List.drop_of_length_le (by omega)]
    rfl
  have h4 : (cur.take o).length = o := by rw [List.length_take]; omega
  rw [h2, h3, ← List.append_assoc, List.take_append_of_le_length (by rw [List.length_append, List.length_append]; omega), List.take_of_length_le (by rw [List.length_append, List.length_append]; omega)]
/-- a row that is known whole -/
theorem OwnE.of {w : World} {base g n c : Nat} {l : List MkX} {cur : Array Value} (hh : w.heap[g]? = some (.cells cur 85 (0, 0))) (hb : base ≤ g) (hn : n = l.length) (hc : n ≤ c) (hcm : c ≤ maxLen) (hs : cur.size = c * 7) (ht : cur.toList.take (n * 7) = entF l) : OwnE w base (.slice (some ⟨g, 0, none⟩) n c) l := by
  subst hn
  exact ⟨entF_len l, .inr ⟨g, c, cur, rfl, hb, hh, hc, hcm, hs, ht⟩⟩
end Go.Proofs.YtbnieljkadcaoaaDoor

/- Ng2 -/
namespace Go.Proofs.YtbnieljkadcaoaaDoor
open Go.RowKit Go.Shelf Go.Sort

set_option maxRecDepth 8000 in
set_option maxHeartbeats 3200000 in
theorem insert_end (w : World) (base b : Nat) (v : Value) (l : List MkX) (x : MkX) (hv : OwnE w base v l) (hl : l.length ≤ 1000) (hbw : base ≤ w.heap.size) (hb : w.heap[b]? = some (.cells (entC x).toArray 85 (0, 0))) (h1 : x.2.1.oneCell' = true) (h2 : x.2.2.oneCell' = true) :
    Calls Tryd.prog 70 #[v, .int .i64 (l.length : Int), .slice (some ⟨b, 0, none⟩) 1 1] w fun e w' => ∃ v', e = .returned v' ∧ OwnE w' base v' (l ++ [x]) ∧ Fr w w' v v' := by
  obtain ⟨i0, hi, hz0, hz1, hz2⟩ := info_parts infoEn
  obtain ⟨v', w', hrun, k2, k3⟩ := run_appH w 61 61 85 i0 _ 7 120 base Tryd.underlying61 hi hz0 hz1 hz2 rfl (by decide) v l.length (entF l) hv (some ⟨b, 0, none⟩) 1 1 (entC x) rfl
    (fun j u hj => by
      refine ⟨_, rfl, ?_⟩
      rw [Go.WideShapes.add_plain]
      simp only [World.cell?, hb]
      simpa using hj) (fun e => by cases e)
    (fun u hu => by
      unfold entC at hu
      simp only [List.mem_cons, List.not_mem_nil, or_false] at hu
      rcases hu with rfl | rfl | rfl | rfl | rfl | rfl | rfl <;> first | rfl | exact h1 | exact h2) (by omega) (by omega) hbw
  have HO : Hid (OwnE w' base v' (l ++ [x]) ∧ Fr w w' v v') := by
    refine ⟨?_, k3⟩
    unfold OwnE
    rw [entF_append, List.length_append]
    have e : entF [x] = entC x := by simp [entF]
    rw [e]
    exact k2
  obtain ⟨a2, n2, c2, rfl⟩ : ∃ a n c, v' = .slice a n c := by
    obtain ⟨a, c, e⟩ := HO.out.1.shape
    exact ⟨a, _, c, e⟩
  have hsh : ∃ a c, v = .slice a l.length c ∧ l.length ≤ c := by
    rcases hv.2 with ⟨rfl, hn⟩ | ⟨g, cap, cur, rfl, hg, hh, hnc, -⟩
    · exact ⟨none, 0, by rw [hn], by omega⟩
    · exact ⟨_, _, rfl, hnc⟩
  obtain ⟨a, c, rfl, hc⟩ := hsh
  have HRun := hidJ hrun
  clear k2 k3 hrun hz0 hz1 hz2 hi hb h1 h2 hv
  generalize l.length = n at *
  have ht' : Tryd.prog.underlying 61 = some (.slice (Tryd.prog.elem 61)) := by simp [Program.elem, Tryd.underlying61]
  have hsl : ∀ W, ∃ u, (Instr.slice 61 (.slice a n c) (some (.int .i64 (n : Int))) none none).run Tryd.prog W = .ok u W := fun W => by
    rw [run_slice_l W _ _ _ _ ht' .i64 _ (by omega) (by omega)]
    exact ⟨_, rfl⟩
  obtain ⟨u, hu⟩ := hsl w
  clear hsl ht'
  go_enter Tryd.func70, Tryd.ntmps70
  go_wp2_with (at_builtin; refine wp_appRun rfl _ _ 61 rfl _ _ _ rfl rfl HRun.out ?_)
  go_wp2
  go_ret
  exact ⟨_, rfl, HO.out⟩
end Go.Proofs.YtbnieljkadcaoaaDoor

/- Ng3 -/
namespace Go.Proofs.YtbnieljkadcaoaaDoor
open Go.RowKit Go.Shelf Go.Sort

theorem wp_copyRun {w w' : World} {ops : Array Oper} {rest : List Oper} {o : Oper} {a : Act} {Q : Exit → Act → World → Prop} (hgd : o.guard = none) (s x : Operand) (T : TypeId)
    (ho : o.op = .call { callee := .builtin .copy, args := #[s, x], argTypes := #[T, T] }) (vs vx v' : Value) (hs : a.eval s = vs) (hx : a.eval x = vx)
    (hr : (Builtin.copy_ #[T, T] o.type #[vs, vx]).run Tryd.prog w = .ok v' w') (h : wpList Tryd.prog ops Q rest (a.put o.dst v') w') : wpList Tryd.prog ops Q (o :: rest) a w := by
  refine wpList_plain hgd fun K hK => ?_
  unfold Oper.wp execOp
  simp only [ho, resolve, invoke, builtin, Sem.run_bind, Sem.run_pure, Result.andThen_ok, List.map_toArray, List.map_cons, List.map_nil, hs, hx, hr]
  exact hK _ _ h
theorem step_copyRun {w w' : World} {ops : Array Oper} {o : Oper} {a : Act} {K : Act → World → Prop} {Q : Exit → Act → World → Prop} {E : Prop} (hgd : o.guard = none) (s x : Operand) (T : TypeId)
    (ho : o.op = .call { callee := .builtin .copy, args := #[s, x], argTypes := #[T, T] }) (vs vx v' : Value) (hs : a.eval s = vs) (hx : a.eval x = vx)
    (hr : (Builtin.copy_ #[T, T] o.type #[vs, vx]).run Tryd.prog w = .ok v' w') (h : K (a.put o.dst v') w') :
    if Region.wanted o (yielded ops a.tmps) = true then Oper.wp Tryd.prog o a w K Q else E := by
  have hw : Region.wanted o (yielded ops a.tmps) = true := by simp [Region.wanted, hgd]
  rw [if_pos hw]
  unfold Oper.wp execOp
  simp only [ho, resolve, invoke, builtin, Sem.run_bind, Sem.run_pure, Result.andThen_ok, List.map_toArray, List.map_cons, List.map_nil, hs, hx, hr]
  exact h
/-- a cut of a row of entries -/
theorem run_tailE (W : World) (g n c i : Nat) (hi : i ≤ n) (hic : ¬ c = i) : (Instr.slice 61 (.slice (some ⟨g, 0, none⟩) n c) (some (.int .i64 (i : Int))) none none).run Tryd.prog W = .ok (.slice (some ⟨g, i * 7, none⟩) (n - i) (c - i)) W := by
  have ht' : Tryd.prog.underlying 61 = some (.slice (Tryd.prog.elem 61)) := by simp [Program.elem, Tryd.underlying61]
  have he : Tryd.prog.elem 61 = 85 := by simp [Program.elem, Tryd.underlying61]
  rw [run_slice_l W _ _ _ _ ht' .i64 _ (by omega) (by omega), he, Tryd.sizeOf85]
  simp [Result.andThen, sliced, Addr.add, hic]
  intro h; omega
theorem run_headE (W : World) (g n c p : Nat) (hp : p ≤ c) : (Instr.slice 61 (.slice (some ⟨g, 0, none⟩) n c) none (some (.int .i64 (p : Int))) none).run Tryd.prog W = .ok (.slice (some ⟨g, 0, none⟩) p c) W := by
  have ht' : Tryd.prog.underlying 61 = some (.slice (Tryd.prog.elem 61)) := by simp [Program.elem, Tryd.underlying61]
  have he : Tryd.prog.elem 61 = 85 := by simp [Program.elem, Tryd.underlying61]
  rw [run_slice_h W _ _ _ _ ht' .i64 _ (by omega) (by omega), he, Tryd.sizeOf85]
  simp [Result.andThen, sliced, Addr.add]
theorem entC_one {x : MkX} (h1 : x.2.1.oneCell' = true) (h2 : x.2.2.oneCell' = true) : ∀ u ∈ entC x, u.oneCell' = true := by
  intro u hu
  unfold entC at hu
  simp only [List.mem_cons, List.not_mem_nil, or_false] at hu
  rcases hu with rfl | rfl | rfl | rfl | rfl | rfl | rfl <;> first | rfl | exact h1 | exact h2
set_option maxRecDepth 8000 in
set_option maxHeartbeats 6400000 in
theorem insert_shift (w : World) (base b g c i : Nat) (l : List MkX) (x : MkX) (hv : OwnE w base (.slice (some ⟨g, 0, none⟩) l.length c) l) (hi : i < l.length) (hroom : l.length + 1 ≤ c) (hone : ∀ u ∈ entF l, u.oneCell' = true) (hbg : b ≠ g) (hb : w.heap[b]? = some (.cells (entC x).toArray 85 (0, 0))) (h1 : x.2.1.oneCell' = true) (h2 : x.2.2.oneCell' = true) :
    Calls Tryd.prog 70 #[.slice (some ⟨g, 0, none⟩) l.length c, .int .i64 (i : Int), .slice (some ⟨b, 0, none⟩) 1 1] w fun e w' => ∃ v', e = .returned v' ∧ OwnE w' base v' (l.take i ++ [x] ++ l.drop i) ∧ w.grownBy w' (some g) ∧ v'.ownBlock = some g := by
  have hv0 := hv
  rcases hv.2 with ⟨h', _⟩ | ⟨g', c', cur, h', hgb, hh, hnc, hcm, hcs, htake⟩
  · simp at h'
  · simp only [Value.slice.injEq, Option.some.injEq, Addr.mk.injEq, and_true, true_and] at h'
    obtain ⟨rfl, rfl⟩ := h'
    have hcm' : c ≤ 9223372036854775807 := by unfold maxLen at hcm; exact hcm
    obtain ⟨n, hn⟩ : ∃ n, l.length = n := ⟨_, rfl⟩
    obtain ⟨n1, hn1⟩ : ∃ n1, n + 1 = n1 := ⟨_, rfl⟩
    obtain ⟨i1, hi1⟩ : ∃ i1, i + 1 = i1 := ⟨_, rfl⟩
    rw [hn] at hi hroom hnc htake
    have hsz : (Tryd.prog.info? 85).map (·.size) = some 7 := by
      obtain ⟨i0, q1, q2, q3, q4⟩ := info_parts infoEn
      rw [q1]
      simp [q3]
    have hdl : (entF (l.drop i)).length = (n - i) * 7 := by rw [entF_len, List.length_drop, hn]
    have hxl : (entC x).length = 7 := rfl
    have hcl : cur.toList.length = c * 7 := by rw [Array.length_toList]; exact hcs
    -- the two copies
    obtain ⟨cur1, hcur1⟩ : ∃ cur1, cur1 = cur.toList.take (i1 * 7) ++ entF (l.drop i) ++ cur.toList.drop (i1 * 7 + (entF (l.drop i)).length) := ⟨_, rfl⟩
    have hcp1 : ∀ ty, (Builtin.copy_ #[61, 61] ty #[.slice (some ⟨g, i1 * 7, none⟩) (n1 - i1) (c - i1), .slice (some ⟨g, i * 7, none⟩) (n1 - i) (c - i)]).run Tryd.prog w.drew = .ok (goInt (Nat.min (n1 - i) (n1 - i1) : Nat)) (w.drew.setRow g cur1.toArray) := fun ty => by
      have hmin : Nat.min (n1 - i) (n1 - i1) = n - i := by simp only [Nat.min_def]; split <;> omega
      rw [hcur1]
      refine run_copyE w.drew _ _ ty _ 7 g (i1 * 7) (n1 - i1) (c - i1) ⟨g, i * 7, none⟩ (n1 - i) (c - i) cur _ (entF (l.drop i)) Tryd.underlying61 hsz hh (by rw [hmin]; exact hdl) (fun j v hj => ?_) (by omega) (fun u hu => hone u (by rw [← entF_drop] at hu; exact List.mem_of_mem_drop hu))
      rw [Go.WideShapes.add_plain]
      rw [← entF_drop, List.getElem?_drop] at hj
      have := World.ownsRow.cellAt hv0 (i * 7 + j) (by have := (List.getElem?_eq_some_iff.1 hj).1; rw [entF_len] at this; exact this)
      exact (show w.drew.cell? ⟨g, i * 7 + j, none⟩ = w.cell? ⟨g, i * 7 + j, none⟩ from rfl).trans (this.trans hj)
    have hh1 : (w.drew.setRow g cur1.toArray).heap[g]? = some (.cells cur1.toArray 85 (0, 0)) := setRow_heap w.drew g cur _ _ _ hh
    have hl1 : cur1.length = c * 7 := by
      rw [hcur1, List.length_append, List.length_append, List.length_take, List.length_drop, hdl, hcl]
      omega
    obtain ⟨cur2, hcur2⟩ : ∃ cur2, cur2 = cur1.take (i * 7) ++ entC x ++ cur1.drop (i * 7 + (entC x).length) := ⟨_, rfl⟩
    have hcp2 : ∀ ty, (Builtin.copy_ #[61, 61] ty #[.slice (some ⟨g, i * 7, none⟩) (n1 - i) (c - i), .slice (some ⟨b, 0, none⟩) 1 1]).run Tryd.prog (w.drew.setRow g cur1.toArray) = .ok (goInt (Nat.min 1 (n1 - i) : Nat)) ((w.drew.setRow g cur1.toArray).setRow g cur2.toArray) := fun ty => by
      have hmin : Nat.min 1 (n1 - i) = 1 := by simp only [Nat.min_def]; split <;> omega
      rw [hcur2]
      refine run_copyE (w.drew.setRow g cur1.toArray) _ _ ty _ 7 g (i * 7) (n1 - i) (c - i) ⟨b, 0, none⟩ 1 1 cur1.toArray _ (entC x) Tryd.underlying61 hsz hh1 (by rw [hmin]; rfl) (fun j v hj => ?_) (by rw [List.size_toArray, hl1, hxl]; omega) (entC_one h1 h2)
      rw [Go.WideShapes.add_plain]
      have hb1 : (w.drew.setRow g cur1.toArray).heap[b]? = some (.cells (entC x).toArray 85 (0, 0)) := (setRow_other w.drew g b _ hbg).trans hb
      simp only [World.cell?, hb1]
      simpa using hj
    have HF : Hid (OwnE ((w.drew.setRow g cur1.toArray).setRow g cur2.toArray) base (.slice (some ⟨g, 0, none⟩) n1 c) (l.take i ++ [x] ++ l.drop i) ∧ w.grownBy ((w.drew.setRow g cur1.toArray).setRow g cur2.toArray) (some g)) := by
      refine ⟨OwnE.of (setRow_heap _ g _ _ _ _ hh1) hgb (by simp; omega) (by omega) hcm ?_ ?_, ?_⟩
      · rw [List.size_toArray, hcur2, List.length_append, List.length_append, List.length_take, List.length_drop, hl1, hxl]
        omega
      · have hs3 := splice3 cur.toList (entC x) (entF (l.drop i)) (i * 7) (by rw [hcl, hxl, hdl]; omega)
        rw [hxl, show i * 7 + 7 = i1 * 7 by omega] at hs3
        rw [hcur2, hcur1, hxl, show i * 7 + 7 = i1 * 7 by omega]
        rw [show n1 * 7 = i1 * 7 + (entF (l.drop i)).length by rw [hdl]; omega]
        rw [hs3]
        have ht2 : cur.toList.take (i * 7) = entF (l.take i) := by
          rw [← entF_take, ← htake, List.take_take, Nat.min_eq_left (by omega)]
        rw [ht2, entF_append, entF_append]
        simp [entF]
      · refine ⟨rfl, rfl, ?_, ?_, fun j hj hne => ?_⟩
        · first | rfl | simp [World.setRow]
        · simp [World.setRow]
        · rw [setRow_other _ g j _ (fun e => hne (by rw [e])), setRow_other _ g j _ (fun e => hne (by rw [e]))]
          rfl
    have hov : ∀ lb cb, (callFunc 78 #[.slice (some ⟨b, 0, none⟩) 1 1, .slice (some ⟨g, i1 * 7, none⟩) lb cb]).run Tryd.prog w = .ok (.value (.bool false)) w := fun lb cb => by
      rw [run_callFunc_extern Tryd.func78 (by kernel_rfl) (by kernel_rfl) (by kernel_rfl) (e := Extern.SlicesOverlaps.overlaps #[61, 61] #[4]) (by kernel_rfl),
        Lib.run_overlaps_apart w 61 4 85 Tryd.underlying61 7 Tryd.sizeOf85 ⟨b, 0, none⟩ ⟨g, i1 * 7, none⟩ 1 1 lb cb hbg 85 85 7 (c * 7) (by simp only [World.shape?, hb]; rfl) (by simp only [World.shape?, hh, hcs]) (by omega) (by simp [World.frozen?, hb]) (by simp [World.frozen?, hb])]
      rfl
    have hs0 : ∀ W, (Instr.slice 61 (.slice (some ⟨g, 0, none⟩) n c) (some (.int .i64 (i : Int))) none none).run Tryd.prog W = .ok (.slice (some ⟨g, i * 7, none⟩) (n - i) (c - i)) W := fun W => run_tailE W g n c i (by omega) (by omega)
    have hs1 : ∀ W, (Instr.slice 61 (.slice (some ⟨g, 0, none⟩) n c) none (some (.int .i64 (n1 : Int))) none).run Tryd.prog W = .ok (.slice (some ⟨g, 0, none⟩) n1 c) W := fun W => run_headE W g n c n1 (by omega)
    have hs2 : ∀ W, (Instr.slice 61 (.slice (some ⟨g, 0, none⟩) n1 c) (some (.int .i64 (i1 : Int))) none none).run Tryd.prog W = .ok (.slice (some ⟨g, i1 * 7, none⟩) (n1 - i1) (c - i1)) W := fun W => run_tailE W g n1 c i1 (by omega) (by omega)
    have hs3 : ∀ W, (Instr.slice 61 (.slice (some ⟨g, 0, none⟩) n1 c) (some (.int .i64 (i : Int))) none none).run Tryd.prog W = .ok (.slice (some ⟨g, i * 7, none⟩) (n1 - i) (c - i)) W := fun W => run_tailE W g n1 c i (by omega) (by omega)
    have hwn : IntKind.i64.wrap ((n : Int) + 1) = (n1 : Int) := by rw [IntKind.wrap_i64]; omega
    have hwi : IntKind.i64.wrap ((i : Int) + 1) = (i1 : Int) := by rw [IntKind.wrap_i64]; omega
    have hin : ¬ (i : Int) = (n : Int) := by omega
    have hcap : ¬ (c : Int) < (n1 : Int) := by omega
    rw [hn]
    have HC1 := hidJ hcp1
    have HC2 := hidJ hcp2
    obtain ⟨W1, hW1⟩ : ∃ W1, W1 = w.drew.setRow g cur1.toArray := ⟨_, rfl⟩
    obtain ⟨W2, hW2⟩ : ∃ W2, W2 = (w.drew.setRow g cur1.toArray).setRow g cur2.toArray := ⟨_, rfl⟩
    rw [← hW2, ← hW1] at HC2
    rw [← hW1] at HC1
    rw [← hW2] at HF
    clear hv hv0 hh htake hgb hcs hcl hdl hxl hcur1 hcur2 hcp1 hcp2 hh1 hl1 hW1 hW2 hone hb h1 h2 hsz hn hbg hcm
    go_enter Tryd.func70, Tryd.ntmps70
    go_wp2_with (simp only [hov])
    go_region_law (refine step_copyRun rfl _ _ 61 rfl _ _ _ (by simp [Act.eval, Act.put]) (by simp [Act.eval, Act.put]) (HC1.out _) ?_)
    have hc2 := HC2.out
    go_wp2
    go_ret
    exact ⟨_, rfl, HF.out.1, HF.out.2, rfl⟩
end Go.Proofs.YtbnieljkadcaoaaDoor

/- Ng4 -/
namespace Go.Proofs.YtbnieljkadcaoaaDoor
open Go.RowKit Go.Shelf Go.Sort

theorem zeroE_size (n : Nat) : (Builtin.zeroCells (Value.cells (.agg #[.string ⟨#[]⟩, .string ⟨#[]⟩, .string ⟨#[]⟩, .string ⟨#[]⟩, .int .i64 0, .slice none 0 0, .slice none 0 0])) n).size = n * 7 := by
  simp [Builtin.zeroCells, Value.cells]
set_option maxRecDepth 8000 in
set_option maxHeartbeats 6400000 in
theorem insert_grow (w : World) (base b g c i : Nat) (l : List MkX) (x : MkX) (hv : OwnE w base (.slice (some ⟨g, 0, none⟩) l.length c) l) (hbw : base ≤ w.heap.size) (hi : i < l.length) (hl5 : l.length ≤ 1000) (hroom : c < l.length + 1) (hone : ∀ u ∈ entF l, u.oneCell' = true) (hb : w.heap[b]? = some (.cells (entC x).toArray 85 (0, 0))) (h1 : x.2.1.oneCell' = true) (h2 : x.2.2.oneCell' = true) :
    Calls Tryd.prog 70 #[.slice (some ⟨g, 0, none⟩) l.length c, .int .i64 (i : Int), .slice (some ⟨b, 0, none⟩) 1 1] w fun e w' => ∃ v', e = .returned v' ∧ OwnE w' base v' (l.take i ++ [x] ++ l.drop i) ∧ w.grownBy w' none ∧ v'.ownBlock = some w.heap.size := by
  have hv0 := hv
  rcases hv.2 with ⟨h', _⟩ | ⟨g', c', cur, h', hgb, hh, hnc, hcm, hcs, htake⟩
  · simp at h'
  · simp only [Value.slice.injEq, Option.some.injEq, Addr.mk.injEq, and_true, true_and] at h'
    obtain ⟨rfl, rfl⟩ := h'
    have hbl := some_lt hb
    have hgl := some_lt hh
    obtain ⟨n, hn⟩ : ∃ n, l.length = n := ⟨_, rfl⟩
    obtain ⟨n1, hn1⟩ : ∃ n1, n + 1 = n1 := ⟨_, rfl⟩
    obtain ⟨i1, hi1⟩ : ∃ i1, i + 1 = i1 := ⟨_, rfl⟩
    obtain ⟨k, hk⟩ : ∃ k, n1 - i = k := ⟨_, rfl⟩
    rw [hn] at hi hroom hnc hl5
    obtain ⟨i0, q1, q2, q3, q4⟩ := info_parts infoEn
    have hsz : (Tryd.prog.info? 85).map (·.size) = some 7 := by
      rw [q1]
      simp [q3]
    have hdl : (entF (l.drop i)).length = (n - i) * 7 := by rw [entF_len, List.length_drop, hn]
    have htl : (entF (l.take i)).length = i * 7 := by rw [entF_len, List.length_take, hn, Nat.min_eq_left (by omega)]
    have hxl : (entC x).length = 7 := rfl
    have hcell : ∀ j v, (entF l)[j]? = some v → w.cell? ⟨g, j, none⟩ = some v := fun j v hj => by
      have := World.ownsRow.cellAt hv0 j (by have := (List.getElem?_eq_some_iff.1 hj).1; rw [entF_len] at this; exact this)
      exact this.trans hj
    -- the new row
    obtain ⟨C, hC⟩ : ∃ C, C = grownCap w n1 c 85 := ⟨_, rfl⟩
    have hCn : n1 ≤ C := by rw [hC]; exact grownCap_ge _ _ _ _
    have hCm : C ≤ maxLen := by rw [hC]; exact grownCap_le_maxLen _ _ _ _ (by unfold maxLen; omega)
    have hCm2 : C ≤ 9223372036854775807 := by unfold maxLen at hCm; exact hCm
    obtain ⟨cA, hcA⟩ : ∃ cA : Array Value, cA = (entF (l.take i)).toArray ++ Builtin.zeroCells (Value.cells (.agg #[.string ⟨#[]⟩, .string ⟨#[]⟩, .string ⟨#[]⟩, .string ⟨#[]⟩, .int .i64 0, .slice none 0 0, .slice none 0 0])) k ++ Builtin.zeroCells (Value.cells (.agg #[.string ⟨#[]⟩, .string ⟨#[]⟩, .string ⟨#[]⟩, .string ⟨#[]⟩, .int .i64 0, .slice none 0 0, .slice none 0 0])) (C - n1) := ⟨_, rfl⟩
    have hik : i + k = n1 := by omega
    have hgr := run_growZ (P := Tryd.prog) w 61 3 61 85 i0 (.agg #[.string ⟨#[]⟩, .string ⟨#[]⟩, .string ⟨#[]⟩, .string ⟨#[]⟩, .int .i64 0, .slice none 0 0, .slice none 0 0]) .i64 .i64 Tryd.underlying61 Tryd.underlying3 q1 q2 ⟨g, 0, none⟩ i c (entF (l.take i)) (by rw [q3]; exact htl) (fun j v hj => by
        rw [Go.WideShapes.add_plain, Nat.zero_add]
        refine hcell j v ?_
        rw [← entF_take, List.getElem?_take] at hj
        split at hj
        · exact hj
        · cases hj) k (by omega) (by omega) (by omega) (by omega) (by rw [q4]; omega) (by rw [q4]; exact growslice_fits_wide (by omega) (by omega))
    rw [hik, ← hC, ← hcA] at hgr
    have hsA : cA.size = C * 7 := by
      rw [hcA, Array.size_append, Array.size_append, List.size_toArray, zeroE_size, zeroE_size, htl]
      omega
    have hlA : cA.toList.length = C * 7 := by rw [Array.length_toList]; exact hsA
    obtain ⟨WA, hWA⟩ : ∃ WA, WA = w.drew.alloc (.cells cA 85) := ⟨_, rfl⟩
    rw [← hWA] at hgr
    have gA : w.grownBy WA none := by rw [hWA]; exact gb_none (gb_drew w none) (World.grownBy_alloc w.drew _ none)
    have hhA : WA.heap[w.heap.size]? = some (.cells cA 85 (0, 0)) := by rw [hWA]; exact Go.heap_alloc_new w.drew _
    -- the entry
    obtain ⟨cur1, hcur1⟩ : ∃ cur1, cur1 = cA.toList.take (i * 7) ++ entC x ++ cA.toList.drop (i * 7 + (entC x).length) := ⟨_, rfl⟩
    have hcp1 : ∀ ty, (Builtin.copy_ #[61, 61] ty #[.slice (some ⟨w.heap.size, i * 7, none⟩) (n1 - i) (C - i), .slice (some ⟨b, 0, none⟩) 1 1]).run Tryd.prog WA = .ok (goInt (Nat.min 1 (n1 - i) : Nat)) (WA.setRow w.heap.size cur1.toArray) := fun ty => by
      have hmin : Nat.min 1 (n1 - i) = 1 := by simp only [Nat.min_def]; split <;> omega
      rw [hcur1]
      refine run_copyE WA _ _ ty _ 7 w.heap.size (i * 7) (n1 - i) (C - i) ⟨b, 0, none⟩ 1 1 cA _ (entC x) Tryd.underlying61 hsz hhA (by rw [hmin]; rfl) (fun j v hj => ?_) (by rw [hsA, hxl]; omega) (entC_one h1 h2)
      rw [Go.WideShapes.add_plain]
      have hb1 := (gA.block b hbl (by simp)).trans hb
      simp only [World.cell?, hb1]
      simpa using hj
    obtain ⟨WB, hWB⟩ : ∃ WB, WB = WA.setRow w.heap.size cur1.toArray := ⟨_, rfl⟩
    have hhB : WB.heap[w.heap.size]? = some (.cells cur1.toArray 85 (0, 0)) := by rw [hWB]; exact setRow_heap WA w.heap.size cA _ _ _ hhA
    have hl1 : cur1.length = C * 7 := by
      rw [hcur1, List.length_append, List.length_append, List.length_take, List.length_drop, hlA, hxl]
      omega
    have hgB : WB.heap[g]? = w.heap[g]? := by rw [hWB, setRow_other _ _ g _ (by omega)]; exact gA.block g hgl (by simp)
    -- those behind it
    obtain ⟨cur2, hcur2⟩ : ∃ cur2, cur2 = cur1.take (i1 * 7) ++ entF (l.drop i) ++ cur1.drop (i1 * 7 + (entF (l.drop i)).length) := ⟨_, rfl⟩
    have hcp2 : ∀ ty, (Builtin.copy_ #[61, 61] ty #[.slice (some ⟨w.heap.size, i1 * 7, none⟩) (n1 - i1) (C - i1), .slice (some ⟨g, i * 7, none⟩) (n - i) (c - i)]).run Tryd.prog WB.drew = .ok (goInt (Nat.min (n - i) (n1 - i1) : Nat)) (WB.drew.setRow w.heap.size cur2.toArray) := fun ty => by
      have hmin : Nat.min (n - i) (n1 - i1) = n - i := by simp only [Nat.min_def]; split <;> omega
      rw [hcur2]
      refine run_copyE WB.drew _ _ ty _ 7 w.heap.size (i1 * 7) (n1 - i1) (C - i1) ⟨g, i * 7, none⟩ (n - i) (c - i) cur1.toArray _ (entF (l.drop i)) Tryd.underlying61 hsz hhB (by rw [hmin]; exact hdl) (fun j v hj => ?_) (by rw [List.size_toArray, hl1, hdl]; omega) (fun u hu => hone u (by rw [← entF_drop] at hu; exact List.mem_of_mem_drop hu))
      rw [Go.WideShapes.add_plain]
      rw [← entF_drop, List.getElem?_drop] at hj
      have h3 := hcell _ _ hj
      exact (show WB.drew.cell? ⟨g, i * 7 + j, none⟩ = w.cell? ⟨g, i * 7 + j, none⟩ from World.cell?_of_block hgB).trans h3
    obtain ⟨WC, hWC⟩ : ∃ WC, WC = WB.drew.setRow w.heap.size cur2.toArray := ⟨_, rfl⟩
    have HF : Hid (OwnE WC base (.slice (some ⟨w.heap.size, 0, none⟩) n1 C) (l.take i ++ [x] ++ l.drop i) ∧ w.grownBy WC none) := by
      refine ⟨OwnE.of (cur := cur2.toArray) (by rw [hWC]; exact setRow_heap WB.drew w.heap.size _ _ _ _ hhB) hbw (by simp; omega) hCn hCm ?_ ?_, ?_⟩
      · rw [List.size_toArray, hcur2, List.length_append, List.length_append, List.length_take, List.length_drop, hl1, hdl]
        omega
      · have hs2 := splice2 cA.toList (entC x) (entF (l.drop i)) (i * 7) (by rw [hlA, hxl, hdl]; omega)
        rw [hxl, show i * 7 + 7 = i1 * 7 by omega] at hs2
        rw [hcur2, hcur1, hxl, show i * 7 + 7 = i1 * 7 by omega]
        rw [show n1 * 7 = i1 * 7 + (entF (l.drop i)).length by rw [hdl]; omega]
        rw [hs2]
        have ht2 : cA.toList.take (i * 7) = entF (l.take i) := by
          rw [hcA]
          simp only [Array.toList_append]
          rw [List.append_assoc, List.take_append_of_le_length (by simp [htl]), List.take_of_length_le (by simp [htl])]
        rw [ht2, entF_append, entF_append]
        simp [entF]
      · have e1 : WB = WA.setRow w.heap.size cur1.toArray := hWB
        have gB : w.grownBy WB none := gb_new gA (g' := some w.heap.size) (by rw [e1]; exact ⟨rfl, rfl, by first | rfl | simp [World.setRow], by simp [World.setRow], fun j hj hne => setRow_other _ _ j _ (fun e => hne (by rw [e]))⟩) (fun j hj => by cases hj; exact Nat.le_refl _)
        exact gb_new (gb_none gB (gb_drew WB none)) (g' := some w.heap.size) (by rw [hWC]; exact ⟨rfl, rfl, by first | rfl | simp [World.setRow], by simp [World.setRow], fun j hj hne => setRow_other _ _ j _ (fun e => hne (by rw [e]))⟩) (fun j hj => by cases hj; exact Nat.le_refl _)
    rw [← hWB] at hcp1
    rw [← hWC] at hcp2
    have hs0 : ∀ W, (Instr.slice 61 (.slice (some ⟨g, 0, none⟩) n c) (some (.int .i64 (i : Int))) none none).run Tryd.prog W = .ok (.slice (some ⟨g, i * 7, none⟩) (n - i) (c - i)) W := fun W => run_tailE W g n c i (by omega) (by omega)
    have hs1 : ∀ W, (Instr.slice 61 (.slice (some ⟨g, 0, none⟩) n c) none (some (.int .i64 (i : Int))) none).run Tryd.prog W = .ok (.slice (some ⟨g, 0, none⟩) i c) W := fun W => run_headE W g n c i (by omega)
    have hs2 : ∀ W, (Instr.slice 61 (.slice (some ⟨w.heap.size, 0, none⟩) n1 C) (some (.int .i64 (i1 : Int))) none none).run Tryd.prog W = .ok (.slice (some ⟨w.heap.size, i1 * 7, none⟩) (n1 - i1) (C - i1)) W := fun W => run_tailE W w.heap.size n1 C i1 (by omega) (by omega)
    have hs3 : ∀ W, (Instr.slice 61 (.slice (some ⟨w.heap.size, 0, none⟩) n1 C) (some (.int .i64 (i : Int))) none none).run Tryd.prog W = .ok (.slice (some ⟨w.heap.size, i * 7, none⟩) (n1 - i) (C - i)) W := fun W => run_tailE W w.heap.size n1 C i (by omega) (by omega)
    have hwn : IntKind.i64.wrap ((n : Int) + 1) = (n1 : Int) := by rw [IntKind.wrap_i64]; omega
    have hwi : IntKind.i64.wrap ((i : Int) + 1) = (i1 : Int) := by rw [IntKind.wrap_i64]; omega
    have hwk : IntKind.i64.wrap ((n1 : Int) - (i : Int)) = (k : Int) := by rw [IntKind.wrap_i64]; omega
    have hin : ¬ (i : Int) = (n : Int) := by omega
    have hcap : (c : Int) < (n1 : Int) := by omega
    rw [hn]
    rw [hk] at hcp1
    simp only [hk] at hs3
    have HC2 := hidJ hcp2
    have HGr := hidJ hgr
    clear hv hv0 hh htake hgb hcs hdl htl hxl hcur1 hcur2 hcp2 hhA hhB hl1 hlA hsA hcA hWA hWB hWC gA hgB hcell hone hb h1 h2 hsz hn hcm q1 q2 q3 q4 hgr hC hCm hbl hgl hik hbw
    generalize w.heap.size = G at *
    go_enter Tryd.func70, Tryd.ntmps70
    go_wp2_with (at_builtin; refine Lib.wpList_append_run _ rfl _ _ _ _ rfl _ _ rfl rfl _ _ HGr.out ?_)
    go_wp2
    go_region_law (refine step_copyRun rfl _ _ 61 rfl _ _ _ (by simp [Act.eval, Act.put]) (by simp [Act.eval, Act.put]) (HC2.out _) ?_)
    go_wp2
    go_ret
    exact ⟨_, rfl, HF.out.1, HF.out.2, rfl⟩
end Go.Proofs.YtbnieljkadcaoaaDoor

/- Ng5 -/
namespace Go.Proofs.YtbnieljkadcaoaaDoor
open Go.RowKit Go.Shelf Go.Sort

/-- what a log writes: its box, its row -/
def FpL (gx : Nat) (v : Value) : Nat → Prop := fun k => k = gx ∨ v.ownBlock = some k
def LFr (gx : Nat) (w w' : World) (v v' : Value) : Prop := Ch w w' (FpL gx v) ∧ ∀ k, v'.ownBlock = some k → v.ownBlock = some k ∨ w.heap.size ≤ k
theorem LFr.of_gb {gx : Nat} {w w' : World} (v : Value) (h : w.grownBy w' none) : LFr gx w w' v v := ⟨Ch.of_gb h (fun k hk => by cases hk), fun k hk => .inl hk⟩
theorem LFr.trans {gx : Nat} {w w1 w2 : World} {v v1 v2 : Value} (h1 : LFr gx w w1 v v1) (h2 : LFr gx w1 w2 v1 v2) : LFr gx w w2 v v2 := by
  refine ⟨h1.1.trans h2.1 (fun k hk ht => ?_), fun k hk => ?_⟩
  · rcases ht with ht | ht
    · exact .inl ht
    · rcases h1.2 k ht with h | h
      · exact .inr h
      · omega
  · rcases h2.2 k hk with h | h
    · exact h1.2 k h
    · exact .inr (Nat.le_trans h1.1.size h)
theorem LFr.pre {gx : Nat} {w w1 w2 : World} {v v' : Value} (h1 : w.grownBy w1 none) (h2 : LFr gx w1 w2 v v') : LFr gx w w2 v v' := (LFr.of_gb v h1).trans h2
theorem LFr.post {gx : Nat} {w w1 w2 : World} {v v' : Value} (h1 : LFr gx w w1 v v') (h2 : w1.grownBy w2 none) : LFr gx w w2 v v' := h1.trans (LFr.of_gb v' h2)
/-- the blocks of S hold entries, or a log -/
def EnL (w : World) (S : Nat → Prop) : Prop := ∀ k, S k → ∃ cur t fr, w.heap[k]? = some (.cells cur t fr) ∧ (t = 85 ∨ t = 65)
theorem row_chT {w w' : World} {E : TypeId} {size : Nat} {S : Nat → Prop} {base n : Nat} {v : Value} {xs : List Value} (h : w.ownsRow base E size v n xs) (hc : Ch w w' S) (hS : EnL w S) (h1 : E ≠ 85) (h2 : E ≠ 65) : w'.ownsRow base E size v n xs := by
  refine row_ch h hc (fun k hk hs => ?_)
  obtain ⟨cur, hb⟩ := row_objE h hk
  obtain ⟨cur', t, fr, hb', ht⟩ := hS k hs
  rw [hb] at hb'
  simp only [Option.some.injEq, Obj.cells.injEq] at hb'
  rcases ht with ht | ht
  · exact h1 (hb'.2.1.trans ht)
  · exact h2 (hb'.2.1.trans ht)
theorem OwnLL.chT {w w' : World} {base : Nat} {v : Value} {lss : List (List LbT)} {S : Nat → Prop} (h : OwnLL w base v lss) (hc : Ch w w' S) (hS : EnL w S) : OwnLL w' base v lss := by
  obtain ⟨vs, h1, h2, h3⟩ := h
  exact ⟨vs, row_chT h1 hc hS (by decide) (by decide), h2, fun j => row_chT (h3 j) hc hS (by decide) (by decide)⟩
/-- a mark whose lists are the log's own -/
structure MkO (w : World) (x : MkX) : Prop where
  fir : OwnLL w 0 x.2.1 x.1.fir
  res : OwnLL w 0 x.2.2 x.1.res
  inF : LLIn x.1.fir
  inR : LLIn x.1.res
  inr : x.1.rcv.length ≤ 1000000000000000000
  ink : x.1.key.length ≤ 1000000000000000000
theorem MkO.rd {w : World} {x : MkX} (h : MkO w x) : RdM w x.1 x.2.1 x.2.2 := ⟨h.fir.rd, h.res.rd, h.inF, h.inR, h.inr, h.ink⟩
theorem MkO.keep {w w' : World} {x : MkX} (h : MkO w x) (hg : w.grownBy w' none) : MkO w' x := ⟨h.fir.keep hg, h.res.keep hg, h.inF, h.inR, h.inr, h.ink⟩
theorem MkO.chT {w w' : World} {S : Nat → Prop} {x : MkX} (h : MkO w x) (hc : Ch w w' S) (hS : EnL w S) : MkO w' x := ⟨h.fir.chT hc hS, h.res.chT hc hS, h.inF, h.inR, h.inr, h.ink⟩
/-- the log at gx, its row v, holds these marks -/
structure LgX (w : World) (gx : Nat) (v : Value) (l : List MkX) : Prop where
  box : Boxed w gx 65 v
  row : OwnE w 0 v l
  ris : risM l
  each : ∀ x ∈ l, MkO w x ∧ rightM x.1 = 0
  len : l.length ≤ 500
theorem LgX.lg {w : World} {gx : Nat} {v : Value} {l : List MkX} (h : LgX w gx v l) : LgM w gx l := ⟨⟨v, h.box, h.row⟩, h.ris, fun x hx => ⟨(h.each x hx).1.rd, (h.each x hx).2⟩, h.len⟩
theorem LgX.keep {w w' : World} {gx : Nat} {v : Value} {l : List MkX} (h : LgX w gx v l) (hg : w.grownBy w' none) : LgX w' gx v l := ⟨h.box.kept hg (by simp), h.row.keep hg, h.ris, fun x hx => ⟨(h.each x hx).1.keep hg, (h.each x hx).2⟩, h.len⟩
theorem LgX.enl {w : World} {gx : Nat} {v : Value} {l : List MkX} (h : LgX w gx v l) : EnL w (FpL gx v) := by
  intro k hk
  rcases hk with rfl | hk
  · exact ⟨_, _, _, h.box, .inr rfl⟩
  · obtain ⟨cur, hb⟩ := row_objE h.row hk
    exact ⟨_, _, _, hb, .inl rfl⟩
theorem LgX.ch {w w' : World} {gx : Nat} {v : Value} {l : List MkX} {S : Nat → Prop} (h : LgX w gx v l) (hc : Ch w w' S) (hd : ∀ k, FpL gx v k → ¬ S k) (hS : EnL w S) : LgX w' gx v l :=
  ⟨bxch h.box hc (hd _ (.inl rfl)), row_ch h.row hc (fun k hk => hd k (.inr hk)), h.ris, fun x hx => ⟨(h.each x hx).1.chT hc hS, (h.each x hx).2⟩, h.len⟩
theorem LgX.row_ne {w : World} {gx : Nat} {v : Value} {l : List MkX} (h : LgX w gx v l) : v.ownBlock ≠ some gx := by
  intro e
  obtain ⟨cur, hb⟩ := row_objE h.row e
  have := h.box
  unfold Boxed at this
  rw [hb] at this
  simp at this
theorem entF_one {w : World} {l : List MkX} (h : ∀ x ∈ l, MkO w x) : ∀ u ∈ entF l, u.oneCell' = true := by
  intro u hu
  unfold entF at hu
  rw [List.mem_flatMap] at hu
  obtain ⟨x, hx, hu⟩ := hu
  exact entC_one (h x hx).fir.own (h x hx).res.own u hu
/-- laid among the others -/
theorem AtE.ris {l : List MkX} {a : LbT} {p : Nat} {x : MkX} (hs : risM l) (h : AtE l a p) (hn : hasM l a = false) (hx : keyX x = a) : risM (l.take p ++ [x] ++ l.drop p) := by
  have hne : ∀ y ∈ l, keyX y ≠ a := fun y hy e => by
    have : hasM l a = true := List.any_eq_true.2 ⟨y, hy, decide_eq_true e⟩
    rw [hn] at this
    cases this
  have hlo : ∀ y ∈ l.take p, cmpL (keyX y) a < 0 := fun y hy => by
    obtain ⟨k, hk, rfl⟩ := List.mem_iff_getElem.1 hy
    have hk2 := hk
    rw [List.length_take] at hk2
    have := h.2.1 k (by omega)
    rw [List.getElem_take]
    simpa [List.getD, show k < l.length by omega] using this
  have hhi : ∀ y ∈ l.drop p, cmpL a (keyX y) < 0 := fun y hy => by
    have hm := List.mem_of_mem_drop hy
    obtain ⟨k, hk, rfl⟩ := List.mem_iff_getElem.1 hy
    have hk2 := hk
    rw [List.length_drop] at hk2
    have h1 := h.2.2 (p + k) (by omega) (by omega)
    have e : l.getD (p + k) xZ = (l.drop p)[k] := by rw [List.getElem_drop]; simp [List.getD, show p + k < l.length by omega]
    rw [e] at h1
    have h2 : cmpL (keyX (l.drop p)[k]) a ≠ 0 := fun h0 => hne _ hm (cmpL_zero.1 h0)
    rw [cmpL_neg]
    omega
  have hs2 : (l.take p ++ l.drop p).Pairwise fun x y => cmpL (keyX x) (keyX y) < 0 := by rw [List.take_append_drop]; exact hs
  rw [List.pairwise_append] at hs2
  unfold risM
  rw [List.append_assoc, List.pairwise_append]
  refine ⟨hs2.1, ?_, ?_⟩
  · rw [List.singleton_append, List.pairwise_cons]
    exact ⟨fun y hy => by rw [hx]; exact hhi y hy, hs2.2.1⟩
  · intro y hy z hz
    rw [List.singleton_append, List.mem_cons] at hz
    rcases hz with rfl | hz
    · rw [hx]; exact hlo y hy
    · exact hs2.2.2 y hy z hz
theorem AtE.setris {l : List MkX} {a : LbT} {p : Nat} {x : MkX} (hs : risM l) (hp : p < l.length) (he : keyX (l.getD p xZ) = a) (hx : keyX x = a) : risM (l.set p x) := by
  have e : (l.set p x).map keyX = l.map keyX := by
    rw [List.map_set]
    have : (l.map keyX)[p]? = some (keyX x) := by
      rw [List.getElem?_map, hx, ← he]
      simp [List.getD, hp]
    refine List.ext_getElem? (fun i => ?_)
    rw [List.getElem?_set]
    split
    · rename_i h
      subst h
      rw [if_pos (by simpa using hp)]
      exact this.symm
    · rfl
  have h1 : (l.map keyX).Pairwise fun x y => cmpL x y < 0 := List.pairwise_map.2 hs
  rw [← e] at h1
  exact List.pairwise_map.1 h1
/-- a mark put into its place -/
def putM (l : List MkX) (x : MkX) (p : Nat) : List MkX := if hasM l (keyX x) = true then l.set p x else l.take p ++ [x] ++ l.drop p
theorem putM_len (l : List MkX) (x : MkX) (p : Nat) (hp : p ≤ l.length) : (putM l x p).length = if hasM l (keyX x) = true then l.length else l.length + 1 := by
  unfold putM
  split
  · simp
  · simp
    omega
theorem putM_mem {l : List MkX} {x y : MkX} {p : Nat} (h : y ∈ putM l x p) : y ∈ l ∨ y = x := by
  unfold putM at h
  split at h
  · exact List.mem_or_eq_of_mem_set h
  · simp only [List.mem_append, List.mem_singleton] at h
    rcases h with (h | h) | h
    · exact .inl (List.mem_of_mem_take h)
    · exact .inr h
    · exact .inl (List.mem_of_mem_drop h)
theorem putM_ris {l : List MkX} {x : MkX} {p : Nat} (hs : risM l) (h : AtE l (keyX x) p) : risM (putM l x p) := by
  unfold putM
  cases hb : hasM l (keyX x) with
  | false => simpa using h.ris hs hb rfl
  | true =>
    have h2 := h.has hs
    rw [hb] at h2
    have h3 := Bool.and_eq_true_iff.1 h2.symm
    simpa using AtE.setris hs (of_decide_eq_true h3.1) (of_decide_eq_true h3.2) rfl
/-- slices.Insert of an entry, wherever it goes -/
theorem insert_any (w : World) (b p : Nat) (v : Value) (l : List MkX) (x : MkX) (hv : OwnE w 0 v l) (hp : p ≤ l.length) (hl : l.length ≤ 500) (hb : w.heap[b]? = some (.cells (entC x).toArray 85 (0, 0))) (hbv : v.ownBlock ≠ some b) (hone : ∀ u ∈ entF l, u.oneCell' = true) (h1 : x.2.1.oneCell' = true) (h2 : x.2.2.oneCell' = true) :
    Calls Tryd.prog 70 #[v, .int .i64 (p : Int), .slice (some ⟨b, 0, none⟩) 1 1] w fun e w' => ∃ v', e = .returned v' ∧ OwnE w' 0 v' (l.take p ++ [x] ++ l.drop p) ∧ Fr w w' v v' := by
  by_cases hpe : p = l.length
  · subst hpe
    rw [List.take_length, List.drop_length, List.append_nil]
    exact insert_end w 0 b v l x hv (by omega) (Nat.zero_le _) hb h1 h2
  · rcases hv.2 with ⟨h', hn⟩ | ⟨g, c, cur, h', hr⟩
    · omega
    · subst h'
      have hbg : b ≠ g := fun e => hbv (by rw [e]; rfl)
      by_cases hc : l.length + 1 ≤ c
      · refine (insert_shift w 0 b g c p l x hv (by omega) hc hone hbg hb h1 h2).mono ?_
        rintro e w' ⟨v', rfl, q1, q2, q3⟩
        exact ⟨v', rfl, q1, q2, fun k hk => .inl (by rw [← hk, q3]; rfl)⟩
      · refine (insert_grow w 0 b g c p l x hv (Nat.zero_le _) (by omega) (by omega) (by omega) hone hb h1 h2).mono ?_
        rintro e w' ⟨v', rfl, q1, q2, q3⟩
        refine ⟨v', rfl, q1, gb_any q2 _, fun k hk => .inr ?_⟩
        rw [q3] at hk
        cases hk
        exact Nat.le_refl _
/-- a mark written over in its place -/
def setE (W : World) (g o : Nat) (x y z u v : Value) : World := ((((W.setCell ⟨g, o + 2, none⟩ x).setCell ⟨g, o + 3, none⟩ y).setCell ⟨g, o + 4, none⟩ z).setCell ⟨g, o + 5, none⟩ u).setCell ⟨g, o + 6, none⟩ v
theorem setE_ch (W : World) (g o : Nat) (x y z u v : Value) : Ch W (setE W g o x y z u v) (fun k => k = g) := by
  unfold setE
  exact ((((set_ch _ _ _ _).trans (set_ch _ _ _ _) (fun _ _ h => h)).trans (set_ch _ _ _ _) (fun _ _ h => h)).trans (set_ch _ _ _ _) (fun _ _ h => h)).trans (set_ch _ _ _ _) (fun _ _ h => h)
theorem set_blk {W : World} {g o : Nat} {cur : Array Value} {t : TypeId} {fr : Nat × Nat} (h : W.heap[g]? = some (.cells cur t fr)) (u : Value) : (W.setCell ⟨g, o, none⟩ u).heap[g]? = some (.cells (cur.setIfInBounds o u) t fr) := by
  have hl := some_lt h
  have h2 : W.heap[g] = .cells cur t fr := by
    rw [Array.getElem?_eq_getElem hl] at h
    exact Option.some.inj h
  simp only [World.setCell]
  rw [Array.getElem?_eq_getElem (by simpa using hl)]
  simp [Array.getElem_modify_self, h2]
theorem entF_set (l : List MkX) (p : Nat) (x : MkX) (hp : p < l.length) (hk : keyX (l.getD p xZ) = keyX x) : entF (l.set p x) = (((((entF l).set (p * 7 + 2) (.string (ByteArray.mk ⟨x.1.rcv⟩))).set (p * 7 + 3) (.string (ByteArray.mk ⟨x.1.key⟩))).set (p * 7 + 4) (.int .i64 x.1.tim)).set (p * 7 + 5) x.2.1).set (p * 7 + 6) x.2.2 := by
  have hk1 : (l.getD p xZ).1.rcv = x.1.rcv := congrArg Prod.fst hk
  have hk2 : (l.getD p xZ).1.key = x.1.key := congrArg Prod.snd hk
  refine List.ext_getElem? (fun i => ?_)
  by_cases hi : i < l.length * 7
  · obtain ⟨j, f, hf, rfl⟩ : ∃ j f, f < 7 ∧ i = j * 7 + f := ⟨i / 7, i % 7, Nat.mod_lt _ (by omega), by omega⟩
    have hj : j < l.length := by omega
    rw [entF_get _ j f (by simpa using hj) hf]
    have hget := entF_get l j f hj hf
    by_cases hjp : j = p
    · subst hjp
      have e : (l.set j x).getD j xZ = x := by simp [List.getD, hj]
      rw [e]
      have hlen : (entF l).length = l.length * 7 := entF_len l
      have hb : f = 0 ∨ f = 1 ∨ f = 2 ∨ f = 3 ∨ f = 4 ∨ f = 5 ∨ f = 6 := by omega
      rcases hb with rfl | rfl | rfl | rfl | rfl | rfl | rfl
      · simp [entC] at hget ⊢
        rw [hget, show (l[j]?.getD xZ).1.rcv = x.1.rcv from hk1]
      · simp [entC] at hget ⊢
        rw [hget, show (l[j]?.getD xZ).1.key = x.1.key from hk2]
      · simp [List.getElem?_set, entC, hlen]
        omega
      · simp [List.getElem?_set, entC, hlen]
        omega
      · simp [List.getElem?_set, entC, hlen]
        omega
      · simp [List.getElem?_set, entC, hlen]
        omega
      · simp [List.getElem?_set, entC, hlen]
        omega
    · have e : (l.set p x).getD j xZ = l.getD j xZ := by simp [List.getD, show ¬ p = j from fun e => hjp e.symm]
      rw [e, ← hget]
      simp only [List.getElem?_set]
      rw [if_neg (by omega), if_neg (by omega), if_neg (by omega), if_neg (by omega), if_neg (by omega)]
  · rw [List.getElem?_eq_none (by rw [entF_len]; simp; omega), List.getElem?_eq_none (by simp [entF_len]; omega)]
theorem OwnE.put {w : World} {g c p : Nat} {l : List MkX} {x : MkX} (h : OwnE w 0 (.slice (some ⟨g, 0, none⟩) l.length c) l) (hp : p < l.length) (hk : keyX (l.getD p xZ) = keyX x) : OwnE (setE w g (p * 7) (.string (ByteArray.mk ⟨x.1.rcv⟩)) (.string (ByteArray.mk ⟨x.1.key⟩)) (.int .i64 x.1.tim) x.2.1 x.2.2) 0 (.slice (some ⟨g, 0, none⟩) l.length c) (l.set p x) := by
  rcases h.2 with ⟨h', _⟩ | ⟨g', c', cur, h', hgb, hh, hnc, hcm, hcs, htake⟩
  · simp at h'
  · simp only [Value.slice.injEq, Option.some.injEq, Addr.mk.injEq, and_true, true_and] at h'
    obtain ⟨rfl, rfl⟩ := h'
    refine OwnE.of (cur := ((((cur.setIfInBounds (p * 7 + 2) (.string (ByteArray.mk ⟨x.1.rcv⟩))).setIfInBounds (p * 7 + 3) (.string (ByteArray.mk ⟨x.1.key⟩))).setIfInBounds (p * 7 + 4) (.int .i64 x.1.tim)).setIfInBounds (p * 7 + 5) x.2.1).setIfInBounds (p * 7 + 6) x.2.2) ?_ hgb (by simp) hnc hcm (by simpa using hcs) ?_
    · unfold setE
      exact set_blk (set_blk (set_blk (set_blk (set_blk hh _) _) _) _) _
    · rw [entF_set l p x hp hk, ← htake]
      simp only [Array.toList_setIfInBounds]
      rw [List.take_set, List.take_set, List.take_set, List.take_set, List.take_set]
end Go.Proofs.YtbnieljkadcaoaaDoor
