/-
  Small functions of alerts: those of spans (Within, Time, Bound, Some, Right), slices.Clone, copyOf, keyOf, Len, New: the walks.
-/
import Derived.Test.YtmgbcmogdjhacaaDoorAl2
import Derived.Test.YtmgbcmogdjhacaaDoorLbBy
import Derived.Lib.ConvBytes
import Derived.Lib.SliceRun
namespace Go.Proofs.YtmgbcmogdjhacaaDoor
open Go.RowKit Go.Shelf Go.Maps Go.WideMaps

set_option maxHeartbeats 800000 in
theorem within_any (n a b : Int) (w : World) : Calls Tryd.prog 39 #[.int .i64 n, .int .i64 a, .int .i64 b] w fun e w' => e = .returned (.bool (decide (a ≤ n) && decide (n ≤ b))) ∧ w' = w := by
  by_cases h1 : a ≤ n
  · by_cases h2 : n ≤ b
    · rw [decide_eq_true h1, decide_eq_true h2]
      go_enter Tryd.func39, Tryd.ntmps39
      go_wp2
      go_ret
      exact ⟨by simp, rfl⟩
    · rw [decide_eq_true h1, decide_eq_false h2]
      go_enter Tryd.func39, Tryd.ntmps39
      go_wp2
      go_ret
      exact ⟨by simp, rfl⟩
  · rw [decide_eq_false h1]
    go_enter Tryd.func39, Tryd.ntmps39
    go_wp2
    go_ret
    exact ⟨by simp, rfl⟩
theorem within_isT (n : Int) : (decide ((0 : Int) ≤ n) && decide (n ≤ 1125899906842624)) = decide (isT n) := by
  have e : (isT n) = (0 ≤ n ∧ n ≤ 1125899906842624) := rfl
  by_cases h1 : 0 ≤ n <;> by_cases h2 : n ≤ 1125899906842624 <;> simp [e, h1, h2]
theorem within_isB (n : Int) : (decide ((0 : Int) ≤ n) && decide (n ≤ 1126999418470400)) = decide (isB n) := by
  have e : (isB n) = (0 ≤ n ∧ n ≤ 1126999418470400) := rfl
  by_cases h1 : 0 ≤ n <;> by_cases h2 : n ≤ 1126999418470400 <;> simp [e, h1, h2]
set_option maxHeartbeats 800000 in
theorem isTime_any (n : Int) (w : World) : Calls Tryd.prog 33 #[.int .i64 n] w fun e w' => e = .returned (.bool (decide (isT n))) ∧ w' = w := by
  have HC := hidJ (within_any n 0 1125899906842624 w)
  rw [within_isT] at HC
  generalize decide (isT n) = r at *
  go_enter Tryd.func33, Tryd.ntmps33
  go_wp2_with fail
  refine HC.out.mono ?_
  rintro e w1 ⟨rfl, rfl⟩
  clear HC
  go_wp2
  go_ret
  exact ⟨rfl, rfl⟩
set_option maxHeartbeats 800000 in
theorem isBound_any (n : Int) (w : World) : Calls Tryd.prog 48 #[.int .i64 n] w fun e w' => e = .returned (.bool (decide (isB n))) ∧ w' = w := by
  have HC := hidJ (within_any n 0 1126999418470400 w)
  rw [within_isB] at HC
  generalize decide (isB n) = r at *
  go_enter Tryd.func48, Tryd.ntmps48
  go_wp2_with fail
  refine HC.out.mono ?_
  rintro e w1 ⟨rfl, rfl⟩
  clear HC
  go_wp2
  go_ret
  exact ⟨rfl, rfl⟩
set_option maxHeartbeats 800000 in
theorem spanSome_any (n : Int) (w : World) : Calls Tryd.prog 22 #[.int .i64 n] w fun e w' => e = .returned (.bool (decide (1 ≤ n) && decide (n ≤ 1099511627776))) ∧ w' = w := by
  have HC := hidJ (within_any n 1 1099511627776 w)
  generalize (decide (1 ≤ n) && decide (n ≤ 1099511627776)) = r at *
  go_enter Tryd.func22, Tryd.ntmps22
  go_wp2_with fail
  refine HC.out.mono ?_
  rintro e w1 ⟨rfl, rfl⟩
  clear HC
  go_wp2
  go_ret
  exact ⟨rfl, rfl⟩
set_option maxHeartbeats 800000 in
theorem spanRight_any (n : Int) (w : World) : Calls Tryd.prog 34 #[.int .i64 n] w fun e w' => e = .returned (.bool (decide (0 ≤ n) && decide (n ≤ 1099511627776))) ∧ w' = w := by
  have HC := hidJ (within_any n 0 1099511627776 w)
  generalize (decide (0 ≤ n) && decide (n ≤ 1099511627776)) = r at *
  go_enter Tryd.func34, Tryd.ntmps34
  go_wp2_with fail
  refine HC.out.mono ?_
  rintro e w1 ⟨rfl, rfl⟩
  clear HC
  go_wp2
  go_ret
  exact ⟨rfl, rfl⟩
/-- append by a run that is known -/
theorem wp_appRun {w w' : World} {ops : Array Oper} {rest : List Oper} {o : Oper} {a : Act} {Q : Exit → Act → World → Prop} (hgd : o.guard = none) (s x : Operand) (T : TypeId)
    (ho : o.op = .call { callee := .builtin .append, args := #[s, x], argTypes := #[T, T] }) (vs vx v' : Value) (hs : a.eval s = vs) (hx : a.eval x = vx)
    (hr : (Builtin.append_ #[T, T] o.type #[vs, vx]).run Tryd.prog w = .ok v' w') (h : wpList Tryd.prog ops Q rest (a.put o.dst v') w') : wpList Tryd.prog ops Q (o :: rest) a w := by
  refine wpList_plain hgd fun K hK => ?_
  unfold Oper.wp execOp
  simp only [ho, resolve, invoke, builtin, Sem.run_bind, Sem.run_pure, Result.andThen_ok, List.map_toArray, List.map_cons, List.map_nil, hs, hx, hr]
  exact hK _ _ h
theorem OwnL.mono {w : World} {base base' : Nat} {v : Value} {ls : List LbT} (h : OwnL w base v ls) (hb : base' ≤ base) : OwnL w base' v ls := by
  obtain ⟨h1, h2⟩ := h
  refine ⟨h1, ?_⟩
  rcases h2 with h2 | ⟨g, cap, cur, hv, hg, r⟩
  · exact .inl h2
  · exact .inr ⟨g, cap, cur, hv, by omega, r⟩
theorem slice_nil (a : Option Addr) (n c : Nat) (w : World) : (binOp .eql 32 (.slice a n c) (.slice none 0 0)).run Tryd.prog w = .ok (.bool a.isNone) w := by
  have := Go.Lib.run_eql_slice_nil (P := Tryd.prog) w 32 63 a n c 0 0 Tryd.underlying32
  first | exact this | simpa using this
theorem ownL_empty (w : World) (b : Nat) (hb : b ≤ w.heap.size) : OwnL (w.alloc (.cells #[] 63)) b (.slice (some ⟨w.heap.size, 0, none⟩) 0 0) [] := by
  refine ⟨rfl, .inr ⟨w.heap.size, 0, #[], rfl, hb, Go.heap_alloc_new w _, Nat.le_refl _, by unfold maxLen; omega, rfl, rfl⟩⟩
set_option maxRecDepth 8000 in
set_option maxHeartbeats 1600000 in
theorem clone_any (w : World) (v : Value) (ls : List LbT) (hv : RdL w v ls) (hl : ls.length ≤ 4398046511104) :
    Calls Tryd.prog 43 #[v] w fun e w' => ∃ v', e = .returned v' ∧ OwnL w' w.heap.size v' ls ∧ w.grownBy w' none := by
  have HV := hidJ hv
  obtain ⟨a, c, rfl, hc1, hc2, -, hc4⟩ := hv
  unfold maxLen at hc2
  cases a with
  | none =>
    have h0 := hc4 rfl
    subst h0
    have hn : ls = [] := List.eq_nil_of_length_eq_zero (by omega)
    subst hn
    have hb := slice_nil none 0 0
    simp only [Option.isNone_none] at hb
    simp only [List.length_nil]
    go_enter Tryd.func43, Tryd.ntmps43
    go_wp2
    go_ret
    exact ⟨_, rfl, World.ownsRow_nil _ _ _ _, gb_refl _ _⟩
  | some ad =>
    obtain ⟨i0, hi, hz0, hz1, hz2⟩ := info_parts infoLb
    have hrd : RdL (w.alloc (.cells #[] 63)) (.slice (some ad) ls.length c) ls := HV.out.keep (World.grownBy_alloc _ _ none)
    have ho := ownL_empty w w.heap.size (Nat.le_refl _)
    obtain ⟨v', w', hrun, h2, h3⟩ := run_appH (w.alloc (.cells #[] 63)) 32 32 63 i0 _ 2 32 w.heap.size Tryd.underlying32 hi hz0 hz1 hz2 rfl (by decide) (.slice (some ⟨w.heap.size, 0, none⟩) 0 0) 0 [] ho (some ad) ls.length c (lbf ls) (lbf_len ls) hrd.rdc (fun h => by cases h) (lbf_one ls) (by omega) (by omega) (by simp)
    have HO : Hid (OwnL w' w.heap.size v' ls ∧ w.grownBy w' none) := by
      refine ⟨?_, gb_new (World.grownBy_alloc _ _ none) h3.1 (fun k hk => by simp [Value.ownBlock] at hk; omega)⟩
      unfold OwnL
      simpa using h2
    obtain ⟨a2, n2, c2, rfl⟩ : ∃ a n c, v' = .slice a n c := by
      obtain ⟨a, c, e⟩ := HO.out.1.shape
      exact ⟨a, _, c, e⟩
    clear h2 h3 ho hrd hc4 hz0 hz1 hz2 hi
    have hb := slice_nil (some ad) ls.length c
    simp only [Option.isNone_some] at hb
    go_enter Tryd.func43, Tryd.ntmps43
    have HRun := hidJ hrun
    clear hrun
    go_wp2_with (at_builtin; refine wp_appRun rfl _ _ 32 rfl _ _ _ rfl rfl HRun.out ?_)
    go_wp2
    go_ret
    exact ⟨_, rfl, HO.out⟩
set_option maxRecDepth 8000 in
set_option maxHeartbeats 1600000 in
theorem copyOf_any (w : World) (v : Value) (ls : List LbT) (st en : Int) (hv : RdL w v ls) (hl : ls.length ≤ 4398046511104) :
    Calls Tryd.prog 26 #[alV v st en] w fun e w' => ∃ v', e = .returned (alV v' st en) ∧ OwnL w' w.heap.size v' ls ∧ w.grownBy w' none := by
  have HC : Hid (∀ W, w.grownBy W none → Calls Tryd.prog 43 #[v] W fun e w' => ∃ v', e = .returned v' ∧ OwnL w' W.heap.size v' ls ∧ W.grownBy w' none) := fun W hW => clone_any W v ls (hv.keep hW) hl
  obtain ⟨a, c, rfl, -⟩ := hv
  have HC2 : Hid (Calls Tryd.prog 43 #[.slice a ls.length c] ((w.alloc (.cells #[.slice a ls.length c, .int .i64 st, .int .i64 en] 34)).alloc (.cells #[.slice none 0 0, .int .i64 0, .int .i64 0] 34)) fun e w' => ∃ a' n' c', e = .returned (.slice a' n' c') ∧ Hid (OwnL w' (w.heap.size + 2) (.slice a' n' c') ls ∧ w.grownBy w' none ∧ B3 w' w.heap.size 34 (.slice a ls.length c) (.int .i64 st) (.int .i64 en) ∧ B3 w' (w.heap.size + 1) 34 (.slice none 0 0) (.int .i64 0) (.int .i64 0))) := by
    have k1 := World.grownBy_alloc w (.cells #[.slice a ls.length c, .int .i64 st, .int .i64 en] 34) none
    have k2 := World.grownBy_alloc (w.alloc (.cells #[.slice a ls.length c, .int .i64 st, .int .i64 en] 34)) (.cells #[.slice none 0 0, .int .i64 0, .int .i64 0] 34) none
    refine (HC.out _ (gb_none k1 k2)).mono ?_
    rintro e w' ⟨v', rfl, q1, q2⟩
    obtain ⟨a', c', e'⟩ := q1.shape
    subst e'
    have x0 := ((B3.new w 34 (.slice a ls.length c) (.int .i64 st) (.int .i64 en)).keep k2).keep q2
    have x1 := (B3.new (w.alloc (.cells #[.slice a ls.length c, .int .i64 st, .int .i64 en] 34)) 34 (.slice none 0 0) (.int .i64 0) (.int .i64 0)).keep q2
    rw [World.size_alloc] at x1
    refine ⟨a', _, c', rfl, ?_, gb_none (gb_none k1 k2) q2, x0, x1⟩
    rw [World.size_alloc, World.size_alloc] at q1
    exact q1
  clear HC
  unfold alV
  go_enter Tryd.func26, Tryd.ntmps26
  go_wp2_with fail
  refine HC2.out.mono ?_
  rintro e w1 ⟨a1, n1, c1, rfl, H1⟩
  clear HC2
  obtain ⟨b0, b1, b2, f0, f1, f2⟩ := H1.out.2.2.1.cells
  obtain ⟨d0, d1, d2, e0, e1, e2⟩ := H1.out.2.2.2.cells
  go_wp2
  have HB : Hid (B3 (w1.setCell ⟨w.heap.size, 0, none⟩ (.slice a1 n1 c1)) (w.heap.size + 1) 34 (.slice none 0 0) (.int .i64 0) (.int .i64 0)) := H1.out.2.2.2.ch (set_ch _ _ _ _) (by omega)
  refine bodyPost_ret (results_cell_row rfl _ _ (w.heap.size + 1) _ _ _ _ rfl (set3 HB.out) Tryd.underlying34 rfl (by kernel_rfl)) rfl ?_
  have k1 := set_ch w1 w.heap.size 0 (.slice a1 n1 c1)
  have k2 : Ch (w1.setCell ⟨w.heap.size, 0, none⟩ (.slice a1 n1 c1)) ((((w1.setCell ⟨w.heap.size, 0, none⟩ (.slice a1 n1 c1)).setCell ⟨w.heap.size + 1, 0, none⟩ (.slice a1 n1 c1)).setCell ⟨w.heap.size + 1, 1, none⟩ (.int .i64 st)).setCell ⟨w.heap.size + 1, 2, none⟩ (.int .i64 en)) (fun k => k = w.heap.size + 1) := ((set_ch _ _ _ _).trans (set_ch _ _ _ _) (fun _ _ e => e)).trans (set_ch _ _ _ _) (fun _ _ e => e)
  refine ⟨_, rfl, OwnL.mono (base := w.heap.size + 2) (row_ch (row_ch H1.out.1 k1 (fun k hk e => ?_)) k2 (fun k hk e => ?_)) (by omega), gb_ch (gb_ch H1.out.2.1 k1 (fun k e => by omega)) k2 (fun k e => by omega)⟩
  · have := (H1.out.1.lt k hk).1
    omega
  · have := (H1.out.1.lt k hk).1
    omega
end Go.Proofs.YtmgbcmogdjhacaaDoor
