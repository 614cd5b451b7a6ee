/-
  Nf8, Nf9, in one text.
-/
import Derived.Test.YtpglhdnepmcahaaGreatDoorNmC
import Derived.Lib.SliceRun
/- Nf8 -/
namespace Go.Proofs.YtpglhdnepmcahaaGreatDoor
open Go.RowKit Go.Shelf Go.Sort

/-- append by a run that is known -/
theorem wp_appRun {w w' : World} {ops : Array Oper} {rest : List Oper} {o : Oper} {a : Act} {Q : Exit → Act → World → Prop} (hgd : o.guard = none) (s x : Operand) (T : TypeId)
    (ho : o.op = .call { callee := .builtin .append, args := #[s, x], argTypes := #[T, T] }) (vs vx v' : Value) (hs : a.eval s = vs) (hx : a.eval x = vx)
    (hr : (Builtin.append_ #[T, T] o.type #[vs, vx]).run Tryz.prog w = .ok v' w') (h : wpList Tryz.prog ops Q rest (a.put o.dst v') w') : wpList Tryz.prog ops Q (o :: rest) a w := by
  refine wpList_plain hgd fun K hK => ?_
  unfold Oper.wp execOp
  simp only [ho, resolve, invoke, builtin, Sem.run_bind, Sem.run_pure, Result.andThen_ok, List.map_toArray, List.map_cons, List.map_nil, hs, hx, hr]
  exact hK _ _ h
theorem OwnL.mono {w : World} {base base' : Nat} {v : Value} {ls : List LbT} (h : OwnL w base v ls) (hb : base' ≤ base) : OwnL w base' v ls := by
  obtain ⟨h1, h2⟩ := h
  refine ⟨h1, ?_⟩
  rcases h2 with h2 | ⟨g, cap, cur, hv, hg, r⟩
  · exact .inl h2
  · exact .inr ⟨g, cap, cur, hv, by omega, r⟩
theorem slice_nil (a : Option Addr) (n c : Nat) (w : World) : (binOp .eql 52 (.slice a n c) (.slice none 0 0)).run Tryz.prog w = .ok (.bool a.isNone) w := by
  have := Go.Lib.run_eql_slice_nil (P := Tryz.prog) w 52 51 a n c 0 0 Tryz.underlying52
  first | exact this | simpa using this
theorem slice_nilV (a : Option Addr) (n c : Nat) (w : World) : (binOp .eql 32 (.slice a n c) (.slice none 0 0)).run Tryz.prog w = .ok (.bool a.isNone) w := by
  have := Go.Lib.run_eql_slice_nil (P := Tryz.prog) w 32 52 a n c 0 0 Tryz.underlying32
  first | exact this | simpa using this
theorem ownL_empty (w : World) (b : Nat) (hb : b ≤ w.heap.size) : OwnL (w.alloc (.cells #[] 51)) b (.slice (some ⟨w.heap.size, 0, none⟩) 0 0) [] := by
  refine ⟨rfl, .inr ⟨w.heap.size, 0, #[], rfl, hb, Go.heap_alloc_new w _, Nat.le_refl _, by unfold maxLen; omega, rfl, rfl⟩⟩
theorem ownVs_empty (w : World) (b : Nat) (hb : b ≤ w.heap.size) : OwnVs (w.alloc (.cells #[] 52)) b (.slice (some ⟨w.heap.size, 0, none⟩) 0 0) [] := by
  refine ⟨rfl, .inr ⟨w.heap.size, 0, #[], rfl, hb, Go.heap_alloc_new w _, Nat.le_refl _, by unfold maxLen; omega, rfl, rfl⟩⟩
set_option maxRecDepth 8000 in
set_option maxHeartbeats 1600000 in
theorem clone_any (w : World) (v : Value) (ls : List LbT) (hv : RdL w v ls) (hl : ls.length ≤ 4398046511104) :
    Calls Tryz.prog 110 #[v] w fun e w' => ∃ v', e = .returned v' ∧ OwnL w' w.heap.size v' ls ∧ w.grownBy w' none := by
  have HV := hidJ hv
  obtain ⟨a, c, rfl, hc1, hc2, -, hc4⟩ := hv
  unfold maxLen at hc2
  cases a with
  | none =>
    have h0 := hc4 rfl
    subst h0
    have hn : ls = [] := List.eq_nil_of_length_eq_zero (by omega)
    subst hn
    have hb := slice_nil none 0 0
    simp only [Option.isNone_none] at hb
    simp only [List.length_nil]
    go_enter Tryz.func110, Tryz.ntmps110
    go_wp2
    go_ret
    exact ⟨_, rfl, World.ownsRow_nil _ _ _ _, gb_refl _ _⟩
  | some ad =>
    obtain ⟨i0, hi, hz0, hz1, hz2⟩ := info_parts infoLb
    have hrd : RdL (w.alloc (.cells #[] 51)) (.slice (some ad) ls.length c) ls := HV.out.keep (World.grownBy_alloc _ _ none)
    have ho := ownL_empty w w.heap.size (Nat.le_refl _)
    obtain ⟨v', w', hrun, h2, h3⟩ := run_appH (w.alloc (.cells #[] 51)) 52 52 51 i0 _ 2 32 w.heap.size Tryz.underlying52 hi hz0 hz1 hz2 rfl (by decide) (.slice (some ⟨w.heap.size, 0, none⟩) 0 0) 0 [] ho (some ad) ls.length c (lbf ls) (lbf_len ls) hrd.rdc (fun h => by cases h) (lbf_one ls) (by omega) (by omega) (by simp)
    have HO : Hid (OwnL w' w.heap.size v' ls ∧ w.grownBy w' none) := by
      refine ⟨?_, gb_new (World.grownBy_alloc _ _ none) h3.1 (fun k hk => by simp [Value.ownBlock] at hk; omega)⟩
      unfold OwnL
      simpa using h2
    obtain ⟨a2, n2, c2, rfl⟩ : ∃ a n c, v' = .slice a n c := by
      obtain ⟨a, c, e⟩ := HO.out.1.shape
      exact ⟨a, _, c, e⟩
    clear h2 h3 ho hrd hc4 hz0 hz1 hz2 hi
    have hb := slice_nil (some ad) ls.length c
    simp only [Option.isNone_some] at hb
    go_enter Tryz.func110, Tryz.ntmps110
    have HRun := hidJ hrun
    clear hrun
    go_wp2_with (at_builtin; refine wp_appRun rfl _ _ 52 rfl _ _ _ rfl rfl HRun.out ?_)
    go_wp2
    go_ret
    exact ⟨_, rfl, HO.out⟩
theorem RdV.rdc {w : World} {a : Option Addr} {n c : Nat} {vs : List Value} (h : RdV w (.slice a n c) vs) : RdC w a vs := by
  obtain ⟨a', c', he, -, -, h4, -⟩ := h
  simp only [Value.slice.injEq] at he
  obtain ⟨rfl, -, rfl⟩ := he
  intro j u hj
  have hjl : j < vs.length := (List.getElem?_eq_some_iff.1 hj).1
  obtain ⟨b, o, rfl, c0⟩ := h4 j hjl
  refine ⟨_, rfl, ?_⟩
  rw [Go.WideShapes.add_plain, c0]
  simp [List.getD, hj]
set_option maxRecDepth 8000 in
set_option maxHeartbeats 1600000 in
theorem cloneV_any (w : World) (v : Value) (vs : List Value) (hv : RdV w v vs) (hone : ∀ u ∈ vs, u.oneCell' = true) (hl : vs.length ≤ 6000000000000) :
    Calls Tryz.prog 109 #[v] w fun e w' => ∃ v', e = .returned v' ∧ OwnVs w' w.heap.size v' vs ∧ w.grownBy w' none := by
  have HV := hidJ hv
  obtain ⟨a, c, rfl, hc1, hc2, -, hc4⟩ := hv
  unfold maxLen at hc2
  cases a with
  | none =>
    have h0 := hc4 rfl
    subst h0
    have hn : vs = [] := List.eq_nil_of_length_eq_zero (by omega)
    subst hn
    have hb := slice_nilV none 0 0
    simp only [Option.isNone_none] at hb
    simp only [List.length_nil]
    go_enter Tryz.func109, Tryz.ntmps109
    go_wp2
    go_ret
    exact ⟨_, rfl, OwnVs.nil _ _, gb_refl _ _⟩
  | some ad =>
    obtain ⟨i0, hi, hz0, hz1, hz2⟩ := info_parts infoLs
    have hrd : RdV (w.alloc (.cells #[] 52)) (.slice (some ad) vs.length c) vs := HV.out.keep (World.grownBy_alloc _ _ none)
    have ho := ownVs_empty w w.heap.size (Nat.le_refl _)
    obtain ⟨v', w', hrun, h2, h3⟩ := run_appH (w.alloc (.cells #[] 52)) 32 32 52 i0 _ 1 24 w.heap.size Tryz.underlying32 hi hz0 hz1 hz2 rfl (by decide) (.slice (some ⟨w.heap.size, 0, none⟩) 0 0) 0 [] ho (some ad) vs.length c vs (by omega) hrd.rdc (fun h => by cases h) hone (by omega) (by omega) (by simp)
    have HO : Hid (OwnVs w' w.heap.size v' vs ∧ w.grownBy w' none) := by
      refine ⟨?_, gb_new (World.grownBy_alloc _ _ none) h3.1 (fun k hk => by simp [Value.ownBlock] at hk; omega)⟩
      unfold OwnVs
      simpa using h2
    obtain ⟨a2, n2, c2, rfl⟩ : ∃ a n c, v' = .slice a n c := by
      obtain ⟨a, c, e⟩ := HO.out.1.shape
      exact ⟨a, _, c, e⟩
    clear h2 h3 ho hrd hc4 hz0 hz1 hz2 hi hone
    have hb := slice_nilV (some ad) vs.length c
    simp only [Option.isNone_some] at hb
    go_enter Tryz.func109, Tryz.ntmps109
    have HRun := hidJ hrun
    clear hrun
    go_wp2_with (at_builtin; refine wp_appRun rfl _ _ 32 rfl _ _ _ rfl rfl HRun.out ?_)
    go_wp2
    go_ret
    exact ⟨_, rfl, HO.out⟩
/-- label sets, all of the call's own -/
def OwnLL (w : World) (base : Nat) (v : Value) (lss : List (List LbT)) : Prop := ∃ vs, OwnVs w base v vs ∧ vs.length = lss.length ∧ ∀ j, OwnL w base (vs.getD j nilV) (lss.getD j [])
theorem OwnLL.rd {w : World} {base : Nat} {v : Value} {lss : List (List LbT)} (h : OwnLL w base v lss) : RdLL w v lss := by
  obtain ⟨vs, h1, h2, h3⟩ := h
  exact ⟨vs, h1.rd, h2, fun j => (h3 j).rd⟩
theorem OwnLL.keep {w w' : World} {base : Nat} {v : Value} {lss : List (List LbT)} (h : OwnLL w base v lss) (hg : w.grownBy w' none) : OwnLL w' base v lss := by
  obtain ⟨vs, h1, h2, h3⟩ := h
  exact ⟨vs, h1.keep hg, h2, fun j => (h3 j).keep hg⟩
theorem OwnLL.mono {w : World} {base base' : Nat} {v : Value} {lss : List (List LbT)} (h : OwnLL w base v lss) (hb : base' ≤ base) : OwnLL w base' v lss := by
  obtain ⟨vs, h1, h2, h3⟩ := h
  exact ⟨vs, h1.mono hb, h2, fun j => (h3 j).mono hb⟩
theorem OwnLL.nil (w : World) (base : Nat) : OwnLL w base (.slice none 0 0) [] := ⟨[], OwnVs.nil _ _, rfl, fun j => by simp [nilV]; exact World.ownsRow_nil w base _ _⟩
/-- copySets between two rounds -/
structure CsJ (w : World) (v : Value) (vs : List Value) (lss : List (List LbT)) (z : Nat) (wr : World) : Prop where
  old : w.grownBy wr none
  row : ∃ us, us.length = z ∧ OwnVs wr w.heap.size v (us ++ vs.drop z) ∧ ∀ j, j < z → OwnL wr w.heap.size (us.getD j nilV) (lss.getD j [])
theorem OwnVs.cell {w : World} {base : Nat} {v : Value} {vs : List Value} (h : OwnVs w base v vs) {j : Nat} (hj : j < vs.length) : ∃ g c, v = .slice (some ⟨g, 0, none⟩) vs.length c ∧ vs.length ≤ c ∧ c ≤ 9223372036854775807 ∧ base ≤ g ∧ w.cell? ⟨g, j, none⟩ = some (vs.getD j nilV) ∧ w.frozen? ⟨g, j, none⟩ = false ∧ g < w.heap.size := by
  have h0 := h
  rcases h.2 with ⟨-, hn⟩ | ⟨g, cap, cur, rfl, hg, hh, hnc, hcm, hcs, ht⟩
  · omega
  · have hc := World.ownsRow.cellAt h0 j (by omega)
    unfold maxLen at hcm
    exact ⟨g, cap, rfl, hnc, hcm, hg, by rw [hc]; simp [List.getD, hj], World.ownsRow.frozenAt h0 j, some_lt hh⟩
theorem CsJ.step {w wr w1 : World} {g c N z : Nat} {vs : List Value} {lss : List (List LbT)} {u : Value} (h : CsJ w (.slice (some ⟨g, 0, none⟩) N c) vs lss z wr) (hz : z < vs.length) (hg1 : wr.grownBy w1 none) (hu : OwnL w1 w.heap.size u (lss.getD z [])) : CsJ w (.slice (some ⟨g, 0, none⟩) N c) vs lss (z + 1) (w1.setCell ⟨g, z, none⟩ u) := by
  obtain ⟨us, h1, h2, h3⟩ := h.row
  have h2' := h2.keep hg1
  have hN : N = (us ++ vs.drop z).length := by
    rcases h2'.2 with ⟨h', _⟩ | ⟨_, _, _, h', _⟩
    · simp at h'
    · simp at h'; simpa using h'.2.1
  have hgb : w.heap.size ≤ g := (World.ownsRow.lt h2' g rfl).1
  subst hN
  obtain ⟨k1, k2⟩ := World.ownsRow.stored h2' z u
  have hset : (us ++ vs.drop z).set z u = (us ++ [u]) ++ vs.drop (z + 1) := by
    rw [List.set_append_right _ _ (by omega), h1, Nat.sub_self, List.drop_eq_getElem_cons hz, List.set_cons_zero, List.append_assoc]
    rfl
  have hne : ∀ (x : Value) (ls : List LbT), OwnL w1 w.heap.size x ls → OwnL (w1.setCell ⟨g, z, none⟩ u) w.heap.size x ls := fun x ls hx => by
    refine row_via hx (fun k hk => Below.heap_setCell _ _ _ _ (fun e => ?_))
    subst e
    obtain ⟨cur, q1⟩ := row_objE hx hk
    obtain ⟨cur', q2⟩ := row_objE h2' (rfl : (Value.slice (some ⟨k, 0, none⟩) (us ++ vs.drop z).length c).ownBlock = some k)
    rw [q1] at q2
    simp at q2
  refine ⟨gb_new (gb_none h.old hg1) k2 (fun k hk => by cases hk; exact hgb), us ++ [u], by simp [h1], ?_, fun j hj => ?_⟩
  · unfold OwnVs
    rw [← hset, List.length_set]
    exact k1
  · by_cases e : j = z
    · have e2 : (us ++ [u]).getD j nilV = u := by rw [e, ← h1]; simp
      rw [e2, e]
      exact hne _ _ hu
    · have e2 : (us ++ [u]).getD j nilV = us.getD j nilV := by simp [List.getD, List.getElem?_append_left (show j < us.length by omega)]
      rw [e2]
      exact hne _ _ ((h3 j (by omega)).keep hg1)
set_option maxRecDepth 8000 in
set_option maxHeartbeats 3200000 in
theorem copySets_any (w : World) (v : Value) (lss : List (List LbT)) (hv : RdLL w v lss) (hl : lss.length ≤ 6000000000000) (hi : ∀ j, (lss.getD j []).length ≤ 4398046511104) :
    Calls Tryz.prog 74 #[v] w fun e w' => ∃ v', e = .returned v' ∧ OwnLL w' w.heap.size v' lss ∧ w.grownBy w' none := by
  obtain ⟨vs, hV, hS⟩ := hv
  have HC := hidJ (cloneV_any w v vs hV hS.one (by rw [hS.1]; exact hl))
  have HS := hidJ (And.intro hS hi)
  have hvs : ∃ a n c, v = .slice a n c := by obtain ⟨a, c, e, -⟩ := hV; exact ⟨_, _, _, e⟩
  obtain ⟨va, vn, vc, rfl⟩ := hvs
  have hvl : vs.length ≤ 6000000000000 := by rw [hS.1]; exact hl
  have HL := hidJ hS.1
  clear hV hS hl hi
  go_enter Tryz.func74, Tryz.ntmps74
  go_wp2_with fail
  refine HC.out.mono ?_
  rintro e w1 ⟨v', rfl, H1⟩
  have H1 := hidJ H1
  clear HC
  obtain ⟨a', c', rfl⟩ := H1.out.1.shape
  have H0 : Hid (CsJ w (.slice a' vs.length c') vs lss 0 w1) := ⟨H1.out.2, [], rfl, by simpa using H1.out.1, fun j hj => by omega⟩
  go_wp2
  go_loopw [9] (fun i wr => ∃ z : Nat, z ≤ vs.length ∧ i = .int .i64 z ∧ Hid (CsJ w (.slice a' vs.length c') vs lss z wr)) (fun i _ => vs.length - (intOf i).toNat)
  case atStart => exact ⟨0, by omega, rfl, H0.out⟩
  case round =>
    obtain ⟨z, hzN, rfl, hr⟩ := hrel
    by_cases hzl : z < vs.length
    · have hzi : (z : Int) < (vs.length : Int) := by omega
      obtain ⟨us, k1, k2, k3⟩ := hr.out.row
      have hll : (us ++ vs.drop z).length = vs.length := by simp [k1]; omega
      obtain ⟨g, c2, he, hc1, hc2, hbg, d0, d1, hgl⟩ := k2.cell (j := z) (by omega)
      simp only [Value.slice.injEq] at he
      obtain ⟨rfl, -, rfl⟩ := he
      have hgz : (us ++ vs.drop z).getD z nilV = vs.getD z nilV := by
        simp only [List.getD]
        rw [List.getElem?_append_right (by omega), k1, Nat.sub_self, List.getElem?_drop]
        simp
      rw [hgz] at d0
      have hrd := (HS.out.1.2 z).keep hr.out.old
      have HO := hidJ (clone_any wr _ _ hrd (HS.out.2 z))
      obtain ⟨ua, uc, hua⟩ := hrd.shape
      rw [hua] at d0 HO
      have HR : Hid (∀ w1 u, wr.grownBy w1 none → OwnL w1 wr.heap.size u (lss.getD z []) → CsJ w (.slice (some ⟨g, 0, none⟩) vs.length c') vs lss (z + 1) (w1.setCell ⟨g, z, none⟩ u)) := fun w1 u h1 h2 => hr.out.step hzl h1 (h2.mono hr.out.old.size)
      have HD : Hid (∀ w1, wr.grownBy w1 none → w1.cell? ⟨g, z, none⟩ = some (.slice ua (lss.getD z []).length uc) ∧ w1.frozen? ⟨g, z, none⟩ = false) := fun w1 h1 => by
        have hb := h1.block g hgl (by simp)
        exact ⟨(World.cell?_of_block hb).trans d0, by rw [← d1]; simp only [World.frozen?, hb]⟩
      clear hr k2 k3 hll hgz hrd hua d1 hbg k1
      generalize (lss.getD z []).length = hn at *
      go_wp2_with fail
      refine HO.out.mono ?_
      rintro e w2 ⟨u, rfl, h2⟩
      obtain ⟨x0, x1⟩ := HD.out _ h2.2
      have H7 := hidJ (HR.out _ _ h2.2 h2.1)
      obtain ⟨a2, c3, rfl⟩ := h2.1.shape
      clear HO HR HD h2 d0
      go_wp2
      go_roundw
      case rel => exact ⟨z + 1, by omega, by go_num, H7⟩
      case measure => simp [intOf]; omega
    · have hzi : ¬ (z : Int) < (vs.length : Int) := by omega
      have HF : Hid (OwnLL wr w.heap.size (.slice a' vs.length c') lss ∧ w.grownBy wr none) := by
        obtain ⟨us, k1, k2, k3⟩ := hr.out.row
        rw [List.drop_eq_nil_of_le (by omega), List.append_nil] at k2
        refine ⟨⟨us, k2, by have := HL.out; omega, fun j => ?_⟩, hr.out.old⟩
        by_cases hj : j < z
        · exact k3 j hj
        · have e1 : us.getD j nilV = nilV := by simp only [List.getD, List.getElem?_eq_none (show us.length ≤ j by omega), Option.getD_none]
          have e2 : lss.getD j [] = [] := by simp only [List.getD, List.getElem?_eq_none (show lss.length ≤ j by have := HL.out; omega), Option.getD_none]
          rw [e1, e2]
          exact World.ownsRow_nil _ _ _ _
      clear hr
      go_wp2
      go_ret
      exact ⟨_, rfl, HF.out⟩
end Go.Proofs.YtpglhdnepmcahaaGreatDoor

/- Nf9 -/
namespace Go.Proofs.YtpglhdnepmcahaaGreatDoor
open Go.RowKit Go.Shelf Go.Sort

theorem B5.froz {w : World} {b : Nat} {t : TypeId} {x y z u v : Value} (h : B5 w b t x y z u v) : w.frozen? ⟨b, 0, none⟩ = false ∧ w.frozen? ⟨b, 1, none⟩ = false ∧ w.frozen? ⟨b, 2, none⟩ = false ∧ w.frozen? ⟨b, 3, none⟩ = false ∧ w.frozen? ⟨b, 4, none⟩ = false := by
  unfold B5 at h
  exact ⟨by simp [World.frozen?, h], by simp [World.frozen?, h], by simp [World.frozen?, h], by simp [World.frozen?, h], by simp [World.frozen?, h]⟩
theorem B5.set3 {w : World} {b : Nat} {t : TypeId} {x y z u v : Value} (h : B5 w b t x y z u v) (n : Value) : B5 (w.setCell ⟨b, 3, none⟩ n) b t x y z n v := by
  have h1 := Go.heap_setCell_same w b 3 _ _ n h
  simpa [B5] using h1
theorem B5.set4 {w : World} {b : Nat} {t : TypeId} {x y z u v : Value} (h : B5 w b t x y z u v) (n : Value) : B5 (w.setCell ⟨b, 4, none⟩ n) b t x y z u n := by
  have h1 := Go.heap_setCell_same w b 4 _ _ n h
  simpa [B5] using h1
/-- all five cells written -/
def set5 (W : World) (g : Nat) (x y z u v : Value) : World := ((((W.setCell ⟨g, 0, none⟩ x).setCell ⟨g, 1, none⟩ y).setCell ⟨g, 2, none⟩ z).setCell ⟨g, 3, none⟩ u).setCell ⟨g, 4, none⟩ v
theorem set5_at {W : World} {g : Nat} {t : TypeId} {a b c d e x y z u v : Value} (h : B5 W g t a b c d e) : (set5 W g x y z u v).heap[g]? = some (.cells #[x, y, z, u, v] t (0, 0)) := by
  have h1 := Go.heap_setCell_same W g 0 _ _ x h
  have h2 := Go.heap_setCell_same _ g 1 _ _ y h1
  have h3 := Go.heap_setCell_same _ g 2 _ _ z h2
  have h4 := Go.heap_setCell_same _ g 3 _ _ u h3
  have h5 := Go.heap_setCell_same _ g 4 _ _ v h4
  simpa [set5] using h5
theorem set5_ch (W : World) (g : Nat) (x y z u v : Value) : Ch W (set5 W g x y z u v) (fun k => k = g) :=
  ((((set_ch _ _ _ _).trans (set_ch _ _ _ _) (fun _ _ e => e)).trans (set_ch _ _ _ _) (fun _ _ e => e)).trans (set_ch _ _ _ _) (fun _ _ e => e)).trans (set_ch _ _ _ _) (fun _ _ e => e)
theorem OwnLL.ch {w w' : World} {base : Nat} {v : Value} {lss : List (List LbT)} {S : Nat → Prop} (h : OwnLL w base v lss) (hc : Ch w w' S) (hS : ∀ k, S k → k < base) : OwnLL w' base v lss := by
  obtain ⟨vs, h1, h2, h3⟩ := h
  refine ⟨vs, row_ch h1 hc (fun k hk e => ?_), h2, fun j => row_ch (h3 j) hc (fun k hk e => ?_)⟩
  · have := (h1.lt k hk).1
    have := hS k e
    omega
  · have := ((h3 j).lt k hk).1
    have := hS k e
    omega
theorem OwnLL.shape {w : World} {base : Nat} {v : Value} {lss : List (List LbT)} (h : OwnLL w base v lss) : ∃ a c, v = .slice a lss.length c := by
  obtain ⟨vs, h1, h2, -⟩ := h
  obtain ⟨a, c, e⟩ := h1.shape
  exact ⟨a, c, by rw [e, h2]⟩
/-- short enough to be copied -/
def LLs (lss : List (List LbT)) : Prop := lss.length ≤ 6000000000000 ∧ ∀ j, (lss.getD j []).length ≤ 4398046511104
set_option maxRecDepth 8000 in
set_option maxHeartbeats 6400000 in
theorem copyM_any (w : World) (m : MkR) (f s : Value) (hf : RdLL w f m.fir) (hs : RdLL w s m.res) (lf : LLs m.fir) (ls : LLs m.res) :
    Calls Tryz.prog 42 #[markV m f s] w fun e w' => ∃ f' s', e = .returned (markV m f' s') ∧ OwnLL w' (w.heap.size + 2) f' m.fir ∧ OwnLL w' (w.heap.size + 2) s' m.res ∧ w.grownBy w' none := by
  obtain ⟨br, hbr⟩ : ∃ br, br = ByteArray.mk ⟨m.rcv⟩ := ⟨_, rfl⟩
  obtain ⟨bk, hbk⟩ : ∃ bk, bk = ByteArray.mk ⟨m.key⟩ := ⟨_, rfl⟩
  obtain ⟨tm, htm⟩ : ∃ tm, tm = m.tim := ⟨_, rfl⟩
  have HM : Hid (∀ f s, markV m f s = .agg #[.string br, .string bk, .int .i64 tm, f, s]) := fun f s => by rw [hbr, hbk, htm]; rfl
  rw [HM.out f s]
  clear hbr hbk htm
  obtain ⟨fa, fc, e1, -⟩ := hf.shape
  obtain ⟨sa, sc, e2, -⟩ := hs.shape
  subst e1 e2
  have HV := hidJ (And.intro hf (And.intro hs (And.intro lf ls)))
  clear hf hs lf ls
  generalize m.fir.length = nf at *
  generalize m.res.length = ns at *
  have HC : Hid (Calls Tryz.prog 74 #[.slice fa nf fc] ((w.alloc (.cells #[.string br, .string bk, .int .i64 tm, .slice fa nf fc, .slice sa ns sc] 34)).alloc (.cells #[.string ⟨#[]⟩, .string ⟨#[]⟩, .int .i64 0, .slice none 0 0, .slice none 0 0] 34)) fun e w' => ∃ a' n' c', e = .returned (.slice a' n' c') ∧ Hid (OwnLL w' (w.heap.size + 2) (.slice a' n' c') m.fir ∧ w.grownBy w' none ∧ w.heap.size + 2 ≤ w'.heap.size ∧ B5 w' w.heap.size 34 (.string br) (.string bk) (.int .i64 tm) (.slice fa nf fc) (.slice sa ns sc) ∧ B5 w' (w.heap.size + 1) 34 (.string ⟨#[]⟩) (.string ⟨#[]⟩) (.int .i64 0) (.slice none 0 0) (.slice none 0 0))) := by
    have k1 := World.grownBy_alloc w (.cells #[.string br, .string bk, .int .i64 tm, .slice fa nf fc, .slice sa ns sc] 34) none
    have k2 := World.grownBy_alloc (w.alloc (.cells #[.string br, .string bk, .int .i64 tm, .slice fa nf fc, .slice sa ns sc] 34)) (.cells #[.string ⟨#[]⟩, .string ⟨#[]⟩, .int .i64 0, .slice none 0 0, .slice none 0 0] 34) none
    refine (copySets_any _ _ m.fir (HV.out.1.keep (gb_none k1 k2)) HV.out.2.2.1.1 HV.out.2.2.1.2).mono ?_
    rintro e w' ⟨v', rfl, q1, q2⟩
    obtain ⟨a', c', e'⟩ := q1.shape
    subst e'
    have x0 := ((B5.new w 34 (.string br) (.string bk) (.int .i64 tm) (.slice fa nf fc) (.slice sa ns sc)).keep k2).keep q2
    have x1 := (B5.new (w.alloc (.cells #[.string br, .string bk, .int .i64 tm, .slice fa nf fc, .slice sa ns sc] 34)) 34 (.string ⟨#[]⟩) (.string ⟨#[]⟩) (.int .i64 0) (.slice none 0 0) (.slice none 0 0)).keep q2
    have z2 := q2.size
    rw [World.size_alloc] at x1
    rw [World.size_alloc, World.size_alloc] at q1 z2
    exact ⟨a', _, c', rfl, q1, gb_none (gb_none k1 k2) q2, z2, x0, x1⟩
  go_enter Tryz.func42, Tryz.ntmps42
  go_wp2_with fail
  refine HC.out.mono ?_
  rintro e w1 ⟨a1, n1, c1, rfl, H1⟩
  clear HC
  have hB := H1.out.2.2.2.1
  obtain ⟨-, -, -, b3, b4⟩ := hB.cells
  obtain ⟨-, -, -, f3, -⟩ := hB.froz
  have hch := set_ch w1 w.heap.size 3 (.slice a1 n1 c1)
  have hB2 := hB.set3 (.slice a1 n1 c1)
  have hD2 := H1.out.2.2.2.2.ch hch (by omega)
  have gw := gb_ch H1.out.2.1 hch (fun k e => by omega)
  have hO2 := H1.out.1.ch hch (fun k e => by omega)
  have hz2 : w.heap.size + 2 ≤ (w1.setCell ⟨w.heap.size, 3, none⟩ (.slice a1 n1 c1)).heap.size := by have := H1.out.2.2.1; simpa using this
  have HC : Hid (Calls Tryz.prog 74 #[.slice sa ns sc] (w1.setCell ⟨w.heap.size, 3, none⟩ (.slice a1 n1 c1)) fun e w' => ∃ a' n' c', e = .returned (.slice a' n' c') ∧ Hid (OwnLL w' (w.heap.size + 2) (.slice a' n' c') m.res ∧ OwnLL w' (w.heap.size + 2) (.slice a1 n1 c1) m.fir ∧ w.grownBy w' none ∧ B5 w' w.heap.size 34 (.string br) (.string bk) (.int .i64 tm) (.slice a1 n1 c1) (.slice sa ns sc) ∧ B5 w' (w.heap.size + 1) 34 (.string ⟨#[]⟩) (.string ⟨#[]⟩) (.int .i64 0) (.slice none 0 0) (.slice none 0 0))) := by
    refine (copySets_any _ _ m.res (HV.out.2.1.keep gw) HV.out.2.2.2.1 HV.out.2.2.2.2).mono ?_
    rintro e w' ⟨v', rfl, q1, q2⟩
    obtain ⟨a', c', e'⟩ := q1.shape
    subst e'
    exact ⟨a', _, c', rfl, q1.mono hz2, hO2.keep q2, gb_none gw q2, hB2.keep q2, hD2.keep q2⟩
  clear hB hch hB2 hD2 gw hO2 hz2
  go_wp2_with fail
  refine HC.out.mono ?_
  rintro e w2 ⟨a2, n2, c2, rfl, H2⟩
  clear HC b3 b4 f3
  obtain ⟨d0, d1, d2, d3, d4⟩ := H2.out.2.2.2.1.cells
  obtain ⟨f0, f1, f2, f3, f4⟩ := H2.out.2.2.2.1.froz
  obtain ⟨i0, i1, i2, i3, i4⟩ := H2.out.2.2.2.2.cells
  obtain ⟨j0, j1, j2, j3, j4⟩ := H2.out.2.2.2.2.froz
  go_wp2
  have HB : Hid (B5 (w2.setCell ⟨w.heap.size, 4, none⟩ (.slice a2 n2 c2)) (w.heap.size + 1) 34 (.string ⟨#[]⟩) (.string ⟨#[]⟩) (.int .i64 0) (.slice none 0 0) (.slice none 0 0)) := H2.out.2.2.2.2.ch (set_ch _ _ _ _) (by omega)
  refine bodyPost_ret (results_cell_row rfl _ _ (w.heap.size + 1) _ _ _ _ rfl (set5_at HB.out) Tryz.underlying34 rfl (by kernel_rfl)) rfl ?_
  have k1 := set_ch w2 w.heap.size 4 (.slice a2 n2 c2)
  have k2 := set5_ch (w2.setCell ⟨w.heap.size, 4, none⟩ (.slice a2 n2 c2)) (w.heap.size + 1) (.string br) (.string bk) (.int .i64 tm) (.slice a1 n1 c1) (.slice a2 n2 c2)
  refine ⟨.slice a1 n1 c1, .slice a2 n2 c2, by rw [HM.out], (H2.out.2.1.ch k1 (fun k e => by omega)).ch k2 (fun k e => by omega), (H2.out.1.ch k1 (fun k e => by omega)).ch k2 (fun k e => by omega), gb_ch (gb_ch H2.out.2.2.1 k1 (fun k e => by omega)) k2 (fun k e => by omega)⟩
end Go.Proofs.YtpglhdnepmcahaaGreatDoor
