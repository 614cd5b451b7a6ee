/-
  OverStale: the law's walk.
-/
import Derived.Test.YtgpednikianneaaOvCs
namespace Go.Proofs.Ytgpednikianneaa
open Go.RowKit

/-! ### the names -/
def nmI : List Nat := [1, 8, 4, 10, 14, 11, 13, 5, 3, 2, 6, 7, 12, 9, 0]
def nmC : List Value := nmI.map fun k => .string (tabL.getD k tabZ).1
theorem nmC_at (z : Nat) (hz : z < 15) : nmI.getD z 0 < 15 ∧ nmC[z]? = some (.string (tabL.getD (nmI.getD z 0) tabZ).1) := by
  have : z = 0 ∨ z = 1 ∨ z = 2 ∨ z = 3 ∨ z = 4 ∨ z = 5 ∨ z = 6 ∨ z = 7 ∨ z = 8 ∨ z = 9 ∨ z = 10 ∨ z = 11 ∨ z = 12 ∨ z = 13 ∨ z = 14 := by omega
  rcases this with rfl | rfl | rfl | rfl | rfl | rfl | rfl | rfl | rfl | rfl | rfl | rfl | rfl | rfl | rfl <;> exact ⟨by decide, rfl⟩
set_option maxRecDepth 8000 in
set_option maxHeartbeats 3200000 in
theorem names_any (w : World) : Calls Try.prog 13 #[] w fun e w' => e = .returned (.slice (some ⟨w.heap.size, 0, none⟩) 15 15) ∧ w' = w.alloc (.cells nmC.toArray 9) := by
  go_enter Try.func13, Try.ntmps13
  go_wp2
  go_ret
  exact ⟨rfl, rfl⟩
theorem nm_cells (w : World) (z : Nat) (hz : z < 15) : ∀ wr, (w.alloc (.cells nmC.toArray 9)).grownBy wr none → wr.cell? ⟨w.heap.size, z, none⟩ = some (.string (tabL.getD (nmI.getD z 0) tabZ).1) := fun wr hg => by
  have hb := Go.heap_alloc_new w (.cells nmC.toArray 9)
  have hb2 := (hg.block _ (some_lt hb) (by simp)).trans hb
  rw [World.cell?, hb2]
  have := (nmC_at z hz).2
  simpa using this
/-! ### the stale markers between -/
def mrk (t : Int) : SmpT := (wrap64 (t - 1), 9218868437227405314)
def gapB (l : List SmpT) (z : Nat) : Bool := decide (0 < z) && decide (1 < wrap64 ((l.getD z smZ).1 - (l.getD (z - 1) smZ).1))
def moreN (l : List SmpT) : Nat → List SmpT
  | 0 => []
  | z + 1 => (moreN l z ++ (if gapB l z = true then [mrk (l.getD z smZ).1] else [])) ++ [l.getD z smZ]
theorem moreN_len (l : List SmpT) (z : Nat) : (moreN l z).length ≤ 2 * z := by
  induction z with
  | zero => exact Nat.le_refl _
  | succ z ih =>
    unfold moreN
    rw [List.length_append, List.length_append]
    split <;> simp <;> omega
theorem stl_mrk (t : Int) : stl (mrk t) = true := by
  unfold stl mrk
  exact decide_eq_true rfl
theorem live_app (l m : List SmpT) : live (l ++ m) = live l ++ live m := List.filter_append ..
theorem moreN_live (l : List SmpT) (z : Nat) (hz : z ≤ l.length) : live (moreN l z) = live (l.take z) := by
  induction z with
  | zero => rfl
  | succ z ih =>
    unfold moreN
    rw [live_app, live_app, ih (by omega), take_snocS (by omega), live_app]
    have : live (if gapB l z = true then [mrk (l.getD z smZ).1] else []) = [] := by
      split
      · unfold live
        simp [stl_mrk]
      · rfl
    rw [this, List.append_nil]
theorem moreN_in (l : List SmpT) (hin : SmIn l) (z : Nat) (hz : z ≤ l.length) : SmIn (moreN l z) := by
  induction z with
  | zero => intro x hx; cases hx
  | succ z ih =>
    intro x hx
    unfold moreN at hx
    rcases List.mem_append.1 hx with hx | hx
    · rcases List.mem_append.1 hx with hx | hx
      · exact ih (by omega) x hx
      · split at hx
        · rw [List.mem_singleton] at hx
          subst hx
          refine ⟨?_, show (9218868437227405314 : Nat) < 18446744073709551616 by decide⟩
          unfold mrk
          dsimp only
          unfold wrap64
          omega
        · cases hx
    · rw [List.mem_singleton] at hx
      subst hx
      exact hin _ (getS_mem (by omega))
theorem OwnP.push {w wr X : World} {vm : Value} {m : List SmpT} (x : SmpT) (ho : OwnP wr w.heap.size vm m) (hw : w.grownBy wr none) (hm : m.length ≤ 8796093022208) (hX : wr.grownBy X none)
    (hh : X.heap = (wr.alloc (.cells #[.int .i64 x.1, .float .f64 x.2] 33)).heap) (ty : TypeId) :
    ∃ a1 c1 w', (Builtin.append_ #[28, 28] ty #[vm, .slice (some ⟨wr.heap.size, 0, none⟩) 1 1]).run Try.prog X = .ok (.slice a1 (m.length + 1) c1) w' ∧ OwnP w' w.heap.size (.slice a1 (m.length + 1) c1) (m ++ [x]) ∧ w.grownBy w' none := by
  obtain ⟨i0, hi, hz0, hz1, hz2⟩ := info_parts infoSm
  have hbx : X.heap[wr.heap.size]? = some (.cells #[.int .i64 x.1, .float .f64 x.2] 33 (0, 0)) := by
    rw [hh]
    exact Go.heap_alloc_new wr _
  have hrd : RdC X (some ⟨wr.heap.size, 0, none⟩) [.int .i64 x.1, .float .f64 x.2] := fun j u hj => by
    refine ⟨_, rfl, ?_⟩
    rw [Go.WideShapes.add_plain, World.cell?, hbx]
    simpa using hj
  have ho2 := ho.keep hX
  obtain ⟨v', w', hrun, h2, h3⟩ := run_appH X ty 28 33 i0 _ 2 16 w.heap.size Try.underlying28 hi hz0 hz1 hz2 rfl (by decide) vm m.length _ ho2 (some ⟨wr.heap.size, 0, none⟩) 1 1 [.int .i64 x.1, .float .f64 x.2] rfl hrd (fun h => by cases h) (by intro u hu; simp only [List.mem_cons, List.not_mem_nil, or_false] at hu; rcases hu with rfl | rfl <;> rfl) (by omega) (by omega) ((gb_none hw hX).size)
  have hO : OwnP w' w.heap.size v' (m ++ [x]) := by
    unfold OwnP
    rw [smC_app, List.length_append]
    exact h2
  obtain ⟨a1, c1, rfl⟩ : ∃ a c, v' = .slice a (m.length + 1) c := by
    obtain ⟨a, c, e⟩ := hO.shape
    exact ⟨a, c, by rw [e, List.length_append]; rfl⟩
  refine ⟨a1, c1, w', hrun, hO, gb_new (gb_none hw hX) h3.1 (fun k hk => ?_)⟩
  rcases ho.2 with ⟨rfl, _⟩ | ⟨g, cap, cur, rfl, hbg, _⟩
  · simp [Value.ownBlock] at hk
  · simp [Value.ownBlock] at hk
    omega
/-- append by a run that is known, at a step of a region that draws -/
theorem step_appRun {w : World} {ops : Array Oper} {o : Oper} {a : Act} {K : Act → World → Prop} {Q : Exit → Act → World → Prop} {E : Prop} (hgd : o.guard = none) (s x : Operand) (T : TypeId)
    (ho : o.op = .call { callee := .builtin .append, args := #[s, x], argTypes := #[T, T] }) (vs vx : Value) (hs : a.eval s = vs) (hx : a.eval x = vx) (n : Nat) (P : Option Addr → Nat → World → Prop)
    (hr : ∃ a1 c1 w', (Builtin.append_ #[T, T] o.type #[vs, vx]).run Try.prog w = .ok (.slice a1 n c1) w' ∧ P a1 c1 w') (h : ∀ a1 c1 w', P a1 c1 w' → K (a.put o.dst (.slice a1 n c1)) w') :
    if Region.wanted o (yielded ops a.tmps) = true then Oper.wp Try.prog o a w K Q else E := by
  have hw : Region.wanted o (yielded ops a.tmps) = true := by simp [Region.wanted, hgd]
  rw [if_pos hw]
  obtain ⟨a1, c1, w', hrun, h2⟩ := hr
  unfold Oper.wp execOp
  simp only [ho, resolve, invoke, builtin, Sem.run_bind, Sem.run_pure, Result.andThen_ok, List.map_toArray, List.map_cons, List.map_nil, hs, hx, hrun]
  exact h a1 c1 w' h2
/-- math.Float64frombits, at a step of a region that draws -/
theorem step_ff {w : World} {ops : Array Oper} {o : Oper} {a : Act} {K : Act → World → Prop} {Q : Exit → Act → World → Prop} {E : Prop} (hgd : o.guard = none) (x : Operand)
    (ho : o.op = .call { callee := .value (.func 12), args := #[x], argTypes := #[36] }) (V : Nat) (hx : a.eval x = .int .u64 (V : Int)) (h : K (a.put o.dst (.float .f64 V)) w) :
    if Region.wanted o (yielded ops a.tmps) = true then Oper.wp Try.prog o a w K Q else E := by
  have hw : Region.wanted o (yielded ops a.tmps) = true := by simp [Region.wanted, hgd]
  rw [if_pos hw]
  have hff := fromBits_run V w
  have hfn : a.eval (.func 12) = .func (.func 12) #[] #[] := rfl
  unfold Oper.wp execOp
  simp only [ho, resolve, invoke, Sem.run_bind, List.map_toArray, List.map_cons, List.map_nil, hfn, hx]
  simp only [Deferred.ofValue, Sem.run_pure, Result.andThen_ok, List.append_toArray, List.nil_append, List.append_nil, hff]
  exact h
set_option maxRecDepth 8000 in
set_option maxHeartbeats 25600000 in
theorem stale_walk (v : Value) (l : List SmpT) (frm upt : Int) (q : Nat) (w : World) (hv : RdP w v l) (hl : l.length ≤ 1048576) (hin : SmIn l) :
    Calls Try.prog 6 #[v, .int .i64 frm, .int .i64 upt, .float .f64 q] w fun e w' => e = .returned (.bool true) ∧ Below w.heap.size w w' := by
  have HV := hidJ hv
  obtain ⟨va, vc, rfl, hc1, hc2, -⟩ := hv
  unfold maxLen at hc2
  have HE : Hid (∀ j, j < l.length → ∀ wr, w.grownBy wr none → ∃ b o, va = some ⟨b, o, none⟩ ∧ wr.cell? ⟨b, o + j * 2, none⟩ = some (.int .i64 (l.getD j smZ).1) ∧ wr.cell? ⟨b, o + j * 2 + 1, none⟩ = some (.float .f64 (l.getD j smZ).2)) := fun j hj wr hg => by
    obtain ⟨a', c', e, -, -, h3⟩ := HV.out.keep hg
    obtain ⟨b, o, e1, d0, d1⟩ := h3 j hj
    simp only [Value.slice.injEq] at e
    exact ⟨b, o, e.1.trans e1, d0, d1⟩
  have HA : Hid (∀ z, z < 15 → ∃ a ok er, (er = 0 ∨ er = 1) ∧ Ans (tabL.getD (nmI.getD z 0) tabZ).1 (live l) frm upt q a ok er) := fun z hz => call_one _ (nmC_at z hz).1 (live l) (live_in hin) frm upt q
  have HIn := hidJ hin
  have H0 : Hid (OwnP w w.heap.size (.slice none 0 0) (moreN l 0) ∧ w.grownBy w none) := ⟨OwnP.nil _ _, gb_refl _ _⟩
  have HK : Hid (∀ W, w.grownBy W none → Calls Try.prog 10 #[] W fun e w' => e = .returned (.bool true) ∧ Hid (Below w.heap.size w w')) := fun W hW => (known_any W).mono (by
    rintro e w' ⟨q1, q2⟩
    exact ⟨q1, gb_below (gb_none hW q2)⟩)
  obtain ⟨N, hN⟩ : ∃ N, l.length = N := ⟨_, rfl⟩
  have HN := hidJ hN
  rw [hN] at HE hc1 hl ⊢
  clear hN hin
  go_enter Try.func6, Try.ntmps6
  go_wp2
  go_loopw [9, 10] (fun um ui wr => ∃ z : Nat, z ≤ N ∧ ui = .int .i64 z ∧ Hid (OwnP wr w.heap.size um (moreN l z) ∧ w.grownBy wr none)) (fun _ ui _ => N - (intOf ui).toNat)
  case atStart => exact ⟨0, by omega, rfl, H0.out⟩
  case round =>
    obtain ⟨z, hzN, rfl, hr⟩ := hrel
    clear H0
    have hlen := moreN_len l z
    by_cases hzl : z < N
    · have hzi : (z : Int) < (N : Int) := by omega
      have hq1 : ¬ N ≤ z := by omega
      clear HA HK HIn HV
      by_cases hz0 : z = 0
      · have hzi0 : ¬ (0 : Int) < (z : Int) := by omega
        have hzd0 : decide (0 < z) = false := decide_eq_false (by omega)
        obtain ⟨mm, hmm⟩ : ∃ mm, mm = moreN l z := ⟨_, rfl⟩
        have HMm : Hid (moreN l (z + 1) = mm ++ [l.getD z smZ]) := by
          have hg : gapB l z = false := by unfold gapB; rw [hzd0]; rfl
          show (moreN l z ++ (if gapB l z = true then [mrk (l.getD z smZ).1] else [])) ++ [l.getD z smZ] = _
          rw [hg, if_neg (by simp), List.append_nil, hmm]
        have HLm : Hid (mm.length ≤ 8796093022208) := by rw [hmm]; exact (show _ ≤ _ by omega)
        have HQ : Hid (∀ n : Nat, OwnP (wr.drewN n) w.heap.size u9 mm ∧ w.grownBy (wr.drewN n) none) := fun n => by
          have hg : wr.grownBy (wr.drewN n) none := ⟨rfl, rfl, rfl, Nat.le_refl _, fun _ _ _ => rfl⟩
          rw [hmm]
          exact ⟨hr.out.1.keep hg, gb_none hr.out.2 hg⟩
        clear hr hmm hlen hz0
        go_wp2
        go_quiet (fail)
        have H5 := hidJ (HQ.out nq)
        clear HQ hzi0 hzd0
        generalize wr.drewN nq = W5 at *
        -- region 7: the sample itself; world W5, row vm holding mm
        obtain ⟨ba, oa, heqa, e0a, e1a⟩ := HE.out z hzl W5 H5.out.2
        first
          | subst heqa
          | (simp only [Option.some.injEq, Addr.mk.injEq, and_true] at heqa
             obtain ⟨rfl, rfl⟩ := heqa)
        obtain ⟨a6, c6, w6, hrun6, ho6, hg6⟩ := OwnP.push (w := w) (l.getD z smZ) H5.out.1 H5.out.2 HLm.out (X := W5.alloc (.cells #[.int .i64 (l.getD z smZ).1, .float .f64 (l.getD z smZ).2] 33)) (alloc_gb _ _) rfl 28
        have HRuna := hidJ hrun6
        have HO6a : Hid (OwnP w6 w.heap.size (.slice a6 (mm.length + 1) c6) (moreN l (z + 1)) ∧ w.grownBy w6 none) := ⟨by rw [HMm.out]; exact ho6, hg6⟩
        clear hrun6 ho6 hg6 H5 HLm HMm HE
        generalize mm.length = K at *
        generalize (l.getD z smZ).1 = tz at *
        generalize (l.getD z smZ).2 = fz at *
        go_wp2_with (at_builtin; refine wp_appRun rfl _ _ 28 rfl _ _ _ rfl rfl HRuna.out ?_)
        go_wp2
        go_roundw
        case rel => exact ⟨z + 1, by omega, by go_num, HO6a.out⟩
        case measure => simp [intOf]; omega
      · obtain ⟨p, hp⟩ : ∃ p, z = p + 1 := ⟨z - 1, by omega⟩
        have hzi1 : (0 : Int) < (z : Int) := by omega
        have hz2 : 0 < z := by omega
        have hwz : IntKind.i64.wrap ((z : Int) - 1) = (p : Int) := by rw [IntKind.wrap_i64]; omega
        have hp1 : ¬ N ≤ p := by omega
        have hp2 : p < N := by omega
        obtain ⟨b, o, hva, d0, -⟩ := HE.out z hzl wr hr.out.2
        obtain ⟨b', o', hva', d2, -⟩ := HE.out p hp2 wr hr.out.2
        rw [hva] at hva'
        simp only [Option.some.injEq, Addr.mk.injEq, and_true] at hva'
        obtain ⟨rfl, rfl⟩ := hva'
        subst hva
        obtain ⟨D, hD⟩ : ∃ D, IntKind.i64.wrap ((l.getD z smZ).1 - (l.getD p smZ).1) = D := ⟨_, rfl⟩
        have hgp : gapB l z = decide (1 < D) := by
          unfold gapB
          rw [decide_eq_true hz2, Bool.true_and, ← hD, show z - 1 = p by omega]
          have ew : ∀ x : Int, IntKind.i64.wrap x = wrap64 x := fun x => by first | rfl | exact IntKind.wrap_i64 x | (rw [IntKind.wrap_i64]; unfold wrap64; omega)
          rw [ew]
        by_cases h1D : (1 : Int) < D
        · obtain ⟨mm, hmm⟩ : ∃ mm, mm = moreN l z ++ [mrk (l.getD z smZ).1] := ⟨_, rfl⟩
          have HMm : Hid (moreN l (z + 1) = mm ++ [l.getD z smZ]) := by
            show (moreN l z ++ (if gapB l z = true then [mrk (l.getD z smZ).1] else [])) ++ [l.getD z smZ] = _
            rw [hgp, decide_eq_true h1D, if_pos rfl, hmm]
          have HLm : Hid (mm.length ≤ 8796093022208) := by
            rw [hmm, List.length_append]
            exact (show _ + 1 ≤ _ by omega)
          have HQ : Hid (∀ n : Nat, OwnP (wr.drewN n) w.heap.size u9 (moreN l z) ∧ w.grownBy (wr.drewN n) none) := fun n => by
            have hg : wr.grownBy (wr.drewN n) none := ⟨rfl, rfl, rfl, Nat.le_refl _, fun _ _ _ => rfl⟩
            exact ⟨hr.out.1.keep hg, gb_none hr.out.2 hg⟩
          have HP : Hid (∀ W4, OwnP W4 w.heap.size u9 (moreN l z) → w.grownBy W4 none → ∀ X, W4.grownBy X none → X.heap = (W4.alloc (.cells #[.int .i64 (wrap64 ((l.getD z smZ).1 - 1)), .float .f64 9218868437227405314] 33)).heap →
              ∃ a1 c1 w', (Builtin.append_ #[28, 28] 28 #[u9, .slice (some ⟨W4.heap.size, 0, none⟩) 1 1]).run Try.prog X = .ok (.slice a1 mm.length c1) w' ∧ Hid (OwnP w' w.heap.size (.slice a1 mm.length c1) mm ∧ w.grownBy w' none)) := fun W4 h1 h2 X hX hh => by
            have hlm : mm.length = (moreN l z).length + 1 := by rw [hmm, List.length_append]; rfl
            rw [hlm]
            rw [hmm]
            exact OwnP.push (mrk (l.getD z smZ).1) h1 h2 (by omega) hX hh _
          have ew : ∀ x : Int, IntKind.i64.wrap x = wrap64 x := fun x => by first | rfl | exact IntKind.wrap_i64 x | (rw [IntKind.wrap_i64]; unfold wrap64; omega)
          have hTm : IntKind.i64.wrap ((l.getD z smZ).1 - 1) = wrap64 ((l.getD z smZ).1 - 1) := ew _
          have HE4 := hidJ (HE.out z hzl)
          clear hr hmm hlen hz0 hp hgp ew
          generalize hK : mm.length = K at *
          have HKm := hidJ hK
          clear hK
          generalize wrap64 ((l.getD z smZ).1 - 1) = Tm at *
          generalize htz : (l.getD z smZ).1 = tz0 at hD d0 hTm HE4
          clear htz
          generalize (l.getD p smZ).1 = tp0 at hD d2
          go_wp2
          go_quiet (fail)
          have H4 := hidJ (HQ.out nq)
          clear HQ hzi1 hz2 hwz hp1 hp2 d0 d2 hD h1D
          generalize wr.drewN nq = W4 at *
          have HPU := hidJ (HP.out W4 H4.out.1 H4.out.2)
          obtain ⟨b9, o9, heq9, d4, -⟩ := HE4.out W4 H4.out.2
          simp only [Option.some.injEq, Addr.mk.injEq, and_true] at heq9
          obtain ⟨rfl, rfl⟩ := heq9
          clear HP H4 HE4
          go_wp2
          go_region_law
            (first
              | (refine step_ff rfl (.const (.int .u64 9218868437227405314)) rfl 9218868437227405314 (by simp [Act.eval]) ?_)
              | (refine step_appRun rfl (.tmp 42) (.tmp 51) 28 rfl _ _ (by simp [Act.eval]) (by simp [Act.eval]) K (fun a3 c3 W3 => Hid (OwnP W3 w.heap.size (.slice a3 K c3) mm ∧ w.grownBy W3 none)) (HPU.out _ (by first | exact gb_none (World.grownBy_alloc _ _ none) (gb_drew _ none) | exact World.grownBy_alloc _ _ none | exact gb_none (gb_drew _ none) (World.grownBy_alloc _ _ none)) rfl) ?_; rintro a5 W5c W5 H5))
          all_goals
            have HLm2 : Hid (mm.length ≤ 8796093022208) := by rw [HKm.out]; exact HLm.out
            clear HPU d4 hTm HKm HLm
            have HLm := hidJ HLm2.out
            clear HLm2
            -- region 7: the sample itself; world W5, row vm holding mm
            obtain ⟨bc, oc, heqc, e0c, e1c⟩ := HE.out z hzl W5 H5.out.2
            first
              | subst heqc
              | (simp only [Option.some.injEq, Addr.mk.injEq, and_true] at heqc
                 obtain ⟨rfl, rfl⟩ := heqc)
            obtain ⟨a6, c6, w6, hrun6, ho6, hg6⟩ := OwnP.push (w := w) (l.getD z smZ) H5.out.1 H5.out.2 HLm.out (X := W5.alloc (.cells #[.int .i64 (l.getD z smZ).1, .float .f64 (l.getD z smZ).2] 33)) (alloc_gb _ _) rfl 28
            have HRunc := hidJ hrun6
            have HO6c : Hid (OwnP w6 w.heap.size (.slice a6 (mm.length + 1) c6) (moreN l (z + 1)) ∧ w.grownBy w6 none) := ⟨by rw [HMm.out]; exact ho6, hg6⟩
            clear hrun6 ho6 hg6 H5 HLm HMm HE
            generalize mm.length = K at *
            generalize (l.getD z smZ).1 = tz at *
            generalize (l.getD z smZ).2 = fz at *
            go_wp2_with (at_builtin; refine wp_appRun rfl _ _ 28 rfl _ _ _ rfl rfl HRunc.out ?_)
            go_wp2
            go_roundw
            case rel => exact ⟨z + 1, by omega, by go_num, HO6c.out⟩
            case measure => simp [intOf]; omega
        · obtain ⟨mm, hmm⟩ : ∃ mm, mm = moreN l z := ⟨_, rfl⟩
          have HMm : Hid (moreN l (z + 1) = mm ++ [l.getD z smZ]) := by
            show (moreN l z ++ (if gapB l z = true then [mrk (l.getD z smZ).1] else [])) ++ [l.getD z smZ] = _
            rw [hgp, decide_eq_false h1D, if_neg (by simp), List.append_nil, hmm]
          have HLm : Hid (mm.length ≤ 8796093022208) := by rw [hmm]; exact (show _ ≤ _ by omega)
          have HQ : Hid (∀ n : Nat, OwnP (wr.drewN n) w.heap.size u9 mm ∧ w.grownBy (wr.drewN n) none) := fun n => by
            have hg : wr.grownBy (wr.drewN n) none := ⟨rfl, rfl, rfl, Nat.le_refl _, fun _ _ _ => rfl⟩
            rw [hmm]
            exact ⟨hr.out.1.keep hg, gb_none hr.out.2 hg⟩
          clear hr hmm hlen hz0 hp hgp
          generalize (l.getD z smZ).1 = tz0 at hD d0
          generalize (l.getD p smZ).1 = tp0 at hD d2
          have h1Dd : decide ((1 : Int) < D) = false := decide_eq_false h1D
          go_wp2
          go_quiet (fail)
          have H5 := hidJ (HQ.out nq)
          clear HQ hzi1 hz2 hwz hp1 hp2 d0 d2 hD h1D h1Dd
          generalize wr.drewN nq = W5 at *
          -- region 7: the sample itself; world W5, row vm holding mm
          obtain ⟨bb, ob, heqb, e0b, e1b⟩ := HE.out z hzl W5 H5.out.2
          first
            | subst heqb
            | (simp only [Option.some.injEq, Addr.mk.injEq, and_true] at heqb
               obtain ⟨rfl, rfl⟩ := heqb)
          obtain ⟨a6, c6, w6, hrun6, ho6, hg6⟩ := OwnP.push (w := w) (l.getD z smZ) H5.out.1 H5.out.2 HLm.out (X := W5.alloc (.cells #[.int .i64 (l.getD z smZ).1, .float .f64 (l.getD z smZ).2] 33)) (alloc_gb _ _) rfl 28
          have HRunb := hidJ hrun6
          have HO6b : Hid (OwnP w6 w.heap.size (.slice a6 (mm.length + 1) c6) (moreN l (z + 1)) ∧ w.grownBy w6 none) := ⟨by rw [HMm.out]; exact ho6, hg6⟩
          clear hrun6 ho6 hg6 H5 HLm HMm HE
          generalize mm.length = K at *
          generalize (l.getD z smZ).1 = tz at *
          generalize (l.getD z smZ).2 = fz at *
          go_wp2_with (at_builtin; refine wp_appRun rfl _ _ 28 rfl _ _ _ rfl rfl HRunb.out ?_)
          go_wp2
          go_roundw
          case rel => exact ⟨z + 1, by omega, by go_num, HO6b.out⟩
          case measure => simp [intOf]; omega
    · have hzi : ¬ (z : Int) < (N : Int) := by omega
      have hzn : z = N := by omega
      subst hzn
      have hlive : live (moreN l z) = live l := by rw [moreN_live l z (by rw [HN.out]; exact Nat.le_refl _), ← HN.out, List.take_length]
      have hmin := moreN_in l HIn.out z (by rw [HN.out]; exact Nat.le_refl _)
      have HL : Hid (∀ W, w.grownBy W none → ∀ nm a ok er, Ans nm (live l) frm upt q a ok er → Calls Try.prog 11 #[.string nm, .slice va z vc, .int .i64 frm, .int .i64 upt, .float .f64 q] W fun e w' => e = .returned (.tuple #[.float .f64 a, .bool ok, .int .i64 er]) ∧ Hid (W.grownBy w' none)) := fun W hW nm a ok er hA => by
        have := hA W _ l (HV.out.keep hW) (by rw [HN.out]; omega) HIn.out rfl
        rw [HN.out] at this
        exact this
      have HM : Hid (∀ W, wr.grownBy W none → ∀ nm a ok er, Ans nm (live l) frm upt q a ok er → Calls Try.prog 11 #[.string nm, u9, .int .i64 frm, .int .i64 upt, .float .f64 q] W fun e w' => e = .returned (.tuple #[.float .f64 a, .bool ok, .int .i64 er]) ∧ Hid (W.grownBy w' none)) := fun W hW nm a ok er hA =>
        hA W _ (moreN l z) (hr.out.1.rd.keep hW) (by omega) hmin hlive
      have HG := hidJ hr.out.2
      have HNm : Hid (Calls Try.prog 13 #[] wr fun e w' => e = .returned (.slice (some ⟨wr.heap.size, 0, none⟩) 15 15) ∧ Hid (wr.grownBy w' none ∧ ∀ k, k < 15 → ∀ W, w'.grownBy W none → W.cell? ⟨wr.heap.size, k, none⟩ = some (.string (tabL.getD (nmI.getD k 0) tabZ).1))) := (names_any wr).mono (by
        rintro e w' ⟨rfl, rfl⟩
        exact ⟨rfl, alloc_gb _ _, fun k hk W hW => nm_cells wr k hk W hW⟩)
      clear hr HE HN HIn HV hlive hmin hlen hl hc1 hc2
      generalize wr.heap.size = B at *
      go_wp2_with fail
      refine HNm.out.mono ?_
      rintro e w7 ⟨rfl, q7⟩
      have HG7 : Hid (wr.grownBy w7 none ∧ w.grownBy w7 none) := ⟨q7.out.1, gb_none HG.out q7.out.1⟩
      have HC := hidJ q7.out.2
      have HM7 : Hid (∀ W, w7.grownBy W none → ∀ nm a ok er, Ans nm (live l) frm upt q a ok er → Calls Try.prog 11 #[.string nm, u9, .int .i64 frm, .int .i64 upt, .float .f64 q] W fun e w' => e = .returned (.tuple #[.float .f64 a, .bool ok, .int .i64 er]) ∧ Hid (W.grownBy w' none)) := fun W hW => HM.out W (gb_none q7.out.1 hW)
      have HL7 : Hid (∀ W, w7.grownBy W none → ∀ nm a ok er, Ans nm (live l) frm upt q a ok er → Calls Try.prog 11 #[.string nm, .slice va z vc, .int .i64 frm, .int .i64 upt, .float .f64 q] W fun e w' => e = .returned (.tuple #[.float .f64 a, .bool ok, .int .i64 er]) ∧ Hid (W.grownBy w' none)) := fun W hW => HL.out W (gb_none HG7.out.2 hW)
      have HK7 : Hid (∀ W, w7.grownBy W none → Calls Try.prog 10 #[] W fun e w' => e = .returned (.bool true) ∧ Hid (Below w.heap.size w w')) := fun W hW => HK.out W (gb_none HG7.out.2 hW)
      clear HNm HG HM HL HK HG7 q7
      go_wp2
      go_loopw [12] (fun ui wr => ∃ k : Nat, k ≤ 15 ∧ ui = .int .i64 k ∧ Hid (w7.grownBy wr none)) (fun ui _ => 15 - (intOf ui).toNat)
      case atStart => exact ⟨0, by omega, rfl, gb_refl _ _⟩
      case round =>
        obtain ⟨k, hk15, rfl, hr⟩ := hrel
        by_cases hk : k < 15
        · have hki : (k : Int) < 15 := by omega
          have hkn : ¬ 15 ≤ k := by omega
          obtain ⟨a, ok, er, her, hans⟩ := HA.out k hk
          have HL1 := hidJ (HL7.out wr hr.out _ a ok er hans)
          have HM1 : Hid (∀ W, w7.grownBy W none → Calls Try.prog 11 #[.string (tabL.getD (nmI.getD k 0) tabZ).1, u9, .int .i64 frm, .int .i64 upt, .float .f64 q] W fun e w' => e = .returned (.tuple #[.float .f64 a, .bool ok, .int .i64 er]) ∧ Hid (W.grownBy w' none)) := fun W hW => HM7.out W hW _ a ok er hans
          have HBt : Hid (∀ W, Calls Try.prog 8 #[.float .f64 a, .float .f64 a] W fun e w' => e = .returned (.bool true) ∧ w' = W) := fun W => by
            have := bits_any W a a
            rw [decide_eq_true rfl] at this
            exact this
          have HCk : Hid (∀ W, w7.grownBy W none → W.cell? ⟨B, k, none⟩ = some (.string (tabL.getD (nmI.getD k 0) tabZ).1)) := fun W hW => HC.out k hk W hW
          clear HA HL7 HM7 HK7 HC hans
          generalize (tabL.getD (nmI.getD k 0) tabZ).1 = nm at *
          have c1 := HCk.out wr hr.out
          go_wp2_with fail
          refine HL1.out.mono ?_
          rintro e w8 ⟨rfl, q8⟩
          have HG8 := hidJ (gb_none hr.out q8.out)
          have c2 := HCk.out w8 HG8.out
          have HM8 := hidJ (HM1.out w8 HG8.out)
          clear HL1 HM1 HCk hr q8 c1
          go_wp2_with fail
          refine HM8.out.mono ?_
          rintro e w9 ⟨rfl, q9⟩
          have HG9 := hidJ (gb_none HG8.out q9.out)
          clear HM8 HG8 q9 c2
          rcases her with rfl | rfl
          · go_wp2_with fail
            refine (HBt.out _).mono ?_
            rintro e w10 ⟨rfl, rfl⟩
            clear HBt
            go_wp2
            go_roundw
            case rel => exact ⟨k + 1, by omega, by go_num, HG9.out⟩
            case measure => simp [intOf]; omega
          · clear HBt
            go_wp2
            go_roundw
            case rel => exact ⟨k + 1, by omega, by go_num, HG9.out⟩
            case measure => simp [intOf]; omega
        · have hki : ¬ (k : Int) < 15 := by omega
          have HKw := hidJ (HK7.out wr hr.out)
          clear HA HL7 HM7 HK7 HC hr
          go_wp2_with fail
          refine HKw.out.mono ?_
          rintro e w8 ⟨rfl, q8⟩
          clear HKw
          go_wp2
          go_ret
          exact ⟨rfl, q8.out⟩
end Go.Proofs.Ytgpednikianneaa
