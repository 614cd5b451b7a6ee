/-
  OverQuantiles: the law's walk, put together.
-/
import Derived.Test.YtgpednikianneaaLawOvQu
namespace Go.Proofs.Ytgpednikianneaa
open Go.RowKit Go.Shelf Go.Sort
attribute [local go_sem] fwor_cell fwor_frozen fwor_size

set_option maxRecDepth 8000 in
set_option maxHeartbeats 25600000 in
theorem quantiles_walk (q : Nat) (v : Value) (l : List Nat) (w : World) (hv : RdL w v l) (hin : ∀ x ∈ l, x < 18446744073709551616) (hl : l.length ≤ 17592186044416) :
    Calls Try.prog 3 #[.float .f64 q, v] w fun e w' => e = .returned (.bool true) ∧ Below w.heap.size w w' := by
  have HV := hidJ hv
  have HIn := hidJ hin
  obtain ⟨va, vc, rfl, ⟨hc1, hc0⟩, hc2, hc3⟩ := hv
  unfold maxLen at hc2
  have hrd : RdC w va (l.map flV) ∧ (va = none → l.length = 0 ∧ vc = 0) := by
    by_cases hl0 : l = []
    · subst hl0
      exact ⟨fun j u hj => by simp at hj, fun h => ⟨rfl, hc0 h⟩⟩
    · obtain ⟨b, o, rfl, h⟩ := HV.out.rdc (List.length_pos_iff.2 hl0)
      exact ⟨h, fun h => by cases h⟩
  have hb0 : OwnFl w w.heap.size (.slice none 0 0) [] := World.ownsRow_nil _ _ _ _
  obtain ⟨vo, w1, r1, o1, g1⟩ := OwnFl.app (w := w) hb0 (gb_refl _ _) hrd rfl (by simpa using hl) 23
  have o1 : OwnFl w1 w.heap.size vo l := o1
  obtain ⟨ao, co, rfl⟩ := o1.shape
  have HR1 := hidJ r1
  have HQ1 := hidJ (quE_any w1 q _ l o1.rd hin hl)
  have HQ2 : Hid (∀ W, w.grownBy W none → Calls Try.prog 9 #[.float .f64 q, .slice va l.length vc] W fun e w' => ∃ x, e = .returned (.float .f64 x) ∧ Hid (QuE q l x ∧ W.grownBy w' none)) := fun W hW => qref17_any W q _ l (HV.out.keep hW) hin hl
  have HQa : Hid (∀ W u m, RdL W u m → (∀ x ∈ m, x < 18446744073709551616) → m.length ≤ 17592186044416 → Calls Try.prog 7 #[.float .f64 q, u] W fun e w' => ∃ x, e = .returned (.float .f64 x) ∧ Hid (QuE q m x ∧ W.grownBy w' none)) := fun W u m h1 h2 h3 => quE_any W q u m h1 h2 h3
  have HQ0 : Hid (∀ W, w.grownBy W none → Calls Try.prog 7 #[.float .f64 0, .slice va l.length vc] W fun e w' => ∃ x, e = .returned (.float .f64 x) ∧ Hid (QuE 0 l x ∧ W.grownBy w' none)) := fun W hW => quE_any W 0 _ l (HV.out.keep hW) hin hl
  have HQ9 : Hid (∀ W, w.grownBy W none → Calls Try.prog 7 #[.float .f64 4607182418800017408, .slice va l.length vc] W fun e w' => ∃ x, e = .returned (.float .f64 x) ∧ Hid (QuE 4607182418800017408 l x ∧ W.grownBy w' none)) := fun W hW => quE_any W _ _ l (HV.out.keep hW) hin hl
  have HB : Hid (∀ x W, Calls Try.prog 8 #[.float .f64 x, .float .f64 x] W fun e w' => e = .returned (.bool true) ∧ w' = W) := fun x W => by
    have := bits_any W x x
    rw [decide_eq_true rfl] at this
    exact this
  have HK : Hid (∀ W, w.grownBy W none → Calls Try.prog 10 #[] W fun e w' => e = .returned (.bool true) ∧ Hid (Below w.heap.size w w')) := fun W hW => (known_any W).mono (by
    rintro e w' ⟨q1, q2⟩
    exact ⟨q1, gb_below (gb_none hW q2)⟩)
  have HO := hidJ o1
  have HG1 := hidJ g1
  obtain ⟨N, hN⟩ : ∃ N, l.length = N := ⟨_, rfl⟩
  have HN := hidJ hN
  rw [hN] at hl hc1 HR1 HQ1 HQ2 HQ0 HQ9 ⊢
  have HO : Hid (OwnFl w1 w.heap.size (.slice ao N co) l) := by rw [← hN]; exact HO.out
  have HV : Hid (RdL w (.slice va N vc) l) := by rw [← hN]; exact HV.out
  clear hN hrd hb0 r1 o1 g1 hin hc3 hc0
  go_enter Try.func3, Try.ntmps3
  go_wp2_with (at_builtin; refine wp_appRun rfl _ _ 23 rfl _ _ _ rfl rfl HR1.out ?_)
  refine HQ1.out.mono ?_
  rintro e w2 ⟨x, rfl, q2⟩
  have HG2 := hidJ (gb_none HG1.out q2.out.2)
  have HO2 := hidJ (HO.out.keep q2.out.2)
  have HE := hidJ q2.out.1
  have HQ22 := hidJ (HQ2.out w2 HG2.out)
  clear HQ1 HR1 HQ2 q2 HO HG1
  go_wp2_with fail
  refine HQ22.out.mono ?_
  rintro e w3 ⟨y, rfl, q3⟩
  obtain rfl : x = y := QuE.same HIn.out (List.Perm.refl _) HE.out q3.out.1
  have HG3 := hidJ (gb_none HG2.out q3.out.2)
  have HO3 := hidJ (HO2.out.keep q3.out.2)
  clear HQ22 q3 HO2 HG2
  go_wp2_with fail
  refine (HB.out x _).mono ?_
  rintro e w4 ⟨rfl, rfl⟩
  obtain ⟨y0, hy0⟩ : ∃ y0, IntKind.i64.wrap ((N : Int) - 1) = y0 := ⟨_, rfl⟩
  have HY0 : Hid (y0 + 1 = N) := by
    rw [← hy0, IntKind.wrap_i64]
    exact (show _ = _ by omega)
  have HS1 : Hid (OwnFl w4 w4.heap.size (.slice none 0 0) (l.drop N).reverse) := by
    rw [← HN.out, List.drop_length]
    exact World.ownsRow_nil _ _ _ _
  generalize w4 = W3 at *
  go_wp2
  go_loopw [7, 8] (fun ub ui wr => ∃ (z : Nat) (y : Int), z ≤ N ∧ ui = .int .i64 y ∧ Hid (y + 1 = z ∧ OwnFl wr W3.heap.size ub (l.drop z).reverse ∧ W3.grownBy wr none)) (fun _ ui _ => (intOf ui + 1).toNat)
  case atStart => exact ⟨N, y0, Nat.le_refl _, rfl, HY0.out, HS1.out, gb_refl _ _⟩
  case round =>
    obtain ⟨z, y, hzN, rfl, hr⟩ := hrel
    clear HS1 HY0 hy0
    by_cases hz0 : z = 0
    · obtain rfl : y = -1 := by have := hr.out.1; omega
      have HBk : Hid (OwnFl wr W3.heap.size u7 l.reverse) := by
        have := hr.out.2.1
        rw [hz0, List.drop_zero] at this
        exact this
      have HGw := hidJ (gb_none HG3.out hr.out.2.2)
      have HQb := hidJ (HQa.out wr u7 l.reverse HBk.out.rd (fun x hx => HIn.out x (List.mem_reverse.1 hx)) (by rw [List.length_reverse, HN.out]; exact hl))
      clear hr HO3 HQa HBk HG3
      go_wp2_with fail
      refine HQb.out.mono ?_
      rintro e w5 ⟨x2, rfl, q5⟩
      obtain rfl : x = x2 := QuE.same HIn.out (List.reverse_perm l).symm HE.out q5.out.1
      have HG5 := hidJ (gb_none HGw.out q5.out.2)
      clear HQb q5 HGw HE
      go_wp2_with fail
      refine (HB.out x _).mono ?_
      rintro e w6 ⟨rfl, rfl⟩
      clear HB
      by_cases hN0 : N = 0
      · have hNi : (N : Int) = 0 := by omega
        have HKw := hidJ (HK.out w6 HG5.out)
        clear HK HQ0 HQ9 HV HIn HN HG5
        subst hN0
        go_wp2_with fail
        refine HKw.out.mono ?_
        rintro e w8 ⟨rfl, q8⟩
        clear HKw
        go_wp2
        go_ret
        exact ⟨rfl, q8.out⟩
      · obtain ⟨a', c', e', -, -, h3⟩ := HV.out
        obtain ⟨b, o, rfl, -⟩ := h3 0 (by rw [HN.out]; omega)
        simp only [Value.slice.injEq] at e'
        obtain ⟨rfl, -, rfl⟩ := e'
        have HC : Hid (∀ j, j < N → ∀ W, w.grownBy W none → W.cell? ⟨b, o + j, none⟩ = some (.float .f64 (l.getD j 0))) := fun j hj W hW => by
          obtain ⟨b', o', e, d⟩ := h3 j (by rw [HN.out]; exact hj)
          simp only [Option.some.injEq, Addr.mk.injEq, and_true] at e
          obtain ⟨rfl, rfl⟩ := e
          exact World.grownBy.cell hW d (by simp)
        have HEnd : Hid (∀ mn mx, LM l N mn mx → (∀ v, QuE 0 l v → (fo v mn == some .eq) = true) ∧ (∀ v, QuE 4607182418800017408 l v → (fo v mx == some .eq) = true)) := fun mn mx h => by
          rw [← HN.out] at h
          exact ends_ok (fun e => by rw [e] at HN; have := HN.out; simp at this; omega) (by rw [HN.out]; exact hl) HIn.out h
        have HL0 : Hid (LM l 0 (l.getD 0 0) (l.getD 0 0)) := LM.start l
        have hc0 := HC.out 0 (by omega) w6 HG5.out
        rw [Nat.add_zero] at hc0
        have hN1 : (0 : Int) < (N : Int) := by omega
        have hN2 : ¬ N ≤ 0 := by omega
        have hN3 : ((N : Int) == 0) = false := by
          rw [beq_eq_false_iff_ne]
          omega
        have hN4 : 0 < N := by omega
        have HQz := hidJ HQ0.out
        have HQo := hidJ HQ9.out
        clear HV HIn HN h3 HQ0 HQ9
        generalize l.getD 0 0 = l0 at HL0 hc0
        go_wp2
        clear hc0 hN2
        go_loopw [9, 10, 11] (fun ua ub ui wr => ∃ z mn mx : Nat, z ≤ N ∧ ui = .int .i64 z ∧ ua = .float .f64 mn ∧ ub = .float .f64 mx ∧ Hid (LM l z mn mx ∧ w.grownBy wr none)) (fun _ _ ui _ => N - (intOf ui).toNat)
        case atStart => exact ⟨0, l0, l0, by omega, rfl, rfl, rfl, HL0.out, HG5.out⟩
        case round =>
          obtain ⟨z, mn, mx, hzN, rfl, rfl, rfl, hr⟩ := hrel
          clear HL0 HG5
          by_cases hzl : z < N
          · have hzi : (z : Int) < (N : Int) := by omega
            have hq1 : ¬ N ≤ z := by omega
            have HSw : Hid (∀ W, wr.grownBy W none → W.cell? ⟨b, o + z, none⟩ = some (.float .f64 (l.getD z 0))) := fun W hW => HC.out z hzl W (gb_none hr.out.2 hW)
            have HLx : Hid (FinB (l.getD z 0) → LM l (z + 1) (if (fo (l.getD z 0) mn == some .lt) = true then l.getD z 0 else mn) (if (fo (l.getD z 0) mx == some .gt) = true then l.getD z 0 else mx)) := fun h => hr.out.1.next h
            have HG4 := hidJ hr.out.2
            clear hr HC HEnd
            generalize l.getD z 0 = x at *
            generalize hlb : (fo x mn == some .lt) = lb at *
            generalize hgb : (fo x mx == some .gt) = gb at *
            have hsub : ∀ W a b, (binOp .sub 22 (.float .f64 a) (.float .f64 b)).run Try.prog W = .ok (.float .f64 (fres W .sub a b)) (fwor W .sub a b) := fun W a b => run_fop W (.inr (.inl rfl)) _ _ _
            have HH := hidJ hsub
            clear hsub
            generalize wr = w4 at *
            go_wp2
            have hsub := HH.out
            clear HH
            refine wp_region_held_drew (S := (fun w' => w'.cell? ⟨b, o + z, none⟩ = some (.float .f64 x))) (by kernel_rfl) (HSw.out _ (gb_drew _ _)) (fun _ => ?_)
            refine wpAnyH_take (i := 0) (oi := { dst := some 70, op := Go.Op.move (Go.Operand.tmp 1), type := 23, pos := "law.go:93", after := #[], guard := none }) (v := ?v49k) rfl (by kernel_rfl) (by kernel_rfl) (by kernel_rfl) (fun _ _ _ h => h) (Or.inl ⟨by rfl, ?y49k⟩) (HSw.out _ (gb_drew _ _)) ?r49k
            case y49k => intro wq hSw; have s1 := hSw; go_simp; try with_reducible rfl
            case' r49k => skip
            try simp only [Act.put, List.setIfInBounds_toArray, List.set_cons_zero, List.set_cons_succ]
            refine wpAnyH_take (i := 1) (oi := { dst := some 71, op := Go.Op.move (Go.Operand.tmp 11), type := 3, pos := "law.go:93", after := #[], guard := none }) (v := ?v50k) rfl (by kernel_rfl) (by kernel_rfl) (by kernel_rfl) (fun _ _ _ h => h) (Or.inl ⟨by rfl, ?y50k⟩) (HSw.out _ (gb_drew _ _)) ?r50k
            case y50k => intro wq hSw; have s1 := hSw; go_simp; try with_reducible rfl
            case' r50k => skip
            try simp only [Act.put, List.setIfInBounds_toArray, List.set_cons_zero, List.set_cons_succ]
            refine wpAnyH_take (i := 2) (oi := { dst := some 72, op := Go.Op.indexAddr 23 (Go.Operand.tmp 70) (Go.Operand.tmp 71), type := 0, pos := "law.go:93", after := #[{ on := 0, ground := Go.Ground.data }, { on := 1, ground := Go.Ground.data }], guard := none }) (v := ?v51k) rfl (by kernel_rfl) (by kernel_rfl) (by kernel_rfl) (fun _ _ _ h => h) (Or.inl ⟨by rfl, ?y51k⟩) (HSw.out _ (gb_drew _ _)) ?r51k
            case y51k => intro wq hSw; have s1 := hSw; go_simp; try with_reducible rfl
            case' r51k => skip
            try simp only [Act.put, List.setIfInBounds_toArray, List.set_cons_zero, List.set_cons_succ]
            refine wpAnyH_take (i := 3) (oi := { dst := some 73, op := Go.Op.load 22 (Go.Operand.tmp 72), type := 22, pos := "law.go:93", after := #[{ on := 2, ground := Go.Ground.data }], guard := none }) (v := ?v52k) rfl (by kernel_rfl) (by kernel_rfl) (by kernel_rfl) (fun _ _ _ h => h) (Or.inl ⟨by rfl, ?y52k⟩) (HSw.out _ (gb_drew _ _)) ?r52k
            case y52k => intro wq hSw; have s1 := hSw; go_simp; try with_reducible rfl
            case' r52k => skip
            try simp only [Act.put, List.setIfInBounds_toArray, List.set_cons_zero, List.set_cons_succ]
            refine wpAnyH_take (i := 4) (oi := { dst := some 74, op := Go.Op.move (Go.Operand.tmp 1), type := 23, pos := "law.go:93", after := #[], guard := none }) (v := ?v53k) rfl (by kernel_rfl) (by kernel_rfl) (by kernel_rfl) (fun _ _ _ h => h) (Or.inl ⟨by rfl, ?y53k⟩) (HSw.out _ (gb_drew _ _)) ?r53k
            case y53k => intro wq hSw; have s1 := hSw; go_simp; try with_reducible rfl
            case' r53k => skip
            try simp only [Act.put, List.setIfInBounds_toArray, List.set_cons_zero, List.set_cons_succ]
            refine wpAnyH_take (i := 5) (oi := { dst := some 75, op := Go.Op.move (Go.Operand.tmp 11), type := 3, pos := "law.go:93", after := #[], guard := none }) (v := ?v54k) rfl (by kernel_rfl) (by kernel_rfl) (by kernel_rfl) (fun _ _ _ h => h) (Or.inl ⟨by rfl, ?y54k⟩) (HSw.out _ (gb_drew _ _)) ?r54k
            case y54k => intro wq hSw; have s1 := hSw; go_simp; try with_reducible rfl
            case' r54k => skip
            try simp only [Act.put, List.setIfInBounds_toArray, List.set_cons_zero, List.set_cons_succ]
            refine wpAnyH_take (i := 6) (oi := { dst := some 76, op := Go.Op.indexAddr 23 (Go.Operand.tmp 74) (Go.Operand.tmp 75), type := 0, pos := "law.go:93", after := #[{ on := 4, ground := Go.Ground.data }, { on := 5, ground := Go.Ground.data }], guard := none }) (v := ?v55k) rfl (by kernel_rfl) (by kernel_rfl) (by kernel_rfl) (fun _ _ _ h => h) (Or.inl ⟨by rfl, ?y55k⟩) (HSw.out _ (gb_drew _ _)) ?r55k
            case y55k => intro wq hSw; have s1 := hSw; go_simp; try with_reducible rfl
            case' r55k => skip
            try simp only [Act.put, List.setIfInBounds_toArray, List.set_cons_zero, List.set_cons_succ]
            refine wpAnyH_take (i := 7) (oi := { dst := some 77, op := Go.Op.load 22 (Go.Operand.tmp 76), type := 22, pos := "law.go:93", after := #[{ on := 6, ground := Go.Ground.data }], guard := none }) (v := ?v56k) rfl (by kernel_rfl) (by kernel_rfl) (by kernel_rfl) (fun _ _ _ h => h) (Or.inl ⟨by rfl, ?y56k⟩) (HSw.out _ (gb_drew _ _)) ?r56k
            case y56k => intro wq hSw; have s1 := hSw; go_simp; try with_reducible rfl
            case' r56k => skip
            try simp only [Act.put, List.setIfInBounds_toArray, List.set_cons_zero, List.set_cons_succ]
            refine wpAnyH_ready (rs := [8]) (by kernel_rfl) (by simp) ?_
            refine AllReadyH.cons (o := { dst := some 78, op := Go.Op.binOp Go.BinOp.sub 22 (Go.Operand.tmp 73) (Go.Operand.tmp 77) 22, type := 22, pos := "law.go:93", after := #[{ on := 3, ground := Go.Ground.data }, { on := 7, ground := Go.Ground.data }], guard := none }) rfl (fun K hK => ?_) AllReadyH.nil
            go_simp
            refine hK.out _ _ (HSw.out _ (gb_none (gb_drew _ _) (fwor_gb _ _ _ _))) (fun _ => ?_)
            clear hK
            try simp only [Act.put, List.setIfInBounds_toArray, List.set_cons_zero, List.set_cons_succ]
            refine wpAnyH_ready (rs := [9]) (by kernel_rfl) (by simp) ?_
            refine AllReadyH.cons (o := { dst := some 79, op := Go.Op.binOp Go.BinOp.neq 22 (Go.Operand.tmp 78) (Go.Operand.const (Go.Value.float Go.FloatKind.f64 0)) 22, type := 4, pos := "law.go:93", after := #[{ on := 8, ground := Go.Ground.data }], guard := none }) rfl (fun K hK => ?_) AllReadyH.nil
            go_simp
            refine hK.out _ _ (HSw.out _ (gb_none (gb_drew _ _) (fwor_gb _ _ _ _))) (fun _ => ?_)
            clear hK
            try simp only [Act.put, List.setIfInBounds_toArray, List.set_cons_zero, List.set_cons_succ]
            refine wpAnyH_done (by kernel_rfl) ?_ _
            obtain ⟨z2, hz⟩ : ∃ z2, (fres w4.drew .sub x x) = z2 := ⟨_, rfl⟩
            obtain ⟨W9, hW9⟩ : ∃ W9, (fwor w4.drew .sub x x) = W9 := ⟨_, rfl⟩
            rw [hz, hW9]
            have hcz : cz z2 = fopC .sub (cz x) (cz x) := by rw [← hz, cz_fres _ (.inr (.inl rfl))]
            have hg9 : w4.grownBy W9 none := by rw [← hW9]; exact (gb_none (gb_drew _ _) (fwor_gb _ _ _ _))
            have hfz : (fo z2 0 == some .eq) = (fo (fopC .sub (cz x) (cz x)) 0 == some .eq) := by
              rw [← hcz]
              have := fo_cz z2 0
              rw [cz_num (show nanB 0 = false by decide)] at this
              rw [this]
            obtain ⟨nb, hcm⟩ : ∃ nb, (FloatKind.f64.format.order z2 0 != some .eq) = nb := ⟨_, rfl⟩
            have HFx : Hid (nb = false → FinB x) := fun h => fin_of_sub (by
              rw [← hfz]
              have h2 : (fo z2 0 != some .eq) = false := hcm.trans h
              simpa using h2)
            rw [hcm]
            have HG9 := hidJ (gb_none HG4.out hg9)
            have HC9 := hidJ (HSw.out W9 hg9)
            clear hz hW9 hcz hfz hg9 HSw HG4 hsub hcm
            cases nb with
            | true =>
              have HKw := hidJ (HK.out W9 HG9.out)
              clear HK HQz HQo HLx HC9 HFx HG9
              go_wp2_with fail
              refine HKw.out.mono ?_
              rintro e w8 ⟨rfl, q8⟩
              clear HKw
              go_wp2
              go_ret
              exact ⟨rfl, q8.out⟩
            | false =>
              have HLn := hidJ (HLx.out (HFx.out rfl))
              have c24 := HC9.out
              have hl1 : (FloatKind.f64.format.order x mn == some .lt) = lb := hlb
              have hl2 : (FloatKind.f64.format.order x mx == some .gt) = gb := hgb
              clear HK HQz HQo HLx HFx HC9 hlb hgb
              cases lb <;> cases gb <;> simp only [if_true, if_false, Bool.false_eq_true] at HLn
              all_goals
                go_wp2
                go_roundw
                case rel => exact ⟨z + 1, _, _, by omega, by go_num, rfl, rfl, HLn.out, HG9.out⟩
                case measure => simp [intOf]; omega
          · have hzi : ¬ (z : Int) < (N : Int) := by omega
            have hzn : z = N := by omega
            subst hzn
            obtain ⟨e0, e1⟩ := HEnd.out mn mx hr.out.1
            have HE0 := hidJ e0
            have HE1 := hidJ e1
            have HG4 := hidJ hr.out.2
            have HQz4 := hidJ (HQz.out wr HG4.out)
            clear HC HEnd hr e0 e1 HQz
            go_wp2_with fail
            refine HQz4.out.mono ?_
            rintro e w7 ⟨v0, rfl, q7⟩
            have h70 : (FloatKind.f64.format.order v0 mn == some .eq) = true := HE0.out v0 q7.out.1
            have HG7 := hidJ (gb_none HG4.out q7.out.2)
            have HQo7 := hidJ (HQo.out w7 HG7.out)
            clear HQz4 q7 HE0 HG4 HQo
            go_wp2_with fail
            refine HQo7.out.mono ?_
            rintro e w8 ⟨v1, rfl, q8⟩
            have h80 : (FloatKind.f64.format.order v1 mx == some .eq) = true := HE1.out v1 q8.out.1
            have HG8 := hidJ (gb_none HG7.out q8.out.2)
            have HKw := hidJ (HK.out w8 HG8.out)
            clear HQo7 q8 HE1 HG7 HK HG8
            go_wp2_with fail
            refine HKw.out.mono ?_
            rintro e w9 ⟨rfl, q9⟩
            clear HKw
            go_wp2
            go_ret
            exact ⟨rfl, q9.out⟩
    · obtain ⟨p, hp⟩ : ∃ p, z = p + 1 := ⟨z - 1, by omega⟩
      obtain rfl : y = (p : Int) := by have := hr.out.1; omega
      have hp0 : (0 : Int) ≤ (p : Int) := by omega
      have hp1 : (p : Int) < (N : Int) := by omega
      have hp2 : p < N := by omega
      have hp3 : ¬ N ≤ p := by omega
      obtain ⟨go, co', eo, -, -, hco⟩ := HO3.out.at (by rw [HN.out]; omega)
      simp only [Value.slice.injEq] at eo
      obtain ⟨rfl, -, rfl⟩ := eo
      obtain ⟨a', c', e', -, -, h3⟩ := HV.out.keep (gb_none HG3.out hr.out.2.2)
      obtain ⟨b, o, rfl, d1⟩ := h3 p (by rw [HN.out]; exact hp2)
      simp only [Value.slice.injEq] at e'
      obtain ⟨rfl, -, rfl⟩ := e'
      have d2 := hco wr hr.out.2.2 p (by rw [HN.out]; exact hp2)
      have HBx := hidJ (HB.out (l.getD p 0))
      have hdr : (l.drop p).reverse = (l.drop (p + 1)).reverse ++ [l.getD p 0] := by
        have hpl : p < l.length := by rw [HN.out]; exact hp2
        have e : l.getD p 0 = l[p] := by simp [List.getD, hpl]
        rw [List.drop_eq_getElem_cons hpl, List.reverse_cons, e]
      have hll : (l.drop (p + 1)).reverse.length ≤ 17592186044415 := by
        rw [List.length_reverse, List.length_drop, HN.out]
        omega
      have HApp : Hid (∀ W4, wr.grownBy W4 none → ∃ v' w', (Builtin.append_ #[23, 23] 23 #[u7, .slice (some ⟨W4.heap.size, 0, none⟩) 1 1]).run Try.prog (W4.alloc (.cells #[.float .f64 (l.getD p 0)] 22)) = .ok v' w' ∧ OwnFl w' W3.heap.size v' (l.drop p).reverse ∧ W3.grownBy w' none) := fun W4 h4 => by
        have hrx : RdC (W4.alloc (.cells #[.float .f64 (l.getD p 0)] 22)) (some ⟨W4.heap.size, 0, none⟩) ([l.getD p 0].map flV) ∧ ((some ⟨W4.heap.size, 0, none⟩ : Option Addr) = none → 1 = 0 ∧ 1 = 0) := ⟨fun j u hj => by
          refine ⟨_, rfl, ?_⟩
          rw [Go.WideShapes.add_plain, World.cell?, Go.heap_alloc_new W4 _]
          have hj0 : j = 0 := by
            have := (List.getElem?_eq_some_iff.1 hj).1
            simp at this
            exact this
          subst hj0
          exact hj, fun h => by cases h⟩
        have ho := hr.out.2.1
        rw [hp] at ho
        rw [hdr]
        exact OwnFl.app (w := W3) (ho.keep (gb_none h4 (alloc_gb _ _))) (gb_none hr.out.2.2 (gb_none h4 (alloc_gb _ _))) hrx rfl (by omega) _
      have HQn : Hid (∀ n : Nat, wr.grownBy (wr.drewN n) none) := fun n => ⟨rfl, rfl, rfl, Nat.le_refl _, fun _ _ _ => rfl⟩
      have HD : Hid (∀ W, wr.grownBy W none → W.cell? ⟨b, o + p, none⟩ = some (.float .f64 (l.getD p 0))) := fun W hW => World.grownBy.cell hW d1 (by simp)
      clear hr HO3 HQa HE HB HK HQ0 HQ9 HV HIn hco h3 HG3 hdr hll hz0
      have HPp := hidJ hp
      clear hp
      generalize l.getD p 0 = xp at *
      go_wp2
      go_quiet ((go_at_call 8; exact Calls.quiet_of_same (HBx.out _)))
      have HGk := hidJ (HQn.out nq)
      clear HQn d2 HBx d1
      generalize wr.drewN nq = W4 at *
      obtain ⟨v', w6, r6, o6, g6⟩ := HApp.out W4 HGk.out
      have HR6 := hidJ r6
      have HO6 := hidJ (And.intro o6 g6)
      have d3 := HD.out W4 HGk.out
      clear r6 o6 g6 HApp HD HGk
      go_wp2_with (at_builtin; refine wp_appRun rfl _ _ 23 rfl _ _ _ rfl rfl HR6.out ?_)
      have hwp : IntKind.i64.wrap ((p : Int) - 1) = (p : Int) - 1 := by rw [IntKind.wrap_i64]; omega
      go_wp2
      go_roundw
      case rel => exact ⟨p, (p : Int) - 1, by omega, by go_num, by omega, HO6.out⟩
      case measure =>
        simp [intOf]
        try omega
end Go.Proofs.Ytgpednikianneaa
