/-
  The document's Join of any bytes: the walk.
-/
import Derived.Test.YtkiefmhampfhoaaDoorGH
import Derived.Test.YtkiefmhampfhoaaDoorGL
namespace Go.Proofs.YtkiefmhampfhoaaDoor
open Go.RowKit

set_option maxRecDepth 8000 in
set_option maxHeartbeats 6400000 in
theorem dJoin_of (hDec : ∀ (w : World) (v : Value) (b : List UInt8), Rd w v b → Calls Tryd.prog 24 #[v] w fun e w' => DPost w b e w') (w : World) (v : Value) (K : Nat) (f : Nat → List UInt8) (hv : RdBs w v K f) (hK : K ≤ 20) :
    Calls Tryd.prog 31 #[v] w fun e w' => JnP f K w w' e := by
  have HV := hidJ hv
  have HF : Hid (∀ j, j < K → True) := fun _ _ => trivial
  have HDec : Hid (∀ W, w.grownBy W none → ∀ v b, Rd W v b → True → Calls Tryd.prog 24 #[v] W fun e w' => ((∃ l v', e = .returned (.tuple #[v', .int .i64 0]) ∧ okL startP l ∧ b = ckB l ∧ RdP w' v' l) ∨ (e = .returned (.tuple #[.slice none 0 0, .int .i64 3]) ∧ ∀ m, okL startP m → b ≠ ckB m)) ∧ W.grownBy w' none) := fun W _ v b hv _ => (hDec W v b hv).mono (fun e w' h => ⟨h.1.imp (fun ⟨l, v', q1, q2, q3, q4⟩ => ⟨l, v', q1, q2, q3, RdP.of_row q4⟩) (fun q => q), h.2⟩)
  obtain ⟨a, c, rfl, hKc, hcm, -⟩ := hv
  have hcm' : c ≤ 9223372036854775807 := hcm
  clear hcm hDec
  go_enter Tryd.func31, Tryd.ntmps31
  go_wp2_with fail
  go_loopw [5, 12] (fun vA i wr => ∃ z : Nat, z ≤ K ∧ i = .int .i64 z ∧ ∃ aA cA nA, vA = .slice aA nA cA ∧ nA ≤ 120 * z ∧ Hid ((joinR f z).2.1 = 0 ∧ (joinR f z).2.2 = 0 ∧ (joinR f z).1.length = nA ∧ wr.ownsRow w.heap.size 27 2 vA nA (smC (joinR f z).1) ∧ w.grownBy wr none)) (fun _ i _ => K - (intOf i).toNat)
  case atStart => exact ⟨0, by omega, rfl, none, 0, 0, rfl, by omega, rfl, rfl, rfl, World.ownsRow_nil _ _ _ _, gb_refl _ _⟩
  case round =>
    obtain ⟨z, hz, rfl, aA, cA, nA, rfl, hnA, hP⟩ := hrel
    by_cases hlt : z < K
    · have hzi : (z : Int) < (K : Int) := by omega
      obtain ⟨a', c', he, -, -, hc⟩ := HV.out.keep hP.out.2.2.2.2
      simp only [Value.slice.injEq] at he
      obtain ⟨rfl, -, rfl⟩ := he
      obtain ⟨b, o, ax, nx, cx, rfl, y0, y1⟩ := hc z hlt
      have HDc := hidJ (HDec.out wr hP.out.2.2.2.2 _ (f z) y1 (HF.out z hlt))
      clear hc y1
      go_wp2_with fail
      refine HDc.out.mono ?_
      rintro e w2 ⟨⟨x, v2, rfl, hx1, hx2, hr2⟩ | ⟨rfl, hno⟩, hg2⟩
      · have hd := decW_some hx1
        rw [← hx2] at hd
        obtain ⟨a2, c2, rfl, hc21, hc22, hr3⟩ := id hr2
        have hx120 := okL_most hx1
        obtain ⟨n2, hn2⟩ : ∃ n2, x.length = n2 := ⟨_, rfl⟩
        have HX := hidJ hn2
        rw [hn2] at hr2 hr3 hc21 hx120 ⊢
        have hrow : w2.ownsRow w.heap.size 27 2 (.slice aA nA cA) nA (smC (joinR f z).1) := row_ch hP.out.2.2.2.1 (Ch.of_gb (S := fun _ => False) hg2 (fun k hk => by cases hk)) (fun _ _ e => e)
        have hgw := gb_none hP.out.2.2.2.2 hg2
        have hgz := hgw.size
        have HAp : Hid (¬ oldJ (joinR f z).1 x → ∀ W, w2.grownBy W none → ∃ a3 c3 W3, (Builtin.append_ #[22, 22] 22 #[.slice aA nA cA, .slice a2 n2 c2]).run Tryd.prog W = .ok (.slice a3 (nA + n2) c3) W3 ∧ Hid ((joinR f (z + 1)).2.1 = 0 ∧ (joinR f (z + 1)).2.2 = 0 ∧ (joinR f (z + 1)).1.length = nA + n2 ∧ W3.ownsRow w.heap.size 27 2 (.slice a3 (nA + n2) c3) (nA + n2) (smC (joinR f (z + 1)).1) ∧ w.grownBy W3 none)) := by
          intro hold W hW
          have hWz := hW.size
          obtain ⟨a3, c3, W3, r1, r2, r3⟩ := run_appP W w.heap.size nA n2 (.slice aA nA cA) (joinR f z).1 x (row_ch hrow (Ch.of_gb (S := fun _ => False) hW (fun k hk => by cases hk)) (fun _ _ e => e)) a2 c2 (hr2.keep hW) (by omega) (by omega)
          rw [joinR_ok hP.out.1 hd hold]
          exact ⟨a3, c3, W3, r1, rfl, rfl, by rw [List.length_append, hP.out.2.2.1, hn2], r2, r3.new (gb_none hgw hW) (fun k hk => (World.ownsRow.lt hrow k hk).1)⟩
        have HFl : Hid (oldJ (joinR f z).1 x → ∀ W, w2.grownBy W none → JnP f K w W (.returned (.tuple #[.slice none 0 0, .int .i64 90, .int .i64 (z : Int)]))) := fun hold W hW => JnP.fail (by decide) (joinR_old hP.out.1 hd hold) hlt (gb_none hgw hW)
        have hc22' : c2 ≤ 9223372036854775807 := hc22
        have HL := hidJ (And.intro hP.out.2.2.1 (And.intro hrow hn2))
        clear hr2 hd hx1 hx2 hrow hgw hgz hg2 HDc hc22 hn2 hP
        by_cases hn0 : n2 = 0
        · as_aux_lemma =>
            have HAp := hidJ (HAp.out (fun h => absurd h.1 (by rw [HX.out]; omega)))
            have hn2i : ¬ (0 : Int) < (n2 : Int) := by omega
            have hd2 : decide (0 < n2) = false := decide_eq_false (by omega)
            clear hr3 HFl hn0
            go_wp2
            go_quiet (fail)
            go_wp2_with (at_builtin; obtain ⟨a3, c3, W3, r1, H4⟩ := HAp.out _ (gb_drewN _ _); refine wp_appRun rfl _ _ 22 rfl _ _ _ rfl rfl r1 ?_)
            go_wp2
            go_roundw
            case rel => exact ⟨z + 1, by omega, by go_num, a3, c3, nA + n2, rfl, by omega, H4.out⟩
            case measure => simp [intOf]; omega
        · obtain ⟨b2, o2, rfl, t0, -⟩ := hr3 0 (by omega)
          rw [Nat.zero_mul, Nat.add_zero] at t0
          have hn2i : (0 : Int) < (n2 : Int) := by omega
          have hd2 : decide (0 < n2) = true := decide_eq_true (by omega)
          clear hr3
          by_cases hA0 : nA = 0
          · as_aux_lemma =>
              have HAp := hidJ (HAp.out (fun h => absurd h.2.1 (by rw [HL.out.1]; omega)))
              have hnA0 : ¬ (0 : Int) < (nA : Int) := by omega
              have hdA : decide (0 < nA) = false := decide_eq_false (by omega)
              clear HFl hA0
              go_wp2
              go_quiet (fail)
              go_wp2_with (at_builtin; obtain ⟨a3, c3, W3, r1, H4⟩ := HAp.out _ (gb_drewN _ _); refine wp_appRun rfl _ _ 22 rfl _ _ _ rfl rfl r1 ?_)
              go_wp2
              go_roundw
              case rel => exact ⟨z + 1, by omega, by go_num, a3, c3, nA + n2, rfl, by omega, H4.out⟩
              case measure => simp [intOf]; omega
          · have hnA0 : (0 : Int) < (nA : Int) := by omega
            have hdA : decide (0 < nA) = true := decide_eq_true (by omega)
            obtain ⟨bA, eA⟩ : ∃ bA, aA = some ⟨bA, 0, none⟩ := by
              rcases HL.out.2.1.2 with ⟨e, e2⟩ | ⟨bA, cap, cur, e, -⟩
              · omega
              · simp only [Value.slice.injEq] at e
                exact ⟨bA, e.1⟩
            subst eA
            obtain ⟨m, hm⟩ : ∃ m, nA = m + 1 := ⟨nA - 1, by omega⟩
            have hlast : w2.cell? ⟨bA, m * 2, none⟩ = some (.int .i64 ((joinR f z).1.getD m smZ).1) := by
              have := World.ownsRow.cells HL.out.2.1 rfl (m * 2) _ (smC_at _ m (by rw [HL.out.1]; omega)).1
              rw [Go.WideShapes.add_plain, Nat.zero_add] at this
              exact this
            have hmi : (nA : Int) - 1 = (m : Int) := by omega
            have hmA : (m : Int) < (nA : Int) := by omega
            have hm0 : (0 : Int) ≤ (m : Int) := by omega
            have hwm : IntKind.i64.wrap (m : Int) = (m : Int) := by rw [i64wrap_eq, wrap64_id (by omega) (by omega)]
            have HO : Hid (oldJ (joinR f z).1 x ↔ (x.getD 0 smZ).1 ≤ ((joinR f z).1.getD m smZ).1) := by
              unfold oldJ
              rw [HL.out.1, HX.out, show nA - 1 = m by omega]
              exact ⟨fun h => h.2.2, fun h => ⟨by omega, by omega, h⟩⟩
            clear hm
            generalize ((joinR f z).1.getD m smZ).1 = tl at *
            generalize (x.getD 0 smZ).1 = tf at *
            by_cases hle : tf ≤ tl
            · as_aux_lemma =>
                have HFl := hidJ (HFl.out (HO.out.2 hle))
                clear HAp HO HL
                go_wp2
                go_quiet (fail)
                go_wp2
                go_ret3
                exact HFl.out _ (gb_drewN _ _)
            · as_aux_lemma =>
                have HAp := hidJ (HAp.out (fun h => hle (HO.out.1 h)))
                clear HFl HO
                go_wp2
                go_quiet (fail)
                go_wp2_with (at_builtin; obtain ⟨a3, c3, W3, r1, H4⟩ := HAp.out _ (gb_drewN _ _); refine wp_appRun rfl _ _ 22 rfl _ _ _ rfl rfl r1 ?_)
                go_wp2
                go_roundw
                case rel => exact ⟨z + 1, by omega, by go_num, a3, c3, nA + n2, rfl, by omega, H4.out⟩
                case measure => simp [intOf]; omega
      · have HE : Hid (JnP f K w w2 (.returned (.tuple #[.slice none 0 0, .int .i64 3, .int .i64 (z : Int)]))) := JnP.fail (by decide) (joinR_none hP.out.1 (decW_none hno)) hlt (gb_none hP.out.2.2.2.2 hg2)
        clear hno hg2 hP HDc
        go_wp2
        go_ret3
        exact HE.out
    · have hzi : ¬ (z : Int) < (K : Int) := by omega
      have hze : z = K := by omega
      subst hze
      have HE : Hid (JnP f z w wr (.returned (.tuple #[.slice aA nA cA, .int .i64 0, .int .i64 0]))) := by
        refine ⟨.slice aA nA cA, ?_, ?_, hP.out.2.2.2.2⟩
        · rw [hP.out.1, hP.out.2.1]
        · have h := hP.out.2.2.2.1
          rw [← hP.out.2.2.1] at h
          have := RdP.of_row (B := w.heap.size) h
          rw [hP.out.2.2.1] at this
          exact this
      clear hP
      go_wp2
      go_ret3
      exact HE.out
end Go.Proofs.YtkiefmhampfhoaaDoor
