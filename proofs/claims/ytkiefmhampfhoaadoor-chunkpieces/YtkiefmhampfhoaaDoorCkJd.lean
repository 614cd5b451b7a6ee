/-
  The document's Split: the walk.
-/
import Derived.Test.YtkiefmhampfhoaaDoorGH
import Derived.Test.YtkiefmhampfhoaaDoorGJ
import Derived.Test.YtkiefmhampfhoaaDoorCkA4
namespace Go.Proofs.YtkiefmhampfhoaaDoor
open Go.RowKit

theorem OwnBs.keep {w w' : World} {base K : Nat} {v : Value} {f : Nat → List UInt8} (h : OwnBs w base v K f) (hg : w.grownBy w' none) : OwnBs w' base v K f := by
  obtain ⟨vals, h1, h2⟩ := h
  have hc : Ch w w' (fun _ => False) := Ch.of_gb hg (fun k hk => by cases hk)
  exact ⟨vals, rowB_ch h1 hc (fun _ _ e => e), fun j hj => by obtain ⟨x, a, b⟩ := h2 j hj; exact ⟨x, a, b.keep hg⟩⟩
/-- bytes are laid behind the others -/
theorem OwnBs.push {W : World} {base k : Nat} {a : Option Addr} {c : Nat} {f : Nat → List UInt8} (h : OwnBs W base (.slice a k c) k f) (ax : Option Addr) (nx cx : Nat) (hx : Own W base (.slice ax nx cx) (f k)) (hk : k ≤ 1000) (hb : base ≤ W.heap.size) :
    ∃ a2 c2 W2, (Builtin.append_ #[51, 51] 51 #[.slice a k c, .slice (some ⟨W.heap.size, 0, none⟩) 1 1]).run Tryd.prog (W.alloc (.cells #[.slice ax nx cx] 36)) = .ok (.slice a2 (k + 1) c2) W2 ∧
      OwnBs W2 base (.slice a2 (k + 1) c2) (k + 1) f ∧ ∀ w0 : World, base = w0.heap.size → w0.grownBy W none → w0.grownBy W2 none := by
  obtain ⟨vals, c4, c5⟩ := h
  obtain ⟨i0, hi, hz0, hz1, hz2⟩ := info_parts infoBs
  have hal := alloc_gb W (.cells #[.slice ax nx cx] 36)
  have hnew := Go.heap_alloc_new W (.cells #[.slice ax nx cx] 36)
  obtain ⟨v2, W2, hrun, ho, hfr⟩ := run_appG (W.alloc (.cells #[.slice ax nx cx] 36)) 51 51 36 i0 _ 1 24 base Tryd.underlying51 hi hz0 hz1 hz2 rfl (by decide) (by decide) (.slice a k c) k vals (World.ownsRow.alloc c4 _) (some ⟨W.heap.size, 0, none⟩) 1 1 [.slice ax nx cx] rfl
    (fun j u hj => by
      refine ⟨_, rfl, ?_⟩
      rw [Go.WideShapes.add_plain]
      simp only [World.cell?, hnew]
      simpa using hj) (fun e => by cases e)
    (fun u hu => by
      simp only [List.mem_cons, List.not_mem_nil, or_false] at hu
      rw [hu]; rfl) (by omega) (by simp; omega)
  obtain ⟨a2, cc, rfl⟩ : ∃ a c, v2 = .slice a (k + 1) c := by
    rcases ho.2 with ⟨e, e2⟩ | ⟨b, cap, cur, e, -⟩
    · omega
    · exact ⟨_, _, e⟩
  have hvL := World.ownsRow.lt c4
  have k1 : Ch W (W.alloc (.cells #[.slice ax nx cx] 36)) (fun q => (Value.slice a k c).ownBlock = some q) := Ch.of_gb hal (fun k hk => by cases hk)
  have k2 : Ch W W2 (fun q => (Value.slice a k c).ownBlock = some q) := k1.trans (Ch.of_gb (S := fun q => (Value.slice a k c).ownBlock = some q) hfr.1 (fun k hk _ => hk)) (fun _ _ e => e)
  have apart : ∀ {y : Value} {bs : List UInt8}, Own W base y bs → ∀ q, y.ownBlock = some q → ¬ (Value.slice a k c).ownBlock = some q := fun hy q hq e => by
    obtain ⟨cur, fr, t1⟩ := own_typed hy hq
    obtain ⟨cur2, fr2, t2⟩ := row_typed c4 e
    rw [t1] at t2
    simp at t2
  have full : ∀ {y : Value} {bs : List UInt8}, Own W base y bs → Own W2 base y bs := fun hy => own_ch hy k2 (apart hy)
  have hlen : vals.length = k := by have := c4.1; omega
  refine ⟨a2, cc, W2, hrun, ⟨vals ++ [.slice ax nx cx], ho, fun j hj => ?_⟩, fun w0 hw0 hg => gb_ch hg k2 (fun q e => by have := (hvL q e).1; omega)⟩
  by_cases hjk : j < k
  · obtain ⟨y, y1, y2⟩ := c5 j hjk
    exact ⟨y, by rw [List.getElem?_append_left (by omega)]; exact y1, full y2⟩
  · obtain rfl : j = k := by omega
    exact ⟨_, by rw [List.getElem?_append_right (by omega), hlen]; simp, full hx⟩
theorem RdP.pieceC {w : World} {b o c : Nat} {l : List SmpT} (h : RdP w (.slice (some ⟨b, o, none⟩) l.length c) l) (k : Nat) (hk : 120 * k < l.length) : RdP w (.slice (some ⟨b, o + 120 * k * 2, none⟩) (min 120 (l.length - 120 * k)) (c - 120 * k)) (pieceL l k) := by
  obtain ⟨a', c', e, h1, h2, h3⟩ := h
  simp only [Value.slice.injEq, true_and] at e
  obtain ⟨e1, rfl⟩ := e
  have hl : (pieceL l k).length = min 120 (l.length - 120 * k) := by simp [pieceL]
  refine ⟨_, _, by rw [hl], by omega, by omega, fun j hj => ?_⟩
  obtain ⟨b', o', q, c0, c1⟩ := h3 (120 * k + j) (by omega)
  rw [← e1] at q
  simp only [Option.some.injEq, Addr.mk.injEq, and_true] at q
  obtain ⟨rfl, rfl⟩ := q
  have eg : (pieceL l k).getD j smZ = l.getD (120 * k + j) smZ := by
    unfold pieceL
    rw [getD_take (by omega), getD_drop]
  rw [eg]
  refine ⟨b, o + 120 * k * 2, rfl, ?_, ?_⟩
  · rw [← c0]
    congr 2
    omega
  · rw [← c1]
    congr 2
    omega
theorem run_cutS (b o n c F To : Nat) (h1 : F < To) (h2 : To ≤ c) : ∀ W, (Instr.slice 22 (.slice (some ⟨b, o, none⟩) n c) (some (.int .i64 (F : Int))) (some (.int .i64 (To : Int))) none).run Tryd.prog W = .ok (.slice (some ⟨b, o + F * 2, none⟩) (To - F) (c - F)) W := by
  intro W
  have ht' : Tryd.prog.underlying 22 = some (.slice (Tryd.prog.elem 22)) := by simp [Program.elem, Tryd.underlying22]
  have he : Tryd.prog.elem 22 = 27 := by simp [Program.elem, Tryd.underlying22]
  rw [run_slice_lh W _ _ _ _ ht' .i64 .i64 _ _ (by omega) (by omega) (by omega), he, Tryd.sizeOf27]
  have hc : ¬ c = F := by omega
  simp [Result.andThen, sliced, Addr.add, hc]

set_option maxRecDepth 8000 in
set_option maxHeartbeats 6400000 in
theorem dSplit_any (w : World) (v : Value) (l : List SmpT) (hv : RdP w v l) (hin : SmIn l) (hl : l.length ≤ 2000) :
    Calls Tryd.prog 29 #[v] w fun e w' => SpA l w w' e ∧ w.grownBy w' none := by
  have HI := hidJ hin
  clear hin
  have HR : Hid (RdP w v l) := hv
  obtain ⟨a, c, rfl, hlc, hcm, -⟩ := hv
  have hcm' : c ≤ 9223372036854775807 := hcm
  clear hcm
  obtain ⟨N, hN⟩ : ∃ N, l.length = N := ⟨_, rfl⟩
  have HN : Hid (l.length = N) := hN
  rw [hN] at hlc hl
  rw [hN]
  clear hN
  go_enter Tryd.func29, Tryd.ntmps29
  go_wp2_with fail
  have hsf := store_float
  go_loopw [12] (fun i wr => ∃ z : Nat, z ≤ N ∧ i = .int .i64 z ∧ Hid ((∀ j, j < z → risC l j = 0) ∧ w.grownBy wr none)) (fun i _ => N - (intOf i).toNat)
  case atStart => exact ⟨0, by omega, rfl, fun j hj => by omega, gb_refl _ _⟩
  case round =>
    obtain ⟨z, hz, rfl, HP⟩ := hrel
    by_cases hlt : z < N
    · have hzi : (z : Int) < (N : Int) := by omega
      have hzl : z < l.length := by rw [HN.out]; exact hlt
      obtain ⟨a', c', he, -, -, hc⟩ := HR.out.keep HP.out.2
      simp only [Value.slice.injEq] at he
      obtain ⟨rfl, -, rfl⟩ := he
      obtain ⟨b, o, rfl, x0, x1⟩ := hc z hzl
      have hpv : 0 < z → wr.cell? ⟨b, o + (z - 1) * 2, none⟩ = some (.int .i64 (l.getD (z - 1) smZ).1) := fun h => by
        obtain ⟨b', o', e, y0, -⟩ := hc (z - 1) (by omega)
        simp only [Option.some.injEq, Addr.mk.injEq, and_true] at e
        obtain ⟨rfl, rfl⟩ := e
        exact y0
      clear hc
      have HX : Hid (∃ t, (l.getD z smZ).1 = t) := ⟨_, rfl⟩
      obtain ⟨t, ht⟩ := HX.out
      clear HX
      have HX := hidJ (And.intro ht True.intro)
      rw [ht] at x0
      clear ht
      generalize (l.getD z smZ).2 = fz at *
      by_cases h0 : t < 0
      · have HE : Hid (risC l z = 1) := by
          show risC l z = 1
          unfold risC
          rw [HX.out.1, if_pos (.inl h0)]
        go_wp2
        go_ret3
        exact ⟨.inr ⟨z, by omega, by rw [HE.out]; decide, HP.out.1, by rw [HE.out]; rfl⟩, gb_none HP.out.2 (alloc_gb _ _)⟩
      · by_cases h1 : 1125899906842624 < t
        · have HE : Hid (risC l z = 1) := by
            show risC l z = 1
            unfold risC
            rw [HX.out.1, if_pos (.inr h1)]
          go_wp2
          go_ret3
          exact ⟨.inr ⟨z, by omega, by rw [HE.out]; decide, HP.out.1, by rw [HE.out]; rfl⟩, gb_none HP.out.2 (alloc_gb _ _)⟩
        · by_cases hz0 : z = 0
          · subst hz0
            simp only [Nat.zero_mul, Nat.add_zero] at x0 x1
            have H0 : Hid (risC l 0 = 0) := by
              show risC l 0 = 0
              unfold risC
              rw [HX.out.1, if_neg (by omega), if_neg (by omega)]
            clear hpv
            go_wp2
            have HG2 : Hid (w.grownBy (wr.alloc (.cells #[.int .i64 t, .float .f64 fz] 27)) none) := gb_none HP.out.2 (alloc_gb _ _)
            have hb5 := Go.heap_alloc_new wr (.cells #[.int .i64 t, .float .f64 fz] 27)
            have g0 : (wr.alloc (.cells #[.int .i64 t, .float .f64 fz] 27)).cell? ⟨wr.heap.size, 0, none⟩ = some (.int .i64 t) := by simp only [World.cell?, hb5]; rfl
            clear hb5 x0 x1
            generalize wr.alloc (.cells #[.int .i64 t, .float .f64 fz] 27) = W2 at *
            generalize wr.heap.size = sb at *
            go_quiet (fail)
            go_wp2
            go_roundw
            case rel => exact ⟨1, by omega, by go_num, fun j hj => (by
              by_cases hj2 : j < 0
              · exact HP.out.1 j hj2
              · have : j = 0 := by omega
                subst this
                exact H0.out), gb_none HG2.out (gb_drewN _ _)⟩
            case measure => simp [intOf]; omega
          · have y0 := hpv (by omega)
            obtain ⟨k, hk⟩ : ∃ k, z - 1 = k := ⟨_, rfl⟩
            have HK : Hid (z - 1 = k ∧ z = k + 1) := ⟨hk, by omega⟩
            have hzk : (z : Int) - 1 = (k : Int) := by omega
            rw [hk] at y0
            have y1 : ∀ C, (wr.alloc C).cell? ⟨b, o + k * 2, none⟩ = some (.int .i64 (l.getD k smZ).1) := fun C => (World.cell?_of_block ((alloc_gb wr C).block b (block_lt y0) (by simp))).trans y0
            have hk1 : (0 : Int) < (z : Int) := by omega
            have hkN : (k : Int) < (N : Int) := by omega
            have hk0 : (0 : Int) ≤ (k : Int) := by omega
            clear hpv hk
            obtain ⟨tp, htp⟩ : ∃ tp, (l.getD k smZ).1 = tp := ⟨_, rfl⟩
            rw [htp] at y0 y1
            have HY := hidJ (And.intro htp True.intro)
            clear htp
            by_cases h2 : t ≤ tp
            · have HE : Hid (risC l z = 90) := by
                show risC l z = 90
                unfold risC
                rw [HX.out.1, HK.out.1, HY.out.1, if_neg (by omega), if_pos (by omega)]
              go_wp2
              have HG2 : Hid (w.grownBy (wr.alloc (.cells #[.int .i64 t, .float .f64 fz] 27)) none) := gb_none HP.out.2 (alloc_gb _ _)
              have hb5 := Go.heap_alloc_new wr (.cells #[.int .i64 t, .float .f64 fz] 27)
              have g0 : (wr.alloc (.cells #[.int .i64 t, .float .f64 fz] 27)).cell? ⟨wr.heap.size, 0, none⟩ = some (.int .i64 t) := by simp only [World.cell?, hb5]; rfl
              have g1 := y1 (.cells #[.int .i64 t, .float .f64 fz] 27)
              clear hb5 y1 y0 x0 x1
              generalize wr.alloc (.cells #[.int .i64 t, .float .f64 fz] 27) = W2 at *
              generalize wr.heap.size = sb at *
              have hd0 : decide (0 < z) = true := decide_eq_true (by omega)
              go_quiet (fail)
              go_wp2
              go_ret3
              exact ⟨.inr ⟨z, by omega, by rw [HE.out]; decide, HP.out.1, by rw [HE.out]; rfl⟩, gb_none HG2.out (gb_drewN _ _)⟩
            · have H0 : Hid (risC l z = 0) := by
                show risC l z = 0
                unfold risC
                rw [HX.out.1, HK.out.1, HY.out.1, if_neg (by omega), if_neg (by omega)]
              go_wp2
              have HG2 : Hid (w.grownBy (wr.alloc (.cells #[.int .i64 t, .float .f64 fz] 27)) none) := gb_none HP.out.2 (alloc_gb _ _)
              have hb5 := Go.heap_alloc_new wr (.cells #[.int .i64 t, .float .f64 fz] 27)
              have g0 : (wr.alloc (.cells #[.int .i64 t, .float .f64 fz] 27)).cell? ⟨wr.heap.size, 0, none⟩ = some (.int .i64 t) := by simp only [World.cell?, hb5]; rfl
              have g1 := y1 (.cells #[.int .i64 t, .float .f64 fz] 27)
              clear hb5 y1 y0 x0 x1
              generalize wr.alloc (.cells #[.int .i64 t, .float .f64 fz] 27) = W2 at *
              generalize wr.heap.size = sb at *
              have hd0 : decide (0 < z) = true := decide_eq_true (by omega)
              go_quiet (fail)
              go_wp2
              go_roundw
              case rel => exact ⟨z + 1, by omega, by go_num, fun j hj => (by
                by_cases hj2 : j < z
                · exact HP.out.1 j hj2
                · have : j = z := by omega
                  subst this
                  exact H0.out), gb_none HG2.out (gb_drewN _ _)⟩
              case measure => simp [intOf]; omega

    · have hzi : ¬ (z : Int) < (N : Int) := by omega
      have hze : z = N := by omega
      subst hze
      have HOK : Hid (RisOk l) := fun j hj => HP.out.1 j (by rw [← HN.out]; exact hj)
      have HG := hidJ HP.out.2
      clear HP
      go_wp2_with fail
      go_loopw [7, 8] (fun vC i wr => ∃ (k F : Nat) (aC : Option Addr) (cC : Nat), i = .int .i64 (F : Int) ∧ vC = .slice aC k cC ∧ F < z + 120 ∧ k ≤ 100 ∧ Hid (F = 120 * k ∧ OwnBs wr w.heap.size vC k (fun j => ckB (pieceL l j)) ∧ w.grownBy wr none)) (fun _ i _ => z - (intOf i).toNat)
      case atStart => exact ⟨0, 0, none, 0, rfl, rfl, by omega, by omega, rfl, ⟨[], World.ownsRow_nil _ _ _ _, fun j hj => by omega⟩, HG.out⟩
      case round =>
        obtain ⟨k, F, aC, cC, rfl, rfl, hF, hk, hP⟩ := hrel
        by_cases hlt : F < z
        · have hFi : (F : Int) < (z : Int) := by omega
          have hkl : 120 * k < l.length := by rw [HN.out, ← hP.out.1]; exact hlt
          have hR := HR.out.keep hP.out.2.2
          obtain ⟨a', c', he, -, -, hc⟩ := id hR
          simp only [Value.slice.injEq] at he
          obtain ⟨rfl, -, rfl⟩ := he
          obtain ⟨b, o, rfl, -, -⟩ := hc 0 (by omega)
          have hpc := hR.pieceC k hkl
          rw [HN.out, ← hP.out.1] at hpc
          have hpk := piece_ok HI.out HOK.out k hkl
          have HB : Hid (Calls Tryd.prog 17 #[.slice (some ⟨b, o + F * 2, none⟩) (min 120 (z - F)) (c - F)] wr fun e w' => ∃ ax nx cx, e = .returned (.slice ax nx cx) ∧ Hid (∃ a2 c2 W2, (Builtin.append_ #[51, 51] 51 #[.slice aC k cC, .slice (some ⟨w'.heap.size, 0, none⟩) 1 1]).run Tryd.prog (w'.alloc (.cells #[.slice ax nx cx] 36)) = .ok (.slice a2 (k + 1) c2) W2 ∧ (F + 120 = 120 * (k + 1) ∧ OwnBs W2 w.heap.size (.slice a2 (k + 1) c2) (k + 1) (fun j => ckB (pieceL l j)) ∧ w.grownBy W2 none))) := by
            refine (dBytes_any wr _ (pieceL l k) hpc hpk.1).mono ?_
            rintro e w' ⟨v', rfl, ho, hg⟩
            obtain ⟨ax, cx, rfl⟩ := ho.shape
            have hz := hP.out.2.2.size
            have hz2 := hg.size
            obtain ⟨a2, c2, W2, r1, r2, r3⟩ := (hP.out.2.1.keep hg).push ax _ cx (ho.mono (by omega)) (by omega) (by omega)
            exact ⟨ax, _, cx, rfl, a2, c2, W2, r1, by have := hP.out.1; omega, r2, r3 w rfl (gb_none hP.out.2.2 hg)⟩
          have hzc : z ≤ c := hlc
          clear hc hpc hpk hR hP HG
          by_cases hto : z < F + 120
          · have htoi : (z : Int) < (F : Int) + 120 := by omega
            have hsl := run_cutS b o z c F z hlt hzc
            have hpn : min 120 (z - F) = z - F := by omega
            rw [hpn] at HB
            go_wp2_with fail
            refine HB.out.mono ?_
            rintro e w3 ⟨ax, nx, cx, rfl, H3⟩
            obtain ⟨a2, c2, W2, r1, r2⟩ := H3.out
            have H4 := hidJ r2
            clear H3 r2 HB
            go_wp2_with (at_builtin; refine wp_appRun rfl _ _ 51 rfl _ _ _ rfl rfl r1 ?_)
            go_wp2
            go_roundw
            case rel => exact ⟨k + 1, F + 120, a2, c2, by go_num, rfl, by omega, by have := H4.out.1; omega, H4.out⟩
            case measure => simp [intOf]; omega
          · have htoi : ¬ (z : Int) < (F : Int) + 120 := by omega
            obtain ⟨To, hTo⟩ : ∃ To : Nat, F + 120 = To := ⟨_, rfl⟩
            have hToi : (F : Int) + 120 = (To : Int) := by omega
            have hTz : ¬ (z : Int) < (To : Int) := by omega
            have hsl := run_cutS b o z c F To (by omega) (by omega)
            have hpn : min 120 (z - F) = To - F := by omega
            rw [hpn] at HB
            clear hTo
            go_wp2_with fail
            refine HB.out.mono ?_
            rintro e w3 ⟨ax, nx, cx, rfl, H3⟩
            obtain ⟨a2, c2, W2, r1, r2⟩ := H3.out
            have H4 := hidJ r2
            clear H3 r2 HB
            go_wp2_with (at_builtin; refine wp_appRun rfl _ _ 51 rfl _ _ _ rfl rfl r1 ?_)
            go_wp2
            go_roundw
            case rel => exact ⟨k + 1, F + 120, a2, c2, by go_num, rfl, by omega, by have := H4.out.1; omega, H4.out⟩
            case measure => simp [intOf]; omega
        · have hFi : ¬ (F : Int) < (z : Int) := by omega
          have HE : Hid (SpA l w wr (.returned (.tuple #[.slice aC k cC, .int .i64 0, .int .i64 0])) ∧ w.grownBy wr none) := by
            refine ⟨.inl ⟨HOK.out, _, k, ?_, ?_, rfl, hP.out.2.1⟩, hP.out.2.2⟩
            · rw [HN.out]; have := hP.out.1; omega
            · rw [HN.out]; have := hP.out.1; omega
          clear hP HG
          go_wp2
          go_ret3
          exact HE.out
end Go.Proofs.YtkiefmhampfhoaaDoor
