/-
  The document's Decode: the walk.
-/
import Derived.Test.YtkiefmhampfhoaaDoorGL
import Derived.BigRegion
namespace Go.Proofs.YtkiefmhampfhoaaDoor
open Go.RowKit
set_option maxRecDepth 8000 in
set_option maxHeartbeats 6400000 in
theorem dDecode_any (w : World) (v : Value) (b : List UInt8) (hv : Rd w v b) :
    Calls Tryd.prog 24 #[v] w fun e w' => DPost w b e w' := by
  have HV := hidJ hv
  obtain ⟨a, c, rfl, hlc, hcm, hrd, hnil⟩ := hv
  have hcm2 : c ≤ 9223372036854775807 := hcm
  obtain ⟨N, hN⟩ : ∃ N, b.length = N := ⟨_, rfl⟩
  have HN := hidJ hN
  rw [hN] at hlc
  rw [hN]
  have hno : N < 2 ∨ 4000 < N → Hid (DPost w b (.returned (.tuple #[.slice none 0 0, .int .i64 3])) w) := by
    intro hn
    refine ⟨.inr ⟨rfl, fun m hm e => ?_⟩, gb_refl _ _⟩
    have := ckB_small hm
    rw [← e] at this
    omega
  by_cases h2 : N < 2
  · have HE := hno (.inl h2)
    clear hno hrd hnil hN hcm
    go_enter Tryd.func24, Tryd.ntmps24
    go_wp2
    go_ret2
    exact HE.out
  by_cases h4 : 4000 < N
  · have HE := hno (.inr h4)
    clear hno hrd hnil hN hcm
    go_enter Tryd.func24, Tryd.ntmps24
    go_wp2
    go_ret2
    exact HE.out
  obtain ⟨ab, ao, rfl, d0⟩ := hrd 0 (by omega)
  obtain ⟨ab', ao', hab, d1⟩ := hrd 1 (by omega)
  simp only [Option.some.injEq, Addr.mk.injEq, and_true] at hab
  obtain ⟨rfl, rfl⟩ := hab
  rw [Nat.add_zero] at d0
  have hx0 := (b.getD 0 0).toNat_lt
  have hx1 := (b.getD 1 0).toNat_lt
  obtain ⟨x0, hx0'⟩ : ∃ x, (b.getD 0 0).toNat = x := ⟨_, rfl⟩
  obtain ⟨x1, hx1'⟩ : ∃ x, (b.getD 1 0).toNat = x := ⟨_, rfl⟩
  rw [hx0'] at hx0 d0
  rw [hx1'] at hx1 d1
  obtain ⟨C, hC⟩ : ∃ C, cntN b = C := ⟨_, rfl⟩
  have hCx : ((x0 : Int) * 256) + (x1 : Int) = (C : Int) := by rw [← hC]; unfold cntN; rw [hx0', hx1']; omega
  have hCb : C < 65536 := by omega
  have HC := hidJ hC
  obtain ⟨a2, hsl, hR2⟩ := run_from2 w ab ao c b HV.out (by omega)
  rw [hN] at hsl hR2
  have hl2 : (strL b).length = N - 2 := by simp [strL, hN]
  have HD : Hid (∀ W, w.grownBy W none → Calls Tryd.prog 41 #[.slice a2 (N - 2) (c - 2), .int .i64 ((8 * (N - 2) : Nat) : Int)] W fun e w' => ∃ g, e = .returned (.pointer (some ⟨g, 0, none⟩)) ∧ Hid (∃ u, St w' g u (ubits (strL b) 0 (8 * (strL b).length)) 0 ∧ w.grownBy w' none ∧ w.heap.size ≤ g ∧ ∀ k, u.ownBlock = some k → w.heap.size ≤ k)) := fun W hW => by
    have := new_ok (.slice a2 (N - 2) (c - 2)) (strL b) (8 * (N - 2)) W (hR2.keep hW) (by omega) (by omega) (by omega)
    refine this.mono ?_
    rintro e w' ⟨g, u, q1, q2, q3, q4, q5⟩
    rw [← hl2] at q2
    exact ⟨g, q1, u, q2, gb_none hW q3, Nat.le_trans hW.size q4, fun k hk => Nat.le_trans hW.size (q5 k hk)⟩
  have h8 : (8 : Int) * ((N : Int) - 2) = ((8 * (N - 2) : Nat) : Int) := by omega
  have h8b : (8 : Int) * ((N : Int) - 2) ≤ 32000 ∧ 0 ≤ (N : Int) - 2 := by omega
  clear hno hrd hnil hN hcm hR2 hC hx0' hx1'
  go_enter Tryd.func24, Tryd.ntmps24
  go_wp2_with fail
  go_region
  by_cases h120 : 120 < C
  · have HE : Hid (∀ W, w.grownBy W none → DPost w b (.returned (.tuple #[.slice none 0 0, .int .i64 3])) W) := by
      intro W hW
      refine ⟨.inr ⟨rfl, fun m hm e => ?_⟩, hW⟩
      have h1 := okL_most hm
      have h2 := ckB_cnt hm
      rw [← e, HC.out] at h2
      omega
    clear HD hsl
    go_wp2
    go_ret2
    exact HE.out _ (by first | exact gb_drew _ _ | exact gb_refl _ _)
  · have HS : Hid (∀ w1 gs, (∃ u, St w1 gs u (ubits (strL b) 0 (8 * (strL b).length)) 0 ∧ w.grownBy w1 none ∧ w.heap.size ≤ gs ∧ ∀ k, u.ownBlock = some k → w.heap.size ≤ k) → DJ w ((w1.alloc (.cells #[.int .i64 0, .int .i64 0, .int .u64 0, .int .i64 64, .int .i64 0] 92)).alloc (.cells #[.pointer (some ⟨gs, 0, none⟩), .pointer (some ⟨w1.heap.size, 0, none⟩), .bool false] 89)) b (w1.heap.size + 1) gs w1.heap.size 0 (.slice none 0 0)) := by
      rintro w1 gs ⟨u, q1, q2, q3, q4⟩
      exact ⟨[], 0, false, 0, 0, 0, 64, 0, rfl, (fun x hx => by cases hx), ⟨⟨by decide, by decide⟩, by decide⟩, ⟨by decide, by decide, by decide, by decide⟩, DR.start q1 q2 q3 q4 (by rw [hl2]; omega), fun _ => Ex.start b, (fun h => by cases h), World.ownsRow_nil _ _ _ _⟩
    clear hCx hx0 hx1
    go_upto_block 0 with (first
      | (go_at_call 41; refine (HD.out _ ?_).mono ?_; (first | exact gb_drew _ _ | exact gb_refl _ _); rintro e w1 ⟨gs, rfl, H1⟩)
      | (go_at_call 36; refine (dNew_any _).mono ?_; rintro e w2 ⟨rfl, rfl⟩))
    have HJ := hidJ (HS.out w1 gs H1.out)
    have hsz : (w1.alloc (.cells #[.int .i64 0, .int .i64 0, .int .u64 0, .int .i64 64, .int .i64 0] 92)).heap.size = w1.heap.size + 1 := by simp
    try rw [hsz]
    clear HS H1 HD hsl hsz d0 d1
    generalize (w1.alloc (.cells #[.int .i64 0, .int .i64 0, .int .u64 0, .int .i64 64, .int .i64 0] 92)).alloc (.cells #[.pointer (some ⟨gs, 0, none⟩), .pointer (some ⟨w1.heap.size, 0, none⟩), .bool false] 89) = W0 at *
    generalize hgr : w1.heap.size + 1 = gr at HJ ⊢
    generalize w1.heap.size = gp at *
    clear hgr
    go_cut [6] from 7 (fun s wx => ∃ n aT cT, s = .slice aT n cT ∧ Hid (DE w wx b gr gs gp n s))
    case first =>
      go_wp2_with fail
      go_loopw [6, 7] (fun s i wr => ∃ (z : Nat) (aT : Option Addr) (cT : Nat), z ≤ C ∧ i = .int .i64 (z : Int) ∧ s = .slice aT z cT ∧ Hid (DJ w wr b gr gs gp z s)) (fun _ i _ => C - (intOf i).toNat)
      case atStart => exact ⟨0, none, 0, by omega, rfl, rfl, HJ⟩
      case round =>
        obtain ⟨z, aT, cT, hz, rfl, rfl, hr⟩ := hrel
        by_cases hlt : z < C
        · obtain ⟨l, p, bad, T, D, V, Ld, K, h1, h2, h3, h4, h5, h6, h7, h8⟩ := hr.out
          have hlti : (z : Int) < (C : Int) := by omega
          obtain ⟨⟨-, c1, cb⟩, -⟩ := h5.cells
          cases bad with
          | true =>
            have HE : Hid (DE w wr b gr gs gp z (.slice aT z cT)) := ⟨l, p, true, T, D, V, Ld, K, h1, h2, h5, (fun h => by cases h), h7, h8⟩
            clear h1 h2 h3 h4 h5 h6 h7 h8 hr
            go_wp2_with fail
            go_meet
            case rel => exact ⟨z, aT, cT, rfl, HE⟩
          | false =>
            have HR := hidJ (And.intro h1 (And.intro h2 (And.intro h3 (And.intro h4 (And.intro h5 (And.intro (h6 rfl) h8))))))
            clear h1 h2 h3 h4 h5 h6 h7 h8 hr
            go_upto_block 2 with fail
            go_cut [8, 9, 10] from 44 to 224 (fun _ _ _ wx => ∃ T' V', Hid (DK w wx b gr gs gp z l (.slice aT z cT) T' V'))
            case first =>
              by_cases hz0 : z = 0
              · as_aux_lemma =>
                  subst hz0
                  have HB := hidJ (dNumber_any w wr gr gs gp p (strL b) false T D V Ld K HR.out.2.2.2.2.1)
                  go_upto_region 20 with (go_at_call 42; refine HB.out.mono ?_; rintro e w2 ⟨x, p2, bad2, rfl, hx, hD2, hex2, hk2⟩)
                  obtain ⟨Y, hY⟩ : ∃ Y : Nat, x / 2 = Y := ⟨_, rfl⟩
                  have HY := hidJ hY
                  have hYb : Y < 9223372036854775808 := by omega
                  have hYi : (x : Int) / 2 = (Y : Int) := by omega
                  have hYw : IntKind.i64.wrap (Y : Int) = (Y : Int) := by rw [IntKind.wrap_i64]; omega
                  obtain ⟨⟨-, e1, -⟩, e3, -⟩ := hD2.cells
                  have e4 := (hD2.frz 0).1
                  have hne : ¬ gr = gp := hD2.ne.1
                  have H3 : Hid (DR w (w2.setCell ⟨gp, 0, none⟩ (.int .i64 (Y : Int))) gr gs gp (strL b) p2 bad2 (Y : Int) D V Ld K ∧ KeepT (5 :: tR) wr (w2.setCell ⟨gp, 0, none⟩ (.int .i64 (Y : Int)))) := ⟨hD2.upd 0 _ (heap_setCell_same w2 gp 0 _ _ _ hD2.sta), hk2.trans (KeepT.of_own (gb_set w2 gp 0 _) hD2.sta (by simp [tR])).more⟩
                  have HX2 := hidJ hex2
                  have ha1 := and1 x hx
                  have HC0 : Hid (0 < cntN b) := by rw [HC.out]; exact hlt
                  clear hD2 hex2 hk2 hY hx
                  go_upto_region 21 with fail
                  generalize w2.setCell ⟨gp, 0, none⟩ (.int .i64 (Y : Int)) = w3 at *
                  clear e1 e3 e4
                  obtain ⟨⟨-, e1, e2⟩, -⟩ := H3.out.1.cells
                  have e4 := (H3.out.1.frz 2).2
                  rcases (show x % 2 = 0 ∨ x % 2 = 1 by omega) with hp | hp
                  · rw [hp] at ha1
                    have H4 : Hid (∃ bad3, DR w w3 gr gs gp (strL b) p2 bad3 (Y : Int) D V Ld K ∧ (bad2 = false → x % 2 = 0 → bad3 = false) ∧ KeepT (5 :: tR) wr w3) := ⟨bad2, H3.out.1, fun h _ => h, H3.out.2⟩
                    clear H3 hp
                    go_upto_region 23 with fail
                    generalize w3 = w4 at *
                    have HBa : Hid (∀ W, w4.grownBy W none → Calls Tryd.prog 43 #[.pointer (some ⟨gr, 0, none⟩), .int .i64 64] W fun e w' => ∃ y : Nat, e = .returned (.int .u64 (y : Int)) ∧ Hid (DK w (w'.setCell ⟨gp, 2, none⟩ (.int .u64 (y : Int))) b gr gs gp 0 l (.slice aT 0 cT) (Y : Int) y) ∧ w'.cell? ⟨gr, 1, none⟩ = some (.pointer (some ⟨gp, 0, none⟩)) ∧ w'.cell? ⟨gp, 2, none⟩ = some (.int .u64 (V : Int)) ∧ w'.frozen? ⟨gp, 2, none⟩ = false) := fun W hW => by
                      obtain ⟨bad3, hD4, hb4, hk4⟩ := H4.out
                      refine (dBits_any w W gr gs gp p2 (strL b) bad3 (Y : Int) D V Ld K 64 (hD4.keep hW)).mono ?_
                      rintro e w' ⟨y, p4, bad4, q1, q2, q3, q4, q5⟩
                      have q6 := (q4 (by decide) (by decide)).2
                      have hYx := HY.out
                      refine ⟨y, q1, ?_, q3.cells.1.2.1, q3.cells.2.2.2.1, (q3.frz 2).1⟩
                      refine DK.of HR.out.2.2.2.2.2.2 ((hk4.trans ((KeepT.of_none hW).trans q5.more)).trans (KeepT.of_own (gb_set w' gp 2 _) q3.sta (by simp [tR])).more) ⟨⟨by omega, by omega⟩, q2⟩ HR.out.2.2.2.1 (q3.upd 2 (.int .u64 (y : Int)) (T' := (Y : Int)) (D' := D) (V' := y) (L' := Ld) (K' := K) (heap_setCell_same w' gp 2 _ _ _ q3.sta)) ?_
                      rw [← hYx]
                      exact EK.first HR.out.2.2.2.2.2.1 HC0.out (HX2.out trivial) hb4 q6
                    have c1 := H4.out.choose_spec.1.cells.1.2.1
                    have hgne : ¬ gr = gp := hne
                    have hgne2 : ¬ gp = gr := fun e => hne e.symm
                    clear H4 HX2
                    go_region_held3 (fun w' => w'.cell? ⟨gr, 1, none⟩ = some (.pointer (some ⟨gp, 0, none⟩))) (go_keep)
                      (first
                        | (go_at_call 43; refine (HBa.out _ ?_).mono ?_; (first | exact gb_drew _ _ | exact gb_refl _ _); rintro e w5 ⟨y, rfl, H5, y1, y2, y3⟩))
                    go_wp2_with fail
                    go_meet
                    case rel => exact ⟨_, _, H5⟩
                  · rw [hp] at ha1
                    have H4 : Hid (∃ bad3, DR w (w3.setCell ⟨gr, 2, none⟩ (.bool true)) gr gs gp (strL b) p2 bad3 (Y : Int) D V Ld K ∧ (bad2 = false → x % 2 = 0 → bad3 = false) ∧ KeepT (5 :: tR) wr (w3.setCell ⟨gr, 2, none⟩ (.bool true))) := ⟨true, H3.out.1.mark true, fun _ h => absurd h (by omega), H3.out.2.trans (KeepT.of_own (gb_set w3 gr 2 _) H3.out.1.rdr (by simp [tR])).more⟩
                    clear H3 hp
                    go_upto_region 23 with fail
                    generalize w3.setCell ⟨gr, 2, none⟩ (.bool true) = w4 at *
                    have HBb : Hid (∀ W, w4.grownBy W none → Calls Tryd.prog 43 #[.pointer (some ⟨gr, 0, none⟩), .int .i64 64] W fun e w' => ∃ y : Nat, e = .returned (.int .u64 (y : Int)) ∧ Hid (DK w (w'.setCell ⟨gp, 2, none⟩ (.int .u64 (y : Int))) b gr gs gp 0 l (.slice aT 0 cT) (Y : Int) y) ∧ w'.cell? ⟨gr, 1, none⟩ = some (.pointer (some ⟨gp, 0, none⟩)) ∧ w'.cell? ⟨gp, 2, none⟩ = some (.int .u64 (V : Int)) ∧ w'.frozen? ⟨gp, 2, none⟩ = false) := fun W hW => by
                      obtain ⟨bad3, hD4, hb4, hk4⟩ := H4.out
                      refine (dBits_any w W gr gs gp p2 (strL b) bad3 (Y : Int) D V Ld K 64 (hD4.keep hW)).mono ?_
                      rintro e w' ⟨y, p4, bad4, q1, q2, q3, q4, q5⟩
                      have q6 := (q4 (by decide) (by decide)).2
                      have hYx := HY.out
                      refine ⟨y, q1, ?_, q3.cells.1.2.1, q3.cells.2.2.2.1, (q3.frz 2).1⟩
                      refine DK.of HR.out.2.2.2.2.2.2 ((hk4.trans ((KeepT.of_none hW).trans q5.more)).trans (KeepT.of_own (gb_set w' gp 2 _) q3.sta (by simp [tR])).more) ⟨⟨by omega, by omega⟩, q2⟩ HR.out.2.2.2.1 (q3.upd 2 (.int .u64 (y : Int)) (T' := (Y : Int)) (D' := D) (V' := y) (L' := Ld) (K' := K) (heap_setCell_same w' gp 2 _ _ _ q3.sta)) ?_
                      rw [← hYx]
                      exact EK.first HR.out.2.2.2.2.2.1 HC0.out (HX2.out trivial) hb4 q6
                    have c1 := H4.out.choose_spec.1.cells.1.2.1
                    have hgne : ¬ gr = gp := hne
                    have hgne2 : ¬ gp = gr := fun e => hne e.symm
                    clear H4 HX2
                    go_region_held3 (fun w' => w'.cell? ⟨gr, 1, none⟩ = some (.pointer (some ⟨gp, 0, none⟩))) (go_keep)
                      (first
                        | (go_at_call 43; refine (HBb.out _ ?_).mono ?_; (first | exact gb_drew _ _ | exact gb_refl _ _); rintro e w5 ⟨y, rfl, H5, y1, y2, y3⟩))
                    go_wp2_with fail
                    go_meet
                    case rel => exact ⟨_, _, H5⟩
              · by_cases hz1 : z = 1
                · as_aux_lemma =>
                    subst hz1
                    have HB := hidJ (dNumber_any w wr gr gs gp p (strL b) false T D V Ld K HR.out.2.2.2.2.1)
                    have HC1 : Hid (1 < cntN b) := by rw [HC.out]; exact hlt
                    go_upto_region 26 with (go_at_call 42; refine HB.out.mono ?_; rintro e w2 ⟨x, p2, bad2, rfl, hx, hD2, hex2, hk2⟩)
                    obtain ⟨⟨-, e1, e2⟩, e3, e5, -⟩ := hD2.cells
                    have e4 := (hD2.frz 2).2
                    have e6 := (hD2.frz 1).1
                    have hne : ¬ gr = gp := hD2.ne.1
                    have HD2 := hidJ (And.intro hD2 hk2)
                    have HX2 := hidJ hex2
                    clear hD2 hex2 hk2 HB
                    by_cases hgt : 1125899906842624 < x
                    · have HE : Hid (DK w (w2.setCell ⟨gr, 2, none⟩ (.bool true)) b gr gs gp 1 l (.slice aT 1 cT) T V) := DK.of HR.out.2.2.2.2.2.2 (HD2.out.2.trans (KeepT.of_own (gb_set w2 gr 2 _) HD2.out.1.rdr (by simp [tR])).more) HR.out.2.2.1 HR.out.2.2.2.1 (HD2.out.1.mark true) (EK.secondNot HR.out.2.2.2.2.2.1 HC1.out (HX2.out trivial) hgt)
                      have hgti : (1125899906842624 : Int) < (x : Int) := by omega
                      go_wp2_with fail
                      go_meet
                      case rel => exact ⟨_, _, HE⟩
                    · have hgti : ¬ (1125899906842624 : Int) < (x : Int) := by omega
                      have hxw : IntKind.i64.wrap (x : Int) = (x : Int) := by rw [IntKind.wrap_i64]; omega
                      have H3 : Hid (DR w (w2.setCell ⟨gp, 1, none⟩ (.int .i64 (x : Int))) gr gs gp (strL b) p2 bad2 T (x : Int) V Ld K ∧ KeepT (5 :: tR) wr (w2.setCell ⟨gp, 1, none⟩ (.int .i64 (x : Int)))) := ⟨HD2.out.1.upd 1 _ (heap_setCell_same w2 gp 1 _ _ _ HD2.out.1.sta), HD2.out.2.trans (KeepT.of_own (gb_set w2 gp 1 _) HD2.out.1.sta (by simp [tR])).more⟩
                      clear HD2
                      go_upto_region 29 with fail
                      generalize w2.setCell ⟨gp, 1, none⟩ (.int .i64 (x : Int)) = w3 at *
                      clear e1 e2 e3 e4 e5 e6
                      have HE2 : Hid (∀ v p4 bad4 Ld' K' T', T' = IntKind.i64.wrap (T + (x : Int)) → (bad2 = false → ∀ st f1 wd p1, Of st V Ld K → valO st (strL b) (8 * (strL b).length) p2 = some (f1, wd, p1) → v = f1 ∧ p4 = p1 ∧ bad4 = false ∧ Ld' = winL wd ∧ K' = winK wd) → EK b 1 l p4 bad4 T' (x : Int) v Ld' K') := fun v p4 bad4 Ld' K' T' hT' hv => EK.second HR.out.2.2.2.2.2.1 HC1.out (HX2.out trivial) hv hT'
                      generalize (x : Int) = D1 at *
                      obtain ⟨⟨-, e1, -⟩, e3, e5, -⟩ := H3.out.1.cells
                      have e4 := (H3.out.1.frz 0).1
                      obtain ⟨T', hT'⟩ : ∃ T', IntKind.i64.wrap (T + D1) = T' := ⟨_, rfl⟩
                      have HT' : Hid (T' = IntKind.i64.wrap (T + D1) ∧ -9223372036854775808 ≤ T' ∧ T' ≤ 9223372036854775807) := by
                        rw [IntKind.wrap_i64] at hT'
                        exact ⟨by rw [IntKind.wrap_i64]; exact hT'.symm, by omega, by omega⟩
                      have H4 : Hid (DR w (w3.setCell ⟨gp, 0, none⟩ (.int .i64 T')) gr gs gp (strL b) p2 bad2 T' D1 V Ld K ∧ KeepT (5 :: tR) wr (w3.setCell ⟨gp, 0, none⟩ (.int .i64 T'))) := ⟨H3.out.1.upd 0 _ (heap_setCell_same w3 gp 0 _ _ _ H3.out.1.sta), H3.out.2.trans (KeepT.of_own (gb_set w3 gp 0 _) H3.out.1.sta (by simp [tR])).more⟩
                      have hne2 : ¬ gp = gr := fun e => hne e.symm
                      clear H3
                      go_region
                      have H5 : Hid (DR w ((w3.setCell ⟨gp, 0, none⟩ (.int .i64 T')).drew) gr gs gp (strL b) p2 bad2 T' D1 V Ld K ∧ KeepT (5 :: tR) wr ((w3.setCell ⟨gp, 0, none⟩ (.int .i64 T')).drew)) := ⟨H4.out.1.keep (gb_drew _ _), H4.out.2.trans (KeepT.of_none (gb_drew _ _))⟩
                      clear H4 e1 e3 e4 e5 hT'
                      generalize (w3.setCell ⟨gp, 0, none⟩ (.int .i64 T')).drew = w4 at *
                      have HBv : Hid (∀ W, w4.grownBy W none → Calls Tryd.prog 44 #[.pointer (some ⟨gr, 0, none⟩)] W fun e w' => ∃ y : Nat, e = .returned (.int .u64 (y : Int)) ∧ Hid (DK w (w'.setCell ⟨gp, 2, none⟩ (.int .u64 (y : Int))) b gr gs gp 1 l (.slice aT 1 cT) T' y) ∧ w'.cell? ⟨gr, 1, none⟩ = some (.pointer (some ⟨gp, 0, none⟩)) ∧ w'.cell? ⟨gp, 2, none⟩ = some (.int .u64 (V : Int)) ∧ w'.frozen? ⟨gp, 2, none⟩ = false) := fun W hW => by
                        refine (dVal_any w W gr gs gp p2 (strL b) bad2 T' D1 V Ld K HR.out.2.2.1.2 HR.out.2.2.2.1 (H5.out.1.keep hW)).mono ?_
                        intro e w' hP
                        unfold VPost at hP
                        obtain ⟨y, p4, bad4, Ld', K', q1, q2, q3, q4, q5, q6⟩ := hP
                        refine ⟨y, q1, ?_, q3.cells.1.2.1, q3.cells.2.2.2.1, (q3.frz 2).1⟩
                        exact DK.of HR.out.2.2.2.2.2.2 ((H5.out.2.trans ((KeepT.of_none hW).trans q6.more)).trans (KeepT.of_own (gb_set w' gp 2 _) q3.sta (by simp [tR])).more) ⟨HT'.out.2, q2⟩ q4 (q3.upd 2 (.int .u64 (y : Int)) (T' := T') (D' := D1) (V' := y) (L' := Ld') (K' := K') (heap_setCell_same w' gp 2 _ _ _ q3.sta)) (HE2.out y p4 bad4 Ld' K' T' HT'.out.1 q5)
                      have c1 := H5.out.1.cells.1.2.1
                      clear H5
                      go_wp2_with fail
                      go_region_held3 (fun w' => w'.cell? ⟨gr, 1, none⟩ = some (.pointer (some ⟨gp, 0, none⟩))) (go_keep)
                        (first
                          | (go_at_call 44; refine (HBv.out _ ?_).mono ?_; (first | exact gb_drew _ _ | exact gb_refl _ _); rintro e w5 ⟨y, rfl, H6, y1, y2, y3⟩))
                      go_wp2_with fail
                      go_meet
                      case rel => exact ⟨_, _, H6⟩
                · as_aux_lemma =>
                    have hz0i : ((z : Int) == 0) = false := by rw [beq_eq_false_iff_ne]; omega
                    have hz1i : ((z : Int) == 1) = false := by rw [beq_eq_false_iff_ne]; omega
                    have HB := hidJ (dTurn_any w wr gr gs gp p (strL b) false T D V Ld K HR.out.2.2.2.2.1)
                    have HC1 : Hid (z < cntN b ∧ 2 ≤ z) := by rw [HC.out]; exact ⟨hlt, by omega⟩
                    go_upto_region 13 with (go_at_call 45; refine HB.out.mono ?_; rintro e w2 ⟨d, p2, bad2, rfl, hd, hD2, hex2, hk2⟩)
                    obtain ⟨⟨-, e1, e2⟩, e3, e5, -⟩ := hD2.cells
                    have e4 := (hD2.frz 2).2
                    have e6 := (hD2.frz 1).1
                    have hne : ¬ gr = gp := hD2.ne.1
                    have hne2 : ¬ gp = gr := fun e => hne e.symm
                    have HD2 := hidJ (And.intro hD2 hk2)
                    have HX2 := hidJ hex2
                    clear hD2 hex2 hk2 HB
                    by_cases hgt : 1125899906842624 < d ∨ d < -1125899906842624
                    · have HE : Hid (DK w (w2.setCell ⟨gr, 2, none⟩ (.bool true)) b gr gs gp z l (.slice aT z cT) T V) := DK.of HR.out.2.2.2.2.2.2 (HD2.out.2.more.trans (KeepT.of_own (gb_set w2 gr 2 _) HD2.out.1.rdr (by simp [tR])).more) HR.out.2.2.1 HR.out.2.2.2.1 (HD2.out.1.mark true) (EK.otherNot HC1.out.2 HR.out.2.2.2.2.2.1 HC1.out.1 (HX2.out trivial) hgt)
                      rcases hgt with hgt | hgt
                      · go_wp2_with fail
                        go_meet
                        case rel => exact ⟨_, _, HE⟩
                      · have hng : ¬ 1125899906842624 < d := by omega
                        go_wp2_with fail
                        go_meet
                        case rel => exact ⟨_, _, HE⟩
                    · have hg1 : ¬ 1125899906842624 < d := fun h => hgt (.inl h)
                      have hg2 : ¬ d < -1125899906842624 := fun h => hgt (.inr h)
                      clear hgt
                      go_upto_region 15 with fail
                      obtain ⟨D1, hD1⟩ : ∃ D1, IntKind.i64.wrap (D + d) = D1 := ⟨_, rfl⟩
                      have HD1 := hidJ hD1
                      have H3 : Hid (DR w (w2.setCell ⟨gp, 1, none⟩ (.int .i64 D1)) gr gs gp (strL b) p2 bad2 T D1 V Ld K ∧ KeepT (5 :: tR) wr (w2.setCell ⟨gp, 1, none⟩ (.int .i64 D1))) := ⟨HD2.out.1.upd 1 _ (heap_setCell_same w2 gp 1 _ _ _ HD2.out.1.sta), HD2.out.2.more.trans (KeepT.of_own (gb_set w2 gp 1 _) HD2.out.1.sta (by simp [tR])).more⟩
                      clear HD2
                      go_region
                      as_aux_lemma =>
                        have H3b : Hid (DR w ((w2.setCell ⟨gp, 1, none⟩ (.int .i64 D1)).drew) gr gs gp (strL b) p2 bad2 T D1 V Ld K ∧ KeepT (5 :: tR) wr ((w2.setCell ⟨gp, 1, none⟩ (.int .i64 D1)).drew)) := ⟨H3.out.1.keep (gb_drew _ _), H3.out.2.trans (KeepT.of_none (gb_drew _ _))⟩
                        have HE2 : Hid (∀ v p4 bad4 Ld' K' T', T' = IntKind.i64.wrap (T + D1) → (bad2 = false → ∀ st f1 wd p1, Of st V Ld K → valO st (strL b) (8 * (strL b).length) p2 = some (f1, wd, p1) → v = f1 ∧ p4 = p1 ∧ bad4 = false ∧ Ld' = winL wd ∧ K' = winK wd) → EK b z l p4 bad4 T' D1 v Ld' K') := fun v p4 bad4 Ld' K' T' hT' hv => EK.other HC1.out.2 HR.out.2.2.2.2.2.1 HC1.out.1 (HX2.out trivial) hv HD1.out.symm hT'
                        clear H3 HX2 e1 e2 e3 e4 e5 e6 hD1 hd
                        have H3 := H3b
                        clear H3b
                        generalize (w2.setCell ⟨gp, 1, none⟩ (.int .i64 D1)).drew = w3 at *
                        go_upto_region 16 with fail
                        obtain ⟨⟨-, e1, -⟩, e3, e5, -⟩ := H3.out.1.cells
                        have e4 := (H3.out.1.frz 0).1
                        obtain ⟨T', hT'⟩ : ∃ T', IntKind.i64.wrap (T + D1) = T' := ⟨_, rfl⟩
                        have HT' : Hid (T' = IntKind.i64.wrap (T + D1) ∧ -9223372036854775808 ≤ T' ∧ T' ≤ 9223372036854775807) := by
                          rw [IntKind.wrap_i64] at hT'
                          exact ⟨by rw [IntKind.wrap_i64]; exact hT'.symm, by omega, by omega⟩
                        have H4 : Hid (DR w (w3.setCell ⟨gp, 0, none⟩ (.int .i64 T')) gr gs gp (strL b) p2 bad2 T' D1 V Ld K ∧ KeepT (5 :: tR) wr (w3.setCell ⟨gp, 0, none⟩ (.int .i64 T'))) := ⟨H3.out.1.upd 0 _ (heap_setCell_same w3 gp 0 _ _ _ H3.out.1.sta), H3.out.2.trans (KeepT.of_own (gb_set w3 gp 0 _) H3.out.1.sta (by simp [tR])).more⟩
                        clear H3
                        go_region
                        have H5 : Hid (DR w ((w3.setCell ⟨gp, 0, none⟩ (.int .i64 T')).drew) gr gs gp (strL b) p2 bad2 T' D1 V Ld K ∧ KeepT (5 :: tR) wr ((w3.setCell ⟨gp, 0, none⟩ (.int .i64 T')).drew)) := ⟨H4.out.1.keep (gb_drew _ _), H4.out.2.trans (KeepT.of_none (gb_drew _ _))⟩
                        clear H4 e1 e3 e4 e5 hT'
                        generalize (w3.setCell ⟨gp, 0, none⟩ (.int .i64 T')).drew = w4 at *
                        have HBv : Hid (∀ W, w4.grownBy W none → Calls Tryd.prog 44 #[.pointer (some ⟨gr, 0, none⟩)] W fun e w' => ∃ y : Nat, e = .returned (.int .u64 (y : Int)) ∧ Hid (DK w (w'.setCell ⟨gp, 2, none⟩ (.int .u64 (y : Int))) b gr gs gp z l (.slice aT z cT) T' y) ∧ w'.cell? ⟨gr, 1, none⟩ = some (.pointer (some ⟨gp, 0, none⟩)) ∧ w'.cell? ⟨gp, 2, none⟩ = some (.int .u64 (V : Int)) ∧ w'.frozen? ⟨gp, 2, none⟩ = false) := fun W hW => by
                          refine (dVal_any w W gr gs gp p2 (strL b) bad2 T' D1 V Ld K HR.out.2.2.1.2 HR.out.2.2.2.1 (H5.out.1.keep hW)).mono ?_
                          intro e w' hP
                          unfold VPost at hP
                          obtain ⟨y, p4, bad4, Ld', K', q1, q2, q3, q4, q5, q6⟩ := hP
                          refine ⟨y, q1, ?_, q3.cells.1.2.1, q3.cells.2.2.2.1, (q3.frz 2).1⟩
                          exact DK.of HR.out.2.2.2.2.2.2 ((H5.out.2.trans ((KeepT.of_none hW).trans q6.more)).trans (KeepT.of_own (gb_set w' gp 2 _) q3.sta (by simp [tR])).more) ⟨HT'.out.2, q2⟩ q4 (q3.upd 2 (.int .u64 (y : Int)) (T' := T') (D' := D1) (V' := y) (L' := Ld') (K' := K') (heap_setCell_same w' gp 2 _ _ _ q3.sta)) (HE2.out y p4 bad4 Ld' K' T' HT'.out.1 q5)
                        have c1 := H5.out.1.cells.1.2.1
                        clear H5
                        go_wp2_with fail
                        go_region_held3 (fun w' => w'.cell? ⟨gr, 1, none⟩ = some (.pointer (some ⟨gp, 0, none⟩))) (go_keep)
                          (first
                            | (go_at_call 44; refine (HBv.out _ ?_).mono ?_; (first | exact gb_drew _ _ | exact gb_refl _ _); rintro e w5 ⟨y, rfl, H6, y1, y2, y3⟩))
                        go_wp2_with fail
                        go_meet
                        case rel => exact ⟨_, _, H6⟩
            case rest =>
              as_aux_lemma =>
                obtain ⟨T', V', hK⟩ := hcut
                have HB3 : Hid (l.length = z ∧ z ≤ 1000 ∧ SmIn l) := ⟨HR.out.1, by omega, HR.out.2.1⟩
                have hcc : wc.cell? ⟨gr, 1, none⟩ = some (.pointer (some ⟨gp, 0, none⟩)) ∧ wc.cell? ⟨gp, 0, none⟩ = some (.int .i64 T') ∧ wc.frozen? ⟨gr, 2, none⟩ = false ∧ (∃ bad, wc.cell? ⟨gr, 2, none⟩ = some (.bool bad)) ∧ gr ≠ gp := by
                  obtain ⟨p', bad', D', Ld', K', -, -, hD, -, -⟩ := hK.out
                  exact ⟨hD.cells.1.2.1, hD.cells.2.1, (hD.frz 2).2, ⟨_, hD.cells.1.2.2⟩, hD.ne.1⟩
                obtain ⟨c1, c2, c3, ⟨bd, c4⟩, hne⟩ := hcc
                clear HR
                generalize wc = w3 at *
                go_upto_region 31 with fail
                go_cut [202] from 44 to 224 (fun s wx => ∃ B : Bool, s = .bool B ∧ Hid (B = true ↔ (T' < 0 ∨ 1125899906842624 < T')) ∧ wx = w3)
                case first =>
                  by_cases hT0 : T' < 0
                  · as_aux_lemma =>
                      go_wp2_with fail
                      go_meet
                      case rel => exact ⟨true, by simp, ⟨fun _ => .inl hT0, fun _ => rfl⟩, rfl⟩
                  · by_cases hT1 : 1125899906842624 < T'
                    · as_aux_lemma =>
                        go_wp2_with fail
                        go_meet
                        case rel => exact ⟨true, by simp, ⟨fun _ => .inr hT1, fun _ => rfl⟩, rfl⟩
                    · as_aux_lemma =>
                        go_wp2_with fail
                        go_meet
                        case rel => exact ⟨false, by simp, ⟨(fun h => by cases h), (fun h => by omega)⟩, rfl⟩
                case rest =>
                  as_aux_lemma =>
                    obtain ⟨B, rfl, hB, rfl⟩ := hcut
                    go_upto_if 202 with fail
                    go_cut [8] from 44 to 224 (fun _ wx => Hid (DM w wx b gr gs gp z l (.slice aT z cT) T' V'))
                    case first =>
                      cases B with
                      | true =>
                        as_aux_lemma =>
                          have HE := hidJ (hK.out.out_ (hB.out.1 rfl))
                          clear hK hB
                          go_wp2_with fail
                          go_meet
                          case rel => exact HE
                      | false =>
                        as_aux_lemma =>
                          have HE := hidJ hK.out.in_
                          clear hK hB
                          go_wp2_with fail
                          go_meet
                          case rel => exact HE
                    case rest =>
                      as_aux_lemma =>
                        clear hK hB c1 c2 c3 c4
                        obtain ⟨f1, f2, f3, f4⟩ := hcut.out.cells
                        have hM := hcut
                        clear hcut
                        generalize wc = w4 at *
                        have hff := ffrom_run V' f4
                        have HP : Hid (∀ X : World, w4.grownBy X none → X.heap = (w4.alloc (.cells #[.int .i64 T', .float .f64 V'] 27)).heap → ∃ a2 c2 W2, (Builtin.append_ #[22, 22] 22 #[.slice aT z cT, .slice (some ⟨w4.heap.size, 0, none⟩) 1 1]).run Tryd.prog X = .ok (.slice a2 (z + 1) c2) W2 ∧ (Hid (DJ w W2 b gr gs gp (z + 1) (.slice a2 (z + 1) c2)) ∧ W2.cell? ⟨gr, 1, none⟩ = some (.pointer (some ⟨gp, 0, none⟩)) ∧ W2.cell? ⟨gp, 0, none⟩ = some (.int .i64 T') ∧ W2.cell? ⟨gp, 2, none⟩ = some (.int .u64 (V' : Int)))) := fun X hX hh => by
                          obtain ⟨a2, c2, W2, q1, q2⟩ := hM.out.push HB3.out.1 HB3.out.2.1 HB3.out.2.2 hX hh
                          exact ⟨a2, c2, W2, q1, q2⟩
                        clear hM
                        go_upto_region 33 with fail
                        clear HV HN HB3
                        go_region_held3 (fun w' => w'.cell? ⟨gr, 1, none⟩ = some (.pointer (some ⟨gp, 0, none⟩)) ∧ w'.cell? ⟨gp, 0, none⟩ = some (.int .i64 T') ∧ w'.cell? ⟨gp, 2, none⟩ = some (.int .u64 (V' : Int))) (first | (refine ⟨?_, ?_, ?_⟩ <;> (first | assumption | exact f1 | exact f2 | exact f3 | exact (World.cell?_of_block ((alloc_gb _ _).block _ (block_lt f1) (by simp))).trans f1 | exact (World.cell?_of_block ((alloc_gb _ _).block _ (block_lt f2) (by simp))).trans f2 | exact (World.cell?_of_block ((alloc_gb _ _).block _ (block_lt f3) (by simp))).trans f3)))
                          (first
                            | (with_reducible refine step_ff rfl (.tmp 220) rfl V' f4 (by simp [Act.eval]) ?_)
                            | (refine step_appRun rfl (.tmp 206) (.tmp 223) 22 rfl _ _ (by simp [Act.eval]) (by simp [Act.eval]) (z + 1) (fun a2 c2 W2 => Hid (DJ w W2 b gr gs gp (z + 1) (.slice a2 (z + 1) c2)) ∧ W2.cell? ⟨gr, 1, none⟩ = some (.pointer (some ⟨gp, 0, none⟩)) ∧ W2.cell? ⟨gp, 0, none⟩ = some (.int .i64 T') ∧ W2.cell? ⟨gp, 2, none⟩ = some (.int .u64 (V' : Int))) (HP.out _ (gb_none (alloc_gb _ _) (gb_drew _ _)) rfl) ?_; rintro a5 c5 w5 ⟨H5, y1, y2, y3⟩))
                        all_goals as_aux_lemma =>
                          clear HP hff y1 y2 y3
                          go_wp2_with fail
                          go_roundw
                          case rel => first | exact ⟨z + 1, a5, c5, by omega, by go_num, rfl, H5⟩ | (refine ⟨_, _, _, ⟨z + 1, a5, c5, by omega, by go_num, rfl, H5⟩, rfl⟩)
                          case measure => simp [intOf]; omega
        · obtain rfl : z = C := by omega
          have HE := hidJ (hr.out.out HC.out.symm)
          clear hr
          go_wp2_with fail
          go_meet
          case rel => exact ⟨z, aT, cT, rfl, HE⟩
    case rest =>
      obtain ⟨n, aT, cT, rfl, H⟩ := hcut
      obtain ⟨l, p, bad, T, D, V, Ld, K, h1, h2, h3, h4, h5, h6⟩ := H.out
      obtain ⟨⟨-, -, cb⟩, -⟩ := h3.cells
      have HG := hidJ h3.old
      cases bad with
      | true =>
        have HE : Hid (DPost w b (.returned (.tuple #[.slice none 0 0, .int .i64 3])) wc) := ⟨.inr ⟨rfl, h5 rfl⟩, h3.old⟩
        clear h1 h2 h3 h4 h5 h6 H HJ
        go_wp2
        go_ret2
        exact HE.out
      | false =>
        have HB : Hid (Calls Tryd.prog 21 #[.slice aT n cT] wc fun e w' => ∃ v' q r, e = .returned (.tuple #[v', .int .i64 q, .int .i64 r]) ∧ Hid (w.grownBy w' none ∧ w'.ownsRow w.heap.size 27 2 (.slice aT n cT) l.length (smC l) ∧ ((q = 0 ∧ okL startP l ∧ Rd w' v' (ckB l)) ∨ (q ≠ 0 ∧ ∀ m, okL startP m → b ≠ ckB m)))) := by
          have hrow : ∀ w', wc.grownBy w' none → w'.ownsRow w.heap.size 27 2 (.slice aT n cT) l.length (smC l) := fun w' hg => rowP_low (row_ch h6 (Ch.of_gb (S := fun _ => False) hg (fun k hk => by cases hk)) (fun _ _ e => e)) (by have := h3.nr; omega)
          refine (dEncode_any wc (.slice aT n cT) l (RdP.of_row h6) h2).mono ?_
          rintro e w' ⟨⟨hok, v', rfl, ho⟩ | ⟨z, hz, hz1, hz2, rfl⟩, hg⟩
          · exact ⟨v', 0, 0, rfl, gb_none h3.old hg, hrow _ hg, .inl ⟨rfl, hok, ho.rd⟩⟩
          · refine ⟨_, _, _, rfl, gb_none h3.old hg, hrow _ hg, .inr ⟨hz2, fun m hm e => hz2 ?_⟩⟩
            have := h4 rfl m hm e
            subst this
            have hok := okL_take hm (z + 1)
            rw [take_snocS hz, okL_snoc] at hok
            exact hok.2.1
        have HX := hidJ (h4 rfl)
        clear h1 h2 h3 h4 h5 h6 H HJ
        go_upto_region 37 with (go_at_call 21; refine HB.out.mono ?_; rintro e w2 ⟨v', q, r, rfl, H2⟩)
        by_cases hq : q = 0
        · subst hq
          have hR : okL startP l ∧ Rd w2 v' (ckB l) := by
            rcases H2.out.2.2 with ⟨-, q1⟩ | ⟨q1, -⟩
            · exact q1
            · exact absurd rfl q1
          have c1 := run_strU hR.2
          have c2 := run_strU (HV.out.keep H2.out.1)
          rw [HN.out] at c2
          by_cases hb : ckB l = b
          · have HE : Hid (DPost w b (.returned (.tuple #[.slice aT n cT, .int .i64 0])) w2) := ⟨.inl ⟨l, _, rfl, hR.1, hb.symm, H2.out.2.1⟩, H2.out.1⟩
            rw [hb] at c1
            clear hR hb HB
            go_wp2
            go_ret2
            exact HE.out
          · have HE : Hid (DPost w b (.returned (.tuple #[.slice none 0 0, .int .i64 3])) w2) := ⟨.inr ⟨rfl, fun m hm e => hb (by rw [HX.out m hm e, e])⟩, H2.out.1⟩
            have hne := neB hb
            obtain ⟨X, hX⟩ : ∃ X, ckB l = X := ⟨_, rfl⟩
            rw [hX] at c1 hne
            clear hR hb HB hX
            go_wp2
            go_ret2
            exact HE.out
        · have HE : Hid (DPost w b (.returned (.tuple #[.slice none 0 0, .int .i64 3])) w2) := by
            rcases H2.out.2.2 with ⟨q1, -⟩ | ⟨-, q1⟩
            · exact absurd q1 hq
            · exact ⟨.inr ⟨rfl, q1⟩, H2.out.1⟩
          have hqb : (q == 0) = false := by rw [beq_eq_false_iff_ne]; exact hq
          clear HB
          go_wp2
          go_ret2
          exact HE.out
end Go.Proofs.YtkiefmhampfhoaaDoor
