/-
  Put of an alert that is taken: the walk.
-/
import Derived.Test.YtmgbcmogdjhacaaDoorAl7
namespace Go.Proofs.YtmgbcmogdjhacaaDoor
open Go.RowKit Go.Shelf Go.Maps Go.WideMaps

theorem PrjOK.keep {w w' : World} {S : Nat → Prop} {gx : Nat} {R most : Int} {M : List AlR} (h : PrjOK w S gx R most M) (hg : w.grownBy w' none) : PrjOK w' S gx R most M := by
  obtain ⟨gm, D, hv, h⟩ := h
  exact ⟨gm, D, hv, h.keep hg⟩
theorem drewOK {w w5 : World} {S : Nat → Prop} {gx : Nat} {R most : Int} {M : List AlR} (h : PrjOK w5 (Gr S w w5) gx R most M ∧ Ch w w5 S) : PrjOK w5.drew (Gr S w w5.drew) gx R most M ∧ Ch w w5.drew S :=
  ⟨h.1.keep (gb_drew _ none), h.2.trans (Ch.of_gb (S := S) (gb_drew _ none) (fun k hk => by cases hk)) (fun _ _ e => e)⟩
set_option maxRecDepth 8000 in
set_option maxHeartbeats 12800000 in
theorem put_ok (w : World) (S : Nat → Prop) (gx : Nat) (R most now st en : Int) (M : List AlR) (a : Option Addr) (c : Nat) (ls : List LbT) (gm : Nat) (D : DataW Unit) (hv : List LbT → Value) (h : PrjA w S gx R most M gm D hv) (hu : RdL w (.slice a ls.length c) ls) (hl : LbIn ls) (hT : U8S w) (hE : dateE R now ⟨ls, st, en⟩ = 0)
    (v1 : Option Addr) (v2 v3 : Nat) (vs ve sN : Int) (th : Bool) (HL : Hid (∀ W, w.grownBy W none → (Instr.lookup 59 (.map (some gm)) (.string (ByteArray.mk ⟨keyB ls⟩)) true).run Tryd.prog W = .ok (.tuple #[.agg #[.slice v1 v2 v3, .int .i64 vs, .int .i64 ve], .bool th]) W))
    (hth : th = false → ¬ most ≤ (M.length : Int)) (hN : newA R now ⟨ls, st, en⟩ M = ⟨ls, sN, enD R now ⟨ls, st, en⟩⟩) (hs1 : th = true → now < ve → sN = min (stD now ⟨ls, st, en⟩) vs) (hs2 : th = true → ¬ now < ve → sN = stD now ⟨ls, st, en⟩) (hs3 : th = false → sN = stD now ⟨ls, st, en⟩) (hok : okM most (addA M ⟨ls, sN, enD R now ⟨ls, st, en⟩⟩)) :
    Calls Tryd.prog 17 #[.pointer (some ⟨gx, 0, none⟩), .int .i64 now, .agg #[.slice a ls.length c, .int .i64 st, .int .i64 en]] w fun e w' => e = .returned (.int .i64 0) ∧ PrjOK w' (Gr S w w') gx R most (addA M (newA R now ⟨ls, st, en⟩ M)) ∧ Ch w w' S := by
  rw [hN]
  have HP := hidJ h
  have HD := hidJ (dated_put w gx R now st en a c ls h.cells.1 h.res hu hl hT)
  have hr : dRes R now (.slice a ls.length c) ⟨ls, st, en⟩ = .agg #[.slice a ls.length c, .int .i64 (stD now ⟨ls, st, en⟩), .int .i64 (enD R now ⟨ls, st, en⟩)] := by unfold dRes; rw [if_pos hE]; rfl
  rw [hr, hE] at HD
  have HRT := hidJ (dateE_ok hE).2.1
  have HU := hidJ (And.intro hu (And.intro hl hT))
  have HOK := hidJ hok
  generalize stD now ⟨ls, st, en⟩ = sd at *
  generalize enD R now ⟨ls, st, en⟩ = ed at *
  clear h hu hl hT hr hE hok hN
  cases th with
  | false =>
    have hN := (hs3 rfl).symm
    subst hN
    have hm := hth rfl
    clear hs1 hs2 hs3 hth
    go_enter Tryd.func17, Tryd.ntmps17
    go_wp2_with fail
    refine HD.out.mono ?_
    rintro e w1 ⟨rfl, H1⟩
    clear HD
    obtain ⟨d0, d1, d2, e0, e1, e2⟩ := H1.out.2.cells
    have HW1 : Hid (∀ W, W = ((w1.setCell ⟨w.heap.size, 0, none⟩ (.slice a ls.length c)).setCell ⟨w.heap.size, 1, none⟩ (.int .i64 sd)).setCell ⟨w.heap.size, 2, none⟩ (.int .i64 ed) → w.grownBy W none ∧ B3 W w.heap.size 34 (.slice a ls.length c) (.int .i64 sd) (.int .i64 ed)) := by
      rintro W rfl
      exact ⟨set3_gb H1.out.1 (Nat.le_refl _), set3 H1.out.2⟩
    go_wp2_with fail
    generalize ((w1.setCell ⟨w.heap.size, 0, none⟩ (.slice a ls.length c)).setCell ⟨w.heap.size, 1, none⟩ (.int .i64 sd)).setCell ⟨w.heap.size, 2, none⟩ (.int .i64 ed) = W1 at *
    have H2 := hidJ (HW1.out _ rfl)
    clear HW1 H1 d0 d1 d2 e0 e1 e2
    have HK : Hid (Calls Tryd.prog 35 #[.slice a ls.length c] W1 fun e w' => e = .returned (.tuple #[.string (ByteArray.mk ⟨keyB ls⟩), .bool true]) ∧ (Instr.lookup 59 (.map (some gm)) (.string (ByteArray.mk ⟨keyB ls⟩)) true).run Tryd.prog w' = .ok (.tuple #[.agg #[.slice v1 v2 v3, .int .i64 vs, .int .i64 ve], .bool false]) w' ∧ w'.cell? ⟨gx, 2, none⟩ = some (.map (some gm)) ∧ (∀ C, (w'.alloc C).cell? ⟨gx, 1, none⟩ = some (.int .i64 most)) ∧ (∀ C, (w'.alloc C).cell? ⟨gx, 2, none⟩ = some (.map (some gm))) ∧ (∀ C n ty, (Builtin.len_ #[59] ty #[.map (some gm)]).run Tryd.prog ((w'.alloc C).drewN n) = .ok (.int .i64 (M.length : Int)) ((w'.alloc C).drewN n)) ∧ Hid (w.grownBy w' none ∧ B3 w' w.heap.size 34 (.slice a ls.length c) (.int .i64 sd) (.int .i64 ed))) := by
      refine (keyOf_any W1 _ ls (HU.out.1.keep H2.out.1) HU.out.2.1 (HU.out.2.2.keep H2.out.1)).mono ?_
      rintro e w' ⟨rfl, q⟩
      have g := gb_none H2.out.1 q
      have hk := HP.out.keep g
      have hlk := HL.out _ g
      rw [(keyF_right HRT.out).1, decide_eq_true HRT.out]
      exact ⟨rfl, hlk, hk.cells.2.2, fun C => (hk.keep (World.grownBy_alloc _ C none)).cells.2.1, fun C => (hk.keep (World.grownBy_alloc _ C none)).cells.2.2, fun C n ty => (hk.keep (gb_none (World.grownBy_alloc _ C none) (gb_drewN _ n))).len ty, g, H2.out.2.keep q⟩
    refine HK.out.mono ?_
    rintro e w2 ⟨rfl, lk, c2, a1, a2, a3, H3⟩
    clear HK
    obtain ⟨KS, hKS⟩ : ∃ KS, KS = ByteArray.mk ⟨keyB ls⟩ := ⟨_, rfl⟩
    have HKS := hidJ hKS
    rw [← hKS] at lk
    rw [← hKS]
    clear hKS
    generalize M.length = N at *
    go_wp2_with fail
    go_quiet (fail)
    go_wp2_with fail
    have HW3 : Hid (w.grownBy ((w2.alloc (.cells #[.slice v1 v2 v3, .int .i64 vs, .int .i64 ve] 34)).drewN nq) none ∧ B3 ((w2.alloc (.cells #[.slice v1 v2 v3, .int .i64 vs, .int .i64 ve] 34)).drewN nq) w.heap.size 34 (.slice a ls.length c) (.int .i64 sd) (.int .i64 ed)) := by
      have g := gb_none (World.grownBy_alloc w2 (.cells #[.slice v1 v2 v3, .int .i64 vs, .int .i64 ve] 34) none) (gb_drewN _ nq)
      exact ⟨gb_none H3.out.1 g, H3.out.2.keep g⟩
    generalize (w2.alloc (.cells #[.slice v1 v2 v3, .int .i64 vs, .int .i64 ve] 34)).drewN nq = W3 at *
    clear lk c2 a1 a2 a3 H3 H2
    have HCP : Hid (∀ W, W3.grownBy W none → Calls Tryd.prog 26 #[.agg #[.slice a ls.length c, .int .i64 sd, .int .i64 ed]] W fun e w4 => ∃ a' n' c', e = .returned (.agg #[.slice a' n' c', .int .i64 sd, .int .i64 ed]) ∧ w4.cell? ⟨gx, 2, none⟩ = some (.map (some gm)) ∧ w4.cell? ⟨w.heap.size, 0, none⟩ = some (.slice a ls.length c) ∧ w4.cell? ⟨w.heap.size, 1, none⟩ = some (.int .i64 sd) ∧ w4.cell? ⟨w.heap.size, 2, none⟩ = some (.int .i64 ed) ∧ ∃ w5, (Instr.mapUpdate 59 (.map (some gm)) (.string KS) (.agg #[.slice a' n' c', .int .i64 sd, .int .i64 ed])).run Tryd.prog w4 = .ok () w5 ∧ w5.cell? ⟨gx, 2, none⟩ = some (.map (some gm)) ∧ w5.cell? ⟨w.heap.size, 0, none⟩ = some (.slice a ls.length c) ∧ w5.cell? ⟨w.heap.size, 1, none⟩ = some (.int .i64 sd) ∧ w5.cell? ⟨w.heap.size, 2, none⟩ = some (.int .i64 ed) ∧ Hid (PrjOK w5 (Gr S w w5) gx R most (addA M ⟨ls, sd, ed⟩) ∧ Ch w w5 S)) := by
      intro W hW
      have g3 := gb_none HW3.out.1 hW
      have hl16 := (right_short HRT.out).1
      refine (copyOf_any W (.slice a ls.length c) ls sd ed (HU.out.1.keep g3) (by omega)).mono ?_
      rintro e w4 ⟨v', rfl, q1, q2⟩
      have g4 := gb_none g3 q2
      have hk := HP.out.keep g4
      have b4 := (HW3.out.2.keep hW).keep q2
      have hz := g3.size
      obtain ⟨w5, r1, r2, r3⟩ := hk.put (a := ⟨ls, sd, ed⟩) (u := v') HRT.out (q1.mono (Nat.zero_le _)) (fun k hk' => by
        have h1 := (q1.lt k hk').1
        have h2 := some_lt HP.out.box
        have h3 := HP.out.mp.lt
        omega) HOK.out
      obtain ⟨a', c', e'⟩ := q1.shape
      subst e'
      have b5 : B3 w5 w.heap.size 34 (.slice a ls.length c) (.int .i64 sd) (.int .i64 ed) := (r2.block w.heap.size (some_lt b4) (by intro e; injection e with e; have := HP.out.mp.lt; omega)).trans b4
      obtain ⟨x0, x1, x2, -⟩ := b4.cells
      obtain ⟨y0, y1, y2, -⟩ := b5.cells
      rw [HKS.out]
      refine ⟨a', _, c', rfl, hk.cells.2.2, x0, x1, x2, w5, r1, r3.cells.2.2, y0, y1, y2, ⟨gm, _, _, r3.mono (fun k hk' e => ?_)⟩, ?_⟩
      · rcases e with e | e
        · exact .inl e
        · exact .inr ⟨by have := (q1.lt k e).1; omega, by have := (q1.lt k e).2; have := r2.size; omega⟩
      · exact (Ch.of_gb g4 (fun k hk' => by cases hk')).trans (Ch.of_gb (S := S) r2 (fun k hk' _ => by cases hk'; exact HP.out.inM)) (fun _ _ e => e)
    have k2 := (HP.out.keep HW3.out.1).cells.2.2
    obtain ⟨l0, l1, l2, -⟩ := HW3.out.2.cells
    clear HP HU HOK
    go_region_held3 (fun w' => w'.cell? ⟨gx, 2, none⟩ = some (.map (some gm)) ∧ w'.cell? ⟨w.heap.size, 0, none⟩ = some (.slice a ls.length c) ∧ w'.cell? ⟨w.heap.size, 1, none⟩ = some (.int .i64 sd) ∧ w'.cell? ⟨w.heap.size, 2, none⟩ = some (.int .i64 ed)) (go_keep)
      (first | (go_at_call 26; with_reducible refine (HCP.out _ ?_).mono ?_; (first | exact gb_refl _ _ | exact gb_drew _ none); rintro e w4 ⟨a4, n4, c4, rfl, p0, p1, p2, p3, w5, hrun, s0, s1, s2, s3, H5⟩))
    clear hrun HCP
    go_wp2
    go_ret
    first | exact ⟨rfl, H5.out⟩ | exact ⟨rfl, drewOK H5.out⟩
  | true =>
    by_cases hnv : now < ve
    · have hN := hs1 rfl hnv
      have HN := hidJ hN
      clear hs1 hs2 hs3 hth hN
      have hgd : decide (now < ve) = true := decide_eq_true hnv
      go_enter Tryd.func17, Tryd.ntmps17
      go_wp2_with fail
      refine HD.out.mono ?_
      rintro e w1 ⟨rfl, H1⟩
      clear HD
      obtain ⟨d0, d1, d2, e0, e1, e2⟩ := H1.out.2.cells
      have HW1 : Hid (∀ W, W = ((w1.setCell ⟨w.heap.size, 0, none⟩ (.slice a ls.length c)).setCell ⟨w.heap.size, 1, none⟩ (.int .i64 sd)).setCell ⟨w.heap.size, 2, none⟩ (.int .i64 ed) → w.grownBy W none ∧ B3 W w.heap.size 34 (.slice a ls.length c) (.int .i64 sd) (.int .i64 ed)) := by
        rintro W rfl
        exact ⟨set3_gb H1.out.1 (Nat.le_refl _), set3 H1.out.2⟩
      go_wp2_with fail
      generalize ((w1.setCell ⟨w.heap.size, 0, none⟩ (.slice a ls.length c)).setCell ⟨w.heap.size, 1, none⟩ (.int .i64 sd)).setCell ⟨w.heap.size, 2, none⟩ (.int .i64 ed) = W1 at *
      have H2 := hidJ (HW1.out _ rfl)
      clear HW1 H1 d0 d1 d2 e0 e1 e2
      have HK : Hid (Calls Tryd.prog 35 #[.slice a ls.length c] W1 fun e w' => e = .returned (.tuple #[.string (ByteArray.mk ⟨keyB ls⟩), .bool true]) ∧ (Instr.lookup 59 (.map (some gm)) (.string (ByteArray.mk ⟨keyB ls⟩)) true).run Tryd.prog w' = .ok (.tuple #[.agg #[.slice v1 v2 v3, .int .i64 vs, .int .i64 ve], .bool true]) w' ∧ w'.cell? ⟨gx, 2, none⟩ = some (.map (some gm)) ∧ (∀ C, (w'.alloc C).cell? ⟨gx, 1, none⟩ = some (.int .i64 most)) ∧ (∀ C, (w'.alloc C).cell? ⟨gx, 2, none⟩ = some (.map (some gm))) ∧ (∀ C n ty, (Builtin.len_ #[59] ty #[.map (some gm)]).run Tryd.prog ((w'.alloc C).drewN n) = .ok (.int .i64 (M.length : Int)) ((w'.alloc C).drewN n)) ∧ Hid (w.grownBy w' none ∧ B3 w' w.heap.size 34 (.slice a ls.length c) (.int .i64 sd) (.int .i64 ed))) := by
        refine (keyOf_any W1 _ ls (HU.out.1.keep H2.out.1) HU.out.2.1 (HU.out.2.2.keep H2.out.1)).mono ?_
        rintro e w' ⟨rfl, q⟩
        have g := gb_none H2.out.1 q
        have hk := HP.out.keep g
        have hlk := HL.out _ g
        rw [(keyF_right HRT.out).1, decide_eq_true HRT.out]
        exact ⟨rfl, hlk, hk.cells.2.2, fun C => (hk.keep (World.grownBy_alloc _ C none)).cells.2.1, fun C => (hk.keep (World.grownBy_alloc _ C none)).cells.2.2, fun C n ty => (hk.keep (gb_none (World.grownBy_alloc _ C none) (gb_drewN _ n))).len ty, g, H2.out.2.keep q⟩
      refine HK.out.mono ?_
      rintro e w2 ⟨rfl, lk, c2, a1, a2, a3, H3⟩
      clear HK
      obtain ⟨KS, hKS⟩ : ∃ KS, KS = ByteArray.mk ⟨keyB ls⟩ := ⟨_, rfl⟩
      have HKS := hidJ hKS
      rw [← hKS] at lk
      rw [← hKS]
      clear hKS
      generalize M.length = N at *
      go_wp2_with fail
      go_quiet (fail)
      have HW2 : Hid (w.grownBy ((w2.alloc (.cells #[.slice v1 v2 v3, .int .i64 vs, .int .i64 ve] 34)).drewN nq) none ∧ B3 ((w2.alloc (.cells #[.slice v1 v2 v3, .int .i64 vs, .int .i64 ve] 34)).drewN nq) w.heap.size 34 (.slice a ls.length c) (.int .i64 sd) (.int .i64 ed) ∧ B3 ((w2.alloc (.cells #[.slice v1 v2 v3, .int .i64 vs, .int .i64 ve] 34)).drewN nq) w2.heap.size 34 (.slice v1 v2 v3) (.int .i64 vs) (.int .i64 ve)) := by
        have g := gb_none (World.grownBy_alloc w2 (.cells #[.slice v1 v2 v3, .int .i64 vs, .int .i64 ve] 34) none) (gb_drewN _ nq)
        exact ⟨gb_none H3.out.1 g, H3.out.2.keep g, (B3.new w2 34 _ _ _).keep (gb_drewN _ nq)⟩
      have hne : ¬ w.heap.size = w2.heap.size := by have := some_lt H3.out.2; omega
      have hne2 : ¬ w2.heap.size = w.heap.size := by omega
      generalize (w2.alloc (.cells #[.slice v1 v2 v3, .int .i64 vs, .int .i64 ve] 34)).drewN nq = W2 at *
      clear lk c2 a1 a2 a3 H3 H2
      generalize w2.heap.size = b10 at *
      obtain ⟨m0, m1, m2, n0, n1, n2⟩ := HW2.out.2.1.cells
      obtain ⟨o0, o1, o2, -, -, -⟩ := HW2.out.2.2.cells
      go_wp2_with fail
      rw [← HN.out]
      have HW3 : Hid (w.grownBy (W2.setCell ⟨w.heap.size, 1, none⟩ (.int .i64 sN)) none ∧ B3 (W2.setCell ⟨w.heap.size, 1, none⟩ (.int .i64 sN)) w.heap.size 34 (.slice a ls.length c) (.int .i64 sN) (.int .i64 ed)) := by
        refine ⟨gb_ch HW2.out.1 (set_ch _ _ _ _) (fun k e => by omega), ?_⟩
        have := Go.heap_setCell_same W2 w.heap.size 1 _ _ (.int .i64 sN) HW2.out.2.1
        simpa [B3] using this
      clear HW2 m0 m1 m2 n0 n1 n2 o0 o1 o2 HN
      generalize W2.setCell ⟨w.heap.size, 1, none⟩ (.int .i64 sN) = W3 at *
      have HCP : Hid (∀ W, W3.grownBy W none → Calls Tryd.prog 26 #[.agg #[.slice a ls.length c, .int .i64 sN, .int .i64 ed]] W fun e w4 => ∃ a' n' c', e = .returned (.agg #[.slice a' n' c', .int .i64 sN, .int .i64 ed]) ∧ w4.cell? ⟨gx, 2, none⟩ = some (.map (some gm)) ∧ w4.cell? ⟨w.heap.size, 0, none⟩ = some (.slice a ls.length c) ∧ w4.cell? ⟨w.heap.size, 1, none⟩ = some (.int .i64 sN) ∧ w4.cell? ⟨w.heap.size, 2, none⟩ = some (.int .i64 ed) ∧ ∃ w5, (Instr.mapUpdate 59 (.map (some gm)) (.string KS) (.agg #[.slice a' n' c', .int .i64 sN, .int .i64 ed])).run Tryd.prog w4 = .ok () w5 ∧ w5.cell? ⟨gx, 2, none⟩ = some (.map (some gm)) ∧ w5.cell? ⟨w.heap.size, 0, none⟩ = some (.slice a ls.length c) ∧ w5.cell? ⟨w.heap.size, 1, none⟩ = some (.int .i64 sN) ∧ w5.cell? ⟨w.heap.size, 2, none⟩ = some (.int .i64 ed) ∧ Hid (PrjOK w5 (Gr S w w5) gx R most (addA M ⟨ls, sN, ed⟩) ∧ Ch w w5 S)) := by
        intro W hW
        have g3 := gb_none HW3.out.1 hW
        have hl16 := (right_short HRT.out).1
        refine (copyOf_any W (.slice a ls.length c) ls sN ed (HU.out.1.keep g3) (by omega)).mono ?_
        rintro e w4 ⟨v', rfl, q1, q2⟩
        have g4 := gb_none g3 q2
        have hk := HP.out.keep g4
        have b4 := (HW3.out.2.keep hW).keep q2
        have hz := g3.size
        obtain ⟨w5, r1, r2, r3⟩ := hk.put (a := ⟨ls, sN, ed⟩) (u := v') HRT.out (q1.mono (Nat.zero_le _)) (fun k hk' => by
          have h1 := (q1.lt k hk').1
          have h2 := some_lt HP.out.box
          have h3 := HP.out.mp.lt
          omega) HOK.out
        obtain ⟨a', c', e'⟩ := q1.shape
        subst e'
        have b5 : B3 w5 w.heap.size 34 (.slice a ls.length c) (.int .i64 sN) (.int .i64 ed) := (r2.block w.heap.size (some_lt b4) (by intro e; injection e with e; have := HP.out.mp.lt; omega)).trans b4
        obtain ⟨x0, x1, x2, -⟩ := b4.cells
        obtain ⟨y0, y1, y2, -⟩ := b5.cells
        rw [HKS.out]
        refine ⟨a', _, c', rfl, hk.cells.2.2, x0, x1, x2, w5, r1, r3.cells.2.2, y0, y1, y2, ⟨gm, _, _, r3.mono (fun k hk' e => ?_)⟩, ?_⟩
        · rcases e with e | e
          · exact .inl e
          · exact .inr ⟨by have := (q1.lt k e).1; omega, by have := (q1.lt k e).2; have := r2.size; omega⟩
        · exact (Ch.of_gb g4 (fun k hk' => by cases hk')).trans (Ch.of_gb (S := S) r2 (fun k hk' _ => by cases hk'; exact HP.out.inM)) (fun _ _ e => e)
      have k2 := (HP.out.keep HW3.out.1).cells.2.2
      obtain ⟨l0, l1, l2, -⟩ := HW3.out.2.cells
      clear HP HU HOK
      go_region_held3 (fun w' => w'.cell? ⟨gx, 2, none⟩ = some (.map (some gm)) ∧ w'.cell? ⟨w.heap.size, 0, none⟩ = some (.slice a ls.length c) ∧ w'.cell? ⟨w.heap.size, 1, none⟩ = some (.int .i64 sN) ∧ w'.cell? ⟨w.heap.size, 2, none⟩ = some (.int .i64 ed)) (go_keep)
        (first | (go_at_call 26; with_reducible refine (HCP.out _ ?_).mono ?_; (first | exact gb_refl _ _ | exact gb_drew _ none); rintro e w4 ⟨a4, n4, c4, rfl, p0, p1, p2, p3, w5, hrun, s0, s1, s2, s3, H5⟩))
      clear hrun HCP
      go_wp2
      go_ret
      first | exact ⟨rfl, H5.out⟩ | exact ⟨rfl, drewOK H5.out⟩
    · have hN := (hs2 rfl hnv).symm
      subst hN
      clear hs1 hs2 hs3 hth
      have hgd : decide (now < ve) = false := decide_eq_false hnv
      go_enter Tryd.func17, Tryd.ntmps17
      go_wp2_with fail
      refine HD.out.mono ?_
      rintro e w1 ⟨rfl, H1⟩
      clear HD
      obtain ⟨d0, d1, d2, e0, e1, e2⟩ := H1.out.2.cells
      have HW1 : Hid (∀ W, W = ((w1.setCell ⟨w.heap.size, 0, none⟩ (.slice a ls.length c)).setCell ⟨w.heap.size, 1, none⟩ (.int .i64 sd)).setCell ⟨w.heap.size, 2, none⟩ (.int .i64 ed) → w.grownBy W none ∧ B3 W w.heap.size 34 (.slice a ls.length c) (.int .i64 sd) (.int .i64 ed)) := by
        rintro W rfl
        exact ⟨set3_gb H1.out.1 (Nat.le_refl _), set3 H1.out.2⟩
      go_wp2_with fail
      generalize ((w1.setCell ⟨w.heap.size, 0, none⟩ (.slice a ls.length c)).setCell ⟨w.heap.size, 1, none⟩ (.int .i64 sd)).setCell ⟨w.heap.size, 2, none⟩ (.int .i64 ed) = W1 at *
      have H2 := hidJ (HW1.out _ rfl)
      clear HW1 H1 d0 d1 d2 e0 e1 e2
      have HK : Hid (Calls Tryd.prog 35 #[.slice a ls.length c] W1 fun e w' => e = .returned (.tuple #[.string (ByteArray.mk ⟨keyB ls⟩), .bool true]) ∧ (Instr.lookup 59 (.map (some gm)) (.string (ByteArray.mk ⟨keyB ls⟩)) true).run Tryd.prog w' = .ok (.tuple #[.agg #[.slice v1 v2 v3, .int .i64 vs, .int .i64 ve], .bool true]) w' ∧ w'.cell? ⟨gx, 2, none⟩ = some (.map (some gm)) ∧ (∀ C, (w'.alloc C).cell? ⟨gx, 1, none⟩ = some (.int .i64 most)) ∧ (∀ C, (w'.alloc C).cell? ⟨gx, 2, none⟩ = some (.map (some gm))) ∧ (∀ C n ty, (Builtin.len_ #[59] ty #[.map (some gm)]).run Tryd.prog ((w'.alloc C).drewN n) = .ok (.int .i64 (M.length : Int)) ((w'.alloc C).drewN n)) ∧ Hid (w.grownBy w' none ∧ B3 w' w.heap.size 34 (.slice a ls.length c) (.int .i64 sd) (.int .i64 ed))) := by
        refine (keyOf_any W1 _ ls (HU.out.1.keep H2.out.1) HU.out.2.1 (HU.out.2.2.keep H2.out.1)).mono ?_
        rintro e w' ⟨rfl, q⟩
        have g := gb_none H2.out.1 q
        have hk := HP.out.keep g
        have hlk := HL.out _ g
        rw [(keyF_right HRT.out).1, decide_eq_true HRT.out]
        exact ⟨rfl, hlk, hk.cells.2.2, fun C => (hk.keep (World.grownBy_alloc _ C none)).cells.2.1, fun C => (hk.keep (World.grownBy_alloc _ C none)).cells.2.2, fun C n ty => (hk.keep (gb_none (World.grownBy_alloc _ C none) (gb_drewN _ n))).len ty, g, H2.out.2.keep q⟩
      refine HK.out.mono ?_
      rintro e w2 ⟨rfl, lk, c2, a1, a2, a3, H3⟩
      clear HK
      obtain ⟨KS, hKS⟩ : ∃ KS, KS = ByteArray.mk ⟨keyB ls⟩ := ⟨_, rfl⟩
      have HKS := hidJ hKS
      rw [← hKS] at lk
      rw [← hKS]
      clear hKS
      generalize M.length = N at *
      go_wp2_with fail
      go_quiet (fail)
      have HW2 : Hid (w.grownBy ((w2.alloc (.cells #[.slice v1 v2 v3, .int .i64 vs, .int .i64 ve] 34)).drewN nq) none ∧ B3 ((w2.alloc (.cells #[.slice v1 v2 v3, .int .i64 vs, .int .i64 ve] 34)).drewN nq) w.heap.size 34 (.slice a ls.length c) (.int .i64 sd) (.int .i64 ed) ∧ B3 ((w2.alloc (.cells #[.slice v1 v2 v3, .int .i64 vs, .int .i64 ve] 34)).drewN nq) w2.heap.size 34 (.slice v1 v2 v3) (.int .i64 vs) (.int .i64 ve)) := by
        have g := gb_none (World.grownBy_alloc w2 (.cells #[.slice v1 v2 v3, .int .i64 vs, .int .i64 ve] 34) none) (gb_drewN _ nq)
        exact ⟨gb_none H3.out.1 g, H3.out.2.keep g, (B3.new w2 34 _ _ _).keep (gb_drewN _ nq)⟩
      have hne : ¬ w.heap.size = w2.heap.size := by have := some_lt H3.out.2; omega
      have hne2 : ¬ w2.heap.size = w.heap.size := by omega
      generalize (w2.alloc (.cells #[.slice v1 v2 v3, .int .i64 vs, .int .i64 ve] 34)).drewN nq = W2 at *
      clear lk c2 a1 a2 a3 H3 H2
      generalize w2.heap.size = b10 at *
      obtain ⟨m0, m1, m2, n0, n1, n2⟩ := HW2.out.2.1.cells
      obtain ⟨o0, o1, o2, -, -, -⟩ := HW2.out.2.2.cells
      go_wp2_with fail
      have HW3 := hidJ (And.intro HW2.out.1 HW2.out.2.1)
      clear HW2 m0 m1 m2 n0 n1 n2 o0 o1 o2
      generalize W2 = W3 at *
      have HCP : Hid (∀ W, W3.grownBy W none → Calls Tryd.prog 26 #[.agg #[.slice a ls.length c, .int .i64 sd, .int .i64 ed]] W fun e w4 => ∃ a' n' c', e = .returned (.agg #[.slice a' n' c', .int .i64 sd, .int .i64 ed]) ∧ w4.cell? ⟨gx, 2, none⟩ = some (.map (some gm)) ∧ w4.cell? ⟨w.heap.size, 0, none⟩ = some (.slice a ls.length c) ∧ w4.cell? ⟨w.heap.size, 1, none⟩ = some (.int .i64 sd) ∧ w4.cell? ⟨w.heap.size, 2, none⟩ = some (.int .i64 ed) ∧ ∃ w5, (Instr.mapUpdate 59 (.map (some gm)) (.string KS) (.agg #[.slice a' n' c', .int .i64 sd, .int .i64 ed])).run Tryd.prog w4 = .ok () w5 ∧ w5.cell? ⟨gx, 2, none⟩ = some (.map (some gm)) ∧ w5.cell? ⟨w.heap.size, 0, none⟩ = some (.slice a ls.length c) ∧ w5.cell? ⟨w.heap.size, 1, none⟩ = some (.int .i64 sd) ∧ w5.cell? ⟨w.heap.size, 2, none⟩ = some (.int .i64 ed) ∧ Hid (PrjOK w5 (Gr S w w5) gx R most (addA M ⟨ls, sd, ed⟩) ∧ Ch w w5 S)) := by
        intro W hW
        have g3 := gb_none HW3.out.1 hW
        have hl16 := (right_short HRT.out).1
        refine (copyOf_any W (.slice a ls.length c) ls sd ed (HU.out.1.keep g3) (by omega)).mono ?_
        rintro e w4 ⟨v', rfl, q1, q2⟩
        have g4 := gb_none g3 q2
        have hk := HP.out.keep g4
        have b4 := (HW3.out.2.keep hW).keep q2
        have hz := g3.size
        obtain ⟨w5, r1, r2, r3⟩ := hk.put (a := ⟨ls, sd, ed⟩) (u := v') HRT.out (q1.mono (Nat.zero_le _)) (fun k hk' => by
          have h1 := (q1.lt k hk').1
          have h2 := some_lt HP.out.box
          have h3 := HP.out.mp.lt
          omega) HOK.out
        obtain ⟨a', c', e'⟩ := q1.shape
        subst e'
        have b5 : B3 w5 w.heap.size 34 (.slice a ls.length c) (.int .i64 sd) (.int .i64 ed) := (r2.block w.heap.size (some_lt b4) (by intro e; injection e with e; have := HP.out.mp.lt; omega)).trans b4
        obtain ⟨x0, x1, x2, -⟩ := b4.cells
        obtain ⟨y0, y1, y2, -⟩ := b5.cells
        rw [HKS.out]
        refine ⟨a', _, c', rfl, hk.cells.2.2, x0, x1, x2, w5, r1, r3.cells.2.2, y0, y1, y2, ⟨gm, _, _, r3.mono (fun k hk' e => ?_)⟩, ?_⟩
        · rcases e with e | e
          · exact .inl e
          · exact .inr ⟨by have := (q1.lt k e).1; omega, by have := (q1.lt k e).2; have := r2.size; omega⟩
        · exact (Ch.of_gb g4 (fun k hk' => by cases hk')).trans (Ch.of_gb (S := S) r2 (fun k hk' _ => by cases hk'; exact HP.out.inM)) (fun _ _ e => e)
      have k2 := (HP.out.keep HW3.out.1).cells.2.2
      obtain ⟨l0, l1, l2, -⟩ := HW3.out.2.cells
      clear HP HU HOK
      go_region_held3 (fun w' => w'.cell? ⟨gx, 2, none⟩ = some (.map (some gm)) ∧ w'.cell? ⟨w.heap.size, 0, none⟩ = some (.slice a ls.length c) ∧ w'.cell? ⟨w.heap.size, 1, none⟩ = some (.int .i64 sd) ∧ w'.cell? ⟨w.heap.size, 2, none⟩ = some (.int .i64 ed)) (go_keep)
        (first | (go_at_call 26; with_reducible refine (HCP.out _ ?_).mono ?_; (first | exact gb_refl _ _ | exact gb_drew _ none); rintro e w4 ⟨a4, n4, c4, rfl, p0, p1, p2, p3, w5, hrun, s0, s1, s2, s3, H5⟩))
      clear hrun HCP
      go_wp2
      go_ret
      first | exact ⟨rfl, H5.out⟩ | exact ⟨rfl, drewOK H5.out⟩
theorem min_eq (x y : Int) : min x y = if y < x then y else x := by
  rw [Int.min_def]
  split <;> split <;> omega
/-- PUT, whatever comes -/
theorem setPut_any (w : World) (S : Nat → Prop) (gx : Nat) (R most now st en : Int) (M : List AlR) (u : Value) (ls : List LbT) (h : PrjOK w S gx R most M) (hu : RdL w u ls) (hl : LbIn ls) (hT : U8S w) :
    Calls Tryd.prog 17 #[.pointer (some ⟨gx, 0, none⟩), .int .i64 now, alV u st en] w fun e w' => e = .returned (.int .i64 (putE R most now ⟨ls, st, en⟩ M)) ∧ PrjOK w' (Gr S w w') gx R most (putM R most now ⟨ls, st, en⟩ M) ∧ Ch w w' S := by
  by_cases hE : dateE R now ⟨ls, st, en⟩ = 0
  · by_cases hF : findA M ls = none ∧ most ≤ (M.length : Int)
    · have e1 : putE R most now ⟨ls, st, en⟩ M = 8 := by unfold putE; rw [if_neg (by simpa using hE), if_pos hF]
      have e2 : putM R most now ⟨ls, st, en⟩ M = M := by unfold putM; rw [if_neg (by rw [e1]; decide)]
      rw [e1, e2]
      exact put_full w S gx R most now st en M u ls h hu hl hT hE hF.1 hF.2
    · have e1 : putE R most now ⟨ls, st, en⟩ M = 0 := by unfold putE; rw [if_neg (by simpa using hE), if_neg hF]
      have e2 : putM R most now ⟨ls, st, en⟩ M = addA M (newA R now ⟨ls, st, en⟩ M) := by unfold putM; rw [if_pos e1]
      obtain ⟨gm, D, hv, h⟩ := h
      have hok : okM most (addA M (newA R now ⟨ls, st, en⟩ M)) := by rw [← e2]; exact okM_put h.res h.ok
      rw [e1, e2]
      obtain ⟨a, c, rfl⟩ : ∃ a c, u = .slice a ls.length c := by obtain ⟨a, c, h, _⟩ := hu; exact ⟨a, c, h⟩
      have hrt := (dateE_ok hE).2.1
      cases hf : findA M ls with
      | none =>
        have hN : newA R now ⟨ls, st, en⟩ M = ⟨ls, stD now ⟨ls, st, en⟩, enD R now ⟨ls, st, en⟩⟩ := by unfold newA; simp only [hf]
        refine put_ok w S gx R most now st en M a c ls gm D hv h hu hl hT hE none 0 0 0 0 _ false (fun W hW => ?_) (fun _ hm => hF ⟨hf, hm⟩) hN (fun h => by cases h) (fun h => by cases h) (fun _ => rfl) (by rw [← hN]; exact hok)
        have := (h.keep hW).look hrt
        rw [hf] at this
        exact this
      | some o =>
        obtain ⟨ho, hol⟩ := findA_some hf
        have hN : newA R now ⟨ls, st, en⟩ M = ⟨ls, if now < o.en ∧ o.st < stD now ⟨ls, st, en⟩ then o.st else stD now ⟨ls, st, en⟩, enD R now ⟨ls, st, en⟩⟩ := by unfold newA; simp only [hf]
        obtain ⟨va, n, vc, hva⟩ : ∃ a n c, hv o.lbs = .slice a n c := by obtain ⟨⟨a, c, e, _⟩, _⟩ := h.each o ho; exact ⟨_, _, _, e⟩
        refine put_ok w S gx R most now st en M a c ls gm D hv h hu hl hT hE va n vc o.st o.en _ true (fun W hW => ?_) (fun h => by cases h) hN (fun _ hlt => ?_) (fun _ hlt => ?_) (fun h => by cases h) (by rw [← hN]; exact hok)
        · have := (h.keep hW).look hrt
          rw [hf] at this
          rw [← hva]
          exact this
        · rw [min_eq]
          by_cases h2 : o.st < stD now ⟨ls, st, en⟩
          · rw [if_pos ⟨hlt, h2⟩, if_pos h2]
          · rw [if_neg (fun f => h2 f.2), if_neg h2]
        · rw [if_neg (fun f => hlt f.1)]
  · have e1 : putE R most now ⟨ls, st, en⟩ M = dateE R now ⟨ls, st, en⟩ := by unfold putE; rw [if_pos hE]
    have e2 : putM R most now ⟨ls, st, en⟩ M = M := by unfold putM; rw [if_neg (by rw [e1]; exact hE)]
    rw [e1, e2]
    exact put_bad w S gx R most now st en M u ls h hu hl hT hE
end Go.Proofs.YtmgbcmogdjhacaaDoor
