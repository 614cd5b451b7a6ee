/-
  Get: the walk.
-/
import Derived.Test.YtmgbcmogdjhacaaDoorAl5
namespace Go.Proofs.YtmgbcmogdjhacaaDoor
open Go.RowKit Go.Shelf Go.Maps Go.WideMaps

def getA (M : List AlR) (x : List LbT) : AlR := (findA M x).getD alZ
theorem findA_right {M : List AlR} (h : goodA M) {x : List LbT} (hx : (rightS x).1 ≠ 0) : findA M x = none := by
  rw [findA_none]
  intro a ha e
  exact hx (by rw [← e]; exact h a ha)

set_option maxRecDepth 8000 in
set_option maxHeartbeats 12800000 in
theorem get_any (w : World) (S : Nat → Prop) (gx : Nat) (R most : Int) (M : List AlR) (u : Value) (ls : List LbT) (h : PrjOK w S gx R most M) (hu : RdL w u ls) (hl : LbIn ls) (hT : U8S w) :
    Calls Tryd.prog 16 #[.pointer (some ⟨gx, 0, none⟩), u] w fun e w' => ∃ v', e = .returned (.tuple #[alV v' (getA M ls).st (getA M ls).en, .bool (findA M ls).isSome]) ∧ OwnL w' w.heap.size v' (getA M ls).lbs ∧ w.grownBy w' none := by
  obtain ⟨gm, D, hv, h⟩ := h
  obtain ⟨a, c, rfl⟩ : ∃ a c, u = .slice a ls.length c := by obtain ⟨a, c, h, _⟩ := hu; exact ⟨a, c, h⟩
  have HKy := hidJ (keyOf_any (w.alloc (.cells #[.slice none 0 0, .int .i64 0, .int .i64 0] 34)) (.slice a ls.length c) ls (hu.keep (World.grownBy_alloc _ _ none)) hl (hT.keep (World.grownBy_alloc _ _ none)))
  have k1 := World.grownBy_alloc w (.cells #[.slice none 0 0, .int .i64 0, .int .i64 0] 34) none
  have hB := B3.new w 34 (.slice none 0 0) (.int .i64 0) (.int .i64 0)
  by_cases hr : (rightS ls).1 = 0
  · have hkf := (keyF_right hr).1
    cases hf : findA M ls with
    | none =>
      have hg : getA M ls = alZ := by unfold getA; rw [hf]; rfl
      rw [hg]
      obtain ⟨va, hvae⟩ : ∃ va : Value, va = .slice none 0 0 := ⟨_, rfl⟩
      obtain ⟨vs, hvs⟩ : ∃ vs : Int, vs = 0 := ⟨_, rfl⟩
      obtain ⟨ve, hve⟩ : ∃ ve : Int, ve = 0 := ⟨_, rfl⟩
      obtain ⟨vl, hvl0⟩ : ∃ vl : List LbT, vl = [] := ⟨_, rfl⟩
      have hvl : vl.length ≤ 4398046511104 := by rw [hvl0]; simp
      have hva : ∃ a n c, va = .slice a n c := ⟨_, _, _, hvae⟩
      have HV : Hid (∀ W, w.grownBy W none → RdL W va vl) := fun W _ => by
        rw [hvae, hvl0]
        exact ⟨none, 0, rfl, Nat.le_refl _, by unfold maxLen; omega, fun j hj => by simp at hj, fun _ => rfl⟩
      have HK : Hid (Calls Tryd.prog 35 #[.slice a ls.length c] (w.alloc (.cells #[.slice none 0 0, .int .i64 0, .int .i64 0] 34)) fun e w' => e = .returned (.tuple #[.string (ByteArray.mk ⟨keyB ls⟩), .bool true]) ∧ (Instr.lookup 59 (.map (some gm)) (.string (ByteArray.mk ⟨keyB ls⟩)) true).run Tryd.prog w' = .ok (.tuple #[.agg #[va, .int .i64 vs, .int .i64 ve], .bool false]) w' ∧ w'.cell? ⟨gx, 2, none⟩ = some (.map (some gm)) ∧ Hid (w.grownBy w' none ∧ B3 w' w.heap.size 34 (.slice none 0 0) (.int .i64 0) (.int .i64 0))) := by
        refine HKy.out.mono ?_
        rintro e w' ⟨rfl, q⟩
        have hk := h.keep (gb_none k1 q)
        have hlk := hk.look hr
        rw [hf] at hlk
        rw [hkf, decide_eq_true hr, hvae, hvs, hve]
        exact ⟨rfl, hlk, hk.cells.2.2, gb_none k1 q, hB.keep q⟩
      have e1 : alZ.st = vs := hvs.symm
      have e2 : alZ.en = ve := hve.symm
      have e3 : alZ.lbs = vl := hvl0.symm
      rw [e1, e2, e3, show (none : Option AlR).isSome = false from rfl]
      clear hvae hvs hve hvl0 e1 e2 e3 h hu hl hT HKy k1 hB hkf hg hf
      generalize ByteArray.mk ⟨keyB ls⟩ = KS at *
      unfold alV
      go_enter Tryd.func16, Tryd.ntmps16
      go_wp2_with fail
      refine HK.out.mono ?_
      rintro e w1 ⟨rfl, lk, c2, H1⟩
      clear HK
      obtain ⟨d0, d1, d2, e0, e1, e2⟩ := H1.out.2.cells
      have HCo : Hid (∀ C, Calls Tryd.prog 26 #[.agg #[va, .int .i64 vs, .int .i64 ve]] (w1.alloc C) fun e w' => ∃ a' n' c', e = .returned (.agg #[.slice a' n' c', .int .i64 vs, .int .i64 ve]) ∧ Hid (OwnL w' (w.heap.size + 1) (.slice a' n' c') vl ∧ w.grownBy w' none ∧ B3 w' w.heap.size 34 (.slice none 0 0) (.int .i64 0) (.int .i64 0))) := by
        intro C
        have k : w1.grownBy (w1.alloc C) none := World.grownBy_alloc _ _ none
        refine (copyOf_any _ va vl vs ve ((HV.out w1 H1.out.1).keep k) hvl).mono ?_
        rintro e w' ⟨v', rfl, q1, q2⟩
        obtain ⟨a', c', e'⟩ := q1.shape
        subst e'
        have := H1.out.1.size
        have := some_lt H1.out.2
        have := k.size
        exact ⟨a', _, c', rfl, q1.mono (by omega), gb_none (gb_none H1.out.1 k) q2, (H1.out.2.keep k).keep q2⟩
      have hs1 := hidJ (some_lt H1.out.2)
      obtain ⟨va1, va2, va3, rfl⟩ := hva
      go_wp2_with fail
      refine (HCo.out _).mono ?_
      rintro e w2 ⟨a2, n2, c3, rfl, H2⟩
      clear HCo
      obtain ⟨k0, k1, k2, l0, l1, l2⟩ := H2.out.2.2.cells
      go_wp2
      refine bodyPost_ret (results_cell2 rfl _ _ w.heap.size _ _ _ _ rfl (set3 H2.out.2.2) Tryd.underlying34 rfl (by kernel_rfl)) rfl ⟨_, rfl, ?_, set3_gb H2.out.2.1 (Nat.le_refl _)⟩
      refine OwnL.mono (base := w.heap.size + 1) (row_via H2.out.1 (fun k hk => ?_)) (by omega)
      have hb := H2.out.1.lt k hk
      exact set3_ne hb.2 (by omega)
    | some o =>
      have hg : getA M ls = o := by unfold getA; rw [hf]; rfl
      rw [hg]
      obtain ⟨ho, hol⟩ := findA_some hf
      obtain ⟨va, hvae⟩ : ∃ va : Value, va = hv o.lbs := ⟨_, rfl⟩
      obtain ⟨vs, hvs⟩ : ∃ vs : Int, vs = o.st := ⟨_, rfl⟩
      obtain ⟨ve, hve⟩ : ∃ ve : Int, ve = o.en := ⟨_, rfl⟩
      obtain ⟨vl, hvl0⟩ : ∃ vl : List LbT, vl = o.lbs := ⟨_, rfl⟩
      have hvl : vl.length ≤ 4398046511104 := by rw [hvl0]; have := (right_short (h.ok.2.1 o ho)).1; omega
      have hva : ∃ a n c, va = .slice a n c := by rw [hvae]; obtain ⟨⟨a, c, e, _⟩, _⟩ := h.each o ho; exact ⟨_, _, _, e⟩
      have HV : Hid (∀ W, w.grownBy W none → RdL W va vl) := fun W hW => by
        rw [hvae, hvl0]
        exact ((h.each o ho).1).keep hW
      have HK : Hid (Calls Tryd.prog 35 #[.slice a ls.length c] (w.alloc (.cells #[.slice none 0 0, .int .i64 0, .int .i64 0] 34)) fun e w' => e = .returned (.tuple #[.string (ByteArray.mk ⟨keyB ls⟩), .bool true]) ∧ (Instr.lookup 59 (.map (some gm)) (.string (ByteArray.mk ⟨keyB ls⟩)) true).run Tryd.prog w' = .ok (.tuple #[.agg #[va, .int .i64 vs, .int .i64 ve], .bool true]) w' ∧ w'.cell? ⟨gx, 2, none⟩ = some (.map (some gm)) ∧ Hid (w.grownBy w' none ∧ B3 w' w.heap.size 34 (.slice none 0 0) (.int .i64 0) (.int .i64 0))) := by
        refine HKy.out.mono ?_
        rintro e w' ⟨rfl, q⟩
        have hk := h.keep (gb_none k1 q)
        have hlk := hk.look hr
        rw [hf] at hlk
        rw [hkf, decide_eq_true hr, hvae, hvs, hve]
        exact ⟨rfl, hlk, hk.cells.2.2, gb_none k1 q, hB.keep q⟩
      rw [← hvs, ← hve, ← hvl0, show (some o : Option AlR).isSome = true from rfl]
      clear hvae hvs hve hvl0 h hu hl hT HKy k1 hB hkf hg hf ho hol
      generalize ByteArray.mk ⟨keyB ls⟩ = KS at *
      unfold alV
      go_enter Tryd.func16, Tryd.ntmps16
      go_wp2_with fail
      refine HK.out.mono ?_
      rintro e w1 ⟨rfl, lk, c2, H1⟩
      clear HK
      obtain ⟨d0, d1, d2, e0, e1, e2⟩ := H1.out.2.cells
      have HCo : Hid (∀ C, Calls Tryd.prog 26 #[.agg #[va, .int .i64 vs, .int .i64 ve]] (w1.alloc C) fun e w' => ∃ a' n' c', e = .returned (.agg #[.slice a' n' c', .int .i64 vs, .int .i64 ve]) ∧ Hid (OwnL w' (w.heap.size + 1) (.slice a' n' c') vl ∧ w.grownBy w' none ∧ B3 w' w.heap.size 34 (.slice none 0 0) (.int .i64 0) (.int .i64 0))) := by
        intro C
        have k : w1.grownBy (w1.alloc C) none := World.grownBy_alloc _ _ none
        refine (copyOf_any _ va vl vs ve ((HV.out w1 H1.out.1).keep k) hvl).mono ?_
        rintro e w' ⟨v', rfl, q1, q2⟩
        obtain ⟨a', c', e'⟩ := q1.shape
        subst e'
        have := H1.out.1.size
        have := some_lt H1.out.2
        have := k.size
        exact ⟨a', _, c', rfl, q1.mono (by omega), gb_none (gb_none H1.out.1 k) q2, (H1.out.2.keep k).keep q2⟩
      have hs1 := hidJ (some_lt H1.out.2)
      obtain ⟨va1, va2, va3, rfl⟩ := hva
      go_wp2_with fail
      refine (HCo.out _).mono ?_
      rintro e w2 ⟨a2, n2, c3, rfl, H2⟩
      clear HCo
      obtain ⟨k0, k1, k2, l0, l1, l2⟩ := H2.out.2.2.cells
      go_wp2
      refine bodyPost_ret (results_cell2 rfl _ _ w.heap.size _ _ _ _ rfl (set3 H2.out.2.2) Tryd.underlying34 rfl (by kernel_rfl)) rfl ⟨_, rfl, ?_, set3_gb H2.out.2.1 (Nat.le_refl _)⟩
      refine OwnL.mono (base := w.heap.size + 1) (row_via H2.out.1 (fun k hk => ?_)) (by omega)
      have hb := H2.out.1.lt k hk
      exact set3_ne hb.2 (by omega)
  · have hf := findA_right h.ok.2.1 hr
    have hg : getA M ls = alZ := by unfold getA; rw [hf]; rfl
    rw [hg, hf]
    have HK : Hid (Calls Tryd.prog 35 #[.slice a ls.length c] (w.alloc (.cells #[.slice none 0 0, .int .i64 0, .int .i64 0] 34)) fun e w' => e = .returned (.tuple #[.string (ByteArray.mk ⟨keyF ls⟩), .bool false]) ∧ Hid (w.grownBy w' none ∧ B3 w' w.heap.size 34 (.slice none 0 0) (.int .i64 0) (.int .i64 0))) := by
      refine HKy.out.mono ?_
      rintro e w' ⟨rfl, q⟩
      rw [decide_eq_false hr]
      exact ⟨rfl, gb_none k1 q, hB.keep q⟩
    clear h hu hl hT HKy k1 hB hg hf hr
    generalize ByteArray.mk ⟨keyF ls⟩ = KS at *
    unfold alV
    go_enter Tryd.func16, Tryd.ntmps16
    go_wp2_with fail
    refine HK.out.mono ?_
    rintro e w1 ⟨rfl, H1⟩
    clear HK
    obtain ⟨d0, d1, d2, e0, e1, e2⟩ := H1.out.2.cells
    go_wp2
    exact bodyPost_ret (results_cell2 rfl _ _ w.heap.size _ _ _ _ rfl (set3 H1.out.2) Tryd.underlying34 rfl (by kernel_rfl)) rfl ⟨_, rfl, World.ownsRow_nil _ _ _ _, set3_gb H1.out.1 (Nat.le_refl _)⟩
end Go.Proofs.YtmgbcmogdjhacaaDoor
