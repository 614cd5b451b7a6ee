/-
  Two lists of labels compared, told to the block: what is laid is laid behind; the closure by which keys are sorted: the walks.
-/
import Derived.Test.YtmgbcmogdjhacaaDoorAl8
import Derived.Test.YtmgbcmogdjhacaaDoorShelfS
namespace Go.Proofs.YtmgbcmogdjhacaaDoor
open Go.RowKit Go.Shelf Go.Sort Go.Maps Go.WideMaps

/-- draws, and blocks laid behind -/
def Gw (w w' : World) : Prop := ∃ q os', w' = grow (w.drewN q) os'
theorem Gw.refl (w : World) : Gw w w := ⟨0, #[], by rw [grow_empty]; rfl⟩
theorem Gw.trans {w w1 w2 : World} (h1 : Gw w w1) (h2 : Gw w1 w2) : Gw w w2 := by
  obtain ⟨q, os, rfl⟩ := h1
  obtain ⟨q', os', rfl⟩ := h2
  refine ⟨q + q', os ++ os', ?_⟩
  rw [← grow_grow]
  simp [grow, World.drewN, Nat.add_assoc]
theorem Gw.alloc (w : World) (o : Obj) : Gw w (w.alloc o) := ⟨0, #[o], by rw [alloc_eq_grow]; rfl⟩
theorem Gw.drew (w : World) : Gw w w.drew := ⟨1, #[], by rw [grow_empty]; rfl⟩
theorem Gw.drewN (w : World) (n : Nat) : Gw w (w.drewN n) := ⟨n, #[], by rw [grow_empty]⟩
theorem Gw.gb {w w' : World} (h : Gw w w') : w.grownBy w' none := by
  obtain ⟨q, os, rfl⟩ := h
  exact grow_gb _ _ _
set_option maxRecDepth 8000 in
set_option maxHeartbeats 3200000 in
theorem compareFuncG (w : World) (v u : Value) (ls ms : List LbT) (hv : RdL w v ls) (hu : RdL w u ms) :
    Calls Tryd.prog 53 #[v, u, .func (.func 54) #[] #[]] w fun e w' => e = .returned (.int .i64 (cmpLs ls ms)) ∧ Gw w w' := by
  have HV : Hid (RdL w v ls ∧ RdL w u ms) := ⟨hv, hu⟩
  obtain ⟨a, c, rfl, hc1, hc2, -, -⟩ := hv
  obtain ⟨b, d, rfl, hd1, hd2, -, -⟩ := hu
  unfold maxLen at hc2 hd2
  have HR : Hid (cmpLs ls ms = cmpLs (ls.drop 0) (ms.drop 0)) := (by simp : cmpLs ls ms = cmpLs (ls.drop 0) (ms.drop 0))
  generalize cmpLs ls ms = R at *
  go_enter Tryd.func53, Tryd.ntmps53
  go_wp2
  go_loopw [13] (fun i wr => ∃ z : Nat, z ≤ ls.length ∧ z ≤ ms.length ∧ i = .int .i64 z ∧ Hid (Gw w wr ∧ R = cmpLs (ls.drop z) (ms.drop z))) (fun i _ => ls.length - (intOf i).toNat)
  case atStart => exact ⟨0, by omega, by omega, rfl, Gw.refl _, HR.out⟩
  case round =>
    obtain ⟨z, hzN, hzM, rfl, hr⟩ := hrel
    have HG : Hid (Gw w wr) := hr.out.1
    by_cases hzl : z < ls.length
    · have hzi : (z : Int) < (ls.length : Int) := by omega
      obtain ⟨a', c', he, -, -, h3, -⟩ := HV.out.1.keep hr.out.1.gb
      simp only [Value.slice.injEq] at he
      obtain ⟨rfl, -, rfl⟩ := he
      obtain ⟨b1, o1, rfl, c0, c1⟩ := h3 z hzl
      have hbl : ¬ b1 = wr.heap.size := by have := block_lt c0; omega
      have hbl2 : ¬ wr.heap.size = b1 := by omega
      clear h3
      by_cases hzm : z < ms.length
      · have hzj : ¬ (ms.length : Int) ≤ (z : Int) := by omega
        have hzj2 : (z : Int) < (ms.length : Int) := by omega
        obtain ⟨a2, c2, he2, -, -, h4, -⟩ := HV.out.2.keep hr.out.1.gb
        simp only [Value.slice.injEq] at he2
        obtain ⟨rfl, -, rfl⟩ := he2
        obtain ⟨b2, o2, rfl, d0, d1⟩ := h4 z hzm
        have hbm : ¬ b2 = wr.heap.size := by have := block_lt d0; omega
        have hbm2 : ¬ wr.heap.size = b2 := by omega
        have HS : Hid (R = if cmpL (ls.getD z ([], [])) (ms.getD z ([], [])) ≠ 0 then cmpL (ls.getD z ([], [])) (ms.getD z ([], [])) else cmpLs (ls.drop (z + 1)) (ms.drop (z + 1))) := by rw [← cmp_step hzl hzm]; exact hr.out.2
        have HO : Hid (∀ W, Gw w W → Calls Tryd.prog 54 #[.agg #[.string (ByteArray.mk ⟨(ls.getD z ([], [])).1⟩), .string (ByteArray.mk ⟨(ls.getD z ([], [])).2⟩)], .agg #[.string (ByteArray.mk ⟨(ms.getD z ([], [])).1⟩), .string (ByteArray.mk ⟨(ms.getD z ([], [])).2⟩)]] W fun e w' => e = .returned (.int .i64 (cmpL (ls.getD z ([], [])) (ms.getD z ([], [])))) ∧ Hid (Gw w w')) := fun W hW => (compareOne_any W _ _).mono fun e w' ⟨h1, q, os', h2⟩ => ⟨h1, hW.trans ⟨q, os', h2⟩⟩
        have HE : Hid (∀ C D, Gw w ((wr.alloc C).alloc D)) := fun C D => hr.out.1.trans ((Gw.alloc _ _).trans (Gw.alloc _ _))
        have dC0 : ∀ C, (wr.alloc C).cell? ⟨b2, o2 + z * 2, none⟩ = some (.string (ByteArray.mk ⟨(ms.getD z ([], [])).1⟩)) := fun C => (World.cell?_of_block ((World.grownBy_alloc wr C none).block b2 (block_lt d0) (by simp))).trans d0
        have dC1 : ∀ C, (wr.alloc C).cell? ⟨b2, o2 + z * 2 + 1, none⟩ = some (.string (ByteArray.mk ⟨(ms.getD z ([], [])).2⟩)) := fun C => (World.cell?_of_block ((World.grownBy_alloc wr C none).block b2 (block_lt d0) (by simp))).trans d1
        clear h4 hr HG
        generalize cmpL (ls.getD z ([], [])) (ms.getD z ([], [])) = r at *
        generalize ByteArray.mk ⟨(ls.getD z ([], [])).1⟩ = sn at *
        generalize ByteArray.mk ⟨(ls.getD z ([], [])).2⟩ = sv at *
        generalize ByteArray.mk ⟨(ms.getD z ([], [])).1⟩ = sm at *
        generalize ByteArray.mk ⟨(ms.getD z ([], [])).2⟩ = su at *
        by_cases hr0 : r = 0
        · subst hr0
          rw [if_neg (by simp)] at HS
          go_wp2_with fail
          refine (HO.out _ (HE.out _ _)).mono ?_
          rintro e w1 ⟨rfl, H1⟩
          clear HO HE
          go_wp2
          go_roundw
          case rel => exact ⟨z + 1, by omega, by omega, by simp, H1.out, HS.out⟩
          case measure => simp [intOf]; omega
        · rw [if_pos hr0] at HS
          have hrb : (r == 0) = false := by rw [beq_eq_false_iff_ne]; exact hr0
          go_wp2_with fail
          refine (HO.out _ (HE.out _ _)).mono ?_
          rintro e w1 ⟨rfl, H1⟩
          clear HO HE
          go_wp2
          go_ret
          exact ⟨by rw [HS.out]; rfl, H1.out⟩
      · have hzj : (ms.length : Int) ≤ (z : Int) := by omega
        have HS : Hid (R = 1) := by rw [← cmp_endB hzl (by omega : ms.length ≤ z)]; exact hr.out.2
        have HE : Hid (∀ C, Gw w (wr.alloc C)) := fun C => hr.out.1.trans (Gw.alloc _ _)
        clear hr HG
        generalize ByteArray.mk ⟨(ls.getD z ([], [])).1⟩ = sn at *
        generalize ByteArray.mk ⟨(ls.getD z ([], [])).2⟩ = sv at *
        go_wp2
        go_ret
        exact ⟨by rw [HS.out]; rfl, HE.out _⟩
    · have hzi : ¬ (z : Int) < (ls.length : Int) := by omega
      by_cases hzm : ls.length < ms.length
      · have hlm : (ls.length : Int) < (ms.length : Int) := by omega
        have HS : Hid (R = -1) := by rw [← cmp_endA (by omega : ls.length ≤ z) (by omega : z < ms.length)]; exact hr.out.2
        clear hr
        go_wp2
        go_ret
        exact ⟨by rw [HS.out]; rfl, HG.out⟩
      · have hlm : ¬ (ls.length : Int) < (ms.length : Int) := by omega
        have HS : Hid (R = 0) := by rw [← cmp_endAB (by omega : ls.length ≤ z) (by omega : ms.length ≤ z)]; exact hr.out.2
        clear hr
        go_wp2
        go_ret
        exact ⟨by rw [HS.out]; rfl, HG.out⟩
set_option maxHeartbeats 1600000 in
theorem compareG (w : World) (v u : Value) (ls ms : List LbT) (hv : RdL w v ls) (hu : RdL w u ms) :
    Calls Tryd.prog 42 #[v, u] w fun e w' => e = .returned (.int .i64 (cmpLs ls ms)) ∧ Gw w w' := by
  have HC : Hid (Calls Tryd.prog 53 #[v, u, .func (.func 54) #[] #[]] w fun e w' => e = .returned (.int .i64 (cmpLs ls ms)) ∧ Hid (Gw w w')) := compareFuncG w v u ls ms hv hu
  generalize cmpLs ls ms = R at *
  clear hv hu
  go_enter Tryd.func42, Tryd.ntmps42
  go_wp2_with fail
  refine HC.out.mono ?_
  rintro e w1 ⟨rfl, H1⟩
  clear HC
  go_wp2
  go_ret
  exact ⟨rfl, H1.out⟩

set_option maxHeartbeats 1600000 in
theorem byLabelsG (w : World) (u v : Value) (ls ms : List LbT) (s e s' e' : Int) (hu : RdL w u ls) (hv : RdL w v ms) :
    Calls Tryd.prog 24 #[alV u s e, alV v s' e'] w fun x w' => x = .returned (.int .i64 (cmpLs ls ms)) ∧ Gw w w' := by
  have HC : Hid (∀ W, Gw w W → Calls Tryd.prog 42 #[u, v] W fun x w' => x = .returned (.int .i64 (cmpLs ls ms)) ∧ Hid (Gw w w')) := fun W hW => (compareG W u v ls ms (hu.keep hW.gb) (hv.keep hW.gb)).mono fun x w' ⟨h1, h2⟩ => ⟨h1, hW.trans h2⟩
  obtain ⟨a, c, rfl⟩ : ∃ a c, u = .slice a ls.length c := by obtain ⟨a, c, h, _⟩ := hu; exact ⟨a, c, h⟩
  obtain ⟨a', c', rfl⟩ : ∃ a c, v = .slice a ms.length c := by obtain ⟨a, c, h, _⟩ := hv; exact ⟨a, c, h⟩
  have HG : Hid (∀ C D, Gw w ((w.alloc C).alloc D)) := fun C D => (Gw.alloc _ _).trans (Gw.alloc _ _)
  clear hu hv
  generalize cmpLs ls ms = r at *
  unfold alV
  go_enter Tryd.func24, Tryd.ntmps24
  go_wp2_with fail
  refine (HC.out _ ?_).mono ?_
  · first | exact HG.out _ _ | exact Gw.refl _
  rintro x w1 ⟨rfl, H1⟩
  clear HC
  go_wp2
  go_ret
  exact ⟨rfl, H1.out⟩
/-- the labels by which a key is found: of one that is there, or none -/
def lbK (M : List AlR) (x : AlR) : List LbT := match findA M x.lbs with | some o => o.lbs | none => []
def encK (M : List AlR) (x : AlR) : Value := .string (ByteArray.mk ⟨keyB (lbK M x)⟩)
def cfK (M : List AlR) (x y : AlR) : Int := cmpLs (lbK M x) (lbK M y)
theorem lbK_mem {M : List AlR} (h : riseA M) {o : AlR} (ho : o ∈ M) : lbK M o = o.lbs := by
  unfold lbK
  rw [findA_mem h ho]
theorem swoK (M : List AlR) : SWO (ltOf (cfK M)) where
  irrefl x := by
    unfold ltOf cfK
    rw [(cmpLs_zero _ _).2 rfl]
    rfl
  trans x y z h1 h2 := by
    unfold ltOf cfK at *
    rw [decide_eq_true_eq] at *
    exact cmpLs_lt_trans _ _ _ h1 h2
  ntrans x y z h1 h2 := by
    unfold ltOf cfK at *
    rw [decide_eq_false_iff_not] at *
    intro h3
    have a1 : cmpLs (lbK M y) (lbK M x) ≤ 0 := by rw [cmpLs_neg]; omega
    have a2 : cmpLs (lbK M z) (lbK M y) ≤ 0 := by rw [cmpLs_neg]; omega
    by_cases e1 : cmpLs (lbK M y) (lbK M x) = 0
    · have := (cmpLs_zero _ _).1 e1
      rw [this] at h2
      exact h2 h3
    · by_cases e2 : cmpLs (lbK M z) (lbK M y) = 0
      · have := (cmpLs_zero _ _).1 e2
        rw [this] at h3
        exact h1 h3
      · have := cmpLs_lt_trans _ _ _ (show cmpLs (lbK M z) (lbK M y) < 0 by omega) (show cmpLs (lbK M y) (lbK M x) < 0 by omega)
        rw [cmpLs_neg] at this
        omega
theorem rightNil : (rightS []).1 = 0 := by decide
/-- what a look-up of such a key tells -/
theorem PrjA.lookK {w : World} {S : Nat → Prop} {gx gm : Nat} {R most : Int} {M : List AlR} {D : DataW Unit} {hv : List LbT → Value} (h : PrjA w S gx R most M gm D hv) (x : AlR) :
    ∃ a n c s e, (Instr.lookup 59 (.map (some gm)) (encK M x) false).run Tryd.prog w = .ok (.agg #[.slice a n c, .int .i64 s, .int .i64 e]) w ∧ RdL w (.slice a n c) (lbK M x) := by
  unfold encK
  cases hf : findA M x.lbs with
  | some o =>
    obtain ⟨ho, -⟩ := findA_some hf
    have e : lbK M x = o.lbs := by unfold lbK; rw [hf]
    rw [e]
    have hl := h.lookE ho
    have hr := (h.each o ho).1
    obtain ⟨a, c, e2⟩ : ∃ a c, hv o.lbs = .slice a o.lbs.length c := by obtain ⟨a, c, h, _⟩ := hr; exact ⟨a, c, h⟩
    rw [e2] at hl hr
    exact ⟨a, _, c, _, _, hl, hr⟩
  | none =>
    have e : lbK M x = [] := by unfold lbK; rw [hf]
    rw [e]
    have hn : findA M [] = none := by
      rw [findA_none]
      intro a ha e
      exact (h.ok.2.2.1 a ha).1 e
    obtain ⟨v, ps, h1, h2⟩ := h.mp.lookup lawS Tryd.underlying59 (zeroAl w) zAl_elem (keyS (keyB []) (by have := keyB_len rightNil; omega))
    have hh : Maps.has D (.string (keyB [])) = false := by rw [h.hasL, hn]; rfl
    rw [atKey_of_not_has hh] at h2
    have := alElem_inv shpNil h2
    rw [this] at h1
    exact ⟨none, 0, 0, 0, 0, h1, none, 0, rfl, Nat.le_refl _, by unfold maxLen; omega, fun j hj => by simp at hj, fun _ => rfl⟩
set_option maxRecDepth 8000 in
set_option maxHeartbeats 1600000 in
theorem keys1_any (w : World) (S : Nat → Prop) (gx : Nat) (R most : Int) (M : List AlR) (gm : Nat) (D : DataW Unit) (hv : List LbT → Value) (h : PrjA w S gx R most M gm D hv) (g2 g3 : Nat) (c2 : w.cell? ⟨g2, 0, none⟩ = some (.map (some gm))) (c3 : w.cell? ⟨g3, 0, none⟩ = some (.func (.func 24) #[] #[])) (x y : AlR) :
    Calls Tryd.prog 41 #[encK M x, encK M y, .pointer (some ⟨g3, 0, none⟩), .pointer (some ⟨g2, 0, none⟩)] w fun e w' => e = .returned (.int .i64 (cfK M x y)) ∧ Gw w w' := by
  obtain ⟨a, n, c, s, e, l1, r1⟩ := h.lookK x
  obtain ⟨a', n', c', s', e', l2, r2⟩ := h.lookK y
  have HB := hidJ (byLabelsG w (.slice a n c) (.slice a' n' c') _ _ s e s' e' r1 r2)
  have HE : cfK M x y = cmpLs (lbK M x) (lbK M y) := rfl
  rw [← HE] at HB
  clear HE r1 r2 h
  unfold alV at HB
  generalize cfK M x y = r at *
  unfold encK at l1 l2 ⊢
  generalize ByteArray.mk ⟨keyB (lbK M x)⟩ = kx at *
  generalize ByteArray.mk ⟨keyB (lbK M y)⟩ = ky at *
  go_enter Tryd.func41, Tryd.ntmps41
  go_wp2_with fail
  refine HB.out.mono ?_
  rintro e w1 ⟨rfl, H1⟩
  clear HB
  have H1 := hidJ H1
  go_wp2
  go_ret
  exact ⟨rfl, H1.out⟩
end Go.Proofs.YtmgbcmogdjhacaaDoor
