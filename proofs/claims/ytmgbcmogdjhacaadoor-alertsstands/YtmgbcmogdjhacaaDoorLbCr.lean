/-
  Two lists of labels compared, by the document: the walk.
-/
import Derived.Test.YtmgbcmogdjhacaaDoorLbCm
namespace Go.Proofs.YtmgbcmogdjhacaaDoor
open Go.RowKit

set_option maxRecDepth 8000 in
set_option maxHeartbeats 3200000 in
theorem refCompare_any (w : World) (v u : Value) (ls ms : List LbT) (hv : RdL w v ls) (hu : RdL w u ms) :
    Calls Tryd.prog 18 #[v, u] w fun e w' => e = .returned (.int .i64 (cmpLs ls ms)) ∧ w.grownBy w' none := by
  have HV : Hid (RdL w v ls ∧ RdL w u ms) := ⟨hv, hu⟩
  obtain ⟨a, c, rfl, hc1, hc2, -, -⟩ := hv
  obtain ⟨b, d, rfl, hd1, hd2, -, -⟩ := hu
  unfold maxLen at hc2 hd2
  have HR : Hid (cmpLs ls ms = cmpLs (ls.drop 0) (ms.drop 0)) := (by simp : cmpLs ls ms = cmpLs (ls.drop 0) (ms.drop 0))
  generalize cmpLs ls ms = R at *
  go_enter Tryd.func18, Tryd.ntmps18
  go_wp2
  go_loopw [5] (fun i wr => ∃ z : Nat, z ≤ ls.length ∧ z ≤ ms.length ∧ i = .int .i64 z ∧ Hid (w.grownBy wr none ∧ R = cmpLs (ls.drop z) (ms.drop z))) (fun i _ => ls.length - (intOf i).toNat)
  case atStart => exact ⟨0, by omega, by omega, rfl, gb_refl _ _, HR.out⟩
  case round =>
    obtain ⟨z, hzN, hzM, rfl, hr⟩ := hrel
    have HG : Hid (w.grownBy wr none) := hr.out.1
    by_cases hzb : z < ls.length ∧ z < ms.length
    · obtain ⟨hzl, hzm⟩ := hzb
      have hzi : (z : Int) < (ls.length : Int) := by omega
      have hzj : (z : Int) < (ms.length : Int) := by omega
      obtain ⟨a', c', he, -, -, h3, -⟩ := HV.out.1.keep hr.out.1
      simp only [Value.slice.injEq] at he
      obtain ⟨rfl, -, rfl⟩ := he
      obtain ⟨b1, o1, rfl, c0, c1⟩ := h3 z hzl
      obtain ⟨a2, c2, he2, -, -, h4, -⟩ := HV.out.2.keep hr.out.1
      simp only [Value.slice.injEq] at he2
      obtain ⟨rfl, -, rfl⟩ := he2
      obtain ⟨b2, o2, rfl, d0, d1⟩ := h4 z hzm
      have HS : Hid (R = if cmpL (ls.getD z ([], [])) (ms.getD z ([], [])) ≠ 0 then cmpL (ls.getD z ([], [])) (ms.getD z ([], [])) else cmpLs (ls.drop (z + 1)) (ms.drop (z + 1))) := by rw [← cmp_step hzl hzm]; exact hr.out.2
      have HL : Hid (cmpL (ls.getD z ([], [])) (ms.getD z ([], [])) = if cmpS (ls.getD z ([], [])).1 (ms.getD z ([], [])).1 ≠ 0 then cmpS (ls.getD z ([], [])).1 (ms.getD z ([], [])).1 else cmpS (ls.getD z ([], [])).2 (ms.getD z ([], [])).2) := rfl
      have HA : Hid (∀ W, Calls Tryd.prog 37 #[.string (ByteArray.mk ⟨(ls.getD z ([], [])).1⟩), .string (ByteArray.mk ⟨(ms.getD z ([], [])).1⟩)] W fun e w' => e = .returned (.int .i64 (cmpS (ls.getD z ([], [])).1 (ms.getD z ([], [])).1)) ∧ w' = W) := fun W => refSide_any W _ _
      have HB : Hid (∀ W, Calls Tryd.prog 37 #[.string (ByteArray.mk ⟨(ls.getD z ([], [])).2⟩), .string (ByteArray.mk ⟨(ms.getD z ([], [])).2⟩)] W fun e w' => e = .returned (.int .i64 (cmpS (ls.getD z ([], [])).2 (ms.getD z ([], [])).2)) ∧ w' = W) := fun W => refSide_any W _ _
      clear h3 h4 hr
      generalize cmpL (ls.getD z ([], [])) (ms.getD z ([], [])) = r at *
      generalize cmpS (ls.getD z ([], [])).1 (ms.getD z ([], [])).1 = r1 at *
      generalize cmpS (ls.getD z ([], [])).2 (ms.getD z ([], [])).2 = r2 at *
      generalize ByteArray.mk ⟨(ls.getD z ([], [])).1⟩ = sn at *
      generalize ByteArray.mk ⟨(ls.getD z ([], [])).2⟩ = sv at *
      generalize ByteArray.mk ⟨(ms.getD z ([], [])).1⟩ = sm at *
      generalize ByteArray.mk ⟨(ms.getD z ([], [])).2⟩ = su at *
      generalize hq1 : o1 + z * 2 = p1 at *
      generalize hq2 : o2 + z * 2 = p2 at *
      go_wp2_with fail
      go_region_held3 (fun w' => w'.cell? ⟨b1, p1, none⟩ = some (.string sn) ∧ w'.cell? ⟨b2, p2, none⟩ = some (.string sm)) (go_keep) (first | (go_at_call 37; with_reducible refine (HA.out _).mono ?_; rintro e w' ⟨rfl, rfl⟩))
      have e0 : wr.drew.cell? ⟨b1, p1 + 1, none⟩ = some (.string sv) := c1
      have e1 : wr.drew.cell? ⟨b2, p2 + 1, none⟩ = some (.string su) := d1
      have HG1 : Hid (w.grownBy wr.drew none) := gb_none HG.out (gb_drew _ none)
      generalize wr.drew = wr1 at *
      by_cases h1 : r1 = 0
      · subst h1
        rw [if_neg (by simp)] at HL
        go_wp2_with fail
        go_region_held3 (fun w' => w'.cell? ⟨b1, p1 + 1, none⟩ = some (.string sv) ∧ w'.cell? ⟨b2, p2 + 1, none⟩ = some (.string su)) (go_keep) (first | (go_at_call 37; with_reducible refine (HB.out _).mono ?_; rintro e w' ⟨rfl, rfl⟩))
        have HG2 : Hid (w.grownBy wr1.drew none) := gb_none HG1.out (gb_drew _ none)
        generalize wr1.drew = wr2 at *
        by_cases h2 : r2 = 0
        · subst h2
          have h3 := HL.out
          subst h3
          rw [if_neg (by simp)] at HS
          clear HA HB HL
          go_wp2
          go_roundw
          case rel => exact ⟨z + 1, by omega, by omega, by simp, HG2.out, HS.out⟩
          case measure => simp [intOf]; omega
        · have h3 := HL.out
          subst h3
          rw [if_pos h2] at HS
          have hrb : (r == 0) = false := by rw [beq_eq_false_iff_ne]; exact h2
          clear HA HB HL
          go_wp2
          go_ret
          exact ⟨by rw [HS.out]; rfl, HG2.out⟩
      · rw [if_pos h1] at HL
        have h3 := HL.out
        subst h3
        rw [if_pos h1] at HS
        have hrb : (r == 0) = false := by rw [beq_eq_false_iff_ne]; exact h1
        clear HA HB HL
        go_wp2
        go_ret
        exact ⟨by rw [HS.out]; rfl, HG1.out⟩
    · rcases Nat.lt_trichotomy ls.length ms.length with hlm | hlm | hlm
      · have hzi : ¬ (z : Int) < (ls.length : Int) := by omega
        have hli : (ls.length : Int) < (ms.length : Int) := by omega
        have HS : Hid (R = -1) := by rw [← cmp_endA (by omega : ls.length ≤ z) (by omega : z < ms.length)]; exact hr.out.2
        clear hr hzb
        go_wp2
        go_ret
        exact ⟨by rw [HS.out]; rfl, HG.out⟩
      · have hzi : ¬ (z : Int) < (ls.length : Int) := by omega
        have hli : ¬ (ls.length : Int) < (ms.length : Int) := by omega
        have hli2 : ¬ (ms.length : Int) < (ls.length : Int) := by omega
        have HS : Hid (R = 0) := by rw [← cmp_endAB (by omega : ls.length ≤ z) (by omega : ms.length ≤ z)]; exact hr.out.2
        clear hr hzb
        go_wp2
        go_ret
        exact ⟨by rw [HS.out]; rfl, HG.out⟩
      · have hzi : (z : Int) < (ls.length : Int) := by omega
        have hzj : ¬ (z : Int) < (ms.length : Int) := by omega
        have hli : ¬ (ls.length : Int) < (ms.length : Int) := by omega
        have hli2 : (ms.length : Int) < (ls.length : Int) := by omega
        have HS : Hid (R = 1) := by rw [← cmp_endB (by omega : z < ls.length) (by omega : ms.length ≤ z)]; exact hr.out.2
        clear hr hzb
        go_wp2
        go_ret
        exact ⟨by rw [HS.out]; rfl, HG.out⟩
end Go.Proofs.YtmgbcmogdjhacaaDoor
