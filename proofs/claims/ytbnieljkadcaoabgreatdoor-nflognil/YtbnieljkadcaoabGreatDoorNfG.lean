/-
  Two lists of labels compared, told to the block: what is laid is laid behind: the walks.
-/
import Derived.Test.YtbnieljkadcaoabGreatDoorNfC
import Derived.Shelf.SlSortCmp.Kit1
namespace Go.Proofs.YtbnieljkadcaoabGreatDoor
open Go.RowKit Go.Shelf Go.Sort

/-- draws, and blocks laid behind -/
def Gw (w w' : World) : Prop := ∃ q os', w' = grow (w.drewN q) os'
theorem Gw.refl (w : World) : Gw w w := ⟨0, #[], by rw [grow_empty]; rfl⟩
theorem Gw.trans {w w1 w2 : World} (h1 : Gw w w1) (h2 : Gw w1 w2) : Gw w w2 := by
  obtain ⟨q, os, rfl⟩ := h1
  obtain ⟨q', os', rfl⟩ := h2
  refine ⟨q + q', os ++ os', ?_⟩
  rw [← grow_grow]
  simp [grow, World.drewN, Nat.add_assoc]
theorem Gw.alloc (w : World) (o : Obj) : Gw w (w.alloc o) := ⟨0, #[o], by rw [alloc_eq_grow]; rfl⟩
theorem Gw.drew (w : World) : Gw w w.drew := ⟨1, #[], by rw [grow_empty]; rfl⟩
theorem Gw.drewN (w : World) (n : Nat) : Gw w (w.drewN n) := ⟨n, #[], by rw [grow_empty]⟩
theorem Gw.gb {w w' : World} (h : Gw w w') : w.grownBy w' none := by
  obtain ⟨q, os, rfl⟩ := h
  exact grow_gb _ _ _
set_option maxRecDepth 8000 in
set_option maxHeartbeats 3200000 in
theorem compareFuncG (w : World) (v u : Value) (ls ms : List LbT) (hv : RdL w v ls) (hu : RdL w u ms) :
    Calls Tryz.prog 94 #[v, u, .func (.func 95) #[] #[]] w fun e w' => e = .returned (.int .i64 (cmpLs ls ms)) ∧ Gw w w' := by
  have HV : Hid (RdL w v ls ∧ RdL w u ms) := ⟨hv, hu⟩
  obtain ⟨a, c, rfl, hc1, hc2, -, -⟩ := hv
  obtain ⟨b, d, rfl, hd1, hd2, -, -⟩ := hu
  unfold maxLen at hc2 hd2
  have HR : Hid (cmpLs ls ms = cmpLs (ls.drop 0) (ms.drop 0)) := (by simp : cmpLs ls ms = cmpLs (ls.drop 0) (ms.drop 0))
  generalize cmpLs ls ms = R at *
  go_enter Tryz.func94, Tryz.ntmps94
  go_wp2
  go_loopw [13] (fun i wr => ∃ z : Nat, z ≤ ls.length ∧ z ≤ ms.length ∧ i = .int .i64 z ∧ Hid (Gw w wr ∧ R = cmpLs (ls.drop z) (ms.drop z))) (fun i _ => ls.length - (intOf i).toNat)
  case atStart => exact ⟨0, by omega, by omega, rfl, Gw.refl _, HR.out⟩
  case round =>
    obtain ⟨z, hzN, hzM, rfl, hr⟩ := hrel
    have HG : Hid (Gw w wr) := hr.out.1
    by_cases hzl : z < ls.length
    · have hzi : (z : Int) < (ls.length : Int) := by omega
      obtain ⟨a', c', he, -, -, h3, -⟩ := HV.out.1.keep hr.out.1.gb
      simp only [Value.slice.injEq] at he
      obtain ⟨rfl, -, rfl⟩ := he
      obtain ⟨b1, o1, rfl, c0, c1⟩ := h3 z hzl
      have hbl : ¬ b1 = wr.heap.size := by have := block_lt c0; omega
      have hbl2 : ¬ wr.heap.size = b1 := by omega
      clear h3
      by_cases hzm : z < ms.length
      · have hzj : ¬ (ms.length : Int) ≤ (z : Int) := by omega
        have hzj2 : (z : Int) < (ms.length : Int) := by omega
        obtain ⟨a2, c2, he2, -, -, h4, -⟩ := HV.out.2.keep hr.out.1.gb
        simp only [Value.slice.injEq] at he2
        obtain ⟨rfl, -, rfl⟩ := he2
        obtain ⟨b2, o2, rfl, d0, d1⟩ := h4 z hzm
        have hbm : ¬ b2 = wr.heap.size := by have := block_lt d0; omega
        have hbm2 : ¬ wr.heap.size = b2 := by omega
        have HS : Hid (R = if cmpL (ls.getD z ([], [])) (ms.getD z ([], [])) ≠ 0 then cmpL (ls.getD z ([], [])) (ms.getD z ([], [])) else cmpLs (ls.drop (z + 1)) (ms.drop (z + 1))) := by rw [← cmp_step hzl hzm]; exact hr.out.2
        have HO : Hid (∀ W, Gw w W → Calls Tryz.prog 95 #[.agg #[.string (ByteArray.mk ⟨(ls.getD z ([], [])).1⟩), .string (ByteArray.mk ⟨(ls.getD z ([], [])).2⟩)], .agg #[.string (ByteArray.mk ⟨(ms.getD z ([], [])).1⟩), .string (ByteArray.mk ⟨(ms.getD z ([], [])).2⟩)]] W fun e w' => e = .returned (.int .i64 (cmpL (ls.getD z ([], [])) (ms.getD z ([], [])))) ∧ Hid (Gw w w')) := fun W hW => (compareOne_any W _ _).mono fun e w' ⟨h1, q, os', h2⟩ => ⟨h1, hW.trans ⟨q, os', h2⟩⟩
        have HE : Hid (∀ C D, Gw w ((wr.alloc C).alloc D)) := fun C D => hr.out.1.trans ((Gw.alloc _ _).trans (Gw.alloc _ _))
        have dC0 : ∀ C, (wr.alloc C).cell? ⟨b2, o2 + z * 2, none⟩ = some (.string (ByteArray.mk ⟨(ms.getD z ([], [])).1⟩)) := fun C => (World.cell?_of_block ((World.grownBy_alloc wr C none).block b2 (block_lt d0) (by simp))).trans d0
        have dC1 : ∀ C, (wr.alloc C).cell? ⟨b2, o2 + z * 2 + 1, none⟩ = some (.string (ByteArray.mk ⟨(ms.getD z ([], [])).2⟩)) := fun C => (World.cell?_of_block ((World.grownBy_alloc wr C none).block b2 (block_lt d0) (by simp))).trans d1
        clear h4 hr HG
        generalize cmpL (ls.getD z ([], [])) (ms.getD z ([], [])) = r at *
        generalize ByteArray.mk ⟨(ls.getD z ([], [])).1⟩ = sn at *
        generalize ByteArray.mk ⟨(ls.getD z ([], [])).2⟩ = sv at *
        generalize ByteArray.mk ⟨(ms.getD z ([], [])).1⟩ = sm at *
        generalize ByteArray.mk ⟨(ms.getD z ([], [])).2⟩ = su at *
        by_cases hr0 : r = 0
        · subst hr0
          rw [if_neg (by simp)] at HS
          go_wp2_with fail
          refine (HO.out _ (HE.out _ _)).mono ?_
          rintro e w1 ⟨rfl, H1⟩
          clear HO HE
          go_wp2
          go_roundw
          case rel => exact ⟨z + 1, by omega, by omega, by simp, H1.out, HS.out⟩
          case measure => simp [intOf]; omega
        · rw [if_pos hr0] at HS
          have hrb : (r == 0) = false := by rw [beq_eq_false_iff_ne]; exact hr0
          go_wp2_with fail
          refine (HO.out _ (HE.out _ _)).mono ?_
          rintro e w1 ⟨rfl, H1⟩
          clear HO HE
          go_wp2
          go_ret
          exact ⟨by rw [HS.out]; rfl, H1.out⟩
      · have hzj : (ms.length : Int) ≤ (z : Int) := by omega
        have HS : Hid (R = 1) := by rw [← cmp_endB hzl (by omega : ms.length ≤ z)]; exact hr.out.2
        have HE : Hid (∀ C, Gw w (wr.alloc C)) := fun C => hr.out.1.trans (Gw.alloc _ _)
        clear hr HG
        generalize ByteArray.mk ⟨(ls.getD z ([], [])).1⟩ = sn at *
        generalize ByteArray.mk ⟨(ls.getD z ([], [])).2⟩ = sv at *
        go_wp2
        go_ret
        exact ⟨by rw [HS.out]; rfl, HE.out _⟩
    · have hzi : ¬ (z : Int) < (ls.length : Int) := by omega
      by_cases hzm : ls.length < ms.length
      · have hlm : (ls.length : Int) < (ms.length : Int) := by omega
        have HS : Hid (R = -1) := by rw [← cmp_endA (by omega : ls.length ≤ z) (by omega : z < ms.length)]; exact hr.out.2
        clear hr
        go_wp2
        go_ret
        exact ⟨by rw [HS.out]; rfl, HG.out⟩
      · have hlm : ¬ (ls.length : Int) < (ms.length : Int) := by omega
        have HS : Hid (R = 0) := by rw [← cmp_endAB (by omega : ls.length ≤ z) (by omega : ms.length ≤ z)]; exact hr.out.2
        clear hr
        go_wp2
        go_ret
        exact ⟨by rw [HS.out]; rfl, HG.out⟩
set_option maxHeartbeats 1600000 in
theorem compareG (w : World) (v u : Value) (ls ms : List LbT) (hv : RdL w v ls) (hu : RdL w u ms) :
    Calls Tryz.prog 72 #[v, u] w fun e w' => e = .returned (.int .i64 (cmpLs ls ms)) ∧ Gw w w' := by
  have HC : Hid (Calls Tryz.prog 94 #[v, u, .func (.func 95) #[] #[]] w fun e w' => e = .returned (.int .i64 (cmpLs ls ms)) ∧ Hid (Gw w w')) := compareFuncG w v u ls ms hv hu
  generalize cmpLs ls ms = R at *
  clear hv hu
  go_enter Tryz.func72, Tryz.ntmps72
  go_wp2_with fail
  refine HC.out.mono ?_
  rintro e w1 ⟨rfl, H1⟩
  clear HC
  go_wp2
  go_ret
  exact ⟨rfl, H1.out⟩

end Go.Proofs.YtbnieljkadcaoabGreatDoor
