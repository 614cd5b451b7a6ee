/-
  Lists of labels in memory; the first fault of one; the document's Right: the walk.
-/
import Derived.Test.YtpglhdnepmcahaaGreatDoorMgB
import Derived.Sort.Walk0
namespace Go.Proofs.YtpglhdnepmcahaaGreatDoor
open Go.RowKit

abbrev LbT := List UInt8 × List UInt8
/-- the value is a slice that reads as these labels -/
def RdL (w : World) (v : Value) (ls : List LbT) : Prop :=
  ∃ a c, v = .slice a ls.length c ∧ ls.length ≤ c ∧ c ≤ maxLen ∧ (∀ j, j < ls.length → ∃ b o, a = some ⟨b, o, none⟩ ∧ w.cell? ⟨b, o + j * 2, none⟩ = some (.string (ByteArray.mk ⟨(ls.getD j ([], [])).1⟩)) ∧ w.cell? ⟨b, o + j * 2 + 1, none⟩ = some (.string (ByteArray.mk ⟨(ls.getD j ([], [])).2⟩))) ∧ (a = none → c = 0)
theorem RdL.keep {w w' : World} {v : Value} {ls : List LbT} (h : RdL w v ls) (hg : w.grownBy w' none) : RdL w' v ls := by
  obtain ⟨a, c, h1, h2, h3, h4, h5⟩ := h
  refine ⟨a, c, h1, h2, h3, fun j hj => ?_, h5⟩
  obtain ⟨b, o, e, c0, c1⟩ := h4 j hj
  have hb := hg.block b (block_lt c0) (by simp)
  exact ⟨b, o, e, (World.cell?_of_block hb).trans c0, (World.cell?_of_block hb).trans c1⟩
/-- all of its texts can be -/
def LbIn (ls : List LbT) : Prop := ls.length ≤ 1000000000000000000 ∧ ∀ j, (ls.getD j ([], [])).1.length ≤ 1000000000000000000 ∧ (ls.getD j ([], [])).2.length ≤ 1000000000000000000

/-- what is wrong at a label -/
def errAt (ls : List LbT) (i : Nat) : Int :=
  if oneE (ls.getD i ([], [])).1 (ls.getD i ([], [])).2 ≠ 0 then oneE (ls.getD i ([], [])).1 (ls.getD i ([], [])).2
  else if 0 < i ∧ ¬ (ls.getD (i - 1) ([], [])).1 < (ls.getD i ([], [])).1 then 3 else 0
def firstAt (ls : List LbT) : Nat → Nat → Int × Nat
  | 0, _ => (0, 0)
  | f + 1, i => if errAt ls i ≠ 0 then (errAt ls i, i) else firstAt ls f (i + 1)
def rightS (ls : List LbT) : Int × Nat := if 16 < ls.length then (8, 0) else firstAt ls ls.length 0
theorem firstAt_step (ls : List LbT) (f i : Nat) (h : errAt ls i = 0) : firstAt ls (f + 1) i = firstAt ls f (i + 1) := by rw [firstAt, if_neg (by simpa using h)]
theorem firstAt_hit (ls : List LbT) (f i : Nat) (h : errAt ls i ≠ 0) : firstAt ls (f + 1) i = (errAt ls i, i) := by rw [firstAt, if_pos h]

set_option maxRecDepth 8000 in
set_option maxHeartbeats 3200000 in
theorem refRight_any (w : World) (v : Value) (ls : List LbT) (hv : RdL w v ls) (hl : LbIn ls) :
    Calls Tryz.prog 77 #[v] w fun e w' => e = .returned (.tuple #[.int .i64 (rightS ls).1, .int .i64 ((rightS ls).2 : Int)]) ∧ w.grownBy w' none := by
  have HV : Hid (RdL w v ls ∧ LbIn ls) := ⟨hv, hl⟩
  obtain ⟨a, c, rfl, hc1, hc2, hc3, hc4⟩ := hv
  unfold maxLen at hc2
  clear hc3 hc4
  by_cases h16 : 16 < ls.length
  · have h16' : (16 : Int) < (ls.length : Int) := by omega
    have HR : Hid (rightS ls = (8, 0)) := by show rightS ls = (8, 0); rw [rightS, if_pos h16]
    rw [HR.out]
    go_enter Tryz.func77, Tryz.ntmps77
    go_wp2
    go_ret2
    exact ⟨rfl, gb_refl _ _⟩
  · have h16' : ¬ (16 : Int) < (ls.length : Int) := by omega
    have HR : Hid (rightS ls = firstAt ls ls.length 0) := by show rightS ls = firstAt ls ls.length 0; rw [rightS, if_neg h16]
    generalize rightS ls = RS at *
    go_enter Tryz.func77, Tryz.ntmps77
    go_wp2
    go_loopw [12] (fun i wr => ∃ z : Nat, z ≤ ls.length ∧ i = .int .i64 z ∧ Hid (w.grownBy wr none ∧ RS = firstAt ls (ls.length - z) z)) (fun i _ => ls.length - (intOf i).toNat)
    case atStart => exact ⟨0, by omega, rfl, gb_refl _ _, HR.out⟩
    case round =>
      obtain ⟨z, hzN, rfl, hr⟩ := hrel
      by_cases hzl : z < ls.length
      · obtain ⟨a', c', he, -, -, h3, -⟩ := HV.out.1.keep hr.out.1
        simp only [Value.slice.injEq] at he
        obtain ⟨rfl, -, rfl⟩ := he
        obtain ⟨b, o, rfl, c0, c1⟩ := h3 z hzl
        have HG : Hid (w.grownBy wr none) := hr.out.1
        have hbl : ¬ b = wr.heap.size := by have := block_lt c0; omega
        have hbl2 : ¬ wr.heap.size = b := by omega
        have HF : Hid (RS = if errAt ls z ≠ 0 then (errAt ls z, z) else firstAt ls (ls.length - (z + 1)) (z + 1)) := by
          have h := hr.out.2
          obtain ⟨f, hf⟩ : ∃ f, ls.length - z = f + 1 := ⟨ls.length - z - 1, by omega⟩
          rw [hf, firstAt] at h
          rw [show ls.length - (z + 1) = f by omega]
          exact h
        have HO : Hid (∀ W, wr.grownBy W none → W.heap[wr.heap.size]? = some (.cells #[.string (ByteArray.mk ⟨(ls.getD z ([], [])).1⟩), .string (ByteArray.mk ⟨(ls.getD z ([], [])).2⟩)] 51 (0, 0)) → Calls Tryz.prog 111 #[.agg #[.string (ByteArray.mk ⟨(ls.getD z ([], [])).1⟩), .string (ByteArray.mk ⟨(ls.getD z ([], [])).2⟩)]] W fun e w' => e = .returned (.int .i64 (oneE (ls.getD z ([], [])).1 (ls.getD z ([], [])).2)) ∧ w'.cell? ⟨wr.heap.size, 0, none⟩ = some (.string (ByteArray.mk ⟨(ls.getD z ([], [])).1⟩)) ∧ (∀ y, y < ls.length → w'.cell? ⟨b, o + y * 2, none⟩ = some (.string (ByteArray.mk ⟨(ls.getD y ([], [])).1⟩))) ∧ Hid (w.grownBy w' none)) := fun W hW hb =>
          (refOne_any W _ _ (HV.out.2.2 z).1 (HV.out.2.2 z).2).mono fun e w' ⟨h1, h2⟩ => by
            have hG := gb_none hW h2
            have hb' := (h2.block wr.heap.size (Array.getElem?_eq_some_iff.1 hb).1 (by simp)).trans hb
            refine ⟨h1, by simp only [World.cell?, hb']; rfl, fun y hy => ?_, gb_none HG.out hG⟩
            obtain ⟨b2, o2, e2, d0, -⟩ := h3 y hy
            cases e2
            exact (World.cell?_of_block (hG.block b (block_lt d0) (by simp))).trans d0
        have HErr : Hid (errAt ls z = if oneE (ls.getD z ([], [])).1 (ls.getD z ([], [])).2 ≠ 0 then oneE (ls.getD z ([], [])).1 (ls.getD z ([], [])).2 else if 0 < z ∧ ¬ (ls.getD (z - 1) ([], [])).1 < (ls.getD z ([], [])).1 then 3 else 0) := rfl
        clear hr h3
        generalize errAt ls z = ER at *
        generalize oneE (ls.getD z ([], [])).1 (ls.getD z ([], [])).2 = E at *
        by_cases hE : E = 0
        · subst hE
          rw [if_neg (by simp)] at HErr
          by_cases hz0 : z = 0
          · subst hz0
            have hER : ER = 0 := by rw [HErr.out, if_neg (by omega)]
            subst hER
            have HF2 : Hid (RS = firstAt ls (ls.length - (0 + 1)) (0 + 1)) := by have := HF.out; rw [if_neg (by simp)] at this; exact this
            clear HF HErr
            simp only [Nat.zero_mul, Nat.add_zero] at c0 c1
            generalize ByteArray.mk ⟨(ls.getD 0 ([], [])).1⟩ = sn at *
            generalize ByteArray.mk ⟨(ls.getD 0 ([], [])).2⟩ = sv at *
            go_wp2_with fail
            refine (HO.out _ (World.grownBy_alloc _ _ none) (Go.heap_alloc_new wr _)).mono ?_
            rintro e w1 ⟨rfl, -, -, H1⟩
            clear HO
            go_wp2
            go_region
            go_wp2
            go_roundw
            case rel => exact ⟨0 + 1, by omega, by go_num, gb_none H1.out (gb_drew _ none), HF2.out⟩
            case measure => simp [intOf]; omega
          · obtain ⟨y, hy⟩ : ∃ y, z = y + 1 := ⟨z - 1, by omega⟩
            rw [show z - 1 = y by omega] at HErr
            have hyi : (z : Int) - 1 = (y : Int) := by omega
            have hyp : (0 : Int) < (z : Int) := by omega
            have hyl : y < ls.length := by omega
            clear hy
            by_cases hcmp : (ls.getD y ([], [])).1 < (ls.getD z ([], [])).1
            · have hER : ER = 0 := by rw [HErr.out, if_neg (fun h => h.2 hcmp)]
              subst hER
              have hb1 : Op.bytesLess (ByteArray.mk ⟨(ls.getD y ([], [])).1⟩).toList (ByteArray.mk ⟨(ls.getD z ([], [])).1⟩).toList = true := by
                rw [ByteArray.toList_eq, ByteArray.toList_eq, bytesLess_eq]
                exact decide_eq_true hcmp
              have HF2 : Hid (RS = firstAt ls (ls.length - (z + 1)) (z + 1)) := by have := HF.out; rw [if_neg (by simp)] at this; exact this
              clear HF HErr hcmp hz0
              generalize ByteArray.mk ⟨(ls.getD z ([], [])).1⟩ = sn at *
              generalize ByteArray.mk ⟨(ls.getD z ([], [])).2⟩ = sv at *
              go_wp2_with fail
              with_reducible refine (HO.out _ (World.grownBy_alloc _ _ none) (Go.heap_alloc_new wr _)).mono ?_
              rintro e w1 ⟨rfl, d0, d1, H1⟩
              have d2 := d1 y hyl
              clear HO d1 c0 c1
              generalize ByteArray.mk ⟨(ls.getD y ([], [])).1⟩ = sm at *
              have hgd : decide (0 < z) = true := decide_eq_true (by omega)
              have hgd2 : decide ((0 : Int) < (z : Int)) = true := decide_eq_true hyp
              go_wp2
              go_region
              go_wp2
              go_roundw
              case rel => exact ⟨z + 1, by omega, by go_num, gb_none H1.out (gb_drew _ none), HF2.out⟩
              case measure => simp [intOf]; omega
            · have hER : ER = 3 := by rw [HErr.out, if_pos ⟨by omega, hcmp⟩]
              subst hER
              have hb1 : Op.bytesLess (ByteArray.mk ⟨(ls.getD y ([], [])).1⟩).toList (ByteArray.mk ⟨(ls.getD z ([], [])).1⟩).toList = false := by
                rw [ByteArray.toList_eq, ByteArray.toList_eq, bytesLess_eq]
                exact decide_eq_false hcmp
              have HF2 : Hid (RS = (3, z)) := by have := HF.out; rw [if_pos (by simp)] at this; exact this
              clear HF HErr hcmp hz0
              generalize ByteArray.mk ⟨(ls.getD z ([], [])).1⟩ = sn at *
              generalize ByteArray.mk ⟨(ls.getD z ([], [])).2⟩ = sv at *
              go_wp2_with fail
              with_reducible refine (HO.out _ (World.grownBy_alloc _ _ none) (Go.heap_alloc_new wr _)).mono ?_
              rintro e w1 ⟨rfl, d0, d1, H1⟩
              have d2 := d1 y hyl
              clear HO d1 c0 c1
              generalize ByteArray.mk ⟨(ls.getD y ([], [])).1⟩ = sm at *
              have hgd : decide (0 < z) = true := decide_eq_true (by omega)
              have hgd2 : decide ((0 : Int) < (z : Int)) = true := decide_eq_true hyp
              go_wp2
              go_region
              go_wp2
              go_ret2
              exact ⟨by rw [HF2.out]; rfl, gb_none H1.out (gb_drew _ none)⟩
        · have hER : ER = E := by rw [HErr.out, if_pos hE]
          subst hER
          have HF2 : Hid (RS = (ER, z)) := by have := HF.out; rw [if_pos hE] at this; exact this
          have hEb : (ER == 0) = false := by rw [beq_eq_false_iff_ne]; exact hE
          clear HF HErr HR
          generalize ByteArray.mk ⟨(ls.getD z ([], [])).1⟩ = sn at *
          generalize ByteArray.mk ⟨(ls.getD z ([], [])).2⟩ = sv at *
          go_wp2_with fail
          refine (HO.out _ (World.grownBy_alloc _ _ none) (Go.heap_alloc_new wr _)).mono ?_
          rintro e w1 ⟨rfl, -, -, H1⟩
          clear HO
          go_wp2
          go_ret2
          exact ⟨by rw [HF2.out]; rfl, H1.out⟩
      · have hRS : RS = (0, 0) := by have := hr.out.2; rw [show ls.length - z = 0 by omega, firstAt] at this; exact this
        have HRS : Hid (RS = (0, 0)) := hRS
        have HG : Hid (w.grownBy wr none) := hr.out.1
        clear hr HR hRS
        go_wp2
        go_ret2
        exact ⟨by rw [HRS.out]; rfl, HG.out⟩
end Go.Proofs.YtpglhdnepmcahaaGreatDoor
