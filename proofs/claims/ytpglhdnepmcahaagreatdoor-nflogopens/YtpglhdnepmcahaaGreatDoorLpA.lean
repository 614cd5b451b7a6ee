/-
  LbP, LbP2, in one text.
-/
import Derived.Test.YtpglhdnepmcahaaGreatDoorLbL
import Derived.Test.YtpglhdnepmcahaaGreatDoorShelf
/- LbP -/
namespace Go.Proofs.YtpglhdnepmcahaaGreatDoor
open Go.RowKit

/-- UTF-8's tables hold what their initialisers lay -/
def U8S (w : World) : Prop := Lib.Utf8Tabs (Tryz.lays196_ren.g 3) (Tryz.lays196_ren.g 4) w
theorem U8S.keep {w w' : World} (h : U8S w) (hg : w.grownBy w' none) : U8S w' := Utf8Tabs_below h (gb_below hg)
theorem validString_any (w : World) (v : List UInt8) (hv : v.length ≤ 1000000000000000000) (hT : U8S w) :
    Calls Tryz.prog 103 #[.string (ByteArray.mk ⟨v⟩)] w fun e w' => e = .returned (.bool (Lib.validD v)) ∧ w.grownBy w' none :=
  (Any.utf8_ValidString Tryz.lays196 (ByteArray.mk ⟨v⟩) w (by show v.length ≤ 9223372036854775807; omega) hT).mono fun e w' ⟨h1, h2⟩ => ⟨h1, gb_of_below h2⟩

def valueE (v : List UInt8) : Int := if 256 < v.length then 4 else if Lib.validD v = false then 12 else 0
theorem rightValue_any (w : World) (v : List UInt8) (hv : v.length ≤ 1000000000000000000) (hT : U8S w) :
    Calls Tryz.prog 135 #[.string (ByteArray.mk ⟨v⟩)] w fun e w' => e = .returned (.int .i64 (valueE v)) ∧ w.grownBy w' none := by
  have HU : Hid (Calls Tryz.prog 103 #[.string (ByteArray.mk ⟨v⟩)] w fun e w' => e = .returned (.bool (Lib.validD v)) ∧ w.grownBy w' none) := validString_any w v hv hT
  have hz : (ByteArray.mk ⟨v⟩).size = v.length := rfl
  have HE : Hid (valueE v = if 256 < v.length then 4 else if Lib.validD v = false then 12 else 0) := rfl
  clear hT
  generalize valueE v = E at *
  generalize Lib.validD v = bv' at *
  by_cases hb : 256 < v.length
  · have hbi : (256 : Int) < (v.length : Int) := by omega
    have hE : E = 4 := by rw [HE.out, if_pos hb]
    subst hE
    clear HE HU
    go_enter Tryz.func135, Tryz.ntmps135
    go_wp2
    go_ret
    exact ⟨rfl, gb_refl _ _⟩
  · have hbi : ¬ (256 : Int) < (v.length : Int) := by omega
    cases bv' with
    | false =>
      have hE : E = 12 := by rw [HE.out, if_neg hb]; rfl
      subst hE
      clear HE
      go_enter Tryz.func135, Tryz.ntmps135
      go_wp2_with fail
      refine HU.out.mono ?_
      rintro e w1 ⟨rfl, hg1⟩
      have H1 : Hid (w.grownBy w1 none) := hg1
      clear hg1 HU
      go_wp2
      go_ret
      exact ⟨rfl, H1.out⟩
    | true =>
      have hE : E = 0 := by rw [HE.out, if_neg hb]; rfl
      subst hE
      clear HE
      go_enter Tryz.func135, Tryz.ntmps135
      go_wp2_with fail
      refine HU.out.mono ?_
      rintro e w1 ⟨rfl, hg1⟩
      have H1 : Hid (w.grownBy w1 none) := hg1
      clear hg1 HU
      go_wp2
      go_ret
      exact ⟨rfl, H1.out⟩

set_option maxHeartbeats 3200000 in
theorem rightOne_any (w : World) (n v : List UInt8) (hn : n.length ≤ 1000000000000000000) (hv : v.length ≤ 1000000000000000000) (hT : U8S w) :
    Calls Tryz.prog 126 #[.agg #[.string (ByteArray.mk ⟨n⟩), .string (ByteArray.mk ⟨v⟩)]] w fun e w' => e = .returned (.int .i64 (oneE n v)) ∧ w.grownBy w' none := by
  have hz : (ByteArray.mk ⟨v⟩).size = v.length := rfl
  have HE : Hid (oneE n v = if nameB n = false then 40 else if v = [] then 41 else valueE v) := rfl
  have HN : Hid (∀ W, Bx w w.heap.size (ByteArray.mk ⟨n⟩) (ByteArray.mk ⟨v⟩) W → Calls Tryz.prog 134 #[.string (ByteArray.mk ⟨n⟩)] W fun e w' => e = .returned (.bool (nameB n)) ∧ (w'.cell? ⟨w.heap.size, 0, none⟩ = some (.string (ByteArray.mk ⟨n⟩)) ∧ w'.cell? ⟨w.heap.size, 1, none⟩ = some (.string (ByteArray.mk ⟨v⟩))) ∧ Hid (Bx w w.heap.size (ByteArray.mk ⟨n⟩) (ByteArray.mk ⟨v⟩) w')) := fun W hW =>
    (name_any W n hn).mono fun e w' ⟨h1, h2⟩ => ⟨h1, (hW.keep h2).cells, hW.keep h2⟩
  have HU : Hid (∀ W, Bx w w.heap.size (ByteArray.mk ⟨n⟩) (ByteArray.mk ⟨v⟩) W → Calls Tryz.prog 135 #[.string (ByteArray.mk ⟨v⟩)] W fun e w' => e = .returned (.int .i64 (valueE v)) ∧ Hid (w.grownBy w' none)) := fun W hW =>
    (rightValue_any W v hv (hT.keep hW.2)).mono fun e w' ⟨h1, h2⟩ => ⟨h1, gb_none hW.2 h2⟩
  have H0 : Hid (Bx w w.heap.size (ByteArray.mk ⟨n⟩) (ByteArray.mk ⟨v⟩) (w.alloc (.cells #[.string (ByteArray.mk ⟨n⟩), .string (ByteArray.mk ⟨v⟩)] 51))) := ⟨Go.heap_alloc_new w _, World.grownBy_alloc _ _ none⟩
  clear hT
  generalize oneE n v = E at *
  generalize nameB n = bn at *
  generalize valueE v = ve at *
  generalize hsn : ByteArray.mk ⟨n⟩ = sn at *
  cases bn with
  | false =>
    have hE : E = 40 := by rw [HE.out]; rfl
    subst hE
    clear HE
    go_enter Tryz.func126, Tryz.ntmps126
    go_wp2_with fail
    refine (HN.out _ H0.out).mono ?_
    rintro e w1 ⟨rfl, -, H1⟩
    go_wp2
    go_ret
    exact ⟨rfl, H1.out.2⟩
  | true =>
    by_cases hv0 : v = []
    · subst hv0
      have hE : E = 41 := by rw [HE.out]; rfl
      subst hE
      clear HE
      go_enter Tryz.func126, Tryz.ntmps126
      go_wp2_with fail
      refine (HN.out _ H0.out).mono ?_
      rintro e w1 ⟨rfl, ⟨c0, c1⟩, H1⟩
      go_wp2
      go_ret
      exact ⟨rfl, H1.out.2⟩
    · obtain ⟨e1, e2, e3⟩ := empty_facts hv0
      have hE : E = ve := by rw [HE.out, if_neg (by simp), if_neg hv0]
      subst hE
      clear HE
      go_enter Tryz.func126, Tryz.ntmps126
      go_wp2_with fail
      refine (HN.out _ H0.out).mono ?_
      rintro e w1 ⟨rfl, ⟨c0, c1⟩, H1⟩
      go_wp2_with fail
      refine (HU.out _ H1.out).mono ?_
      rintro e w2 ⟨rfl, H2⟩
      go_wp2
      go_ret
      exact ⟨rfl, H2.out⟩
end Go.Proofs.YtpglhdnepmcahaaGreatDoor

/- LbP2 -/
namespace Go.Proofs.YtpglhdnepmcahaaGreatDoor
open Go.RowKit

theorem str_after {a b : List UInt8} (h : a < b) : Op.bytesLess (ByteArray.mk ⟨b⟩).toList (ByteArray.mk ⟨a⟩).toList = false ∧ ((ByteArray.mk ⟨b⟩).toList == (ByteArray.mk ⟨a⟩).toList) = false := by
  rw [ByteArray.toList_eq, ByteArray.toList_eq, bytesLess_eq]
  refine ⟨decide_eq_false (fun h2 => List.lt_irrefl a (List.lt_trans h h2)), ?_⟩
  rw [beq_eq_false_iff_ne]
  intro e
  have e : b = a := e
  subst e
  exact List.lt_irrefl b h
theorem str_upto {a b : List UInt8} (h : ¬ a < b) : (Op.bytesLess (ByteArray.mk ⟨b⟩).toList (ByteArray.mk ⟨a⟩).toList || (ByteArray.mk ⟨b⟩).toList == (ByteArray.mk ⟨a⟩).toList) = true := by
  rw [ByteArray.toList_eq, ByteArray.toList_eq, bytesLess_eq, Bool.or_eq_true]
  by_cases e : b = a
  · right
    subst e
    exact beq_self_eq_true _
  · left
    refine decide_eq_true ?_
    rcases List.le_total a b with h' | h'
    · exact absurd (List.le_antisymm (List.not_lt.1 h) h') e
    · exact List.not_le.1 (fun hba => e (List.le_antisymm h' hba))

set_option maxRecDepth 8000 in
set_option maxHeartbeats 3200000 in
theorem right_any (w : World) (v : Value) (ls : List LbT) (hv : RdL w v ls) (hl : LbIn ls) (hT : U8S w) :
    Calls Tryz.prog 113 #[v] w fun e w' => e = .returned (.tuple #[.int .i64 (rightS ls).1, .int .i64 ((rightS ls).2 : Int)]) ∧ w.grownBy w' none := by
  have HV : Hid (RdL w v ls ∧ LbIn ls) := ⟨hv, hl⟩
  have HT : Hid (U8S w) := hT
  clear hT
  obtain ⟨a, c, rfl, hc1, hc2, hc3, hc4⟩ := hv
  unfold maxLen at hc2
  clear hc3 hc4
  by_cases h16 : 16 < ls.length
  · have h16' : (16 : Int) < (ls.length : Int) := by omega
    have HR : Hid (rightS ls = (8, 0)) := by show rightS ls = (8, 0); rw [rightS, if_pos h16]
    rw [HR.out]
    go_enter Tryz.func113, Tryz.ntmps113
    go_wp2
    go_ret2
    exact ⟨rfl, gb_refl _ _⟩
  · have h16' : ¬ (16 : Int) < (ls.length : Int) := by omega
    have HR : Hid (rightS ls = firstAt ls ls.length 0) := by show rightS ls = firstAt ls ls.length 0; rw [rightS, if_neg h16]
    generalize rightS ls = RS at *
    go_enter Tryz.func113, Tryz.ntmps113
    go_wp2
    go_loopw [12] (fun i wr => ∃ z : Nat, z ≤ ls.length ∧ i = .int .i64 z ∧ Hid (w.grownBy wr none ∧ RS = firstAt ls (ls.length - z) z)) (fun i _ => ls.length - (intOf i).toNat)
    case atStart => exact ⟨0, by omega, rfl, gb_refl _ _, HR.out⟩
    case round =>
      obtain ⟨z, hzN, rfl, hr⟩ := hrel
      by_cases hzl : z < ls.length
      · obtain ⟨a', c', he, -, -, h3, -⟩ := HV.out.1.keep hr.out.1
        simp only [Value.slice.injEq] at he
        obtain ⟨rfl, -, rfl⟩ := he
        obtain ⟨b, o, rfl, c0, c1⟩ := h3 z hzl
        have HG : Hid (w.grownBy wr none) := hr.out.1
        have hbl : ¬ b = wr.heap.size := by have := block_lt c0; omega
        have hbl2 : ¬ wr.heap.size = b := by omega
        have HF : Hid (RS = if errAt ls z ≠ 0 then (errAt ls z, z) else firstAt ls (ls.length - (z + 1)) (z + 1)) := by
          have h := hr.out.2
          obtain ⟨f, hf⟩ : ∃ f, ls.length - z = f + 1 := ⟨ls.length - z - 1, by omega⟩
          rw [hf, firstAt] at h
          rw [show ls.length - (z + 1) = f by omega]
          exact h
        have HO : Hid (∀ W, wr.grownBy W none → W.heap[wr.heap.size]? = some (.cells #[.string (ByteArray.mk ⟨(ls.getD z ([], [])).1⟩), .string (ByteArray.mk ⟨(ls.getD z ([], [])).2⟩)] 51 (0, 0)) → Calls Tryz.prog 126 #[.agg #[.string (ByteArray.mk ⟨(ls.getD z ([], [])).1⟩), .string (ByteArray.mk ⟨(ls.getD z ([], [])).2⟩)]] W fun e w' => e = .returned (.int .i64 (oneE (ls.getD z ([], [])).1 (ls.getD z ([], [])).2)) ∧ w'.cell? ⟨wr.heap.size, 0, none⟩ = some (.string (ByteArray.mk ⟨(ls.getD z ([], [])).1⟩)) ∧ (∀ y, y < ls.length → w'.cell? ⟨b, o + y * 2, none⟩ = some (.string (ByteArray.mk ⟨(ls.getD y ([], [])).1⟩))) ∧ Hid (w.grownBy w' none)) := fun W hW hb =>
          (rightOne_any W _ _ (HV.out.2.2 z).1 (HV.out.2.2 z).2 (HT.out.keep (gb_none HG.out hW))).mono fun e w' ⟨h1, h2⟩ => by
            have hG := gb_none hW h2
            have hb' := (h2.block wr.heap.size (Array.getElem?_eq_some_iff.1 hb).1 (by simp)).trans hb
            refine ⟨h1, by simp only [World.cell?, hb']; rfl, fun y hy => ?_, gb_none HG.out hG⟩
            obtain ⟨b2, o2, e2, d0, -⟩ := h3 y hy
            cases e2
            exact (World.cell?_of_block (hG.block b (block_lt d0) (by simp))).trans d0
        have HErr : Hid (errAt ls z = if oneE (ls.getD z ([], [])).1 (ls.getD z ([], [])).2 ≠ 0 then oneE (ls.getD z ([], [])).1 (ls.getD z ([], [])).2 else if 0 < z ∧ ¬ (ls.getD (z - 1) ([], [])).1 < (ls.getD z ([], [])).1 then 3 else 0) := rfl
        clear hr h3
        generalize errAt ls z = ER at *
        generalize oneE (ls.getD z ([], [])).1 (ls.getD z ([], [])).2 = E at *
        by_cases hE : E = 0
        · subst hE
          rw [if_neg (by simp)] at HErr
          by_cases hz0 : z = 0
          · subst hz0
            have hER : ER = 0 := by rw [HErr.out, if_neg (by omega)]
            subst hER
            have HF2 : Hid (RS = firstAt ls (ls.length - (0 + 1)) (0 + 1)) := by have := HF.out; rw [if_neg (by simp)] at this; exact this
            clear HF HErr
            simp only [Nat.zero_mul, Nat.add_zero] at c0 c1
            generalize ByteArray.mk ⟨(ls.getD 0 ([], [])).1⟩ = sn at *
            generalize ByteArray.mk ⟨(ls.getD 0 ([], [])).2⟩ = sv at *
            go_wp2_with fail
            refine (HO.out _ (World.grownBy_alloc _ _ none) (Go.heap_alloc_new wr _)).mono ?_
            rintro e w1 ⟨rfl, -, -, H1⟩
            clear HO
            go_wp2
            go_region
            go_wp2
            go_roundw
            case rel => exact ⟨0 + 1, by omega, by go_num, gb_none H1.out (gb_drew _ none), HF2.out⟩
            case measure => simp [intOf]; omega
          · obtain ⟨y, hy⟩ : ∃ y, z = y + 1 := ⟨z - 1, by omega⟩
            rw [show z - 1 = y by omega] at HErr
            have hyi : (z : Int) - 1 = (y : Int) := by omega
            have hyp : (0 : Int) < (z : Int) := by omega
            have hyl : y < ls.length := by omega
            clear hy
            by_cases hcmp : (ls.getD y ([], [])).1 < (ls.getD z ([], [])).1
            · have hER : ER = 0 := by rw [HErr.out, if_neg (fun h => h.2 hcmp)]
              subst hER
              obtain ⟨hb1, hb2⟩ := str_after hcmp
              have HF2 : Hid (RS = firstAt ls (ls.length - (z + 1)) (z + 1)) := by have := HF.out; rw [if_neg (by simp)] at this; exact this
              clear HF HErr hcmp hz0
              generalize ByteArray.mk ⟨(ls.getD z ([], [])).1⟩ = sn at *
              generalize ByteArray.mk ⟨(ls.getD z ([], [])).2⟩ = sv at *
              go_wp2_with fail
              with_reducible refine (HO.out _ (World.grownBy_alloc _ _ none) (Go.heap_alloc_new wr _)).mono ?_
              rintro e w1 ⟨rfl, d0, d1, H1⟩
              have d2 := d1 y hyl
              clear HO d1 c0 c1
              generalize ByteArray.mk ⟨(ls.getD y ([], [])).1⟩ = sm at *
              have hgd : decide (0 < z) = true := decide_eq_true (by omega)
              have hgd2 : decide ((0 : Int) < (z : Int)) = true := decide_eq_true hyp
              go_wp2
              go_region
              go_wp2
              go_roundw
              case rel => exact ⟨z + 1, by omega, by go_num, gb_none H1.out (gb_drew _ none), HF2.out⟩
              case measure => simp [intOf]; omega
            · have hER : ER = 3 := by rw [HErr.out, if_pos ⟨by omega, hcmp⟩]
              subst hER
              have hb1 := str_upto hcmp
              have HF2 : Hid (RS = (3, z)) := by have := HF.out; rw [if_pos (by simp)] at this; exact this
              clear HF HErr hcmp hz0
              generalize ByteArray.mk ⟨(ls.getD z ([], [])).1⟩ = sn at *
              generalize ByteArray.mk ⟨(ls.getD z ([], [])).2⟩ = sv at *
              go_wp2_with fail
              with_reducible refine (HO.out _ (World.grownBy_alloc _ _ none) (Go.heap_alloc_new wr _)).mono ?_
              rintro e w1 ⟨rfl, d0, d1, H1⟩
              have d2 := d1 y hyl
              clear HO d1 c0 c1
              generalize ByteArray.mk ⟨(ls.getD y ([], [])).1⟩ = sm at *
              have hgd : decide (0 < z) = true := decide_eq_true (by omega)
              have hgd2 : decide ((0 : Int) < (z : Int)) = true := decide_eq_true hyp
              go_wp2
              go_region
              go_wp2
              go_ret2
              exact ⟨by rw [HF2.out]; rfl, gb_none H1.out (gb_drew _ none)⟩
        · have hER : ER = E := by rw [HErr.out, if_pos hE]
          subst hER
          have HF2 : Hid (RS = (ER, z)) := by have := HF.out; rw [if_pos hE] at this; exact this
          have hEb : (ER == 0) = false := by rw [beq_eq_false_iff_ne]; exact hE
          clear HF HErr HR
          generalize ByteArray.mk ⟨(ls.getD z ([], [])).1⟩ = sn at *
          generalize ByteArray.mk ⟨(ls.getD z ([], [])).2⟩ = sv at *
          go_wp2_with fail
          refine (HO.out _ (World.grownBy_alloc _ _ none) (Go.heap_alloc_new wr _)).mono ?_
          rintro e w1 ⟨rfl, -, -, H1⟩
          clear HO
          go_wp2
          go_region
          go_wp2
          go_ret2
          exact ⟨by rw [HF2.out]; rfl, gb_none H1.out (gb_drew _ none)⟩
      · have hRS : RS = (0, 0) := by have := hr.out.2; rw [show ls.length - z = 0 by omega, firstAt] at this; exact this
        have HRS : Hid (RS = (0, 0)) := hRS
        have HG : Hid (w.grownBy wr none) := hr.out.1
        clear hr HR hRS
        go_wp2
        go_ret2
        exact ⟨by rw [HRS.out]; rfl, HG.out⟩
end Go.Proofs.YtpglhdnepmcahaaGreatDoor
