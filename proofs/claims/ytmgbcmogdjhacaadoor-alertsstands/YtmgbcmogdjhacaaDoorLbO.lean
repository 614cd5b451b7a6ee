/-
  One label: what is wrong of it, by the document and by the project: the walks.
-/
import Derived.Test.YtmgbcmogdjhacaaDoorLbR2
import Derived.Test.YtmgbcmogdjhacaaDoorU8Ref2
namespace Go.Proofs.YtmgbcmogdjhacaaDoor
open Go.RowKit Go.Lib

/-- what is wrong of a label -/
def oneE (n v : List UInt8) : Int := if nameB n = false then 40 else if v = [] then 41 else if 256 < v.length then 4 else if validD v = false then 12 else 0

theorem empty_facts {v : List UInt8} (h : ¬ v = []) : (ByteArray.mk ⟨v⟩).toList.isEmpty = false ∧ ¬ (ByteArray.mk ⟨v⟩).toList = [] ∧ v.isEmpty = false := by
  refine ⟨?_, ?_, ?_⟩
  · rw [ByteArray.toList_eq]; cases v with | nil => exact absurd rfl h | cons c t => rfl
  · rw [ByteArray.toList_eq]; exact h
  · cases v with | nil => exact absurd rfl h | cons c t => rfl

/-- the label's own box -/
def Bx (w : World) (b0 : Nat) (sn sv : ByteArray) (W : World) : Prop := W.heap[b0]? = some (.cells #[.string sn, .string sv] 63 (0, 0)) ∧ w.grownBy W none
theorem Bx.cells {w W : World} {b0 : Nat} {sn sv : ByteArray} (h : Bx w b0 sn sv W) : W.cell? ⟨b0, 0, none⟩ = some (.string sn) ∧ W.cell? ⟨b0, 1, none⟩ = some (.string sv) := ⟨by simp [World.cell?, h.1], by simp [World.cell?, h.1]⟩
theorem Bx.keep {w W W' : World} {b0 : Nat} {sn sv : ByteArray} (h : Bx w b0 sn sv W) (hg : W.grownBy W' none) : Bx w b0 sn sv W' :=
  ⟨(hg.block b0 (Array.getElem?_eq_some_iff.1 h.1).1 (by simp)).trans h.1, gb_none h.2 hg⟩

set_option maxHeartbeats 3200000 in
theorem refOne_any (w : World) (n v : List UInt8) (hn : n.length ≤ 1000000000000000000) (hv : v.length ≤ 1000000000000000000) :
    Calls Tryd.prog 38 #[.agg #[.string (ByteArray.mk ⟨n⟩), .string (ByteArray.mk ⟨v⟩)]] w fun e w' => e = .returned (.int .i64 (oneE n v)) ∧ w.grownBy w' none := by
  have hz : (ByteArray.mk ⟨v⟩).size = v.length := rfl
  have HE : Hid (oneE n v = if nameB n = false then 40 else if v = [] then 41 else if 256 < v.length then 4 else if validD v = false then 12 else 0) := rfl
  have HN : Hid (∀ W, Bx w w.heap.size (ByteArray.mk ⟨n⟩) (ByteArray.mk ⟨v⟩) W → Calls Tryd.prog 49 #[.string (ByteArray.mk ⟨n⟩)] W fun e w' => e = .returned (.bool (nameB n)) ∧ (w'.cell? ⟨w.heap.size, 0, none⟩ = some (.string (ByteArray.mk ⟨n⟩)) ∧ w'.cell? ⟨w.heap.size, 1, none⟩ = some (.string (ByteArray.mk ⟨v⟩))) ∧ Hid (Bx w w.heap.size (ByteArray.mk ⟨n⟩) (ByteArray.mk ⟨v⟩) w')) := fun W hW =>
    (refName_any W n hn).mono fun e w' ⟨h1, h2⟩ => ⟨h1, (hW.keep h2).cells, hW.keep h2⟩
  have HU : Hid (∀ W, Bx w w.heap.size (ByteArray.mk ⟨n⟩) (ByteArray.mk ⟨v⟩) W → Calls Tryd.prog 50 #[.string (ByteArray.mk ⟨v⟩)] W fun e w' => e = .returned (.bool (validD v)) ∧ Hid (w.grownBy w' none)) := fun W hW =>
    (utf8_walk W v hv).mono fun e w' ⟨h1, h2⟩ => ⟨h1, gb_none hW.2 h2⟩
  have H0 : Hid (Bx w w.heap.size (ByteArray.mk ⟨n⟩) (ByteArray.mk ⟨v⟩) (w.alloc (.cells #[.string (ByteArray.mk ⟨n⟩), .string (ByteArray.mk ⟨v⟩)] 63))) := ⟨Go.heap_alloc_new w _, World.grownBy_alloc _ _ none⟩
  generalize oneE n v = E at *
  generalize nameB n = bn at *
  generalize validD v = bv' at *
  generalize hsn : ByteArray.mk ⟨n⟩ = sn at *
  cases bn with
  | false =>
    have hE : E = 40 := by rw [HE.out]; rfl
    subst hE
    clear HE
    go_enter Tryd.func38, Tryd.ntmps38
    go_wp2_with fail
    refine (HN.out _ H0.out).mono ?_
    rintro e w1 ⟨rfl, -, H1⟩
    go_wp2
    go_ret
    exact ⟨rfl, H1.out.2⟩
  | true =>
    by_cases hv0 : v = []
    · subst hv0
      have hE : E = 41 := by rw [HE.out]; rfl
      subst hE
      clear HE
      go_enter Tryd.func38, Tryd.ntmps38
      go_wp2_with fail
      refine (HN.out _ H0.out).mono ?_
      rintro e w1 ⟨rfl, ⟨c0, c1⟩, H1⟩
      go_wp2
      go_ret
      exact ⟨rfl, H1.out.2⟩
    · obtain ⟨e1, e2, e3⟩ := empty_facts hv0
      by_cases hb : 256 < v.length
      · have hbi : (256 : Int) < (v.length : Int) := by omega
        have hE : E = 4 := by rw [HE.out, if_neg (by simp), if_neg hv0, if_pos hb]
        subst hE
        clear HE
        go_enter Tryd.func38, Tryd.ntmps38
        go_wp2_with fail
        refine (HN.out _ H0.out).mono ?_
        rintro e w1 ⟨rfl, ⟨c0, c1⟩, H1⟩
        go_wp2
        go_ret
        exact ⟨rfl, H1.out.2⟩
      · have hbi : ¬ (256 : Int) < (v.length : Int) := by omega
        cases bv' with
        | false =>
          have hE : E = 12 := by rw [HE.out, if_neg (by simp), if_neg hv0, if_neg hb]; rfl
          subst hE
          clear HE
          go_enter Tryd.func38, Tryd.ntmps38
          go_wp2_with fail
          refine (HN.out _ H0.out).mono ?_
          rintro e w1 ⟨rfl, ⟨c0, c1⟩, H1⟩
          go_wp2_with fail
          refine (HU.out _ H1.out).mono ?_
          rintro e w2 ⟨rfl, H2⟩
          go_wp2
          go_ret
          exact ⟨rfl, H2.out⟩
        | true =>
          have hE : E = 0 := by rw [HE.out, if_neg (by simp), if_neg hv0, if_neg hb]; rfl
          subst hE
          clear HE
          go_enter Tryd.func38, Tryd.ntmps38
          go_wp2_with fail
          refine (HN.out _ H0.out).mono ?_
          rintro e w1 ⟨rfl, ⟨c0, c1⟩, H1⟩
          go_wp2_with fail
          refine (HU.out _ H1.out).mono ?_
          rintro e w2 ⟨rfl, H2⟩
          go_wp2
          go_ret
          exact ⟨rfl, H2.out⟩
end Go.Proofs.YtmgbcmogdjhacaaDoor
