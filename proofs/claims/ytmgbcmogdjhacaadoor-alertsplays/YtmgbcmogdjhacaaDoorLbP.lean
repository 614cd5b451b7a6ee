/-
  One label, and lists of them: what is wrong, by the project: the walks.
-/
import Derived.Test.YtmgbcmogdjhacaaDoorLbL
import Derived.Test.YtmgbcmogdjhacaaDoorShelf
namespace Go.Proofs.YtmgbcmogdjhacaaDoor
open Go.RowKit

/-- UTF-8's tables hold what their initialisers lay -/
def U8S (w : World) : Prop := Lib.Utf8Tabs (Tryd.lays196_ren.g 3) (Tryd.lays196_ren.g 4) w
theorem U8S.keep {w w' : World} (h : U8S w) (hg : w.grownBy w' none) : U8S w' := Utf8Tabs_below h (gb_below hg)
theorem validString_any (w : World) (v : List UInt8) (hv : v.length ≤ 1000000000000000000) (hT : U8S w) :
    Calls Tryd.prog 84 #[.string (ByteArray.mk ⟨v⟩)] w fun e w' => e = .returned (.bool (Lib.validD v)) ∧ w.grownBy w' none :=
  (Any.utf8_ValidString Tryd.lays196 (ByteArray.mk ⟨v⟩) w (by show v.length ≤ 9223372036854775807; omega) hT).mono fun e w' ⟨h1, h2⟩ => ⟨h1, gb_of_below h2⟩

def valueE (v : List UInt8) : Int := if 256 < v.length then 4 else if Lib.validD v = false then 12 else 0
theorem rightValue_any (w : World) (v : List UInt8) (hv : v.length ≤ 1000000000000000000) (hT : U8S w) :
    Calls Tryd.prog 75 #[.string (ByteArray.mk ⟨v⟩)] w fun e w' => e = .returned (.int .i64 (valueE v)) ∧ w.grownBy w' none := by
  have HU : Hid (Calls Tryd.prog 84 #[.string (ByteArray.mk ⟨v⟩)] w fun e w' => e = .returned (.bool (Lib.validD v)) ∧ w.grownBy w' none) := validString_any w v hv hT
  have hz : (ByteArray.mk ⟨v⟩).size = v.length := rfl
  have HE : Hid (valueE v = if 256 < v.length then 4 else if Lib.validD v = false then 12 else 0) := rfl
  clear hT
  generalize valueE v = E at *
  generalize Lib.validD v = bv' at *
  by_cases hb : 256 < v.length
  · have hbi : (256 : Int) < (v.length : Int) := by omega
    have hE : E = 4 := by rw [HE.out, if_pos hb]
    subst hE
    clear HE HU
    go_enter Tryd.func75, Tryd.ntmps75
    go_wp2
    go_ret
    exact ⟨rfl, gb_refl _ _⟩
  · have hbi : ¬ (256 : Int) < (v.length : Int) := by omega
    cases bv' with
    | false =>
      have hE : E = 12 := by rw [HE.out, if_neg hb]; rfl
      subst hE
      clear HE
      go_enter Tryd.func75, Tryd.ntmps75
      go_wp2_with fail
      refine HU.out.mono ?_
      rintro e w1 ⟨rfl, hg1⟩
      have H1 : Hid (w.grownBy w1 none) := hg1
      clear hg1 HU
      go_wp2
      go_ret
      exact ⟨rfl, H1.out⟩
    | true =>
      have hE : E = 0 := by rw [HE.out, if_neg hb]; rfl
      subst hE
      clear HE
      go_enter Tryd.func75, Tryd.ntmps75
      go_wp2_with fail
      refine HU.out.mono ?_
      rintro e w1 ⟨rfl, hg1⟩
      have H1 : Hid (w.grownBy w1 none) := hg1
      clear hg1 HU
      go_wp2
      go_ret
      exact ⟨rfl, H1.out⟩

set_option maxHeartbeats 3200000 in
theorem rightOne_any (w : World) (n v : List UInt8) (hn : n.length ≤ 1000000000000000000) (hv : v.length ≤ 1000000000000000000) (hT : U8S w) :
    Calls Tryd.prog 57 #[.agg #[.string (ByteArray.mk ⟨n⟩), .string (ByteArray.mk ⟨v⟩)]] w fun e w' => e = .returned (.int .i64 (oneE n v)) ∧ w.grownBy w' none := by
  have hz : (ByteArray.mk ⟨v⟩).size = v.length := rfl
  have HE : Hid (oneE n v = if nameB n = false then 40 else if v = [] then 41 else valueE v) := rfl
  have HN : Hid (∀ W, Bx w w.heap.size (ByteArray.mk ⟨n⟩) (ByteArray.mk ⟨v⟩) W → Calls Tryd.prog 74 #[.string (ByteArray.mk ⟨n⟩)] W fun e w' => e = .returned (.bool (nameB n)) ∧ (w'.cell? ⟨w.heap.size, 0, none⟩ = some (.string (ByteArray.mk ⟨n⟩)) ∧ w'.cell? ⟨w.heap.size, 1, none⟩ = some (.string (ByteArray.mk ⟨v⟩))) ∧ Hid (Bx w w.heap.size (ByteArray.mk ⟨n⟩) (ByteArray.mk ⟨v⟩) w')) := fun W hW =>
    (name_any W n hn).mono fun e w' ⟨h1, h2⟩ => ⟨h1, (hW.keep h2).cells, hW.keep h2⟩
  have HU : Hid (∀ W, Bx w w.heap.size (ByteArray.mk ⟨n⟩) (ByteArray.mk ⟨v⟩) W → Calls Tryd.prog 75 #[.string (ByteArray.mk ⟨v⟩)] W fun e w' => e = .returned (.int .i64 (valueE v)) ∧ Hid (w.grownBy w' none)) := fun W hW =>
    (rightValue_any W v hv (hT.keep hW.2)).mono fun e w' ⟨h1, h2⟩ => ⟨h1, gb_none hW.2 h2⟩
  have H0 : Hid (Bx w w.heap.size (ByteArray.mk ⟨n⟩) (ByteArray.mk ⟨v⟩) (w.alloc (.cells #[.string (ByteArray.mk ⟨n⟩), .string (ByteArray.mk ⟨v⟩)] 63))) := ⟨Go.heap_alloc_new w _, World.grownBy_alloc _ _ none⟩
  clear hT
  generalize oneE n v = E at *
  generalize nameB n = bn at *
  generalize valueE v = ve at *
  generalize hsn : ByteArray.mk ⟨n⟩ = sn at *
  cases bn with
  | false =>
    have hE : E = 40 := by rw [HE.out]; rfl
    subst hE
    clear HE
    go_enter Tryd.func57, Tryd.ntmps57
    go_wp2_with fail
    refine (HN.out _ H0.out).mono ?_
    rintro e w1 ⟨rfl, -, H1⟩
    go_wp2
    go_ret
    exact ⟨rfl, H1.out.2⟩
  | true =>
    by_cases hv0 : v = []
    · subst hv0
      have hE : E = 41 := by rw [HE.out]; rfl
      subst hE
      clear HE
      go_enter Tryd.func57, Tryd.ntmps57
      go_wp2_with fail
      refine (HN.out _ H0.out).mono ?_
      rintro e w1 ⟨rfl, ⟨c0, c1⟩, H1⟩
      go_wp2
      go_ret
      exact ⟨rfl, H1.out.2⟩
    · obtain ⟨e1, e2, e3⟩ := empty_facts hv0
      have hE : E = ve := by rw [HE.out, if_neg (by simp), if_neg hv0]
      subst hE
      clear HE
      go_enter Tryd.func57, Tryd.ntmps57
      go_wp2_with fail
      refine (HN.out _ H0.out).mono ?_
      rintro e w1 ⟨rfl, ⟨c0, c1⟩, H1⟩
      go_wp2_with fail
      refine (HU.out _ H1.out).mono ?_
      rintro e w2 ⟨rfl, H2⟩
      go_wp2
      go_ret
      exact ⟨rfl, H2.out⟩
end Go.Proofs.YtmgbcmogdjhacaaDoor
