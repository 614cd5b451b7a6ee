/-
  A text that is read: what (*text).word comes to: the walk.
-/
import Derived.Test.YtknlnllcpdiglaaDoorLbT2
namespace Go.Proofs.YtknlnllcpdiglaaDoor
open Go.RowKit

set_option maxHeartbeats 1600000 in
theorem word_inName (w : World) (g : Nat) (s : List UInt8) (k : Nat) (h : Tx w g s k) (hk : k ≤ s.length) (hs : s.length ≤ 1000000000000000) :
    Calls Tryd.prog 98 #[.pointer (some ⟨g, 0, none⟩), .func (.func 44) #[] #[]] w fun e w' => e = .returned (.string (ByteArray.mk ⟨(s.drop k).take (span pinName (s.drop k))⟩)) ∧ w.grownBy w' none := by
  obtain ⟨c0, c1, -⟩ := h.cells
  have hz : (ByteArray.mk ⟨s⟩).size = s.length := rfl
  have hki : (k : Int) ≤ (s.length : Int) := by omega
  have hle : span pinName (s.drop k) ≤ (s.drop k).length := span_le _ _
  have HX : Hid ((ByteArray.mk ⟨s⟩).extract k s.length = ByteArray.mk ⟨s.drop k⟩) := ext_end s k
  have HS : Hid (∀ W, w.grownBy W none → Calls Tryd.prog 83 #[.string (ByteArray.mk ⟨s.drop k⟩), .func (.func 44) #[] #[]] W fun e w' => e = .returned (.int .i64 ((span pinName (s.drop k) : Nat) : Int)) ∧ Hid (w.grownBy w' none)) := fun W hW =>
    (spanOf_inName W (s.drop k) (by rw [List.length_drop]; omega)).mono fun e w' ⟨h1, h2⟩ => ⟨h1, gb_none hW h2⟩
  have HY : Hid ((ByteArray.mk ⟨s.drop k⟩).extract 0 (span pinName (s.drop k)) = ByteArray.mk ⟨(s.drop k).take (span pinName (s.drop k))⟩) := by
    show (ByteArray.mk ⟨s.drop k⟩).extract 0 (span pinName (s.drop k)) = _
    rw [ext_mk, List.drop_zero, Nat.sub_zero]
  have hzd : (ByteArray.mk ⟨s.drop k⟩).size = (s.drop k).length := rfl
  rw [← HY.out]
  have hdl : (s.drop k).length ≤ 1000000000000000 := by rw [List.length_drop]; omega
  clear h
  generalize span pinName (s.drop k) = n at *
  generalize (s.drop k).length = L at *
  generalize hR : ByteArray.mk ⟨s.drop k⟩ = r at *
  have hni : (n : Int) ≤ (L : Int) := by omega
  go_enter Tryd.func98, Tryd.ntmps98
  go_wp2_with fail
  go_region
  go_wp2_with fail
  rw [HX.out]
  refine (HS.out _ (gb_drew _ none)).mono ?_
  rintro e w1 ⟨rfl, H1⟩
  clear HS
  go_wp2
  go_ret
  exact ⟨rfl, H1.out⟩

set_option maxHeartbeats 1600000 in
theorem word_inMetric (w : World) (g : Nat) (s : List UInt8) (k : Nat) (h : Tx w g s k) (hk : k ≤ s.length) (hs : s.length ≤ 1000000000000000) :
    Calls Tryd.prog 98 #[.pointer (some ⟨g, 0, none⟩), .func (.func 47) #[] #[]] w fun e w' => e = .returned (.string (ByteArray.mk ⟨(s.drop k).take (span pinMetric (s.drop k))⟩)) ∧ w.grownBy w' none := by
  obtain ⟨c0, c1, -⟩ := h.cells
  have hz : (ByteArray.mk ⟨s⟩).size = s.length := rfl
  have hki : (k : Int) ≤ (s.length : Int) := by omega
  have hle : span pinMetric (s.drop k) ≤ (s.drop k).length := span_le _ _
  have HX : Hid ((ByteArray.mk ⟨s⟩).extract k s.length = ByteArray.mk ⟨s.drop k⟩) := ext_end s k
  have HS : Hid (∀ W, w.grownBy W none → Calls Tryd.prog 83 #[.string (ByteArray.mk ⟨s.drop k⟩), .func (.func 47) #[] #[]] W fun e w' => e = .returned (.int .i64 ((span pinMetric (s.drop k) : Nat) : Int)) ∧ Hid (w.grownBy w' none)) := fun W hW =>
    (spanOf_inMetric W (s.drop k) (by rw [List.length_drop]; omega)).mono fun e w' ⟨h1, h2⟩ => ⟨h1, gb_none hW h2⟩
  have HY : Hid ((ByteArray.mk ⟨s.drop k⟩).extract 0 (span pinMetric (s.drop k)) = ByteArray.mk ⟨(s.drop k).take (span pinMetric (s.drop k))⟩) := by
    show (ByteArray.mk ⟨s.drop k⟩).extract 0 (span pinMetric (s.drop k)) = _
    rw [ext_mk, List.drop_zero, Nat.sub_zero]
  have hzd : (ByteArray.mk ⟨s.drop k⟩).size = (s.drop k).length := rfl
  rw [← HY.out]
  have hdl : (s.drop k).length ≤ 1000000000000000 := by rw [List.length_drop]; omega
  clear h
  generalize span pinMetric (s.drop k) = n at *
  generalize (s.drop k).length = L at *
  generalize hR : ByteArray.mk ⟨s.drop k⟩ = r at *
  have hni : (n : Int) ≤ (L : Int) := by omega
  go_enter Tryd.func98, Tryd.ntmps98
  go_wp2_with fail
  go_region
  go_wp2_with fail
  rw [HX.out]
  refine (HS.out _ (gb_drew _ none)).mono ?_
  rintro e w1 ⟨rfl, H1⟩
  clear HS
  go_wp2
  go_ret
  exact ⟨rfl, H1.out⟩

end Go.Proofs.YtknlnllcpdiglaaDoor
