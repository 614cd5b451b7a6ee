/-
  LbT, LbT2, LbT3, in one text.
-/
import Derived.Test.YtkipnkpnkhfjhabGreatDoorLbP2
import Derived.Deep.RegionWith
/- LbT -/
namespace Go.Proofs.YtkipnkpnkhfjhabGreatDoor
open Go.RowKit

/-- a text in memory, and the place up to which it is read -/
def Tx (w : World) (g : Nat) (s : List UInt8) (k : Nat) : Prop := w.heap[g]? = some (.cells #[.string (ByteArray.mk ⟨s⟩), .int .i64 (k : Int)] 82 (0, 0))
theorem Tx.cells {w : World} {g : Nat} {s : List UInt8} {k : Nat} (h : Tx w g s k) : w.cell? ⟨g, 0, none⟩ = some (.string (ByteArray.mk ⟨s⟩)) ∧ w.cell? ⟨g, 1, none⟩ = some (.int .i64 (k : Int)) ∧ w.frozen? ⟨g, 1, none⟩ = false := by
  unfold Tx at h
  exact ⟨by simp [World.cell?, h], by simp [World.cell?, h], by simp [World.frozen?, h]⟩
theorem Tx.keep {w w' : World} {g : Nat} {s : List UInt8} {k : Nat} (h : Tx w g s k) (hg : w.grownBy w' none) : Tx w' g s k := (hg.block g (Array.getElem?_eq_some_iff.1 h).1 (by simp)).trans h
theorem Tx.put {w : World} {g : Nat} {s : List UInt8} {k : Nat} (h : Tx w g s k) (k' : Nat) (K : Int) (hK : K = (k' : Int)) : Tx (w.setCell ⟨g, 1, none⟩ (.int .i64 K)) g s k' ∧ w.grownBy (w.setCell ⟨g, 1, none⟩ (.int .i64 K)) (some g) := by
  subst hK
  refine ⟨?_, ⟨rfl, rfl, rfl, by simp, fun j _ hj => Below.heap_setCell _ _ _ _ (fun e => hj (by rw [e]))⟩⟩
  have := heap_setCell_same w g 1 _ _ (.int .i64 (k' : Int)) h
  unfold Tx
  rw [this]
  rfl

theorem ext_mk (s : List UInt8) (a b : Nat) : (ByteArray.mk ⟨s⟩).extract a b = ByteArray.mk ⟨(s.drop a).take (b - a)⟩ := by
  apply ByteArray.ext
  rw [ByteArray.data_extract]
  apply Array.ext'
  simp [List.extract_eq_take_drop]
theorem ext_end (s : List UInt8) (a : Nat) : (ByteArray.mk ⟨s⟩).extract a s.length = ByteArray.mk ⟨s.drop a⟩ := by
  rw [ext_mk, List.take_of_length_le (by simp)]

set_option maxHeartbeats 1600000 in
theorem skipBlanks_any (w : World) (g : Nat) (s : List UInt8) (k : Nat) (h : Tx w g s k) (hk : k ≤ s.length) (hs : s.length ≤ 1000000000000000) :
    Calls Tryz.prog 52 #[.pointer (some ⟨g, 0, none⟩)] w fun e w' => e = .returned (.tuple #[]) ∧ Tx w' g s (k + span pisBlank (s.drop k)) ∧ w.grownBy w' (some g) := by
  have H0 : Hid (Tx w g s k) := h
  obtain ⟨c0, c1, f1⟩ := h.cells
  have hz : (ByteArray.mk ⟨s⟩).size = s.length := rfl
  have hki : (k : Int) ≤ (s.length : Int) := by omega
  have hle : span pisBlank (s.drop k) ≤ s.length := by have := span_le pisBlank (s.drop k); rw [List.length_drop] at this; omega
  have HS : Hid (∀ W, w.grownBy W none → Calls Tryz.prog 75 #[.string ((ByteArray.mk ⟨s⟩).extract k s.length), .func (.func 76) #[] #[]] W fun e w' => e = .returned (.int .i64 ((span pisBlank (s.drop k) : Nat) : Int)) ∧ w'.cell? ⟨g, 0, none⟩ = some (.string (ByteArray.mk ⟨s⟩)) ∧ w'.cell? ⟨g, 1, none⟩ = some (.int .i64 (k : Int)) ∧ w'.frozen? ⟨g, 1, none⟩ = false ∧ Hid (Tx w' g s k ∧ w.grownBy w' none)) := fun W hW => by
    rw [ext_end]
    refine (spanOf_isBlank W (s.drop k) (by rw [List.length_drop]; omega)).mono ?_
    rintro e w' ⟨h1, h2⟩
    have hx := (H0.out.keep hW).keep h2
    exact ⟨h1, hx.cells.1, hx.cells.2.1, hx.cells.2.2, hx, gb_none hW h2⟩
  clear h
  generalize span pisBlank (s.drop k) = n at *
  have HW : Hid (IntKind.i64.wrap ((k : Int) + (n : Int)) = ((k + n : Nat) : Int)) := by show IntKind.i64.wrap ((k : Int) + (n : Int)) = ((k + n : Nat) : Int); rw [IntKind.wrap_i64]; omega
  go_enter Tryz.func52, Tryz.ntmps52
  go_wp2_with fail
  go_region_with (go_at_call 75; refine (HS.out _ ?_).mono ?_; (first | exact gb_refl _ _ | exact gb_drew _ _); rintro e w1 ⟨rfl, d0, d1, d2, H1⟩)
  all_goals go_wp2
  all_goals go_end0
  all_goals (have hp := H1.out.1.put (k + n) (IntKind.i64.wrap ((k : Int) + (n : Int))) HW.out; exact ⟨rfl, hp.1, gb_trans (gb_any H1.out.2 _) hp.2 (fun _ h _ => h.symm)⟩)

end Go.Proofs.YtkipnkpnkhfjhabGreatDoor

/- LbT2 -/
namespace Go.Proofs.YtkipnkpnkhfjhabGreatDoor
open Go.RowKit

/-- the place behind blanks -/
def skp (s : List UInt8) (k : Nat) : Nat := k + span pisBlank (s.drop k)
theorem skp_le (s : List UInt8) (k : Nat) (hk : k ≤ s.length) : skp s k ≤ s.length := by
  unfold skp
  have := span_le pisBlank (s.drop k)
  rw [List.length_drop] at this
  omega
theorem byte_at {s : List UInt8} {k : Nat} (h : k < s.length) : ∀ hh, (ByteArray.mk ⟨s⟩)[k]'hh = s.getD k 0 := fun hh => by
  have : s.getD k 0 = s[k] := by simp [h]
  rw [this]
  rfl

set_option maxHeartbeats 1600000 in
theorem ended_any (w : World) (g : Nat) (s : List UInt8) (k : Nat) (h : Tx w g s k) (hk : k ≤ s.length) (hs : s.length ≤ 1000000000000000) :
    Calls Tryz.prog 57 #[.pointer (some ⟨g, 0, none⟩)] w fun e w' => e = .returned (.bool (decide (skp s k = s.length))) ∧ Tx w' g s (skp s k) ∧ w.grownBy w' (some g) := by
  have HS : Hid (Calls Tryz.prog 52 #[.pointer (some ⟨g, 0, none⟩)] w fun e w' => e = .returned (.tuple #[]) ∧ w'.cell? ⟨g, 0, none⟩ = some (.string (ByteArray.mk ⟨s⟩)) ∧ w'.cell? ⟨g, 1, none⟩ = some (.int .i64 ((skp s k : Nat) : Int)) ∧ Hid (Tx w' g s (skp s k) ∧ w.grownBy w' (some g))) :=
    (skipBlanks_any w g s k h hk hs).mono fun e w' ⟨h1, h2, h3⟩ => ⟨h1, Tx.cells h2 |>.1, (Tx.cells h2).2.1, h2, h3⟩
  have hz : (ByteArray.mk ⟨s⟩).size = s.length := rfl
  have hle := skp_le s k hk
  clear h
  generalize skp s k = n at *
  by_cases he : n = s.length
  · have hei : (n : Int) = (s.length : Int) := by omega
    have hb : decide (n = s.length) = true := decide_eq_true he
    rw [hb]
    clear hb
    go_enter Tryz.func57, Tryz.ntmps57
    go_wp2_with fail
    refine HS.out.mono ?_
    rintro e w1 ⟨rfl, d0, d1, H1⟩
    go_wp2
    go_region
    go_wp2
    go_ret
    exact ⟨rfl, H1.out.1.keep (gb_drew _ none), gb_none H1.out.2 (gb_drew _ none)⟩
  · have hei : ((n : Int) == (s.length : Int)) = false := by rw [beq_eq_false_iff_ne]; omega
    have hb : decide (n = s.length) = false := decide_eq_false he
    rw [hb]
    clear hb
    go_enter Tryz.func57, Tryz.ntmps57
    go_wp2_with fail
    refine HS.out.mono ?_
    rintro e w1 ⟨rfl, d0, d1, H1⟩
    go_wp2
    go_region
    go_wp2
    go_ret
    exact ⟨rfl, H1.out.1.keep (gb_drew _ none), gb_none H1.out.2 (gb_drew _ none)⟩

/-- does the sign stand behind blanks? -/
def tkB (s : List UInt8) (k : Nat) (c : UInt8) : Bool := decide (skp s k < s.length) && decide (s.getD (skp s k) 0 = c)
def tkK (s : List UInt8) (k : Nat) (c : UInt8) : Nat := if tkB s k c = true then skp s k + 1 else skp s k
set_option maxHeartbeats 1600000 in
theorem take_any (w : World) (g : Nat) (s : List UInt8) (k : Nat) (c : UInt8) (h : Tx w g s k) (hk : k ≤ s.length) (hs : s.length ≤ 1000000000000000) :
    Calls Tryz.prog 55 #[.pointer (some ⟨g, 0, none⟩), .int .u8 (c.toNat : Int)] w fun e w' => e = .returned (.bool (tkB s k c)) ∧ Tx w' g s (tkK s k c) ∧ w.grownBy w' (some g) := by
  have HS : Hid (Calls Tryz.prog 52 #[.pointer (some ⟨g, 0, none⟩)] w fun e w' => e = .returned (.tuple #[]) ∧ w'.cell? ⟨g, 0, none⟩ = some (.string (ByteArray.mk ⟨s⟩)) ∧ w'.cell? ⟨g, 1, none⟩ = some (.int .i64 ((skp s k : Nat) : Int)) ∧ w'.frozen? ⟨g, 1, none⟩ = false ∧ Hid (Tx w' g s (skp s k) ∧ w.grownBy w' (some g))) :=
    (skipBlanks_any w g s k h hk hs).mono fun e w' ⟨h1, h2, h3⟩ => ⟨h1, Tx.cells h2 |>.1, (Tx.cells h2).2.1, (Tx.cells h2).2.2, h2, h3⟩
  have hz : (ByteArray.mk ⟨s⟩).size = s.length := rfl
  have hle := skp_le s k hk
  have HB : Hid (tkB s k c = (decide (skp s k < s.length) && decide (s.getD (skp s k) 0 = c))) := rfl
  have HK : Hid (tkK s k c = if tkB s k c = true then skp s k + 1 else skp s k) := rfl
  clear h
  generalize tkK s k c = K at *
  generalize tkB s k c = B at *
  generalize skp s k = n at *
  by_cases he : n = s.length
  · have hei : (n : Int) = (s.length : Int) := by omega
    have hB : B = false := by rw [HB.out, decide_eq_false (by omega)]; rfl
    subst hB
    have hK : K = n := by rw [HK.out]; rfl
    subst hK
    clear HB HK
    go_enter Tryz.func55, Tryz.ntmps55
    go_wp2_with fail
    refine HS.out.mono ?_
    rintro e w1 ⟨rfl, d0, d1, d2, H1⟩
    go_wp2
    go_region
    go_wp2
    go_ret
    exact ⟨rfl, H1.out.1.keep (gb_drew _ none), gb_none H1.out.2 (gb_drew _ none)⟩
  · have hei : ((n : Int) == (s.length : Int)) = false := by rw [beq_eq_false_iff_ne]; omega
    have hlt : n < s.length := by omega
    have hbn := byte_at hlt
    by_cases hc : s.getD n 0 = c
    · have hB : B = true := by rw [HB.out, decide_eq_true hlt, decide_eq_true hc]; rfl
      subst hB
      have hK : K = n + 1 := by rw [HK.out]; rfl
      rw [hc] at hbn
      clear HB HK hc
      go_enter Tryz.func55, Tryz.ntmps55
      go_wp2_with fail
      refine HS.out.mono ?_
      rintro e w1 ⟨rfl, d0, d1, d2, H1⟩
      go_wp2
      go_region
      go_wp2
      go_ret
      have hp := H1.out.1.put (n + 1) ((n : Int) + 1) (by omega)
      exact ⟨rfl, by rw [hK]; exact hp.1.keep (gb_drew _ none), gb_none (gb_trans H1.out.2 hp.2 (fun _ h _ => h.symm)) (gb_drew _ none)⟩
    · have hB : B = false := by rw [HB.out, decide_eq_true hlt, decide_eq_false hc]; rfl
      subst hB
      have hK : K = n := by rw [HK.out]; rfl
      subst hK
      have hne : (((s.getD K 0).toNat : Int) == (c.toNat : Int)) = false := by
        rw [beq_eq_false_iff_ne]
        intro e
        exact hc (UInt8.toNat_inj.1 (by omega))
      generalize s.getD K 0 = x at *
      clear HB HK hc
      go_enter Tryz.func55, Tryz.ntmps55
      go_wp2_with fail
      refine HS.out.mono ?_
      rintro e w1 ⟨rfl, d0, d1, d2, H1⟩
      go_wp2
      go_region
      go_wp2
      go_ret
      exact ⟨rfl, H1.out.1.keep (gb_drew _ none), gb_none H1.out.2 (gb_drew _ none)⟩
end Go.Proofs.YtkipnkpnkhfjhabGreatDoor

/- LbT3 -/
namespace Go.Proofs.YtkipnkpnkhfjhabGreatDoor
open Go.RowKit

set_option maxHeartbeats 1600000 in
theorem word_inName (w : World) (g : Nat) (s : List UInt8) (k : Nat) (h : Tx w g s k) (hk : k ≤ s.length) (hs : s.length ≤ 1000000000000000) :
    Calls Tryz.prog 53 #[.pointer (some ⟨g, 0, none⟩), .func (.func 77) #[] #[]] w fun e w' => e = .returned (.string (ByteArray.mk ⟨(s.drop k).take (span pinName (s.drop k))⟩)) ∧ w.grownBy w' none := by
  obtain ⟨c0, c1, -⟩ := h.cells
  have hz : (ByteArray.mk ⟨s⟩).size = s.length := rfl
  have hki : (k : Int) ≤ (s.length : Int) := by omega
  have hle : span pinName (s.drop k) ≤ (s.drop k).length := span_le _ _
  have HX : Hid ((ByteArray.mk ⟨s⟩).extract k s.length = ByteArray.mk ⟨s.drop k⟩) := ext_end s k
  have HS : Hid (∀ W, w.grownBy W none → Calls Tryz.prog 75 #[.string (ByteArray.mk ⟨s.drop k⟩), .func (.func 77) #[] #[]] W fun e w' => e = .returned (.int .i64 ((span pinName (s.drop k) : Nat) : Int)) ∧ Hid (w.grownBy w' none)) := fun W hW =>
    (spanOf_inName W (s.drop k) (by rw [List.length_drop]; omega)).mono fun e w' ⟨h1, h2⟩ => ⟨h1, gb_none hW h2⟩
  have HY : Hid ((ByteArray.mk ⟨s.drop k⟩).extract 0 (span pinName (s.drop k)) = ByteArray.mk ⟨(s.drop k).take (span pinName (s.drop k))⟩) := by
    show (ByteArray.mk ⟨s.drop k⟩).extract 0 (span pinName (s.drop k)) = _
    rw [ext_mk, List.drop_zero, Nat.sub_zero]
  have hzd : (ByteArray.mk ⟨s.drop k⟩).size = (s.drop k).length := rfl
  rw [← HY.out]
  have hdl : (s.drop k).length ≤ 1000000000000000 := by rw [List.length_drop]; omega
  clear h
  generalize span pinName (s.drop k) = n at *
  generalize (s.drop k).length = L at *
  generalize hR : ByteArray.mk ⟨s.drop k⟩ = r at *
  have hni : (n : Int) ≤ (L : Int) := by omega
  go_enter Tryz.func53, Tryz.ntmps53
  go_wp2_with fail
  go_region
  go_wp2_with fail
  rw [HX.out]
  refine (HS.out _ (gb_drew _ none)).mono ?_
  rintro e w1 ⟨rfl, H1⟩
  clear HS
  go_wp2
  go_ret
  exact ⟨rfl, H1.out⟩

set_option maxHeartbeats 1600000 in
theorem word_inMetric (w : World) (g : Nat) (s : List UInt8) (k : Nat) (h : Tx w g s k) (hk : k ≤ s.length) (hs : s.length ≤ 1000000000000000) :
    Calls Tryz.prog 53 #[.pointer (some ⟨g, 0, none⟩), .func (.func 54) #[] #[]] w fun e w' => e = .returned (.string (ByteArray.mk ⟨(s.drop k).take (span pinMetric (s.drop k))⟩)) ∧ w.grownBy w' none := by
  obtain ⟨c0, c1, -⟩ := h.cells
  have hz : (ByteArray.mk ⟨s⟩).size = s.length := rfl
  have hki : (k : Int) ≤ (s.length : Int) := by omega
  have hle : span pinMetric (s.drop k) ≤ (s.drop k).length := span_le _ _
  have HX : Hid ((ByteArray.mk ⟨s⟩).extract k s.length = ByteArray.mk ⟨s.drop k⟩) := ext_end s k
  have HS : Hid (∀ W, w.grownBy W none → Calls Tryz.prog 75 #[.string (ByteArray.mk ⟨s.drop k⟩), .func (.func 54) #[] #[]] W fun e w' => e = .returned (.int .i64 ((span pinMetric (s.drop k) : Nat) : Int)) ∧ Hid (w.grownBy w' none)) := fun W hW =>
    (spanOf_inMetric W (s.drop k) (by rw [List.length_drop]; omega)).mono fun e w' ⟨h1, h2⟩ => ⟨h1, gb_none hW h2⟩
  have HY : Hid ((ByteArray.mk ⟨s.drop k⟩).extract 0 (span pinMetric (s.drop k)) = ByteArray.mk ⟨(s.drop k).take (span pinMetric (s.drop k))⟩) := by
    show (ByteArray.mk ⟨s.drop k⟩).extract 0 (span pinMetric (s.drop k)) = _
    rw [ext_mk, List.drop_zero, Nat.sub_zero]
  have hzd : (ByteArray.mk ⟨s.drop k⟩).size = (s.drop k).length := rfl
  rw [← HY.out]
  have hdl : (s.drop k).length ≤ 1000000000000000 := by rw [List.length_drop]; omega
  clear h
  generalize span pinMetric (s.drop k) = n at *
  generalize (s.drop k).length = L at *
  generalize hR : ByteArray.mk ⟨s.drop k⟩ = r at *
  have hni : (n : Int) ≤ (L : Int) := by omega
  go_enter Tryz.func53, Tryz.ntmps53
  go_wp2_with fail
  go_region
  go_wp2_with fail
  rw [HX.out]
  refine (HS.out _ (gb_drew _ none)).mono ?_
  rintro e w1 ⟨rfl, H1⟩
  clear HS
  go_wp2
  go_ret
  exact ⟨rfl, H1.out⟩

end Go.Proofs.YtkipnkpnkhfjhabGreatDoor
