/-
  Two lists of texts that are one: Texts says so: the walk.
-/
import Derived.Test.YtgafmplmngbbfaaDLent
namespace Go.Proofs.Ytgafmplmngbbfaa
open Go.RowKit Go.Maps Go.Sort

/-- the value is a slice that reads as these texts -/
def RdS (w : World) (v : Value) (ss : List Bs) : Prop := ∃ a c, v = .slice a ss.length c ∧ ss.length ≤ maxLen ∧ ∀ j, j < ss.length → ∃ b, a = some ⟨b, 0, none⟩ ∧ w.cell? ⟨b, j, none⟩ = some (.string (ByteArray.mk ⟨ss.getD j []⟩))
theorem RdS.keep {w w' : World} {v : Value} {ss : List Bs} (h : RdS w v ss) (hg : w.grownBy w' none) : RdS w' v ss := by
  obtain ⟨a, c, h1, h2, h3⟩ := h
  refine ⟨a, c, h1, h2, fun j hj => ?_⟩
  obtain ⟨b, hb, hc⟩ := h3 j hj
  exact ⟨b, hb, cell_keep hc hg⟩
theorem OwnS.rd {w : World} {base : Nat} {v : Value} {ss : List Bs} (h : OwnS w base v ss) : RdS w v ss := by
  have h0 := h
  rcases h.2 with ⟨rfl, hn⟩ | ⟨g, cap, cur, rfl, hg, hh, hnc, hcm, hcs, ht⟩
  · have : ss = [] := List.eq_nil_of_length_eq_zero hn
    subst this
    exact ⟨none, 0, rfl, by simp, fun j hj => by simp at hj⟩
  · refine ⟨_, _, rfl, by omega, fun j hj => ⟨g, rfl, ?_⟩⟩
    rw [World.ownsRow.cellAt h0 j (by omega), List.getElem?_map]
    simp [hj, encStr]

set_option maxHeartbeats 1600000 in
theorem texts_same (v u : Value) (ss : List Bs) (w : World) (hv : RdS w v ss) (hu : RdS w u ss) :
    Calls Try.prog 13 #[v, u] w fun e w' => e = .returned (.bool true) ∧ w.grownBy w' none := by
  have HV : Hid (RdS w v ss ∧ RdS w u ss) := ⟨hv, hu⟩
  obtain ⟨a, c, rfl, hm, -⟩ := hv
  obtain ⟨a', c', rfl, -, -⟩ := hu
  unfold maxLen at hm
  have hm2 : (ss.length : Int) ≤ 9223372036854775807 := by omega
  clear hm
  generalize hL : ss.length = L at *
  have HL : Hid (ss.length = L) := hL
  clear hL
  have hne : ((L : Int) != (L : Int)) = false := by simp
  go_enter Try.func13, Try.ntmps13
  go_wp2
  go_loopw [5] (fun i wr => ∃ k : Nat, k ≤ L ∧ i = .int .i64 (k : Int) ∧ Hid (w.grownBy wr none)) (fun i _ => L - (intOf i).toNat)
  case atStart => exact ⟨0, by omega, rfl, gb_refl _ _⟩
  case round =>
    obtain ⟨k, hk, rfl, HK⟩ := hrel
    by_cases hkl : k < L
    · have hkl2 : (k : Int) < (L : Int) := by omega
      obtain ⟨a0, c0, hv0, -, h3⟩ := HV.out.1.keep HK.out
      simp only [Value.slice.injEq] at hv0
      obtain ⟨rfl, -, -⟩ := hv0
      obtain ⟨a1, c1, hv1, -, h4⟩ := HV.out.2.keep HK.out
      simp only [Value.slice.injEq] at hv1
      obtain ⟨rfl, -, -⟩ := hv1
      obtain ⟨b, rfl, d0⟩ := h3 k (by rw [HL.out]; exact hkl)
      obtain ⟨b', rfl, d1⟩ := h4 k (by rw [HL.out]; exact hkl)
      clear h3 h4
      generalize ByteArray.mk ⟨ss.getD k []⟩ = s at *
      have hq : (s.toList == s.toList) = true := by simp
      go_wp2_with fail
      go_region
      all_goals (try go_wp2)
      all_goals go_roundw
      case rel => exact ⟨k + 1, by omega, by go_num, gb_none HK.out (gb_drew _ none)⟩
      case measure => simp [intOf]; omega
    · have hkl2 : ¬ (k : Int) < (L : Int) := by omega
      go_wp2
      go_ret
      exact ⟨rfl, HK.out⟩
end Go.Proofs.Ytgafmplmngbbfaa
