/-
  Labels held against others: what the law's own same, Kept come to: the walks.
-/
import Derived.Test.YtkipnkpnkhfjhabGreatDoorLbLent
namespace Go.Proofs.YtkipnkpnkhfjhabGreatDoor
open Go.RowKit

theorem strq (a b : List UInt8) : ((ByteArray.mk ⟨a⟩).toList == (ByteArray.mk ⟨b⟩).toList) = decide (a = b) := by
  rw [ByteArray.toList_eq, ByteArray.toList_eq]
  show (a == b) = decide (a = b)
  rw [Bool.eq_iff_iff]
  simp
theorem lb_ext {ls ms : List LbT} (hl : ls.length = ms.length) (h : ∀ j, j < ls.length → ls.getD j ([], []) = ms.getD j ([], [])) : ls = ms := by
  apply List.ext_getElem hl
  intro j h1 h2
  have := h j h1
  simpa [h1, h2] using this

set_option maxRecDepth 8000 in
set_option maxHeartbeats 3200000 in
theorem sameL_any (w : World) (v u : Value) (ls ms : List LbT) (hv : RdL w v ls) (hu : RdL w u ms) :
    Calls Tryz.prog 22 #[v, u] w fun e w' => e = .returned (.bool (decide (ls = ms))) ∧ w.grownBy w' none := by
  have HV : Hid (RdL w v ls ∧ RdL w u ms) := ⟨hv, hu⟩
  obtain ⟨a, c, rfl, hc1, hc2, -, -⟩ := hv
  obtain ⟨b, d, rfl, hd1, hd2, -, -⟩ := hu
  unfold maxLen at hc2 hd2
  by_cases hlen : ls.length = ms.length
  · have hli : (ls.length : Int) = (ms.length : Int) := by omega
    have HT : Hid ((∀ j, j < ls.length → ls.getD j ([], []) = ms.getD j ([], [])) → decide (ls = ms) = true) := fun h => decide_eq_true (lb_ext hlen h)
    have HF : Hid (∀ j, j < ls.length → ls.getD j ([], []) ≠ ms.getD j ([], []) → decide (ls = ms) = false) := fun j _ h => decide_eq_false (fun e => h (by rw [e]))
    generalize decide (ls = ms) = B at *
    go_enter Tryz.func22, Tryz.ntmps22
    go_wp2
    go_loopw [13] (fun i wr => ∃ z : Nat, z ≤ ls.length ∧ i = .int .i64 z ∧ Hid (w.grownBy wr none ∧ ∀ j, j < z → ls.getD j ([], []) = ms.getD j ([], []))) (fun i _ => ls.length - (intOf i).toNat)
    case atStart => exact ⟨0, by omega, rfl, gb_refl _ _, fun j hj => by omega⟩
    case round =>
      obtain ⟨z, hzN, rfl, hr⟩ := hrel
      have HG : Hid (w.grownBy wr none) := hr.out.1
      by_cases hzl : z < ls.length
      · obtain ⟨a', c', he, -, -, h3, -⟩ := HV.out.1.keep hr.out.1
        simp only [Value.slice.injEq] at he
        obtain ⟨rfl, -, rfl⟩ := he
        obtain ⟨b1, o1, rfl, c0, c1⟩ := h3 z hzl
        obtain ⟨a2, c2, he2, -, -, h4, -⟩ := HV.out.2.keep hr.out.1
        simp only [Value.slice.injEq] at he2
        obtain ⟨rfl, -, rfl⟩ := he2
        obtain ⟨b2, o2, rfl, d0, d1⟩ := h4 z (by omega)
        clear h3 h4
        have hzi : (z : Int) < (ls.length : Int) := by omega
        have hzi2 : (z : Int) < (ms.length : Int) := by omega
        by_cases heq : ls.getD z ([], []) = ms.getD z ([], [])
        · rw [← heq] at d0 d1
          have H2 : Hid (∀ j, j < z + 1 → ls.getD j ([], []) = ms.getD j ([], [])) := fun j hj => by
            by_cases e : j = z
            · rw [e]; exact heq
            · exact hr.out.2 j (by omega)
          clear heq hr HT HF
          generalize ByteArray.mk ⟨(ls.getD z ([], [])).1⟩ = sn at *
          generalize ByteArray.mk ⟨(ls.getD z ([], [])).2⟩ = sv at *
          have q1 : (sn.toList == sn.toList) = true := by simp
          have q2 : (sv.toList == sv.toList) = true := by simp
          go_wp2_with fail
          go_region
          go_wp2
          go_roundw
          case rel => exact ⟨z + 1, by omega, by go_num, gb_none HG.out (gb_drew _ none), H2.out⟩
          case measure => simp [intOf]; omega
        · by_cases hn : (ls.getD z ([], [])).1 = (ms.getD z ([], [])).1
          · have hv2 : ¬ (ls.getD z ([], [])).2 = (ms.getD z ([], [])).2 := fun e => heq (Prod.ext hn e)
            rw [← hn] at d0
            have q2 : ((ByteArray.mk ⟨(ls.getD z ([], [])).2⟩).toList == (ByteArray.mk ⟨(ms.getD z ([], [])).2⟩).toList) = false := by rw [strq]; exact decide_eq_false hv2
            have hB : B = false := HF.out z hzl (fun e => heq e)
            subst hB
            clear HF HT hr heq
            generalize ByteArray.mk ⟨(ls.getD z ([], [])).1⟩ = sn at *
            generalize ByteArray.mk ⟨(ls.getD z ([], [])).2⟩ = sv at *
            generalize ByteArray.mk ⟨(ms.getD z ([], [])).1⟩ = sm at *
            generalize ByteArray.mk ⟨(ms.getD z ([], [])).2⟩ = su at *
            go_wp2_with fail
            go_region
            go_wp2
            go_ret
            exact ⟨rfl, gb_none HG.out (gb_drew _ none)⟩
          · have q1 : ((ByteArray.mk ⟨(ls.getD z ([], [])).1⟩).toList == (ByteArray.mk ⟨(ms.getD z ([], [])).1⟩).toList) = false := by rw [strq]; exact decide_eq_false hn
            have hB : B = false := HF.out z hzl (fun e => heq e)
            subst hB
            clear HF HT hr heq
            generalize ByteArray.mk ⟨(ls.getD z ([], [])).1⟩ = sn at *
            generalize ByteArray.mk ⟨(ls.getD z ([], [])).2⟩ = sv at *
            generalize ByteArray.mk ⟨(ms.getD z ([], [])).1⟩ = sm at *
            generalize ByteArray.mk ⟨(ms.getD z ([], [])).2⟩ = su at *
            go_wp2_with fail
            go_region
            go_wp2
            go_ret
            exact ⟨rfl, gb_none HG.out (gb_drew _ none)⟩
      · have hB : B = true := HT.out (fun j hj => hr.out.2 j (by omega))
        subst hB
        have hzi : ¬ (z : Int) < (ls.length : Int) := by omega
        have hzi2 : ¬ (z : Int) < (ms.length : Int) := by omega
        clear hr HT HF
        go_wp2
        go_ret
        exact ⟨rfl, HG.out⟩
  · have hli : ((ls.length : Int) == (ms.length : Int)) = false := by rw [beq_eq_false_iff_ne]; omega
    have hB : decide (ls = ms) = false := decide_eq_false (fun e => hlen (by rw [e]))
    rw [hB]
    clear hB
    go_enter Tryz.func22, Tryz.ntmps22
    go_wp2
    go_ret
    exact ⟨rfl, gb_refl _ _⟩

/-- what was lent reads as it was -/
def LentL (w : World) (base g cap : Nat) (ls : List LbT) : Prop := OwnL w base (.slice (some ⟨g, 0, none⟩) (ls.length + 1) cap) (ls ++ [(mkA, mkB)])
theorem OwnL.keep {w w' : World} {base : Nat} {v : Value} {ls : List LbT} (h : OwnL w base v ls) (hg : w.grownBy w' none) : OwnL w' base v ls := by
  refine World.ownsRow.kept h hg ?_
  cases hv : v.ownBlock with
  | none => exact .inl rfl
  | some k => exact .inr (by simp)
theorem LentL.rd {w : World} {base g cap : Nat} {ls : List LbT} (h : LentL w base g cap ls) : RdL w (.slice (some ⟨g, 0, none⟩) ls.length cap) ls ∧ w.cell? ⟨g, ls.length * 2, none⟩ = some (.string (ByteArray.mk ⟨mkA⟩)) ∧ ls.length + 1 ≤ cap ∧ cap ≤ 9223372036854775807 := by
  obtain ⟨a, c, he, hc1, hc2, h4, -⟩ := OwnL.rd h
  rw [List.length_append] at he hc1 h4
  simp only [Value.slice.injEq] at he
  obtain ⟨rfl, -, rfl⟩ := he
  simp only [List.length_cons, List.length_nil] at hc1 h4
  refine ⟨⟨_, cap, rfl, by omega, hc2, fun j hj => ?_, fun h => by cases h⟩, ?_, by omega, by unfold maxLen at hc2; exact hc2⟩
  · obtain ⟨b, o, e, c0, c1⟩ := h4 j (by omega)
    have hgd : (ls ++ [(mkA, mkB)]).getD j ([], []) = ls.getD j ([], []) := by simp [List.getElem?_append_left hj]
    rw [hgd] at c0 c1
    exact ⟨b, o, e, c0, c1⟩
  · obtain ⟨b, o, e, c0, -⟩ := h4 ls.length (by omega)
    have hgd : (ls ++ [(mkA, mkB)]).getD ls.length ([], []) = (mkA, mkB) := by simp
    rw [hgd] at c0
    cases e
    simpa using c0

set_option maxRecDepth 8000 in
set_option maxHeartbeats 3200000 in
theorem keptL_any (w : World) (base g cap : Nat) (u : Value) (ls : List LbT) (hc : LentL w base g cap ls) (hu : RdL w u ls) :
    Calls Tryz.prog 18 #[.slice (some ⟨g, 0, none⟩) ls.length cap, u] w fun e w' => e = .returned (.bool true) ∧ w.grownBy w' none := by
  obtain ⟨h1, h2, h3, h4⟩ := hc.rd
  have HC : Hid (LentL w base g cap ls) := hc
  have HS : Hid (Calls Tryz.prog 22 #[.slice (some ⟨g, 0, none⟩) ls.length cap, u] w fun e w' => e = .returned (.bool true) ∧ w'.cell? ⟨g, ls.length * 2, none⟩ = some (.string (ByteArray.mk ⟨mkA⟩)) ∧ Hid (w.grownBy w' none)) := by
    have := sameL_any w _ u ls ls h1 hu
    rw [decide_eq_true rfl] at this
    refine this.mono ?_
    rintro e w' ⟨e1, e2⟩
    exact ⟨e1, (World.cell?_of_block (e2.block g (block_lt h2) (by simp))).trans h2, e2⟩
  obtain ⟨a, c, rfl, hc1, hc2, -, -⟩ := hu
  unfold maxLen at hc2
  have q : ((ByteArray.mk ⟨mkA⟩).toList == [98, 101, 104, 105, 110, 100]) = true := by rw [ByteArray.toList_eq]; decide
  have i1 : (ls.length : Int) + 1 ≤ (cap : Int) := by omega
  clear h1 h2 hc
  generalize ByteArray.mk ⟨mkA⟩ = sa at *
  go_enter Tryz.func18, Tryz.ntmps18
  go_wp2_with fail
  refine HS.out.mono ?_
  rintro e w1 ⟨rfl, d0, H1⟩
  clear HS
  go_wp2
  go_ret
  exact ⟨rfl, H1.out⟩
end Go.Proofs.YtkipnkpnkhfjhabGreatDoor
