/-
  The document's twice: the walk.
-/
import Derived.Test.YtknlnllcpdiglaaDoorLbMd
namespace Go.Proofs.YtknlnllcpdiglaaDoor
open Go.RowKit

theorem nd_of_all {ls : List LbT} (h : ∀ j, j < ls.length → ∀ i, i < j → (ls.getD i ([], [])).1 ≠ (ls.getD j ([], [])).1) : ndN ls := by
  refine List.pairwise_iff_getElem.2 fun i j hi hj hij => ?_
  have := h j hj i hij
  have e1 : ls.getD j ([], []) = ls[j] := by simp [List.getD, hj]
  have e2 : ls.getD i ([], []) = ls[i] := by simp [List.getD, hi]
  rwa [e1, e2] at this
theorem not_nd_of {ls : List LbT} {i j : Nat} (hj : j < ls.length) (hi : i < j) (h : (ls.getD i ([], [])).1 = (ls.getD j ([], [])).1) : ¬ ndN ls := by
  intro hn
  have := List.pairwise_iff_getElem.1 hn i j (by omega) hj hi
  have e1 : ls.getD j ([], []) = ls[j] := by simp [List.getD, hj]
  have e2 : ls.getD i ([], []) = ls[i]'(by omega) := by simp [List.getD, show i < ls.length by omega]
  rw [e1, e2] at h
  exact this h

set_option maxRecDepth 8000 in
set_option maxHeartbeats 3200000 in
theorem refTwice_any (w : World) (v : Value) (ls : List LbT) (hv : RdL w v ls) :
    Calls Tryd.prog 49 #[v] w fun e w' => e = .returned (.bool (dupB ls)) ∧ w.grownBy w' none := by
  have HV : Hid (RdL w v ls) := hv
  obtain ⟨a, c, rfl, hc1, hc2, hc3, hc4⟩ := hv
  unfold maxLen at hc2
  clear hc3 hc4
  have HT : Hid (∀ i j, j < ls.length → i < j → (ls.getD i ([], [])).1 = (ls.getD j ([], [])).1 → dupB ls = true) := fun i j hj hi h => dupB_dup (not_nd_of hj hi h)
  have HF : Hid ((∀ j, j < ls.length → ∀ i, i < j → (ls.getD i ([], [])).1 ≠ (ls.getD j ([], [])).1) → dupB ls = false) := fun h => dupB_nd (nd_of_all h)
  generalize dupB ls = B at *
  go_enter Tryd.func49, Tryd.ntmps49
  go_wp2
  go_loopw [9] (fun i wr => ∃ z : Nat, z ≤ ls.length ∧ i = .int .i64 z ∧ Hid (w.grownBy wr none ∧ ∀ j, j < z → ∀ i, i < j → (ls.getD i ([], [])).1 ≠ (ls.getD j ([], [])).1)) (fun i _ => ls.length - (intOf i).toNat)
  case atStart => exact ⟨0, by omega, rfl, gb_refl _ _, fun j hj => by omega⟩
  case round =>
    obtain ⟨z, hzN, rfl, hr⟩ := hrel
    by_cases hzl : z < ls.length
    · obtain ⟨a', c', he, -, -, h3, -⟩ := HV.out.keep hr.out.1
      simp only [Value.slice.injEq] at he
      obtain ⟨rfl, -, rfl⟩ := he
      obtain ⟨b, o, rfl, c0, c1⟩ := h3 z hzl
      have hzi : (z : Int) < (ls.length : Int) := by omega
      have hzc : (z : Int) ≤ (c : Int) := by omega
      have hbl : ¬ b = wr.heap.size := by have := block_lt c0; omega
      have hbl2 : ¬ wr.heap.size = b := by omega
      have HW : Hid (w.grownBy wr none ∧ ∀ j, j < z → ∀ i, i < j → (ls.getD i ([], [])).1 ≠ (ls.getD j ([], [])).1) := hr.out
      have HZ : Hid (∃ sz sy, sz = ByteArray.mk ⟨(ls.getD z ([], [])).1⟩ ∧ sy = ByteArray.mk ⟨(ls.getD z ([], [])).2⟩) := ⟨_, _, rfl, rfl⟩
      obtain ⟨sz, sy, hsz, hsy⟩ := HZ.out
      rw [← hsz] at c0
      rw [← hsy] at c1
      have HSZ : Hid (sz = ByteArray.mk ⟨(ls.getD z ([], [])).1⟩) := hsz
      clear h3 hr hsz hsy HZ
      go_wp2
      have HB : Hid ((wr.alloc (.cells #[.string sz, .string sy] 56)).heap[wr.heap.size]? = some (.cells #[.string sz, .string sy] 56 (0, 0))) := Go.heap_alloc_new wr _
      have HG0 : Hid (wr.grownBy (wr.alloc (.cells #[.string sz, .string sy] 56)) none) := World.grownBy_alloc _ _ none
      generalize hb0 : wr.heap.size = b0 at *
      generalize wr.alloc (.cells #[.string sz, .string sy] 56) = w0 at *
      have HG1 : Hid (w.grownBy w0 none) := gb_none HW.out.1 HG0.out
      clear hb0
      go_loopw [18] (fun i wr2 => ∃ y : Nat, y ≤ z ∧ i = .int .i64 y ∧ Hid (w0.grownBy wr2 none ∧ ∀ i, i < y → (ls.getD i ([], [])).1 ≠ (ls.getD z ([], [])).1)) (fun i _ => z - (intOf i).toNat)
      case atStart => exact ⟨0, by omega, rfl, gb_refl _ _, fun j hj => by omega⟩
      case round =>
        obtain ⟨y, hyN, rfl, hr⟩ := hrel
        have hbb := (hr.out.1.block b0 (Array.getElem?_eq_some_iff.1 HB.out).1 (by simp)).trans HB.out
        have d0 : wr.cell? ⟨b0, 0, none⟩ = some (.string sz) := by simp [World.cell?, hbb]
        have d1 : wr.cell? ⟨b0, 1, none⟩ = some (.string sy) := by simp [World.cell?, hbb]
        have hb1 : ¬ b0 = wr.heap.size := by have := block_lt d0; omega
        have hb2 : ¬ wr.heap.size = b0 := by omega
        have d2 : ∀ C, (wr.alloc C).cell? ⟨b0, 0, none⟩ = some (.string sz) := fun C => (World.cell?_of_block ((World.grownBy_alloc wr C none).block b0 (block_lt d0) (by simp))).trans d0
        clear hbb
        by_cases hyl : y < z
        · obtain ⟨a', c', he, -, -, h3, -⟩ := HV.out.keep (gb_none HG1.out hr.out.1)
          simp only [Value.slice.injEq] at he
          obtain ⟨e1, -, rfl⟩ := he
          obtain ⟨b', o', e2, f0, f1⟩ := h3 y (by omega)
          rw [← e1] at e2
          simp only [Option.some.injEq, Addr.mk.injEq] at e2
          obtain ⟨rfl, rfl, -⟩ := e2
          have hyi : (y : Int) < (z : Int) := by omega
          have hb3 : ¬ b = wr.heap.size := by have := block_lt f0; omega
          have hb4 : ¬ wr.heap.size = b := by omega
          have HE : Hid (∀ C, w0.grownBy (wr.alloc C) none ∧ w.grownBy (wr.alloc C) none) := fun C => ⟨gb_none hr.out.1 (World.grownBy_alloc _ _ none), gb_none HG1.out (gb_none hr.out.1 (World.grownBy_alloc _ _ none))⟩
          clear h3 e1
          by_cases hn : (ls.getD y ([], [])).1 = (ls.getD z ([], [])).1
          · have hB : B = true := HT.out y z hzl hyl hn
            subst hB
            rw [hn, ← HSZ.out] at f0
            clear hr HT HF hn
            generalize ByteArray.mk ⟨(ls.getD y ([], [])).2⟩ = sv at *
            go_wp2
            go_ret
            exact ⟨rfl, (HE.out _).2⟩
          · have hes : ((ByteArray.mk ⟨(ls.getD y ([], [])).1⟩).toList == sz.toList) = false := by
              rw [HSZ.out, ByteArray.toList_eq, ByteArray.toList_eq, beq_eq_false_iff_ne]
              exact hn
            have hes3 : (sz.toList == (ByteArray.mk ⟨(ls.getD y ([], [])).1⟩).toList) = false := by
              rw [beq_eq_false_iff_ne] at hes ⊢
              exact fun h => hes h.symm
            have hes2 : ¬ sz.toList = (ByteArray.mk ⟨(ls.getD y ([], [])).1⟩).toList := by simpa using hes3
            have H2 : Hid (∀ i, i < y + 1 → (ls.getD i ([], [])).1 ≠ (ls.getD z ([], [])).1) := fun i hi => by
              by_cases e : i = y
              · rw [e]; exact hn
              · exact hr.out.2 i (by omega)
            clear hr HT HF hn hes
            generalize ByteArray.mk ⟨(ls.getD y ([], [])).1⟩ = st at *
            generalize ByteArray.mk ⟨(ls.getD y ([], [])).2⟩ = sv at *
            go_wp2
            go_roundw
            case rel => exact ⟨y + 1, by omega, by simp, (HE.out _).1, H2.out⟩
            case measure => simp [intOf]; omega
        · have hyi : ¬ (y : Int) < (z : Int) := by omega
          have H2 : Hid (w.grownBy wr none ∧ ∀ j, j < z + 1 → ∀ i, i < j → (ls.getD i ([], [])).1 ≠ (ls.getD j ([], [])).1) := ⟨gb_none HG1.out hr.out.1, fun j hj i hi => by
            by_cases e : j = z
            · subst e; exact hr.out.2 i (by omega)
            · exact HW.out.2 j (by omega) i hi⟩
          clear hr HT HF
          go_wp2
          go_roundw
          case rel => exact ⟨z + 1, by omega, by simp, H2.out⟩
          case measure => simp [intOf]; omega
    · have hzi : ¬ (z : Int) < (ls.length : Int) := by omega
      have hB : B = false := HF.out (fun j hj => hr.out.2 j (by omega))
      subst hB
      have HE : Hid (w.grownBy wr none) := hr.out.1
      clear hr HT HF
      go_wp2
      go_ret
      exact ⟨rfl, HE.out⟩
end Go.Proofs.YtknlnllcpdiglaaDoor
