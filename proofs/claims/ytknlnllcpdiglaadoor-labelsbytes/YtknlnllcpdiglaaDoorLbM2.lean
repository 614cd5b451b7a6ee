/-
  A label set made: what made comes to at two labels in order: the walk.
-/
import Derived.Test.YtknlnllcpdiglaaDoorLbM
import Derived.Test.YtknlnllcpdiglaaDoorLbD
import Derived.Test.YtknlnllcpdiglaaDoorLbP2
namespace Go.Proofs.YtknlnllcpdiglaaDoor
open Go.RowKit Go.Shelf

set_option maxRecDepth 8000 in
set_option maxHeartbeats 3200000 in
theorem made_two (w : World) (v : Value) (x y : LbT) (hv : RdL w v [x, y]) (hlt : ltOf cmpL x y = true) (hne : x.1 ≠ y.1) (hx : x.2 ≠ []) (hy : y.2 ≠ []) (hr : rightS [x, y] = (0, 0)) (hl : LbIn [x, y]) (hT : U8S w) :
    Calls Tryd.prog 48 #[v] w fun e w' => ∃ v', e = .returned (.tuple #[v', .int .i64 0, .int .i64 0]) ∧ RdL w' v' [x, y] ∧ w.grownBy w' none := by
  have HC : Hid (Calls Tryd.prog 84 #[v] w fun e w' => e = .returned (.slice (some ⟨w.heap.size, 0, none⟩) 2 2) ∧ Hid (w'.heap[w.heap.size]? = some (.cells (lbf [x, y]).toArray 56 (0, 0)) ∧ w.grownBy w' none)) := copyOf_any w v [x, y] hv (by simp)
  have HS : Hid (∀ W, W.heap[w.heap.size]? = some (.cells (lbf [x, y]).toArray 56 (0, 0)) → w.grownBy W none → Calls Tryd.prog 85 #[.slice (some ⟨w.heap.size, 0, none⟩) 2 2, .func (.func 61) #[] #[]] W fun e w' => e = .returned (.tuple #[]) ∧ Hid (RdL w' (.slice (some ⟨w.heap.size, 0, none⟩) 2 2) [x, y] ∧ w.grownBy w' none)) := fun W hW hg => by
    have hH := holds_of_block hW
    have hb : w.heap.size < W.heap.size := (Array.getElem?_eq_some_iff.1 hW).1
    refine (sortL_any w.heap.size 0 2 #[x, y] W hH hb (by show 2 < _; omega)).mono ?_
    rintro e w' ⟨rfl, d', n, os, hp, hs, rfl⟩
    have hd := sort_two hp hs hlt
    subst hd
    refine ⟨rfl, rd_of_holds (sortW_holds hH rfl hb) (Nat.le_refl _) (by simp [maxLen]), ?_⟩
    have hg2 := sortW_grown W w.heap.size n #[x, y] os
    exact ⟨hg2.os.trans hg.os, hg2.tape.trans hg.tape, hg2.output.trans hg.output, Nat.le_trans hg.size hg2.size, fun k hk hne => (hg2.block k (by have := hg.size; omega) (by intro e; injection e with e; omega)).trans (hg.block k hk hne)⟩
  have HD : Hid (∀ W, RdL W (.slice (some ⟨w.heap.size, 0, none⟩) 2 2) [x, y] → Calls Tryd.prog 86 #[.slice (some ⟨w.heap.size, 0, none⟩) 2 2, .func (.func 87) #[] #[]] W fun e w' => e = .returned (.slice (some ⟨w.heap.size, 0, none⟩) 2 2) ∧ W.grownBy w' none) := fun W hW =>
    deleteFunc_none W _ [x, y] hW (by simp) (fun j hj => by
      have : j = 0 ∨ j = 1 := by simp at hj; omega
      rcases this with rfl | rfl
      · exact hx
      · exact hy)
  have HR : Hid (∀ W, RdL W (.slice (some ⟨w.heap.size, 0, none⟩) 2 2) [x, y] → U8S W → Calls Tryd.prog 10 #[.slice (some ⟨w.heap.size, 0, none⟩) 2 2] W fun e w' => e = .returned (.tuple #[.int .i64 0, .int .i64 0]) ∧ W.grownBy w' none) := fun W hW hT =>
    (right_any W _ [x, y] hW hl hT).mono fun e w' ⟨h1, h2⟩ => ⟨by rw [h1, hr]; rfl, h2⟩
  have HT : Hid (U8S w) := hT
  have hes : ((ByteArray.mk ⟨y.1⟩).toList == (ByteArray.mk ⟨x.1⟩).toList) = false := by
    rw [ByteArray.toList_eq, ByteArray.toList_eq, beq_eq_false_iff_ne]
    intro e
    exact hne e.symm
  have hes2 : ¬ (ByteArray.mk ⟨y.1⟩).toList = (ByteArray.mk ⟨x.1⟩).toList := by simpa using hes
  clear hv hlt hne hx hy hr hl hT
  go_enter Tryd.func48, Tryd.ntmps48
  go_wp2_with fail
  refine HC.out.mono ?_
  rintro e w1 ⟨rfl, H1⟩
  clear HC
  go_wp2_with fail
  refine (HS.out _ H1.out.1 H1.out.2).mono ?_
  rintro e w2 ⟨rfl, H2⟩
  clear HS H1
  go_wp2
  go_loopw [6] (fun i wr => (i = .int .i64 1 ∨ i = .int .i64 2) ∧ Hid (RdL wr (.slice (some ⟨w.heap.size, 0, none⟩) 2 2) [x, y] ∧ w.grownBy wr none)) (fun i _ => 2 - (intOf i).toNat)
  case atStart => exact ⟨.inl rfl, H2.out⟩
  case round =>
    obtain ⟨hi, hr⟩ := hrel
    rcases hi with rfl | rfl
    · obtain ⟨a', c', he, -, -, h3, -⟩ := hr.out.1
      simp only [Value.slice.injEq] at he
      obtain ⟨rfl, -, rfl⟩ := he
      obtain ⟨b, o, e1, p0, p1⟩ := h3 0 (by simp)
      obtain ⟨b2, o2, e2, q0, q1⟩ := h3 1 (by simp)
      simp only [Option.some.injEq, Addr.mk.injEq] at e1 e2
      obtain ⟨rfl, rfl, -⟩ := e1
      obtain ⟨rfl, rfl, -⟩ := e2
      have p0' : wr.cell? ⟨w.heap.size, 0, none⟩ = some (.string (ByteArray.mk ⟨x.1⟩)) := p0
      have q0' : wr.cell? ⟨w.heap.size, 2, none⟩ = some (.string (ByteArray.mk ⟨y.1⟩)) := q0
      clear p0 p1 q0 q1 h3
      generalize ByteArray.mk ⟨x.1⟩ = sx at *
      generalize ByteArray.mk ⟨y.1⟩ = sy at *
      go_wp2_with fail
      go_region
      go_wp2
      go_roundw
      case rel => exact ⟨.inr rfl, hr.out.1.keep (gb_drew _ none), gb_none hr.out.2 (gb_drew _ none)⟩
      case measure => decide
    · go_wp2_with fail
      refine (HD.out _ hr.out.1).mono ?_
      rintro e w3 ⟨rfl, hg3⟩
      have H3 : Hid (RdL w3 (.slice (some ⟨w.heap.size, 0, none⟩) 2 2) [x, y] ∧ w.grownBy w3 none) := ⟨hr.out.1.keep hg3, gb_none hr.out.2 hg3⟩
      clear HD hr hg3
      go_wp2_with fail
      refine (HR.out _ H3.out.1 (HT.out.keep H3.out.2)).mono ?_
      rintro e w4 ⟨rfl, hg4⟩
      have H4 : Hid (RdL w4 (.slice (some ⟨w.heap.size, 0, none⟩) 2 2) [x, y] ∧ w.grownBy w4 none) := ⟨H3.out.1.keep hg4, gb_none H3.out.2 hg4⟩
      clear HR H3 hg4
      go_wp2
      go_ret3
      exact ⟨_, rfl, H4.out⟩
end Go.Proofs.YtknlnllcpdiglaaDoor
