/-
  The document's Make: the walk.
-/
import Derived.Test.YtknlnllcpdiglaaDoorLbRs
import Derived.Test.YtknlnllcpdiglaaDoorLbRt
namespace Go.Proofs.YtknlnllcpdiglaaDoor
open Go.RowKit

theorem OwnL.mono {w : World} {base base' : Nat} {v : Value} {ls : List LbT} (h : OwnL w base v ls) (hb : base' ≤ base) : OwnL w base' v ls := by
  obtain ⟨h1, h2⟩ := h
  refine ⟨h1, ?_⟩
  rcases h2 with h2 | ⟨g, cap, cur, hv, hg, r⟩
  · exact .inl h2
  · exact .inr ⟨g, cap, cur, hv, by omega, r⟩
theorem madeS_nd {ls : List LbT} (hn : ndN ls) : madeS ls = if (rightS (sortN (fullL ls))).1 = 0 then (sortN (fullL ls), 0, 0) else ([], (rightS (sortN (fullL ls))).1, (rightS (sortN (fullL ls))).2) := by
  unfold madeS
  rw [if_pos hn]
theorem madeS_dup {ls : List LbT} (hn : ¬ ndN ls) : madeS ls = ([], 6, 0) := by
  unfold madeS
  rw [if_neg hn]
theorem sort_len (ls : List LbT) : (sortN (fullL ls)).length ≤ ls.length := by rw [(sortN_perm _).length_eq]; exact full_len ls

set_option maxRecDepth 8000 in
set_option maxHeartbeats 3200000 in
theorem refMake_any (w : World) (v : Value) (ls : List LbT) (hv : RdL w v ls) (hl : LbIn ls) (hll : ls.length ≤ 4398046511104) :
    Calls Tryd.prog 19 #[v] w fun e w' => ∃ v', e = .returned (.tuple #[v', .int .i64 (madeS ls).2.1]) ∧ OwnL w' w.heap.size v' (madeS ls).1 ∧ w.grownBy w' none := by
  have HT : Hid (Calls Tryd.prog 49 #[v] w fun e w' => e = .returned (.bool (dupB ls)) ∧ w.grownBy w' none) := refTwice_any w v ls hv
  by_cases hn : ndN ls
  · have hd := dupB_nd hn
    rw [hd] at HT
    have HM := madeS_nd hn
    have HF : Hid (∀ W, w.grownBy W none → Calls Tryd.prog 51 #[v] W fun e w' => ∃ v', e = .returned v' ∧ OwnL w' W.heap.size v' (fullL ls) ∧ W.grownBy w' none) := fun W hW => refFull_any W v ls (hv.keep hW) hll
    have HS : Hid (∀ W u, RdL W u (fullL ls) → Calls Tryd.prog 50 #[u] W fun e w' => ∃ v', e = .returned v' ∧ OwnL w' W.heap.size v' (sortN (fullL ls)) ∧ W.grownBy w' none) := fun W u hu => (refSorted_any W u _ hu (by have := full_len ls; omega)).mono fun e w' ⟨v', P, h1, h2, h3, h4, h5⟩ => ⟨v', h1, by rw [← sort_uniq h3 h4 (full_nd hn)]; exact h2, h5⟩
    have HR : Hid (∀ W u, RdL W u (sortN (fullL ls)) → Calls Tryd.prog 11 #[u] W fun e w' => e = .returned (.tuple #[.int .i64 (rightS (sortN (fullL ls))).1, .int .i64 ((rightS (sortN (fullL ls))).2 : Int)]) ∧ W.grownBy w' none) := fun W u hu => refRight_any W u _ hu hl.made
    have HV : Hid (RdL w v ls) := hv
    rw [HM]
    clear hd hn HM hv hl
    generalize sortN (fullL ls) = S at *
    generalize (rightS S).1 = r1 at *
    generalize (rightS S).2 = r2 at *
    by_cases hr : r1 = 0
    · subst hr
      rw [if_pos rfl]
      dsimp only
      go_enter Tryd.func19, Tryd.ntmps19
      go_wp2_with fail
      refine HT.out.mono ?_
      rintro e w1 ⟨rfl, hg1⟩
      have H1 : Hid (w.grownBy w1 none) := hg1
      clear HT hg1
      go_wp2_with fail
      refine (HF.out _ H1.out).mono ?_
      rintro e w2 ⟨v2, rfl, ho2, hg2⟩
      have H2 : Hid (OwnL w2 w1.heap.size v2 (fullL ls) ∧ w.grownBy w2 none) := ⟨ho2, gb_none H1.out hg2⟩
      clear HF ho2 hg2
      go_wp2_with fail
      refine (HS.out _ _ H2.out.1.rd).mono ?_
      rintro e w3 ⟨v3, rfl, ho3, hg3⟩
      have H3 : Hid (OwnL w3 w.heap.size v3 S ∧ w.grownBy w3 none) := ⟨ho3.mono H2.out.2.size, gb_none H2.out.2 hg3⟩
      clear HS ho3 hg3 H2 H1
      go_wp2_with fail
      refine (HR.out _ _ H3.out.1.rd).mono ?_
      rintro e w4 ⟨rfl, hg4⟩
      have H4 : Hid (OwnL w4 w.heap.size v3 S ∧ w.grownBy w4 none) := ⟨H3.out.1.keep hg4, gb_none H3.out.2 hg4⟩
      clear HR hg4 H3
      go_wp2
      go_ret2
      exact ⟨_, rfl, H4.out⟩
    · rw [if_neg hr]
      dsimp only
      have hrb : (r1 == 0) = false := by rw [beq_eq_false_iff_ne]; exact hr
      go_enter Tryd.func19, Tryd.ntmps19
      go_wp2_with fail
      refine HT.out.mono ?_
      rintro e w1 ⟨rfl, hg1⟩
      have H1 : Hid (w.grownBy w1 none) := hg1
      clear HT hg1
      go_wp2_with fail
      refine (HF.out _ H1.out).mono ?_
      rintro e w2 ⟨v2, rfl, ho2, hg2⟩
      have H2 : Hid (OwnL w2 w1.heap.size v2 (fullL ls) ∧ w.grownBy w2 none) := ⟨ho2, gb_none H1.out hg2⟩
      clear HF ho2 hg2
      go_wp2_with fail
      refine (HS.out _ _ H2.out.1.rd).mono ?_
      rintro e w3 ⟨v3, rfl, ho3, hg3⟩
      have H3 : Hid (OwnL w3 w.heap.size v3 S ∧ w.grownBy w3 none) := ⟨ho3.mono H2.out.2.size, gb_none H2.out.2 hg3⟩
      clear HS ho3 hg3 H2 H1
      go_wp2_with fail
      refine (HR.out _ _ H3.out.1.rd).mono ?_
      rintro e w4 ⟨rfl, hg4⟩
      have H4 : Hid (w.grownBy w4 none) := gb_none H3.out.2 hg4
      clear HR hg4 H3
      go_wp2
      go_ret2
      exact ⟨_, rfl, OwnL.nil _ _, H4.out⟩
  · have hd := dupB_dup hn
    rw [hd] at HT
    rw [madeS_dup hn]
    dsimp only
    clear hn hd hv hl
    go_enter Tryd.func19, Tryd.ntmps19
    go_wp2_with fail
    refine HT.out.mono ?_
    rintro e w1 ⟨rfl, hg1⟩
    have H1 : Hid (w.grownBy w1 none) := hg1
    clear HT hg1
    go_wp2
    go_ret2
    exact ⟨_, rfl, OwnL.nil _ _, H1.out⟩
end Go.Proofs.YtknlnllcpdiglaaDoor
