/-
  Labels written over: what the law's own Spoil comes to: the walk. A label stored into a list of the call's own.
-/
import Derived.Test.YtkipnkpnkhfjhabGreatDoorLbSame
namespace Go.Proofs.YtkipnkpnkhfjhabGreatDoor
open Go.RowKit

theorem lbf_set (ls : List LbT) : ∀ (j : Nat) (x : LbT), lbf (ls.set j x) = ((lbf ls).set (j * 2) (.string (ByteArray.mk ⟨x.1⟩))).set (j * 2 + 1) (.string (ByteArray.mk ⟨x.2⟩)) := by
  induction ls with
  | nil => intro j x; rfl
  | cons y t ih =>
    intro j x
    have e : ∀ z : LbT, ∀ u : List LbT, lbf (z :: u) = .string (ByteArray.mk ⟨z.1⟩) :: .string (ByteArray.mk ⟨z.2⟩) :: lbf u := fun _ _ => rfl
    cases j with
    | zero => rw [List.set_cons_zero, e, e]; simp
    | succ j => rw [List.set_cons_succ, e, e, ih, show (j + 1) * 2 = j * 2 + 1 + 1 by omega]; simp
/-- a label stored -/
theorem OwnL.set {w : World} {base g n cap : Nat} {ls : List LbT} (h : OwnL w base (.slice (some ⟨g, 0, none⟩) n cap) ls) (j : Nat) (x : LbT) :
    OwnL ((w.setCell ⟨g, j * 2, none⟩ (.string (ByteArray.mk ⟨x.1⟩))).setCell ⟨g, j * 2 + 1, none⟩ (.string (ByteArray.mk ⟨x.2⟩))) base (.slice (some ⟨g, 0, none⟩) n cap) (ls.set j x) ∧
    w.grownBy ((w.setCell ⟨g, j * 2, none⟩ (.string (ByteArray.mk ⟨x.1⟩))).setCell ⟨g, j * 2 + 1, none⟩ (.string (ByteArray.mk ⟨x.2⟩))) (some g) := by
  have hn : n = ls.length := by
    rcases h.2 with ⟨h', _⟩ | ⟨_, _, _, h', _⟩
    · simp at h'
    · simp at h'; exact h'.2.1
  subst hn
  obtain ⟨h1, g1⟩ := World.ownsRow.stored h (j * 2) (.string (ByteArray.mk ⟨x.1⟩))
  obtain ⟨h2, g2⟩ := World.ownsRow.stored h1 (j * 2 + 1) (.string (ByteArray.mk ⟨x.2⟩))
  refine ⟨?_, gb_trans g1 g2 (fun k hk _ => hk.symm)⟩
  unfold OwnL
  rw [List.length_set, lbf_set]
  exact h2
theorem OwnL.frozen {w : World} {base g n cap : Nat} {ls : List LbT} (h : OwnL w base (.slice (some ⟨g, 0, none⟩) n cap) ls) (j : Nat) : w.frozen? ⟨g, j, none⟩ = false := by
  have hn : n = ls.length := by
    rcases h.2 with ⟨h', _⟩ | ⟨_, _, _, h', _⟩
    · simp at h'
    · simp at h'; exact h'.2.1
  subst hn
  exact World.ownsRow.frozenAt h j
theorem OwnL.form {w : World} {base : Nat} {v : Value} {ls : List LbT} (h : OwnL w base v ls) (hl : 0 < ls.length) : ∃ g cap, v = .slice (some ⟨g, 0, none⟩) ls.length cap ∧ base ≤ g ∧ g < w.heap.size ∧ ls.length ≤ cap ∧ cap ≤ 9223372036854775807 ∧ ∀ j, j < ls.length → w.cell? ⟨g, j * 2, none⟩ = some (.string (ByteArray.mk ⟨(ls.getD j ([], [])).1⟩)) ∧ w.cell? ⟨g, j * 2 + 1, none⟩ = some (.string (ByteArray.mk ⟨(ls.getD j ([], [])).2⟩)) := by
  have h0 := h
  rcases h.2 with ⟨rfl, hn⟩ | ⟨g, cap, cur, rfl, hbg, hh, hnc, hcm, hcs, htake⟩
  · omega
  · refine ⟨g, cap, rfl, hbg, (Array.getElem?_eq_some_iff.1 hh).1, hnc, by unfold maxLen at hcm; exact hcm, fun j hj => ?_⟩
    have hg := lbf_get ls j hj
    have hc := World.ownsRow.cells h0 rfl
    have c0 := hc _ _ hg.1
    have c1 := hc _ _ hg.2
    rw [Go.WideShapes.add_plain] at c0 c1
    simp only [Nat.zero_add] at c0 c1
    exact ⟨c0, c1⟩
theorem OwnL.shape {w : World} {base : Nat} {v : Value} {ls : List LbT} (h : OwnL w base v ls) : ∃ a c, v = .slice a ls.length c := by
  rcases h.2 with ⟨rfl, hn⟩ | ⟨g, cap, cur, rfl, _⟩
  · exact ⟨none, 0, by rw [hn]⟩
  · exact ⟨_, _, rfl⟩
theorem OwnL.lt {w : World} {base : Nat} {v : Value} {ls : List LbT} (h : OwnL w base v ls) : ∀ k, v.ownBlock = some k → base ≤ k ∧ k < w.heap.size := World.ownsRow.lt h
theorem gbs (w : World) (g j : Nat) (u : Value) : w.grownBy (w.setCell ⟨g, j, none⟩ u) (some g) :=
  ⟨rfl, rfl, rfl, by simp, fun k _ hk => Below.heap_setCell _ _ _ _ (fun e => hk (by rw [e]))⟩
def spB : List UInt8 := [115, 112, 111, 105, 108, 116]

set_option maxRecDepth 8000 in
set_option maxHeartbeats 3200000 in
theorem spoilL_any (w : World) (v : Value) (base : Nat) (ls : List LbT) (hv : OwnL w base v ls) (hb : base ≤ w.heap.size) (hsz : ls.length ≤ 4398046511104) :
    Calls Tryz.prog 19 #[v] w fun e w' => e = .returned (.tuple #[]) ∧ w.grownBy w' v.ownBlock := by
  have HV : Hid (OwnL w base v ls) := hv
  obtain ⟨a, c, rfl⟩ := hv.shape
  obtain ⟨i0, hi, hz0, hz1, hz2⟩ := info_parts infoLb
  have HI : Hid (Tryz.prog.info? 70 = some i0 ∧ i0.zero = some (.agg #[.string ⟨#[]⟩, .string ⟨#[]⟩]) ∧ i0.size = 2 ∧ i0.bytes = 32) := ⟨hi, hz0, hz1, hz2⟩
  clear hi hz0 hz1 hz2 hv
  generalize hN : ls.length = n at *
  have HN : Hid (ls.length = n) := hN
  clear hN
  go_enter Tryz.func19, Tryz.ntmps19
  go_wp2
  go_loopw [5] (fun i wr => ∃ k : Nat, k ≤ n ∧ i = .int .i64 k ∧ Hid (∃ m : List LbT, m.length = n ∧ OwnL wr base (.slice a n c) m ∧ w.grownBy wr (Value.ownBlock (.slice a n c)))) (fun i _ => n - (intOf i).toNat)
  case atStart => exact ⟨0, by omega, rfl, ls, HN.out, HV.out, gb_refl _ _⟩
  case round =>
    obtain ⟨k, hk, rfl, hr⟩ := hrel
    obtain ⟨m, hm, ho, hg⟩ := hr.out
    have H : Hid (m.length = n ∧ OwnL wr base (.slice a n c) m ∧ w.grownBy wr (Value.ownBlock (.slice a n c))) := ⟨hm, ho, hg⟩
    clear hr hm ho hg HV
    by_cases hlt : k < n
    · obtain ⟨g, cap, he, hg0, hg1, hcap, hcm, hcell⟩ := H.out.2.1.form (by rw [H.out.1]; omega)
      simp only [Value.slice.injEq] at he
      obtain ⟨rfl, -, rfl⟩ := he
      obtain ⟨c0, c1⟩ := hcell k (by rw [H.out.1]; exact hlt)
      have f0 := H.out.2.1.frozen (k * 2)
      have f1 := H.out.2.1.frozen (k * 2 + 1)
      have hki : (k : Int) < (n : Int) := by omega
      have hst : Hid (∃ m' : List LbT, m'.length = n ∧ OwnL ((wr.setCell ⟨g, k * 2, none⟩ (.string (ByteArray.mk ⟨spB⟩))).setCell ⟨g, k * 2 + 1, none⟩ (.string (ByteArray.mk ⟨[]⟩))) base (.slice (some ⟨g, 0, none⟩) n c) m' ∧ w.grownBy ((wr.setCell ⟨g, k * 2, none⟩ (.string (ByteArray.mk ⟨spB⟩))).setCell ⟨g, k * 2 + 1, none⟩ (.string (ByteArray.mk ⟨[]⟩))) (Value.ownBlock (.slice (some ⟨g, 0, none⟩) n c))) := by
        obtain ⟨h1, h2⟩ := H.out.2.1.set k (spB, [])
        exact ⟨m.set k (spB, []), by rw [List.length_set]; exact H.out.1, h1, gb_trans H.out.2.2 h2 (fun k' hk' _ => hk'.symm)⟩
      clear hcell H hg0 hg1 hcap hcm
      generalize ByteArray.mk ⟨(m.getD k ([], [])).1⟩ = o1 at *
      generalize ByteArray.mk ⟨(m.getD k ([], [])).2⟩ = o2 at *
      go_wp2
      go_roundw
      case rel => exact ⟨k + 1, by omega, by go_num, hst⟩
      case measure => simp [intOf]; omega
    · have hki : ¬ (k : Int) < (n : Int) := by omega
      go_wp2_with (at_builtin; refine wp_appH rfl _ _ 29 70 rfl i0 _ 2 32 base Tryz.underlying29 HI.out.1 HI.out.2.1 HI.out.2.2.1 HI.out.2.2.2 rfl (by decide) _ n (lbf m) (some ⟨wr.heap.size, 0, none⟩) 1 1 [.string (ByteArray.mk ⟨spB⟩), .string (ByteArray.mk ⟨[]⟩)] rfl rfl ?b0 ?b1 ?b2 ?b3 ?b4 ?b5 ?b6 ?b7 ?_)
      case b0 =>
        have h := H.out.2.1
        unfold OwnL at h
        rw [H.out.1] at h
        exact World.ownsRow.alloc h _
      case b2 =>
        intro j u hj
        refine ⟨_, rfl, ?_⟩
        rw [Go.WideShapes.add_plain]
        have ha := Go.heap_alloc_new wr (.cells #[.string (ByteArray.mk ⟨spB⟩), .string (ByteArray.mk ⟨[]⟩)] 70)
        have e : (wr.alloc (.cells #[.string (ByteArray.mk ⟨spB⟩), .string (ByteArray.mk ⟨[]⟩)] 70)).cell? ⟨wr.heap.size, 0 + j, none⟩ = some u := by
          simp only [World.cell?, ha]
          simpa using hj
        exact e
      case b4 =>
        first
        | exact ⟨rfl, rfl⟩
        | (intro u hu
           simp only [List.mem_cons, List.not_mem_nil, or_false] at hu
           rcases hu with rfl | rfl <;> rfl)
      case b5 => omega
      case b6 => omega
      case b7 => have := H.out.2.2.size; simp; omega
      intro v2 w2 ho2 hf2
      have hf3 := Fr.pre (World.grownBy_alloc _ _ none) hf2
      have ho3 : OwnL w2 base v2 (m ++ [(spB, [])]) := by
        unfold OwnL
        rw [List.length_append, H.out.1, lbf_append]
        exact ho2
      obtain ⟨g2, cap2, rfl, hg0, hg1, hcap, hcm, hcell⟩ := ho3.form (by simp)
      have hlen : (m ++ [(spB, ([] : List UInt8))]).length = n + 1 := by have := H.out.1; simp; omega
      rw [hlen] at hcap hcell
      obtain ⟨c0, c1⟩ := hcell n (by omega)
      have hfz := ho3.frozen (n * 2 + 1)
      have HF : Hid (∀ u, w.grownBy (w2.setCell ⟨g2, n * 2 + 1, none⟩ u) (Value.ownBlock (.slice a n c))) := by
        intro u
        refine gb_trans (gb_trans H.out.2.2 hf3.1 (fun k' hk' _ => hk'.symm)) (gbs w2 g2 _ u) (fun k' hk' hlt' => ?_)
        rcases hf3.2 k' (by simpa [Value.ownBlock] using hk') with h | h
        · exact h
        · have := H.out.2.2.size; omega
      generalize ByteArray.mk ⟨((m ++ [(spB, ([] : List UInt8))]).getD n ([], [])).1⟩ = q1 at *
      generalize ByteArray.mk ⟨((m ++ [(spB, ([] : List UInt8))]).getD n ([], [])).2⟩ = q2 at *
      rw [hlen]
      clear hcell ho2 ho3 hf2 hf3 H hg0 hg1 hlen
      go_wp2
      go_end0
      exact ⟨rfl, HF.out _⟩
end Go.Proofs.YtkipnkpnkhfjhabGreatDoor
