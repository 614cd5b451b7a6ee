/-
  What was told is not told again until the repeat interval has gone by: words.
-/
import Derived.Test.YtbnieljkadcaoaaDoorNfk
import Derived.Test.YtbnieljkadcaoaaDoorNfl
namespace Go.Proofs.YtbnieljkadcaoaaDoor
open Go.RowKit Go.Shelf Go.Sort

theorem right_tim {m : MkR} (h : rightM m = 0) : timB m.tim = true := by
  unfold rightM at h
  split at h
  · omega
  split at h
  · omega
  split at h
  · omega
  rename_i h3
  cases e : timB m.tim
  · exact absurd e h3
  · rfl
theorem right_allR {m : MkR} (h : rightM m = 0) : allR m.fir = true ∧ allR m.res = true := by
  obtain ⟨h1, h2⟩ := right_rise h
  unfold riseB at h1 h2
  rw [Bool.and_eq_true] at h1 h2
  exact ⟨h1.2, h2.2⟩
theorem within_self (l : List (List LbT)) : withinB l l = true := by
  unfold withinB
  rw [List.all_eq_true]
  intro x hx
  exact decide_eq_true hx
theorem within_app (a b c : List (List LbT)) : withinB (a ++ b) c = (withinB a c && withinB b c) := by
  unfold withinB
  rw [List.all_append]
theorem within_one (x : List LbT) (c : List (List LbT)) : withinB [x] c = decide (x ∈ c) := by
  unfold withinB
  simp
/-- the times that are asked about -/
def OnT (m : MkR) (rep wait : Int) : Prop := 1 ≤ rep ∧ rep ≤ 1099511627776 ∧ 0 ≤ wait ∧ wait ≤ 1099511627776 ∧ m.tim ≤ 1124800395214848
theorem on_tim {m : MkR} {rep wait : Int} (hR : rightM m = 0) (h : OnT m rep wait) : timB (m.tim + wait) = true ∧ somB rep = true := by
  have ht := right_tim hR
  unfold timB at ht ⊢
  unfold somB
  obtain ⟨h1, h2, h3, h4, h5⟩ := h
  simp only [Bool.and_eq_true, decide_eq_true_eq] at ht ⊢
  omega
theorem needs_on {m : MkR} {rep wait : Int} (hR : rightM m = 0) (h : OnT m rep wait) (fi : List (List LbT)) (hf : allR fi = true) : needsM m true (m.tim + wait) rep fi m.res = (tellB m (m.tim + wait) rep fi m.res, 0) := by
  obtain ⟨h1, h2⟩ := on_tim hR h
  obtain ⟨-, h4⟩ := right_allR hR
  unfold needsM
  rw [h1, h2, hf, h4, hR]
  simp
theorem needs_same {m : MkR} {rep wait : Int} (hR : rightM m = 0) (h : OnT m rep wait) : needsM m true (m.tim + wait) rep m.fir m.res = (decide (0 < m.fir.length) && decide (rep ≤ wait), 0) := by
  rw [needs_on hR h _ (right_allR hR).1]
  unfold tellB
  rw [within_self, within_self]
  congr 1
  by_cases h0 : m.fir.length = 0
  · simp [h0]
  · have e : decide (m.tim ≤ m.tim + wait - rep) = decide (rep ≤ wait) := by
      rw [Bool.eq_iff_iff, decide_eq_true_eq, decide_eq_true_eq]
      omega
    have h1 : decide (0 < m.fir.length) = true := decide_eq_true (by omega)
    simp [h0, e, h1]
theorem needs_more {m : MkR} {rep wait : Int} (hR : rightM m = 0) (h : OnT m rep wait) (x : List LbT) (hx : (rightS x).1 = 0) : ∃ y, needsM m true (m.tim + wait) rep (m.fir ++ [x]) m.res = (y, 0) ∧ (x ∉ m.fir → y = true) := by
  have ha : allR (m.fir ++ [x]) = true := by
    have := (right_allR hR).1
    unfold allR at this ⊢
    rw [List.all_append, this]
    simp [hx]
  refine ⟨_, needs_on hR h _ ha, fun hn => ?_⟩
  unfold tellB
  rw [within_app, within_self, within_one, decide_eq_false hn]
  simp
theorem needs_none {m : MkR} {rep wait : Int} (hR : rightM m = 0) (h : OnT m rep wait) : needsM m true (m.tim + wait) rep [] m.res = (decide (0 < m.fir.length), 0) := by
  rw [needs_on hR h [] rfl]
  unfold tellB
  simp [withinB]
theorem got_one (m : MkR) (f s : Value) : getM [(m, f, s)] (m.rcv, m.key) = (m, f, s) ∧ hasM [(m, f, s)] (m.rcv, m.key) = true := by
  constructor
  · simp [getM, keyX]
  · simp [hasM, keyX]
/-- label sets of the call's own, and more that are read, behind them -/
theorem app_sets {w w1 : World} {base : Nat} {v s : Value} {lss mss : List (List LbT)} (h : OwnLL w base v lss) (hb : base ≤ w.heap.size) (hl : lss.length ≤ 1000) (hm : mss.length ≤ 1000) (hold : w1.grownBy w none) (hw1 : w1.heap.size ≤ base) (hsl : ∃ vs, RdV w s vs ∧ RdS w1 vs mss) :
    ∃ a2 c2 w2, (Builtin.append_ #[22, 22] 22 #[v, s]).run Tryd.prog w = .ok (.slice a2 (lss ++ mss).length c2) w2 ∧ RdLL w2 (.slice a2 (lss ++ mss).length c2) (lss ++ mss) ∧ w1.grownBy w2 none := by
  obtain ⟨i0, hi, hz0, hz1, hz2⟩ := info_parts infoLs
  obtain ⟨vs, q1, q2⟩ := hsl
  obtain ⟨us, r1, r2, r3⟩ := h
  have hone := q2.one
  obtain ⟨a, c, e1, e2, e3, e4, e5⟩ := q1
  have q1' : RdV w (.slice a vs.length c) vs := ⟨a, c, rfl, e2, e3, e4, e5⟩
  subst e1
  have hvl : vs.length = mss.length := q2.1
  obtain ⟨v', w2, hrun, k2, k3⟩ := run_appH w 22 22 39 i0 _ 1 24 base Tryd.underlying22 hi hz0 hz1 hz2 rfl (by decide) v us.length us r1 a vs.length c vs (by omega) q1'.rdc (fun e => ⟨by have := e5 e; omega, e5 e⟩) hone (by omega) (by omega) hb
  have ho : OwnVs w2 base v' (us ++ vs) := by
    unfold OwnVs
    rw [List.length_append]
    exact k2
  obtain ⟨a2, c2, e⟩ := ho.shape
  have hlen : (us ++ vs).length = (lss ++ mss).length := by simp [r2, hvl]
  rw [hlen] at e
  subst e
  have hg : w1.grownBy w2 none := gb_new hold k3.1 (fun k hk => by have := (r1.lt k hk).1; omega)
  refine ⟨a2, c2, w2, hrun, ⟨us ++ vs, ho.rd, hlen, fun j => ?_⟩, hg⟩
  have hne2 : ∀ (x : Value) (ls : List LbT), OwnL w base x ls → RdL w2 x ls := fun x ls hx => by
    refine OwnL.rd (row_via hx (fun k hk => k3.1.block k (hx.lt k hk).2 (fun e => ?_)))
    obtain ⟨cur, t1⟩ := row_objE hx hk
    obtain ⟨cur', t2⟩ := row_objE r1 e.symm
    rw [t1] at t2
    simp at t2
  by_cases hj : j < lss.length
  · have e1 : (us ++ vs).getD j nilV = us.getD j nilV := by simp [List.getD, List.getElem?_append_left (show j < us.length by omega)]
    have e2 : (lss ++ mss).getD j [] = lss.getD j [] := by simp [List.getD, List.getElem?_append_left hj]
    rw [e1, e2]
    exact hne2 _ _ (r3 j)
  · have e1 : (us ++ vs).getD j nilV = vs.getD (j - lss.length) nilV := by simp only [List.getD]; rw [List.getElem?_append_right (by omega), r2]
    have e2 : (lss ++ mss).getD j [] = mss.getD (j - lss.length) [] := by simp only [List.getD]; rw [List.getElem?_append_right (by omega)]
    rw [e1, e2]
    exact (q2.2 _).keep hg
end Go.Proofs.YtbnieljkadcaoaaDoor
