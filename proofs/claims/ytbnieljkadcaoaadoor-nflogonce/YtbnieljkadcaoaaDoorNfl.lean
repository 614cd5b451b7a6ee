/-
  nflog's Sorted of one label set: the walk.
-/
import Derived.Test.YtbnieljkadcaoaaDoorNfi
namespace Go.Proofs.YtbnieljkadcaoaaDoor
open Go.RowKit Go.Shelf Go.Sort

set_option maxRecDepth 8000 in
set_option maxHeartbeats 1600000 in
theorem compact_one (w : World) (a : Option Addr) (c : Nat) (fv : Value) : Calls Tryd.prog 41 #[.slice a 1 c, fv] w fun e w' => e = .returned (.slice a 1 c) ∧ w' = w := by
  go_enter Tryd.func41, Tryd.ntmps41
  go_wp2
  go_ret
  exact ⟨rfl, rfl⟩
theorem perm_one {lss : List (List LbT)} {ls : List LbT} (h : lss.Perm [ls]) : lss = [ls] := List.perm_singleton.1 h
/-- what Sorted of one answers -/
def SrtP (w : World) (ls : List LbT) (e : Ending) (w' : World) : Prop := w.grownBy w' none ∧ (((rightS ls).1 ≠ 0 ∧ e = .returned (.tuple #[.slice none 0 0, .int .i64 41])) ∨ ((rightS ls).1 = 0 ∧ ∃ a c, e = .returned (.tuple #[.slice a 1 c, .int .i64 0]) ∧ OwnLL w' w.heap.size (.slice a 1 c) [ls]))
set_option maxRecDepth 8000 in
set_option maxHeartbeats 3200000 in
theorem sorted_one (w : World) (v : Value) (ls : List LbT) (hv : RdLL w v [ls]) (hi : LbIn ls) (hT : U8S w) :
    Calls Tryd.prog 14 #[v] w fun e w' => SrtP w ls e w' := by
  have hii : LLIn [ls] := ⟨by simp, fun j => by
    match j with
    | 0 => exact hi
    | j + 1 => simpa using LbIn.nil⟩
  have HA := hidJ (areRight_any w v [ls] hv hii hT)
  have hAll : allR [ls] = decide ((rightS ls).1 = 0) := by simp [allR]
  rw [hAll] at HA
  obtain ⟨vs, hV, hS⟩ := hv
  have HI : Hid (∀ W, w.grownBy W none → Calls Tryd.prog 35 #[v] W fun e w' => ∃ a c vs', e = .returned (.slice a 1 c) ∧ OwnVs w' W.heap.size (.slice a 1 c) vs' ∧ RdS W vs' [ls] ∧ W.grownBy w' none) := fun W hW => by
    refine (inOrder_any W v vs [ls] (hV.keep hW) (hS.keep hW) (by rw [hS.1]; simp)).mono ?_
    rintro e w' ⟨v', vs', lss', q1, q2, q3, q4, -, -, q7⟩
    have e1 := perm_one q4
    subst e1
    obtain ⟨a, c, e2⟩ := q2.shape
    have hl : vs'.length = 1 := q3.1
    rw [hl] at e2
    subst e2
    exact ⟨a, c, vs', q1, q2, q3, q7⟩
  have hvs : ∃ a n c, v = .slice a n c := by obtain ⟨a, c, e, -⟩ := hV; exact ⟨_, _, _, e⟩
  obtain ⟨va, vn, vc, rfl⟩ := hvs
  clear hV hS hii hAll hi hT
  by_cases h0 : (rightS ls).1 = 0
  · rw [decide_eq_true h0] at HA
    have HQ : Hid (∀ a c w', w.grownBy w' none → OwnLL w' w.heap.size (.slice a 1 c) [ls] → SrtP w ls (.returned (.tuple #[.slice a 1 c, .int .i64 0])) w') := fun a c w' h1 h2 => ⟨h1, .inr ⟨h0, a, c, rfl, h2⟩⟩
    have HL := hidJ (right_16 h0)
    clear h0
    go_enter Tryd.func14, Tryd.ntmps14
    go_wp2_with fail
    refine HA.out.mono ?_
    rintro e w1 ⟨rfl, g1⟩
    have H1 := hidJ g1
    clear HA g1
    go_wp2_with fail
    refine (HI.out _ H1.out).mono ?_
    rintro e w2 ⟨a, c, vs', rfl, q2, q3, q4⟩
    have H2 := hidJ (And.intro q2 (And.intro q3 q4))
    clear HI q2 q3 q4
    have HC := hidJ (compact_one w2 a c (.func (.func 39) #[] #[]))
    go_wp2_with fail
    refine HC.out.mono ?_
    rintro e w3 ⟨rfl, h3⟩
    have h3 := h3.symm
    subst h3
    clear HC
    have HCp := hidJ (copySets_any w2 (.slice a 1 c) [ls] ⟨vs', H2.out.1.rd, H2.out.2.1.keep H2.out.2.2⟩ (by simp) (fun j => by
      match j with
      | 0 => have := HL.out; show ls.length ≤ _; omega
      | j + 1 => simp))
    go_wp2_with fail
    refine HCp.out.mono ?_
    rintro e w4 ⟨v', rfl, r1, r2⟩
    obtain ⟨a4, c4, e4⟩ := r1.shape
    subst e4
    have hg := gb_none (gb_none H1.out H2.out.2.2) r2
    have HF := hidJ (HQ.out a4 c4 w4 hg (r1.mono (gb_none H1.out H2.out.2.2).size))
    clear HCp r1 r2 hg H1 H2
    go_wp2
    go_ret2
    exact HF.out
  · rw [decide_eq_false h0] at HA
    have HQ : Hid (∀ w', w.grownBy w' none → SrtP w ls (.returned (.tuple #[.slice none 0 0, .int .i64 41])) w') := fun w' h1 => ⟨h1, .inl ⟨h0, rfl⟩⟩
    clear h0 HI
    go_enter Tryd.func14, Tryd.ntmps14
    go_wp2_with fail
    refine HA.out.mono ?_
    rintro e w1 ⟨rfl, g1⟩
    have HF := hidJ (HQ.out w1 g1)
    clear HA g1 HQ
    go_wp2
    go_ret2
    exact HF.out
end Go.Proofs.YtbnieljkadcaoaaDoor
