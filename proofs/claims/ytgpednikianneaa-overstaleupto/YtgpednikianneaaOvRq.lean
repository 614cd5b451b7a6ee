/-
  The quantile of a window; Call of the function that goes by a parameter: the walks.
-/
import Derived.Test.YtgpednikianneaaOvP
namespace Go.Proofs.Ytgpednikianneaa
open Go.RowKit Go.Shelf Go.Sort

set_option maxRecDepth 8000 in
set_option maxHeartbeats 3200000 in
theorem wquant_any (w : World) (a : Option Addr) (c : Nat) (m : List SmpT) (frm upt : Int) (q : Nat) (hv : RdP w (.slice a m.length c) m) (hl : 1 ≤ m.length) (hsz : m.length ≤ 8796093022208) (hin : SmIn m) :
    Calls Try.prog 55 #[.agg #[.slice a m.length c, .int .i64 frm, .int .i64 upt], .float .f64 q] w fun e w' => ∃ v, e = .returned (.float .f64 v) ∧ QuP q (m.map (·.2)) v ∧ w.grownBy w' none := by
  obtain ⟨C, hC⟩ : ∃ C : Obj, C = .cells #[.slice a m.length c, .int .i64 frm, .int .i64 upt] 54 := ⟨_, rfl⟩
  have hg := alloc_gb w C
  have HV := hidJ (values_any (w.alloc C) a c m frm upt (hv.keep hg) hsz)
  have HQ : Hid (∀ w1 v, OwnFl w1 (w.alloc C).heap.size v (m.map (·.2)) → (w.alloc C).grownBy w1 none → Calls Try.prog 7 #[.float .f64 q, v] w1 fun e w' => ∃ v, e = .returned (.float .f64 v) ∧ Hid (QuP q (m.map (·.2)) v ∧ w.grownBy w' none)) := fun w1 v ho hg1 => by
    obtain ⟨a', c', rfl⟩ := ho.shape
    have hne : m.map (·.2) ≠ [] := fun h => by
      have := congrArg List.length h
      simp at this
      rw [this] at hl
      simp at hl
    have hrd : ∃ ad, a' = some ad ∧ RdC w1 (some ad) ((m.map (·.2)).map flV) := by
      rcases ho.2 with ⟨h, h'⟩ | ⟨g, cap, cur, h, r⟩
      · exact absurd (List.eq_nil_of_length_eq_zero h') hne
      · simp only [Value.slice.injEq] at h
        obtain ⟨rfl, -, rfl⟩ := h
        refine ⟨_, rfl, fun j u hj => ⟨_, rfl, ?_⟩⟩
        exact World.ownsRow.cells ho rfl j u hj
    obtain ⟨ad, rfl, hrd⟩ := hrd
    refine (quant_any w1 ad c' q _ hrd hne (fun x hx => ?_) (by simpa using hsz)).mono ?_
    · obtain ⟨y, hy, rfl⟩ := List.mem_map.1 hx
      exact (hin y hy).2
    · rintro e w' ⟨x, h1, h2, h3⟩
      exact ⟨x, h1, h2, gb_none hg (gb_none hg1 h3)⟩
  clear hv hl hsz hin hg
  generalize m.map (·.2) = fl at *
  generalize m.length = N at *
  subst hC
  go_enter Try.func55, Try.ntmps55
  go_wp2_with fail
  refine HV.out.mono ?_
  rintro e w1 ⟨v, rfl, q1⟩
  have HQ1 := hidJ (HQ.out w1 v q1.out.1 q1.out.2)
  clear HV HQ q1
  go_wp2_with fail
  refine HQ1.out.mono ?_
  rintro e w2 ⟨x, rfl, q2⟩
  clear HQ1
  go_wp2
  go_ret
  exact ⟨_, rfl, q2.out⟩
theorem needsR_any (w : World) (n : Int) (v : Value) : Calls Try.prog 102 #[.agg #[.int .i64 n, v]] w fun e w' => e = .returned (.int .i64 n) ∧ w.grownBy w' none := by
  have HG := hidJ (alloc_gb w)
  go_enter Try.func102, Try.ntmps102
  go_wp2
  go_ret
  exact ⟨rfl, HG.out _⟩
set_option maxHeartbeats 1600000 in
theorem ruled_quant (w : World) (n : Int) (a : Option Addr) (N c : Nat) (frm upt : Int) (q : Nat) (Q : Ending → World → Prop)
    (HC : ∀ W, w.grownBy W none → Calls Try.prog 55 #[.agg #[.slice a N c, .int .i64 frm, .int .i64 upt], .float .f64 q] W fun e w' => ∃ v, e = .returned (.float .f64 v) ∧ Hid (Q (.returned (.float .f64 v)) w')) :
    Calls Try.prog 101 #[plV n 55, .agg #[.slice a N c, .int .i64 frm, .int .i64 upt], .float .f64 q] w fun e w' => Q e w' := by
  have HC2 : Hid (∀ C D, Calls Try.prog 55 #[.agg #[.slice a N c, .int .i64 frm, .int .i64 upt], .float .f64 q] ((w.alloc C).alloc D) fun e w' => ∃ v, e = .returned (.float .f64 v) ∧ Hid (Q (.returned (.float .f64 v)) w')) := fun C D => HC _ (gb_none (alloc_gb _ _) (alloc_gb _ _))
  clear HC
  unfold plV
  go_enter Try.func101, Try.ntmps101
  go_wp2_with fail
  refine (HC2.out _ _).mono ?_
  rintro e w1 ⟨v, rfl, H1⟩
  clear HC2
  go_wp2
  exact H1.out
end Go.Proofs.Ytgpednikianneaa
