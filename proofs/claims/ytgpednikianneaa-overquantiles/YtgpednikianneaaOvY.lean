/-
  The fixed calls: the quantile of the fixed list, Call of increase, delta and rate, known: the walks.
-/
import Derived.Test.YtgpednikianneaaOvX
namespace Go.Proofs.Ytgpednikianneaa
open Go.RowKit Go.Shelf Go.Sort
attribute [local go_sem] fwor_cell fwor_frozen fwor_size

theorem fr (a : Nat) (op : BinOp) (b r : Nat) (h : floatBits op .f64 a b = some r) (t : TypeId) : ∀ W, (binOp op t (.float .f64 a) (.float .f64 b)).run Try.prog W = .ok (.float .f64 r) W := fun W => run_float_arith W op t .f64 a b r h
set_option maxRecDepth 8000 in
set_option maxHeartbeats 6400000 in
theorem quant3_any (w : World) (B : Nat) (hb : w.heap[B]? = some (.cells #[.float .f64 4607182418800017408, .float .f64 4611686018427387904, .float .f64 4616189618054758400] 22 (0, 0))) :
    Calls Try.prog 7 #[.float .f64 4602678819172646912, .slice (some ⟨B, 0, none⟩) 3 3] w fun e w' => e = .returned (.float .f64 4611686018427387904) ∧ w.grownBy w' none := by
  have HN : Hid (∀ b, Calls Try.prog 14 #[.float .f64 b] w fun e w' => e = .returned (.bool (nanB b)) ∧ w' = w) := fun b => isNaN_any w b
  have hnq : nanB 4602678819172646912 = false := by decide
  have h1 : (FloatKind.f64.format.order 4602678819172646912 0 == some .lt) = false := by decide
  have h2 : (FloatKind.f64.format.order 4602678819172646912 4607182418800017408 == some .gt) = false := by decide
  have hrd : RdC w (some ⟨B, 0, none⟩) ((fix3.map f3).map flV) := fun j u hj => by
    refine ⟨_, rfl, ?_⟩
    rw [Go.WideShapes.add_plain]
    have hj3 : j < 3 := (List.getElem?_eq_some_iff.1 hj).1
    have : j = 0 ∨ j = 1 ∨ j = 2 := by omega
    rcases this with rfl | rfl | rfl <;> (rw [World.cell?, hb]; exact hj)
  have HC := hidJ (cloneF_any w ⟨B, 0, none⟩ 3 (fix3.map f3) hrd (by decide))
  rw [show (fix3.map f3).length = 3 from rfl] at HC
  have HS : Hid (∀ w1 v, OwnFl w1 w.heap.size v (fix3.map f3) → w.grownBy w1 none → ∃ g c, v = .slice (some ⟨g, 0, none⟩) 3 c ∧ Calls Try.prog 17 #[v, .func (.func 18) #[] #[]] w1 fun e w' => e = .returned (.tuple #[]) ∧ (w'.cell? ⟨g, 0, none⟩ = some (.float .f64 4607182418800017408) ∧ w'.cell? ⟨g, 1, none⟩ = some (.float .f64 4611686018427387904) ∧ w'.cell? ⟨g, 2, none⟩ = some (.float .f64 4616189618054758400)) ∧ Hid (w.grownBy w' none)) := fun w1 v ho hg => by
    obtain ⟨g, c, e, hc⟩ := sort3_any w1 w.heap.size v ho
    refine ⟨g, c, e, hc.mono ?_⟩
    rintro e w' ⟨q1, q2, q3, q4⟩
    exact ⟨q1, q2, gb_new hg q3 (fun k hk => by cases hk; exact q4)⟩
  have HT : Hid (∀ W, Calls Try.prog 19 #[.float .f64 4611686018427387904] W fun e w' => e = .returned (.float .f64 4611686018427387904) ∧ w' = W) := fun W => by
    refine (told_any W 4611686018427387904).mono ?_
    rintro e w' ⟨rfl, rfl⟩
    exact ⟨rfl, rfl⟩
  have hi2 : floatOfInt .f64 2 = 4611686018427387904 := by decide
  have hi1 : floatOfInt .f64 1 = 4607182418800017408 := by decide
  have o1 := fr 4602678819172646912 .mul 4611686018427387904 4607182418800017408 (by decide) 22
  have o2 := fr 4607182418800017408 .sub 4607182418800017408 0 (by decide) 22
  have o3 := fr 4607182418800017408 .sub 0 4607182418800017408 (by decide) 22
  have o4 := fr 4611686018427387904 .mul 4607182418800017408 4611686018427387904 (by decide) 22
  have o5 := fr 4616189618054758400 .mul 0 0 (by decide) 22
  have o6 := fr 4611686018427387904 .add 0 4611686018427387904 (by decide) 22
  have oc : ∀ W, (convert 22 3 (.float .f64 4607182418800017408)).run Try.prog W = .ok (.int .i64 1) W := fun W => run_convert_float_int W 22 3 .f64 .i64 4607182418800017408 1 (by kernel_rfl) Try.underlying3 (by decide)
  clear hb hrd
  go_enter Try.func7, Try.ntmps7
  go_wp2_with fail
  refine (HN.out _).mono ?_
  rintro e w1 ⟨rfl, rfl⟩
  rw [hnq]
  clear HN hnq
  go_wp2_with fail
  refine HC.out.mono ?_
  rintro e w1 ⟨v, rfl, q1, q2⟩
  obtain ⟨g, c, rfl, hS⟩ := HS.out w1 v q1 q2
  have HS1 := hidJ hS
  clear HC HS q1 q2 hS
  go_wp2_with fail
  refine HS1.out.mono ?_
  rintro e w2 ⟨rfl, ⟨c0, c1, c2⟩, q3⟩
  clear HS1
  go_wp2
  have HQ : Hid (∀ n, w2.grownBy (w2.drewN n) none) := fun n => ⟨rfl, rfl, rfl, Nat.le_refl _, fun _ _ _ => rfl⟩
  go_quiet ((go_at_call 19; exact Calls.quiet_of_same (HT.out _)))
  have HG := hidJ (gb_none q3.out (HQ.out nq))
  clear q3 HQ HT c0 c1 c2
  go_wp2
  go_ret
  exact ⟨rfl, HG.out⟩
/-- Call of a function that reckons -/
theorem tab_ok (k : Nat) (hk : k < 15) : ∀ j, j < k → ((tabL.getD j tabZ).1.toList == (tabL.getD k tabZ).1.toList) = false := tab_ne k hk
set_option maxHeartbeats 1600000 in
theorem plain_delta (w : World) (n : Int) (a : Option Addr) (N c : Nat) (frm upt : Int) (q : Nat) (Q : Ending → World → Prop)
    (HC : ∀ W, w.grownBy W none → Calls Try.prog 58 #[.agg #[.slice a N c, .int .i64 frm, .int .i64 upt]] W fun e w' => ∃ v, e = .returned (.float .f64 v) ∧ Hid (Q (.returned (.float .f64 v)) w')) :
    Calls Try.prog 99 #[plV n 58, .agg #[.slice a N c, .int .i64 frm, .int .i64 upt], .float .f64 q] w fun e w' => Q e w' := by
  have HC2 : Hid (∀ C D, Calls Try.prog 58 #[.agg #[.slice a N c, .int .i64 frm, .int .i64 upt]] ((w.alloc C).alloc D) fun e w' => ∃ v, e = .returned (.float .f64 v) ∧ Hid (Q (.returned (.float .f64 v)) w')) := fun C D => HC _ (gb_none (alloc_gb _ _) (alloc_gb _ _))
  clear HC
  unfold plV
  go_enter Try.func99, Try.ntmps99
  go_wp2_with fail
  refine (HC2.out _ _).mono ?_
  rintro e w1 ⟨v, rfl, H1⟩
  clear HC2
  go_wp2
  exact H1.out
theorem call_delta (w : World) (v : Value) (l : List SmpT) (frm upt : Int) (q : Nat) (hv : RdP w v l) (hl : l.length ≤ 8796093022208) :
    Calls Try.prog 11 #[.string ⟨#[100, 101, 108, 116, 97]⟩, v, .int .i64 frm, .int .i64 upt, .float .f64 q] w fun e w' => CallP (fun m f t x => cz x = delC m f t) 2 l frm upt e ∧ w.grownBy w' none := by
  refine call_at (fun m f t x => cz x = delC m f t) 10 2 58 _ (by decide) (tab_ne _ (by decide)) rfl (by decide) ?_ w v l frm upt q hv hl
  intro W m a c frm upt q hr hm
  refine (plain_delta W 2 a m.length c frm upt q (fun e w' => ∃ v, e = .returned (.float .f64 v) ∧ cz v = delC m frm upt ∧ W.grownBy w' none) (fun W' hg => ?_)).mono (fun e w' h => h)
  refine (delta_any W' a c m frm upt (hr.keep hg) (by omega)).mono ?_
  rintro e w' ⟨v, rfl, q1, q2⟩
  exact ⟨_, rfl, _, rfl, q1, gb_none hg q2⟩

set_option maxHeartbeats 1600000 in
theorem plain_increase (w : World) (n : Int) (a : Option Addr) (N c : Nat) (frm upt : Int) (q : Nat) (Q : Ending → World → Prop)
    (HC : ∀ W, w.grownBy W none → Calls Try.prog 59 #[.agg #[.slice a N c, .int .i64 frm, .int .i64 upt]] W fun e w' => ∃ v, e = .returned (.float .f64 v) ∧ Hid (Q (.returned (.float .f64 v)) w')) :
    Calls Try.prog 99 #[plV n 59, .agg #[.slice a N c, .int .i64 frm, .int .i64 upt], .float .f64 q] w fun e w' => Q e w' := by
  have HC2 : Hid (∀ C D, Calls Try.prog 59 #[.agg #[.slice a N c, .int .i64 frm, .int .i64 upt]] ((w.alloc C).alloc D) fun e w' => ∃ v, e = .returned (.float .f64 v) ∧ Hid (Q (.returned (.float .f64 v)) w')) := fun C D => HC _ (gb_none (alloc_gb _ _) (alloc_gb _ _))
  clear HC
  unfold plV
  go_enter Try.func99, Try.ntmps99
  go_wp2_with fail
  refine (HC2.out _ _).mono ?_
  rintro e w1 ⟨v, rfl, H1⟩
  clear HC2
  go_wp2
  exact H1.out
theorem call_increase (w : World) (v : Value) (l : List SmpT) (frm upt : Int) (q : Nat) (hv : RdP w v l) (hl : l.length ≤ 8796093022208) :
    Calls Try.prog 11 #[.string ⟨#[105, 110, 99, 114, 101, 97, 115, 101]⟩, v, .int .i64 frm, .int .i64 upt, .float .f64 q] w fun e w' => CallP (fun m f t x => cz x = incC m f t) 2 l frm upt e ∧ w.grownBy w' none := by
  refine call_at (fun m f t x => cz x = incC m f t) 11 2 59 _ (by decide) (tab_ne _ (by decide)) rfl (by decide) ?_ w v l frm upt q hv hl
  intro W m a c frm upt q hr hm
  refine (plain_increase W 2 a m.length c frm upt q (fun e w' => ∃ v, e = .returned (.float .f64 v) ∧ cz v = incC m frm upt ∧ W.grownBy w' none) (fun W' hg => ?_)).mono (fun e w' h => h)
  refine (increase_any W' a c m frm upt (hr.keep hg) (by omega)).mono ?_
  rintro e w' ⟨v, rfl, q1, q2⟩
  exact ⟨_, rfl, _, rfl, q1, gb_none hg q2⟩

set_option maxHeartbeats 1600000 in
theorem plain_rate (w : World) (n : Int) (a : Option Addr) (N c : Nat) (frm upt : Int) (q : Nat) (Q : Ending → World → Prop)
    (HC : ∀ W, w.grownBy W none → Calls Try.prog 60 #[.agg #[.slice a N c, .int .i64 frm, .int .i64 upt]] W fun e w' => ∃ v, e = .returned (.float .f64 v) ∧ Hid (Q (.returned (.float .f64 v)) w')) :
    Calls Try.prog 99 #[plV n 60, .agg #[.slice a N c, .int .i64 frm, .int .i64 upt], .float .f64 q] w fun e w' => Q e w' := by
  have HC2 : Hid (∀ C D, Calls Try.prog 60 #[.agg #[.slice a N c, .int .i64 frm, .int .i64 upt]] ((w.alloc C).alloc D) fun e w' => ∃ v, e = .returned (.float .f64 v) ∧ Hid (Q (.returned (.float .f64 v)) w')) := fun C D => HC _ (gb_none (alloc_gb _ _) (alloc_gb _ _))
  clear HC
  unfold plV
  go_enter Try.func99, Try.ntmps99
  go_wp2_with fail
  refine (HC2.out _ _).mono ?_
  rintro e w1 ⟨v, rfl, H1⟩
  clear HC2
  go_wp2
  exact H1.out
theorem call_rate (w : World) (v : Value) (l : List SmpT) (frm upt : Int) (q : Nat) (hv : RdP w v l) (hl : l.length ≤ 8796093022208) :
    Calls Try.prog 11 #[.string ⟨#[114, 97, 116, 101]⟩, v, .int .i64 frm, .int .i64 upt, .float .f64 q] w fun e w' => CallP (fun m f t x => cz x = ratC m f t) 2 l frm upt e ∧ w.grownBy w' none := by
  refine call_at (fun m f t x => cz x = ratC m f t) 12 2 60 _ (by decide) (tab_ne _ (by decide)) rfl (by decide) ?_ w v l frm upt q hv hl
  intro W m a c frm upt q hr hm
  refine (plain_rate W 2 a m.length c frm upt q (fun e w' => ∃ v, e = .returned (.float .f64 v) ∧ cz v = ratC m frm upt ∧ W.grownBy w' none) (fun W' hg => ?_)).mono (fun e w' h => h)
  refine (rate_any W' a c m frm upt (hr.keep hg) (by omega)).mono ?_
  rintro e w' ⟨v, rfl, q1, q2⟩
  exact ⟨_, rfl, _, rfl, q1, gb_none hg q2⟩

/-! ### known -/
def three : List SmpT := [(10000, 4607182418800017408), (20000, 4613937818241073152), (30000, 4611686018427387904)]
theorem three_any (w : World) : Calls Try.prog 22 #[] w fun e w' => e = .returned (.slice (some ⟨w.heap.size, 0, none⟩) 3 3) ∧ RdP w' (.slice (some ⟨w.heap.size, 0, none⟩) 3 3) three ∧ w.grownBy w' none := by
  go_enter Try.func22, Try.ntmps22
  go_wp2
  go_ret
  refine ⟨rfl, ⟨_, _, rfl, Nat.le_refl _, by decide, fun j hj => ⟨_, _, rfl, ?_⟩⟩, alloc_gb _ _⟩
  have hb := Go.heap_alloc_new w (.cells #[.int .i64 10000, .float .f64 4607182418800017408, .int .i64 20000, .float .f64 4613937818241073152, .int .i64 30000, .float .f64 4611686018427387904] 33)
  have hj3 : j < 3 := hj
  have : j = 0 ∨ j = 1 ∨ j = 2 := by omega
  rcases this with rfl | rfl | rfl <;> (refine ⟨?_, ?_⟩ <;> (rw [World.cell?, hb]; rfl))
theorem live_three : live three = three := by decide
theorem right_three : rightW three 0 40000 = true := by decide
theorem inc_three : incC three 0 40000 = 4619567317775286272 := by decide +kernel
theorem del_three : delC three 0 40000 = 4611686018427387904 := by decide +kernel
/-- what Call answers of the fixed samples -/
theorem CallP.fixed {P : List SmpT → Int → Int → Nat → Prop} {e : Ending} (h : CallP P 2 three 0 40000 e) : ∃ v, P three 0 40000 v ∧ e = .returned (.tuple #[.float .f64 (toldN v), .bool true, .int .i64 0]) := by
  unfold CallP at h
  rw [live_three, right_three] at h
  rcases h with ⟨h, _⟩ | ⟨_, h, _⟩ | ⟨_, _, h⟩
  · cases h
  · exact absurd h (by decide)
  · exact h
end Go.Proofs.Ytgpednikianneaa
