/-
  known: the walk.
-/
import Derived.Test.YtgpednikianneaaOvY
namespace Go.Proofs.Ytgpednikianneaa
open Go.RowKit Go.Shelf Go.Sort

set_option maxRecDepth 8000 in
set_option maxHeartbeats 6400000 in
theorem known_any (w : World) : Calls Try.prog 10 #[] w fun e w' => e = .returned (.bool true) ∧ w.grownBy w' none := by
  have H3 : Hid (∀ W, Calls Try.prog 22 #[] W fun e w' => e = .returned (.slice (some ⟨W.heap.size, 0, none⟩) 3 3) ∧ Hid (RdP w' (.slice (some ⟨W.heap.size, 0, none⟩) 3 3) three ∧ W.grownBy w' none)) := fun W => three_any W
  have HI : Hid (∀ W B, RdP W (.slice (some ⟨B, 0, none⟩) 3 3) three → Calls Try.prog 11 #[.string ⟨#[105, 110, 99, 114, 101, 97, 115, 101]⟩, .slice (some ⟨B, 0, none⟩) 3 3, .int .i64 0, .int .i64 40000, .float .f64 0] W fun e w' => e = .returned (.tuple #[.float .f64 4619567317775286272, .bool true, .int .i64 0]) ∧ Hid (W.grownBy w' none)) := fun W B hv => by
    refine (call_increase W _ three 0 40000 0 hv (by decide)).mono ?_
    rintro e w' ⟨q1, q2⟩
    obtain ⟨v, h1, h2⟩ := q1.fixed
    refine ⟨?_, q2⟩
    rw [h2, cz_told, h1, inc_three]
  have HD : Hid (∀ W B, RdP W (.slice (some ⟨B, 0, none⟩) 3 3) three → Calls Try.prog 11 #[.string ⟨#[100, 101, 108, 116, 97]⟩, .slice (some ⟨B, 0, none⟩) 3 3, .int .i64 0, .int .i64 40000, .float .f64 0] W fun e w' => e = .returned (.tuple #[.float .f64 4611686018427387904, .bool true, .int .i64 0]) ∧ Hid (W.grownBy w' none)) := fun W B hv => by
    refine (call_delta W _ three 0 40000 0 hv (by decide)).mono ?_
    rintro e w' ⟨q1, q2⟩
    obtain ⟨v, h1, h2⟩ := q1.fixed
    refine ⟨?_, q2⟩
    rw [h2, cz_told, h1, del_three]
  have HQ : Hid (∀ W : World, Calls Try.prog 7 #[.float .f64 4602678819172646912, .slice (some ⟨W.heap.size, 0, none⟩) 3 3] (W.alloc (.cells #[.float .f64 4607182418800017408, .float .f64 4611686018427387904, .float .f64 4616189618054758400] 22)) fun e w' => e = .returned (.float .f64 4611686018427387904) ∧ Hid (W.grownBy w' none)) := fun W => by
    refine (quant3_any _ W.heap.size (Go.heap_alloc_new W _)).mono ?_
    rintro e w' ⟨q1, q2⟩
    exact ⟨q1, gb_none (alloc_gb _ _) q2⟩
  have e1 : (FloatKind.f64.format.order 4619567317775286272 4619567317775286272 == some .eq) = true := by decide
  have e2 : (FloatKind.f64.format.order 4611686018427387904 4611686018427387904 == some .eq) = true := by decide
  go_enter Try.func10, Try.ntmps10
  go_wp2_with fail
  refine (H3.out _).mono ?_
  rintro e w1 ⟨rfl, q1⟩
  have HI1 := hidJ (HI.out w1 _ q1.out.1)
  go_wp2_with fail
  refine HI1.out.mono ?_
  rintro e w2 ⟨rfl, q2⟩
  have HG2 := hidJ (gb_none q1.out.2 q2.out)
  clear HI HI1 q1 q2
  go_wp2_with fail
  refine (H3.out _).mono ?_
  rintro e w3 ⟨rfl, q3⟩
  have HD3 := hidJ (HD.out w3 _ q3.out.1)
  go_wp2_with fail
  refine HD3.out.mono ?_
  rintro e w4 ⟨rfl, q4⟩
  have HG4 := hidJ (gb_none HG2.out (gb_none q3.out.2 q4.out))
  clear HD HD3 q3 q4 H3 HG2
  have HQ4 := hidJ (HQ.out w4)
  clear HQ
  go_wp2_with fail
  refine HQ4.out.mono ?_
  rintro e w5 ⟨rfl, q5⟩
  have HG5 := hidJ (gb_none HG4.out q5.out)
  clear HQ4 HG4 q5
  go_wp2
  go_ret
  exact ⟨rfl, HG5.out⟩
end Go.Proofs.Ytgpednikianneaa
