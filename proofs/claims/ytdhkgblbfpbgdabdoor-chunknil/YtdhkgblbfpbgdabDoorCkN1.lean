/-
  A chunk that is not there: what told, All and every come to: the walks.
-/
import Derived.Test.YtdhkgblbfpbgdabDoorCk5
import Derived.RangeFuncNested
import Derived.RangeFuncBound
import Derived.RangeFuncCalls
import Derived.RangeFuncLeaves
import Derived.Shelf.Abstract
import Derived.OwnWalkIn
import Derived.TacticsInMore
import Derived.LoopNIn
import Derived.LoopIn
namespace Go.Proofs.YtdhkgblbfpbgdabDoor
open Go.RowKit Go.Shelf

attribute [local go_sem] Oper.semAt_some

set_option maxRecDepth 100000 in
set_option maxHeartbeats 1000000 in
/-- of no bytes: one fault is told -/
theorem told1_stops (F : Fence) (n : Nat) (h6 : F.fn 33) (hro : F.round = none) (hn : 1 ≤ n) (Bn n₀ : Nat) (w : World) (hBn : Bn < w.heap.size)
    (hc : w.cell? ⟨Bn, 0, none⟩ = some (.slice none 0 0)) :
    SeqStopsK F n Tryd.prog 33 #[.pointer (some ⟨Bn, 0, none⟩)] (fun _ : Unit => #[Value.agg #[.int .i64 0, .float .f64 0], .int .i64 3]) (Below n₀) (fun ys => ys = [()]) (fun pre => pre = [()]) 1 w := by
  intro l J Jx W hW _ _ hY h0
  have hc2 : W.cell? ⟨Bn, 0, none⟩ = some (.slice none 0 0) := (hW.cell (p := ⟨Bn, 0, none⟩) hBn).trans hc
  obtain ⟨fn, tmps, assign, body, hy, hR⟩ := hY [] () W h0 (by simp)
  refine callsIn_of_wp Tryd.func33 rfl h6 ?_ hro
  simp only [Tryd.ntmps33, List.size_toArray, List.length_cons, List.length_nil, Nat.reduceAdd, Nat.reduceSub, Array.replicate_succ, Array.replicate_zero, List.push_toArray, List.append_toArray, List.nil_append, List.cons_append]
  gi_wp2
  refine hR.mono ?_
  rintro e W3 (⟨rfl, hJ3, -⟩ | ⟨rfl, hJx3⟩)
  · gi_wp2
    refine bodyPost_ret (results_none rfl _ _ _) rfl ?_
    exact ⟨⟨_, rfl⟩, .inl ⟨[()], rfl, hJ3⟩⟩
  · gi_wp2
    refine bodyPost_ret (results_none rfl _ _ _) rfl ?_
    exact ⟨⟨_, rfl⟩, .inr ⟨[()], rfl, hJx3⟩⟩

set_option maxHeartbeats 1000000 in
theorem told_in (F : Fence) (n : Nat) (h5 : F.fn 23) (hro : F.round = none) (v : Value) (w : World) (hv : v = .slice none 0 0) :
    CallsIn F n Tryd.prog 23 #[v] w fun e w' => e = .returned (.func (.func 33) #[] #[.pointer (some ⟨w.heap.size, 0, none⟩)]) ∧ w' = w.alloc (.cells #[v] 31) := by
  subst hv
  refine callsIn_of_wp Tryd.func23 rfl h5 ?_ hro
  simp only [Tryd.ntmps23, List.size_toArray, List.length_cons, List.length_nil, Nat.reduceAdd, Nat.reduceSub, Array.replicate_succ, Array.replicate_zero, List.push_toArray, List.append_toArray, List.nil_append, List.cons_append]
  gi_wp2
  go_ret
  exact ⟨rfl, rfl⟩

set_option maxRecDepth 100000 in
set_option maxHeartbeats 1000000 in
/-- of no bytes: nothing comes -/
theorem all1_stops (F : Fence) (n : Nat) (hF1 : F.fn 22) (hF2 : F.fn 23) (hF3 : F.fn 33) (hro : F.round = none) (hn : 6 ≤ n) (Bn n₀ : Nat) (w : World) (hBn : Bn < w.heap.size)
    (hc : w.cell? ⟨Bn, 0, none⟩ = some (.slice none 0 0)) :
    SeqStopsK F n Tryd.prog 22 #[.pointer (some ⟨Bn, 0, none⟩)] (fun x : Empty => (x.elim : Array Value)) (Below n₀) (fun ys => ys = []) (fun _ => False) 0 w := by
  intro l J Jx W hW hJ _ _ h0
  have h1 : 1 ≤ n := by omega
  have hc2 : W.cell? ⟨Bn, 0, none⟩ = some (.slice none 0 0) := (hW.cell (p := ⟨Bn, 0, none⟩) hBn).trans hc
  have hlt : Bn < W.heap.size := Nat.lt_of_lt_of_le hBn hW.size
  refine callsIn_of_wp_marks Tryd.func22 rfl hF1 ?_ hro
  simp only [Tryd.ntmps22, List.size_toArray, List.length_cons, List.length_nil, Nat.reduceAdd, Nat.reduceSub, Array.replicate_succ, Array.replicate_zero, List.push_toArray, List.append_toArray, List.nil_append, List.cons_append]
  gi_wp2_with (gi_at_call 23; refine (told_in F (n - 1) hF2 hro _ _ rfl).mono ?_; rintro e w' ⟨rfl, rfl⟩)
  have bN := Boxed.new (W.alloc (.cells #[.func (.yield l) #[] #[]] 36)) 31 (.slice none 0 0)
  simp only [World.size_alloc] at bN
  have hB0 : Below W.heap.size W ((W.alloc (.cells #[.func (.yield l) #[] #[]] 36)).alloc (.cells #[.slice none 0 0] 31)) := ((Below.refl _ W).alloc (Nat.le_refl _) _).alloc (by simp) _
  have hsz : ((W.alloc (.cells #[.func (.yield l) #[] #[]] 36)).alloc (.cells #[.slice none 0 0] 31)).heap.size = W.heap.size + 2 := by simp
  obtain ⟨W0, hW0⟩ : ∃ W0, (W.alloc (.cells #[.func (.yield l) #[] #[]] 36)).alloc (.cells #[.slice none 0 0] 31) = W0 := ⟨_, rfl⟩
  rw [hW0] at bN hB0 hsz ⊢
  clear hW0
  have hsf := store_float
  refine wpIn_rangeFunc_ownH hro h1 (gf := 33) (lb := #[.pointer (some ⟨W.heap.size + 1, 0, none⟩)]) rfl hF3 (enters_of Tryd.func33 (by kernel_rfl) rfl)
    (told1_stops F (n - 1) hF3 hro (by omega) (W.heap.size + 1) W.heap.size W0 (by omega) bN.cell) belowK_t (belowK_b (by omega)) (Below.refl _ _) (fun _ => rfl)
    (fun pre W' => pre = [] ∧ Below W.heap.size W W')
    (fun c _ W' => c = .ret ∧ Below W.heap.size W W')
    (OwnFrom.and (ownFrom_pure _ (fun pre => pre = [])) (ownFrom_below (Nat.le_refl _) (by omega)))
    (fun c => OwnFrom.and (ownFrom_pure _ (fun _ => c = .ret)) (ownFrom_below (Nat.le_refl _) (by omega)))
    ⟨rfl, hB0⟩
    (fun _ a' _ => ∃ Bx, a' = { tmps := #[.func (.yield l) #[] #[], .pointer (some ⟨Bn, 0, none⟩), .pointer (some ⟨W.heap.size, 0, none⟩), .pointer (some ⟨Bx, 0, none⟩), .int .i64 3, .slice none 0 0, .func (.func 33) #[] #[.pointer (some ⟨W.heap.size + 1, 0, none⟩)], .agg #[.int .i64 0, .float .f64 0], .int .i64 3, undef, undef, undef, undef, undef, undef, undef, undef, undef, undef, undef], defers := [] })
    (fun _ _ _ _ _ _ hs _ _ => hs)
    ?assign ?body ?done ?stop
  case assign =>
    rintro l2 pre x W' K ⟨hp, hB1⟩ hK
    gi_wp2
    exact hK _ _ ((KeepsOthers.alloc _ _).from _) ((Below.refl _ W').alloc hB1.size _) ⟨hp, hB1.alloc hB1.size _⟩ ⟨W'.heap.size, rfl⟩
  case body =>
    rintro l2 pre x a' W' hl ⟨r, hr⟩ ⟨hp, hB1⟩ ⟨Bx, rfl⟩ hlt2
    gi_wp2
    refine ⟨fun _ h => (by cases h), ?_⟩
    gi_wp2
    exact ⟨KeepsFrom.refl _ _, rfl, hB1⟩
  case done =>
    rintro D ys W' hD rfl ⟨h, -⟩ hK
    cases h
  case stop =>
    rintro D c pre W' hD hpre ⟨rfl, hB1⟩ hK
    gi_wp2
    refine ⟨by simp, .inl ⟨_, _, rfl, run_takeDeferred hK, ?_⟩⟩
    have hB2 := hB1.trans (belowK_b (w := W) (Nat.le_refl _) W' D _ (.deferred none) (by omega) hK rfl rfl)
    refine ⟨_, results_none rfl _ _ _, ⟨_, rfl⟩, .inl ⟨[], rfl, hJ [] W _ none h0 (gb_of_below hB2) (fun r e => by cases e)⟩⟩

/-! ### what a chunk that is not there answers -/
theorem nilBytes_any (w : World) : Calls Tryd.prog 7 #[.pointer none] w fun e w' => e = .returned (.slice none 0 0) ∧ w' = w := by
  go_enter Tryd.func7, Tryd.ntmps7
  go_wp2
  go_ret
  exact ⟨rfl, rfl⟩
theorem nilLen_any (w : World) : Calls Tryd.prog 6 #[.pointer none] w fun e w' => e = .returned (.int .i64 0) ∧ w' = w := by
  go_enter Tryd.func6, Tryd.ntmps6
  go_wp2
  go_ret
  exact ⟨rfl, rfl⟩
theorem nilAppend_any (t : Int) (f : Nat) (w : World) : Calls Tryd.prog 5 #[.pointer none, .int .i64 t, .float .f64 f] w fun e w' => e = .returned (.int .i64 2) ∧ w' = w := by
  go_enter Tryd.func5, Tryd.ntmps5
  go_wp2
  go_ret
  exact ⟨rfl, rfl⟩
theorem nilLast_any (w : World) : Calls Tryd.prog 4 #[.pointer none] w fun e w' => e = .returned (.tuple #[.agg #[.int .i64 0, .float .f64 0], .bool false]) ∧ w.grownBy w' none := by
  have hsf := store_float
  go_enter Tryd.func4, Tryd.ntmps4
  go_wp2_with fail
  refine (nilLen_any _).mono ?_
  rintro e w1 ⟨rfl, rfl⟩
  go_wp2
  have hb := Go.heap_alloc_new w (.cells #[.int .i64 0, .float .f64 0] 25)
  have c0 : (w.alloc (.cells #[.int .i64 0, .float .f64 0] 25)).cell? ⟨w.heap.size, 0, none⟩ = some (.int .i64 0) := by simp only [World.cell?, hb]; rfl
  have c1 : (w.alloc (.cells #[.int .i64 0, .float .f64 0] 25)).cell? ⟨w.heap.size, 1, none⟩ = some (.float .f64 0) := by simp only [World.cell?, hb]; rfl
  have hg : w.grownBy (w.alloc (.cells #[.int .i64 0, .float .f64 0] 25)) none := alloc_gb _ _
  generalize w.alloc (.cells #[.int .i64 0, .float .f64 0] 25) = W1 at *
  refine bodyPost_ret (v := .tuple #[.agg #[.int .i64 0, .float .f64 0], .bool false]) ?_ rfl ?_
  · simp [results, Tryd.f4, go_sem, c0, c1]
  · exact ⟨rfl, hg⟩
theorem nilAll_any (w : World) : Calls Tryd.prog 12 #[.pointer none] w fun e w' => e = .returned (.func (.func 22) #[] #[.pointer (some ⟨w.heap.size, 0, none⟩)]) ∧ w' = w.alloc (.cells #[.slice none 0 0] 31) := by
  go_enter Tryd.func12, Tryd.ntmps12
  go_wp2_with fail
  refine (nilBytes_any _).mono ?_
  rintro e w1 ⟨rfl, rfl⟩
  go_wp2
  go_ret
  exact ⟨rfl, rfl⟩

set_option maxRecDepth 100000 in
set_option maxHeartbeats 1000000 in
theorem every_in (n : Nat) (hn : 12 ≤ n) (w : World) :
    CallsIn Fence.wide n Tryd.prog 8 #[.pointer none, .int .i64 1] w fun e w' => e = .returned (.slice none 0 0) ∧ Below w.heap.size w w' := by
  have h1 : 1 ≤ n := by omega
  have hnf : ∀ (lb : Array Value) (W : World), (binOp .eql 48 (.func (.func 22) #[] lb) .nilFunc).run Tryd.prog W = .ok (.bool false) W := fun _ _ => rfl
  refine callsIn_of_wp_marks Tryd.func8 rfl trivial ?_ rfl
  simp only [Tryd.ntmps8, List.size_toArray, List.length_cons, List.length_nil, Nat.reduceAdd, Nat.reduceSub, Array.replicate_succ, Array.replicate_zero, List.push_toArray, List.append_toArray, List.nil_append, List.cons_append]
  gi_wp2_with (refine ⟨trivial, ?_⟩; gi_at_call 12; refine (callsIn_wide.2 (nilAll_any _)).mono ?_; rintro e w' ⟨rfl, rfl⟩)
  have bL := (Boxed.new (w.alloc (.cells #[.int .i64 1] 3)) 33 (.slice none 0 0)).alloc (.cells #[.slice none 0 0] 31)
  have bN := Boxed.new ((w.alloc (.cells #[.int .i64 1] 3)).alloc (.cells #[.slice none 0 0] 33)) 31 (.slice none 0 0)
  simp only [World.size_alloc] at bL bN
  have hB0 : Below w.heap.size w (((w.alloc (.cells #[.int .i64 1] 3)).alloc (.cells #[.slice none 0 0] 33)).alloc (.cells #[.slice none 0 0] 31)) := (((Below.refl _ w).alloc (Nat.le_refl _) _).alloc (by simp) _).alloc (by simp; omega) _
  have hsz : (((w.alloc (.cells #[.int .i64 1] 3)).alloc (.cells #[.slice none 0 0] 33)).alloc (.cells #[.slice none 0 0] 31)).heap.size = w.heap.size + 3 := by simp
  obtain ⟨W0, hW0⟩ : ∃ W0, ((w.alloc (.cells #[.int .i64 1] 3)).alloc (.cells #[.slice none 0 0] 33)).alloc (.cells #[.slice none 0 0] 31) = W0 := ⟨_, rfl⟩
  rw [hW0] at bL bN hB0 hsz ⊢
  clear hW0
  refine wpIn_rangeFunc_ownH (α := Empty) rfl h1 (gf := 22) (lb := #[.pointer (some ⟨w.heap.size + 1 + 1, 0, none⟩)]) rfl trivial (enters_of Tryd.func22 (by kernel_rfl) rfl)
    (all1_stops Fence.wide (n - 1) trivial trivial trivial rfl (by omega) (w.heap.size + 1 + 1) w.heap.size W0 (by omega) bN.cell) belowK_t (belowK_b (by omega)) (Below.refl _ _) (fun x => x.elim)
    (fun _ W' => Boxed W' (w.heap.size + 1) 33 (.slice none 0 0) ∧ Below w.heap.size w W')
    (fun _ _ _ => False)
    (OwnFrom.and (Own.from (boxed_own _ _ (fun _ => Value.slice none 0 0)) _) (ownFrom_below (Nat.le_refl _) (by omega)))
    (fun _ _ _ _ _ hs _ _ => hs)
    ⟨bL, hB0⟩
    (fun x _ _ => x.elim)
    (fun x => x.elim)
    ?assign ?body ?done ?stop
  case assign => exact fun _ _ x => x.elim
  case body => exact fun _ _ x => x.elim
  case done =>
    rintro D ys W' hD rfl ⟨bL1, hB1⟩ hK
    have cL := bL1.cell
    gi_wp2
    refine ⟨by simp, .inl ⟨_, _, rfl, run_takeDeferred hK, ?_⟩⟩
    exact ⟨_, results_tmp rfl _ _ _, rfl, hB1.trans (belowK_b (w := w) (Nat.le_refl _) W' D _ _ (by omega) hK rfl rfl)⟩
  case stop =>
    rintro D c pre W' _ _ h _
    exact h.elim
end Go.Proofs.YtdhkgblbfpbgdabDoor
