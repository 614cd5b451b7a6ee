/-
  What is told of a log that is not there: the walks.
-/
import Derived.Test.YtbnieljkadcaoabGreatDoorNfd
namespace Go.Proofs.YtbnieljkadcaoabGreatDoor
open Go.RowKit Go.Shelf Go.Sort

attribute [local go_sem] Oper.semAt_some

def zM : Value := .agg #[.string ⟨#[]⟩, .string ⟨#[]⟩, .int .i64 0, .slice none 0 0, .slice none 0 0]
set_option maxRecDepth 8000 in
set_option maxHeartbeats 1600000 in
theorem find_nil (w : World) (r k : ByteArray) : Calls Tryz.prog 11 #[.pointer none, .string r, .string k] w fun e w' => e = .returned (.tuple #[.agg #[.string ⟨#[]⟩, .string ⟨#[]⟩, .int .i64 0, .slice none 0 0, .slice none 0 0], .bool false]) ∧ w.grownBy w' none := by
  have HB := hidJ (And.intro (B5.new w 24 (.string ⟨#[]⟩) (.string ⟨#[]⟩) (.int .i64 0) (.slice none 0 0) (.slice none 0 0)) (World.grownBy_alloc w (.cells #[.string ⟨#[]⟩, .string ⟨#[]⟩, .int .i64 0, .slice none 0 0, .slice none 0 0] 24) none))
  go_enter Tryz.func11, Tryz.ntmps11
  go_wp2
  obtain ⟨d0, d1, d2, d3, d4⟩ := HB.out.1.cells
  refine bodyPost_ret (v := .tuple #[.agg #[.string ⟨#[]⟩, .string ⟨#[]⟩, .int .i64 0, .slice none 0 0, .slice none 0 0], .bool false]) ?_ rfl ?_
  · simp [results, Tryz.f11, go_sem, d0, d1, d2, d3, d4]
  · exact ⟨rfl, HB.out.2⟩
set_option maxHeartbeats 1600000 in
theorem needs_nil (w : World) (r k : ByteArray) (n p : Int) (fa : Option Addr) (fn fc : Nat) (sa : Option Addr) (sn sc : Nat) : Calls Tryz.prog 12 #[.pointer none, .string r, .string k, .int .i64 n, .int .i64 p, .slice fa fn fc, .slice sa sn sc] w fun e w' => e = .returned (.tuple #[.bool false, .int .i64 2]) ∧ w' = w := by
  go_enter Tryz.func12, Tryz.ntmps12
  go_wp2
  go_ret2
  exact ⟨rfl, rfl⟩
set_option maxHeartbeats 1600000 in
theorem sweep_nil (w : World) (n p : Int) : Calls Tryz.prog 13 #[.pointer none, .int .i64 n, .int .i64 p] w fun e w' => e = .returned (.tuple #[.int .i64 0, .int .i64 2]) ∧ w.grownBy w' none := by
  have HG : Hid (∀ C D, w.grownBy ((w.alloc C).alloc D) none) := fun C D => gb_none (World.grownBy_alloc _ _ none) (World.grownBy_alloc _ _ none)
  go_enter Tryz.func13, Tryz.ntmps13
  go_wp2
  go_ret2
  exact ⟨rfl, HG.out _ _⟩
set_option maxHeartbeats 1600000 in
theorem put_nil (w : World) (r k : ByteArray) (n : Int) (fa : Option Addr) (fn fc : Nat) (sa : Option Addr) (sn sc : Nat) : Calls Tryz.prog 7 #[.pointer none, .agg #[.string r, .string k, .int .i64 n, .slice fa fn fc, .slice sa sn sc]] w fun e w' => e = .returned (.int .i64 2) ∧ w.grownBy w' none := by
  have HG : Hid (∀ C, w.grownBy (w.alloc C) none) := fun C => World.grownBy_alloc _ _ none
  go_enter Tryz.func7, Tryz.ntmps7
  go_wp2
  go_ret
  exact ⟨rfl, HG.out _⟩
set_option maxHeartbeats 1600000 in
theorem sameSets_nil (w : World) : Calls Tryz.prog 38 #[.slice none 0 0, .slice none 0 0] w fun e w' => e = .returned (.bool true) ∧ w' = w := by
  go_enter Tryz.func38, Tryz.ntmps38
  go_wp2
  refine wp_loop_rounds 1 ?_
  rw [rounds_succ]
  go_wp2
  go_ret
  exact ⟨rfl, rfl⟩
set_option maxRecDepth 8000 in
set_option maxHeartbeats 3200000 in
theorem same_zero (w : World) : Calls Tryz.prog 14 #[.agg #[.string ⟨#[]⟩, .string ⟨#[]⟩, .int .i64 0, .slice none 0 0, .slice none 0 0], .agg #[.string ⟨#[]⟩, .string ⟨#[]⟩, .int .i64 0, .slice none 0 0, .slice none 0 0]] w fun e w' => e = .returned (.bool true) ∧ w.grownBy w' none := by
  have HS : Hid (∀ W, Calls Tryz.prog 38 #[.slice none 0 0, .slice none 0 0] W fun e w' => e = .returned (.bool true) ∧ w' = W) := sameSets_nil
  have HG : Hid (∀ C D, w.grownBy ((w.alloc C).alloc D) none) := fun C D => gb_none (World.grownBy_alloc _ _ none) (World.grownBy_alloc _ _ none)
  go_enter Tryz.func14, Tryz.ntmps14
  go_wp2_with (go_at_call 38; refine (HS.out _).mono ?_; rintro e w' ⟨rfl, rfl⟩)
  go_ret
  exact ⟨rfl, HG.out _ _⟩
set_option maxHeartbeats 1600000 in
theorem all_nil (w : World) : Calls Tryz.prog 39 #[.pointer none] w fun e w' => e = .returned (.func (.func 65) #[] #[.pointer (some ⟨w.heap.size, 0, none⟩)]) ∧ w' = w.alloc (.cells #[.slice none 0 0] 29) := by
  go_enter Tryz.func39, Tryz.ntmps39
  go_wp2
  go_ret
  exact ⟨rfl, rfl⟩
set_option maxRecDepth 100000 in
set_option maxHeartbeats 3200000 in
theorem all1_nil (n lp c : Nat) (W : World) (hc : W.cell? ⟨c, 0, none⟩ = some (.slice none 0 0)) :
    CallsIn Fence.wide n Tryz.prog 65 (#[.func (.yield lp) #[] #[]] ++ #[.pointer (some ⟨c, 0, none⟩)]) W fun e W' => (∃ x, e = .returned x) ∧ W' = W := by
  refine callsIn_of_wp Tryz.func65 rfl trivial ?_ rfl
  simp only [Tryz.ntmps65, List.size_toArray, List.length_cons, List.length_nil, Nat.reduceAdd, Nat.reduceSub, Array.replicate_succ, Array.replicate_zero, List.push_toArray, List.append_toArray, List.nil_append, List.cons_append]
  gi_wp2
  clear hc
  gi_loopw [7] (fun i wr => i = .int .i64 0 ∧ Hid (wr = W)) (fun i _ => 0)
  case atStart => exact ⟨rfl, rfl⟩
  case round =>
    obtain ⟨rfl, HI⟩ := hrel
    gi_wp2
    first
      | (refine bodyPost_ret (results_none rfl _ _ _) rfl ?_
         exact ⟨⟨_, rfl⟩, HI.out⟩)
      | (go_end0
         exact ⟨⟨_, rfl⟩, HI.out⟩)
set_option maxRecDepth 100000 in
set_option maxHeartbeats 6400000 in
theorem every_in (n : Nat) (hn : 8 ≤ n) (w : World) (most : Int) : CallsIn Fence.wide n Tryz.prog 15 #[.pointer none, .int .i64 most] w fun e w' => e = .returned (.slice none 0 0) ∧ w.grownBy w' none := by
  have h1 : 1 ≤ n := by omega
  have HA : Hid (∀ W, Calls Tryz.prog 39 #[.pointer none] W fun e w' => e = .returned (.func (.func 65) #[] #[.pointer (some ⟨W.heap.size, 0, none⟩)]) ∧ w' = W.alloc (.cells #[.slice none 0 0] 29)) := all_nil
  have hnf : ∀ (lb : Array Value) (W : World), (binOp .eql 79 (.func (.func 65) #[] lb) .nilFunc).run Tryz.prog W = .ok (.bool false) W := fun _ _ => rfl
  refine callsIn_of_wp_marks Tryz.func15 rfl trivial ?_ rfl
  simp only [Tryz.ntmps15, List.size_toArray, List.length_cons, List.length_nil, Nat.reduceAdd, Nat.reduceSub, Array.replicate_succ, Array.replicate_zero, List.push_toArray, List.append_toArray, List.nil_append, List.cons_append]
  gi_wp2_with fail
  refine ⟨trivial, ?_⟩
  gi_at_call 39
  refine (callsIn_wide.2 (HA.out _)).mono ?_
  rintro e W0 ⟨rfl, hW0⟩
  clear HA
  have k1 := World.grownBy_alloc w (.cells #[.int .i64 most] 3) none
  have k2 := World.grownBy_alloc (w.alloc (.cells #[.int .i64 most] 3)) (.cells #[.slice none 0 0] 29) none
  have k3 := World.grownBy_alloc ((w.alloc (.cells #[.int .i64 most] 3)).alloc (.cells #[.slice none 0 0] 29)) (.cells #[.slice none 0 0] 29) none
  have x1 := (Boxed.new (w.alloc (.cells #[.int .i64 most] 3)) 29 (.slice none 0 0)).kept k3 (by simp)
  have x2 := (Boxed.new ((w.alloc (.cells #[.int .i64 most] 3)).alloc (.cells #[.slice none 0 0] 29)) 29 (.slice none 0 0))
  rw [← hW0] at x1 x2
  have H0 : Hid (w.grownBy W0 none ∧ W0.cell? ⟨w.heap.size + 1, 0, none⟩ = some (.slice none 0 0) ∧ W0.cell? ⟨w.heap.size + 2, 0, none⟩ = some (.slice none 0 0) ∧ W0.heap.size = w.heap.size + 3) := by
    have e1 := x1.cell
    have e2 := x2.cell
    simp only [World.size_alloc] at e1 e2
    exact ⟨by rw [hW0]; exact gb_none (gb_none k1 k2) k3, e1, e2, by rw [hW0]; simp⟩
  clear k1 k2 k3 x1 x2 hW0
  simp only [World.size_alloc]
  gi_wp2_with fail
  refine range_br (k := 0) rfl h1 (gf := 65) (lb := #[.pointer (some ⟨w.heap.size + 2, 0, none⟩)]) rfl trivial (enters_of Tryz.func65 (by kernel_rfl) rfl) ?_
  intro rc hfn hrd hpe hps htm has hbo
  have q1 := World.grownBy_alloc W0 (.deferred (some [])) none
  have q2 := World.grownBy_alloc (W0.alloc (.deferred (some []))) (.loop rc) none
  have e1 := World.alloc_heap_new W0 (.deferred (some []))
  have e2 := World.alloc_heap_new (W0.alloc (.deferred (some []))) (.loop rc)
  rw [World.size_alloc] at e2
  have e1' := (q2.block _ (by simp) (by simp)).trans e1
  have hg := gb_none q1 q2
  refine CallsIn.mono (all1_nil _ _ _ _ ((World.cell?_of_block (hg.block _ (block_lt H0.out.2.2.1) (by simp))).trans H0.out.2.2.1)) ?_
  rintro e W' ⟨hx, rfl⟩
  refine ⟨hx, .inl ⟨e2, ?_⟩⟩
  have hc := putRec_ch ((W0.alloc (.deferred (some []))).alloc (.loop rc)) (W0.heap.size + 1) (.loop { rc with state := .exhausted })
  have hd := (hc.block (some_lt e1') (by omega)).trans e1'
  have hcell : (((W0.alloc (.deferred (some []))).alloc (.loop rc)).putObj (W0.heap.size + 1) (.loop { rc with state := .exhausted })).cell? ⟨w.heap.size + 1, 0, none⟩ = some (.slice none 0 0) := by
    have hb := block_lt H0.out.2.1
    exact (World.cell?_of_block ((hc.block (Nat.lt_of_lt_of_le hb hg.size) (by have := H0.out.2.2.2; omega)).trans (hg.block _ hb (by simp)))).trans H0.out.2.1
  have hgw := gb_ch (gb_none H0.out.1 hg) hc (fun k e => by have := H0.out.2.2.2; omega)
  have hz : w.heap.size < W0.heap.size := by have := H0.out.2.2.2; omega
  clear has hbo hps htm hrd hpe hfn e1 e2 e1' q1 q2 hg hc hx
  generalize ((W0.alloc (.deferred (some []))).alloc (.loop rc)).putObj (W0.heap.size + 1) (.loop { rc with state := .exhausted }) = W7 at *
  have HZ := hidJ (And.intro hd (gb_ch hgw (putRec_ch W7 W0.heap.size (.deferred none)) (fun k e => by omega)))
  clear hd hgw
  gi_wp2
  refine ⟨by simp, .inl ⟨_, _, rfl, run_takeDeferred HZ.out.1, ?_⟩⟩
  refine ⟨_, results_tmp rfl _ _ _, ?_⟩
  exact ⟨rfl, HZ.out.2⟩
theorem every_nil (w : World) (most : Int) : Calls Tryz.prog 15 #[.pointer none, .int .i64 most] w fun e w' => e = .returned (.slice none 0 0) ∧ w.grownBy w' none := callsIn_wide.1 (every_in 8 (by omega) w most)
set_option maxRecDepth 100000 in
set_option maxHeartbeats 6400000 in
theorem records_in (n : Nat) (hn : 8 ≤ n) (w : World) : CallsIn Fence.wide n Tryz.prog 16 #[.pointer none] w fun e w' => e = .returned (.slice none 0 0) ∧ w.grownBy w' none := by
  have h1 : 1 ≤ n := by omega
  have HA : Hid (∀ W, Calls Tryz.prog 39 #[.pointer none] W fun e w' => e = .returned (.func (.func 65) #[] #[.pointer (some ⟨W.heap.size, 0, none⟩)]) ∧ w' = W.alloc (.cells #[.slice none 0 0] 29)) := all_nil
  refine callsIn_of_wp_marks Tryz.func16 rfl trivial ?_ rfl
  simp only [Tryz.ntmps16, List.size_toArray, List.length_cons, List.length_nil, Nat.reduceAdd, Nat.reduceSub, Array.replicate_succ, Array.replicate_zero, List.push_toArray, List.append_toArray, List.nil_append, List.cons_append]
  gi_wp2_with fail
  refine ⟨trivial, ?_⟩
  gi_at_call 39
  refine (callsIn_wide.2 (HA.out _)).mono ?_
  rintro e W0 ⟨rfl, hW0⟩
  clear HA
  have k1 := World.grownBy_alloc w (.cells #[.slice none 0 0] 50) none
  have k2 := World.grownBy_alloc (w.alloc (.cells #[.slice none 0 0] 50)) (.cells #[.slice none 0 0] 29) none
  have x1 := (Boxed.new w 50 (.slice none 0 0)).kept k2 (by simp)
  have x2 := Boxed.new (w.alloc (.cells #[.slice none 0 0] 50)) 29 (.slice none 0 0)
  rw [← hW0] at x1 x2
  have H0 : Hid (w.grownBy W0 none ∧ W0.cell? ⟨w.heap.size, 0, none⟩ = some (.slice none 0 0) ∧ W0.cell? ⟨w.heap.size + 1, 0, none⟩ = some (.slice none 0 0) ∧ W0.heap.size = w.heap.size + 2) := by
    have e1 := x1.cell
    have e2 := x2.cell
    simp only [World.size_alloc] at e2
    exact ⟨by rw [hW0]; exact gb_none k1 k2, e1, e2, by rw [hW0]; simp⟩
  clear k1 k2 x1 x2 hW0
  simp only [World.size_alloc]
  gi_wp2_with fail
  refine range_br (k := 0) rfl h1 (gf := 65) (lb := #[.pointer (some ⟨w.heap.size + 1, 0, none⟩)]) rfl trivial (enters_of Tryz.func65 (by kernel_rfl) rfl) ?_
  intro rc hfn hrd hpe hps htm has hbo
  have q1 := World.grownBy_alloc W0 (.deferred (some [])) none
  have q2 := World.grownBy_alloc (W0.alloc (.deferred (some []))) (.loop rc) none
  have e1 := World.alloc_heap_new W0 (.deferred (some []))
  have e2 := World.alloc_heap_new (W0.alloc (.deferred (some []))) (.loop rc)
  rw [World.size_alloc] at e2
  have e1' := (q2.block _ (by simp) (by simp)).trans e1
  have hg := gb_none q1 q2
  refine CallsIn.mono (all1_nil _ _ _ _ ((World.cell?_of_block (hg.block _ (block_lt H0.out.2.2.1) (by simp))).trans H0.out.2.2.1)) ?_
  rintro e W' ⟨hx, rfl⟩
  refine ⟨hx, .inl ⟨e2, ?_⟩⟩
  have hc := putRec_ch ((W0.alloc (.deferred (some []))).alloc (.loop rc)) (W0.heap.size + 1) (.loop { rc with state := .exhausted })
  have hd := (hc.block (some_lt e1') (by omega)).trans e1'
  have hcell : (((W0.alloc (.deferred (some []))).alloc (.loop rc)).putObj (W0.heap.size + 1) (.loop { rc with state := .exhausted })).cell? ⟨w.heap.size, 0, none⟩ = some (.slice none 0 0) := by
    have hb := block_lt H0.out.2.1
    exact (World.cell?_of_block ((hc.block (Nat.lt_of_lt_of_le hb hg.size) (by have := H0.out.2.2.2; omega)).trans (hg.block _ hb (by simp)))).trans H0.out.2.1
  have hgw := gb_ch (gb_none H0.out.1 hg) hc (fun k e => by have := H0.out.2.2.2; omega)
  have hz : w.heap.size < W0.heap.size := by have := H0.out.2.2.2; omega
  clear has hbo hps htm hrd hpe hfn e1 e2 e1' q1 q2 hg hc hx
  generalize ((W0.alloc (.deferred (some []))).alloc (.loop rc)).putObj (W0.heap.size + 1) (.loop { rc with state := .exhausted }) = W7 at *
  have HZ := hidJ (And.intro hd (gb_ch hgw (putRec_ch W7 W0.heap.size (.deferred none)) (fun k e => by omega)))
  clear hd hgw
  gi_wp2
  refine ⟨by simp, .inl ⟨_, _, rfl, run_takeDeferred HZ.out.1, ?_⟩⟩
  refine ⟨_, results_tmp rfl _ _ _, ?_⟩
  exact ⟨rfl, HZ.out.2⟩
theorem records_nil (w : World) : Calls Tryz.prog 16 #[.pointer none] w fun e w' => e = .returned (.slice none 0 0) ∧ w.grownBy w' none := callsIn_wide.1 (records_in 8 (by omega) w)
end Go.Proofs.YtbnieljkadcaoabGreatDoor
