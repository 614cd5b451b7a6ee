/-
  A numbering that is not there: what the law's own told comes to: the walk.
-/
import Derived.Test.YtknlnllcpdiglabGreatDoorLbI1
import Derived.Laws.Rows
namespace Go.Proofs.YtknlnllcpdiglabGreatDoor
open Go.RowKit Go.Shelf

attribute [local go_sem] Oper.semAt_some

set_option maxRecDepth 100000 in
set_option maxHeartbeats 2000000 in
theorem told_in (n : Nat) (hn : 12 ≤ n) (w : World) (rb : Nat) (hrb : w.heap[rb]? = some (.cells #[.slice none 0 0, .int .i64 0] 28 (0, 0))) :
    CallsIn Fence.wide n Tryz.prog 8 #[.pointer none, .pointer (some ⟨rb, 0, none⟩)] w fun e w' => e = .returned (.bool true) ∧ Below w.heap.size w w' := by
  have h1 : 1 ≤ n := by omega
  have HRW : Hid (w.cell? ⟨rb, 0, none⟩ = some (.slice none 0 0)) := (by rw [World.cell?, hrb]; rfl : w.cell? ⟨rb, 0, none⟩ = some (.slice none 0 0))
  have hlt : rb < w.heap.size := (Array.getElem?_eq_some_iff.1 hrb).1
  have hnf : ∀ (lb : Array Value) (W : World), (binOp .eql 56 (.func (.func 38) #[] lb) .nilFunc).run Tryz.prog W = .ok (.bool false) W := fun _ _ => rfl
  refine callsIn_of_wp_marks Tryz.func8 rfl trivial ?_ rfl
  simp only [Tryz.ntmps8, List.size_toArray, List.length_cons, List.length_nil, Nat.reduceAdd, Nat.reduceSub, Array.replicate_succ, Array.replicate_zero, List.push_toArray, List.append_toArray, List.nil_append, List.cons_append]
  gi_wp2_with (refine ⟨trivial, ?_⟩; gi_at_call 23; refine (callsIn_wide.2 (nilAll_any _)).mono ?_; rintro e w' ⟨rfl, rfl⟩)
  have hB0 : Below w.heap.size w ((((w.alloc (.cells #[.pointer (some ⟨rb, 0, none⟩)] 25)).alloc (.cells #[.bool false] 4)).alloc (.cells #[.slice none 0 0] 71)).alloc (.cells #[.slice none 0 0] 76)) := ((((Below.refl _ w).alloc (Nat.le_refl _) _).alloc (by simp) _).alloc (by simp; omega) _).alloc (by simp; omega) _
  have bR := ((Boxed.new w 25 (.pointer (some ⟨rb, 0, none⟩))).alloc (.cells #[.bool false] 4)).alloc (.cells #[.slice none 0 0] 71) |>.alloc (.cells #[.slice none 0 0] 76)
  have bO := ((Boxed.new (w.alloc (.cells #[.pointer (some ⟨rb, 0, none⟩)] 25)) 4 (.bool false)).alloc (.cells #[.slice none 0 0] 71)).alloc (.cells #[.slice none 0 0] 76)
  have bN := (Boxed.new ((w.alloc (.cells #[.pointer (some ⟨rb, 0, none⟩)] 25)).alloc (.cells #[.bool false] 4)) 71 (.slice none 0 0)).alloc (.cells #[.slice none 0 0] 76)
  have hsz : ((((w.alloc (.cells #[.pointer (some ⟨rb, 0, none⟩)] 25)).alloc (.cells #[.bool false] 4)).alloc (.cells #[.slice none 0 0] 71)).alloc (.cells #[.slice none 0 0] 76)).heap.size = w.heap.size + 4 := by simp
  simp only [World.size_alloc] at bR bO bN
  have hrc : ((((w.alloc (.cells #[.pointer (some ⟨rb, 0, none⟩)] 25)).alloc (.cells #[.bool false] 4)).alloc (.cells #[.slice none 0 0] 71)).alloc (.cells #[.slice none 0 0] 76)).cell? ⟨rb, 0, none⟩ = some (.slice none 0 0) := (hB0.cell (p := ⟨rb, 0, none⟩) hlt).trans (by rw [World.cell?, hrb]; rfl)
  generalize (((w.alloc (.cells #[.pointer (some ⟨rb, 0, none⟩)] 25)).alloc (.cells #[.bool false] 4)).alloc (.cells #[.slice none 0 0] 71)).alloc (.cells #[.slice none 0 0] 76) = W4 at *
  have cR := bR.cell
  have HB : Hid (Below w.heap.size w W4 ∧ Boxed W4 (w.heap.size + 1) 4 (.bool false) ∧ Boxed W4 (w.heap.size + 1 + 1) 71 (.slice none 0 0) ∧ Boxed W4 w.heap.size 25 (.pointer (some ⟨rb, 0, none⟩)) ∧ W4.heap.size = w.heap.size + 4) := ⟨hB0, bO, bN, bR, hsz⟩
  have HRB : Hid (rb < w.heap.size ∧ W4.cell? ⟨rb, 0, none⟩ = some (.slice none 0 0)) := ⟨hlt, hrc⟩
  clear hB0 bR bO bN hsz hrb hlt
  generalize hb1 : w.heap.size + 1 = b1 at *
  generalize hb2 : b1 + 1 = b2 at *
  generalize hb3 : b2 + 1 = b3 at *
  generalize hb0 : w.heap.size = b0 at *
  have HBS : Hid (w.heap.size = b0 ∧ b0 + 1 = b1 ∧ b1 + 1 = b2 ∧ b2 + 1 = b3) := ⟨hb0, hb1, hb2, hb3⟩
  clear hb0 hb1 hb2 hb3
  refine wpIn_wide.2 ?_
  go_region_held3 (fun w' => w'.cell? ⟨b0, 0, none⟩ = some (.pointer (some ⟨rb, 0, none⟩)) ∧ w'.cell? ⟨rb, 0, none⟩ = some (.slice none 0 0)) (go_keep)
    (first | (go_at_call 24; with_reducible refine (nilLen_any _).mono ?_; rintro e w' ⟨rfl, rfl⟩))
  have HB2 : Hid (Below b0 w W4.drew ∧ Boxed W4.drew b1 4 (.bool false) ∧ Boxed W4.drew b2 71 (.slice none 0 0) ∧ Boxed W4.drew b0 25 (.pointer (some ⟨rb, 0, none⟩)) ∧ W4.drew.heap.size = b0 + 4 ∧ W4.drew.cell? ⟨rb, 0, none⟩ = some (.slice none 0 0)) := by
    obtain ⟨h1, h2, h3, h4, h5⟩ := HB.out
    exact ⟨⟨h1.os, h1.tape, h1.output, h1.size, h1.block⟩, h2, h3, h4, h5, HRB.out.2⟩
  generalize W4.drew = W5 at *
  gi_wp2
  have H6 : Hid (Below b0 w (W5.alloc (.cells #[.int .i64 0] 3)) ∧ Boxed (W5.alloc (.cells #[.int .i64 0] 3)) b1 4 (.bool false) ∧ Boxed (W5.alloc (.cells #[.int .i64 0] 3)) b2 71 (.slice none 0 0) ∧ Boxed (W5.alloc (.cells #[.int .i64 0] 3)) b0 25 (.pointer (some ⟨rb, 0, none⟩)) ∧ Boxed (W5.alloc (.cells #[.int .i64 0] 3)) W5.heap.size 3 (.int .i64 0) ∧ (W5.alloc (.cells #[.int .i64 0] 3)).heap.size = b0 + 5 ∧ W5.heap.size = b0 + 4) := by
    obtain ⟨h1, h2, h3, h4, h5, h6⟩ := HB2.out
    exact ⟨h1.alloc (by have := h1.size; have := HBS.out.1; omega) _, h2.alloc _, h3.alloc _, h4.alloc _, Boxed.new _ _ _, by simp [h5], h5⟩
  generalize W5.alloc (.cells #[.int .i64 0] 3) = W6 at *
  generalize W5.heap.size = b4 at *
  obtain ⟨g1, g2, g3, g4, g5, g6, g7⟩ := H6.out
  obtain ⟨s0, s1, s2, s3⟩ := HBS.out
  clear H6 HB2 HB cR
  refine wpIn_rangeFunc_ownH (α := Empty) rfl h1 (gf := 38) (lb := #[.pointer (some ⟨b2, 0, none⟩), .pointer (some ⟨b3, 0, none⟩)]) rfl trivial (enters_of Tryz.func38 (by kernel_rfl) rfl)
    (all1_stops Fence.wide (n - 1) trivial rfl b2 b3 b0 W6 (by omega) g3.cell) belowK_t (belowK_b (by omega)) (Below.refl _ _) (fun x => x.elim)
    (fun _ W' => (Boxed W' b1 4 (.bool false) ∧ Boxed W' b0 25 (.pointer (some ⟨rb, 0, none⟩)) ∧ Boxed W' b4 3 (.int .i64 0)) ∧ Below b0 w W')
    (fun _ _ _ => False)
    (OwnFrom.and (OwnFrom.and (Own.from (boxed_own _ _ (fun _ => Value.bool false)) _) (OwnFrom.and (Own.from (boxed_own _ _ (fun _ => Value.pointer (some ⟨rb, 0, none⟩))) _) (Own.from (boxed_own _ _ (fun _ => Value.int .i64 0)) _))) (ownFrom_below (by omega) (by omega)))
    (fun _ _ _ _ _ hs _ _ => hs)
    ⟨⟨g2, g4, g5⟩, g1⟩
    (fun x _ _ => x.elim)
    (fun x => x.elim)
    ?assign ?body ?done ?stop
  case assign => exact fun _ _ x => x.elim
  case body => exact fun _ _ x => x.elim
  case done =>
    rintro D ys W' hD rfl ⟨⟨k1, k2, k3⟩, k4⟩ hK
    have e1 := k2.cell
    have e2 := k3.cell
    have e3 := k1.cell
    have e4 : W'.cell? ⟨rb, 0, none⟩ = some (.slice none 0 0) := (k4.cell (p := ⟨rb, 0, none⟩) HRB.out.1).trans HRW.out
    have e5 : W'.frozen? ⟨b1, 0, none⟩ = false := by unfold Boxed at k1; simp [World.frozen?, k1]
    have HS6 : Hid (W6.heap.size = b0 + 5) := g6
    have HK : Hid (Boxed W' b1 4 (.bool false) ∧ Below b0 w W' ∧ W'.heap[D]? = some (.deferred (some [])) ∧ W6.heap.size ≤ D) := ⟨k1, k4, hK, hD⟩
    clear g6 g7 s0 s1 s2 s3 k1 k2 k3 k4 g1 g2 g3 g4 g5
    gi_wp2
    refine wpIn_wide.2 ?_
    go_region
    gi_wp2
    have hD2 : ((W'.setCell ⟨b1, 0, none⟩ (.bool true)).drew).heap[D]? = some (.deferred (some [])) := (Below.heap_setCell _ _ _ _ (fun e => by have e' : D = b1 := e; have h1 := HK.out.2.2.2; have h2 := HS6.out; have h3 := HBS.out; omega)).trans HK.out.2.2.1
    have hcr : ((W'.setCell ⟨b1, 0, none⟩ (.bool true)).drew).cell? ⟨b1, 0, none⟩ = some (.bool true) := World.cell?_setCell_same' _ _ _ (by rw [e3]; rfl)
    have hBw : Below b0 w ((W'.setCell ⟨b1, 0, none⟩ (.bool true)).drew) := by
      have hb := HK.out.2.1
      refine ⟨hb.os, hb.tape, hb.output, ?_, fun k hk => ?_⟩
      · have := hb.size; simpa using this
      · exact (Below.heap_setCell _ _ _ _ (fun e => by have e' : k = b1 := e; have h3 := HBS.out; omega)).trans (hb.block k hk)
    have hBD := belowK_b (w := W6) (Nat.le_refl _) ((W'.setCell ⟨b1, 0, none⟩ (.bool true)).drew) D _ (.deferred none) HK.out.2.2.2 hD2 rfl rfl
    refine ⟨by simp, .inl ⟨_, _, rfl, run_takeDeferred hD2, ?_⟩⟩
    have hc2 := (hBD.cell (p := ⟨b1, 0, none⟩) (by have := HS6.out; have := HBS.out; show b1 < W6.heap.size; omega)).trans hcr
    refine ⟨.bool true, ?_, rfl, ?_⟩
    · simp [results, Tryz.f8, go_sem, hc2]
    · have h2 := hBw.trans (hBD.mono (by have := HS6.out; omega))
      rw [HBS.out.1]
      exact h2
  case stop =>
    rintro D c pre W' _ _ h _
    exact h.elim
end Go.Proofs.YtknlnllcpdiglabGreatDoor
