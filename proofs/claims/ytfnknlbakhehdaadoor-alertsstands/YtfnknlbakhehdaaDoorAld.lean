/-
  All: the walk.
-/
import Derived.Test.YtfnknlbakhehdaaDoorAlb
import Derived.BigQuiet
namespace Go.Proofs.YtfnknlbakhehdaaDoor
open Go.RowKit Go.Shelf Go.Sort Go.Maps Go.WideMaps

set_option maxRecDepth 8000 in
set_option maxHeartbeats 12800000 in
theorem all_any (w : World) (S : Nat → Prop) (gx : Nat) (R most : Int) (M : List AlR) (gm : Nat) (D : DataW Unit) (hv : List LbT → Value) (h : PrjA w S gx R most M gm D hv) (hS : ∀ k, S k → k < w.heap.size) :
    Calls Tryd.prog 10 #[.pointer (some ⟨gx, 0, none⟩)] w fun e w' => ∃ c v, e = .returned (.func (.func 25) #[] #[.pointer (some ⟨c, 0, none⟩)]) ∧ w.heap.size ≤ c ∧ Boxed w' c 38 v ∧ OwnX w' w.heap.size v (xsM hv M) ∧ w.grownBy w' none := by
  have HD := hidJ h
  have HSS := hidJ hS
  have hlenI := h.ok.2.2.2
  obtain ⟨N, hN⟩ : ∃ N, N = M.length := ⟨_, rfl⟩
  have hmost : N ≤ 500 := by omega
  have HN : Hid (M.length = N) := hN.symm
  have k1 := World.grownBy_alloc w (.cells #[.slice none 0 0] 38) none
  have HK : Hid (Calls Tryd.prog 23 #[.map (some gm), .func (.func 24) #[] #[]] (w.alloc (.cells #[.slice none 0 0] 38)) fun e w' => ∃ g c, e = .returned (.slice (some ⟨g, 0, none⟩) N c) ∧ Hid (AllJ w hv M g N c 0 w')) := by
    refine (keys_any _ S gx R most M gm D hv (h.keep k1) (fun k hk => by have := hS k hk; simp; omega)).mono ?_
    rintro e w' ⟨g, c, rfl, q1, q2⟩
    rw [World.size_alloc] at q1
    rw [← hN] at q1 ⊢
    exact ⟨g, c, rfl, gb_none k1 q2, q1, _, (Boxed.new w 38 (.slice none 0 0)).kept q2 (by simp), OwnX.nil _ _⟩
  have c2 : ∀ C, (w.alloc C).cell? ⟨gx, 2, none⟩ = some (.map (some gm)) := fun C => (h.keep (World.grownBy_alloc w C none)).cells.2.2
  have hlx := some_lt h.box
  clear h hN hS hlenI k1
  go_enter Tryd.func10, Tryd.ntmps10
  go_wp2_with fail
  refine HK.out.mono ?_
  rintro e w1 ⟨g, c, rfl, H1⟩
  clear HK c2
  go_wp2_with fail
  go_loopw [14] (fun i wr => ∃ z : Nat, z ≤ N ∧ i = .int .i64 z ∧ Hid (AllJ w hv M g N c z wr)) (fun i _ => N - (intOf i).toNat)
  case atStart => exact ⟨0, by omega, rfl, H1.out⟩
  case round =>
    obtain ⟨z, hzN, rfl, HJ⟩ := hrel
    by_cases hzl : z < N
    · have hzi : (z : Int) < (N : Int) := by omega
      have hzM : z < M.length := by rw [HN.out]; exact hzl
      have hmem := getA_mem hzM
      have HP := hidJ (HD.out.keep HJ.out.old)
      have lk := HP.out.lookE hmem
      have lk2 := (HP.out.keep (gb_drew _ none)).lookE hmem
      have lk3 := fun C => (HP.out.keep (World.grownBy_alloc wr C none)).lookE hmem
      have lk4 := fun C => (HP.out.keep (gb_none (World.grownBy_alloc wr C none) (gb_drew _ none))).lookE hmem
      have ck := HJ.out.keys.cell hzM
      have hek : encK M (M.getD z alZ) = .string (ByteArray.mk ⟨keyB (M.getD z alZ).lbs⟩) := by unfold encK; rw [lbK_mem HD.out.ok.1 hmem]
      rw [hek] at ck
      have cx := HP.out.cells.2.2
      obtain ⟨v, hbx, hox⟩ := HJ.out.row
      obtain ⟨av, cv, rfl⟩ := hox.shape
      have htl : ((xsM hv M).take z).length = z := by rw [List.length_take, xsM_len]; omega
      rw [htl] at hbx hox
      have hcl := hbx.cell
      have hfz := hbx.frozen
      obtain ⟨ua, un, uc, hua⟩ : ∃ a n c, hv (M.getD z alZ).lbs = .slice a n c := by obtain ⟨⟨a, c, e, _⟩, _⟩ := HD.out.each _ hmem; exact ⟨_, _, _, e⟩
      have HPU : Hid (∀ X : World, wr.grownBy X none → X.heap = (wr.alloc (.cells #[.slice ua un uc, .int .i64 (M.getD z alZ).st, .int .i64 (M.getD z alZ).en] 34)).heap → ∃ a2 c2 W2, (Builtin.append_ #[38, 38] 38 #[.slice av z cv, .slice (some ⟨wr.heap.size, 0, none⟩) 1 1]).run Tryd.prog X = .ok (.slice a2 (z + 1) c2) W2 ∧ (W2.cell? ⟨w.heap.size, 0, none⟩ = some (.slice av z cv) ∧ W2.frozen? ⟨w.heap.size, 0, none⟩ = false ∧ W2.cell? ⟨gx, 2, none⟩ = some (.map (some gm)) ∧ Hid (AllJ w hv M g N c (z + 1) (W2.setCell ⟨w.heap.size, 0, none⟩ (.slice a2 (z + 1) c2))))) := fun X hX hh => by
        have hws := HJ.out.old.size
        have hbl := hbx.lt
        have hpush := OwnX.push (W := wr) (X := X) (base := w.heap.size + 1) hox (hv (M.getD z alZ).lbs, M.getD z alZ) (by rw [hua]; rfl) (by omega) (by omega) hX (by rw [hh]; show _ = (wr.alloc (.cells #[hv (M.getD z alZ).lbs, .int .i64 (M.getD z alZ).st, .int .i64 (M.getD z alZ).en] 34)).heap; rw [hua])
        rw [htl] at hpush
        obtain ⟨a2, c2, W2, q1, q2, q3⟩ := hpush
        have hvb := hox.lt
        have hne := HJ.out.ne (v := .slice av z cv) hox
        have hW : w.grownBy W2 none := gb_new (gb_none HJ.out.old hX) q3.1 (fun k hk => by have := (hvb k hk).1; omega)
        have hX2 : Ch wr W2 (fun k => (Value.slice av z cv).ownBlock = some k) := (Ch.of_gb (S := fun k => (Value.slice av z cv).ownBlock = some k) hX (fun k hk => by cases hk)).trans (Ch.of_gb (S := fun k => (Value.slice av z cv).ownBlock = some k) q3.1 (fun k hk _ => hk)) (fun _ _ e => e)
        have nb : ¬ (Value.slice av z cv).ownBlock = some w.heap.size := fun e => by have := (hvb _ e).1; omega
        have hb2 := bxch hbx hX2 nb
        have hgx2 : W2.cell? ⟨gx, 2, none⟩ = some (.map (some gm)) := (HD.out.keep hW).cells.2.2
        refine ⟨a2, c2, W2, q1, hb2.cell, hb2.frozen, hgx2, gb_ch hW (set_ch _ _ _ _) (fun k e => by omega), ?_, .slice a2 (z + 1) c2, hb2.set _, ?_⟩
        · have := row_ch HJ.out.keys hX2 (fun k hk e => by simp only [Value.ownBlock, Option.some.injEq] at hk; subst hk; exact hne e)
          exact row_ch this (set_ch _ _ _ _) (fun k hk e => by have := (World.ownsRow.lt this k hk).1; omega)
        · rw [xsM_take hzM]
          exact row_ch q2 (set_ch _ _ _ _) (fun k hk e => by have := (World.ownsRow.lt q2 k hk).1; omega)
      have hclA : ∀ C, (wr.alloc C).cell? ⟨w.heap.size, 0, none⟩ = some (.slice av z cv) := fun C => (World.cell?_of_block ((World.grownBy_alloc wr C none).block _ (block_lt hcl) (by simp))).trans hcl
      have cxA : ∀ C, (wr.alloc C).cell? ⟨gx, 2, none⟩ = some (.map (some gm)) := fun C => (World.cell?_of_block ((World.grownBy_alloc wr C none).block _ (block_lt cx) (by simp))).trans cx
      unfold alV at lk lk2 lk3 lk4
      rw [hua] at lk lk2 lk3 lk4
      clear HJ HP hbx hox htl hek hmem hzM hua
      generalize (M.getD z alZ).st = vs at *
      generalize (M.getD z alZ).en = ve at *
      generalize ByteArray.mk ⟨keyB (M.getD z alZ).lbs⟩ = KS at *
      go_wp2_with fail
      go_region_law
        (first
          | (refine step_appRun rfl (.tmp 18) (.tmp 25) 38 rfl _ _ (by simp [Act.eval]) (by simp [Act.eval]) (z + 1) (fun a2 c2 W2 => W2.cell? ⟨w.heap.size, 0, none⟩ = some (.slice av z cv) ∧ W2.frozen? ⟨w.heap.size, 0, none⟩ = false ∧ W2.cell? ⟨gx, 2, none⟩ = some (.map (some gm)) ∧ Hid (AllJ w hv M g N c (z + 1) (W2.setCell ⟨w.heap.size, 0, none⟩ (.slice a2 (z + 1) c2)))) (HPU.out _ (by first | exact gb_none (World.grownBy_alloc _ _ none) (gb_drew _ none) | exact World.grownBy_alloc _ _ none | exact gb_none (gb_drew _ none) (World.grownBy_alloc _ _ none)) rfl) ?_; rintro a5 c5 w5 ⟨y1, y2, y3, H5⟩))
      all_goals
        clear HPU y1 y2 y3 lk lk2 lk3 lk4 hcl cx hclA cxA hfz
        go_wp2_with fail
        go_roundw
        case rel => exact ⟨z + 1, by omega, by go_num, H5⟩
        case measure => simp [intOf]; omega
    · have hzi : ¬ (z : Int) < (N : Int) := by omega
      have HF : Hid (∃ v, Boxed wr w.heap.size 38 v ∧ OwnX wr w.heap.size v (xsM hv M) ∧ w.grownBy wr none) := by
        obtain ⟨v, q1, q2⟩ := HJ.out.row
        rw [List.take_of_length_le (by rw [xsM_len, HN.out]; omega)] at q2
        exact ⟨v, q1, q2.mono (by omega), HJ.out.old⟩
      clear HJ HD HSS H1
      go_wp2
      go_ret
      obtain ⟨v, q1, q2, q3⟩ := HF.out
      first | exact ⟨w.heap.size, rfl, Nat.le_refl _, v, q1, q2, q3⟩ | exact ⟨w.heap.size, v, rfl, Nat.le_refl _, q1, q2, q3⟩
set_option maxHeartbeats 1600000 in
theorem all_nil (w : World) : Calls Tryd.prog 10 #[.pointer none] w fun e w' => ∃ c v, e = .returned (.func (.func 25) #[] #[.pointer (some ⟨c, 0, none⟩)]) ∧ w.heap.size ≤ c ∧ Boxed w' c 38 v ∧ OwnX w' w.heap.size v [] ∧ w.grownBy w' none := by
  go_enter Tryd.func10, Tryd.ntmps10
  go_wp2
  go_ret
  exact ⟨w.heap.size, .slice none 0 0, rfl, Nat.le_refl _, Boxed.new w _ _, OwnX.nil _ _, World.grownBy_alloc _ _ none⟩
end Go.Proofs.YtfnknlbakhehdaaDoor
