/-
  The names of a disk's files, collected and sorted: the walk.
-/
import Derived.Test.YtgafmplmngbbfaaShelf
import Derived.Test.YtgafmplmngbbfaaDiskQ5
import Derived.Sort.KeysCollected
import Derived.Sort.OwnSorted
import Derived.Maps.AppendAt
namespace Go.Proofs.Ytgafmplmngbbfaa
open Go.RowKit Go.Maps Go.WideMaps Go.Sort

theorem infoS : (Try.prog.info? 9).map (fun i => (i.zero, i.size, i.bytes)) = some (some (.string ⟨#[]⟩), 1, 16) := by kernel_rfl
/-- a list of texts of the call's own -/
def OwnS (w : World) (base : Nat) (v : Value) (ss : List Bs) : Prop := w.ownsRow base 9 1 v ss.length (ss.map encStr)
theorem sort_any (blk cap : Nat) (ss : List Bs) (w : World) (hH : Holds encStr w blk 0 ss.toArray) (hblk : blk < w.heap.size) (hsz : ss.length < 4611686018427387904) :
    Calls Try.prog 43 #[.slice (some ⟨blk, 0, none⟩) ss.length cap] w fun e w' => e = .returned (.tuple #[]) ∧ ∃ n os, w' = grow (putRow encStr (Sort.ahead w n) blk 0 (ss.mergeSort fun x y => decide (x ≤ y)).toArray) os :=
  Any.slices_Sort_string Try.lays190 blk 0 cap ss w hH hblk hsz
theorem sorted_le (ss : List Bs) : (ss.mergeSort fun x y => decide (x ≤ y)).Pairwise (fun x y => x ≤ y) := by
  have h := List.pairwise_mergeSort (le := fun x y : Bs => decide (x ≤ y)) (fun a b c h1 h2 => by simp only [decide_eq_true_eq] at *; exact List.le_trans h1 h2) (fun a b => by simp only [Bool.or_eq_true, decide_eq_true_eq]; exact List.le_total a b) ss
  exact h.imp (fun {a b} h => by simpa using h)

set_option maxRecDepth 8000 in
set_option maxHeartbeats 6400000 in
theorem list_ok (w : World) (S : Nat → Prop) (gd N : Nat) (M : Fls) (h : DiskOK w S gd M N) :
    Calls Try.prog 14 #[.pointer (some ⟨gd, 0, none⟩)] w fun e w' => ∃ v ss, e = .returned v ∧ OwnS w' w.heap.size v ss ∧ ss.Pairwise (fun x y => x ≤ y) ∧ ss.Nodup ∧ (∀ l, l ∈ ss ↔ (M l).isSome = true) ∧ ss.length = N ∧ w.grownBy w' none := by
  obtain ⟨gm, D, gf, u, hd0⟩ := h
  have HD : Hid (DiskW w S gd M N gm D gf u) := hd0
  have hcell := hd0.cell
  have hmap := hd0.map
  have hmost : N ≤ 256 := hd0.most
  have hsz : Maps.size D = N := hd0.size
  have HSz : Hid (Maps.size D = N) := hsz
  have hbl : gm < w.heap.size := hmap.lt
  obtain ⟨i0, hi, hz0, hz1, hz2⟩ := info_parts infoS
  clear hd0
  go_enter Try.func14, Try.ntmps14
  go_wp2_with (first
    | (at_len; refine wpList_len_own _ rfl _ 64 rfl 9 67 Try.underlying64 _ gm N D rfl hmap ?_; rw [HSz.out])
    | (at_make; refine wpList_make_own _ rfl _ _ 36 rfl w.heap.size 9 i0 (.string ⟨#[]⟩) 1 Try.underlying36 hi hz0 hz1 _ _ _ N rfl rfl rfl (by rw [hz2]; omega) (by unfold maxLen; omega) (Nat.le_refl _) ?_; intro w1 hrow1 hg1; have hc1 := cell_keep hcell hg1)
    | (at_range; refine wpList_range_own _ rfl _ 64 rfl 9 67 lawS Try.underlying64 _ gm N D rfl (hmap.kept hg1 (by simp)) ?_; intro w2 hrg2 hg2 hs2)
    | go_in)
  go_frame
  have HR2 : Hid (w2.ranges Try.prog 9 ptrElem gm w1.heap.size N D (Maps.has D) (Maps.size D) ∧ w1.grownBy w2 none ∧ w.grownBy w1 none ∧ w1.ownsRow w.heap.size 9 1 (.slice (some ⟨w.heap.size, 0, none⟩) 0 N) 0 []) := ⟨hrg2, hg2, hg1, hrow1⟩
  clear hrg2 hg2 hs2 hrow1 hg1 hc1 hcell hsz
  go_loopw [3] (fun v wr => ∃ (left : Lit → Bool) (cnt : Nat) (ss : List Bs), Hid (wr.ranges Try.prog 9 ptrElem gm w1.heap.size N D left cnt ∧ ss.length + cnt ≤ N ∧ OwnS wr w.heap.size v ss ∧ v ≠ .slice none 0 0 ∧ Collected D left ss ∧ w.grownBy wr none)) (fun _ wr => wr.rangeLeft gm w1.heap.size)
  case atStart =>
    exact ⟨_, _, [], HR2.out.1, by rw [HSz.out]; simp, HR2.out.2.2.2.kept HR2.out.2.1 (Or.inr (by simp [Value.ownBlock])), by simp, Collected.start D, gb_none HR2.out.2.2.1 HR2.out.2.1⟩
  case round =>
    obtain ⟨left, cnt, ss, HI⟩ := hrel
    have hrg := HI.out.1
    go_wp2_with (first
      | (at_next; refine wpList_next_ranges _ rfl _ rfl 9 lawS ptrElem mkS mkP mkS_inv mkP_inv gm w1.heap.size N D left cnt rfl hrg ?_ ?_)
      | go_in)
    · intro _ hl0
      obtain ⟨h1, h2, hrow, hnn, hC, hg⟩ := HI.out
      rcases hrow.2 with ⟨hnil, _⟩ | ⟨g, cap, cur, rfl, hbase, hb, k1, k2, k3, k4⟩
      · exact absurd hnil hnn
      have hH : Holds encStr wr g 0 ss.toArray := holds_of_block hb (by simpa using k4)
      have hgl : g < wr.heap.size := some_lt hb
      have HSo : Hid (Calls Try.prog 43 #[.slice (some ⟨g, 0, none⟩) ss.length cap] wr fun e w' => e = .returned (.tuple #[]) ∧ OwnS w' w.heap.size (.slice (some ⟨g, 0, none⟩) ss.length cap) (ss.mergeSort fun x y => decide (x ≤ y)) ∧ w.grownBy w' none) := by
        refine (sort_any g cap ss wr hH hgl (by omega)).mono ?_
        rintro e w' ⟨rfl, nn, os, rfl⟩
        refine ⟨rfl, ?_, gb_new hg (grownBy_sorted _) (fun k hk => by cases hk; exact hbase)⟩
        have := ownsRow_sorted (n := nn) (os := os) (ts := ss.mergeSort fun x y => decide (x ≤ y)) (ss := ss) (by simp) hbase hb k1 k2 k3
        unfold OwnS
        rw [List.length_mergeSort]
        exact this
      have HF : Hid ((ss.mergeSort fun x y => decide (x ≤ y)).Nodup ∧ (∀ l, l ∈ (ss.mergeSort fun x y => decide (x ≤ y)) ↔ (M l).isSome = true) ∧ (ss.mergeSort fun x y => decide (x ≤ y)).length = N) := by
        have hp := List.mergeSort_perm ss (fun x y => decide (x ≤ y))
        refine ⟨hp.nodup_iff.2 hC.1, fun l => ?_, ?_⟩
        · rw [hp.mem_iff, hC.2 l, HD.out.has]
          simp [hl0]
        · rw [hp.length_eq, (hC.perm hmap lawS Try.underlying9 hl0).length_eq, ← HSz.out]
          obtain ⟨es, hes⟩ := hmap.isMap
          rw [hes]
          simp [strKeys, Maps.size]
      clear h1 h2 hrow hnn hC hg hb k1 k2 k3 k4 hH hgl hl0 hrg HI hbase
      generalize ss.length = Ls at *
      go_wp2_with fail
      refine HSo.out.mono ?_
      rintro e w3 ⟨rfl, ho3, hg3⟩
      have H3 : Hid (OwnS w3 w.heap.size (.slice (some ⟨g, 0, none⟩) Ls cap) (ss.mergeSort fun x y => decide (x ≤ y)) ∧ w.grownBy w3 none) := ⟨ho3, hg3⟩
      clear ho3 hg3
      go_wp2
      go_ret
      exact ⟨_, _, rfl, H3.out.1, sorted_le ss, HF.out.1, HF.out.2.1, HF.out.2.2, H3.out.2⟩
    · intro x c kl y ps w3 cnt3 hkey hlk hRv hat hrg3 hlt hg3 hs3 hen
      obtain ⟨l, hkx, rfl, hll⟩ := keyOf_string_inv hkey
      have hxl : x = l := by
        unfold mkS at hkx
        simpa using hkx
      subst hxl
      obtain ⟨h1, h2, hrow, hnn, hC, hg⟩ := HI.out
      have hrow3 : w3.ownsRow w.heap.size 9 1 u3 ss.length (ss.map encStr) := World.ownsRow.kept hrow hg3 (Or.inr (row_ne_iter hrow hrg).symm)
      have hw3 : w.grownBy w3 none := gb_new hg hg3 (fun k hk => by cases hk; exact HR2.out.2.2.1.size)
      have H3 : Hid (w3.ranges Try.prog 9 ptrElem gm w1.heap.size N D (fun z => left z && !z.sameKey (.string x)) cnt3 ∧ OwnS w3 w.heap.size u3 ss ∧ w.grownBy w3 none ∧ Collected D (fun z => left z && !z.sameKey (.string x)) (ss ++ [x]) ∧ wr.rangeLeft gm w1.heap.size = cnt ∧ cnt3 < cnt ∧ ss.length + cnt ≤ N) :=
        ⟨hrg3, hrow3, hw3, hC.step hlk hat, hrg.left_eq, hlt, h2⟩
      have hs3b := hw3.size
      clear hkx hkey hlk hRv hat hrg3 hlt hg3 hs3 hrg HI h1 h2 hrow hnn hC hg hw3 hll
      unfold mkS at hen ⊢
      go_wp2_with (first
        | (at_builtin; refine wpList_append_own _ rfl _ _ 36 rfl w.heap.size 9 i0 (.string ⟨#[]⟩) 1 16 Try.underlying36 hi hz0 hz1 hz2 rfl (by decide) _ _ _ rfl (hrow3.alloc _) ⟨w3.heap.size, 0, none⟩ 1 1 [encStr x] rfl rfl (cell_one_new _ _ _) (by simp [Value.oneCell', encStr]) (by have := H3.out.2.2.2.2.2.2; unfold maxLen; omega) (by have := H3.out.2.2.2.2.2.2; omega) (by simp; omega) ?_; intro v4 w4 hown4 hg4 hnil4; go_frame)
        | go_in)
      have H4 : Hid (∃ (left : Lit → Bool) (cnt' : Nat) (ss : List Bs), (w4.ranges Try.prog 9 ptrElem gm w1.heap.size N D left cnt' ∧ ss.length + cnt' ≤ N ∧ OwnS w4 w.heap.size v4 ss ∧ v4 ≠ .slice none 0 0 ∧ Collected D left ss ∧ w.grownBy w4 none) ∧ w4.rangeLeft gm w1.heap.size < wr.rangeLeft gm w1.heap.size) := by
        obtain ⟨hrg3, hrow3, hw3, hC, hle, hlt, hss⟩ := H3.out
        have hrg4 := (hrg3.alloc (.cells #[.string (ByteArray.mk ⟨x⟩)] 9)).kept hg4 (row_ne_low hrow3 hbl) (row_ne_iter hrow3 hrg3)
        refine ⟨_, cnt3, ss ++ [x], ⟨hrg4, by simp; omega, ?_, fun hv' => by have := (hnil4.1 hv').2; omega, hC, ?_⟩, ?_⟩
        · unfold OwnS
          simpa using hown4
        · exact gb_new (gb_none hw3 (World.grownBy_alloc _ _ none)) hg4 (fun k hk => (hrow3.lt k hk).1)
        · rw [hrg4.left_eq, hle]; exact hlt
      obtain ⟨left4, cnt4, ss4, H5, hms⟩ := H4.out
      have H6 : Hid (w4.ranges Try.prog 9 ptrElem gm w1.heap.size N D left4 cnt4 ∧ ss4.length + cnt4 ≤ N ∧ OwnS w4 w.heap.size v4 ss4 ∧ v4 ≠ .slice none 0 0 ∧ Collected D left4 ss4 ∧ w.grownBy w4 none) := H5
      clear H3 H4 H5 hown4 hg4 hnil4 hrow3
      go_roundw
      case rel => exact ⟨left4, cnt4, ss4, H6⟩
      case measure => exact hms
end Go.Proofs.Ytgafmplmngbbfaa
