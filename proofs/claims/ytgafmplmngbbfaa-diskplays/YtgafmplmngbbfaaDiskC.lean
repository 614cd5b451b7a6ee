/-
  A file cut, and a file behind a crash: the walks.
-/
import Derived.Test.YtgafmplmngbbfaaDiskB
namespace Go.Proofs.Ytgafmplmngbbfaa
open Go.RowKit Go.Maps Go.WideMaps

theorem Rd.head {w : World} {g c : Nat} {l : List UInt8} (h : Rd w (.slice (some ⟨g, 0, none⟩) l.length c) l) (n : Nat) (hn : n ≤ l.length) : Rd w (.slice (some ⟨g, 0, none⟩) n c) (l.take n) := by
  obtain ⟨a, c', hv, h1, h2, h3, h4⟩ := h
  simp only [Value.slice.injEq, true_and] at hv
  obtain ⟨rfl, rfl⟩ := hv
  have hl : (l.take n).length = n := by simp; omega
  refine ⟨some ⟨g, 0, none⟩, c, by rw [hl], by omega, h2, fun j hj => ?_, fun h => by cases h⟩
  rw [hl] at hj
  obtain ⟨b, o, hb, hc⟩ := h3 j (by omega)
  refine ⟨b, o, hb, ?_⟩
  rw [hc]
  simp [List.getD, hj]
theorem block_set1 (w : World) (g : Nat) (x y v : Value) (t : TypeId) (h : w.heap[g]? = some (.cells #[x, y] t)) : (w.setCell ⟨g, 1, none⟩ v).heap[g]? = some (.cells #[x, v] t) := by
  simp [World.setCell, Array.getElem?_modify, h]

set_option maxRecDepth 8000 in
set_option maxHeartbeats 3200000 in
theorem cut_any (w : World) (base gf : Nat) (u : Value) (c : List UInt8) (z N : Nat) (hblk : w.heap[gf]? = some (.cells #[u, .int .i64 (z : Int)] 77)) (ho : Own w base u c) (hN : N ≤ c.length) (hz : z ≤ 1048576) (hc : c.length ≤ 1048576) :
    Calls Try.prog 51 #[.pointer (some ⟨gf, 0, none⟩), .int .i64 (N : Int)] w fun e w' => ∃ u', e = .returned (.tuple #[]) ∧ w'.heap[gf]? = some (.cells #[u', .int .i64 ((min z N : Nat) : Int)] 77) ∧ Own w' w.heap.size u' (c.take N) ∧ u'.ownBlock = some w.heap.size ∧ w.grownBy w' (some gf) := by
  have hfl : gf < w.heap.size := (Array.getElem?_eq_some_iff.1 hblk).1
  have HM : Hid (∀ v, Rd w v (c.take N) → Calls Try.prog 48 #[v] w fun e w' => ∃ v', e = .returned v' ∧ Own w' w.heap.size v' (c.take N) ∧ w.grownBy w' none ∧ v'.ownBlock = some w.heap.size) := fun v hv => copyOf_any v _ w hv (by rw [List.length_take]; omega)
  have d0 : w.cell? ⟨gf, 0, none⟩ = some u := by simp [World.cell?, hblk]
  have HB : Hid (w.heap[gf]? = some (.cells #[u, .int .i64 (z : Int)] 77) ∧ gf < w.heap.size) := ⟨hblk, hfl⟩
  obtain ⟨M, hM, hcase⟩ : ∃ M : Nat, min z N = M ∧ (((z : Int) ≤ (N : Int) ∧ M = z) ∨ ((N : Int) < (z : Int) ∧ M = N)) := ⟨min z N, rfl, by omega⟩
  rw [hM]
  clear hM
  have hR : ∃ a cap, u = .slice a c.length cap ∧ (c.length : Int) ≤ (cap : Int) ∧ cap ≤ 9223372036854775807 ∧ Hid (Rd w (.slice a N cap) (c.take N)) := by
    rcases ho.2 with ⟨he, hl⟩ | ⟨g, cap, cur, he, hg, hh, hnc, hcm, _⟩
    · have hc0 : c = [] := List.eq_nil_of_length_eq_zero hl
      subst hc0
      have : N = 0 := by simpa using hN
      subst this
      exact ⟨none, 0, he, by simp, by omega, Rd.nil w⟩
    · refine ⟨some ⟨g, 0, none⟩, cap, he, by omega, by unfold maxLen at hcm; omega, ?_⟩
      have hr := ho.rd
      rw [he] at hr
      exact hr.head N hN
  obtain ⟨a, cap, rfl, hcap, hcm, HR⟩ := hR
  clear ho hblk hfl
  generalize c.length = L at *
  go_enter Try.func51, Try.ntmps51
  go_wp2_with fail
  refine (HM.out _ HR.out).mono ?_
  rintro e w1 ⟨v1, rfl, ho1, hg1, hb1⟩
  obtain ⟨a1, c1, hv1⟩ := ho1.shape
  have hblk1 : w1.heap[gf]? = some (.cells #[.slice a L cap, .int .i64 (z : Int)] 77) := by
    rw [hg1.block gf HB.out.2 (by simp)]
    exact HB.out.1
  have e0 : w1.cell? ⟨gf, 0, none⟩ = some (.slice a L cap) := by simp [World.cell?, hblk1]
  have f0 : w1.frozen? ⟨gf, 0, none⟩ = false := by simp [World.frozen?, hblk1]
  have hblk2 := block_set w1 gf _ _ v1 _ hblk1
  have e1 : (w1.setCell ⟨gf, 0, none⟩ v1).cell? ⟨gf, 1, none⟩ = some (.int .i64 (z : Int)) := by simp only [World.cell?, hblk2]; simp
  have f1 : (w1.setCell ⟨gf, 0, none⟩ v1).frozen? ⟨gf, 1, none⟩ = false := by simp only [World.frozen?, hblk2]; simp
  have hblk3 := block_set1 _ gf _ _ (.int .i64 (M : Int)) _ hblk2
  have g2 := gb_set0 w1 gf 0 v1
  have g3 := gb_set0 (w1.setCell ⟨gf, 0, none⟩ v1) gf 1 (.int .i64 (M : Int))
  have hne : v1.ownBlock ≠ some gf := by rw [hb1]; have := HB.out.2; simp; omega
  have H3 : Hid (∃ u', ((w1.setCell ⟨gf, 0, none⟩ v1).setCell ⟨gf, 1, none⟩ (.int .i64 (M : Int))).heap[gf]? = some (.cells #[u', .int .i64 (M : Int)] 77) ∧ Own ((w1.setCell ⟨gf, 0, none⟩ v1).setCell ⟨gf, 1, none⟩ (.int .i64 (M : Int))) w.heap.size u' (c.take N) ∧ u'.ownBlock = some w.heap.size ∧ w.grownBy ((w1.setCell ⟨gf, 0, none⟩ v1).setCell ⟨gf, 1, none⟩ (.int .i64 (M : Int))) (some gf)) :=
    ⟨v1, hblk3, (ho1.kept g2 (.inr hne)).kept g3 (.inr hne), hb1, gb_trans (gb_trans (gb_any hg1 (some gf)) g2 (fun k hk _ => hk.symm)) g3 (fun k hk _ => hk.symm)⟩
  clear hg1 hblk1 hblk2 hblk3 g2 g3 hne ho1 hb1
  subst hv1
  generalize (c.take N).length = Q at *
  rcases hcase with ⟨h1, rfl⟩ | ⟨h1, rfl⟩
  all_goals go_wp2
  all_goals go_end0
  all_goals obtain ⟨u', h⟩ := H3.out
  all_goals first | exact ⟨u', rfl, h⟩ | exact ⟨rfl, u', h⟩

set_option maxRecDepth 8000 in
set_option maxHeartbeats 3200000 in
theorem fcrash_any (w : World) (base gf : Nat) (u : Value) (c : List UInt8) (z k : Nat) (hblk : w.heap[gf]? = some (.cells #[u, .int .i64 (z : Int)] 77)) (ho : Own w base u c) (hz : z ≤ c.length) (hc : c.length ≤ 1048576) :
    Calls Try.prog 47 #[.pointer (some ⟨gf, 0, none⟩), .int .i64 (k : Int)] w fun e w' => ∃ u', e = .returned (.tuple #[]) ∧ w'.heap[gf]? = some (.cells #[u', .int .i64 ((z + min k (c.length - z) : Nat) : Int)] 77) ∧ Own w' w.heap.size u' (c.take (z + min k (c.length - z))) ∧ u'.ownBlock = some w.heap.size ∧ w.grownBy w' (some gf) := by
  have hfl : gf < w.heap.size := (Array.getElem?_eq_some_iff.1 hblk).1
  obtain ⟨M, hM, hcase⟩ : ∃ M : Nat, min k (c.length - z) = M ∧ (((k : Int) ≤ ((c.length - z : Nat) : Int) ∧ M = k) ∨ (((c.length - z : Nat) : Int) < (k : Int) ∧ M = c.length - z)) := ⟨_, rfl, by omega⟩
  rw [hM]
  clear hM
  have hML : z + M ≤ c.length := by omega
  have HM : Hid (∀ w', w.grownBy w' none → Calls Try.prog 51 #[.pointer (some ⟨gf, 0, none⟩), .int .i64 ((z + M : Nat) : Int)] w' fun e w'' => ∃ u', e = .returned (.tuple #[]) ∧ w''.heap[gf]? = some (.cells #[u', .int .i64 ((min z (z + M) : Nat) : Int)] 77) ∧ Own w'' w'.heap.size u' (c.take (z + M)) ∧ u'.ownBlock = some w'.heap.size ∧ w'.grownBy w'' (some gf)) :=
    fun w' hg => cut_any w' base gf u c z (z + M) (by rw [hg.block gf hfl (by simp)]; exact hblk) (ho.keep hg) hML (by omega) hc
  obtain ⟨a, cap, rfl⟩ := ho.shape
  have d0 : w.cell? ⟨gf, 0, none⟩ = some (.slice a c.length cap) := by simp [World.cell?, hblk]
  have d1 : w.cell? ⟨gf, 1, none⟩ = some (.int .i64 (z : Int)) := by simp [World.cell?, hblk]
  have hsub : (c.length : Int) - (z : Int) = ((c.length - z : Nat) : Int) := by omega
  have hadd : (z : Int) + (M : Int) = ((z + M : Nat) : Int) := by omega
  have HLn : Hid ((c.take (z + M)).length = z + M) := by show (c.take (z + M)).length = z + M; rw [List.length_take]; omega
  clear ho hblk
  generalize c.length = L at *
  generalize L - z = R at *
  generalize z + M = Y at *
  rcases hcase with ⟨h1, rfl⟩ | ⟨h1, rfl⟩
  · go_enter Try.func47, Try.ntmps47
    go_wp2_with fail
    go_region
    go_wp2_with fail
    refine (HM.out _ (gb_drew _ none)).mono ?_
    rintro e w1 ⟨u1, rfl, hb1, ho1, hob1, hg1⟩
    obtain ⟨a1, c1, hu1⟩ := ho1.shape
    rw [HLn.out] at hu1
    subst hu1
    have e0 : w1.cell? ⟨gf, 0, none⟩ = some (.slice a1 Y c1) := by simp [World.cell?, hb1]
    have e1 : w1.cell? ⟨gf, 1, none⟩ = some (.int .i64 ((min z Y : Nat) : Int)) := by simp [World.cell?, hb1]
    have f1 : w1.frozen? ⟨gf, 1, none⟩ = false := by simp [World.frozen?, hb1]
    have hb2 := block_set1 w1 gf _ _ (.int .i64 (Y : Int)) _ hb1
    have g2 := gb_set0 w1 gf 1 (.int .i64 (Y : Int))
    have H3 : Hid (∃ u', (w1.setCell ⟨gf, 1, none⟩ (.int .i64 (Y : Int))).heap[gf]? = some (.cells #[u', .int .i64 (Y : Int)] 77) ∧ Own (w1.setCell ⟨gf, 1, none⟩ (.int .i64 (Y : Int))) w.heap.size u' (c.take Y) ∧ u'.ownBlock = some w.heap.size ∧ w.grownBy (w1.setCell ⟨gf, 1, none⟩ (.int .i64 (Y : Int))) (some gf)) :=
      ⟨_, hb2, ho1.kept g2 (.inr (by rw [hob1]; show some w.heap.size ≠ some gf; simp; omega)), hob1, gb_trans (gb_trans (gb_drew _ (some gf)) hg1 (fun k hk _ => hk.symm)) g2 (fun k hk _ => hk.symm)⟩
    clear hb1 ho1 hob1 hg1 hb2 g2
    go_wp2
    go_end0
    obtain ⟨u', h⟩ := H3.out
    first | exact ⟨u', rfl, h⟩ | exact ⟨rfl, u', h⟩
  · go_enter Try.func47, Try.ntmps47
    go_wp2_with fail
    go_region
    go_wp2_with fail
    refine (HM.out _ (gb_drew _ none)).mono ?_
    rintro e w1 ⟨u1, rfl, hb1, ho1, hob1, hg1⟩
    obtain ⟨a1, c1, hu1⟩ := ho1.shape
    rw [HLn.out] at hu1
    subst hu1
    have e0 : w1.cell? ⟨gf, 0, none⟩ = some (.slice a1 Y c1) := by simp [World.cell?, hb1]
    have e1 : w1.cell? ⟨gf, 1, none⟩ = some (.int .i64 ((min z Y : Nat) : Int)) := by simp [World.cell?, hb1]
    have f1 : w1.frozen? ⟨gf, 1, none⟩ = false := by simp [World.frozen?, hb1]
    have hb2 := block_set1 w1 gf _ _ (.int .i64 (Y : Int)) _ hb1
    have g2 := gb_set0 w1 gf 1 (.int .i64 (Y : Int))
    have H3 : Hid (∃ u', (w1.setCell ⟨gf, 1, none⟩ (.int .i64 (Y : Int))).heap[gf]? = some (.cells #[u', .int .i64 (Y : Int)] 77) ∧ Own (w1.setCell ⟨gf, 1, none⟩ (.int .i64 (Y : Int))) w.heap.size u' (c.take Y) ∧ u'.ownBlock = some w.heap.size ∧ w.grownBy (w1.setCell ⟨gf, 1, none⟩ (.int .i64 (Y : Int))) (some gf)) :=
      ⟨_, hb2, ho1.kept g2 (.inr (by rw [hob1]; show some w.heap.size ≠ some gf; simp; omega)), hob1, gb_trans (gb_trans (gb_drew _ (some gf)) hg1 (fun k hk _ => hk.symm)) g2 (fun k hk _ => hk.symm)⟩
    clear hb1 ho1 hob1 hg1 hb2 g2
    go_wp2
    go_end0
    obtain ⟨u', h⟩ := H3.out
    first | exact ⟨u', rfl, h⟩ | exact ⟨rfl, u', h⟩
end Go.Proofs.Ytgafmplmngbbfaa
