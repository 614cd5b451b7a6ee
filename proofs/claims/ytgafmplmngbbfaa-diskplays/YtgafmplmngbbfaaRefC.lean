/-
  Cut of the document's disk: the walk.
-/
import Derived.Test.YtgafmplmngbbfaaRefB
namespace Go.Proofs.Ytgafmplmngbbfaa
open Go.RowKit Go.Maps Go.WideMaps

theorem Rb.head {w : World} {S : Nat → Prop} {a : Option Addr} {c : Nat} {l : Bs} (h : Rb w S (.slice a l.length c) l) (n : Nat) (hn : n ≤ l.length) : Rb w S (.slice a n c) (l.take n) := by
  obtain ⟨⟨a', c', hv, h1, h2, h3, h4⟩, hb⟩ := h
  simp only [Value.slice.injEq, true_and] at hv
  obtain ⟨rfl, rfl⟩ := hv
  have hl : (l.take n).length = n := by simp; omega
  refine ⟨⟨a, c, by rw [hl], by omega, h2, fun j hj => ?_, h4⟩, fun k hk => hb k ?_⟩
  · rw [hl] at hj
    obtain ⟨b, o, hb, hc⟩ := h3 j (by omega)
    refine ⟨b, o, hb, ?_⟩
    rw [hc]
    simp [List.getD, hj]
  · cases a <;> exact hk
theorem Rb.cap {w : World} {S : Nat → Prop} {a : Option Addr} {c L : Nat} {l : Bs} (h : Rb w S (.slice a L c) l) : l.length ≤ c ∧ c ≤ maxLen := by
  obtain ⟨⟨a', c', hv, h1, h2, h3, h4⟩, hb⟩ := h
  simp only [Value.slice.injEq] at hv
  obtain ⟨_, _, rfl⟩ := hv
  exact ⟨h1, h2⟩

set_option maxHeartbeats 1600000 in
theorem refCut_fails (w : World) (gr : Nat) (s : ByteArray) (n : Int) (E : Nat) (hE : ((E : Int) != 0) = true) (HF : Hid (Calls Try.prog 53 #[.pointer (some ⟨gr, 0, none⟩), .string s] w fun e w' => e = .returned (.tuple #[.int .i64 0, .int .i64 (E : Int)]) ∧ w' = w)) :
    Calls Try.prog 36 #[.pointer (some ⟨gr, 0, none⟩), .string s, .int .i64 n] w fun e w' => e = .returned (.int .i64 (E : Int)) ∧ w' = w := by
  go_enter Try.func36, Try.ntmps36
  go_wp2_with fail
  refine HF.out.mono ?_
  rintro e w1 ⟨rfl, hw1⟩
  rw [hw1]
  clear hw1 w1
  go_wp2
  go_ret
  exact ⟨rfl, rfl⟩
set_option maxHeartbeats 1600000 in
theorem refCut_out (w : World) (gr g k L cap : Nat) (s : ByteArray) (a1 : Option Addr) (L1 c1 : Nat) (n : Int) (hn : n < 0 ∨ (L1 : Int) < n) (hk : (k : Int) < (L : Int)) (HF : Hid (Calls Try.prog 53 #[.pointer (some ⟨gr, 0, none⟩), .string s] w fun e w' => e = .returned (.tuple #[.int .i64 (k : Int), .int .i64 0]) ∧ w' = w))
    (h0 : w.cell? ⟨gr, 0, none⟩ = some (.slice (some ⟨g, 0, none⟩) L cap)) (h1 : w.cell? ⟨g, k * 3 + 1, none⟩ = some (.slice a1 L1 c1)) :
    Calls Try.prog 36 #[.pointer (some ⟨gr, 0, none⟩), .string s, .int .i64 n] w fun e w' => e = .returned (.int .i64 1) ∧ w.grownBy w' none := by
  by_cases h : n < 0
  · clear hn
    go_enter Try.func36, Try.ntmps36
    go_wp2_with fail
    refine HF.out.mono ?_
    rintro e w1 ⟨rfl, hw1⟩
    rw [hw1]
    clear hw1 w1
    go_wp2
    go_ret
    exact ⟨rfl, gb_refl _ _⟩
  · have h2 : (L1 : Int) < n := by omega
    clear hn
    go_enter Try.func36, Try.ntmps36
    go_wp2_with fail
    refine HF.out.mono ?_
    rintro e w1 ⟨rfl, hw1⟩
    rw [hw1]
    clear hw1 w1
    go_wp2
    go_ret
    exact ⟨rfl, gb_refl _ _⟩
set_option maxHeartbeats 1600000 in
theorem refCut_in1 (w : World) (gr g k L cap : Nat) (s : ByteArray) (a1 : Option Addr) (L1 c1 z n : Nat) (hn : (n : Int) ≤ (L1 : Int)) (hc : (L1 : Int) ≤ (c1 : Int)) (hk : (k : Int) < (L : Int)) (HF : Hid (Calls Try.prog 53 #[.pointer (some ⟨gr, 0, none⟩), .string s] w fun e w' => e = .returned (.tuple #[.int .i64 (k : Int), .int .i64 0]) ∧ w' = w))
    (h0 : w.cell? ⟨gr, 0, none⟩ = some (.slice (some ⟨g, 0, none⟩) L cap)) (h1 : w.cell? ⟨g, k * 3 + 1, none⟩ = some (.slice a1 L1 c1))
    (f1 : w.frozen? ⟨g, k * 3 + 1, none⟩ = false) (j0 : ∀ x, (w.setCell ⟨g, k * 3 + 1, none⟩ x).cell? ⟨gr, 0, none⟩ = some (.slice (some ⟨g, 0, none⟩) L cap)) (j2 : ∀ x, (w.setCell ⟨g, k * 3 + 1, none⟩ x).cell? ⟨g, k * 3 + 2, none⟩ = some (.int .i64 (z : Int)))
    (hm : (z : Int) ≤ (n : Int)) :
    Calls Try.prog 36 #[.pointer (some ⟨gr, 0, none⟩), .string s, .int .i64 (n : Int)] w fun e w' => e = .returned (.int .i64 0) ∧ w' = (w.setCell ⟨g, k * 3 + 1, none⟩ (.slice a1 n c1)).drew := by
  go_enter Try.func36, Try.ntmps36
  go_wp2_with fail
  refine HF.out.mono ?_
  rintro e w1 ⟨rfl, hw1⟩
  rw [hw1]
  clear hw1 w1
  go_wp2_with fail
  go_region
  all_goals (try go_wp2)
  all_goals go_ret
  all_goals exact ⟨rfl, rfl⟩
set_option maxHeartbeats 1600000 in
theorem refCut_in2 (w : World) (gr g k L cap : Nat) (s : ByteArray) (a1 : Option Addr) (L1 c1 z n : Nat) (hn : (n : Int) ≤ (L1 : Int)) (hc : (L1 : Int) ≤ (c1 : Int)) (hk : (k : Int) < (L : Int)) (HF : Hid (Calls Try.prog 53 #[.pointer (some ⟨gr, 0, none⟩), .string s] w fun e w' => e = .returned (.tuple #[.int .i64 (k : Int), .int .i64 0]) ∧ w' = w))
    (h0 : w.cell? ⟨gr, 0, none⟩ = some (.slice (some ⟨g, 0, none⟩) L cap)) (h1 : w.cell? ⟨g, k * 3 + 1, none⟩ = some (.slice a1 L1 c1))
    (f1 : w.frozen? ⟨g, k * 3 + 1, none⟩ = false) (j0 : ∀ x, (w.setCell ⟨g, k * 3 + 1, none⟩ x).cell? ⟨gr, 0, none⟩ = some (.slice (some ⟨g, 0, none⟩) L cap)) (j2 : ∀ x, (w.setCell ⟨g, k * 3 + 1, none⟩ x).cell? ⟨g, k * 3 + 2, none⟩ = some (.int .i64 (z : Int))) (f2 : ∀ x, (w.setCell ⟨g, k * 3 + 1, none⟩ x).frozen? ⟨g, k * 3 + 2, none⟩ = false)
    (hm : (n : Int) < (z : Int)) :
    Calls Try.prog 36 #[.pointer (some ⟨gr, 0, none⟩), .string s, .int .i64 (n : Int)] w fun e w' => e = .returned (.int .i64 0) ∧ w' = ((w.setCell ⟨g, k * 3 + 1, none⟩ (.slice a1 n c1)).setCell ⟨g, k * 3 + 2, none⟩ (.int .i64 (n : Int))).drew := by
  go_enter Try.func36, Try.ntmps36
  go_wp2_with fail
  refine HF.out.mono ?_
  rintro e w1 ⟨rfl, hw1⟩
  rw [hw1]
  clear hw1 w1
  go_wp2_with fail
  go_region
  all_goals (try go_wp2)
  all_goals go_ret
  all_goals exact ⟨rfl, rfl⟩
theorem set_comm (w : World) (g i j : Nat) (x y : Value) (hij : i ≠ j) : (w.setCell ⟨g, i, none⟩ x).setCell ⟨g, j, none⟩ y = (w.setCell ⟨g, j, none⟩ y).setCell ⟨g, i, none⟩ x := by
  simp only [World.setCell]
  congr 1
  apply Array.ext_getElem?
  intro b
  simp only [Array.getElem?_modify]
  by_cases hb : g = b
  · subst hb
    simp only [if_true]
    cases w.heap[g]? with
    | none => rfl
    | some o =>
      cases o with
      | cells cur t fr =>
        simp only [Option.map_some, Option.some.injEq]
        congr 1
        apply Array.ext_getElem?
        intro m
        show ((cur.setIfInBounds i x).setIfInBounds j y)[m]? = ((cur.setIfInBounds j y).setIfInBounds i x)[m]?
        simp only [Array.getElem?_setIfInBounds, Array.size_setIfInBounds]
        by_cases h1 : i = m
        · subst h1
          have h2 : ¬ j = i := fun e => hij e.symm
          simp [h2]
        · by_cases h2 : j = m
          · subst h2
            simp [h1]
          · simp [h1, h2]
      | _ => rfl
  · simp [hb]
/-- CUT -/
theorem refCut_ok (w : World) (S : Nat → Prop) (gr N : Nat) (M : Fls) (l : Bs) (n : Int) (hl : l.length ≤ 9223372036854775807) (h : RefOK w S gr M N) :
    Calls Try.prog 36 #[.pointer (some ⟨gr, 0, none⟩), .string (ByteArray.mk ⟨l⟩), .int .i64 n] w fun e w' =>
      e = .returned (.int .i64 (cutE M l n : Int)) ∧ Ch w w' S ∧ RefOK w' (Gr S w w') gr (cutM M l n) N := by
  by_cases hE : findE M l = 0
  · have h' := h
    obtain ⟨v, rs, hW, hM, rfl⟩ := h
    obtain ⟨k, hk, hnm, hMl, hf⟩ := refFind_yes w S gr v rs M l hl hW hM hE
    obtain ⟨g, cap, rfl, -, -, hcells⟩ := hW.cells (by intro e; rw [e] at hk; simp at hk)
    obtain ⟨a1, c1, hval⟩ : ∃ a1 c1, (rs.getD k rfZ).val = .slice a1 (rs.getD k rfZ).bytes.length c1 := by obtain ⟨⟨a, c, e, _⟩, _⟩ := hW.each _ (getD_mem hk); exact ⟨a, c, e⟩
    have hc := hcells k hk
    have hrb := hW.each _ (getD_mem hk)
    have hfit := hW.fits _ (getD_mem hk)
    rw [hval] at hrb
    have hcp := hrb.cap.1
    by_cases hn : 0 ≤ n ∧ n ≤ ((rs.getD k rfZ).bytes.length : Int)
    · obtain ⟨K, rfl⟩ := Int.eq_ofNat_of_zero_le hn.1
      have e1 : cutE M l (K : Int) = 0 := by simp only [cutE, hMl, if_pos hn]
      have e2 : cutM M l (K : Int) = upd M l (some ((rs.getD k rfZ).bytes.take K, min (rs.getD k rfZ).synced K)) := by simp only [cutM, hMl, if_pos hn, Int.toNat_natCast]
      rw [e1, e2]
      have hgr : gr ≠ g := fun e => hW.ne_row (by rw [e]; rfl)
      obtain ⟨cur, ho⟩ := hW.row_obj (k := g) rfl
      have hf1 : w.frozen? ⟨g, k * 3 + 1, none⟩ = false := by simp [World.frozen?, ho]
      have hbx : w.cell? ⟨gr, 0, none⟩ = some (.slice (some ⟨g, 0, none⟩) rs.length cap) := by simp [World.cell?, hW.box]
      have hob : ∀ x, (w.setCell ⟨g, k * 3 + 1, none⟩ x).heap[g]? = some (.cells (cur.setIfInBounds (k * 3 + 1) x) 56 (0, 0)) := fun x => by simp [World.setCell, Array.getElem?_modify, ho]
      have j0 : ∀ x, (w.setCell ⟨g, k * 3 + 1, none⟩ x).cell? ⟨gr, 0, none⟩ = some (.slice (some ⟨g, 0, none⟩) rs.length cap) := fun x => by
        rw [← hbx]
        exact World.cell?_of_block (Below.heap_setCell _ _ _ _ hgr)
      have j2 : ∀ x, (w.setCell ⟨g, k * 3 + 1, none⟩ x).cell? ⟨g, k * 3 + 2, none⟩ = some (.int .i64 ((rs.getD k rfZ).synced : Int)) := fun x => by
        rw [← hc.2.2]
        simp [World.cell?, hob, ho]
      have f2 : ∀ x, (w.setCell ⟨g, k * 3 + 1, none⟩ x).frozen? ⟨g, k * 3 + 2, none⟩ = false := fun x => by simp [World.frozen?, hob]
      have hKl : K ≤ (rs.getD k rfZ).bytes.length := by omega
      have htl : ((rs.getD k rfZ).bytes.take K).length = K := by rw [List.length_take]; omega
      by_cases hz : (rs.getD k rfZ).synced ≤ K
      · have em : min (rs.getD k rfZ).synced K = (rs.getD k rfZ).synced := by omega
        rw [em]
        refine (refCut_in1 w gr g k rs.length cap _ a1 (rs.getD k rfZ).bytes.length c1 (rs.getD k rfZ).synced K hn.2 (by omega) (by omega) hf hbx (by rw [hc.2.1, hval]) hf1 j0 j2 (by omega)).mono ?_
        rintro e w' ⟨rfl, rfl⟩
        have ht := hW.turned hM hk ⟨(rs.getD k rfZ).name, .slice a1 K c1, (rs.getD k rfZ).bytes.take K, (rs.getD k rfZ).synced⟩ rfl 1 (.slice a1 K c1) (by omega) rfl (S' := S) (fun _ h => h) (hrb.head K hKl) ⟨by rw [htl]; exact hz, by rw [htl]; omega⟩
        refine ⟨rfl, ht.2.2.2.trans (Ch.of_gb (S := fun _ => False) (gb_drew _ none) (fun k hk => by cases hk)) (fun _ _ h => h.elim), RefOK.gr ⟨_, _, ht.1.drew, ?_, ht.2.2.1⟩⟩
        intro l'
        rw [← hnm]
        exact ht.2.1 l'
      · have em : min (rs.getD k rfZ).synced K = K := by omega
        rw [em]
        refine (refCut_in2 w gr g k rs.length cap _ a1 (rs.getD k rfZ).bytes.length c1 (rs.getD k rfZ).synced K hn.2 (by omega) (by omega) hf hbx (by rw [hc.2.1, hval]) hf1 j0 j2 f2 (by omega)).mono ?_
        rintro e w' ⟨rfl, rfl⟩
        rw [set_comm w g (k * 3 + 1) (k * 3 + 2) _ _ (by omega)]
        have ht := hW.turned hM hk ⟨(rs.getD k rfZ).name, (rs.getD k rfZ).val, (rs.getD k rfZ).bytes, K⟩ rfl 2 (.int .i64 (K : Int)) (by omega) rfl (S' := S) (fun _ h => h) (hW.each (rs.getD k rfZ) (getD_mem hk)) ⟨hKl, hfit.2.2⟩
        have ht1 := ht.1
        rw [← ht.2.2.1] at ht1
        have hk2 : k < (rs.take k ++ (⟨(rs.getD k rfZ).name, (rs.getD k rfZ).val, (rs.getD k rfZ).bytes, K⟩ : RF) :: rs.drop (k + 1)).length := by rw [ht.2.2.1]; exact hk
        have hg2 : (rs.take k ++ (⟨(rs.getD k rfZ).name, (rs.getD k rfZ).val, (rs.getD k rfZ).bytes, K⟩ : RF) :: rs.drop (k + 1)).getD k rfZ = ⟨(rs.getD k rfZ).name, (rs.getD k rfZ).val, (rs.getD k rfZ).bytes, K⟩ := by
          have hAl : (rs.take k).length = k := by rw [List.length_take]; omega
          rw [List.getD_eq_getElem?_getD, List.getElem?_append_right (by omega), hAl]
          simp
        have hrb2 : Rb (w.setCell ⟨g, k * 3 + 2, none⟩ (.int .i64 (K : Int))) S (.slice a1 (rs.getD k rfZ).bytes.length c1) (rs.getD k rfZ).bytes := by
          have := ht1.each _ (getD_mem hk2)
          rw [hg2] at this
          rw [← hval]
          exact this
        have hu := ht1.turned ht.2.1 hk2 ⟨(rs.getD k rfZ).name, .slice a1 K c1, (rs.getD k rfZ).bytes.take K, K⟩ (by rw [hg2]) 1 (.slice a1 K c1) (by omega) (by rw [hg2]; rfl) (S' := S) (fun _ h => h) (hrb2.head K hKl) ⟨by rw [htl]; exact Nat.le_refl _, by rw [htl]; omega⟩
        refine ⟨rfl, (ht.2.2.2.trans hu.2.2.2 (fun _ _ h => h)).trans (Ch.of_gb (S := fun _ => False) (gb_drew _ none) (fun k hk => by cases hk)) (fun _ _ h => h.elim), RefOK.gr ⟨_, _, hu.1.drew, ?_, hu.2.2.1.trans ht.2.2.1⟩⟩
        intro l'
        have := hu.2.1 l'
        rw [hg2, upd_upd] at this
        rw [← hnm]
        exact this
    · have e1 : cutE M l n = 1 := by simp only [cutE, hMl, if_neg hn]
      have e2 : cutM M l n = M := by simp only [cutM, hMl, if_neg hn]
      rw [e1, e2]
      refine (refCut_out w gr g k rs.length cap _ a1 (rs.getD k rfZ).bytes.length c1 n (by omega) (by omega) hf (by simp [World.cell?, hW.box]) (by rw [hc.2.1, hval])).mono ?_
      rintro e w' ⟨rfl, hg⟩
      have hch : Ch w w' (fun _ => False) := Ch.of_gb hg (fun k hk => by cases hk)
      exact ⟨rfl, hch.mono (fun _ _ h => h.elim), RefOK.gr (h'.frame hch (fun _ _ _ h => h))⟩
  · have hM := Hnone h hE
    have e1 : cutE M l n = findE M l := by simp [cutE, hM]
    have e2 : cutM M l n = M := by simp [cutM, hM]
    rw [e1, e2]
    refine (refCut_fails w gr _ n (findE M l) (E_ne hE) (refFind_no w S gr N M l hl h hE)).mono ?_
    rintro e w' ⟨rfl, rfl⟩
    exact ⟨rfl, Ch.refl _ _, RefOK.gr h⟩
end Go.Proofs.Ytgafmplmngbbfaa
