/-
  LbRf, LbRs, LbRt, LbRm, in one text.
-/
import Derived.Test.YtkcgikgihbglnaaDoorLbMd
import Derived.Test.YtkcgikgihbglnaaDoorLbSp
/- LbRf -/
namespace Go.Proofs.YtkcgikgihbglnaaDoor
open Go.RowKit

/-- one label in a new box, to be appended -/
theorem box_rdc (w : World) (x y : ByteArray) : RdC (w.alloc (.cells #[.string x, .string y] 56)) (some ⟨w.heap.size, 0, none⟩) [.string x, .string y] := by
  intro j u hj
  refine ⟨_, rfl, ?_⟩
  rw [Go.WideShapes.add_plain]
  have ha := Go.heap_alloc_new w (.cells #[.string x, .string y] 56)
  simp only [World.cell?, ha]
  simpa using hj
theorem box_rdc1 (w : World) (C : Obj) (x y : ByteArray) : RdC ((w.alloc C).alloc (.cells #[.string x, .string y] 56)) (some ⟨w.heap.size + 1, 0, none⟩) [.string x, .string y] := by
  have h := box_rdc (w.alloc C) x y
  rwa [World.size_alloc] at h
theorem two_one (x y : ByteArray) : ∀ u ∈ [Value.string x, Value.string y], u.oneCell' = true := by
  intro u hu
  simp only [List.mem_cons, List.not_mem_nil, or_false] at hu
  rcases hu with rfl | rfl <;> rfl
theorem OwnL.snoc {w : World} {base : Nat} {v : Value} {ls : List LbT} {x y : List UInt8} (h : w.ownsRow base 56 2 v (ls.length + 1) (lbf ls ++ [.string (ByteArray.mk ⟨x⟩), .string (ByteArray.mk ⟨y⟩)])) : OwnL w base v (ls ++ [(x, y)]) := by
  unfold OwnL
  rw [List.length_append, lbf_append]
  exact h
theorem OwnL.nil (w : World) (base : Nat) : OwnL w base (.slice none 0 0) [] := World.ownsRow_nil w base _ _

set_option maxRecDepth 8000 in
set_option maxHeartbeats 3200000 in
theorem refFull_any (w : World) (v : Value) (ls : List LbT) (hv : RdL w v ls) (hl : ls.length ≤ 4398046511104) :
    Calls Tryd.prog 51 #[v] w fun e w' => ∃ v', e = .returned v' ∧ OwnL w' w.heap.size v' (fullL ls) ∧ w.grownBy w' none := by
  have HV : Hid (RdL w v ls) := hv
  obtain ⟨a, c, rfl, hc1, hc2, hc3, hc4⟩ := hv
  unfold maxLen at hc2
  clear hc3 hc4
  obtain ⟨i0, hi, hz0, hz1, hz2⟩ := info_parts infoLb
  have HI : Hid (Tryd.prog.info? 56 = some i0 ∧ i0.zero = some (.agg #[.string ⟨#[]⟩, .string ⟨#[]⟩]) ∧ i0.size = 2 ∧ i0.bytes = 32) := ⟨hi, hz0, hz1, hz2⟩
  clear hi hz0 hz1 hz2
  go_enter Tryd.func51, Tryd.ntmps51
  go_wp2
  go_loopw [3, 8] (fun u i wr => ∃ z : Nat, z ≤ ls.length ∧ i = .int .i64 z ∧ Hid (OwnL wr w.heap.size u (fullL (ls.take z)) ∧ w.grownBy wr none)) (fun _ i _ => ls.length - (intOf i).toNat)
  case atStart => exact ⟨0, by omega, rfl, OwnL.nil _ _, gb_refl _ _⟩
  case round =>
    obtain ⟨z, hzN, rfl, hr⟩ := hrel
    by_cases hzl : z < ls.length
    · obtain ⟨a', c', he, -, -, h3, -⟩ := HV.out.keep hr.out.2
      simp only [Value.slice.injEq] at he
      obtain ⟨rfl, -, rfl⟩ := he
      obtain ⟨b, o, rfl, c0, c1⟩ := h3 z hzl
      have hzi : (z : Int) < (ls.length : Int) := by omega
      have hbl : ¬ b = wr.heap.size := by have := block_lt c0; omega
      have hbl2 : ¬ wr.heap.size = b := by omega
      have hstep := full_take_step hzl
      have hle : (fullL (ls.take z)).length ≤ 4398046511104 := by have := full_len (ls.take z); simp at this; omega
      clear h3
      by_cases hn : (ls.getD z ([], [])).2 = []
      · rw [hn] at c1
        rw [if_pos hn, List.append_nil] at hstep
        have HE : Hid (∀ C, OwnL (wr.alloc C) w.heap.size u3 (fullL (ls.take (z + 1))) ∧ w.grownBy (wr.alloc C) none) := fun C => ⟨by rw [hstep]; exact hr.out.1.keep (World.grownBy_alloc _ _ none), gb_none hr.out.2 (World.grownBy_alloc _ _ none)⟩
        clear hr hstep hn HV
        generalize ByteArray.mk ⟨(ls.getD z ([], [])).1⟩ = sn at *
        go_wp2
        go_roundw
        case rel => exact ⟨z + 1, by omega, by simp, HE.out _⟩
        case measure => simp [intOf]; omega
      · obtain ⟨e1, e2, e3⟩ := empty_facts hn
        rw [if_neg hn] at hstep
        have HE : Hid (OwnL wr w.heap.size u3 (fullL (ls.take z)) ∧ w.grownBy wr none ∧ fullL (ls.take (z + 1)) = fullL (ls.take z) ++ [((ls.getD z ([], [])).1, (ls.getD z ([], [])).2)]) := ⟨hr.out.1, hr.out.2, hstep⟩
        clear hr hstep hn HV
        generalize hsn : (ls.getD z ([], [])).1 = tn at *
        generalize hsv : (ls.getD z ([], [])).2 = tv at *
        clear hsn hsv
        go_wp2_with (at_builtin; refine wp_appH rfl _ _ 22 56 rfl i0 _ 2 32 w.heap.size Tryd.underlying22 HI.out.1 HI.out.2.1 HI.out.2.2.1 HI.out.2.2.2 rfl (by decide) _ (fullL (ls.take z)).length (lbf (fullL (ls.take z))) (some ⟨wr.heap.size + 1, 0, none⟩) 1 1 [.string (ByteArray.mk ⟨tn⟩), .string (ByteArray.mk ⟨tv⟩)] rfl rfl (World.ownsRow.alloc (World.ownsRow.alloc HE.out.1 _) _) rfl (box_rdc1 wr _ _ _) (fun h => by cases h) (two_one _ _) (by omega) (by omega) (by have := HE.out.2.1.size; simp; omega) ?_)
        intro v1 w1 ho1 hf1
        have hg1 : wr.grownBy w1 u3.ownBlock := gb_trans (gb_any (gb_none (World.grownBy_alloc wr (.cells #[.string (ByteArray.mk ⟨tn⟩), .string (ByteArray.mk ⟨tv⟩)] 56) none) (World.grownBy_alloc _ (.cells #[.string (ByteArray.mk ⟨tn⟩), .string (ByteArray.mk ⟨tv⟩)] 56) none)) _) hf1.1 (fun k hk _ => hk.symm)
        have H1 : Hid (OwnL w1 w.heap.size v1 (fullL (ls.take (z + 1))) ∧ w.grownBy w1 none) := ⟨by rw [HE.out.2.2]; exact OwnL.snoc ho1, gb_new HE.out.2.1 hg1 (fun k hk => (HE.out.1.lt k hk).1)⟩
        clear ho1 hf1 hg1 HE
        go_wp2
        go_roundw
        case rel => exact ⟨z + 1, by omega, by simp, H1.out⟩
        case measure => simp [intOf]; omega
    · have hzi : ¬ (z : Int) < (ls.length : Int) := by omega
      have HE : Hid (OwnL wr w.heap.size u3 (fullL ls) ∧ w.grownBy wr none) := ⟨by have := hr.out.1; rwa [List.take_of_length_le (by omega)] at this, hr.out.2⟩
      clear hr
      go_wp2
      go_ret
      exact ⟨_, rfl, HE.out⟩
end Go.Proofs.YtkcgikgihbglnaaDoor

/- LbRs -/
namespace Go.Proofs.YtkcgikgihbglnaaDoor
open Go.RowKit

/-- a list with a gap, in which y stands -/
def gapL (P : List LbT) (k : Nat) (y : LbT) : List LbT := P.take k ++ y :: P.drop k
theorem gap_len (P : List LbT) (k : Nat) (y : LbT) (hk : k ≤ P.length) : (gapL P k y).length = P.length + 1 := by simp [gapL]; omega
theorem gap_at (P : List LbT) (k : Nat) (y : LbT) (hk : k ≤ P.length) : (gapL P k y).getD k ([], []) = y := by
  have h : (P.take k).length = k := by simp; omega
  simp [gapL, List.getD, h]
theorem gap_ahead (P : List LbT) (k j : Nat) (y : LbT) (hk : k ≤ P.length) (hj : j < k) : (gapL P k y).getD j ([], []) = P.getD j ([], []) := by
  have h : (P.take k).length = k := by simp; omega
  simp only [gapL, List.getD]
  rw [List.getElem?_append_left (by omega), List.getElem?_take, if_pos hj]
theorem gap_set (P : List LbT) (k : Nat) (y z : LbT) (hk : k ≤ P.length) : (gapL P k y).set k z = gapL P k z := by
  have h : (P.take k).length = k := by simp; omega
  unfold gapL
  rw [List.set_append_right _ _ (by omega), h, Nat.sub_self, List.set_cons_zero]
theorem gap_move (P : List LbT) (k : Nat) (z : LbT) (hk : k < P.length) (hz : z = P.getD k ([], [])) : gapL P (k + 1) z = gapL P k z := by
  have e : P.getD k ([], []) = P[k] := by simp [List.getD, hk]
  rw [e] at hz
  subst hz
  unfold gapL
  rw [List.take_succ_eq_append_getElem hk, List.append_assoc, List.drop_eq_getElem_cons hk]
  rfl
theorem gap_end (P : List LbT) (x : LbT) : gapL P P.length x = P ++ [x] := by simp [gapL]
theorem gap_perm (P : List LbT) (k : Nat) (x : LbT) : (gapL P k x).Perm (P ++ [x]) := by
  unfold gapL
  refine List.perm_middle.trans ?_
  rw [List.take_append_drop]
  exact (List.perm_append_comm (l₁ := [x]) (l₂ := P))
theorem gap_srt {P : List LbT} {k : Nat} {x : LbT} (hs : srtN P) (hb : ∀ p ∈ P.drop k, x.1 < p.1) (ha : ∀ p ∈ P.take k, ¬ x.1 < p.1) : srtN (gapL P k x) := by
  have hs2 : srtN (P.take k ++ P.drop k) := by rw [List.take_append_drop]; exact hs
  obtain ⟨h1, h2, h3⟩ := List.pairwise_append.1 hs2
  refine List.pairwise_append.2 ⟨h1, List.pairwise_cons.2 ⟨fun p hp h => List.lt_irrefl _ (List.lt_trans h (hb p hp)), h2⟩, fun p hp q hq => ?_⟩
  rcases List.mem_cons.1 hq with rfl | hq
  · exact ha p hp
  · exact h3 p hp q hq
/-- where the one ahead of the gap is not above x, none is -/
theorem ahead_all {P : List LbT} {k : Nat} {x : LbT} (hk : k < P.length) (hs : srtN P) (h : ¬ x.1 < (P.getD k ([], [])).1) : ∀ p ∈ P.take (k + 1), ¬ x.1 < p.1 := by
  intro p hp hlt
  have e : P.getD k ([], []) = P[k] := by simp [List.getD, hk]
  rw [e] at h
  rw [List.take_succ_eq_append_getElem hk] at hp
  rcases List.mem_append.1 hp with hp | hp
  · obtain ⟨j, hj, rfl⟩ := List.getElem_of_mem hp
    have hj' : j < k := by simp at hj; omega
    have := List.pairwise_iff_getElem.1 hs j k (by omega) hk hj'
    rw [List.getElem_take] at hlt
    rcases lt_tri P[j].1 P[k].1 with h1 | h1 | h1
    · exact h (List.lt_trans hlt h1)
    · rw [h1] at hlt; exact h hlt
    · exact this h1
  · have : p = P[k] := by simpa using hp
    subst this
    exact h hlt

theorem str_aft {a b : List UInt8} (h : a < b) : Op.bytesLess (ByteArray.mk ⟨b⟩).toList (ByteArray.mk ⟨a⟩).toList = false ∧ ((ByteArray.mk ⟨b⟩).toList == (ByteArray.mk ⟨a⟩).toList) = false := by
  rw [ByteArray.toList_eq, ByteArray.toList_eq, bytesLess_eq]
  refine ⟨decide_eq_false (fun h2 => List.lt_irrefl a (List.lt_trans h h2)), ?_⟩
  rw [beq_eq_false_iff_ne]
  intro e
  have e : b = a := e
  subst e
  exact List.lt_irrefl b h
theorem str_upt {a b : List UInt8} (h : ¬ a < b) : (Op.bytesLess (ByteArray.mk ⟨b⟩).toList (ByteArray.mk ⟨a⟩).toList || (ByteArray.mk ⟨b⟩).toList == (ByteArray.mk ⟨a⟩).toList) = true := by
  rw [ByteArray.toList_eq, ByteArray.toList_eq, bytesLess_eq, Bool.or_eq_true]
  rcases lt_tri a b with h1 | h1 | h1
  · exact absurd h1 h
  · right; subst h1; exact beq_self_eq_true _
  · left; exact decide_eq_true h1

set_option maxRecDepth 8000 in
set_option maxHeartbeats 6400000 in
theorem refSorted_any (w : World) (v : Value) (ls : List LbT) (hv : RdL w v ls) (hl : ls.length ≤ 4398046511104) :
    Calls Tryd.prog 50 #[v] w fun e w' => ∃ v' P, e = .returned v' ∧ OwnL w' w.heap.size v' P ∧ P.Perm ls ∧ srtN P ∧ w.grownBy w' none := by
  have HV : Hid (RdL w v ls) := hv
  obtain ⟨a, c, rfl, hc1, hc2, hc3, hc4⟩ := hv
  unfold maxLen at hc2
  clear hc3 hc4
  obtain ⟨i0, hi, hz0, hz1, hz2⟩ := info_parts infoLb
  have HI : Hid (Tryd.prog.info? 56 = some i0 ∧ i0.zero = some (.agg #[.string ⟨#[]⟩, .string ⟨#[]⟩]) ∧ i0.size = 2 ∧ i0.bytes = 32) := ⟨hi, hz0, hz1, hz2⟩
  clear hi hz0 hz1 hz2
  go_enter Tryd.func50, Tryd.ntmps50
  go_wp2
  go_loopw [3, 9] (fun u i wr => ∃ z : Nat, z ≤ ls.length ∧ i = .int .i64 z ∧ Hid (∃ P, OwnL wr w.heap.size u P ∧ P.Perm (ls.take z) ∧ srtN P ∧ w.grownBy wr none)) (fun _ i _ => ls.length - (intOf i).toNat)
  case atStart => exact ⟨0, by omega, rfl, [], OwnL.nil _ _, .refl _, List.Pairwise.nil, gb_refl _ _⟩
  case round =>
    obtain ⟨z, hzN, rfl, hr⟩ := hrel
    obtain ⟨P, hP1, hP2, hP3, hP4⟩ := hr.out
    clear hr
    by_cases hzl : z < ls.length
    · obtain ⟨a', c', he, -, -, h3, -⟩ := HV.out.keep hP4
      simp only [Value.slice.injEq] at he
      obtain ⟨rfl, -, rfl⟩ := he
      obtain ⟨b, o, rfl, c0, c1⟩ := h3 z hzl
      have hzi : (z : Int) < (ls.length : Int) := by omega
      have hbl : ¬ b = wr.heap.size := by have := block_lt c0; omega
      have hbl2 : ¬ wr.heap.size = b := by omega
      have hPl : P.length ≤ 4398046511104 := by have := hP2.length_eq; simp at this; omega
      have HP : Hid (OwnL wr w.heap.size u3 P ∧ P.Perm (ls.take z) ∧ srtN P ∧ w.grownBy wr none) := ⟨hP1, hP2, hP3, hP4⟩
      obtain ⟨pa, pc, rfl⟩ := hP1.shape
      clear h3 hP1 hP2 hP3 hP4
      have HX : Hid (∃ x : LbT, x = ls.getD z ([], [])) := ⟨_, rfl⟩
      obtain ⟨x, hx⟩ := HX.out
      rw [← hx] at c0 c1
      have HXE : Hid (x = ls.getD z ([], [])) := hx
      clear hx HX
      obtain ⟨xn, xv⟩ := x
      dsimp only at c0 c1
      go_wp2_with (at_builtin; refine wp_appH rfl _ _ 22 56 rfl i0 _ 2 32 w.heap.size Tryd.underlying22 HI.out.1 HI.out.2.1 HI.out.2.2.1 HI.out.2.2.2 rfl (by decide) _ P.length (lbf P) (some ⟨wr.heap.size + 1, 0, none⟩) 1 1 [.string (ByteArray.mk ⟨xn⟩), .string (ByteArray.mk ⟨xv⟩)] rfl rfl (World.ownsRow.alloc (World.ownsRow.alloc HP.out.1 _) _) rfl (box_rdc1 wr _ _ _) (fun h => by cases h) (two_one _ _) (by omega) (by omega) (by have := HP.out.2.2.2.size; simp; omega) ?_)
      intro v1 w1 ho1 hf1
      have ho2 : OwnL w1 w.heap.size v1 (P ++ [(xn, xv)]) := OwnL.snoc ho1
      obtain ⟨g, cap, rfl, hg0, hg1, hcap, hcm, -⟩ := ho2.form (by simp)
      have hlen : (P ++ [(xn, xv)]).length = P.length + 1 := by simp
      rw [hlen] at hcap ho2 hf1 ⊢
      have hne : ∀ k, Value.ownBlock (.slice pa P.length pc) = some k → k < wr.heap.size := fun k hk => (HP.out.1.lt k hk).2
      have hgb : g ≠ wr.heap.size := by
        rcases hf1.2 g rfl with h | h
        · exact Nat.ne_of_lt (hne g h.symm)
        · simp at h; omega
      have HW1 : Hid (OwnL w1 w.heap.size (.slice (some ⟨g, 0, none⟩) (P.length + 1) cap) (gapL P P.length (xn, xv)) ∧ w.grownBy w1 none ∧ w1.heap[wr.heap.size]? = some (.cells #[.string (ByteArray.mk ⟨xn⟩), .string (ByteArray.mk ⟨xv⟩)] 56 (0, 0))) := by
        refine ⟨by rw [gap_end]; exact ho2, ?_, ?_⟩
        · exact gb_new (gb_none HP.out.2.2.2 (gb_none (World.grownBy_alloc wr _ none) (World.grownBy_alloc _ _ none))) hf1.1 (fun k hk => (HP.out.1.lt k hk).1)
        · have e1 := hf1.1.block wr.heap.size (by simp; omega) (fun e => by have := hne _ e.symm; omega)
          have e2 := (World.grownBy_alloc (wr.alloc (.cells #[.string (ByteArray.mk ⟨xn⟩), .string (ByteArray.mk ⟨xv⟩)] 56)) (.cells #[.string (ByteArray.mk ⟨xn⟩), .string (ByteArray.mk ⟨xv⟩)] 56) none).block wr.heap.size (by simp) (by simp)
          exact e1.trans (e2.trans (Go.heap_alloc_new wr _))
      clear ho1 ho2 hf1 hg0 hg1 hlen hne
      generalize hb0 : wr.heap.size = b0 at *
      clear hb0 c0 c1 hbl hbl2
      go_wp2
      go_loopw [6] (fun i wr => ∃ k : Nat, k ≤ P.length ∧ i = .int .i64 k ∧ Hid (∃ y, OwnL wr w.heap.size (.slice (some ⟨g, 0, none⟩) (P.length + 1) cap) (gapL P k y) ∧ w.grownBy wr none ∧ wr.heap[b0]? = some (.cells #[.string (ByteArray.mk ⟨xn⟩), .string (ByteArray.mk ⟨xv⟩)] 56 (0, 0)) ∧ ∀ p ∈ P.drop k, xn < p.1)) (fun i _ => (intOf i).toNat)
      case atStart => exact ⟨P.length, by omega, rfl, _, HW1.out.1, HW1.out.2.1, HW1.out.2.2, by simp⟩
      case round =>
        obtain ⟨k, hkN, rfl, hr⟩ := hrel
        obtain ⟨y, hQ1, hQ2, hQ3, hQ4⟩ := hr.out
        have d0 : wr.cell? ⟨b0, 0, none⟩ = some (.string (ByteArray.mk ⟨xn⟩)) := by simp [World.cell?, hQ3]
        have d1 : wr.cell? ⟨b0, 1, none⟩ = some (.string (ByteArray.mk ⟨xv⟩)) := by simp [World.cell?, hQ3]
        have hcell : ∀ j, j < P.length + 1 → wr.cell? ⟨g, j * 2, none⟩ = some (.string (ByteArray.mk ⟨((gapL P k y).getD j ([], [])).1⟩)) ∧ wr.cell? ⟨g, j * 2 + 1, none⟩ = some (.string (ByteArray.mk ⟨((gapL P k y).getD j ([], [])).2⟩)) := by
          obtain ⟨g', cap', he, -, -, -, -, h⟩ := OwnL.form (w := wr) (base := w.heap.size) (v := .slice (some ⟨g, 0, none⟩) (P.length + 1) cap) (ls := gapL P k y) hQ1 (by rw [gap_len P k y hkN]; omega)
          rw [gap_len P k y hkN] at h
          simp only [Value.slice.injEq, Option.some.injEq, Addr.mk.injEq] at he
          obtain ⟨⟨rfl, -, -⟩, -, -⟩ := he
          exact h
        have hgw : w.heap.size ≤ g := (OwnL.lt hQ1 g rfl).1
        by_cases hk0 : k = 0
        · subst hk0
          have hgd : decide ((0 : Nat) < 0) = false := rfl
          have f0 := hQ1.frozen (0 * 2)
          have f1 := hQ1.frozen (0 * 2 + 1)
          have hlt : (0 : Int) < ((P.length + 1 : Nat) : Int) := by omega
          have hlt2 : (0 : Int) < (P.length : Int) + 1 := by omega
          have q0 := (hcell 0 (by omega)).1
          have q1 := (hcell 0 (by omega)).2
          rw [gap_at P 0 y hkN] at q0 q1
          have HE : Hid (∃ P', OwnL ((wr.setCell ⟨g, 0 * 2, none⟩ (.string (ByteArray.mk ⟨xn⟩))).setCell ⟨g, 0 * 2 + 1, none⟩ (.string (ByteArray.mk ⟨xv⟩))) w.heap.size (.slice (some ⟨g, 0, none⟩) (P.length + 1) cap) P' ∧ P'.Perm (ls.take (z + 1)) ∧ srtN P' ∧ w.grownBy ((wr.setCell ⟨g, 0 * 2, none⟩ (.string (ByteArray.mk ⟨xn⟩))).setCell ⟨g, 0 * 2 + 1, none⟩ (.string (ByteArray.mk ⟨xv⟩))) none) := by
            obtain ⟨s1, s2⟩ := hQ1.set 0 (xn, xv)
            rw [gap_set P 0 y _ hkN] at s1
            refine ⟨_, s1, ?_, gap_srt HP.out.2.2.1 hQ4 (by simp), gb_new hQ2 s2 (fun k' hk' => by cases hk'; exact hgw)⟩
            rw [List.take_succ_eq_append_getElem hzl]
            have e : ls[z] = (xn, xv) := by rw [HXE.out]; simp [List.getD, hzl]
            rw [e]
            exact (gap_perm P 0 _).trans (HP.out.2.1.append_right _)
          clear HP HXE hr hQ1 hQ2 hQ3 hQ4 hcell HW1
          generalize ByteArray.mk ⟨y.1⟩ = y1 at *
          generalize ByteArray.mk ⟨y.2⟩ = y2 at *
          go_wp2_with fail
          go_region
          go_wp2
          go_roundw
          case rel =>
            obtain ⟨P', r1, r2, r3, r4⟩ := HE.out
            exact ⟨z + 1, by omega, by simp, P', r1.keep (gb_drew _ none), r2, r3, gb_none r4 (gb_drew _ none)⟩
          case measure => simp [intOf]; omega
        · obtain ⟨y', hy'⟩ : ∃ y', k = y' + 1 := ⟨k - 1, by omega⟩
          have hyi : (k : Int) - 1 = (y' : Int) := by omega
          have hyl : y' < P.length := by omega
          have hpos : (0 : Int) < (k : Int) := by omega
          have hgd : decide (0 < k) = true := decide_eq_true (by omega)
          have hgd2 : decide ((0 : Int) < (k : Int)) = true := decide_eq_true hpos
          have hyn : (y' : Int) < (P.length : Int) + 1 := by omega
          have p0 := (hcell y' (by omega)).1
          have p1 := (hcell y' (by omega)).2
          rw [gap_ahead P k y' y hkN (by omega)] at p0 p1
          by_cases hcmp : xn < (P.getD y' ([], [])).1
          · obtain ⟨hb1, hb2⟩ := str_aft hcmp
            have f0 := hQ1.frozen (k * 2)
            have f1 := hQ1.frozen (k * 2 + 1)
            have hlt2 : (k : Int) < (P.length : Int) + 1 := by omega
            have q0 := (hcell k (by omega)).1
            have q1 := (hcell k (by omega)).2
            rw [gap_at P k y hkN] at q0 q1
            have HE : Hid (∃ y, OwnL ((wr.setCell ⟨g, k * 2, none⟩ (.string (ByteArray.mk ⟨(P.getD y' ([], [])).1⟩))).setCell ⟨g, k * 2 + 1, none⟩ (.string (ByteArray.mk ⟨(P.getD y' ([], [])).2⟩))) w.heap.size (.slice (some ⟨g, 0, none⟩) (P.length + 1) cap) (gapL P y' y) ∧ w.grownBy ((wr.setCell ⟨g, k * 2, none⟩ (.string (ByteArray.mk ⟨(P.getD y' ([], [])).1⟩))).setCell ⟨g, k * 2 + 1, none⟩ (.string (ByteArray.mk ⟨(P.getD y' ([], [])).2⟩))) none ∧ ((wr.setCell ⟨g, k * 2, none⟩ (.string (ByteArray.mk ⟨(P.getD y' ([], [])).1⟩))).setCell ⟨g, k * 2 + 1, none⟩ (.string (ByteArray.mk ⟨(P.getD y' ([], [])).2⟩))).heap[b0]? = some (.cells #[.string (ByteArray.mk ⟨xn⟩), .string (ByteArray.mk ⟨xv⟩)] 56 (0, 0)) ∧ ∀ p ∈ P.drop y', xn < p.1) := by
              obtain ⟨s1, s2⟩ := hQ1.set k (P.getD y' ([], []))
              rw [gap_set P k y _ hkN] at s1
              refine ⟨P.getD y' ([], []), ?_, gb_new hQ2 s2 (fun k' hk' => by cases hk'; exact hgw), ?_, ?_⟩
              · rw [← gap_move P y' _ hyl rfl, ← hy']; exact s1
              · rw [s2.block b0 (Array.getElem?_eq_some_iff.1 hQ3).1 (by intro e; injection e with e; exact hgb e.symm)]; exact hQ3
              · intro p hp
                rw [List.drop_eq_getElem_cons hyl] at hp
                rcases List.mem_cons.1 hp with rfl | hp
                · have e : P.getD y' ([], []) = P[y'] := by simp [List.getD, hyl]
                  rw [← e]; exact hcmp
                · exact hQ4 p (by rw [hy']; exact hp)
            clear hr hQ1 hQ2 hQ3 hQ4 hcell HW1 hcmp hy'
            generalize ByteArray.mk ⟨y.1⟩ = y1 at *
            generalize ByteArray.mk ⟨y.2⟩ = y2 at *
            generalize ByteArray.mk ⟨(P.getD y' ([], [])).1⟩ = sm at *
            generalize ByteArray.mk ⟨(P.getD y' ([], [])).2⟩ = su at *
            generalize ByteArray.mk ⟨xn⟩ = sn at *
            go_wp2_with fail
            go_region
            go_wp2
            go_roundw
            case rel =>
              obtain ⟨y2, r1, r2, r3, r4⟩ := HE.out
              exact ⟨y', by omega, by go_num, y2, r1.keep (gb_drew _ none), gb_none r2 (gb_drew _ none), r3, r4⟩
            case measure => simp [intOf]; omega
          · have hb1 := str_upt hcmp
            have hb2 : (!Op.bytesLess (ByteArray.mk ⟨(P.getD y' ([], [])).1⟩).toList (ByteArray.mk ⟨xn⟩).toList && !((ByteArray.mk ⟨(P.getD y' ([], [])).1⟩).toList == (ByteArray.mk ⟨xn⟩).toList)) = false := by rw [← Bool.not_or, hb1]; rfl
            have hall : ∀ p ∈ P.take k, ¬ xn < p.1 := by rw [hy']; exact ahead_all (x := (xn, xv)) hyl HP.out.2.2.1 hcmp
            have f0 := hQ1.frozen (k * 2)
            have f1 := hQ1.frozen (k * 2 + 1)
            have hlt : (k : Int) < ((P.length + 1 : Nat) : Int) := by omega
            have hlt2 : (k : Int) < (P.length : Int) + 1 := by omega
            have q0 := (hcell k (by omega)).1
            have q1 := (hcell k (by omega)).2
            rw [gap_at P k y hkN] at q0 q1
            have HE : Hid (∃ P', OwnL ((wr.setCell ⟨g, k * 2, none⟩ (.string (ByteArray.mk ⟨xn⟩))).setCell ⟨g, k * 2 + 1, none⟩ (.string (ByteArray.mk ⟨xv⟩))) w.heap.size (.slice (some ⟨g, 0, none⟩) (P.length + 1) cap) P' ∧ P'.Perm (ls.take (z + 1)) ∧ srtN P' ∧ w.grownBy ((wr.setCell ⟨g, k * 2, none⟩ (.string (ByteArray.mk ⟨xn⟩))).setCell ⟨g, k * 2 + 1, none⟩ (.string (ByteArray.mk ⟨xv⟩))) none) := by
              obtain ⟨s1, s2⟩ := hQ1.set k (xn, xv)
              rw [gap_set P k y _ hkN] at s1
              refine ⟨_, s1, ?_, gap_srt HP.out.2.2.1 hQ4 (hall), gb_new hQ2 s2 (fun k' hk' => by cases hk'; exact hgw)⟩
              rw [List.take_succ_eq_append_getElem hzl]
              have e : ls[z] = (xn, xv) := by rw [HXE.out]; simp [List.getD, hzl]
              rw [e]
              exact (gap_perm P k _).trans (HP.out.2.1.append_right _)
            clear hall hcmp hy' HP HXE hr hQ1 hQ2 hQ3 hQ4 hcell HW1
            generalize ByteArray.mk ⟨y.1⟩ = y1 at *
            generalize ByteArray.mk ⟨y.2⟩ = y2 at *
            generalize ByteArray.mk ⟨(P.getD y' ([], [])).1⟩ = sm at *
            generalize ByteArray.mk ⟨(P.getD y' ([], [])).2⟩ = su at *
            generalize ByteArray.mk ⟨xn⟩ = sn at *
            go_wp2_with fail
            go_region
            go_wp2
            go_roundw
            case rel =>
              obtain ⟨P', r1, r2, r3, r4⟩ := HE.out
              exact ⟨z + 1, by omega, by simp, P', r1.keep (gb_drew _ none), r2, r3, gb_none r4 (gb_drew _ none)⟩
            case measure => simp [intOf]; omega
    · have hzi : ¬ (z : Int) < (ls.length : Int) := by omega
      have HE : Hid (OwnL wr w.heap.size u3 P ∧ P.Perm ls ∧ srtN P ∧ w.grownBy wr none) := ⟨hP1, by rwa [List.take_of_length_le (by omega)] at hP2, hP3, hP4⟩
      clear hP1 hP2 hP3 hP4
      go_wp2
      go_ret
      first | exact ⟨_, P, rfl, HE.out⟩ | exact ⟨_, rfl, P, HE.out⟩
end Go.Proofs.YtkcgikgihbglnaaDoor

/- LbRt -/
namespace Go.Proofs.YtkcgikgihbglnaaDoor
open Go.RowKit

theorem nd_of_all {ls : List LbT} (h : ∀ j, j < ls.length → ∀ i, i < j → (ls.getD i ([], [])).1 ≠ (ls.getD j ([], [])).1) : ndN ls := by
  refine List.pairwise_iff_getElem.2 fun i j hi hj hij => ?_
  have := h j hj i hij
  have e1 : ls.getD j ([], []) = ls[j] := by simp [List.getD, hj]
  have e2 : ls.getD i ([], []) = ls[i] := by simp [List.getD, hi]
  rwa [e1, e2] at this
theorem not_nd_of {ls : List LbT} {i j : Nat} (hj : j < ls.length) (hi : i < j) (h : (ls.getD i ([], [])).1 = (ls.getD j ([], [])).1) : ¬ ndN ls := by
  intro hn
  have := List.pairwise_iff_getElem.1 hn i j (by omega) hj hi
  have e1 : ls.getD j ([], []) = ls[j] := by simp [List.getD, hj]
  have e2 : ls.getD i ([], []) = ls[i]'(by omega) := by simp [List.getD, show i < ls.length by omega]
  rw [e1, e2] at h
  exact this h

set_option maxRecDepth 8000 in
set_option maxHeartbeats 3200000 in
theorem refTwice_any (w : World) (v : Value) (ls : List LbT) (hv : RdL w v ls) :
    Calls Tryd.prog 49 #[v] w fun e w' => e = .returned (.bool (dupB ls)) ∧ w.grownBy w' none := by
  have HV : Hid (RdL w v ls) := hv
  obtain ⟨a, c, rfl, hc1, hc2, hc3, hc4⟩ := hv
  unfold maxLen at hc2
  clear hc3 hc4
  have HT : Hid (∀ i j, j < ls.length → i < j → (ls.getD i ([], [])).1 = (ls.getD j ([], [])).1 → dupB ls = true) := fun i j hj hi h => dupB_dup (not_nd_of hj hi h)
  have HF : Hid ((∀ j, j < ls.length → ∀ i, i < j → (ls.getD i ([], [])).1 ≠ (ls.getD j ([], [])).1) → dupB ls = false) := fun h => dupB_nd (nd_of_all h)
  generalize dupB ls = B at *
  go_enter Tryd.func49, Tryd.ntmps49
  go_wp2
  go_loopw [9] (fun i wr => ∃ z : Nat, z ≤ ls.length ∧ i = .int .i64 z ∧ Hid (w.grownBy wr none ∧ ∀ j, j < z → ∀ i, i < j → (ls.getD i ([], [])).1 ≠ (ls.getD j ([], [])).1)) (fun i _ => ls.length - (intOf i).toNat)
  case atStart => exact ⟨0, by omega, rfl, gb_refl _ _, fun j hj => by omega⟩
  case round =>
    obtain ⟨z, hzN, rfl, hr⟩ := hrel
    by_cases hzl : z < ls.length
    · obtain ⟨a', c', he, -, -, h3, -⟩ := HV.out.keep hr.out.1
      simp only [Value.slice.injEq] at he
      obtain ⟨rfl, -, rfl⟩ := he
      obtain ⟨b, o, rfl, c0, c1⟩ := h3 z hzl
      have hzi : (z : Int) < (ls.length : Int) := by omega
      have hzc : (z : Int) ≤ (c : Int) := by omega
      have hbl : ¬ b = wr.heap.size := by have := block_lt c0; omega
      have hbl2 : ¬ wr.heap.size = b := by omega
      have HW : Hid (w.grownBy wr none ∧ ∀ j, j < z → ∀ i, i < j → (ls.getD i ([], [])).1 ≠ (ls.getD j ([], [])).1) := hr.out
      have HZ : Hid (∃ sz sy, sz = ByteArray.mk ⟨(ls.getD z ([], [])).1⟩ ∧ sy = ByteArray.mk ⟨(ls.getD z ([], [])).2⟩) := ⟨_, _, rfl, rfl⟩
      obtain ⟨sz, sy, hsz, hsy⟩ := HZ.out
      rw [← hsz] at c0
      rw [← hsy] at c1
      have HSZ : Hid (sz = ByteArray.mk ⟨(ls.getD z ([], [])).1⟩) := hsz
      clear h3 hr hsz hsy HZ
      go_wp2
      have HB : Hid ((wr.alloc (.cells #[.string sz, .string sy] 56)).heap[wr.heap.size]? = some (.cells #[.string sz, .string sy] 56 (0, 0))) := Go.heap_alloc_new wr _
      have HG0 : Hid (wr.grownBy (wr.alloc (.cells #[.string sz, .string sy] 56)) none) := World.grownBy_alloc _ _ none
      generalize hb0 : wr.heap.size = b0 at *
      generalize wr.alloc (.cells #[.string sz, .string sy] 56) = w0 at *
      have HG1 : Hid (w.grownBy w0 none) := gb_none HW.out.1 HG0.out
      clear hb0
      go_loopw [18] (fun i wr2 => ∃ y : Nat, y ≤ z ∧ i = .int .i64 y ∧ Hid (w0.grownBy wr2 none ∧ ∀ i, i < y → (ls.getD i ([], [])).1 ≠ (ls.getD z ([], [])).1)) (fun i _ => z - (intOf i).toNat)
      case atStart => exact ⟨0, by omega, rfl, gb_refl _ _, fun j hj => by omega⟩
      case round =>
        obtain ⟨y, hyN, rfl, hr⟩ := hrel
        have hbb := (hr.out.1.block b0 (Array.getElem?_eq_some_iff.1 HB.out).1 (by simp)).trans HB.out
        have d0 : wr.cell? ⟨b0, 0, none⟩ = some (.string sz) := by simp [World.cell?, hbb]
        have d1 : wr.cell? ⟨b0, 1, none⟩ = some (.string sy) := by simp [World.cell?, hbb]
        have hb1 : ¬ b0 = wr.heap.size := by have := block_lt d0; omega
        have hb2 : ¬ wr.heap.size = b0 := by omega
        have d2 : ∀ C, (wr.alloc C).cell? ⟨b0, 0, none⟩ = some (.string sz) := fun C => (World.cell?_of_block ((World.grownBy_alloc wr C none).block b0 (block_lt d0) (by simp))).trans d0
        clear hbb
        by_cases hyl : y < z
        · obtain ⟨a', c', he, -, -, h3, -⟩ := HV.out.keep (gb_none HG1.out hr.out.1)
          simp only [Value.slice.injEq] at he
          obtain ⟨e1, -, rfl⟩ := he
          obtain ⟨b', o', e2, f0, f1⟩ := h3 y (by omega)
          rw [← e1] at e2
          simp only [Option.some.injEq, Addr.mk.injEq] at e2
          obtain ⟨rfl, rfl, -⟩ := e2
          have hyi : (y : Int) < (z : Int) := by omega
          have hb3 : ¬ b = wr.heap.size := by have := block_lt f0; omega
          have hb4 : ¬ wr.heap.size = b := by omega
          have HE : Hid (∀ C, w0.grownBy (wr.alloc C) none ∧ w.grownBy (wr.alloc C) none) := fun C => ⟨gb_none hr.out.1 (World.grownBy_alloc _ _ none), gb_none HG1.out (gb_none hr.out.1 (World.grownBy_alloc _ _ none))⟩
          clear h3 e1
          by_cases hn : (ls.getD y ([], [])).1 = (ls.getD z ([], [])).1
          · have hB : B = true := HT.out y z hzl hyl hn
            subst hB
            rw [hn, ← HSZ.out] at f0
            clear hr HT HF hn
            generalize ByteArray.mk ⟨(ls.getD y ([], [])).2⟩ = sv at *
            go_wp2
            go_ret
            exact ⟨rfl, (HE.out _).2⟩
          · have hes : ((ByteArray.mk ⟨(ls.getD y ([], [])).1⟩).toList == sz.toList) = false := by
              rw [HSZ.out, ByteArray.toList_eq, ByteArray.toList_eq, beq_eq_false_iff_ne]
              exact hn
            have hes3 : (sz.toList == (ByteArray.mk ⟨(ls.getD y ([], [])).1⟩).toList) = false := by
              rw [beq_eq_false_iff_ne] at hes ⊢
              exact fun h => hes h.symm
            have hes2 : ¬ sz.toList = (ByteArray.mk ⟨(ls.getD y ([], [])).1⟩).toList := by simpa using hes3
            have H2 : Hid (∀ i, i < y + 1 → (ls.getD i ([], [])).1 ≠ (ls.getD z ([], [])).1) := fun i hi => by
              by_cases e : i = y
              · rw [e]; exact hn
              · exact hr.out.2 i (by omega)
            clear hr HT HF hn hes
            generalize ByteArray.mk ⟨(ls.getD y ([], [])).1⟩ = st at *
            generalize ByteArray.mk ⟨(ls.getD y ([], [])).2⟩ = sv at *
            go_wp2
            go_roundw
            case rel => exact ⟨y + 1, by omega, by simp, (HE.out _).1, H2.out⟩
            case measure => simp [intOf]; omega
        · have hyi : ¬ (y : Int) < (z : Int) := by omega
          have H2 : Hid (w.grownBy wr none ∧ ∀ j, j < z + 1 → ∀ i, i < j → (ls.getD i ([], [])).1 ≠ (ls.getD j ([], [])).1) := ⟨gb_none HG1.out hr.out.1, fun j hj i hi => by
            by_cases e : j = z
            · subst e; exact hr.out.2 i (by omega)
            · exact HW.out.2 j (by omega) i hi⟩
          clear hr HT HF
          go_wp2
          go_roundw
          case rel => exact ⟨z + 1, by omega, by simp, H2.out⟩
          case measure => simp [intOf]; omega
    · have hzi : ¬ (z : Int) < (ls.length : Int) := by omega
      have hB : B = false := HF.out (fun j hj => hr.out.2 j (by omega))
      subst hB
      have HE : Hid (w.grownBy wr none) := hr.out.1
      clear hr HT HF
      go_wp2
      go_ret
      exact ⟨rfl, HE.out⟩
end Go.Proofs.YtkcgikgihbglnaaDoor

/- LbRm -/
namespace Go.Proofs.YtkcgikgihbglnaaDoor
open Go.RowKit

theorem OwnL.mono {w : World} {base base' : Nat} {v : Value} {ls : List LbT} (h : OwnL w base v ls) (hb : base' ≤ base) : OwnL w base' v ls := by
  obtain ⟨h1, h2⟩ := h
  refine ⟨h1, ?_⟩
  rcases h2 with h2 | ⟨g, cap, cur, hv, hg, r⟩
  · exact .inl h2
  · exact .inr ⟨g, cap, cur, hv, by omega, r⟩
theorem madeS_nd {ls : List LbT} (hn : ndN ls) : madeS ls = if (rightS (sortN (fullL ls))).1 = 0 then (sortN (fullL ls), 0, 0) else ([], (rightS (sortN (fullL ls))).1, (rightS (sortN (fullL ls))).2) := by
  unfold madeS
  rw [if_pos hn]
theorem madeS_dup {ls : List LbT} (hn : ¬ ndN ls) : madeS ls = ([], 6, 0) := by
  unfold madeS
  rw [if_neg hn]
theorem sort_len (ls : List LbT) : (sortN (fullL ls)).length ≤ ls.length := by rw [(sortN_perm _).length_eq]; exact full_len ls

set_option maxRecDepth 8000 in
set_option maxHeartbeats 3200000 in
theorem refMake_any (w : World) (v : Value) (ls : List LbT) (hv : RdL w v ls) (hl : LbIn ls) (hll : ls.length ≤ 4398046511104) :
    Calls Tryd.prog 19 #[v] w fun e w' => ∃ v', e = .returned (.tuple #[v', .int .i64 (madeS ls).2.1]) ∧ OwnL w' w.heap.size v' (madeS ls).1 ∧ w.grownBy w' none := by
  have HT : Hid (Calls Tryd.prog 49 #[v] w fun e w' => e = .returned (.bool (dupB ls)) ∧ w.grownBy w' none) := refTwice_any w v ls hv
  by_cases hn : ndN ls
  · have hd := dupB_nd hn
    rw [hd] at HT
    have HM := madeS_nd hn
    have HF : Hid (∀ W, w.grownBy W none → Calls Tryd.prog 51 #[v] W fun e w' => ∃ v', e = .returned v' ∧ OwnL w' W.heap.size v' (fullL ls) ∧ W.grownBy w' none) := fun W hW => refFull_any W v ls (hv.keep hW) hll
    have HS : Hid (∀ W u, RdL W u (fullL ls) → Calls Tryd.prog 50 #[u] W fun e w' => ∃ v', e = .returned v' ∧ OwnL w' W.heap.size v' (sortN (fullL ls)) ∧ W.grownBy w' none) := fun W u hu => (refSorted_any W u _ hu (by have := full_len ls; omega)).mono fun e w' ⟨v', P, h1, h2, h3, h4, h5⟩ => ⟨v', h1, by rw [← sort_uniq h3 h4 (full_nd hn)]; exact h2, h5⟩
    have HR : Hid (∀ W u, RdL W u (sortN (fullL ls)) → Calls Tryd.prog 11 #[u] W fun e w' => e = .returned (.tuple #[.int .i64 (rightS (sortN (fullL ls))).1, .int .i64 ((rightS (sortN (fullL ls))).2 : Int)]) ∧ W.grownBy w' none) := fun W u hu => refRight_any W u _ hu hl.made
    have HV : Hid (RdL w v ls) := hv
    rw [HM]
    clear hd hn HM hv hl
    generalize sortN (fullL ls) = S at *
    generalize (rightS S).1 = r1 at *
    generalize (rightS S).2 = r2 at *
    by_cases hr : r1 = 0
    · subst hr
      rw [if_pos rfl]
      dsimp only
      go_enter Tryd.func19, Tryd.ntmps19
      go_wp2_with fail
      refine HT.out.mono ?_
      rintro e w1 ⟨rfl, hg1⟩
      have H1 : Hid (w.grownBy w1 none) := hg1
      clear HT hg1
      go_wp2_with fail
      refine (HF.out _ H1.out).mono ?_
      rintro e w2 ⟨v2, rfl, ho2, hg2⟩
      have H2 : Hid (OwnL w2 w1.heap.size v2 (fullL ls) ∧ w.grownBy w2 none) := ⟨ho2, gb_none H1.out hg2⟩
      clear HF ho2 hg2
      go_wp2_with fail
      refine (HS.out _ _ H2.out.1.rd).mono ?_
      rintro e w3 ⟨v3, rfl, ho3, hg3⟩
      have H3 : Hid (OwnL w3 w.heap.size v3 S ∧ w.grownBy w3 none) := ⟨ho3.mono H2.out.2.size, gb_none H2.out.2 hg3⟩
      clear HS ho3 hg3 H2 H1
      go_wp2_with fail
      refine (HR.out _ _ H3.out.1.rd).mono ?_
      rintro e w4 ⟨rfl, hg4⟩
      have H4 : Hid (OwnL w4 w.heap.size v3 S ∧ w.grownBy w4 none) := ⟨H3.out.1.keep hg4, gb_none H3.out.2 hg4⟩
      clear HR hg4 H3
      go_wp2
      go_ret2
      exact ⟨_, rfl, H4.out⟩
    · rw [if_neg hr]
      dsimp only
      have hrb : (r1 == 0) = false := by rw [beq_eq_false_iff_ne]; exact hr
      go_enter Tryd.func19, Tryd.ntmps19
      go_wp2_with fail
      refine HT.out.mono ?_
      rintro e w1 ⟨rfl, hg1⟩
      have H1 : Hid (w.grownBy w1 none) := hg1
      clear HT hg1
      go_wp2_with fail
      refine (HF.out _ H1.out).mono ?_
      rintro e w2 ⟨v2, rfl, ho2, hg2⟩
      have H2 : Hid (OwnL w2 w1.heap.size v2 (fullL ls) ∧ w.grownBy w2 none) := ⟨ho2, gb_none H1.out hg2⟩
      clear HF ho2 hg2
      go_wp2_with fail
      refine (HS.out _ _ H2.out.1.rd).mono ?_
      rintro e w3 ⟨v3, rfl, ho3, hg3⟩
      have H3 : Hid (OwnL w3 w.heap.size v3 S ∧ w.grownBy w3 none) := ⟨ho3.mono H2.out.2.size, gb_none H2.out.2 hg3⟩
      clear HS ho3 hg3 H2 H1
      go_wp2_with fail
      refine (HR.out _ _ H3.out.1.rd).mono ?_
      rintro e w4 ⟨rfl, hg4⟩
      have H4 : Hid (w.grownBy w4 none) := gb_none H3.out.2 hg4
      clear HR hg4 H3
      go_wp2
      go_ret2
      exact ⟨_, rfl, OwnL.nil _ _, H4.out⟩
  · have hd := dupB_dup hn
    rw [hd] at HT
    rw [madeS_dup hn]
    dsimp only
    clear hn hd hv hl
    go_enter Tryd.func19, Tryd.ntmps19
    go_wp2_with fail
    refine HT.out.mono ?_
    rintro e w1 ⟨rfl, hg1⟩
    have H1 : Hid (w.grownBy w1 none) := hg1
    clear HT hg1
    go_wp2
    go_ret2
    exact ⟨_, rfl, OwnL.nil _ _, H1.out⟩
end Go.Proofs.YtkcgikgihbglnaaDoor
