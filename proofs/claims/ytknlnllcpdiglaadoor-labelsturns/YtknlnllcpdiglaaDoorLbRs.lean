/-
  The document's sorted: the walk.
-/
import Derived.Test.YtknlnllcpdiglaaDoorLbRf
namespace Go.Proofs.YtknlnllcpdiglaaDoor
open Go.RowKit

/-- a list with a gap, in which y stands -/
def gapL (P : List LbT) (k : Nat) (y : LbT) : List LbT := P.take k ++ y :: P.drop k
theorem gap_len (P : List LbT) (k : Nat) (y : LbT) (hk : k ≤ P.length) : (gapL P k y).length = P.length + 1 := by simp [gapL]; omega
theorem gap_at (P : List LbT) (k : Nat) (y : LbT) (hk : k ≤ P.length) : (gapL P k y).getD k ([], []) = y := by
  have h : (P.take k).length = k := by simp; omega
  simp [gapL, List.getD, h]
theorem gap_ahead (P : List LbT) (k j : Nat) (y : LbT) (hk : k ≤ P.length) (hj : j < k) : (gapL P k y).getD j ([], []) = P.getD j ([], []) := by
  have h : (P.take k).length = k := by simp; omega
  simp only [gapL, List.getD]
  rw [List.getElem?_append_left (by omega), List.getElem?_take, if_pos hj]
theorem gap_set (P : List LbT) (k : Nat) (y z : LbT) (hk : k ≤ P.length) : (gapL P k y).set k z = gapL P k z := by
  have h : (P.take k).length = k := by simp; omega
  unfold gapL
  rw [List.set_append_right _ _ (by omega), h, Nat.sub_self, List.set_cons_zero]
theorem gap_move (P : List LbT) (k : Nat) (z : LbT) (hk : k < P.length) (hz : z = P.getD k ([], [])) : gapL P (k + 1) z = gapL P k z := by
  have e : P.getD k ([], []) = P[k] := by simp [List.getD, hk]
  rw [e] at hz
  subst hz
  unfold gapL
  rw [List.take_succ_eq_append_getElem hk, List.append_assoc, List.drop_eq_getElem_cons hk]
  rfl
theorem gap_end (P : List LbT) (x : LbT) : gapL P P.length x = P ++ [x] := by simp [gapL]
theorem gap_perm (P : List LbT) (k : Nat) (x : LbT) : (gapL P k x).Perm (P ++ [x]) := by
  unfold gapL
  refine List.perm_middle.trans ?_
  rw [List.take_append_drop]
  exact (List.perm_append_comm (l₁ := [x]) (l₂ := P))
theorem gap_srt {P : List LbT} {k : Nat} {x : LbT} (hs : srtN P) (hb : ∀ p ∈ P.drop k, x.1 < p.1) (ha : ∀ p ∈ P.take k, ¬ x.1 < p.1) : srtN (gapL P k x) := by
  have hs2 : srtN (P.take k ++ P.drop k) := by rw [List.take_append_drop]; exact hs
  obtain ⟨h1, h2, h3⟩ := List.pairwise_append.1 hs2
  refine List.pairwise_append.2 ⟨h1, List.pairwise_cons.2 ⟨fun p hp h => List.lt_irrefl _ (List.lt_trans h (hb p hp)), h2⟩, fun p hp q hq => ?_⟩
  rcases List.mem_cons.1 hq with rfl | hq
  · exact ha p hp
  · exact h3 p hp q hq
/-- where the one ahead of the gap is not above x, none is -/
theorem ahead_all {P : List LbT} {k : Nat} {x : LbT} (hk : k < P.length) (hs : srtN P) (h : ¬ x.1 < (P.getD k ([], [])).1) : ∀ p ∈ P.take (k + 1), ¬ x.1 < p.1 := by
  intro p hp hlt
  have e : P.getD k ([], []) = P[k] := by simp [List.getD, hk]
  rw [e] at h
  rw [List.take_succ_eq_append_getElem hk] at hp
  rcases List.mem_append.1 hp with hp | hp
  · obtain ⟨j, hj, rfl⟩ := List.getElem_of_mem hp
    have hj' : j < k := by simp at hj; omega
    have := List.pairwise_iff_getElem.1 hs j k (by omega) hk hj'
    rw [List.getElem_take] at hlt
    rcases lt_tri P[j].1 P[k].1 with h1 | h1 | h1
    · exact h (List.lt_trans hlt h1)
    · rw [h1] at hlt; exact h hlt
    · exact this h1
  · have : p = P[k] := by simpa using hp
    subst this
    exact h hlt

theorem str_aft {a b : List UInt8} (h : a < b) : Op.bytesLess (ByteArray.mk ⟨b⟩).toList (ByteArray.mk ⟨a⟩).toList = false ∧ ((ByteArray.mk ⟨b⟩).toList == (ByteArray.mk ⟨a⟩).toList) = false := by
  rw [ByteArray.toList_eq, ByteArray.toList_eq, bytesLess_eq]
  refine ⟨decide_eq_false (fun h2 => List.lt_irrefl a (List.lt_trans h h2)), ?_⟩
  rw [beq_eq_false_iff_ne]
  intro e
  have e : b = a := e
  subst e
  exact List.lt_irrefl b h
theorem str_upt {a b : List UInt8} (h : ¬ a < b) : (Op.bytesLess (ByteArray.mk ⟨b⟩).toList (ByteArray.mk ⟨a⟩).toList || (ByteArray.mk ⟨b⟩).toList == (ByteArray.mk ⟨a⟩).toList) = true := by
  rw [ByteArray.toList_eq, ByteArray.toList_eq, bytesLess_eq, Bool.or_eq_true]
  rcases lt_tri a b with h1 | h1 | h1
  · exact absurd h1 h
  · right; subst h1; exact beq_self_eq_true _
  · left; exact decide_eq_true h1

set_option maxRecDepth 8000 in
set_option maxHeartbeats 6400000 in
theorem refSorted_any (w : World) (v : Value) (ls : List LbT) (hv : RdL w v ls) (hl : ls.length ≤ 4398046511104) :
    Calls Tryd.prog 50 #[v] w fun e w' => ∃ v' P, e = .returned v' ∧ OwnL w' w.heap.size v' P ∧ P.Perm ls ∧ srtN P ∧ w.grownBy w' none := by
  have HV : Hid (RdL w v ls) := hv
  obtain ⟨a, c, rfl, hc1, hc2, hc3, hc4⟩ := hv
  unfold maxLen at hc2
  clear hc3 hc4
  obtain ⟨i0, hi, hz0, hz1, hz2⟩ := info_parts infoLb
  have HI : Hid (Tryd.prog.info? 56 = some i0 ∧ i0.zero = some (.agg #[.string ⟨#[]⟩, .string ⟨#[]⟩]) ∧ i0.size = 2 ∧ i0.bytes = 32) := ⟨hi, hz0, hz1, hz2⟩
  clear hi hz0 hz1 hz2
  go_enter Tryd.func50, Tryd.ntmps50
  go_wp2
  go_loopw [3, 9] (fun u i wr => ∃ z : Nat, z ≤ ls.length ∧ i = .int .i64 z ∧ Hid (∃ P, OwnL wr w.heap.size u P ∧ P.Perm (ls.take z) ∧ srtN P ∧ w.grownBy wr none)) (fun _ i _ => ls.length - (intOf i).toNat)
  case atStart => exact ⟨0, by omega, rfl, [], OwnL.nil _ _, .refl _, List.Pairwise.nil, gb_refl _ _⟩
  case round =>
    obtain ⟨z, hzN, rfl, hr⟩ := hrel
    obtain ⟨P, hP1, hP2, hP3, hP4⟩ := hr.out
    clear hr
    by_cases hzl : z < ls.length
    · obtain ⟨a', c', he, -, -, h3, -⟩ := HV.out.keep hP4
      simp only [Value.slice.injEq] at he
      obtain ⟨rfl, -, rfl⟩ := he
      obtain ⟨b, o, rfl, c0, c1⟩ := h3 z hzl
      have hzi : (z : Int) < (ls.length : Int) := by omega
      have hbl : ¬ b = wr.heap.size := by have := block_lt c0; omega
      have hbl2 : ¬ wr.heap.size = b := by omega
      have hPl : P.length ≤ 4398046511104 := by have := hP2.length_eq; simp at this; omega
      have HP : Hid (OwnL wr w.heap.size u3 P ∧ P.Perm (ls.take z) ∧ srtN P ∧ w.grownBy wr none) := ⟨hP1, hP2, hP3, hP4⟩
      obtain ⟨pa, pc, rfl⟩ := hP1.shape
      clear h3 hP1 hP2 hP3 hP4
      have HX : Hid (∃ x : LbT, x = ls.getD z ([], [])) := ⟨_, rfl⟩
      obtain ⟨x, hx⟩ := HX.out
      rw [← hx] at c0 c1
      have HXE : Hid (x = ls.getD z ([], [])) := hx
      clear hx HX
      obtain ⟨xn, xv⟩ := x
      dsimp only at c0 c1
      go_wp2_with (at_builtin; refine wp_appH rfl _ _ 22 56 rfl i0 _ 2 32 w.heap.size Tryd.underlying22 HI.out.1 HI.out.2.1 HI.out.2.2.1 HI.out.2.2.2 rfl (by decide) _ P.length (lbf P) (some ⟨wr.heap.size + 1, 0, none⟩) 1 1 [.string (ByteArray.mk ⟨xn⟩), .string (ByteArray.mk ⟨xv⟩)] rfl rfl (World.ownsRow.alloc (World.ownsRow.alloc HP.out.1 _) _) rfl (box_rdc1 wr _ _ _) (fun h => by cases h) (two_one _ _) (by omega) (by omega) (by have := HP.out.2.2.2.size; simp; omega) ?_)
      intro v1 w1 ho1 hf1
      have ho2 : OwnL w1 w.heap.size v1 (P ++ [(xn, xv)]) := OwnL.snoc ho1
      obtain ⟨g, cap, rfl, hg0, hg1, hcap, hcm, -⟩ := ho2.form (by simp)
      have hlen : (P ++ [(xn, xv)]).length = P.length + 1 := by simp
      rw [hlen] at hcap ho2 hf1 ⊢
      have hne : ∀ k, Value.ownBlock (.slice pa P.length pc) = some k → k < wr.heap.size := fun k hk => (HP.out.1.lt k hk).2
      have hgb : g ≠ wr.heap.size := by
        rcases hf1.2 g rfl with h | h
        · exact Nat.ne_of_lt (hne g h.symm)
        · simp at h; omega
      have HW1 : Hid (OwnL w1 w.heap.size (.slice (some ⟨g, 0, none⟩) (P.length + 1) cap) (gapL P P.length (xn, xv)) ∧ w.grownBy w1 none ∧ w1.heap[wr.heap.size]? = some (.cells #[.string (ByteArray.mk ⟨xn⟩), .string (ByteArray.mk ⟨xv⟩)] 56 (0, 0))) := by
        refine ⟨by rw [gap_end]; exact ho2, ?_, ?_⟩
        · exact gb_new (gb_none HP.out.2.2.2 (gb_none (World.grownBy_alloc wr _ none) (World.grownBy_alloc _ _ none))) hf1.1 (fun k hk => (HP.out.1.lt k hk).1)
        · have e1 := hf1.1.block wr.heap.size (by simp; omega) (fun e => by have := hne _ e.symm; omega)
          have e2 := (World.grownBy_alloc (wr.alloc (.cells #[.string (ByteArray.mk ⟨xn⟩), .string (ByteArray.mk ⟨xv⟩)] 56)) (.cells #[.string (ByteArray.mk ⟨xn⟩), .string (ByteArray.mk ⟨xv⟩)] 56) none).block wr.heap.size (by simp) (by simp)
          exact e1.trans (e2.trans (Go.heap_alloc_new wr _))
      clear ho1 ho2 hf1 hg0 hg1 hlen hne
      generalize hb0 : wr.heap.size = b0 at *
      clear hb0 c0 c1 hbl hbl2
      go_wp2
      go_loopw [6] (fun i wr => ∃ k : Nat, k ≤ P.length ∧ i = .int .i64 k ∧ Hid (∃ y, OwnL wr w.heap.size (.slice (some ⟨g, 0, none⟩) (P.length + 1) cap) (gapL P k y) ∧ w.grownBy wr none ∧ wr.heap[b0]? = some (.cells #[.string (ByteArray.mk ⟨xn⟩), .string (ByteArray.mk ⟨xv⟩)] 56 (0, 0)) ∧ ∀ p ∈ P.drop k, xn < p.1)) (fun i _ => (intOf i).toNat)
      case atStart => exact ⟨P.length, by omega, rfl, _, HW1.out.1, HW1.out.2.1, HW1.out.2.2, by simp⟩
      case round =>
        obtain ⟨k, hkN, rfl, hr⟩ := hrel
        obtain ⟨y, hQ1, hQ2, hQ3, hQ4⟩ := hr.out
        have d0 : wr.cell? ⟨b0, 0, none⟩ = some (.string (ByteArray.mk ⟨xn⟩)) := by simp [World.cell?, hQ3]
        have d1 : wr.cell? ⟨b0, 1, none⟩ = some (.string (ByteArray.mk ⟨xv⟩)) := by simp [World.cell?, hQ3]
        have hcell : ∀ j, j < P.length + 1 → wr.cell? ⟨g, j * 2, none⟩ = some (.string (ByteArray.mk ⟨((gapL P k y).getD j ([], [])).1⟩)) ∧ wr.cell? ⟨g, j * 2 + 1, none⟩ = some (.string (ByteArray.mk ⟨((gapL P k y).getD j ([], [])).2⟩)) := by
          obtain ⟨g', cap', he, -, -, -, -, h⟩ := OwnL.form (w := wr) (base := w.heap.size) (v := .slice (some ⟨g, 0, none⟩) (P.length + 1) cap) (ls := gapL P k y) hQ1 (by rw [gap_len P k y hkN]; omega)
          rw [gap_len P k y hkN] at h
          simp only [Value.slice.injEq, Option.some.injEq, Addr.mk.injEq] at he
          obtain ⟨⟨rfl, -, -⟩, -, -⟩ := he
          exact h
        have hgw : w.heap.size ≤ g := (OwnL.lt hQ1 g rfl).1
        by_cases hk0 : k = 0
        · subst hk0
          have hgd : decide ((0 : Nat) < 0) = false := rfl
          have f0 := hQ1.frozen (0 * 2)
          have f1 := hQ1.frozen (0 * 2 + 1)
          have hlt : (0 : Int) < ((P.length + 1 : Nat) : Int) := by omega
          have hlt2 : (0 : Int) < (P.length : Int) + 1 := by omega
          have q0 := (hcell 0 (by omega)).1
          have q1 := (hcell 0 (by omega)).2
          rw [gap_at P 0 y hkN] at q0 q1
          have HE : Hid (∃ P', OwnL ((wr.setCell ⟨g, 0 * 2, none⟩ (.string (ByteArray.mk ⟨xn⟩))).setCell ⟨g, 0 * 2 + 1, none⟩ (.string (ByteArray.mk ⟨xv⟩))) w.heap.size (.slice (some ⟨g, 0, none⟩) (P.length + 1) cap) P' ∧ P'.Perm (ls.take (z + 1)) ∧ srtN P' ∧ w.grownBy ((wr.setCell ⟨g, 0 * 2, none⟩ (.string (ByteArray.mk ⟨xn⟩))).setCell ⟨g, 0 * 2 + 1, none⟩ (.string (ByteArray.mk ⟨xv⟩))) none) := by
            obtain ⟨s1, s2⟩ := hQ1.set 0 (xn, xv)
            rw [gap_set P 0 y _ hkN] at s1
            refine ⟨_, s1, ?_, gap_srt HP.out.2.2.1 hQ4 (by simp), gb_new hQ2 s2 (fun k' hk' => by cases hk'; exact hgw)⟩
            rw [List.take_succ_eq_append_getElem hzl]
            have e : ls[z] = (xn, xv) := by rw [HXE.out]; simp [List.getD, hzl]
            rw [e]
            exact (gap_perm P 0 _).trans (HP.out.2.1.append_right _)
          clear HP HXE hr hQ1 hQ2 hQ3 hQ4 hcell HW1
          generalize ByteArray.mk ⟨y.1⟩ = y1 at *
          generalize ByteArray.mk ⟨y.2⟩ = y2 at *
          go_wp2_with fail
          go_region
          go_wp2
          go_roundw
          case rel =>
            obtain ⟨P', r1, r2, r3, r4⟩ := HE.out
            exact ⟨z + 1, by omega, by simp, P', r1.keep (gb_drew _ none), r2, r3, gb_none r4 (gb_drew _ none)⟩
          case measure => simp [intOf]; omega
        · obtain ⟨y', hy'⟩ : ∃ y', k = y' + 1 := ⟨k - 1, by omega⟩
          have hyi : (k : Int) - 1 = (y' : Int) := by omega
          have hyl : y' < P.length := by omega
          have hpos : (0 : Int) < (k : Int) := by omega
          have hgd : decide (0 < k) = true := decide_eq_true (by omega)
          have hgd2 : decide ((0 : Int) < (k : Int)) = true := decide_eq_true hpos
          have hyn : (y' : Int) < (P.length : Int) + 1 := by omega
          have p0 := (hcell y' (by omega)).1
          have p1 := (hcell y' (by omega)).2
          rw [gap_ahead P k y' y hkN (by omega)] at p0 p1
          by_cases hcmp : xn < (P.getD y' ([], [])).1
          · obtain ⟨hb1, hb2⟩ := str_aft hcmp
            have f0 := hQ1.frozen (k * 2)
            have f1 := hQ1.frozen (k * 2 + 1)
            have hlt2 : (k : Int) < (P.length : Int) + 1 := by omega
            have q0 := (hcell k (by omega)).1
            have q1 := (hcell k (by omega)).2
            rw [gap_at P k y hkN] at q0 q1
            have HE : Hid (∃ y, OwnL ((wr.setCell ⟨g, k * 2, none⟩ (.string (ByteArray.mk ⟨(P.getD y' ([], [])).1⟩))).setCell ⟨g, k * 2 + 1, none⟩ (.string (ByteArray.mk ⟨(P.getD y' ([], [])).2⟩))) w.heap.size (.slice (some ⟨g, 0, none⟩) (P.length + 1) cap) (gapL P y' y) ∧ w.grownBy ((wr.setCell ⟨g, k * 2, none⟩ (.string (ByteArray.mk ⟨(P.getD y' ([], [])).1⟩))).setCell ⟨g, k * 2 + 1, none⟩ (.string (ByteArray.mk ⟨(P.getD y' ([], [])).2⟩))) none ∧ ((wr.setCell ⟨g, k * 2, none⟩ (.string (ByteArray.mk ⟨(P.getD y' ([], [])).1⟩))).setCell ⟨g, k * 2 + 1, none⟩ (.string (ByteArray.mk ⟨(P.getD y' ([], [])).2⟩))).heap[b0]? = some (.cells #[.string (ByteArray.mk ⟨xn⟩), .string (ByteArray.mk ⟨xv⟩)] 56 (0, 0)) ∧ ∀ p ∈ P.drop y', xn < p.1) := by
              obtain ⟨s1, s2⟩ := hQ1.set k (P.getD y' ([], []))
              rw [gap_set P k y _ hkN] at s1
              refine ⟨P.getD y' ([], []), ?_, gb_new hQ2 s2 (fun k' hk' => by cases hk'; exact hgw), ?_, ?_⟩
              · rw [← gap_move P y' _ hyl rfl, ← hy']; exact s1
              · rw [s2.block b0 (Array.getElem?_eq_some_iff.1 hQ3).1 (by intro e; injection e with e; exact hgb e.symm)]; exact hQ3
              · intro p hp
                rw [List.drop_eq_getElem_cons hyl] at hp
                rcases List.mem_cons.1 hp with rfl | hp
                · have e : P.getD y' ([], []) = P[y'] := by simp [List.getD, hyl]
                  rw [← e]; exact hcmp
                · exact hQ4 p (by rw [hy']; exact hp)
            clear hr hQ1 hQ2 hQ3 hQ4 hcell HW1 hcmp hy'
            generalize ByteArray.mk ⟨y.1⟩ = y1 at *
            generalize ByteArray.mk ⟨y.2⟩ = y2 at *
            generalize ByteArray.mk ⟨(P.getD y' ([], [])).1⟩ = sm at *
            generalize ByteArray.mk ⟨(P.getD y' ([], [])).2⟩ = su at *
            generalize ByteArray.mk ⟨xn⟩ = sn at *
            go_wp2_with fail
            go_region
            go_wp2
            go_roundw
            case rel =>
              obtain ⟨y2, r1, r2, r3, r4⟩ := HE.out
              exact ⟨y', by omega, by go_num, y2, r1.keep (gb_drew _ none), gb_none r2 (gb_drew _ none), r3, r4⟩
            case measure => simp [intOf]; omega
          · have hb1 := str_upt hcmp
            have hb2 : (!Op.bytesLess (ByteArray.mk ⟨(P.getD y' ([], [])).1⟩).toList (ByteArray.mk ⟨xn⟩).toList && !((ByteArray.mk ⟨(P.getD y' ([], [])).1⟩).toList == (ByteArray.mk ⟨xn⟩).toList)) = false := by rw [← Bool.not_or, hb1]; rfl
            have hall : ∀ p ∈ P.take k, ¬ xn < p.1 := by rw [hy']; exact ahead_all (x := (xn, xv)) hyl HP.out.2.2.1 hcmp
            have f0 := hQ1.frozen (k * 2)
            have f1 := hQ1.frozen (k * 2 + 1)
            have hlt : (k : Int) < ((P.length + 1 : Nat) : Int) := by omega
            have hlt2 : (k : Int) < (P.length : Int) + 1 := by omega
            have q0 := (hcell k (by omega)).1
            have q1 := (hcell k (by omega)).2
            rw [gap_at P k y hkN] at q0 q1
            have HE : Hid (∃ P', OwnL ((wr.setCell ⟨g, k * 2, none⟩ (.string (ByteArray.mk ⟨xn⟩))).setCell ⟨g, k * 2 + 1, none⟩ (.string (ByteArray.mk ⟨xv⟩))) w.heap.size (.slice (some ⟨g, 0, none⟩) (P.length + 1) cap) P' ∧ P'.Perm (ls.take (z + 1)) ∧ srtN P' ∧ w.grownBy ((wr.setCell ⟨g, k * 2, none⟩ (.string (ByteArray.mk ⟨xn⟩))).setCell ⟨g, k * 2 + 1, none⟩ (.string (ByteArray.mk ⟨xv⟩))) none) := by
              obtain ⟨s1, s2⟩ := hQ1.set k (xn, xv)
              rw [gap_set P k y _ hkN] at s1
              refine ⟨_, s1, ?_, gap_srt HP.out.2.2.1 hQ4 (hall), gb_new hQ2 s2 (fun k' hk' => by cases hk'; exact hgw)⟩
              rw [List.take_succ_eq_append_getElem hzl]
              have e : ls[z] = (xn, xv) := by rw [HXE.out]; simp [List.getD, hzl]
              rw [e]
              exact (gap_perm P k _).trans (HP.out.2.1.append_right _)
            clear hall hcmp hy' HP HXE hr hQ1 hQ2 hQ3 hQ4 hcell HW1
            generalize ByteArray.mk ⟨y.1⟩ = y1 at *
            generalize ByteArray.mk ⟨y.2⟩ = y2 at *
            generalize ByteArray.mk ⟨(P.getD y' ([], [])).1⟩ = sm at *
            generalize ByteArray.mk ⟨(P.getD y' ([], [])).2⟩ = su at *
            generalize ByteArray.mk ⟨xn⟩ = sn at *
            go_wp2_with fail
            go_region
            go_wp2
            go_roundw
            case rel =>
              obtain ⟨P', r1, r2, r3, r4⟩ := HE.out
              exact ⟨z + 1, by omega, by simp, P', r1.keep (gb_drew _ none), r2, r3, gb_none r4 (gb_drew _ none)⟩
            case measure => simp [intOf]; omega
    · have hzi : ¬ (z : Int) < (ls.length : Int) := by omega
      have HE : Hid (OwnL wr w.heap.size u3 P ∧ P.Perm ls ∧ srtN P ∧ w.grownBy wr none) := ⟨hP1, by rwa [List.take_of_length_le (by omega)] at hP2, hP3, hP4⟩
      clear hP1 hP2 hP3 hP4
      go_wp2
      go_ret
      first | exact ⟨_, P, rfl, HE.out⟩ | exact ⟨_, rfl, P, HE.out⟩
end Go.Proofs.YtknlnllcpdiglaaDoor
