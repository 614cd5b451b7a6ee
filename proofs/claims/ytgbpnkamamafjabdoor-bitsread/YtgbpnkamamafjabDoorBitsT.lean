/-
  The document's streams, read: Left, ReadBit, ReadBits: the walks.
-/
import Derived.Test.YtgbpnkamamafjabDoorBitsE7
import Derived.Test.YtgbpnkamamafjabDoorBitsN2
import Derived.Deep.RegionHeld3
namespace Go.Proofs.YtgbpnkamamafjabDoor
open Go.RowKit

theorem OwnB.cellT {w : World} {v : Value} {l : List Bool} (h : OwnB w v l) (hl : l ≠ []) : ∃ g cap, v = .slice (some ⟨g, 0, none⟩) l.length cap ∧ g < w.heap.size ∧ ∀ j, j < l.length → w.cell? ⟨g, j, none⟩ = some (.bool (l.getD j false)) := by
  have h0 := h
  rcases h.2 with ⟨rfl, hn⟩ | ⟨g, cap, cur, rfl, hg, hh, hnc, hcm, hcs, ht⟩
  · exact absurd (List.eq_nil_of_length_eq_zero hn) hl
  · refine ⟨g, cap, rfl, (Array.getElem?_eq_some_iff.1 hh).1, fun j hj => ?_⟩
    have := World.ownsRow.cellAt h0 j (by omega)
    rw [this]
    simp [hj, List.getD]
/-- a stream's place is moved -/
theorem St.move {w : World} {g p : Nat} {v : Value} {l : List Bool} (h : St w g v l p) (q : Nat) : St (w.setCell ⟨g, 1, none⟩ (.int .i64 (q : Int))) g v l q := by
  refine ⟨?_, ?_⟩
  · have := heap_setCell_same w g 1 _ _ (.int .i64 (q : Int)) h.1
    rw [this]
    rfl
  · exact World.ownsRow.kept h.2 (gb_set w g 1 _) (.inr h.apart)
theorem St.frz {w : World} {g p : Nat} {v : Value} {l : List Bool} (h : St w g v l p) : w.frozen? ⟨g, 1, none⟩ = false := by simp [World.frozen?, h.1]

set_option maxHeartbeats 1600000 in
theorem sleft_any (g : Nat) (v : Value) (l : List Bool) (p : Nat) (w : World) (h : St w g v l p) (hp : p ≤ l.length) (hs : l.length ≤ 8388608) :
    Calls Tryd.prog 18 #[.pointer (some ⟨g, 0, none⟩)] w fun e w' => e = .returned (.int .i64 ((l.length - p : Nat) : Int)) ∧ w.grownBy w' none := by
  have hc := h.cells
  have c0 := hc.1
  have c1 := hc.2.1
  obtain ⟨a, c, hv⟩ := h.2.shape
  subst hv
  have hsub : Hid ((l.length : Int) - (p : Int) = ((l.length - p : Nat) : Int)) := by show (l.length : Int) - (p : Int) = ((l.length - p : Nat) : Int); omega
  have hs2 : (l.length : Int) ≤ 8388608 := by omega
  have hp2 : (p : Int) ≤ 8388608 := by omega
  clear hc h hs hp
  go_enter Tryd.func18, Tryd.ntmps18
  go_wp2
  go_region
  all_goals (try go_wp2)
  all_goals go_ret
  all_goals exact ⟨ret_int hsub.out, gb_drew _ _⟩

set_option maxHeartbeats 3200000 in
theorem sbit_any (g : Nat) (v : Value) (l : List Bool) (p : Nat) (w : World) (h : St w g v l p) (hp : p ≤ l.length) (hs : l.length ≤ 8388608) :
    Calls Tryd.prog 30 #[.pointer (some ⟨g, 0, none⟩)] w fun e w' => e = .returned (.tuple #[.bool (if p < l.length then l.getD p false else false), .int .i64 (if p < l.length then 0 else 9)]) ∧ St w' g v l (if p < l.length then p + 1 else p) ∧ w.grownBy w' (some g) := by
  have HH : Hid (St w g v l p) := h
  have HL : Hid (∀ w', St w' g v l p → Calls Tryd.prog 18 #[.pointer (some ⟨g, 0, none⟩)] w' fun e w'' => e = .returned (.int .i64 ((l.length - p : Nat) : Int)) ∧ w'.grownBy w'' none) := fun w' hh => sleft_any g v l p w' hh hp hs
  by_cases hlt : p < l.length
  · rw [if_pos hlt, if_pos hlt, if_pos hlt]
    have h1 : ¬ ((l.length - p : Nat) : Int) < 1 := by omega
    have hne : l ≠ [] := by rintro rfl; simp at hlt
    obtain ⟨gb, cap, hv, -, -⟩ := h.2.cellT hne
    subst hv
    have hp2 : (p : Int) ≤ 8388608 := by omega
    have HLT : Hid (p < l.length) := hlt
    have hpl : (p : Int) < (l.length : Int) := by omega
    have HP1 : Hid ((p : Int) + 1 = ((p + 1 : Nat) : Int)) := by show (p : Int) + 1 = ((p + 1 : Nat) : Int); omega
    clear h hp hs
    generalize l.length - p = LF at *
    generalize hbt : l.getD p false = bt at *
    have HBT : Hid (l.getD p false = bt) := hbt
    clear hbt
    go_enter Tryd.func30, Tryd.ntmps30
    go_wp2_with fail
    refine (HL.out _ HH.out).mono ?_
    rintro e w1 ⟨rfl, hg1⟩
    have H1 : Hid (St w1 g (.slice (some ⟨gb, 0, none⟩) l.length cap) l p ∧ w.grownBy w1 none) := ⟨HH.out.keep hg1, hg1⟩
    have c1 := H1.out.1.cells.2.1
    have f1 := H1.out.1.frz
    clear hg1 HL HH
    have hM := H1.out.1.move (p + 1)
    rw [← HP1.out] at hM
    have H2 : Hid (St (w1.setCell ⟨g, 1, none⟩ (.int .i64 ((p : Int) + 1))) g (.slice (some ⟨gb, 0, none⟩) l.length cap) l (p + 1) ∧ w.grownBy (w1.setCell ⟨g, 1, none⟩ (.int .i64 ((p : Int) + 1))) (some g)) := ⟨hM, gb_some H1.out.2 (gb_set _ _ _ _)⟩
    clear hM H1
    go_wp2_with fail
    generalize w1.setCell ⟨g, 1, none⟩ (.int .i64 ((p : Int) + 1)) = w2 at *
    have d0 := H2.out.1.cells.1
    have d1 : w2.cell? ⟨g, 1, none⟩ = some (.int .i64 ((p : Int) + 1)) := by have := H2.out.1.cells.2.1; rw [← HP1.out] at this; exact this
    have dk : w2.cell? ⟨gb, p, none⟩ = some (.bool bt) := by
      rw [← HBT.out]
      obtain ⟨gb', cap', hv', -, hc'⟩ := H2.out.1.2.cellT hne
      simp only [Value.slice.injEq, Option.some.injEq, Addr.mk.injEq, true_and, and_true] at hv'
      obtain ⟨rfl, rfl⟩ := hv'
      exact hc' p HLT.out
    clear c1 f1
    go_region
    all_goals (try go_wp2)
    all_goals go_ret2
    all_goals exact ⟨rfl, H2.out.1.keep (gb_drew _ _), gb_trans H2.out.2 (gb_any (gb_drew _ _) (some g)) (fun _ hk _ => hk.symm)⟩
  · rw [if_neg hlt, if_neg hlt, if_neg hlt]
    have h1 : ((l.length - p : Nat) : Int) < 1 := by omega
    clear h hp hs hlt
    generalize l.length - p = LF at *
    go_enter Tryd.func30, Tryd.ntmps30
    go_wp2_with fail
    refine (HL.out _ HH.out).mono ?_
    rintro e w1 ⟨rfl, hg1⟩
    have H1 : Hid (St w1 g v l p ∧ w.grownBy w1 (some g)) := ⟨HH.out.keep hg1, gb_any hg1 _⟩
    clear hg1
    go_wp2
    go_ret2
    exact ⟨rfl, H1.out.1, H1.out.2⟩

theorem dblX {V : Nat} (h : V < 9223372036854775808) : IntKind.u64.wrap (I64 (BitVec.ofNat 64 V) * 2) = I64 (BitVec.ofNat 64 (2 * V)) := by
  rw [← u64_lit (by omega), ← u64_lit (by omega), IntKind.wrap_u64]
  omega
theorem incX {V : Nat} (h : V < 9223372036854775808) : IntKind.u64.wrap (I64 (BitVec.ofNat 64 (2 * V)) + 1) = I64 (BitVec.ofNat 64 (2 * V + 1)) := by
  rw [← u64_lit (by omega), ← u64_lit (by omega), IntKind.wrap_u64]
  omega
def lVal (l : List Bool) (p : Nat) (n : Int) (left : Nat) : Nat := if rCode n left = 0 then natOf (bitsAt l p n.toNat) else 0
theorem bitsAt_succ (l : List Bool) (p n : Nat) : bitsAt l p (n + 1) = bitsAt l p n ++ [slot l (p + n)] := by simp [bitsAt, List.range_succ]

set_option maxHeartbeats 6400000 in
theorem sbits_any (g : Nat) (v : Value) (l : List Bool) (p : Nat) (n : Int) (w : World) (h : St w g v l p) (hp : p ≤ l.length) (hs : l.length ≤ 8388608) :
    Calls Tryd.prog 31 #[.pointer (some ⟨g, 0, none⟩), .int .i64 n] w fun e w' => e = .returned (.tuple #[.int .u64 (I64 (BitVec.ofNat 64 (lVal l p n (l.length - p)))), .int .i64 (rCode n (l.length - p))]) ∧ St w' g v l (rAt p n (l.length - p)) ∧ w.grownBy w' (some g) := by
  have HH : Hid (St w g v l p) := h
  by_cases hb : rBad n
  · have e1 : rCode n (l.length - p) = 1 := if_pos hb
    have e2 : lVal l p n (l.length - p) = 0 := by unfold lVal; rw [e1]; rfl
    have e3 : rAt p n (l.length - p) = p := by unfold rAt; rw [e1]; rfl
    rw [e1, e2, e3]
    have HF : Hid (w.grownBy w (some g)) := gb_refl _ _
    have HZ : Hid ((0 : Int) = I64 (BitVec.ofNat 64 0)) := by show (0 : Int) = I64 (BitVec.ofNat 64 0); decide
    generalize BitVec.ofNat 64 0 = ZZ at *
    clear h e1 e2 e3 hp hs
    rcases hb with c1 | c2
    · go_enter Tryd.func31, Tryd.ntmps31
      go_wp2
      go_ret2
      exact ⟨by rw [← HZ.out]; rfl, HH.out, HF.out⟩
    · have c1 : ¬ n < 0 := by omega
      go_enter Tryd.func31, Tryd.ntmps31
      go_wp2
      go_ret2
      exact ⟨by rw [← HZ.out]; rfl, HH.out, HF.out⟩
  · have hb2 := hb
    unfold rBad at hb2
    obtain ⟨m, rfl⟩ := Int.eq_ofNat_of_zero_le (show 0 ≤ n by omega)
    have c1 : ¬ (m : Int) < 0 := by omega
    have c2 : ¬ (64 : Int) < (m : Int) := by omega
    have hm64 : m ≤ 64 := by omega
    clear hb2
    have HL : Hid (∀ w', St w' g v l p → Calls Tryd.prog 18 #[.pointer (some ⟨g, 0, none⟩)] w' fun e w'' => e = .returned (.int .i64 ((l.length - p : Nat) : Int)) ∧ w'.grownBy w'' none) := fun w' hh => sleft_any g v l p w' hh hp hs
    by_cases hsm : l.length - p < m
    · have e1 : rCode (m : Int) (l.length - p) = 9 := by unfold rCode; rw [if_neg hb, Int.toNat_natCast, if_pos hsm]
      have e2 : lVal l p (m : Int) (l.length - p) = 0 := by unfold lVal; rw [e1]; rfl
      have e3 : rAt p (m : Int) (l.length - p) = p := by unfold rAt; rw [e1]; rfl
      rw [e1, e2, e3]
      have HZ : Hid ((0 : Int) = I64 (BitVec.ofNat 64 0)) := by show (0 : Int) = I64 (BitVec.ofNat 64 0); decide
      generalize BitVec.ofNat 64 0 = ZZ at *
      have hs2 : ((l.length - p : Nat) : Int) < (m : Int) := by omega
      clear h e1 e2 e3 hb hsm hp hs
      generalize l.length - p = LF at *
      go_enter Tryd.func31, Tryd.ntmps31
      go_wp2_with fail
      refine (HL.out _ HH.out).mono ?_
      rintro e w1 ⟨rfl, hg1⟩
      have H1 : Hid (St w1 g v l p ∧ w.grownBy w1 (some g)) := ⟨HH.out.keep hg1, gb_any hg1 _⟩
      clear hg1
      go_wp2
      go_ret2
      exact ⟨by rw [← HZ.out]; rfl, H1.out.1, H1.out.2⟩
    · have e1 : rCode (m : Int) (l.length - p) = 0 := by unfold rCode; rw [if_neg hb, Int.toNat_natCast, if_neg hsm]
      have e2 : lVal l p (m : Int) (l.length - p) = natOf (bitsAt l p m) := by unfold lVal; rw [e1, Int.toNat_natCast]; rfl
      have e3 : rAt p (m : Int) (l.length - p) = p + m := by unfold rAt; rw [e1, Int.toNat_natCast]; rfl
      rw [e1, e2, e3]
      have hs2 : ¬ ((l.length - p : Nat) : Int) < (m : Int) := by omega
      have HPL : Hid (p + m ≤ l.length ∧ l.length ≤ 8388608) := ⟨by omega, hs⟩
      have hpi : (p : Int) ≤ 8388608 := by omega
      have hli : (l.length : Int) ≤ 8388608 := by omega
      have HPM : Hid ((p : Int) + (m : Int) = ((p + m : Nat) : Int)) := by show (p : Int) + (m : Int) = ((p + m : Nat) : Int); omega
      clear h e1 e2 e3 hb hsm hp hs
      generalize l.length - p = LF at *
      go_enter Tryd.func31, Tryd.ntmps31
      go_wp2_with fail
      refine (HL.out _ HH.out).mono ?_
      rintro e w1 ⟨rfl, hg1⟩
      have H1 : Hid (St w1 g v l p ∧ w.grownBy w1 none) := ⟨HH.out.keep hg1, hg1⟩
      clear hg1 HL
      go_wp2
      go_loopw [6, 7] (fun x i wr => ∃ k : Nat, k ≤ m ∧ i = .int .i64 (k : Int) ∧ x = .int .u64 (I64 (BitVec.ofNat 64 (natOf (bitsAt l p k)))) ∧ Hid (St wr g v l p ∧ w.grownBy wr none)) (fun _ i _ => m - (intOf i).toNat)
      case atStart => exact ⟨0, by omega, rfl, rfl, H1⟩
      case round =>
        obtain ⟨k, hk, rfl, rfl, hr⟩ := hrel
        clear H1
        by_cases hkm : k < m
        · have hVl := natOf_lt (bitsAt l p k)
          rw [bitsAt_len] at hVl
          have hV : natOf (bitsAt l p k) < 9223372036854775808 := Nat.lt_of_lt_of_le hVl (by have : 2 ^ k ≤ 2 ^ 63 := Nat.pow_le_pow_right (by decide) (by omega); exact this)
          have hd2 := dblX hV
          have hin := incX hV
          have hpk : p + k < l.length := by have := HPL.out.1; omega
          have hpk1 : (p : Int) + (k : Int) < (l.length : Int) := by omega
          have hne : l ≠ [] := by rintro rfl; simp at hpk
          obtain ⟨gb, cap, hv, -, hcell⟩ := hr.out.1.2.cellT hne
          subst hv
          have hc := hcell (p + k) hpk
          have c0 := hr.out.1.cells.1
          have c1' := hr.out.1.cells.2.1
          have hn2 := bitsAt_succ l p k
          have hslot : slot l (p + k) = l.getD (p + k) false := rfl
          clear hcell hVl
          cases hbit : l.getD (p + k) false with
          | true =>
            rw [hbit] at hc
            have HN : Hid (natOf (bitsAt l p (k + 1)) = 2 * natOf (bitsAt l p k) + 1) := by show natOf (bitsAt l p (k + 1)) = _; rw [hn2, natOf_snoc, hslot, hbit]; rfl
            clear hn2 hslot hbit hV hpk
            generalize hN1 : natOf (bitsAt l p (k + 1)) = N1 at *
            have HN1 : Hid (natOf (bitsAt l p (k + 1)) = N1) := hN1
            clear hN1
            generalize natOf (bitsAt l p k) = N0 at *
            generalize hB0 : BitVec.ofNat 64 N0 = B0 at *
            generalize hB1 : BitVec.ofNat 64 (2 * N0) = B1 at *
            have hB2 : BitVec.ofNat 64 (2 * N0 + 1) = BitVec.ofNat 64 N1 := by rw [HN.out]
            rw [hB2] at hin
            generalize hBB : BitVec.ofNat 64 N1 = B2 at *
            have HBB : Hid (BitVec.ofNat 64 N1 = B2) := hBB
            clear hBB
            clear hB0 hB1 hB2 HN
            go_wp2_with fail
            go_region
            all_goals go_wp2
            all_goals go_roundw
            all_goals first | exact ⟨k + 1, by omega, by go_num, by rw [HN1.out, HBB.out], hr.out.1.keep (gb_drew _ _), gb_none hr.out.2 (gb_drew _ _)⟩ | (simp [intOf]; omega)
          | false =>
            rw [hbit] at hc
            have HN : Hid (natOf (bitsAt l p (k + 1)) = 2 * natOf (bitsAt l p k)) := by show natOf (bitsAt l p (k + 1)) = _; rw [hn2, natOf_snoc, hslot, hbit]; rfl
            clear hn2 hslot hbit hV hpk hin
            generalize hN1 : natOf (bitsAt l p (k + 1)) = N1 at *
            have HN1 : Hid (natOf (bitsAt l p (k + 1)) = N1) := hN1
            clear hN1
            generalize natOf (bitsAt l p k) = N0 at *
            generalize hB0 : BitVec.ofNat 64 N0 = B0 at *
            have hB2 : BitVec.ofNat 64 (2 * N0) = BitVec.ofNat 64 N1 := by rw [HN.out]
            rw [hB2] at hd2
            generalize hBB : BitVec.ofNat 64 N1 = B2 at *
            have HBB : Hid (BitVec.ofNat 64 N1 = B2) := hBB
            clear hBB
            clear hB0 hB2 HN
            go_wp2_with fail
            go_region
            all_goals go_wp2
            all_goals go_roundw
            all_goals first | exact ⟨k + 1, by omega, by go_num, by rw [HN1.out, HBB.out], hr.out.1.keep (gb_drew _ _), gb_none hr.out.2 (gb_drew _ _)⟩ | (simp [intOf]; omega)
        · obtain rfl : k = m := by omega
          have c1' := hr.out.1.cells.2.1
          have f1 := hr.out.1.frz
          have hM := hr.out.1.move (p + k)
          rw [← HPM.out] at hM
          have H2 : Hid (St (wr.setCell ⟨g, 1, none⟩ (.int .i64 ((p : Int) + (k : Int)))) g v l (p + k) ∧ w.grownBy (wr.setCell ⟨g, 1, none⟩ (.int .i64 ((p : Int) + (k : Int)))) (some g)) := ⟨hM, gb_some hr.out.2 (gb_set _ _ _ _)⟩
          clear hM hr
          go_wp2
          go_ret2
          exact ⟨rfl, H2.out.1, H2.out.2⟩
end Go.Proofs.YtgbpnkamamafjabDoor
