/-
  One call of both, a reader and the document's stream: the walk.
-/
import Derived.Test.YtgbpnkamamafjabDoorBitsT4
import Derived.Test.YtgbpnkamamafjabDoorLiftO
import Derived.Test.YtgbpnkamamafjabDoorBitsS2
namespace Go.Proofs.YtgbpnkamamafjabDoor
open Go.RowKit

theorem KeepT.of_rr {w w' : World} {g p s : Nat} {v : Value} (h : Rr w g v p s) (hg : w.grownBy w' (some g)) : KeepT [61] w w' :=
  ⟨hg.size, fun k A t fr hk ht => by
    refine hg.block k (Array.getElem?_eq_some_iff.1 hk).1 ?_
    intro e
    simp only [Option.some.injEq] at e
    subst e
    unfold Rr at h
    rw [h] at hk
    simp only [Option.some.injEq, Obj.cells.injEq] at hk
    exact ht (by rw [← hk.2.1]; simp)⟩
theorem St.keptR {w w' w0 : World} {g gr p q s : Nat} {v : Value} {l : List Bool} {L : List UInt8} (h : St w g v l p) (hr : RN w0 w gr L q s) (hg : w.grownBy w' (some gr)) : St w' g v l p := by
  obtain ⟨gb, c, g1, g2, g3⟩ := hr.here
  have hk := KeepT.of_rr g2 hg
  exact ⟨(hk.2 g _ _ _ h.1 (by decide)).trans h.1, ownT h.2 hk (by decide)⟩
theorem RN.keptS {w w0 w' : World} {g gs p s q : Nat} {L : List UInt8} {v : Value} {l : List Bool} (h : RN w0 w g L p s) (hs : St w gs v l q) (hg : w.grownBy w' (some gs)) (hgw : w0.grownBy w' none) : RN w0 w' g L p s := by
  obtain ⟨gb, c, g1, g2, g3⟩ := h.here
  have hne : g ≠ gs := by
    rintro rfl
    unfold Rr at g2
    have := hs.1
    rw [g2] at this
    simp at this
  refine ⟨h.new, hgw, h.place, h.most, h.bytes, gb, c, g1, ?_, ?_⟩
  · unfold Rr
    rw [hg.block g g2.cells.2.2.2.2 (by simpa using hne)]
    exact g2
  · by_cases hL : L = []
    · subst hL
      obtain ⟨a, c', hv, h1, h2, -, h4⟩ := g3
      exact ⟨a, c', hv, h1, h2, fun j hj => by simp at hj, h4⟩
    · refine g3.kept hg (.inr ?_)
      intro e
      simp only [Value.ownBlock, Option.some.injEq] at e
      subst e
      obtain ⟨a, c', hv, -, -, hra, -⟩ := g3
      obtain ⟨b, o, hb, hcc⟩ := hra 0 (List.length_pos_iff.2 hL)
      simp only [Value.slice.injEq, true_and] at hv
      obtain ⟨rfl, rfl⟩ := hv
      simp only [Option.some.injEq, Addr.mk.injEq, and_true] at hb
      obtain ⟨rfl, rfl⟩ := hb
      have h0 := hs.cells.1
      obtain ⟨a2, c2, hv2⟩ := hs.2.shape
      rw [Nat.add_zero, h0, hv2] at hcc
      simp at hcc
/-- a reader and the document's stream of the same bits, at the same place -/
structure RS (w wr : World) (gr gs : Nat) (L : List UInt8) (u : Value) (p s : Nat) : Prop where
  rn : RN w wr gr L p s
  st : St wr gs u (ubits L 0 s) p
  new : w.heap.size ≤ gs
theorem RS.keep {w wr wr' : World} {gr gs p s : Nat} {L : List UInt8} {u : Value} (h : RS w wr gr gs L u p s) (hg : wr.grownBy wr' none) : RS w wr' gr gs L u p s := ⟨h.rn.keep hg, h.st.keep hg, h.new⟩
/-- a reader's step, and a stream's -/
theorem RS.two {w w1 w2 w3 : World} {gr gs p q s : Nat} {L : List UInt8} {u : Value} (h : RS w w1 gr gs L u p s) (h2 : RN w w2 gr L q s) (hg2 : w1.grownBy w2 (some gr)) (h3 : St w2 gs u (ubits L 0 s) p → St w3 gs u (ubits L 0 s) q) (hg3 : w2.grownBy w3 (some gs)) : RS w w3 gr gs L u q s := by
  have hs2 := h.st.keptR h.rn hg2
  exact ⟨h2.keptS hs2 hg3 (gb_new h2.kept hg3 (fun k hk => by cases hk; exact h.new)), h3 hs2, h.new⟩

theorem left_two {w w1 : World} {gr gs p s : Nat} {L : List UInt8} {u : Value} (_h : RS w w1 gr gs L u p s) :
    (∀ w', RS w w' gr gs L u p s → Calls Tryd.prog 17 #[.pointer (some ⟨gr, 0, none⟩)] w' fun e w'' => e = .returned (.int .i64 ((s - p : Nat) : Int)) ∧ Hid (RS w w'' gr gs L u p s) ∧ w'.grownBy w'' none) ∧
    (∀ w', RS w w' gr gs L u p s → Calls Tryd.prog 18 #[.pointer (some ⟨gs, 0, none⟩)] w' fun e w'' => e = .returned (.int .i64 ((s - p : Nat) : Int)) ∧ Hid (RS w w'' gr gs L u p s) ∧ w'.grownBy w'' none) := by
  constructor
  · intro w' hh
    exact (leftN w w' gr p s L hh.rn).mono fun e w'' ⟨he, hg⟩ => ⟨he, hh.keep hg, hg⟩
  · intro w' hh
    have := sleft_any gs u (ubits L 0 s) p w' hh.st (by rw [ubits_len]; exact hh.rn.place) (by rw [ubits_len]; exact hh.rn.most)
    rw [ubits_len] at this
    exact this.mono fun e w'' ⟨he, hg⟩ => ⟨he, hh.keep hg, hg⟩

/-- what a call reads: the place behind it -/
def opAt (k n : Int) (L : List UInt8) (p s : Nat) : Nat := if k = 0 then (if p < s then p + 1 else p) else if k = 1 then rAt p n (s - p) else if k = 2 then (riS L p s).2.2 else p

set_option maxHeartbeats 6400000 in
theorem read_bit (w w0 : World) (gr gs p s : Nat) (L : List UInt8) (u : Value) (x : BitVec 64) (n i : Int) (h : RS w w0 gr gs L u p s) :
    Calls Tryd.prog 19 #[.pointer (some ⟨gr, 0, none⟩), .pointer (some ⟨gs, 0, none⟩), .agg #[.int .i64 0, .int .u64 (I64 x), .int .i64 n, .int .i64 i]] w0 fun e w' => e = .returned (.bool true) ∧ RS w w' gr gs L u (if p < s then p + 1 else p) s := by
  have HH : Hid (RS w (w0.alloc (.cells #[.int .i64 0, .int .u64 (I64 x), .int .i64 n, .int .i64 i] 31)) gr gs L u p s) := h.keep (alloc_gb _ _)
  have HA : Hid (∀ w', RS w w' gr gs L u p s → Calls Tryd.prog 20 #[.pointer (some ⟨gr, 0, none⟩)] w' fun e w'' => e = .returned (.tuple #[.bool (if p < s then ubit L p else false), .int .i64 (if p < s then 0 else 9)]) ∧ RN w w'' gr L (if p < s then p + 1 else p) s ∧ w'.grownBy w'' (some gr)) := fun w' hh => rbitN w w' gr p s L hh.rn
  have HB : Hid (∀ w', St w' gs u (ubits L 0 s) p → Calls Tryd.prog 30 #[.pointer (some ⟨gs, 0, none⟩)] w' fun e w'' => e = .returned (.tuple #[.bool (if p < s then ubit L p else false), .int .i64 (if p < s then 0 else 9)]) ∧ St w'' gs u (ubits L 0 s) (if p < s then p + 1 else p) ∧ w'.grownBy w'' (some gs)) := fun w' hh => by
    have hc := sbit_any gs u (ubits L 0 s) p w' hh (by rw [ubits_len]; exact h.rn.place) (by rw [ubits_len]; exact h.rn.most)
    rw [ubits_len] at hc
    by_cases hps : p < s
    · rw [if_pos hps, if_pos hps, if_pos hps] at hc ⊢
      rw [ubits_slot L s p hps] at hc
      exact hc
    · rw [if_neg hps, if_neg hps, if_neg hps] at hc ⊢
      exact hc
  have HL : Hid (∀ q w', RS w w' gr gs L u q s → (∀ w', RS w w' gr gs L u q s → Calls Tryd.prog 17 #[.pointer (some ⟨gr, 0, none⟩)] w' fun e w'' => e = .returned (.int .i64 ((s - q : Nat) : Int)) ∧ Hid (RS w w'' gr gs L u q s) ∧ w'.grownBy w'' none) ∧
    (∀ w', RS w w' gr gs L u q s → Calls Tryd.prog 18 #[.pointer (some ⟨gs, 0, none⟩)] w' fun e w'' => e = .returned (.int .i64 ((s - q : Nat) : Int)) ∧ Hid (RS w w'' gr gs L u q s) ∧ w'.grownBy w'' none)) := fun q w' hh => left_two hh
  clear h
  generalize (if p < s then ubit L p else false) = bb at *
  generalize (if p < s then (0 : Int) else 9) = cc at *
  generalize (if p < s then p + 1 else p) = q at *
  go_enter Tryd.func19, Tryd.ntmps19
  go_wp2_with fail
  refine (HA.out _ HH.out).mono ?_
  rintro e w1 ⟨rfl, hr1, hg1⟩
  have H1 : Hid (RN w w1 gr L q s ∧ (w0.alloc (.cells #[.int .i64 0, .int .u64 (I64 x), .int .i64 n, .int .i64 i] 31)).grownBy w1 (some gr)) := ⟨hr1, hg1⟩
  clear hr1 hg1
  go_wp2_with fail
  refine (HB.out _ (HH.out.st.keptR HH.out.rn H1.out.2)).mono ?_
  rintro e w2 ⟨rfl, hs2, hg2⟩
  have H2 : Hid (RS w w2 gr gs L u q s) := HH.out.two H1.out.1 H1.out.2 (fun _ => hs2) hg2
  clear hs2 hg2 H1
  go_wp2_with fail
  refine ((HL.out _ _ H2.out).1 _ H2.out).mono ?_
  rintro e w3 ⟨rfl, H3, -⟩
  go_wp2_with fail
  refine ((HL.out _ _ H3.out).2 _ H3.out).mono ?_
  rintro e w4 ⟨rfl, H4, -⟩
  go_wp2
  go_ret
  exact ⟨rfl, H4.out⟩

set_option maxHeartbeats 6400000 in
theorem read_bits (w w0 : World) (gr gs p s : Nat) (L : List UInt8) (u : Value) (x : BitVec 64) (n i : Int) (h : RS w w0 gr gs L u p s) :
    Calls Tryd.prog 19 #[.pointer (some ⟨gr, 0, none⟩), .pointer (some ⟨gs, 0, none⟩), .agg #[.int .i64 1, .int .u64 (I64 x), .int .i64 n, .int .i64 i]] w0 fun e w' => e = .returned (.bool true) ∧ RS w w' gr gs L u (rAt p n (s - p)) s := by
  have HH : Hid (RS w (w0.alloc (.cells #[.int .i64 1, .int .u64 (I64 x), .int .i64 n, .int .i64 i] 31)) gr gs L u p s) := h.keep (alloc_gb _ _)
  have HA : Hid (∀ w', RS w w' gr gs L u p s → Calls Tryd.prog 21 #[.pointer (some ⟨gr, 0, none⟩), .int .i64 n] w' fun e w'' => e = .returned (.tuple #[.int .u64 (I64 (BitVec.ofNat 64 (rVal L p n (s - p)))), .int .i64 (rCode n (s - p))]) ∧ RN w w'' gr L (rAt p n (s - p)) s ∧ w'.grownBy w'' (some gr)) := fun w' hh => rbitsN w w' gr p s L n hh.rn
  have HB : Hid (∀ w', St w' gs u (ubits L 0 s) p → Calls Tryd.prog 31 #[.pointer (some ⟨gs, 0, none⟩), .int .i64 n] w' fun e w'' => e = .returned (.tuple #[.int .u64 (I64 (BitVec.ofNat 64 (rVal L p n (s - p)))), .int .i64 (rCode n (s - p))]) ∧ St w'' gs u (ubits L 0 s) (rAt p n (s - p)) ∧ w'.grownBy w'' (some gs)) := fun w' hh => by
    have hc := sbits_any gs u (ubits L 0 s) p n w' hh (by rw [ubits_len]; exact h.rn.place) (by rw [ubits_len]; exact h.rn.most)
    rw [ubits_len] at hc
    have e : lVal (ubits L 0 s) p n (s - p) = rVal L p n (s - p) := by
      unfold lVal rVal
      by_cases hcd : rCode n (s - p) = 0
      · rw [if_pos hcd, if_pos hcd]
        have hle : p + n.toNat ≤ s := by
          have hpl := h.rn.place
          unfold rCode at hcd
          by_cases hb : rBad n
          · rw [if_pos hb] at hcd; simp at hcd
          · rw [if_neg hb] at hcd
            by_cases hl : s - p < n.toNat
            · rw [if_pos hl] at hcd; simp at hcd
            · omega
        rw [bitsAt_ubits L s p n.toNat hle]
      · rw [if_neg hcd, if_neg hcd]
    rw [e] at hc
    exact hc
  have HL : Hid (∀ q w', RS w w' gr gs L u q s → (∀ w', RS w w' gr gs L u q s → Calls Tryd.prog 17 #[.pointer (some ⟨gr, 0, none⟩)] w' fun e w'' => e = .returned (.int .i64 ((s - q : Nat) : Int)) ∧ Hid (RS w w'' gr gs L u q s) ∧ w'.grownBy w'' none) ∧
    (∀ w', RS w w' gr gs L u q s → Calls Tryd.prog 18 #[.pointer (some ⟨gs, 0, none⟩)] w' fun e w'' => e = .returned (.int .i64 ((s - q : Nat) : Int)) ∧ Hid (RS w w'' gr gs L u q s) ∧ w'.grownBy w'' none)) := fun q w' hh => left_two hh
  have hne : Hid (w0.heap.size ≠ gr) := by
    intro e
    have := h.rn.lt
    omega
  clear h
  generalize BitVec.ofNat 64 (rVal L p n (s - p)) = VV at *
  generalize rCode n (s - p) = cc at *
  generalize rAt p n (s - p) = q at *
  go_enter Tryd.func19, Tryd.ntmps19
  go_wp2_with fail
  refine (HA.out _ HH.out).mono ?_
  rintro e w1 ⟨rfl, hr1, hg1⟩
  have H1 : Hid (RN w w1 gr L q s ∧ (w0.alloc (.cells #[.int .i64 1, .int .u64 (I64 x), .int .i64 n, .int .i64 i] 31)).grownBy w1 (some gr)) := ⟨hr1, hg1⟩
  have hbx : w1.cell? ⟨w0.heap.size, 2, none⟩ = some (.int .i64 n) := by
    rw [World.cell?_of_block (hg1.block w0.heap.size (by simp) (by simpa using hne.out)), World.cell?_alloc_at _ _ _ _ rfl]
    rfl
  clear hr1 hg1
  go_wp2_with fail
  refine (HB.out _ (HH.out.st.keptR HH.out.rn H1.out.2)).mono ?_
  rintro e w2 ⟨rfl, hs2, hg2⟩
  have H2 : Hid (RS w w2 gr gs L u q s) := HH.out.two H1.out.1 H1.out.2 (fun _ => hs2) hg2
  clear hs2 hg2 H1 hbx
  go_wp2_with fail
  refine ((HL.out _ _ H2.out).1 _ H2.out).mono ?_
  rintro e w3 ⟨rfl, H3, -⟩
  go_wp2_with fail
  refine ((HL.out _ _ H3.out).2 _ H3.out).mono ?_
  rintro e w4 ⟨rfl, H4, -⟩
  go_wp2
  go_ret
  exact ⟨rfl, H4.out⟩

set_option maxHeartbeats 6400000 in
theorem read_int (w w0 : World) (gr gs p s : Nat) (L : List UInt8) (u : Value) (x : BitVec 64) (n i : Int) (h : RS w w0 gr gs L u p s) (hT : TabW w) :
    Calls Tryd.prog 19 #[.pointer (some ⟨gr, 0, none⟩), .pointer (some ⟨gs, 0, none⟩), .agg #[.int .i64 2, .int .u64 (I64 x), .int .i64 n, .int .i64 i]] w0 fun e w' => e = .returned (.bool true) ∧ RS w w' gr gs L u (riS L p s).2.2 s := by
  have HH : Hid (RS w (w0.alloc (.cells #[.int .i64 2, .int .u64 (I64 x), .int .i64 n, .int .i64 i] 31)) gr gs L u p s) := h.keep (alloc_gb _ _)
  have HA : Hid (∀ w', RS w w' gr gs L u p s → Calls Tryd.prog 22 #[.pointer (some ⟨gr, 0, none⟩)] w' fun e w'' => e = .returned (.tuple #[.int .i64 (riS L p s).1, .int .i64 (riS L p s).2.1]) ∧ RN w w'' gr L (riS L p s).2.2 s ∧ w'.grownBy w'' (some gr)) := fun w' hh => rintN w w' gr p s L hh.rn hT
  have HB : Hid (∀ w', St w' gs u (ubits L 0 s) p → Calls Tryd.prog 32 #[.pointer (some ⟨gs, 0, none⟩)] w' fun e w'' => e = .returned (.tuple #[.int .i64 (riS L p s).1, .int .i64 (riS L p s).2.1]) ∧ St w'' gs u (ubits L 0 s) (riS L p s).2.2 ∧ w'.grownBy w'' (some gs)) := fun w' hh => by
    have hc := sint_any gs u (ubits L 0 s) p w' hh (by rw [ubits_len]; exact h.rn.place) (by rw [ubits_len]; exact h.rn.most)
    rw [riL_eq L p s h.rn.place] at hc
    exact hc
  have HL : Hid (∀ q w', RS w w' gr gs L u q s → (∀ w', RS w w' gr gs L u q s → Calls Tryd.prog 17 #[.pointer (some ⟨gr, 0, none⟩)] w' fun e w'' => e = .returned (.int .i64 ((s - q : Nat) : Int)) ∧ Hid (RS w w'' gr gs L u q s) ∧ w'.grownBy w'' none) ∧
    (∀ w', RS w w' gr gs L u q s → Calls Tryd.prog 18 #[.pointer (some ⟨gs, 0, none⟩)] w' fun e w'' => e = .returned (.int .i64 ((s - q : Nat) : Int)) ∧ Hid (RS w w'' gr gs L u q s) ∧ w'.grownBy w'' none)) := fun q w' hh => left_two hh
  clear h hT
  generalize riS L p s = RI at *
  obtain ⟨nn, cc, q⟩ := RI
  simp only at HA HB ⊢
  go_enter Tryd.func19, Tryd.ntmps19
  go_wp2_with fail
  refine (HA.out _ HH.out).mono ?_
  rintro e w1 ⟨rfl, hr1, hg1⟩
  have H1 : Hid (RN w w1 gr L q s ∧ (w0.alloc (.cells #[.int .i64 2, .int .u64 (I64 x), .int .i64 n, .int .i64 i] 31)).grownBy w1 (some gr)) := ⟨hr1, hg1⟩
  clear hr1 hg1
  go_wp2_with fail
  refine (HB.out _ (HH.out.st.keptR HH.out.rn H1.out.2)).mono ?_
  rintro e w2 ⟨rfl, hs2, hg2⟩
  have H2 : Hid (RS w w2 gr gs L u q s) := HH.out.two H1.out.1 H1.out.2 (fun _ => hs2) hg2
  clear hs2 hg2 H1
  go_wp2_with fail
  refine ((HL.out _ _ H2.out).1 _ H2.out).mono ?_
  rintro e w3 ⟨rfl, H3, -⟩
  go_wp2_with fail
  refine ((HL.out _ _ H3.out).2 _ H3.out).mono ?_
  rintro e w4 ⟨rfl, H4, -⟩
  go_wp2
  go_ret
  exact ⟨rfl, H4.out⟩

theorem read_none (w w0 : World) (gr gs p s : Nat) (L : List UInt8) (u : Value) (k : Int) (x : BitVec 64) (n i : Int) (h0 : ¬ k = 0) (h1 : ¬ k = 1) (h2 : ¬ k = 2) (h : RS w w0 gr gs L u p s) :
    Calls Tryd.prog 19 #[.pointer (some ⟨gr, 0, none⟩), .pointer (some ⟨gs, 0, none⟩), .agg #[.int .i64 k, .int .u64 (I64 x), .int .i64 n, .int .i64 i]] w0 fun e w' => e = .returned (.bool true) ∧ RS w w' gr gs L u p s := by
  have b0 : (k == 0) = false := by simpa using h0
  have b1 : (k == 1) = false := by simpa using h1
  have b2 : (k == 2) = false := by simpa using h2
  have HH : Hid (RS w w0 gr gs L u p s) := h
  clear h
  go_enter Tryd.func19, Tryd.ntmps19
  go_wp2
  go_ret
  exact ⟨rfl, HH.out.keep (alloc_gb _ _)⟩

theorem read_any (w w0 : World) (gr gs p s : Nat) (L : List UInt8) (u : Value) (k : Int) (x : BitVec 64) (n i : Int) (h : RS w w0 gr gs L u p s) (hT : TabW w) :
    Calls Tryd.prog 19 #[.pointer (some ⟨gr, 0, none⟩), .pointer (some ⟨gs, 0, none⟩), .agg #[.int .i64 k, .int .u64 (I64 x), .int .i64 n, .int .i64 i]] w0 fun e w' => e = .returned (.bool true) ∧ ∃ q, RS w w' gr gs L u q s := by
  by_cases h0 : k = 0
  · subst h0
    exact (read_bit w w0 gr gs p s L u x n i h).mono fun e w' ⟨he, h2⟩ => ⟨he, _, h2⟩
  · by_cases h1 : k = 1
    · subst h1
      exact (read_bits w w0 gr gs p s L u x n i h).mono fun e w' ⟨he, h2⟩ => ⟨he, _, h2⟩
    · by_cases h2 : k = 2
      · subst h2
        exact (read_int w w0 gr gs p s L u x n i h hT).mono fun e w' ⟨he, h2⟩ => ⟨he, _, h2⟩
      · exact (read_none w w0 gr gs p s L u k x n i h0 h1 h2 h).mono fun e w' ⟨he, h2⟩ => ⟨he, _, h2⟩
end Go.Proofs.YtgbpnkamamafjabDoor
