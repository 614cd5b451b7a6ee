/-
  A reader of bits that the call made: NewReader, Left, Bits, whatever they answer: the walks.
-/
import Derived.Test.YtnaccmbnblokmaaDoorCkRb
import Derived.Test.YtnaccmbnblokmaaDoorCk2
namespace Go.Proofs.YtnaccmbnblokmaaDoor
open Go.RowKit

variable {B : Nat}
/-- COPY, for the walk: as much as there is room for. -/
theorem wp_copyT {w : World} {ops : Array Oper} {rest : List Oper} {o : Oper} {a : Act} {Q : Exit → Act → World → Prop} (hgd : o.guard = none) (d s : Operand)
    (ho : o.op = .call { callee := .builtin .copy, args := #[d, s], argTypes := #[36, 36] })
    (base : Nat) (v xv : Value) (l m : List UInt8) (hd : a.eval d = v) (hs : a.eval s = xv) (hown : Own w base v l) (hr : Rd w xv m) (hlen : l.length ≤ m.length)
    (h : ∀ w', Own w' base v (m.take l.length) → w.grownBy w' v.ownBlock → wpList Tryd.prog ops Q rest (a.put o.dst (goInt l.length)) w') : wpList Tryd.prog ops Q (o :: rest) a w := by
  obtain ⟨sa, c, rfl, hmc, hcm, hra, hnil⟩ := hr
  by_cases h0 : l.length = 0
  · have hl0 : l = [] := List.eq_nil_of_length_eq_zero h0
    subst hl0
    obtain ⟨da, dc, rfl⟩ := hown.shape
    exact wpList_copy_nothing hgd d s _ _ ho 5 Tryd.underlying36 sizeB _ _ _ _ _ _ hd hs (by simp) (h w (by simpa using hown) (gb_refl _ _))
  · cases hsa : sa with
    | none => exact absurd (hnil hsa) (by omega)
    | some ad =>
      subst hsa
      rcases hown.2 with ⟨rfl, hn⟩ | ⟨g, cap, cur, rfl, hbg, hh, hnc, hcm', hcs, htake⟩
      · omega
      · have hlt : (m.take l.length).length = l.length := by simp; omega
        refine wpList_copy_own hgd d s _ _ ho 5 Tryd.underlying36 sizeB g 0 l.length cap ad m.length c hd hs cur 5 hh ((m.take l.length).map bv) (by rw [List.length_map, hlt]; exact (Nat.min_eq_right hlen).symm) ?_ (by rw [List.length_map, hlt]; omega) (oneCell_bv _) ?_
        · intro j u hj
          refine hra.news j u ?_
          rw [List.getElem?_map, List.getElem?_take] at hj
          split at hj
          · rw [List.getElem?_map]; exact hj
          · simp at hj
        · have e : (goInt ((m.take l.length).map bv).length) = goInt l.length := by rw [List.length_map, hlt]
          rw [e]
          refine h _ ⟨by simp, .inr ⟨g, cap, _, by rw [hlt], hbg, setRow_heap w g cur _ 5 _ hh, by rw [hlt]; omega, hcm', ?_, ?_⟩⟩ ⟨rfl, rfl, rfl, by simp, fun k _ hk => setRow_other w g k _ (fun e => hk (by simp [Value.ownBlock, e]))⟩
          · simp
            omega
          · simp
/-- a reader that is new since w: its bytes, its place, how many bits there are -/
structure RN (B : Nat) (w wr : World) (g : Nat) (L : List UInt8) (p s : Nat) : Prop where
  new : w.heap.size ≤ g
  kept : w.grownBy wr none
  place : p ≤ s
  most : s ≤ 8388608
  bytes : L.length = (s + 7) / 8
  here : ∃ gb c, (gb ≠ g ∧ g < B ∧ gb < B ∧ w.heap.size ≤ gb) ∧ Rr wr g (.slice (some ⟨gb, 0, none⟩) L.length c) p s ∧ Rd wr (.slice (some ⟨gb, 0, none⟩) L.length c) L ∧ ∃ cur fr, wr.heap[gb]? = some (.cells cur 5 fr)
theorem RN.keep {w wr wr' : World} {g p s : Nat} {L : List UInt8} (h : RN B w wr g L p s) (hg : wr.grownBy wr' none) : RN B w wr' g L p s := by
  obtain ⟨gb, c, h1, h2, h3, cur, fr, h4⟩ := h.here
  exact ⟨h.new, gb_none h.kept hg, h.place, h.most, h.bytes, gb, c, h1, h2.keep hg, h3.keep hg, cur, fr, (hg.block gb (Array.getElem?_eq_some_iff.1 h4).1 (by simp)).trans h4⟩
theorem RN.lt {w wr : World} {g p s : Nat} {L : List UInt8} (h : RN B w wr g L p s) : g < wr.heap.size := by
  obtain ⟨gb, c, h1, h2, h3, -⟩ := h.here
  exact h2.cells.2.2.2.2
theorem newReader_nil (v : Value) (l : List UInt8) (n : Int) (w : World) (hv : Rd w v l) (h : n < 0 ∨ 8388608 < n ∨ (l.length : Int) < (n + 7) / 8) :
    Calls Tryd.prog 66 #[v, .int .i64 n] w fun e w' => e = .returned (.pointer none) ∧ w' = w := by
  obtain ⟨a, c, rfl, -, -, -, -⟩ := hv
  by_cases c1 : n < 0
  · clear h
    go_enter Tryd.func66, Tryd.ntmps66
    go_wp2
    go_ret
    exact ⟨rfl, rfl⟩
  · by_cases c2 : 8388608 < n
    · clear h
      go_enter Tryd.func66, Tryd.ntmps66
      go_wp2
      go_ret
      exact ⟨rfl, rfl⟩
    · obtain ⟨m, rfl⟩ := Int.eq_ofNat_of_zero_le (show 0 ≤ n by omega)
      have hq : ((m : Int) + 7).tdiv 8 = (((m + 7) / 8 : Nat) : Int) := by rw [Int.tdiv_eq_ediv_of_nonneg (by omega)]; omega
      have hN : (m + 7) / 8 ≤ 1048576 := by omega
      have h3 : (l.length : Int) < (((m + 7) / 8 : Nat) : Int) := by omega
      have hm2 : (m : Int) ≤ 8388608 := by omega
      clear h
      generalize (m + 7) / 8 = N at *
      go_enter Tryd.func66, Tryd.ntmps66
      go_wp2
      go_ret
      exact ⟨rfl, rfl⟩
set_option maxHeartbeats 1600000 in
theorem newReader_ok (w : World) (v : Value) (l : List UInt8) (n : Nat) (wr : World) (hv : Rd wr v l) (hw : w.grownBy wr none) (hn : n ≤ 8388608) (hl : (n + 7) / 8 ≤ l.length) :
    Calls Tryd.prog 66 #[v, .int .i64 (n : Int)] wr fun e w' => ∃ g, e = .returned (.pointer (some ⟨g, 0, none⟩)) ∧ RN w'.heap.size w w' g (l.take ((n + 7) / 8)) 0 n ∧ wr.grownBy w' none ∧ wr.heap.size ≤ g := by
  have HV : Hid (Rd wr v l) := hv
  have HW : Hid (w.grownBy wr none) := hw
  obtain ⟨a, c, rfl, -, -, -, -⟩ := hv
  have hq : ((n : Int) + 7).tdiv 8 = (((n + 7) / 8 : Nat) : Int) := by rw [Int.tdiv_eq_ediv_of_nonneg (by omega)]; omega
  have HB : Hid ((l.take ((n + 7) / 8)).length = (n + 7) / 8) := by show (l.take ((n + 7) / 8)).length = (n + 7) / 8; simp; omega
  have HN : Hid ((n + 7) / 8 ≤ 1048576 ∧ n ≤ 8388608 ∧ (n + 7) / 8 ≤ l.length) := ⟨by omega, hn, hl⟩
  have c1 : ¬ (n : Int) < 0 := by omega
  have c2 : ¬ (8388608 : Int) < (n : Int) := by omega
  have c3 : ¬ (l.length : Int) < (((n + 7) / 8 : Nat) : Int) := by omega
  have hN1 : (n + 7) / 8 ≤ 1048576 := by omega
  have hn1 : (n : Int) ≤ 8388608 := by omega
  have HNN : Hid (∃ N, N = (n + 7) / 8) := ⟨_, rfl⟩
  clear hw hn hl
  generalize hNN : (n + 7) / 8 = N at *
  have HNE : Hid ((n + 7) / 8 = N) := hNN
  clear hNN HNN
  go_enter Tryd.func66, Tryd.ntmps66
  go_wp2_with (at_make; refine wp_make rfl _ _ rfl wr.heap.size _ _ _ _ N N rfl rfl (by first | rfl | exact wrap64_id (by omega) (by omega)) (by first | rfl | exact wrap64_id (by omega) (by omega)) (Nat.le_refl _) (by omega) (by omega) ?_)
  intro w1 ho1 hg1 _
  have H1 : Hid (Own w1 wr.heap.size (.slice (some ⟨wr.heap.size, 0, none⟩) N N) (List.replicate N 0) ∧ wr.grownBy w1 none) := ⟨ho1, hg1⟩
  clear ho1 hg1
  go_wp2_with (refine wp_copyT rfl _ _ rfl wr.heap.size _ _ (List.replicate N 0) l rfl rfl H1.out.1 (HV.out.keep H1.out.2) (by simpa using HN.out.2.2) ?_)
  intro w2 ho2 hg2
  have H2 : Hid (Own w2 wr.heap.size (.slice (some ⟨wr.heap.size, 0, none⟩) N N) (l.take N) ∧ wr.grownBy w2 none) := ⟨by simpa using ho2, gb_new H1.out.2 hg2 (fun k hk => by simp [Value.ownBlock] at hk; omega)⟩
  clear ho2 hg2 H1
  go_wp2
  go_ret
  have hlt := H2.out.2.size
  have hb2 : wr.heap.size < w2.heap.size := (H2.out.1.lt _ rfl).2
  refine ⟨w2.heap.size, rfl, ⟨Nat.le_trans HW.out.size hlt, gb_none (gb_none HW.out H2.out.2) (alloc_gb _ _), Nat.zero_le _, HN.out.2.1, by rw [HB.out, HNE.out], wr.heap.size, N, ⟨by omega, by simp, by simp; omega, HW.out.size⟩, ?_, ?_, ?_⟩, gb_none H2.out.2 (alloc_gb _ _), hlt⟩
  · rw [HB.out]
    exact Go.heap_alloc_new w2 _
  · have := (H2.out.1.keep (alloc_gb w2 (.cells #[.slice (some ⟨wr.heap.size, 0, none⟩) N N, .int .i64 0, .int .i64 (n : Int)] 141))).rd
    rw [HB.out]
    exact this
  · have := H2.out.1.keep (alloc_gb w2 (.cells #[.slice (some ⟨wr.heap.size, 0, none⟩) N N, .int .i64 0, .int .i64 (n : Int)] 141))
    rcases this.2 with ⟨e, -⟩ | ⟨g', cap, cur, e, -, hh, -⟩
    · cases e
    · simp only [Value.slice.injEq, Option.some.injEq, Addr.mk.injEq, and_true] at e
      obtain ⟨rfl, -⟩ := e
      exact ⟨_, _, hh⟩
theorem leftN (w wr : World) (g p s : Nat) (L : List UInt8) (h : RN B w wr g L p s) :
    Calls Tryd.prog 107 #[.pointer (some ⟨g, 0, none⟩)] wr fun e w' => e = .returned (.int .i64 ((s - p : Nat) : Int)) ∧ wr.grownBy w' none := by
  obtain ⟨gb, c, h1, h2, h3, -⟩ := h.here
  exact left_any g _ p s wr h2 h.place h.most
def rBad (n : Int) : Prop := n < 0 ∨ 64 < n
instance (n : Int) : Decidable (rBad n) := by unfold rBad; infer_instance
def rCode (n : Int) (left : Nat) : Int := if rBad n then 1 else if left < n.toNat then 9 else 0
def rVal (L : List UInt8) (p : Nat) (n : Int) (left : Nat) : Nat := if rCode n left = 0 then natOf (ubits L p n.toNat) else 0
def rAt (p : Nat) (n : Int) (left : Nat) : Nat := if rCode n left = 0 then p + n.toNat else p
theorem RN.move {w wr : World} {g p s : Nat} {L : List UInt8} (h : RN B w wr g L p s) (q : Nat) (hq : q ≤ s) : RN B w (wr.setCell ⟨g, 1, none⟩ (.int .i64 (q : Int))) g L q s := by
  obtain ⟨gb, c, h1, h2, h3, cur, fr, h4⟩ := h.here
  refine ⟨h.new, gb_new h.kept (gb_set wr g 1 _) (fun k hk => by cases hk; exact h.new), hq, h.most, h.bytes, gb, c, h1, ?_, ?_, cur, fr, ((gb_set wr g 1 _).block gb (Array.getElem?_eq_some_iff.1 h4).1 (by simp; exact h1.1)).trans h4⟩
  · have := heap_setCell_same wr g 1 _ _ (.int .i64 (q : Int)) h2
    unfold Rr
    rw [this]
    rfl
  · exact h3.kept (gb_set wr g 1 _) (.inr (by simp [Value.ownBlock]; exact h1.1))
theorem gb_some {w w1 w2 : World} {g : Nat} (h1 : w.grownBy w1 none) (h2 : w1.grownBy w2 (some g)) : w.grownBy w2 (some g) :=
  gb_trans (gb_any h1 (some g)) h2 (fun _ hk _ => hk.symm)
set_option maxHeartbeats 3200000 in
theorem rbitsN (w wr : World) (g p s : Nat) (L : List UInt8) (n : Int) (h : RN B w wr g L p s) :
    Calls Tryd.prog 101 #[.pointer (some ⟨g, 0, none⟩), .int .i64 n] wr fun e w' => e = .returned (.tuple #[.int .u64 (I64 (BitVec.ofNat 64 (rVal L p n (s - p)))), .int .i64 (rCode n (s - p))]) ∧ RN B w w' g L (rAt p n (s - p)) s ∧ wr.grownBy w' (some g) := by
  have HH : Hid (RN B w wr g L p s) := h
  by_cases hb : rBad n
  · have e1 : rCode n (s - p) = 1 := if_pos hb
    have e2 : rVal L p n (s - p) = 0 := by unfold rVal; rw [e1]; rfl
    have e3 : rAt p n (s - p) = p := by unfold rAt; rw [e1]; rfl
    rw [e1, e2, e3]
    have HF : Hid (wr.grownBy wr (some g)) := gb_refl _ _
    have HZ : Hid ((0 : Int) = I64 (BitVec.ofNat 64 0)) := by show (0 : Int) = I64 (BitVec.ofNat 64 0); decide
    generalize BitVec.ofNat 64 0 = ZZ at *
    clear h e1 e2 e3
    rcases hb with c1 | c2
    · go_enter Tryd.func101, Tryd.ntmps101
      go_wp2
      go_ret2
      exact ⟨by rw [← HZ.out]; rfl, HH.out, HF.out⟩
    · have c1 : ¬ n < 0 := by omega
      go_enter Tryd.func101, Tryd.ntmps101
      go_wp2
      go_ret2
      exact ⟨by rw [← HZ.out]; rfl, HH.out, HF.out⟩
  · have hb2 := hb
    unfold rBad at hb2
    obtain ⟨m, rfl⟩ := Int.eq_ofNat_of_zero_le (show 0 ≤ n by omega)
    have c1 : ¬ (m : Int) < 0 := by omega
    have c2 : ¬ (64 : Int) < (m : Int) := by omega
    have hm64 : m ≤ 64 := by omega
    clear hb2
    have HL : Hid (∀ w', RN B w w' g L p s → Calls Tryd.prog 107 #[.pointer (some ⟨g, 0, none⟩)] w' fun e w'' => e = .returned (.int .i64 ((s - p : Nat) : Int)) ∧ w'.grownBy w'' none) := fun w' hh => leftN w w' g p s L hh
    by_cases hs : s - p < m
    · have e1 : rCode (m : Int) (s - p) = 9 := by unfold rCode; rw [if_neg hb, Int.toNat_natCast, if_pos hs]
      have e2 : rVal L p (m : Int) (s - p) = 0 := by unfold rVal; rw [e1]; rfl
      have e3 : rAt p (m : Int) (s - p) = p := by unfold rAt; rw [e1]; rfl
      rw [e1, e2, e3]
      have HZ : Hid ((0 : Int) = I64 (BitVec.ofNat 64 0)) := by show (0 : Int) = I64 (BitVec.ofNat 64 0); decide
      generalize BitVec.ofNat 64 0 = ZZ at *
      have hs2 : ((s - p : Nat) : Int) < (m : Int) := by omega
      clear h e1 e2 e3 hb hs
      generalize s - p = LF at *
      go_enter Tryd.func101, Tryd.ntmps101
      go_wp2_with fail
      refine (HL.out _ HH.out).mono ?_
      rintro e w1 ⟨rfl, hg1⟩
      have H1 : Hid (RN B w w1 g L p s ∧ wr.grownBy w1 (some g)) := ⟨HH.out.keep hg1, gb_any hg1 _⟩
      clear hg1
      go_wp2
      go_ret2
      exact ⟨by rw [← HZ.out]; rfl, H1.out.1, H1.out.2⟩
    · have e1 : rCode (m : Int) (s - p) = 0 := by unfold rCode; rw [if_neg hb, Int.toNat_natCast, if_neg hs]
      have e2 : rVal L p (m : Int) (s - p) = natOf (ubits L p m) := by unfold rVal; rw [e1, Int.toNat_natCast]; rfl
      have e3 : rAt p (m : Int) (s - p) = p + m := by unfold rAt; rw [e1, Int.toNat_natCast]; rfl
      rw [e1, e2, e3]
      have hs2 : ¬ ((s - p : Nat) : Int) < (m : Int) := by omega
      have hpl := h.place
      have hmo := h.most
      have hby := h.bytes
      have HK : Hid (∀ w', RN B w w' g L p s → Calls Tryd.prog 108 #[.pointer (some ⟨g, 0, none⟩), .int .i64 (p : Int), .int .i64 (m : Int)] w' fun e w'' => e = .returned (.int .u64 (I64 (BitVec.ofNat 64 (natOf (ubits L p m))))) ∧ w'' = w') := fun w' hh => by
        obtain ⟨gb, c, g1, g2, g3, -⟩ := hh.here
        exact look_any g gb c p s L p m w' g2 g3 (by omega) hm64 (by omega)
      have HM : Hid (p + m ≤ s) := by show p + m ≤ s; omega
      have HPM : Hid ((p : Int) + (m : Int) = ((p + m : Nat) : Int)) := by show (p : Int) + (m : Int) = ((p + m : Nat) : Int); omega
      have hp2 : (p : Int) ≤ 8388608 := by omega
      clear h e1 e2 e3 hb hs hpl hmo hby
      generalize s - p = LF at *
      generalize natOf (ubits L p m) = NV at *
      go_enter Tryd.func101, Tryd.ntmps101
      go_wp2_with fail
      refine (HL.out _ HH.out).mono ?_
      rintro e w1 ⟨rfl, hg1⟩
      have H1 : Hid (RN B w w1 g L p s ∧ wr.grownBy w1 none) := ⟨HH.out.keep hg1, hg1⟩
      clear hg1
      have hcs : w1.cell? ⟨g, 1, none⟩ = some (.int .i64 (p : Int)) ∧ w1.frozen? ⟨g, 1, none⟩ = false := by
        obtain ⟨gb, c, g1, g2, g3, -⟩ := H1.out.1.here
        exact ⟨g2.cells.2.1, g2.cells.2.2.2.1⟩
      have d1 := hcs.1
      have f1 := hcs.2
      clear hcs
      go_wp2_with fail
      refine (HK.out _ H1.out.1).mono ?_
      rintro e w2 ⟨rfl, rfl⟩
      have H2 : Hid (RN B w (w2.setCell ⟨g, 1, none⟩ (.int .i64 ((p + m : Nat) : Int))) g L (p + m) s ∧ wr.grownBy (w2.setCell ⟨g, 1, none⟩ (.int .i64 ((p + m : Nat) : Int))) (some g)) := ⟨H1.out.1.move (p + m) HM.out, gb_some H1.out.2 (gb_set _ _ _ _)⟩
      rw [← HPM.out] at H2
      clear H1 HK HL
      go_wp2
      go_ret2
      exact ⟨rfl, H2.out.1, H2.out.2⟩
end Go.Proofs.YtnaccmbnblokmaaDoor
