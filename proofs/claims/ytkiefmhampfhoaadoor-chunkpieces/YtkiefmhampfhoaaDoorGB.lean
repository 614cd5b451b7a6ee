/-
  CkRc, CkU, CkE, CkD, in one text.
-/
import Derived.Test.YtkiefmhampfhoaaDoorCkRb
import Derived.Test.YtkiefmhampfhoaaDoorGA
import Derived.Test.YtkiefmhampfhoaaDoorCkPuts
import Derived.Test.YtkiefmhampfhoaaDoorBitsE
import Derived.Lib.BitFns
import Derived.Lib.ItoaNum
import Derived.Lib.TrailingZeros
/- CkRc -/
namespace Go.Proofs.YtkiefmhampfhoaaDoor
open Go.RowKit

variable {B : Nat}
/-- COPY, for the walk: as much as there is room for. -/
theorem wp_copyT {w : World} {ops : Array Oper} {rest : List Oper} {o : Oper} {a : Act} {Q : Exit → Act → World → Prop} (hgd : o.guard = none) (d s : Operand)
    (ho : o.op = .call { callee := .builtin .copy, args := #[d, s], argTypes := #[36, 36] })
    (base : Nat) (v xv : Value) (l m : List UInt8) (hd : a.eval d = v) (hs : a.eval s = xv) (hown : Own w base v l) (hr : Rd w xv m) (hlen : l.length ≤ m.length)
    (h : ∀ w', Own w' base v (m.take l.length) → w.grownBy w' v.ownBlock → wpList Tryd.prog ops Q rest (a.put o.dst (goInt l.length)) w') : wpList Tryd.prog ops Q (o :: rest) a w := by
  obtain ⟨sa, c, rfl, hmc, hcm, hra, hnil⟩ := hr
  by_cases h0 : l.length = 0
  · have hl0 : l = [] := List.eq_nil_of_length_eq_zero h0
    subst hl0
    obtain ⟨da, dc, rfl⟩ := hown.shape
    exact wpList_copy_nothing hgd d s _ _ ho 5 Tryd.underlying36 sizeB _ _ _ _ _ _ hd hs (by simp) (h w (by simpa using hown) (gb_refl _ _))
  · cases hsa : sa with
    | none => exact absurd (hnil hsa) (by omega)
    | some ad =>
      subst hsa
      rcases hown.2 with ⟨rfl, hn⟩ | ⟨g, cap, cur, rfl, hbg, hh, hnc, hcm', hcs, htake⟩
      · omega
      · have hlt : (m.take l.length).length = l.length := by simp; omega
        refine wpList_copy_own hgd d s _ _ ho 5 Tryd.underlying36 sizeB g 0 l.length cap ad m.length c hd hs cur 5 hh ((m.take l.length).map bv) (by rw [List.length_map, hlt]; exact (Nat.min_eq_right hlen).symm) ?_ (by rw [List.length_map, hlt]; omega) (oneCell_bv _) ?_
        · intro j u hj
          refine hra.news j u ?_
          rw [List.getElem?_map, List.getElem?_take] at hj
          split at hj
          · rw [List.getElem?_map]; exact hj
          · simp at hj
        · have e : (goInt ((m.take l.length).map bv).length) = goInt l.length := by rw [List.length_map, hlt]
          rw [e]
          refine h _ ⟨by simp, .inr ⟨g, cap, _, by rw [hlt], hbg, setRow_heap w g cur _ 5 _ hh, by rw [hlt]; omega, hcm', ?_, ?_⟩⟩ ⟨rfl, rfl, rfl, by simp, fun k _ hk => setRow_other w g k _ (fun e => hk (by simp [Value.ownBlock, e]))⟩
          · simp
            omega
          · simp
/-- a reader that is new since w: its bytes, its place, how many bits there are -/
structure RN (B : Nat) (w wr : World) (g : Nat) (L : List UInt8) (p s : Nat) : Prop where
  new : w.heap.size ≤ g
  kept : w.grownBy wr none
  place : p ≤ s
  most : s ≤ 8388608
  bytes : L.length = (s + 7) / 8
  here : ∃ gb c, (gb ≠ g ∧ g < B ∧ gb < B ∧ w.heap.size ≤ gb) ∧ Rr wr g (.slice (some ⟨gb, 0, none⟩) L.length c) p s ∧ Rd wr (.slice (some ⟨gb, 0, none⟩) L.length c) L ∧ ∃ cur fr, wr.heap[gb]? = some (.cells cur 5 fr)
theorem RN.keep {w wr wr' : World} {g p s : Nat} {L : List UInt8} (h : RN B w wr g L p s) (hg : wr.grownBy wr' none) : RN B w wr' g L p s := by
  obtain ⟨gb, c, h1, h2, h3, cur, fr, h4⟩ := h.here
  exact ⟨h.new, gb_none h.kept hg, h.place, h.most, h.bytes, gb, c, h1, h2.keep hg, h3.keep hg, cur, fr, (hg.block gb (Array.getElem?_eq_some_iff.1 h4).1 (by simp)).trans h4⟩
theorem RN.lt {w wr : World} {g p s : Nat} {L : List UInt8} (h : RN B w wr g L p s) : g < wr.heap.size := by
  obtain ⟨gb, c, h1, h2, h3, -⟩ := h.here
  exact h2.cells.2.2.2.2
theorem newReader_nil (v : Value) (l : List UInt8) (n : Int) (w : World) (hv : Rd w v l) (h : n < 0 ∨ 8388608 < n ∨ (l.length : Int) < (n + 7) / 8) :
    Calls Tryd.prog 66 #[v, .int .i64 n] w fun e w' => e = .returned (.pointer none) ∧ w' = w := by
  obtain ⟨a, c, rfl, -, -, -, -⟩ := hv
  by_cases c1 : n < 0
  · clear h
    go_enter Tryd.func66, Tryd.ntmps66
    go_wp2
    go_ret
    exact ⟨rfl, rfl⟩
  · by_cases c2 : 8388608 < n
    · clear h
      go_enter Tryd.func66, Tryd.ntmps66
      go_wp2
      go_ret
      exact ⟨rfl, rfl⟩
    · obtain ⟨m, rfl⟩ := Int.eq_ofNat_of_zero_le (show 0 ≤ n by omega)
      have hq : ((m : Int) + 7).tdiv 8 = (((m + 7) / 8 : Nat) : Int) := by rw [Int.tdiv_eq_ediv_of_nonneg (by omega)]; omega
      have hN : (m + 7) / 8 ≤ 1048576 := by omega
      have h3 : (l.length : Int) < (((m + 7) / 8 : Nat) : Int) := by omega
      have hm2 : (m : Int) ≤ 8388608 := by omega
      clear h
      generalize (m + 7) / 8 = N at *
      go_enter Tryd.func66, Tryd.ntmps66
      go_wp2
      go_ret
      exact ⟨rfl, rfl⟩
set_option maxHeartbeats 1600000 in
theorem newReader_ok (w : World) (v : Value) (l : List UInt8) (n : Nat) (wr : World) (hv : Rd wr v l) (hw : w.grownBy wr none) (hn : n ≤ 8388608) (hl : (n + 7) / 8 ≤ l.length) :
    Calls Tryd.prog 66 #[v, .int .i64 (n : Int)] wr fun e w' => ∃ g, e = .returned (.pointer (some ⟨g, 0, none⟩)) ∧ RN w'.heap.size w w' g (l.take ((n + 7) / 8)) 0 n ∧ wr.grownBy w' none ∧ wr.heap.size ≤ g := by
  have HV : Hid (Rd wr v l) := hv
  have HW : Hid (w.grownBy wr none) := hw
  obtain ⟨a, c, rfl, -, -, -, -⟩ := hv
  have hq : ((n : Int) + 7).tdiv 8 = (((n + 7) / 8 : Nat) : Int) := by rw [Int.tdiv_eq_ediv_of_nonneg (by omega)]; omega
  have HB : Hid ((l.take ((n + 7) / 8)).length = (n + 7) / 8) := by show (l.take ((n + 7) / 8)).length = (n + 7) / 8; simp; omega
  have HN : Hid ((n + 7) / 8 ≤ 1048576 ∧ n ≤ 8388608 ∧ (n + 7) / 8 ≤ l.length) := ⟨by omega, hn, hl⟩
  have c1 : ¬ (n : Int) < 0 := by omega
  have c2 : ¬ (8388608 : Int) < (n : Int) := by omega
  have c3 : ¬ (l.length : Int) < (((n + 7) / 8 : Nat) : Int) := by omega
  have hN1 : (n + 7) / 8 ≤ 1048576 := by omega
  have hn1 : (n : Int) ≤ 8388608 := by omega
  have HNN : Hid (∃ N, N = (n + 7) / 8) := ⟨_, rfl⟩
  clear hw hn hl
  generalize hNN : (n + 7) / 8 = N at *
  have HNE : Hid ((n + 7) / 8 = N) := hNN
  clear hNN HNN
  go_enter Tryd.func66, Tryd.ntmps66
  go_wp2_with (at_make; refine wp_make rfl _ _ rfl wr.heap.size _ _ _ _ N N rfl rfl (by first | rfl | exact wrap64_id (by omega) (by omega)) (by first | rfl | exact wrap64_id (by omega) (by omega)) (Nat.le_refl _) (by omega) (by omega) ?_)
  intro w1 ho1 hg1 _
  have H1 : Hid (Own w1 wr.heap.size (.slice (some ⟨wr.heap.size, 0, none⟩) N N) (List.replicate N 0) ∧ wr.grownBy w1 none) := ⟨ho1, hg1⟩
  clear ho1 hg1
  go_wp2_with (refine wp_copyT rfl _ _ rfl wr.heap.size _ _ (List.replicate N 0) l rfl rfl H1.out.1 (HV.out.keep H1.out.2) (by simpa using HN.out.2.2) ?_)
  intro w2 ho2 hg2
  have H2 : Hid (Own w2 wr.heap.size (.slice (some ⟨wr.heap.size, 0, none⟩) N N) (l.take N) ∧ wr.grownBy w2 none) := ⟨by simpa using ho2, gb_new H1.out.2 hg2 (fun k hk => by simp [Value.ownBlock] at hk; omega)⟩
  clear ho2 hg2 H1
  go_wp2
  go_ret
  have hlt := H2.out.2.size
  have hb2 : wr.heap.size < w2.heap.size := (H2.out.1.lt _ rfl).2
  refine ⟨w2.heap.size, rfl, ⟨Nat.le_trans HW.out.size hlt, gb_none (gb_none HW.out H2.out.2) (alloc_gb _ _), Nat.zero_le _, HN.out.2.1, by rw [HB.out, HNE.out], wr.heap.size, N, ⟨by omega, by simp, by simp; omega, HW.out.size⟩, ?_, ?_, ?_⟩, gb_none H2.out.2 (alloc_gb _ _), hlt⟩
  · rw [HB.out]
    exact Go.heap_alloc_new w2 _
  · have := (H2.out.1.keep (alloc_gb w2 (.cells #[.slice (some ⟨wr.heap.size, 0, none⟩) N N, .int .i64 0, .int .i64 (n : Int)] 141))).rd
    rw [HB.out]
    exact this
  · have := H2.out.1.keep (alloc_gb w2 (.cells #[.slice (some ⟨wr.heap.size, 0, none⟩) N N, .int .i64 0, .int .i64 (n : Int)] 141))
    rcases this.2 with ⟨e, -⟩ | ⟨g', cap, cur, e, -, hh, -⟩
    · cases e
    · simp only [Value.slice.injEq, Option.some.injEq, Addr.mk.injEq, and_true] at e
      obtain ⟨rfl, -⟩ := e
      exact ⟨_, _, hh⟩
theorem leftN (w wr : World) (g p s : Nat) (L : List UInt8) (h : RN B w wr g L p s) :
    Calls Tryd.prog 107 #[.pointer (some ⟨g, 0, none⟩)] wr fun e w' => e = .returned (.int .i64 ((s - p : Nat) : Int)) ∧ wr.grownBy w' none := by
  obtain ⟨gb, c, h1, h2, h3, -⟩ := h.here
  exact left_any g _ p s wr h2 h.place h.most
def rBad (n : Int) : Prop := n < 0 ∨ 64 < n
instance (n : Int) : Decidable (rBad n) := by unfold rBad; infer_instance
def rCode (n : Int) (left : Nat) : Int := if rBad n then 1 else if left < n.toNat then 9 else 0
def rVal (L : List UInt8) (p : Nat) (n : Int) (left : Nat) : Nat := if rCode n left = 0 then natOf (ubits L p n.toNat) else 0
def rAt (p : Nat) (n : Int) (left : Nat) : Nat := if rCode n left = 0 then p + n.toNat else p
theorem RN.move {w wr : World} {g p s : Nat} {L : List UInt8} (h : RN B w wr g L p s) (q : Nat) (hq : q ≤ s) : RN B w (wr.setCell ⟨g, 1, none⟩ (.int .i64 (q : Int))) g L q s := by
  obtain ⟨gb, c, h1, h2, h3, cur, fr, h4⟩ := h.here
  refine ⟨h.new, gb_new h.kept (gb_set wr g 1 _) (fun k hk => by cases hk; exact h.new), hq, h.most, h.bytes, gb, c, h1, ?_, ?_, cur, fr, ((gb_set wr g 1 _).block gb (Array.getElem?_eq_some_iff.1 h4).1 (by simp; exact h1.1)).trans h4⟩
  · have := heap_setCell_same wr g 1 _ _ (.int .i64 (q : Int)) h2
    unfold Rr
    rw [this]
    rfl
  · exact h3.kept (gb_set wr g 1 _) (.inr (by simp [Value.ownBlock]; exact h1.1))
theorem gb_some {w w1 w2 : World} {g : Nat} (h1 : w.grownBy w1 none) (h2 : w1.grownBy w2 (some g)) : w.grownBy w2 (some g) :=
  gb_trans (gb_any h1 (some g)) h2 (fun _ hk _ => hk.symm)
set_option maxHeartbeats 3200000 in
theorem rbitsN (w wr : World) (g p s : Nat) (L : List UInt8) (n : Int) (h : RN B w wr g L p s) :
    Calls Tryd.prog 101 #[.pointer (some ⟨g, 0, none⟩), .int .i64 n] wr fun e w' => e = .returned (.tuple #[.int .u64 (I64 (BitVec.ofNat 64 (rVal L p n (s - p)))), .int .i64 (rCode n (s - p))]) ∧ RN B w w' g L (rAt p n (s - p)) s ∧ wr.grownBy w' (some g) := by
  have HH : Hid (RN B w wr g L p s) := h
  by_cases hb : rBad n
  · have e1 : rCode n (s - p) = 1 := if_pos hb
    have e2 : rVal L p n (s - p) = 0 := by unfold rVal; rw [e1]; rfl
    have e3 : rAt p n (s - p) = p := by unfold rAt; rw [e1]; rfl
    rw [e1, e2, e3]
    have HF : Hid (wr.grownBy wr (some g)) := gb_refl _ _
    have HZ : Hid ((0 : Int) = I64 (BitVec.ofNat 64 0)) := by show (0 : Int) = I64 (BitVec.ofNat 64 0); decide
    generalize BitVec.ofNat 64 0 = ZZ at *
    clear h e1 e2 e3
    rcases hb with c1 | c2
    · go_enter Tryd.func101, Tryd.ntmps101
      go_wp2
      go_ret2
      exact ⟨by rw [← HZ.out]; rfl, HH.out, HF.out⟩
    · have c1 : ¬ n < 0 := by omega
      go_enter Tryd.func101, Tryd.ntmps101
      go_wp2
      go_ret2
      exact ⟨by rw [← HZ.out]; rfl, HH.out, HF.out⟩
  · have hb2 := hb
    unfold rBad at hb2
    obtain ⟨m, rfl⟩ := Int.eq_ofNat_of_zero_le (show 0 ≤ n by omega)
    have c1 : ¬ (m : Int) < 0 := by omega
    have c2 : ¬ (64 : Int) < (m : Int) := by omega
    have hm64 : m ≤ 64 := by omega
    clear hb2
    have HL : Hid (∀ w', RN B w w' g L p s → Calls Tryd.prog 107 #[.pointer (some ⟨g, 0, none⟩)] w' fun e w'' => e = .returned (.int .i64 ((s - p : Nat) : Int)) ∧ w'.grownBy w'' none) := fun w' hh => leftN w w' g p s L hh
    by_cases hs : s - p < m
    · have e1 : rCode (m : Int) (s - p) = 9 := by unfold rCode; rw [if_neg hb, Int.toNat_natCast, if_pos hs]
      have e2 : rVal L p (m : Int) (s - p) = 0 := by unfold rVal; rw [e1]; rfl
      have e3 : rAt p (m : Int) (s - p) = p := by unfold rAt; rw [e1]; rfl
      rw [e1, e2, e3]
      have HZ : Hid ((0 : Int) = I64 (BitVec.ofNat 64 0)) := by show (0 : Int) = I64 (BitVec.ofNat 64 0); decide
      generalize BitVec.ofNat 64 0 = ZZ at *
      have hs2 : ((s - p : Nat) : Int) < (m : Int) := by omega
      clear h e1 e2 e3 hb hs
      generalize s - p = LF at *
      go_enter Tryd.func101, Tryd.ntmps101
      go_wp2_with fail
      refine (HL.out _ HH.out).mono ?_
      rintro e w1 ⟨rfl, hg1⟩
      have H1 : Hid (RN B w w1 g L p s ∧ wr.grownBy w1 (some g)) := ⟨HH.out.keep hg1, gb_any hg1 _⟩
      clear hg1
      go_wp2
      go_ret2
      exact ⟨by rw [← HZ.out]; rfl, H1.out.1, H1.out.2⟩
    · have e1 : rCode (m : Int) (s - p) = 0 := by unfold rCode; rw [if_neg hb, Int.toNat_natCast, if_neg hs]
      have e2 : rVal L p (m : Int) (s - p) = natOf (ubits L p m) := by unfold rVal; rw [e1, Int.toNat_natCast]; rfl
      have e3 : rAt p (m : Int) (s - p) = p + m := by unfold rAt; rw [e1, Int.toNat_natCast]; rfl
      rw [e1, e2, e3]
      have hs2 : ¬ ((s - p : Nat) : Int) < (m : Int) := by omega
      have hpl := h.place
      have hmo := h.most
      have hby := h.bytes
      have HK : Hid (∀ w', RN B w w' g L p s → Calls Tryd.prog 108 #[.pointer (some ⟨g, 0, none⟩), .int .i64 (p : Int), .int .i64 (m : Int)] w' fun e w'' => e = .returned (.int .u64 (I64 (BitVec.ofNat 64 (natOf (ubits L p m))))) ∧ w'' = w') := fun w' hh => by
        obtain ⟨gb, c, g1, g2, g3, -⟩ := hh.here
        exact look_any g gb c p s L p m w' g2 g3 (by omega) hm64 (by omega)
      have HM : Hid (p + m ≤ s) := by show p + m ≤ s; omega
      have HPM : Hid ((p : Int) + (m : Int) = ((p + m : Nat) : Int)) := by show (p : Int) + (m : Int) = ((p + m : Nat) : Int); omega
      have hp2 : (p : Int) ≤ 8388608 := by omega
      clear h e1 e2 e3 hb hs hpl hmo hby
      generalize s - p = LF at *
      generalize natOf (ubits L p m) = NV at *
      go_enter Tryd.func101, Tryd.ntmps101
      go_wp2_with fail
      refine (HL.out _ HH.out).mono ?_
      rintro e w1 ⟨rfl, hg1⟩
      have H1 : Hid (RN B w w1 g L p s ∧ wr.grownBy w1 none) := ⟨HH.out.keep hg1, hg1⟩
      clear hg1
      have hcs : w1.cell? ⟨g, 1, none⟩ = some (.int .i64 (p : Int)) ∧ w1.frozen? ⟨g, 1, none⟩ = false := by
        obtain ⟨gb, c, g1, g2, g3, -⟩ := H1.out.1.here
        exact ⟨g2.cells.2.1, g2.cells.2.2.2.1⟩
      have d1 := hcs.1
      have f1 := hcs.2
      clear hcs
      go_wp2_with fail
      refine (HK.out _ H1.out.1).mono ?_
      rintro e w2 ⟨rfl, rfl⟩
      have H2 : Hid (RN B w (w2.setCell ⟨g, 1, none⟩ (.int .i64 ((p + m : Nat) : Int))) g L (p + m) s ∧ wr.grownBy (w2.setCell ⟨g, 1, none⟩ (.int .i64 ((p + m : Nat) : Int))) (some g)) := ⟨H1.out.1.move (p + m) HM.out, gb_some H1.out.2 (gb_set _ _ _ _)⟩
      rw [← HPM.out] at H2
      clear H1 HK HL
      go_wp2
      go_ret2
      exact ⟨rfl, H2.out.1, H2.out.2⟩
end Go.Proofs.YtkiefmhampfhoaaDoor

/- CkU -/
namespace Go.Proofs.YtkiefmhampfhoaaDoor
open Go.RowKit

/-- a number that is read: the rest of the bytes, how many were read, what they gave -/
def rdU : List UInt8 → Nat → Nat → Except Int (Nat × Nat)
  | [], _, _ => .error 9
  | c :: t, i, acc =>
    if i = 9 ∧ 1 < c.toNat then .error 7
    else if c.toNat < 128 then (if c.toNat = 0 ∧ 0 < i then .error 3 else .ok (acc + c.toNat * 128 ^ i, i + 1))
    else rdU t (i + 1) (acc + (c.toNat % 128) * 128 ^ i)
def uRes : Except Int (Nat × Nat) → Int → Nat × Int × Int
  | .error e, _ => (0, 0, e)
  | .ok (n, k), a => (n, a + (k : Int), 0)
def uSpec (l : List UInt8) (a : Int) : Nat × Int × Int := if a < 0 ∨ (l.length : Int) < a then (0, 0, 1) else uRes (rdU (l.drop a.toNat) 0 0) a
def tup3 (r : Nat × Int × Int) : Value := .tuple #[.int .u64 (I64 (BitVec.ofNat 64 r.1)), .int .i64 r.2.1, .int .i64 r.2.2]
theorem ret3 {k1 k2 k3 : IntKind} {a b c a' b' c' : Int} (h1 : a = a') (h2 : b = b') (h3 : c = c') : Ending.returned (.tuple #[.int k1 a, .int k2 b, .int k3 c]) = .returned (.tuple #[.int k1 a', .int k2 b', .int k3 c']) := by rw [h1, h2, h3]
theorem I64_0 : I64 (BitVec.ofNat 64 0) = 0 := by decide
theorem drop_step {l : List UInt8} {k : Nat} (h : k < l.length) : l.drop k = l.getD k 0 :: l.drop (k + 1) := by
  rw [List.drop_eq_getElem_cons h]
  simp [h]
theorem pow7 (k : Nat) : (128 : Nat) ^ k = 2 ^ (7 * k) := by rw [Nat.pow_mul]
theorem or_step {acc y k : Nat} (hk : k ≤ 9) (ha : acc < 128 ^ k) (hy : y * 128 ^ k < 18446744073709551616) : bits .or .u64 (I64 (BitVec.ofNat 64 acc)) ((y * 128 ^ k : Nat) : Int) = I64 (BitVec.ofNat 64 (acc + y * 128 ^ k)) := by
  have hp : (128 : Nat) ^ k ≤ 128 ^ 9 := Nat.pow_le_pow_right (by decide) hk
  have h9 : (128 : Nat) ^ 9 = 9223372036854775808 := by decide
  have e : acc ||| y * 128 ^ k = acc + y * 128 ^ k := by
    rw [pow7] at ha ⊢
    rw [Nat.or_comm, Nat.mul_comm, ← Nat.two_pow_add_eq_or_of_lt ha]
    omega
  have hsum : acc + y * 128 ^ k < 18446744073709551616 := by
    rw [← e]
    exact Nat.or_lt_two_pow (n := 64) (by omega) hy
  rw [I64_of (by omega), I64_of hsum, u64_or_nat _ _ (by omega) hy, e]
theorem wrap_shl {y k : Nat} (hy : y * 128 ^ k < 18446744073709551616) : IntKind.u64.wrap (((y : Nat) : Int) * 2 ^ (7 * k)) = ((y * 128 ^ k : Nat) : Int) := by
  rw [IntKind.wrap_u64, pow7]
  have e : ((y : Nat) : Int) * 2 ^ (7 * k) = ((y * 2 ^ (7 * k) : Nat) : Int) := by
    rw [Int.natCast_mul, Int.natCast_pow]; rfl
  rw [e]
  rw [pow7] at hy
  omega
theorem wrap_byte {y : Nat} (hy : y < 256) : IntKind.u64.wrap ((y : Nat) : Int) = (y : Int) := by
  rw [IntKind.wrap_u64]
  omega
theorem and127 {y : Nat} (hy : y < 256) : bits .and .u8 (y : Int) 127 = ((y % 128 : Nat) : Int) := by
  have h := u8_and_nat y 127 hy (by decide)
  rw [Nat.and_two_pow_sub_one_eq_mod y 7] at h
  exact h
theorem mul_lt {y k : Nat} (hk : k ≤ 9) (hy : y < 128) (h9 : k = 9 → y ≤ 1) : y * 128 ^ k < 18446744073709551616 := by
  by_cases h : k = 9
  · subst h
    have := h9 rfl
    have e : (128 : Nat) ^ 9 = 9223372036854775808 := by decide
    rw [e]
    omega
  · have h1 : (128 : Nat) ^ k ≤ 128 ^ 8 := Nat.pow_le_pow_right (by decide) (by omega)
    have e : (128 : Nat) ^ 8 = 72057594037927936 := by decide
    have : y * 128 ^ k ≤ 127 * 128 ^ 8 := Nat.mul_le_mul (by omega) h1
    rw [e] at this
    omega
theorem acc_lt {acc y k : Nat} (ha : acc < 128 ^ k) (hy : y < 128) : acc + y * 128 ^ k < 128 ^ (k + 1) := by
  rw [Nat.pow_succ]
  have : y * 128 ^ k ≤ 127 * 128 ^ k := Nat.mul_le_mul_right _ (by omega)
  omega
/-- the round's two sums, as the walk writes them -/
theorem step_more {acc y k : Nat} (hk : k < 9) (ha : acc < 128 ^ k) (hy : y < 256) :
    bits .or .u64 (I64 (BitVec.ofNat 64 acc)) (IntKind.u64.wrap (IntKind.u64.wrap (bits .and .u8 (y : Int) 127) * 2 ^ (7 * k))) = I64 (BitVec.ofNat 64 (acc + y % 128 * 128 ^ k)) := by
  have hl := mul_lt (y := y % 128) (k := k) (by omega) (by omega) (by omega)
  rw [and127 hy, wrap_byte (by omega), wrap_shl hl, or_step (by omega) ha hl]
theorem step_last {acc y k : Nat} (hk : k ≤ 9) (ha : acc < 128 ^ k) (hy : y < 128) (h9 : k = 9 → y ≤ 1) :
    bits .or .u64 (I64 (BitVec.ofNat 64 acc)) (IntKind.u64.wrap ((y : Int) * 2 ^ (7 * k))) = I64 (BitVec.ofNat 64 (acc + y * 128 ^ k)) := by
  have hl := mul_lt hk hy h9
  rw [wrap_shl hl, or_step hk ha hl]
theorem uSpec_in {l : List UInt8} {a : Nat} (h : a ≤ l.length) {r : Except Int (Nat × Nat)} (hr : rdU (l.drop a) 0 0 = r) : uSpec l (a : Int) = uRes r a := by
  unfold uSpec
  rw [if_neg (by omega), Int.toNat_natCast, hr]
theorem rd_end {l : List UInt8} {k acc : Nat} (i : Nat) (h : l.length ≤ k) : rdU (l.drop k) i acc = .error 9 := by
  rw [List.drop_of_length_le h]; rfl
theorem rd_large {l : List UInt8} {k acc i : Nat} (h : k < l.length) (hi : i = 9) (hy : 1 < (l.getD k 0).toNat) : rdU (l.drop k) i acc = .error 7 := by
  rw [drop_step h, rdU, if_pos ⟨hi, hy⟩]
theorem rd_form {l : List UInt8} {k acc i : Nat} (h : k < l.length) (hi : 0 < i) (hy : (l.getD k 0).toNat = 0) : rdU (l.drop k) i acc = .error 3 := by
  rw [drop_step h, rdU, if_neg (by omega), if_pos (by omega), if_pos ⟨hy, hi⟩]
theorem rd_ok {l : List UInt8} {k acc i : Nat} (h : k < l.length) (h9 : i = 9 → (l.getD k 0).toNat ≤ 1) (hy : (l.getD k 0).toNat < 128) (h0 : 0 < i → (l.getD k 0).toNat ≠ 0) : rdU (l.drop k) i acc = .ok (acc + (l.getD k 0).toNat * 128 ^ i, i + 1) := by
  rw [drop_step h, rdU, if_neg (by omega), if_pos hy, if_neg (by omega)]
theorem rd_more {l : List UInt8} {k acc i : Nat} (h : k < l.length) (h9 : i ≠ 9) (hy : ¬ (l.getD k 0).toNat < 128) : rdU (l.drop k) i acc = rdU (l.drop (k + 1)) (i + 1) (acc + (l.getD k 0).toNat % 128 * 128 ^ i) := by
  rw [drop_step h, rdU, if_neg (by omega), if_neg hy]
set_option maxRecDepth 4000 in
set_option maxHeartbeats 3200000 in
theorem u_in (v : Value) (l : List UInt8) (p : Nat) (w : World) (hv : Rd w v l) (hp : p ≤ l.length) :
    Calls Tryd.prog 102 #[v, .int .i64 p] w fun e w' => e = .returned (tup3 (uSpec l p)) ∧ w' = w := by
  have Hp : Hid (∀ r, rdU (l.drop p) 0 0 = r → uSpec l (p : Int) = uRes r p) := fun r hr => uSpec_in hp hr
  obtain ⟨a, c, rfl, hn, hm, hb, hz⟩ := hv
  unfold maxLen at hm
  unfold RdA at hb
  have hlt' : l.length ≤ 9223372036854775807 := by omega
  clear hm hn hz
  generalize hN : l.length = n at *
  have HN : Hid (l.length = n) := hN
  clear hN
  have t0 : ¬ (p : Int) < 0 := by omega
  have t1 : ¬ (n : Int) < (p : Int) := by omega
  go_enter Tryd.func102, Tryd.ntmps102
  go_wp2
  go_loop [7, 8] (fun r i => ∃ k : Nat, k ≤ 9 ∧ p + k ≤ n ∧ i = .int .i64 k ∧ ∃ acc : Nat, r = .int .u64 (I64 (BitVec.ofNat 64 acc)) ∧ Hid (acc < 128 ^ k ∧ rdU (l.drop p) 0 0 = rdU (l.drop (p + k)) k acc)) (fun _ i => 10 - (intOf i).toNat)
  case atStart => exact ⟨0, by omega, by omega, rfl, 0, rfl, by decide, rfl⟩
  case round =>
    obtain ⟨k, hk, hkn, rfl, acc, rfl, hacc⟩ := hrel
    by_cases hlt : p + k < n
    · obtain ⟨b, o, rfl, hc⟩ := hb (p + k) hlt
      have hlen : Hid (p + k < l.length) := by show p + k < l.length; rw [HN.out]; exact hlt
      have hc8 : (l.getD (p + k) 0).toNat < 256 := (l.getD (p + k) 0).toNat_lt
      have r1 : Hid (k = 9 → 1 < (l.getD (p + k) 0).toNat → uSpec l (p : Int) = (0, 0, 7)) := fun h1 h2 => Hp.out _ (hacc.out.2.trans (rd_large hlen.out h1 h2))
      have r2 : Hid (0 < k → (l.getD (p + k) 0).toNat = 0 → uSpec l (p : Int) = (0, 0, 3)) := fun h1 h2 => Hp.out _ (hacc.out.2.trans (rd_form hlen.out h1 h2))
      have r3 : Hid ((k = 9 → (l.getD (p + k) 0).toNat ≤ 1) → (l.getD (p + k) 0).toNat < 128 → (0 < k → (l.getD (p + k) 0).toNat ≠ 0) → uSpec l (p : Int) = (acc + (l.getD (p + k) 0).toNat * 128 ^ k, (p : Int) + ((k + 1 : Nat) : Int), 0)) :=
        fun h1 h2 h3 => Hp.out _ (hacc.out.2.trans (rd_ok hlen.out h1 h2 h3))
      have r4 : Hid (k ≠ 9 → ¬ (l.getD (p + k) 0).toNat < 128 → rdU (l.drop p) 0 0 = rdU (l.drop (p + k + 1)) (k + 1) (acc + (l.getD (p + k) 0).toNat % 128 * 128 ^ k)) := fun h1 h2 => hacc.out.2.trans (rd_more hlen.out h1 h2)
      have hacc1 : Hid (acc < 128 ^ k) := hacc.out.1
      clear hacc Hp
      generalize (l.getD (p + k) 0).toNat = y at *
      clear hb
      by_cases hk9 : k = 9
      · have K9 : Hid (k = 9) := hk9
        have hk9' : ((k : Int) == 9) = true := by simp; omega
        clear hk9
        by_cases hy1 : 1 < (y : Int)
        · have HY : Hid (1 < y) := by show 1 < y; omega
          go_wp2
          go_ret3
          exact ⟨by rw [r1.out K9.out HY.out]; exact ret3 I64_0.symm rfl rfl, rfl⟩
        · by_cases hy0 : y = 0
          · have Y0 : Hid (y = 0) := hy0
            have hy0' : ((y : Int) == 0) = true := by simp; omega
            have hkp : (0 : Int) < (k : Int) := by have := K9.out; omega
            clear hy0
            go_wp2
            go_ret3
            exact ⟨by rw [r2.out (by have := K9.out; omega) Y0.out]; exact ret3 I64_0.symm rfl rfl, rfl⟩
          · have hy0' : ((y : Int) == 0) = false := by simp; omega
            have hst : Hid (bits .or .u64 (I64 (BitVec.ofNat 64 acc)) (IntKind.u64.wrap ((y : Int) * 2 ^ (7 * k))) = I64 (BitVec.ofNat 64 (acc + y * 128 ^ k))) := step_last (by omega) hacc1.out (by omega) (by omega)
            go_wp2
            go_ret3
            exact ⟨by rw [r3.out (by omega) (by omega) (by omega)]; exact ret3 hst.out (show _ = (p : Int) + ((k + 1 : Nat) : Int) by omega) rfl, rfl⟩
      · have hk9' : ((k : Int) == 9) = false := by simp; omega
        by_cases hy8 : (y : Int) < 128
        · have hst : Hid (bits .or .u64 (I64 (BitVec.ofNat 64 acc)) (IntKind.u64.wrap ((y : Int) * 2 ^ (7 * k))) = I64 (BitVec.ofNat 64 (acc + y * 128 ^ k))) := step_last (by omega) hacc1.out (by omega) (by omega)
          by_cases hy0 : y = 0
          · have Y0 : Hid (y = 0) := hy0
            have hy0' : ((y : Int) == 0) = true := by simp; omega
            by_cases hk0 : k = 0
            · have K0 : Hid (k = 0) := hk0
              have hkp : ¬ (0 : Int) < (k : Int) := by omega
              clear hy0 hk0
              go_wp2
              go_ret3
              exact ⟨by rw [r3.out (by omega) (by omega) (fun h => by have := K0.out; omega)]; exact ret3 hst.out (show _ = (p : Int) + ((k + 1 : Nat) : Int) by omega) rfl, rfl⟩
            · have hkp : (0 : Int) < (k : Int) := by omega
              clear hy0
              go_wp2
              go_ret3
              exact ⟨by rw [r2.out (by omega) Y0.out]; exact ret3 I64_0.symm rfl rfl, rfl⟩
          · have hy0' : ((y : Int) == 0) = false := by simp; omega
            go_wp2
            go_ret3
            exact ⟨by rw [r3.out (by omega) (by omega) (by omega)]; exact ret3 hst.out (show _ = (p : Int) + ((k + 1 : Nat) : Int) by omega) rfl, rfl⟩
        · have hst := step_more (acc := acc) (y := y) (k := k) (by omega) hacc1.out hc8
          have HST : Hid (bits .or .u64 (I64 (BitVec.ofNat 64 acc)) (IntKind.u64.wrap (IntKind.u64.wrap (bits .and .u8 (y : Int) 127) * 2 ^ (7 * k))) = I64 (BitVec.ofNat 64 (acc + y % 128 * 128 ^ k))) := hst
          clear hst
          go_wp2
          go_round
          case rel => exact ⟨k + 1, by omega, by omega, by go_num, acc + y % 128 * 128 ^ k, by rw [HST.out], acc_lt hacc1.out (by omega), r4.out hk9 (by omega)⟩
          case measure => simp [intOf]; omega
    · have hend : Hid (uSpec l (p : Int) = (0, 0, 9)) := Hp.out _ (hacc.out.2.trans (rd_end _ (by rw [HN.out]; omega)))
      clear hb
      go_wp2
      go_ret3
      exact ⟨by rw [hend.out]; exact ret3 I64_0.symm rfl rfl, rfl⟩
set_option maxHeartbeats 800000 in
theorem u_out (v : Value) (l : List UInt8) (p : Int) (w : World) (hv : Rd w v l) (hp : p < 0 ∨ (l.length : Int) < p) :
    Calls Tryd.prog 102 #[v, .int .i64 p] w fun e w' => e = .returned (tup3 (uSpec l p)) ∧ w' = w := by
  have Hs : Hid (uSpec l p = (0, 0, 1)) := if_pos hp
  obtain ⟨a, c, rfl, -, -, -, -⟩ := hv
  by_cases h : p < 0
  · clear hp
    go_enter Tryd.func102, Tryd.ntmps102
    go_wp2
    go_ret3
    exact ⟨by rw [Hs.out]; exact ret3 I64_0.symm rfl rfl, rfl⟩
  · have h1 : (l.length : Int) < p := by omega
    clear hp
    go_enter Tryd.func102, Tryd.ntmps102
    go_wp2
    go_ret3
    exact ⟨by rw [Hs.out]; exact ret3 I64_0.symm rfl rfl, rfl⟩
theorem u_any (v : Value) (l : List UInt8) (p : Int) (w : World) (hv : Rd w v l) :
    Calls Tryd.prog 102 #[v, .int .i64 p] w fun e w' => e = .returned (tup3 (uSpec l p)) ∧ w' = w := by
  by_cases hp : p < 0 ∨ (l.length : Int) < p
  · exact u_out v l p w hv hp
  · obtain ⟨q, rfl⟩ := Int.eq_ofNat_of_zero_le (show 0 ≤ p by omega)
    exact u_in v l q w hv (by omega)
def uz (u : Nat) : Int := if u % 2 = 1 then -((u / 2 : Nat) : Int) - 1 else ((u / 2 : Nat) : Int)
theorem bit0 (x : BitVec 64) : bits .and .u64 (I64 x) 1 = ((x.toNat % 2 : Nat) : Int) := by
  have h := u64_and_nat x.toNat 1 x.isLt (by decide)
  rw [Nat.and_one_is_mod] at h
  exact h
theorem wrap_half (x : BitVec 64) : wrap64 (I64 x / (2 : Int)) = ((x.toNat / 2 : Nat) : Int) := by
  have := x.isLt
  have h : I64 x / (2 : Int) = ((x.toNat / 2 : Nat) : Int) := by simp only [I64]; omega
  rw [h]
  unfold wrap64
  omega
theorem not_i64 (y : Nat) (h : y < 9223372036854775808) : bits .xor .i64 (-1) (y : Int) = -(y : Int) - 1 := by
  have e : BitVec.ofInt 64 (-1) = BitVec.allOnes 64 := by decide
  have e2 : BitVec.ofInt 64 (y : Int) = BitVec.ofNat 64 y := BitVec.ofInt_natCast 64 y
  show IntKind.i64.wrap ((BitVec.ofInt 64 (-1) ^^^ BitVec.ofInt 64 (y : Int)).toNat : Int) = _
  rw [e, e2, BitVec.allOnes_xor, IntKind.wrap_i64]
  simp only [BitVec.toNat_not, BitVec.toNat_ofNat]
  omega
theorem unzigzag_any (x : BitVec 64) (w : World) : Calls Tryd.prog 106 #[.int .u64 (I64 x)] w fun e w' => e = .returned (.int .i64 (uz x.toNat)) ∧ w' = w := by
  have hx := x.isLt
  have e1 := wrap_half x
  have e2 := bit0 x
  have hlt : x.toNat / 2 < 9223372036854775808 := by omega
  have e3 := not_i64 (x.toNat / 2) hlt
  clear hx hlt
  by_cases h : x.toNat % 2 = 1
  · have H : Hid (uz x.toNat = -((x.toNat / 2 : Nat) : Int) - 1) := if_pos h
    rw [h] at e2
    clear h
    generalize x.toNat / 2 = y at *
    generalize uz x.toNat = z at *
    go_enter Tryd.func106, Tryd.ntmps106
    go_wp2
    go_ret
    exact ⟨ret_int H.out.symm, rfl⟩
  · have H : Hid (uz x.toNat = ((x.toNat / 2 : Nat) : Int)) := if_neg h
    have h0 : x.toNat % 2 = 0 := by omega
    rw [h0] at e2
    clear h h0 e3
    generalize x.toNat / 2 = y at *
    have E1 : Hid (wrap64 (I64 x / (2 : Int)) = (y : Int)) := e1
    clear e1
    generalize uz x.toNat = z at *
    go_enter Tryd.func106, Tryd.ntmps106
    go_wp2
    go_ret
    exact ⟨ret_int (E1.out.trans H.out.symm), rfl⟩
def tup3i (r : Nat × Int × Int) : Value := .tuple #[.int .i64 (uz (BitVec.ofNat 64 r.1).toNat), .int .i64 r.2.1, .int .i64 r.2.2]
theorem i_any (v : Value) (l : List UInt8) (p : Int) (w : World) (hv : Rd w v l) :
    Calls Tryd.prog 99 #[v, .int .i64 p] w fun e w' => e = .returned (tup3i (uSpec l p)) ∧ w' = w := by
  have H := u_any v l p w hv
  generalize uSpec l p = r at H ⊢
  obtain ⟨r1, r2, r3⟩ := r
  unfold tup3 at H
  unfold tup3i
  simp only [] at H ⊢
  generalize BitVec.ofNat 64 r1 = x at H ⊢
  have HC : Hid (Calls Tryd.prog 102 #[v, .int .i64 p] w fun e w' => e = .returned (.tuple #[.int .u64 (I64 x), .int .i64 r2, .int .i64 r3]) ∧ w' = w) := H
  clear H hv
  go_enter Tryd.func99, Tryd.ntmps99
  go_wp2_with fail
  refine HC.out.mono ?_
  rintro e w1 ⟨rfl, rfl⟩
  go_wp2_with fail
  refine (unzigzag_any x _).mono ?_
  rintro e w2 ⟨rfl, rfl⟩
  go_wp2
  go_ret3
  exact ⟨rfl, rfl⟩
theorem rdU_uv : ∀ (N n i acc : Nat) (rest : List UInt8), n < N → i ≤ 9 → n * 128 ^ i < 18446744073709551616 → (0 < i → n ≠ 0) → rdU (uv n ++ rest) i acc = .ok (acc + n * 128 ^ i, i + (uv n).length) := by
  intro N
  induction N with
  | zero => intro n i acc rest h; omega
  | succ N ih =>
    intro n i acc rest hN hi hlt h0
    by_cases hn : n < 128
    · rw [uv_small hn]
      have hc : (UInt8.ofNat n).toNat = n := by rw [UInt8.toNat_ofNat']; omega
      simp only [List.cons_append, List.nil_append, List.length_cons, List.length_nil, rdU, hc]
      have h9 : ¬ (i = 9 ∧ 1 < n) := by
        rintro ⟨rfl, h1⟩
        have : (128 : Nat) ^ 9 = 9223372036854775808 := by decide
        rw [this] at hlt
        omega
      rw [if_neg h9, if_pos hn, if_neg (by intro h; exact h0 h.2 h.1)]
    · rw [uv_big hn]
      have hc : (lowB n).toNat = n % 128 + 128 := lowB_nat n
      have h9 : i ≠ 9 := by
        rintro rfl
        have : (128 : Nat) ^ 9 = 9223372036854775808 := by decide
        rw [this] at hlt
        omega
      simp only [List.cons_append, rdU, hc]
      rw [if_neg (fun h => h9 h.1), if_neg (by omega)]
      have e1 : n / 128 * 128 ^ (i + 1) ≤ n * 128 ^ i := by
        rw [Nat.pow_succ, Nat.mul_comm (128 ^ i) 128, ← Nat.mul_assoc]
        exact Nat.mul_le_mul_right _ (Nat.div_mul_le_self n 128)
      rw [ih (n / 128) (i + 1) _ rest (by omega) (by omega) (by omega) (fun _ => by omega)]
      have e2 : (n % 128 + 128) % 128 = n % 128 := by omega
      have e3 : n * 128 ^ i = n % 128 * 128 ^ i + n / 128 * 128 ^ (i + 1) := by
        rw [Nat.pow_succ, Nat.mul_comm (128 ^ i) 128, ← Nat.mul_assoc, ← Nat.add_mul]
        congr 1
        omega
      rw [e2, e3]
      simp only [List.length_cons, Except.ok.injEq, Prod.mk.injEq]
      omega
/-- these bits stand at this place -/
def At (L : List UInt8) (p s : Nat) (bs : List Bool) : Prop := p + bs.length ≤ s ∧ ∀ j, j < bs.length → ubit L (p + j) = bs.getD j false
theorem At.app {L : List UInt8} {p s : Nat} {a b : List Bool} (h : At L p s (a ++ b)) : At L p s a ∧ At L (p + a.length) s b := by
  obtain ⟨h1, h2⟩ := h
  rw [List.length_append] at h1 h2
  refine ⟨⟨by omega, fun j hj => ?_⟩, ⟨by omega, fun j hj => ?_⟩⟩
  · rw [h2 j (by omega)]
    simp only [List.getD, List.getElem?_append_left hj]
  · rw [Nat.add_assoc, h2 (a.length + j) (by omega)]
    simp only [List.getD]
    rw [List.getElem?_append_right (by omega)]
    congr 2
    omega
theorem At.ubits {L : List UInt8} {p s : Nat} {bs : List Bool} (h : At L p s bs) : ubits L p bs.length = bs := by
  apply List.ext_getElem
  · rw [ubits_len]
  · intro i h1 h2
    simp only [Go.Proofs.YtkiefmhampfhoaaDoor.ubits, List.getElem_map, List.getElem_range]
    rw [h.2 i h2]
    simp [List.getD, h2]
theorem At.pack {bs a b c : List Bool} (h : bs = a ++ (b ++ c)) : At (pack bs) a.length bs.length b := by
  subst h
  refine ⟨by simp only [List.length_append]; omega, fun j hj => ?_⟩
  rw [ubit_pack _ _ (by simp only [List.length_append]; omega)]
  simp only [List.getD]
  rw [List.getElem?_append_right (by omega), List.getElem?_append_left (by omega)]
  congr 2
  omega
end Go.Proofs.YtkiefmhampfhoaaDoor

/- CkE -/
namespace Go.Proofs.YtkiefmhampfhoaaDoor
open Go.RowKit

/-! ### a sample's bits -/
/-- two's complement of 64 bits -/
def U64 (d : Int) : Nat := (d % 18446744073709551616).toNat
theorem U64_lt (d : Int) : U64 d < 18446744073709551616 := by unfold U64; omega
/-- the form of how the gap has turned -/
def formN (d : Int) : Nat := if d = 0 then 0 else if -8192 < d ∧ d ≤ 8192 then 1 else if -65536 < d ∧ d ≤ 65536 then 2 else if -524288 < d ∧ d ≤ 524288 then 3 else 4
theorem formN_le (d : Int) : formN d ≤ 4 := by unfold formN; split <;> (try split) <;> (try split) <;> (try split) <;> omega
def headB (k : Nat) : List Bool := List.replicate k true ++ (if k < 4 then [false] else [])
def turnB (d : Int) : List Bool := headB (formN d) ++ bitsOf (U64 d % 2 ^ tw (formN d)) (tw (formN d))
theorem tw_le (k : Nat) : tw k ≤ 64 := by
  match k with
  | 0 => decide
  | 1 => decide
  | 2 => decide
  | 3 => decide
  | 4 => decide
  | k + 5 => simp [tw]
theorem headB_len {k : Nat} (h : k ≤ 4) : (headB k).length ≤ 4 := by
  unfold headB
  rw [List.length_append, List.length_replicate]
  by_cases h4 : k < 4
  · rw [if_pos h4]; simp; omega
  · rw [if_neg h4]; simp; omega
theorem turnB_len (d : Int) : (turnB d).length ≤ 68 := by
  unfold turnB
  rw [List.length_append, bitsOf_len]
  have h1 := headB_len (formN_le d)
  have h2 := tw_le (formN d)
  omega

/-- how many bits 0 a value's turned bits begin with, end with -/
def leadN (x : Nat) : Nat := min (64 - Lib.bitLen x) 31
def tailN (x : Nat) : Nat := Lib.ctz 64 x
theorem bitLen_bds {x : Nat} (h0 : x ≠ 0) (hx : x < 18446744073709551616) : 1 ≤ Lib.bitLen x ∧ 2 ^ (Lib.bitLen x - 1) ≤ x ∧ x < 2 ^ Lib.bitLen x ∧ Lib.bitLen x ≤ 64 := by
  have h := Lib.bitLenAux_bounds 64 x hx h0
  exact ⟨h.1, h.2.1, h.2.2, Lib.bitLen_le x 64 (by omega) hx⟩
theorem tail_spec {x : Nat} (h0 : x ≠ 0) (hx : x < 18446744073709551616) : ∃ m, x = 2 ^ tailN x * (2 * m + 1) ∧ tailN x < 64 := by
  unfold tailN Lib.ctz
  rw [if_neg h0]
  exact Lib.ctzFrom_spec 64 x (by omega) hx
theorem tail_le {x : Nat} (h0 : x ≠ 0) (hx : x < 18446744073709551616) : 2 ^ tailN x ≤ x := by
  obtain ⟨m, hm, _⟩ := tail_spec h0 hx
  have : 2 ^ tailN x * 1 ≤ 2 ^ tailN x * (2 * m + 1) := Nat.mul_le_mul_left _ (by omega)
  omega
theorem lead_spec {x : Nat} (h0 : x ≠ 0) (hx : x < 18446744073709551616) : x < 2 ^ (64 - leadN x) ∧ leadN x ≤ 31 ∧ tailN x < 64 - leadN x := by
  obtain ⟨h1, h2, h3, h4⟩ := bitLen_bds h0 hx
  have hl : leadN x ≤ 64 - Lib.bitLen x := Nat.min_le_left _ _
  have h31 : leadN x ≤ 31 := Nat.min_le_right _ _
  have h5 : x < 2 ^ (64 - leadN x) := Nat.lt_of_lt_of_le h3 (Nat.pow_le_pow_right (by decide) (by omega))
  refine ⟨h5, h31, ?_⟩
  have h6 := tail_le h0 hx
  exact (Nat.pow_lt_pow_iff_right (by decide : 1 < 2)).1 (Nat.lt_of_le_of_lt h6 h5)

/-- what the form of the next sample hangs on -/
structure Pst where
  n : Nat
  t : Int
  f : Nat
  gap : Int
  th : Bool
  ld : Nat
  tl : Nat
def startP : Pst := ⟨0, 0, 0, 0, false, 0, 0⟩
def fitsW (st : Pst) (x : Nat) : Bool := st.th && decide (st.ld ≤ leadN x) && decide (st.tl ≤ tailN x)
def ownB (x : Nat) : List Bool := bitsOf (leadN x) 5 ++ (bitsOf ((64 - leadN x - tailN x) % 64) 6 ++ bitsOf (x / 2 ^ tailN x) (64 - leadN x - tailN x))
def turnedB (st : Pst) (x : Nat) : List Bool := if fitsW st x = true then false :: bitsOf (x / 2 ^ st.tl) (64 - st.ld - st.tl) else true :: ownB x
def valB (st : Pst) (f' : Nat) : List Bool := if st.f ^^^ f' = 0 then [false] else true :: turnedB st (st.f ^^^ f')
def valW (st : Pst) (f' : Nat) : Bool × Nat × Nat := if st.f ^^^ f' = 0 ∨ fitsW st (st.f ^^^ f') = true then (st.th, st.ld, st.tl) else (true, leadN (st.f ^^^ f'), tailN (st.f ^^^ f'))
def timB (st : Pst) (t' : Int) : List Bool := if st.n = 0 then bytesBits (uv (zz t')) else if st.n = 1 then bytesBits (uv (t' - st.t).toNat) else turnB (t' - st.t - st.gap)
def smpB (st : Pst) (t' : Int) (f' : Nat) : List Bool := timB st t' ++ (if st.n = 0 then bitsOf f' 64 else valB st f')
def smpW (st : Pst) (f' : Nat) : Bool × Nat × Nat := if st.n = 0 then (st.th, st.ld, st.tl) else valW st f'
def nextP (st : Pst) (t' : Int) (f' : Nat) : Pst := ⟨st.n + 1, t', f', t' - st.t, (smpW st f').1, (smpW st f').2.1, (smpW st f').2.2⟩
/-- a state that can be -/
structure OkP (st : Pst) : Prop where
  most : st.n ≤ 120
  time : 0 ≤ st.t ∧ st.t ≤ 1125899906842624
  bits : st.f < 18446744073709551616
  gap : -1125899906842624 ≤ st.gap ∧ st.gap ≤ 1125899906842624
  win : st.ld ≤ 31 ∧ st.ld + st.tl < 64
theorem startOk : OkP startP := ⟨by decide, by decide, by decide, by decide, by decide⟩
theorem xor_lt {a b : Nat} (ha : a < 18446744073709551616) (hb : b < 18446744073709551616) : a ^^^ b < 18446744073709551616 := Nat.xor_lt_two_pow (n := 64) ha hb
theorem smpW_ok {st : Pst} (h : OkP st) {f' : Nat} (hf : f' < 18446744073709551616) : (smpW st f').2.1 ≤ 31 ∧ (smpW st f').2.1 + (smpW st f').2.2 < 64 := by
  unfold smpW
  split
  · exact h.win
  · unfold valW
    split
    · exact h.win
    · rename_i hn
      have hn0 : st.f ^^^ f' ≠ 0 := fun e => hn (.inl e)
      have := lead_spec hn0 (xor_lt h.bits hf)
      exact ⟨this.2.1, by show leadN _ + tailN _ < 64; omega⟩
theorem nextOk {st : Pst} (h : OkP st) {t' : Int} {f' : Nat} (hn : st.n < 120) (ht : 0 ≤ t' ∧ t' ≤ 1125899906842624) (hf : f' < 18446744073709551616) : OkP (nextP st t' f') :=
  ⟨by show st.n + 1 ≤ 120; omega, ht, hf, by have := h.time; show -1125899906842624 ≤ t' - st.t ∧ t' - st.t ≤ 1125899906842624; omega, smpW_ok h hf⟩
theorem valB_len (st : Pst) (f' : Nat) : (valB st f').length ≤ 77 := by
  unfold valB
  split
  · simp
  · unfold turnedB
    split
    · simp only [List.length_cons, bitsOf_len]; omega
    · unfold ownB
      simp only [List.length_cons, List.length_append, bitsOf_len]
      omega
theorem uv_len_of {n : Nat} (h : n < 18446744073709551616) : (uv n).length ≤ 10 := by
  have := uv_len64 (BitVec.ofNat 64 n)
  rwa [BitVec.toNat_ofNat, Nat.mod_eq_of_lt h] at this
theorem timB_len {st : Pst} (h : OkP st) {t' : Int} (ht : 0 ≤ t' ∧ t' ≤ 1125899906842624) : (timB st t').length ≤ 80 := by
  unfold timB
  split
  · rw [bytesBits_len]
    have := uv_len_of (n := zz t') (by unfold zz; split <;> omega)
    omega
  · split
    · rw [bytesBits_len]
      have := uv_len_of (n := (t' - st.t).toNat) (by have := h.time; omega)
      omega
    · have := turnB_len (t' - st.t - st.gap)
      omega
theorem smpB_len {st : Pst} (h : OkP st) {t' : Int} (ht : 0 ≤ t' ∧ t' ≤ 1125899906842624) (f' : Nat) : (smpB st t' f').length ≤ 160 := by
  unfold smpB
  rw [List.length_append]
  have h1 := timB_len h ht
  split
  · rw [bitsOf_len]; omega
  · have := valB_len st f'
    omega

/-! ### many samples -/
abbrev SmpT := Int × Nat
def stA (st : Pst) : List SmpT → Pst
  | [] => st
  | x :: l => stA (nextP st x.1 x.2) l
def encB (st : Pst) : List SmpT → List Bool
  | [] => []
  | x :: l => smpB st x.1 x.2 ++ encB (nextP st x.1 x.2) l
theorem stA_snoc (st : Pst) (l : List SmpT) (x : SmpT) : stA st (l ++ [x]) = nextP (stA st l) x.1 x.2 := by
  induction l generalizing st with
  | nil => rfl
  | cons y l ih => exact ih _
theorem encB_snoc (st : Pst) (l : List SmpT) (x : SmpT) : encB st (l ++ [x]) = encB st l ++ smpB (stA st l) x.1 x.2 := by
  induction l generalizing st with
  | nil => simp [encB, stA]
  | cons y l ih => simp only [List.cons_append, encB, stA, ih, List.append_assoc]
/-- what Append answers -/
def wrongN (st : Pst) (t : Int) : Int := if t < 0 ∨ 1125899906842624 < t then 1 else if 0 < st.n ∧ t ≤ st.t then 90 else if st.n = 120 then 8 else 0
theorem wrongN_ok {st : Pst} {t : Int} (h : wrongN st t = 0) (hm : st.n ≤ 120) : (0 ≤ t ∧ t ≤ 1125899906842624) ∧ (st.n = 0 ∨ st.t < t) ∧ st.n < 120 := by
  unfold wrongN at h
  split at h
  · cases h
  · split at h
    · cases h
    · split at h
      · cases h
      · omega
/-- samples that can stand behind a state -/
def okL (st : Pst) : List SmpT → Prop
  | [] => True
  | x :: l => wrongN st x.1 = 0 ∧ x.2 < 18446744073709551616 ∧ okL (nextP st x.1 x.2) l
theorem okL_snoc {st : Pst} {l : List SmpT} {x : SmpT} : okL st (l ++ [x]) ↔ okL st l ∧ wrongN (stA st l) x.1 = 0 ∧ x.2 < 18446744073709551616 := by
  induction l generalizing st with
  | nil => simp [okL, stA]
  | cons y l ih =>
    simp only [List.cons_append, okL, stA, ih]
    constructor
    · rintro ⟨a, b, c, d⟩; exact ⟨⟨a, b, c⟩, d⟩
    · rintro ⟨⟨a, b, c⟩, d⟩; exact ⟨a, b, c, d⟩
theorem stA_ok {st : Pst} (h : OkP st) : ∀ {l : List SmpT}, okL st l → OkP (stA st l) := by
  intro l
  induction l generalizing st with
  | nil => intro _; exact h
  | cons x l ih =>
    rintro ⟨h1, h2, h3⟩
    have := wrongN_ok h1 h.most
    exact ih (nextOk h this.2.2 this.1 h2) h3
theorem stA_n (st : Pst) (l : List SmpT) : (stA st l).n = st.n + l.length := by
  induction l generalizing st with
  | nil => rfl
  | cons x l ih => rw [stA, ih]; show st.n + 1 + l.length = _; simp; omega
theorem encB_len {st : Pst} (h : OkP st) : ∀ {l : List SmpT}, okL st l → (encB st l).length ≤ 160 * l.length := by
  intro l
  induction l generalizing st with
  | nil => intro _; simp [encB]
  | cons x l ih =>
    rintro ⟨h1, h2, h3⟩
    have := wrongN_ok h1 h.most
    have h4 := ih (nextOk h this.2.2 this.1 h2) h3
    have h5 := smpB_len h this.1 x.2
    rw [encB, List.length_append, List.length_cons]
    omega
end Go.Proofs.YtkiefmhampfhoaaDoor

/- CkD -/
namespace Go.Proofs.YtkiefmhampfhoaaDoor
open Go.RowKit

/-- n bits from the place p on, of s -/
def tkO (L : List UInt8) (s p n : Nat) : Option (Nat × Nat) := if p + n ≤ s then some (natOf (ubits L p n), p + n) else none
theorem tkO_at {L : List UInt8} {p s : Nat} {bs : List Bool} (h : At L p s bs) : tkO L s p bs.length = some (natOf bs, p + bs.length) := by
  unfold tkO
  rw [if_pos h.1, h.ubits]
theorem tkO_of {L : List UInt8} {p s x n : Nat} (h : At L p s (bitsOf x n)) (hx : x < 2 ^ n) : tkO L s p n = some (x, p + n) := by
  have := tkO_at h
  rw [bitsOf_len, natOf_bitsOf, Nat.mod_eq_of_lt hx] at this
  exact this
theorem tkO_lt {L : List UInt8} {p s n x p1 : Nat} (h : tkO L s p n = some (x, p1)) : x < 2 ^ n ∧ p1 = p + n ∧ p + n ≤ s := by
  unfold tkO at h
  split at h
  · rename_i hp
    simp only [Option.some.injEq, Prod.mk.injEq] at h
    obtain ⟨rfl, rfl⟩ := h
    refine ⟨?_, rfl, hp⟩
    have := natOf_lt (ubits L p n)
    rwa [ubits_len] at this
  · cases h
/-- the bytes of a number -/
def numO (L : List UInt8) (s : Nat) : Nat → Nat → Option (List UInt8 × Nat)
  | 0, _ => none
  | k + 1, p => match tkO L s p 8 with
    | none => none
    | some (x, p1) => if x < 128 then some ([UInt8.ofNat x], p1) else match numO L s k p1 with
      | none => none
      | some (bs, p2) => some (UInt8.ofNat x :: bs, p2)
theorem At.nil {L : List UInt8} {p s : Nat} (h : p ≤ s) : At L p s [] := ⟨by simpa using h, fun j hj => by simp at hj⟩
theorem bytesBits_cons (b : UInt8) (l : List UInt8) : bytesBits (b :: l) = bitsOf b.toNat 8 ++ bytesBits l := rfl
theorem numO_at {L : List UInt8} {s : Nat} : ∀ (k n p : Nat), At L p s (bytesBits (uv n)) → (uv n).length ≤ k → numO L s k p = some (uv n, p + 8 * (uv n).length) := by
  intro k
  induction k with
  | zero => intro n p _ h; have := uv_pos n; omega
  | succ k ih =>
    intro n p h hk
    by_cases hn : n < 128
    · rw [uv_small hn] at h ⊢
      rw [bytesBits_cons] at h
      have e : (UInt8.ofNat n).toNat = n := by rw [UInt8.toNat_ofNat']; omega
      have h1 := tkO_of h.app.1 (by rw [e]; omega)
      rw [numO, h1]
      simp only [e]
      rw [if_pos hn]
      rfl
    · rw [uv_big hn] at h hk ⊢
      rw [bytesBits_cons] at h
      have h0 := lowB_nat n
      have h1 := tkO_of h.app.1 (by have := (lowB n).toNat_lt; omega)
      have h2 := h.app.2
      rw [bitsOf_len] at h2
      have h3 := ih (n / 128) (p + 8) h2 (by simpa using hk)
      rw [numO, h1]
      simp only [h3]
      rw [if_neg (by omega)]
      have e : UInt8.ofNat (lowB n).toNat = lowB n := by simp
      rw [e]
      simp only [List.length_cons, Option.some.injEq, Prod.mk.injEq, true_and]
      omega
/-- the form of a turn -/
def trnO (L : List UInt8) (s : Nat) : Nat → Nat → Option (Nat × Nat)
  | 0, p => some (0, p)
  | k + 1, p => match tkO L s p 1 with
    | none => none
    | some (x, p1) => if x = 1 then match trnO L s k p1 with
      | none => none
      | some (j, p2) => some (j + 1, p2) else some (0, p1)
theorem tkO_bit {L : List UInt8} {s p : Nat} {b : Bool} (h : At L p s [b]) : tkO L s p 1 = some (b2n b, p + 1) := by
  have e : tkO L s p 1 = some (natOf [b], p + 1) := tkO_at h
  rw [e]
  cases b <;> rfl
theorem trnO_at {L : List UInt8} {s : Nat} : ∀ (k j p : Nat), j ≤ k → p ≤ s → At L p s (List.replicate j true ++ (if j < k then [false] else [])) → trnO L s k p = some (j, p + (List.replicate j true ++ (if j < k then [false] else [])).length) := by
  intro k
  induction k with
  | zero =>
    intro j p hj _ _
    obtain rfl : j = 0 := by omega
    simp [trnO]
  | succ k ih =>
    intro j p hj hp h
    cases j with
    | zero =>
      simp only [List.replicate_zero, List.nil_append, Nat.zero_lt_succ, if_true] at h ⊢
      rw [trnO, tkO_bit h]
      simp [b2n]
    | succ j =>
      rw [List.replicate_succ, List.cons_append] at h ⊢
      have e : (true :: (List.replicate j true ++ if j + 1 < k + 1 then [false] else [])) = [true] ++ (List.replicate j true ++ if j < k then [false] else []) := by
        simp [Nat.succ_lt_succ_iff]
      rw [e] at h ⊢
      have h2 := ih j (p + 1) (by omega) (by have := h.app.1.1; simpa using this) (by simpa using h.app.2)
      rw [trnO, tkO_bit h.app.1]
      simp only [b2n, if_true, h2]
      simp only [List.length_append, List.length_cons, List.length_nil, Option.some.injEq, Prod.mk.injEq, true_and]
      omega
/-- the number of R(k) whose lowest bits these are -/
def ofRk (v k : Nat) : Int := if k = 64 then wrap64 (v : Int) else if 0 < k ∧ 2 ^ (k - 1) < v then (v : Int) - ((2 ^ k : Nat) : Int) else (v : Int)
theorem ofRk_form (d : Int) (h1 : -9223372036854775808 ≤ d) (h2 : d ≤ 9223372036854775807) : ofRk (U64 d % 2 ^ tw (formN d)) (tw (formN d)) = d := by
  unfold formN
  split
  · subst d
    decide
  · split
    · rename_i h0 h
      show ofRk (U64 d % 2 ^ 14) 14 = d
      unfold ofRk U64
      simp only [show (14 : Nat) = 64 ↔ False by decide, if_false, show (0 : Nat) < 14 by decide, true_and, show 2 ^ (14 - 1) = 8192 by decide, show 2 ^ 14 = 16384 by decide]
      split <;> omega
    · split
      · rename_i h0 h h'
        show ofRk (U64 d % 2 ^ 17) 17 = d
        unfold ofRk U64
        simp only [show (17 : Nat) = 64 ↔ False by decide, if_false, show (0 : Nat) < 17 by decide, true_and, show 2 ^ (17 - 1) = 65536 by decide, show 2 ^ 17 = 131072 by decide]
        split <;> omega
      · split
        · rename_i h0 h h' h''
          show ofRk (U64 d % 2 ^ 20) 20 = d
          unfold ofRk U64
          simp only [show (20 : Nat) = 64 ↔ False by decide, if_false, show (0 : Nat) < 20 by decide, true_and, show 2 ^ (20 - 1) = 524288 by decide, show 2 ^ 20 = 1048576 by decide]
          split <;> omega
        · show ofRk (U64 d % 2 ^ 64) 64 = d
          unfold ofRk U64
          rw [if_pos rfl]
          unfold wrap64
          simp only [show 2 ^ 64 = 18446744073709551616 by decide]
          omega
def turnO (L : List UInt8) (s p : Nat) : Option (Int × Nat) := match trnO L s 4 p with
  | none => none
  | some (k, p1) => match tkO L s p1 (tw k) with
    | none => none
    | some (v, p2) => some (ofRk v (tw k), p2)
theorem turnO_at {L : List UInt8} {s p : Nat} {d : Int} (h1 : -9223372036854775808 ≤ d) (h2 : d ≤ 9223372036854775807) (h : At L p s (turnB d)) : turnO L s p = some (d, p + (turnB d).length) := by
  unfold turnB at h ⊢
  have ha := h.app
  have hp : p ≤ s := by have := h.1; omega
  have e1 := trnO_at 4 (formN d) p (formN_le d) hp ha.1
  have e2 := tkO_of ha.2 (Nat.mod_lt _ (Nat.pow_pos (by decide)))
  unfold turnO
  rw [e1]
  simp only
  unfold headB at e2 ⊢
  rw [e2]
  simp only
  rw [ofRk_form d h1 h2]
  simp only [List.length_append, bitsOf_len, Option.some.injEq, Prod.mk.injEq, true_and]
  omega
/-- the window that a value's bits are in -/
def winO (st : Pst) (L : List UInt8) (s p : Nat) : Option ((Bool × Nat × Nat) × Nat) := match tkO L s p 1 with
  | none => none
  | some (x, p1) => if x = 1 then match tkO L s p1 5 with
    | none => none
    | some (l, p2) => match tkO L s p2 6 with
      | none => none
      | some (z, p3) => if 64 < l + (if z = 0 then 64 else z) then none else some ((true, l, 64 - l - (if z = 0 then 64 else z)), p3) else if st.th = true then some ((true, st.ld, st.tl), p1) else none
def turnedO (st : Pst) (L : List UInt8) (s p : Nat) : Option (Nat × (Bool × Nat × Nat) × Nat) := match winO st L s p with
  | none => none
  | some (w, p1) => match tkO L s p1 (64 - w.2.1 - w.2.2) with
    | none => none
    | some (v, p2) => some (v * 2 ^ w.2.2, w, p2)
def valO (st : Pst) (L : List UInt8) (s p : Nat) : Option (Nat × (Bool × Nat × Nat) × Nat) := match tkO L s p 1 with
  | none => none
  | some (x, p1) => if x = 1 then match turnedO st L s p1 with
    | none => none
    | some (v, w, p2) => some (st.f ^^^ v, w, p2) else some (st.f, (st.th, st.ld, st.tl), p1)
theorem shift_back {x k m : Nat} (h : x = 2 ^ k * m) : x / 2 ^ k * 2 ^ k = x := by
  subst h
  rw [Nat.mul_div_cancel_left _ (Nat.pow_pos (by decide)), Nat.mul_comm]
theorem pow_split {a b : Nat} (h : b ≤ a) : 2 ^ a = 2 ^ b * 2 ^ (a - b) := by rw [← Nat.pow_add]; congr 1; omega
theorem div_lt_pow {x a b : Nat} (h : x < 2 ^ a) (hb : b ≤ a) : x / 2 ^ b < 2 ^ (a - b) := by
  rw [Nat.div_lt_iff_lt_mul (Nat.pow_pos (by decide)), Nat.mul_comm, ← pow_split hb]
  exact h
theorem turnedO_at {st : Pst} {L : List UInt8} {s p x : Nat} (h0 : x ≠ 0) (hx : x < 18446744073709551616) (hw : st.ld ≤ 31 ∧ st.ld + st.tl < 64) (h : At L p s (turnedB st x)) :
    turnedO st L s p = some (x, (if fitsW st x = true then (st.th, st.ld, st.tl) else (true, leadN x, tailN x)), p + (turnedB st x).length) := by
  obtain ⟨m, hm, hk⟩ := tail_spec h0 hx
  obtain ⟨l1, l2, l3⟩ := lead_spec h0 hx
  unfold turnedB at h ⊢
  by_cases hf : fitsW st x = true
  · rw [if_pos hf] at h ⊢
    rw [if_pos hf]
    have hf' := hf
    unfold fitsW at hf'
    simp only [Bool.and_eq_true, decide_eq_true_eq] at hf'
    obtain ⟨⟨f1, f2⟩, f3⟩ := hf'
    have ha := (show At L p s ([false] ++ bitsOf (x / 2 ^ st.tl) (64 - st.ld - st.tl)) from h).app
    have e1 := tkO_bit ha.1
    have hlt : x < 2 ^ (64 - st.ld) := Nat.lt_of_lt_of_le l1 (Nat.pow_le_pow_right (by decide) (by omega))
    have e2 := tkO_of ha.2 (div_lt_pow hlt (by omega))
    have e3 : x / 2 ^ st.tl * 2 ^ st.tl = x := by
      refine shift_back (m := 2 ^ (tailN x - st.tl) * (2 * m + 1)) ?_
      rw [← Nat.mul_assoc, ← pow_split f3]
      exact hm
    unfold turnedO winO
    rw [e1]
    simp only [b2n, Bool.false_eq_true, if_false, show (0 : Nat) = 1 ↔ False by decide, f1, if_true]
    rw [show p + 1 = p + [false].length from rfl, e2]
    simp only [e3, List.length_cons, List.length_nil, bitsOf_len, Option.some.injEq, Prod.mk.injEq, true_and]
    omega
  · rw [if_neg hf] at h ⊢
    rw [if_neg hf]
    unfold ownB at h ⊢
    have ha := (show At L p s ([true] ++ (bitsOf (leadN x) 5 ++ (bitsOf ((64 - leadN x - tailN x) % 64) 6 ++ bitsOf (x / 2 ^ tailN x) (64 - leadN x - tailN x)))) from h).app
    have e1 := tkO_bit ha.1
    have hb := ha.2.app
    have e2 := tkO_of hb.1 (by omega)
    have hc := hb.2.app
    have e3 := tkO_of hc.1 (by omega)
    have e4 := tkO_of hc.2 (div_lt_pow l1 (by omega))
    simp only [bitsOf_len, List.length_cons, List.length_nil, Nat.zero_add] at e2 e3 e4
    have hz : (if (64 - leadN x - tailN x) % 64 = 0 then 64 else (64 - leadN x - tailN x) % 64) = 64 - leadN x - tailN x := by
      split <;> omega
    unfold turnedO winO
    rw [e1]
    simp only [b2n, if_true]
    rw [e2]
    simp only
    rw [e3]
    simp only
    rw [hz, if_neg (by omega)]
    simp only
    have hsz : 64 - leadN x - (64 - leadN x - (64 - leadN x - tailN x)) = 64 - leadN x - tailN x := by omega
    have htl : 64 - leadN x - (64 - leadN x - tailN x) = tailN x := by omega
    rw [hsz, htl, e4]
    simp only [shift_back hm, List.length_cons, List.length_append, bitsOf_len, Option.some.injEq, Prod.mk.injEq, true_and]
    omega
theorem xor_back (a b : Nat) : a ^^^ (a ^^^ b) = b := by rw [← Nat.xor_assoc, Nat.xor_self, Nat.zero_xor]
theorem valO_at {st : Pst} {L : List UInt8} {s p f' : Nat} (hs : OkP st) (hf : f' < 18446744073709551616) (h : At L p s (valB st f')) :
    valO st L s p = some (f', valW st f', p + (valB st f').length) := by
  unfold valB at h ⊢
  unfold valW
  by_cases h0 : st.f ^^^ f' = 0
  · rw [if_pos h0] at h ⊢
    rw [if_pos (.inl h0)]
    unfold valO
    rw [tkO_bit h]
    simp only [b2n, Bool.false_eq_true, if_false, show (0 : Nat) = 1 ↔ False by decide]
    have e : f' = st.f := by
      have := xor_back st.f f'
      rw [h0, Nat.xor_zero] at this
      exact this.symm
    rw [e]
    rfl
  · rw [if_neg h0] at h ⊢
    have ha := (show At L p s ([true] ++ turnedB st (st.f ^^^ f')) from h).app
    have e1 := tkO_bit ha.1
    have e2 := turnedO_at h0 (xor_lt hs.bits hf) hs.win ha.2
    unfold valO
    rw [e1]
    simp only [b2n, if_true]
    rw [show p + 1 = p + [true].length from rfl, e2]
    simp only [xor_back]
    have e3 : (if fitsW st (st.f ^^^ f') = true then (st.th, st.ld, st.tl) else (true, leadN (st.f ^^^ f'), tailN (st.f ^^^ f'))) = (if st.f ^^^ f' = 0 ∨ fitsW st (st.f ^^^ f') = true then (st.th, st.ld, st.tl) else (true, leadN (st.f ^^^ f'), tailN (st.f ^^^ f'))) := by
      simp [h0]
    rw [e3]
    simp only [List.length_cons, List.length_nil, Option.some.injEq, Prod.mk.injEq, true_and]
    omega
/-- the time of the next sample -/
def timO (st : Pst) (L : List UInt8) (s p : Nat) : Option (Int × Nat) :=
  if st.n = 0 then match numO L s (s / 8 + 1) p with
    | none => none
    | some (bs, p1) => if (uSpec bs 0).2.2 = 0 then some (uz (BitVec.ofNat 64 (uSpec bs 0).1).toNat, p1) else none
  else if st.n = 1 then match numO L s (s / 8 + 1) p with
    | none => none
    | some (bs, p1) => if (uSpec bs 0).2.2 = 0 then some (wrap64 (st.t + wrap64 (I64 (BitVec.ofNat 64 (uSpec bs 0).1))), p1) else none
  else match turnO L s p with
    | none => none
    | some (d, p1) => some (wrap64 (wrap64 (st.t + st.gap) + d), p1)
theorem uSpec_uv {n : Nat} (h : n < 18446744073709551616) : uSpec (uv n) 0 = (n, ((uv n).length : Int), 0) := by
  have h1 := rdU_uv (n + 1) n 0 0 [] (by omega) (by omega) (by simpa using h) (by omega)
  simp only [List.append_nil, Nat.pow_zero, Nat.mul_one, Nat.zero_add] at h1
  have h2 := uSpec_in (l := uv n) (a := 0) (Nat.zero_le _) (r := .ok (n, (uv n).length)) h1
  rw [show ((0 : Nat) : Int) = 0 from rfl] at h2
  rw [h2]
  simp [uRes]
theorem uz_zz {t : Int} (h : 0 ≤ t ∧ t ≤ 1125899906842624) : uz (zz t) = t := by
  have e : zz t = (2 * t).toNat := by unfold zz; rw [if_neg (by omega)]
  rw [e]
  unfold uz
  split <;> omega
theorem timO_at {st : Pst} {L : List UInt8} {s p : Nat} {t' : Int} (hs : OkP st) (ht : 0 ≤ t' ∧ t' ≤ 1125899906842624) (hr : st.n = 0 ∨ st.t < t') (h : At L p s (timB st t')) :
    timO st L s p = some (t', p + (timB st t').length) := by
  have hsz := h.1
  unfold timB at h hsz ⊢
  unfold timO
  by_cases h0 : st.n = 0
  · rw [if_pos h0] at h hsz ⊢
    rw [if_pos h0]
    rw [bytesBits_len] at hsz ⊢
    have hz : zz t' < 18446744073709551616 := by unfold zz; split <;> omega
    rw [numO_at (s / 8 + 1) (zz t') p h (by omega)]
    simp only [uSpec_uv hz, if_true]
    rw [BitVec.toNat_ofNat, Nat.mod_eq_of_lt hz, uz_zz ht]
  · rw [if_neg h0] at h hsz ⊢
    rw [if_neg h0]
    by_cases h1 : st.n = 1
    · rw [if_pos h1] at h hsz ⊢
      rw [if_pos h1]
      rw [bytesBits_len] at hsz ⊢
      have ht1 := hs.time
      have hz : (t' - st.t).toNat < 18446744073709551616 := by omega
      rw [numO_at (s / 8 + 1) _ p h (by omega)]
      simp only [uSpec_uv hz, if_true]
      have e : I64 (BitVec.ofNat 64 (t' - st.t).toNat) = t' - st.t := by
        unfold I64
        rw [BitVec.toNat_ofNat]
        omega
      rw [e]
      simp only [wrap64, Option.some.injEq, Prod.mk.injEq, and_true]
      omega
    · rw [if_neg h1] at h hsz ⊢
      rw [if_neg h1]
      have ht1 := hs.time
      have hg1 := hs.gap
      rw [turnO_at (by omega) (by omega) h]
      simp only [wrap64, Option.some.injEq, Prod.mk.injEq, and_true]
      omega
/-- the next sample -/
def nexO (st : Pst) (L : List UInt8) (s p : Nat) : Option (Int × Nat × (Bool × Nat × Nat) × Nat) := match timO st L s p with
  | none => none
  | some (t, p1) => if st.n = 0 then match tkO L s p1 64 with
      | none => none
      | some (f, p2) => some (t, f, (st.th, st.ld, st.tl), p2)
    else match valO st L s p1 with
      | none => none
      | some (f, w, p2) => some (t, f, w, p2)
theorem nexO_at {st : Pst} {L : List UInt8} {s p f' : Nat} {t' : Int} (hs : OkP st) (ht : 0 ≤ t' ∧ t' ≤ 1125899906842624) (hr : st.n = 0 ∨ st.t < t') (hf : f' < 18446744073709551616) (h : At L p s (smpB st t' f')) :
    nexO st L s p = some (t', f', smpW st f', p + (smpB st t' f').length) := by
  unfold smpB at h ⊢
  unfold smpW nexO
  have ha := h.app
  rw [timO_at hs ht hr ha.1]
  simp only [List.length_append]
  by_cases h0 : st.n = 0
  · simp only [h0, if_true] at ha ⊢
    rw [tkO_of ha.2 hf]
    simp only [bitsOf_len, Option.some.injEq, Prod.mk.injEq, true_and]
    omega
  · simp only [h0, if_false] at ha ⊢
    rw [valO_at hs hf ha.2]
    simp only [Option.some.injEq, Prod.mk.injEq, true_and]
    omega
/-- many samples are read as they were written, and in no other way -/
theorem enc_unique {L : List UInt8} {s : Nat} : ∀ (l m : List SmpT) (st : Pst) (p : Nat), OkP st → okL st l → okL st m → l.length = m.length → At L p s (encB st l) → At L p s (encB st m) → l = m := by
  intro l
  induction l with
  | nil => intro m st p _ _ _ hl _ _; exact (List.eq_nil_of_length_eq_zero hl.symm).symm
  | cons x l ih =>
    intro m st p hs h1 h2 hl a1 a2
    match m with
    | [] => simp at hl
    | y :: m =>
      obtain ⟨w1, b1, o1⟩ := h1
      obtain ⟨w2, b2, o2⟩ := h2
      have q1 := wrongN_ok w1 hs.most
      have q2 := wrongN_ok w2 hs.most
      rw [encB] at a1 a2
      have r1 := nexO_at hs q1.1 q1.2.1 b1 a1.app.1
      have r2 := nexO_at hs q2.1 q2.2.1 b2 a2.app.1
      rw [r1] at r2
      simp only [Option.some.injEq, Prod.mk.injEq] at r2
      obtain ⟨e1, e2, -, e3⟩ := r2
      have exy : x = y := Prod.ext e1 e2
      subst exy
      rw [ih m _ _ (nextOk hs q1.2.2 q1.1 b1) o1 o2 (by simpa using hl) a1.app.2 a2.app.2]
/-- a chunk's bytes -/
def ckB (l : List SmpT) : List UInt8 := [0, UInt8.ofNat l.length] ++ pack (encB startP l)
theorem packAt (bs : List Bool) : At (pack bs) 0 (8 * (pack bs).length) bs := by
  refine ⟨by rw [pack_len]; omega, fun j hj => ?_⟩
  rw [Nat.zero_add, ubit_pack _ _ hj]
theorem ubit_take {L : List UInt8} {k j : Nat} (h : j < 8 * k) : ubit (L.take k) j = ubit L j := by
  unfold ubit
  simp only [List.getD, List.getElem?_take]
  rw [if_pos (by omega)]
theorem ubit_app {L M : List UInt8} {j : Nat} (h : j < 8 * L.length) : ubit (L ++ M) j = ubit L j := by
  unfold ubit
  simp only [List.getD]
  rw [List.getElem?_append_left (by omega)]
theorem At.take {L : List UInt8} {k : Nat} {bs : List Bool} (h : At (L.take k) 0 (8 * (L.take k).length) bs) : At L 0 (8 * L.length) bs := by
  have hl : (L.take k).length ≤ L.length ∧ (L.take k).length ≤ k := by simp; omega
  refine ⟨by have := h.1; omega, fun j hj => ?_⟩
  rw [← h.2 j hj, Nat.zero_add, ubit_take]
  have := h.1
  omega
theorem At.more {L M : List UInt8} {bs : List Bool} (h : At L 0 (8 * L.length) bs) : At (L ++ M) 0 (8 * (L ++ M).length) bs := by
  refine ⟨by have := h.1; rw [List.length_append]; omega, fun j hj => ?_⟩
  rw [← h.2 j hj, Nat.zero_add, ubit_app]
  have := h.1
  omega
theorem ofNat_inj {a b : Nat} (ha : a < 256) (hb : b < 256) (h : UInt8.ofNat a = UInt8.ofNat b) : a = b := by
  have := congrArg UInt8.toNat h
  rw [UInt8.toNat_ofNat', UInt8.toNat_ofNat'] at this
  omega
/-- a chunk's beginning that is a chunk is the whole -/
theorem ckB_cut {l m : List SmpT} {M : List UInt8} (hl : okL startP l) (hm : okL startP m) (h : ckB l = ckB m ++ M) : M = [] := by
  have nl := (stA_ok startOk hl).most
  have nm := (stA_ok startOk hm).most
  rw [stA_n] at nl nm
  simp only [startP, Nat.zero_add] at nl nm
  unfold ckB at h
  simp only [List.cons_append, List.nil_append, List.cons.injEq, true_and] at h
  obtain ⟨h1, h2⟩ := h
  have e := ofNat_inj (by omega) (by omega) h1
  have a1 := packAt (encB startP l)
  have a2 := (packAt (encB startP m)).more (M := M)
  rw [← h2] at a2
  have := enc_unique l m startP 0 startOk hl hm e a1 a2
  subst this
  have := congrArg List.length h2
  rw [List.length_append] at this
  exact List.eq_nil_of_length_eq_zero (by omega)
end Go.Proofs.YtkiefmhampfhoaaDoor
