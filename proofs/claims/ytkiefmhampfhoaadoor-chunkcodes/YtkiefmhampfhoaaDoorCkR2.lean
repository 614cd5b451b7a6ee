/-
  What told hands out of any bytes: the walks.
-/
import Derived.Test.YtkiefmhampfhoaaDoorCkR1
namespace Go.Proofs.YtkiefmhampfhoaaDoor
open Go.RowKit Go.Shelf

attribute [local go_sem] Oper.semAt_some

set_option maxHeartbeats 1000000 in
theorem told_any (F : Fence) (n : Nat) (h5 : F.fn 39) (hro : F.round = none) (a : Option Addr) (nn c : Nat) (v : Value) (w : World) (hv : v = .slice a nn c) :
    CallsIn F n Tryd.prog 39 #[v] w fun e w' => e = .returned (.func (.func 65) #[] #[.pointer (some ⟨w.heap.size, 0, none⟩)]) ∧ w' = w.alloc (.cells #[v] 36) := by
  subst hv
  refine callsIn_of_wp Tryd.func39 rfl h5 ?_ hro
  simp only [Tryd.ntmps39, List.size_toArray, List.length_cons, List.length_nil, Nat.reduceAdd, Nat.reduceSub, Array.replicate_succ, Array.replicate_zero, List.push_toArray, List.append_toArray, List.nil_append, List.cons_append]
  gi_wp2
  go_ret
  exact ⟨rfl, rfl⟩
theorem Rd.behind {w : World} {g o c : Nat} {b : List UInt8} (h : Rd w (.slice (some ⟨g, o, none⟩) b.length c) b) (h2 : 2 ≤ b.length) : Rd w (.slice (some ⟨g, o + 2, none⟩) (b.length - 2) (b.length - 2)) (strL b) := by
  obtain ⟨a, c', e, h1, h3, h4, -⟩ := h
  have hl : (strL b).length = b.length - 2 := by simp [strL]
  refine ⟨some ⟨g, o + 2, none⟩, b.length - 2, by rw [hl], by omega, by omega, fun j hj => ?_, fun e => by cases e⟩
  simp only [Value.slice.injEq, true_and] at e
  obtain ⟨b', o', e', q⟩ := h4 (j + 2) (by omega)
  rw [← e.1] at e'
  simp only [Option.some.injEq, Addr.mk.injEq, and_true] at e'
  obtain ⟨rfl, rfl⟩ := e'
  refine ⟨g, o + 2, rfl, ?_⟩
  rw [show o + 2 + j = o + (j + 2) by omega, q]
  simp [strL, Nat.add_comm]
theorem Rd.none2 {w : World} {a : Addr} {b : List UInt8} (h2 : b.length = 2) : Rd w (.slice (some a) 0 0) (strL b) := by
  have hl : strL b = [] := List.eq_nil_of_length_eq_zero (by simp [strL]; omega)
  rw [hl]
  exact ⟨some a, 0, rfl, Nat.le_refl _, by simp [maxLen], fun j hj => by simp at hj, fun e => by cases e⟩

theorem count_or {x0 x1 : Nat} (h0 : x0 < 256) (h1 : x1 < 256) : bits .or .i64 (wrap64 (wrap64 (x0 : Int) * 256)) (wrap64 (x1 : Int)) = ((x0 * 256 + x1 : Nat) : Int) := by
  rw [wrap64_id (x := (x0 : Int)) (by omega) (by omega), wrap64_id (x := (x1 : Int)) (by omega) (by omega), wrap64_id (by omega) (by omega), show ((x0 : Int) * 256) = ((x0 * 256 : Nat) : Int) by simp]
  have ho : x0 * 256 ||| x1 = x0 * 256 + x1 := by
    have := Nat.two_pow_add_eq_or_of_lt (i := 8) (b := x1) (by simpa using h1) x0
    rw [show (2 : Nat) ^ 8 * x0 = x0 * 256 by omega] at this
    exact this.symm
  show IntKind.i64.wrap ((BitVec.ofInt 64 ((x0 * 256 : Nat) : Int) ||| BitVec.ofInt 64 (x1 : Int)).toNat : Int) = _
  rw [BitVec.toNat_or, ofInt_u64 _ (by omega), ofInt_u64 _ (by omega), ho, IntKind.wrap_i64]
  omega
theorem Ch.rst {w w' w0 : World} {B gR p s : Nat} {ptr : Value} {R : Rst} {fl : Bool} {L : List UInt8} (h : RC B w0 w gR ptr R fl L p s) (hc : Ch w w' (RSt gR ptr)) : Ch w w' (fun k => w0.heap.size ≤ k ∧ k < B) := hc.mono (fun k _ e => h.blocks k e)

/-- how told ends -/
def ToldQ (b : List UInt8) (J : Nat → List SmpT → World → Prop) (Jx : World → Prop) (W' : World) : Prop := Jx W' ∨ ∃ B l st p, 2 ≤ b.length ∧ Dec (strL b) (strS b) l st p ∧ l.length = cntN b ∧ J B l W'
/-- the reader is made -/
theorem readerOf_any (v : Value) (L : List UInt8) (W : World) (hv : Rd W v L) (hL : L.length < 281474976710656) :
    Calls Tryd.prog 66 #[v, .int .i64 ((8 * L.length : Nat) : Int)] W fun e w1 => ∃ pa, e = .returned (.pointer pa) ∧ Strm w1.heap.size W w1 (.pointer pa) L 0 (if L.length ≤ 1048576 then 8 * L.length else 0) ∧ W.grownBy w1 none := by
  by_cases h : L.length ≤ 1048576
  · rw [if_pos h]
    refine (newReader_ok W v L (8 * L.length) W hv (gb_refl _ _) (by omega) (by omega)).mono ?_
    rintro e w1 ⟨g, h1, h2, h3, h4⟩
    rw [show (8 * L.length + 7) / 8 = L.length by omega, List.take_length] at h2
    exact ⟨_, h1, .inl ⟨g, rfl, h2⟩, h3⟩
  · rw [if_neg h]
    refine (newReader_nil v L _ W hv (.inr (.inl (by omega)))).mono ?_
    rintro e w1 ⟨h1, h2⟩
    subst h2
    exact ⟨_, h1, .inr ⟨rfl, rfl, rfl⟩, gb_refl _ _⟩

set_option maxRecDepth 100000 in
set_option maxHeartbeats 3200000 in
theorem told1_any (n : Nat) (hn1 : 2 ≤ n) (lp Bn m0 : Nat) (v : Value) (b : List UInt8) (W : World) (hc : W.cell? ⟨Bn, 0, none⟩ = some v) (hv : Rd W v b) (hb : b.length < 281474976710656) (hT : TabC W) (hTm : 1 < m0) (hm0 : m0 ≤ W.heap.size)
    (J : Nat → List SmpT → World → Prop) (Jx : World → Prop)
    (hJ : ∀ B l W1 W2, J B l W1 → Ch W1 W2 (fun k => W.heap.size ≤ k ∧ k < B) → J B l W2)
    (h0 : ∀ B W1, Ch W W1 (fun _ => False) → W1.heap.size = B → J B [] W1)
    (hY : ∀ B l st p T F wd p' W1, J B l W1 → W.heap.size ≤ B → B ≤ W1.heap.size → Dec (strL b) (strS b) l st p → nexO st (strL b) (strS b) p = some (T, F, wd, p') → F < 18446744073709551616 → l.length < cntN b → 2 ≤ b.length → YieldAt Fence.wide (n - 1) Tryd.prog lp #[.agg #[.int .i64 T, .float .f64 F], .int .i64 0] W1 fun e W' => (e = .returned (.bool true) ∧ J B (l ++ [(T, F)]) W' ∧ wrongN (stA startP l) T = 0 ∧ Ch W1 W' (fun k => (m0 ≤ k ∧ k < W.heap.size) ∨ B ≤ k)) ∨ (e = .returned (.bool false) ∧ Jx W'))
    (hE : ∀ B l st p W1, J B l W1 → W.heap.size ≤ B → B ≤ W1.heap.size → Dec (strL b) (strS b) l st p → nexO st (strL b) (strS b) p = none → l.length < cntN b → 2 ≤ b.length → YieldAt Fence.wide (n - 1) Tryd.prog lp #[.agg #[.int .i64 0, .float .f64 0], .int .i64 3] W1 fun e W' => ∃ x, e = .returned (.bool x) ∧ Jx W')
    (hE0 : b.length < 2 → YieldAt Fence.wide (n - 1) Tryd.prog lp #[.agg #[.int .i64 0, .float .f64 0], .int .i64 3] W fun e W' => ∃ x, e = .returned (.bool x) ∧ Jx W') :
    CallsIn Fence.wide n Tryd.prog 65 (#[.func (.yield lp) #[] #[]] ++ #[.pointer (some ⟨Bn, 0, none⟩)]) W fun e W' => (∃ x, e = .returned x) ∧ ToldQ b J Jx W' := by
  have HJ := hidJ hJ
  have H0 := hidJ h0
  have HY := hidJ hY
  have HE := hidJ hE
  have HV := hidJ (And.intro hv (And.intro hT (And.intro hTm hm0)))
  clear hJ h0 hY hE hT hTm hm0
  obtain ⟨a, c, rfl, hlc, hcm, hna, hrd⟩ := hv
  obtain ⟨N, hN⟩ : ∃ N, b.length = N := ⟨_, rfl⟩
  have HN : Hid (b.length = N) := hN
  rw [hN] at hc hb hE0 hlc
  by_cases hN2 : N < 2
  · obtain ⟨fn, tmps, assign, body, hy, hR⟩ := hE0 hN2
    clear hrd hna hN
    have hNi : (N : Int) < 2 := by omega
    have hn0 : 1 ≤ n := by omega
    refine callsIn_of_wp Tryd.func65 rfl trivial ?_ rfl
    simp only [Tryd.ntmps65, List.size_toArray, List.length_cons, List.length_nil, Nat.reduceAdd, Nat.reduceSub, Array.replicate_succ, Array.replicate_zero, List.push_toArray, List.append_toArray, List.nil_append, List.cons_append]
    gi_wp2
    refine hR.mono ?_
    rintro e W3 ⟨x, rfl, hx⟩
    gi_wp2
    refine bodyPost_ret (results_none rfl _ _ _) rfl ?_
    exact ⟨⟨_, rfl⟩, .inl hx⟩
  · have hNi : ¬ (N : Int) < 2 := by omega
    clear hE0
    obtain ⟨ab, ao, rfl, d0⟩ := hna 0 (by omega)
    obtain ⟨ab', ao', hab, d1⟩ := hna 1 (by omega)
    simp only [Option.some.injEq, Addr.mk.injEq, and_true] at hab
    obtain ⟨rfl, rfl⟩ := hab
    rw [Nat.add_zero] at d0
    have hx0 := (b.getD 0 0).toNat_lt
    have hx1 := (b.getD 1 0).toNat_lt
    obtain ⟨x0, hx0'⟩ : ∃ x, (b.getD 0 0).toNat = x := ⟨_, rfl⟩
    obtain ⟨x1, hx1'⟩ : ∃ x, (b.getD 1 0).toNat = x := ⟨_, rfl⟩
    have HC : Hid (cntN b = x0 * 256 + x1 ∧ x0 < 256 ∧ x1 < 256) := by
      rw [hx0'] at hx0
      rw [hx1'] at hx1
      exact ⟨by unfold cntN; rw [hx0', hx1'], hx0, hx1⟩
    rw [hx0'] at d0
    rw [hx1'] at d1
    have HR : Hid (∀ v', Rd W v' (strL b) → Calls Tryd.prog 66 #[v', .int .i64 (8 * ((N - 2 : Nat) : Int))] W fun e w1 => ∃ pa, e = .returned (.pointer pa) ∧ Strm w1.heap.size W w1 (.pointer pa) (strL b) 0 (strS b) ∧ W.grownBy w1 none) := by
      intro v' hv'
      have hl : (strL b).length = N - 2 := by simp [strL, hN]
      have := readerOf_any v' (strL b) W hv' (by omega)
      rw [hl] at this
      have e1 : (if N - 2 ≤ 1048576 then 8 * (N - 2) else 0) = strS b := by
        unfold strS
        rw [hN]
        split <;> split <;> omega
      rw [e1] at this
      simpa using this
    clear hrd hna hx0 hx1 hx0' hx1' hN hcm
    have hn0 : 1 ≤ n := by omega
    by_cases hNe : N = 2
    · subst hNe
      have HS : Hid (Rd W (.slice (some ⟨ab, ao, none⟩) 0 0) (strL b)) := Rd.none2 HN.out
      refine callsIn_of_wp Tryd.func65 rfl trivial ?_ rfl
      simp only [Tryd.ntmps65, List.size_toArray, List.length_cons, List.length_nil, Nat.reduceAdd, Nat.reduceSub, Array.replicate_succ, Array.replicate_zero, List.push_toArray, List.append_toArray, List.nil_append, List.cons_append]
      gi_wp2_with (refine ⟨trivial, ?_⟩; gi_at_call 66; refine (callsIn_wide.2 (HR.out _ HS.out)).mono ?_; rintro e w1 ⟨pa, rfl, hs1, hg1⟩)
      have HG : Hid (W.grownBy (w1.alloc (.cells #[.pointer pa, .int .i64 0, .int .i64 0, .float .f64 0, .int .i64 0, .bool false, .int .i64 0, .int .i64 0, .bool false] 119)) none ∧ RC (w1.heap.size + 1) W (w1.alloc (.cells #[.pointer pa, .int .i64 0, .int .i64 0, .float .f64 0, .int .i64 0, .bool false, .int .i64 0, .int .i64 0, .bool false] 119)) w1.heap.size (.pointer pa) (pst startP) false (strL b) 0 (strS b) ∧ (w1.alloc (.cells #[.pointer pa, .int .i64 0, .int .i64 0, .float .f64 0, .int .i64 0, .bool false, .int .i64 0, .int .i64 0, .bool false] 119)).heap.size = w1.heap.size + 1) := by
        have k := alloc_gb w1 (.cells #[.pointer pa, .int .i64 0, .int .i64 0, .float .f64 0, .int .i64 0, .bool false, .int .i64 0, .int .i64 0, .bool false] 119)
        have hz := hg1.size
        refine ⟨gb_none hg1 k, ⟨hz, by omega, gb_none hg1 k, ?_, ?_⟩, by simp⟩
        · exact Go.heap_alloc_new w1 _
        · rcases hs1 with ⟨gB, e1, h1⟩ | h1
          · exact .inl ⟨gB, e1, (h1.keep k).mono (by omega)⟩
          · exact .inr h1
      clear hs1 hg1
      generalize w1.alloc (.cells #[.pointer pa, .int .i64 0, .int .i64 0, .float .f64 0, .int .i64 0, .bool false, .int .i64 0, .int .i64 0, .bool false] 119) = W2 at *
      generalize w1.heap.size = gR at *
      have d0' : W2.cell? ⟨ab, ao, none⟩ = some (.int .u8 (x0 : Int)) := (World.cell?_of_block (HG.out.1.block ab (block_lt d0) (by simp))).trans d0
      have d1' : W2.cell? ⟨ab, ao + 1, none⟩ = some (.int .u8 (x1 : Int)) := (World.cell?_of_block (HG.out.1.block ab (block_lt d1) (by simp))).trans d1
      have hc' : W2.cell? ⟨Bn, 0, none⟩ = _ := (World.cell?_of_block (HG.out.1.block Bn (block_lt hc) (by simp))).trans hc
      clear d0 d1 hc HR
      gi_region
      gi_wp2
      have hcnt := count_or HC.out.2.1 HC.out.2.2
      rw [hcnt]
      rw [← HC.out.1]
      clear hcnt d0' d1' hc'
      obtain ⟨C, hC⟩ : ∃ C, cntN b = C := ⟨_, rfl⟩
      have HCC : Hid (cntN b = C ∧ C < 65536) := ⟨hC, by have := HC.out; omega⟩
      rw [hC]
      clear hC
      have HD : Hid (J (gR + 1) [] W2.drew) := H0.out (gR + 1) W2.drew (Ch.of_gb (gb_none HG.out.1 (gb_drew W2 none)) (fun k hk => by cases hk)) (by show W2.heap.size = _; exact HG.out.2.2)
      have HRC : Hid (RC (gR + 1) W W2.drew gR (.pointer pa) (pst startP) false (strL b) 0 (strS b) ∧ W2.drew.heap.size = gR + 1 ∧ W.heap.size ≤ gR) := ⟨HG.out.2.1.keep (gb_drew W2 none), HG.out.2.2, HG.out.2.1.new⟩
      clear HG
      generalize W2.drew = W3 at *
      generalize (Value.pointer pa) = ptr at *
      gi_loopw [35] (fun i wr => ∃ z : Nat, i = .int .i64 z ∧ z ≤ C ∧ Hid (∃ l st p w0, l.length = z ∧ Dec (strL b) (strS b) l st p ∧ J (gR + 1) l wr ∧ gR + 1 ≤ wr.heap.size ∧ w0.heap.size = W.heap.size ∧ TabC w0 ∧ TabC wr ∧ RC (gR + 1) w0 wr gR ptr (pst st) false (strL b) p (strS b))) (fun i _ => C - (intOf i).toNat)
      case atStart => exact ⟨0, rfl, by omega, [], startP, 0, W, rfl, .nil, HD.out, by have := HRC.out; omega, rfl, HV.out.2.1, HV.out.2.1.keep HRC.out.1.kept, HRC.out.1⟩
      case round =>
        obtain ⟨z, rfl, hzC, hz⟩ := hrel
        by_cases hzl : z < C
        · have hzi : (z : Int) < (C : Int) := by omega
          obtain ⟨l, st, p, w0, h1, h2, h3, h4, h5, h6, h7, h8⟩ := hz.out
          have HZ := hidJ (And.intro h1 (And.intro h2 (And.intro h3 (And.intro h4 (And.intro h5 (And.intro h6 (And.intro h7 h8)))))))
          have HNX := hidJ (next_any w0 wr gR p (strS b) ptr st false (strL b) h8 h4 h2.spec.2.2.1 h6)
          clear h1 h2 h3 h4 h5 h6 h7 h8 hz
          have hsf := store_float
          gi_wp2_with fail
          refine ⟨trivial, ?_⟩
          gi_at_call 67
          refine (callsIn_wide.2 HNX.out).mono ?_
          rintro e w4 ⟨T, F, p', fl', R', rfl, q1, q2, q3, q4⟩
          have hal : ∀ C, w4.grownBy (w4.alloc C) none := fun C => alloc_gb _ _
          have c8 : ∀ C, (w4.alloc C).cell? ⟨gR, 8, none⟩ = some (.bool fl') := fun C => (World.cell?_of_block ((hal C).block gR q2.lt (by simp))).trans q2.cell.2.2.2.2.2.2.2.2.1
          have hne1 : ¬ gR = w4.heap.size := by have := q2.lt; omega
          have hne2 : ¬ w4.heap.size = gR := by have := q2.lt; omega
          have HJ5 : Hid (∀ C, J (gR + 1) l (w4.alloc C) ∧ W.heap.size ≤ gR + 1 ∧ gR + 1 ≤ (w4.alloc C).heap.size ∧ Ch wr (w4.alloc C) (fun k => W.heap.size ≤ k ∧ k < gR + 1)) := by
            intro C
            have hch : Ch wr (w4.alloc C) (fun k => W.heap.size ≤ k ∧ k < gR + 1) := by
              have h1 := Ch.rst HZ.out.2.2.2.2.2.2.2 q4
              rw [HZ.out.2.2.2.2.1] at h1
              exact h1.trans (Ch.of_gb (S := fun _ => False) (hal C) (fun k hk => by cases hk)) (fun _ _ e => e.elim)
            have := HZ.out.2.2.2.1
            have := hch.size
            have := HRC.out.2.2
            exact ⟨HJ.out _ _ _ _ HZ.out.2.2.1 hch, by omega, by omega, hch⟩
          clear HNX q4
          have HQ := hidJ (And.intro q1 (And.intro q2 q3))
          clear q1 q2 q3
          cases fl' with
          | true =>
            as_aux_lemma =>
              have hno : nexO st (strL b) (strS b) p = none := by
                rcases HQ.out.2.2 with ⟨wd, -, e, -⟩ | ⟨e, -⟩
                · cases e
                · exact e
              obtain ⟨fn, tmps, assign, body, hy, hR⟩ := HE.out (gR + 1) l st p (w4.alloc (.cells #[.int .i64 T, .float .f64 F] 27)) (HJ5.out (.cells #[.int .i64 T, .float .f64 F] 27)).1 (HJ5.out (.cells #[.int .i64 T, .float .f64 F] 27)).2.1 (HJ5.out (.cells #[.int .i64 T, .float .f64 F] 27)).2.2.1 HZ.out.2.1 hno (by rw [HZ.out.1, HCC.out.1]; exact hzl) (by rw [HN.out]; omega)
              clear HJ5 HQ hno hal
              gi_wp2
              refine hR.mono ?_
              rintro e W6 ⟨x, rfl, hx⟩
              have HX := hidJ hx
              clear hx hy
              gi_wp2
              refine bodyPost_ret (results_none rfl _ _ _) rfl ?_
              exact ⟨⟨_, rfl⟩, .inl HX.out⟩
          | false =>
            as_aux_lemma =>
              have hwd : ∃ wd, nexO st (strL b) (strS b) p = some (T, F, wd, p') ∧ R' = past (st.n + 1) T F (wrap64 (T - st.t)) wd.1 (wd.2.1 : Int) (wd.2.2 : Int) ∧ wd.2.1 ≤ 31 ∧ wd.2.1 + wd.2.2 < 64 := by
                rcases HQ.out.2.2 with ⟨wd, e1, -, e2⟩ | ⟨-, e⟩
                · exact ⟨wd, e1, e2⟩
                · cases e
              obtain ⟨wd, hw1, hw2, hw3⟩ := hwd
              obtain ⟨fn, tmps, assign, body, hy, hR⟩ := HY.out (gR + 1) l st p T F wd p' (w4.alloc (.cells #[.int .i64 T, .float .f64 F] 27)) (HJ5.out (.cells #[.int .i64 T, .float .f64 F] 27)).1 (HJ5.out (.cells #[.int .i64 T, .float .f64 F] 27)).2.1 (HJ5.out (.cells #[.int .i64 T, .float .f64 F] 27)).2.2.1 HZ.out.2.1 hw1 HQ.out.1 (by rw [HZ.out.1, HCC.out.1]; exact hzl) (by rw [HN.out]; omega)
              have HW := hidJ (And.intro hw1 (And.intro hw2 hw3))
              clear hw1 hw2 hw3 hal
              have hb5 := Go.heap_alloc_new w4 (.cells #[.int .i64 T, .float .f64 F] 27)
              have e0 : (w4.alloc (.cells #[.int .i64 T, .float .f64 F] 27)).cell? ⟨w4.heap.size, 0, none⟩ = some (.int .i64 T) := by simp only [World.cell?, hb5]; rfl
              have e1 : (w4.alloc (.cells #[.int .i64 T, .float .f64 F] 27)).cell? ⟨w4.heap.size, 1, none⟩ = some (.float .f64 F) := by simp only [World.cell?, hb5]; rfl
              clear hb5
              gi_wp2
              refine hR.mono ?_
              rintro e W6 (⟨rfl, hj6, hr6, hc6⟩ | ⟨rfl, hx⟩)
              · have H6 : Hid (∃ l st p w0, l.length = z + 1 ∧ Dec (strL b) (strS b) l st p ∧ J (gR + 1) l W6 ∧ gR + 1 ≤ W6.heap.size ∧ w0.heap.size = W.heap.size ∧ TabC w0 ∧ TabC W6 ∧ RC (gR + 1) w0 W6 gR ptr (pst st) false (strL b) p (strS b)) := by
                  obtain ⟨g1, g2, g3, g4, g5, g6, g7, g8⟩ := HZ.out
                  have hm0 := HV.out.2.2.2
                  have hTm := HV.out.2.2.1
                  have hst := g2.spec
                  have hok := wrongN_ok hr6 (stA_ok startOk hst.2.2.2).most
                  have hs6 := hc6.size
                  have hB5 := (HJ5.out (.cells #[.int .i64 T, .float .f64 F] 27)).2.2.1
                  have hWs := HRC.out.2.2
                  have hT6 : TabC W6 := by
                    have t5 : TabC (w4.alloc (.cells #[.int .i64 T, .float .f64 F] 27)) := g7.ch (HJ5.out _).2.2.2 (fun e => by omega)
                    exact t5.ch hc6 (fun e => by omega)
                  have hR5 : RC (gR + 1) w0 (w4.alloc (.cells #[.int .i64 T, .float .f64 F] 27)) gR ptr (pst (rdP st T F wd)) false (strL b) p' (strS b) := by
                    rw [← rdP_past hst.2.2.1 hok.1, ← HW.out.2.1]
                    exact HQ.out.2.1.keep (alloc_gb _ _)
                  have hc6' : Ch (w4.alloc (.cells #[.int .i64 T, .float .f64 F] 27)) W6 (fun k => k < W.heap.size ∨ gR + 1 ≤ k) := hc6.mono (fun k _ e => by omega)
                  exact ⟨l ++ [(T, F)], rdP st T F wd, p', trunc W6 W.heap.size, by simp [g1], .snoc g2 HW.out.1 HQ.out.1 HW.out.2.2 hr6, hj6, by omega, trunc_size (by omega), hT6.trunc (by omega) (by omega), hT6, hR5.rebase g5 hB5 hc6'⟩
                clear hj6 hr6 hc6 hy HJ5 HQ HW HZ
                have hC9 : C < 65536 := HCC.out.2
                gi_wp2
                go_roundw
                case rel => exact ⟨z + 1, by simp, by omega, H6⟩
                case measure => simp [intOf]; omega
              · have HX := hidJ hx
                clear hx hy
                gi_wp2
                refine bodyPost_ret (results_none rfl _ _ _) rfl ?_
                exact ⟨⟨_, rfl⟩, .inl HX.out⟩
        · have hzi : ¬ (z : Int) < (C : Int) := by omega
          have hze : z = C := by omega
          subst hze
          gi_wp2
          first
          | (refine bodyPost_ret (results_none rfl _ _ _) rfl ?_
             obtain ⟨l, st, p, w0, h1, h2, h3, h4, h5, h6, h7, h8⟩ := hz.out
             exact ⟨⟨_, rfl⟩, .inr ⟨gR + 1, l, st, p, by rw [HN.out]; omega, h2, by rw [h1, HCC.out.1], h3⟩⟩)
          | (go_end0
             obtain ⟨l, st, p, w0, h1, h2, h3, h4, h5, h6, h7, h8⟩ := hz.out
             exact ⟨⟨_, rfl⟩, .inr ⟨gR + 1, l, st, p, by rw [HN.out]; omega, h2, by rw [h1, HCC.out.1], h3⟩⟩)

    · obtain ⟨M, rfl⟩ : ∃ M, N = M + 2 := ⟨N - 2, by omega⟩
      have HS : Hid (Rd W (.slice (some ⟨ab, ao + 2, none⟩) M M) (strL b)) := by
        have := HV.out.1
        have h2 := Rd.behind this (by rw [HN.out]; omega)
        rw [HN.out] at h2
        exact h2
      have hM : M ≠ 0 := by omega
      refine callsIn_of_wp Tryd.func65 rfl trivial ?_ rfl
      simp only [Tryd.ntmps65, List.size_toArray, List.length_cons, List.length_nil, Nat.reduceAdd, Nat.reduceSub, Array.replicate_succ, Array.replicate_zero, List.push_toArray, List.append_toArray, List.nil_append, List.cons_append]
      gi_wp2_with (refine ⟨trivial, ?_⟩; gi_at_call 66; refine (callsIn_wide.2 (HR.out _ HS.out)).mono ?_; rintro e w1 ⟨pa, rfl, hs1, hg1⟩)
      have HG : Hid (W.grownBy (w1.alloc (.cells #[.pointer pa, .int .i64 0, .int .i64 0, .float .f64 0, .int .i64 0, .bool false, .int .i64 0, .int .i64 0, .bool false] 119)) none ∧ RC (w1.heap.size + 1) W (w1.alloc (.cells #[.pointer pa, .int .i64 0, .int .i64 0, .float .f64 0, .int .i64 0, .bool false, .int .i64 0, .int .i64 0, .bool false] 119)) w1.heap.size (.pointer pa) (pst startP) false (strL b) 0 (strS b) ∧ (w1.alloc (.cells #[.pointer pa, .int .i64 0, .int .i64 0, .float .f64 0, .int .i64 0, .bool false, .int .i64 0, .int .i64 0, .bool false] 119)).heap.size = w1.heap.size + 1) := by
        have k := alloc_gb w1 (.cells #[.pointer pa, .int .i64 0, .int .i64 0, .float .f64 0, .int .i64 0, .bool false, .int .i64 0, .int .i64 0, .bool false] 119)
        have hz := hg1.size
        refine ⟨gb_none hg1 k, ⟨hz, by omega, gb_none hg1 k, ?_, ?_⟩, by simp⟩
        · exact Go.heap_alloc_new w1 _
        · rcases hs1 with ⟨gB, e1, h1⟩ | h1
          · exact .inl ⟨gB, e1, (h1.keep k).mono (by omega)⟩
          · exact .inr h1
      clear hs1 hg1
      generalize w1.alloc (.cells #[.pointer pa, .int .i64 0, .int .i64 0, .float .f64 0, .int .i64 0, .bool false, .int .i64 0, .int .i64 0, .bool false] 119) = W2 at *
      generalize w1.heap.size = gR at *
      have d0' : W2.cell? ⟨ab, ao, none⟩ = some (.int .u8 (x0 : Int)) := (World.cell?_of_block (HG.out.1.block ab (block_lt d0) (by simp))).trans d0
      have d1' : W2.cell? ⟨ab, ao + 1, none⟩ = some (.int .u8 (x1 : Int)) := (World.cell?_of_block (HG.out.1.block ab (block_lt d1) (by simp))).trans d1
      have hc' : W2.cell? ⟨Bn, 0, none⟩ = _ := (World.cell?_of_block (HG.out.1.block Bn (block_lt hc) (by simp))).trans hc
      clear d0 d1 hc HR
      gi_region
      gi_wp2
      have hcnt := count_or HC.out.2.1 HC.out.2.2
      rw [hcnt]
      rw [← HC.out.1]
      clear hcnt d0' d1' hc'
      obtain ⟨C, hC⟩ : ∃ C, cntN b = C := ⟨_, rfl⟩
      have HCC : Hid (cntN b = C ∧ C < 65536) := ⟨hC, by have := HC.out; omega⟩
      rw [hC]
      clear hC
      have HD : Hid (J (gR + 1) [] W2.drew) := H0.out (gR + 1) W2.drew (Ch.of_gb (gb_none HG.out.1 (gb_drew W2 none)) (fun k hk => by cases hk)) (by show W2.heap.size = _; exact HG.out.2.2)
      have HRC : Hid (RC (gR + 1) W W2.drew gR (.pointer pa) (pst startP) false (strL b) 0 (strS b) ∧ W2.drew.heap.size = gR + 1 ∧ W.heap.size ≤ gR) := ⟨HG.out.2.1.keep (gb_drew W2 none), HG.out.2.2, HG.out.2.1.new⟩
      clear HG
      generalize W2.drew = W3 at *
      generalize (Value.pointer pa) = ptr at *
      gi_loopw [35] (fun i wr => ∃ z : Nat, i = .int .i64 z ∧ z ≤ C ∧ Hid (∃ l st p w0, l.length = z ∧ Dec (strL b) (strS b) l st p ∧ J (gR + 1) l wr ∧ gR + 1 ≤ wr.heap.size ∧ w0.heap.size = W.heap.size ∧ TabC w0 ∧ TabC wr ∧ RC (gR + 1) w0 wr gR ptr (pst st) false (strL b) p (strS b))) (fun i _ => C - (intOf i).toNat)
      case atStart => exact ⟨0, rfl, by omega, [], startP, 0, W, rfl, .nil, HD.out, by have := HRC.out; omega, rfl, HV.out.2.1, HV.out.2.1.keep HRC.out.1.kept, HRC.out.1⟩
      case round =>
        obtain ⟨z, rfl, hzC, hz⟩ := hrel
        by_cases hzl : z < C
        · have hzi : (z : Int) < (C : Int) := by omega
          obtain ⟨l, st, p, w0, h1, h2, h3, h4, h5, h6, h7, h8⟩ := hz.out
          have HZ := hidJ (And.intro h1 (And.intro h2 (And.intro h3 (And.intro h4 (And.intro h5 (And.intro h6 (And.intro h7 h8)))))))
          have HNX := hidJ (next_any w0 wr gR p (strS b) ptr st false (strL b) h8 h4 h2.spec.2.2.1 h6)
          clear h1 h2 h3 h4 h5 h6 h7 h8 hz
          have hsf := store_float
          gi_wp2_with fail
          refine ⟨trivial, ?_⟩
          gi_at_call 67
          refine (callsIn_wide.2 HNX.out).mono ?_
          rintro e w4 ⟨T, F, p', fl', R', rfl, q1, q2, q3, q4⟩
          have hal : ∀ C, w4.grownBy (w4.alloc C) none := fun C => alloc_gb _ _
          have c8 : ∀ C, (w4.alloc C).cell? ⟨gR, 8, none⟩ = some (.bool fl') := fun C => (World.cell?_of_block ((hal C).block gR q2.lt (by simp))).trans q2.cell.2.2.2.2.2.2.2.2.1
          have hne1 : ¬ gR = w4.heap.size := by have := q2.lt; omega
          have hne2 : ¬ w4.heap.size = gR := by have := q2.lt; omega
          have HJ5 : Hid (∀ C, J (gR + 1) l (w4.alloc C) ∧ W.heap.size ≤ gR + 1 ∧ gR + 1 ≤ (w4.alloc C).heap.size ∧ Ch wr (w4.alloc C) (fun k => W.heap.size ≤ k ∧ k < gR + 1)) := by
            intro C
            have hch : Ch wr (w4.alloc C) (fun k => W.heap.size ≤ k ∧ k < gR + 1) := by
              have h1 := Ch.rst HZ.out.2.2.2.2.2.2.2 q4
              rw [HZ.out.2.2.2.2.1] at h1
              exact h1.trans (Ch.of_gb (S := fun _ => False) (hal C) (fun k hk => by cases hk)) (fun _ _ e => e.elim)
            have := HZ.out.2.2.2.1
            have := hch.size
            have := HRC.out.2.2
            exact ⟨HJ.out _ _ _ _ HZ.out.2.2.1 hch, by omega, by omega, hch⟩
          clear HNX q4
          have HQ := hidJ (And.intro q1 (And.intro q2 q3))
          clear q1 q2 q3
          cases fl' with
          | true =>
            as_aux_lemma =>
              have hno : nexO st (strL b) (strS b) p = none := by
                rcases HQ.out.2.2 with ⟨wd, -, e, -⟩ | ⟨e, -⟩
                · cases e
                · exact e
              obtain ⟨fn, tmps, assign, body, hy, hR⟩ := HE.out (gR + 1) l st p (w4.alloc (.cells #[.int .i64 T, .float .f64 F] 27)) (HJ5.out (.cells #[.int .i64 T, .float .f64 F] 27)).1 (HJ5.out (.cells #[.int .i64 T, .float .f64 F] 27)).2.1 (HJ5.out (.cells #[.int .i64 T, .float .f64 F] 27)).2.2.1 HZ.out.2.1 hno (by rw [HZ.out.1, HCC.out.1]; exact hzl) (by rw [HN.out]; omega)
              clear HJ5 HQ hno hal
              gi_wp2
              refine hR.mono ?_
              rintro e W6 ⟨x, rfl, hx⟩
              have HX := hidJ hx
              clear hx hy
              gi_wp2
              refine bodyPost_ret (results_none rfl _ _ _) rfl ?_
              exact ⟨⟨_, rfl⟩, .inl HX.out⟩
          | false =>
            as_aux_lemma =>
              have hwd : ∃ wd, nexO st (strL b) (strS b) p = some (T, F, wd, p') ∧ R' = past (st.n + 1) T F (wrap64 (T - st.t)) wd.1 (wd.2.1 : Int) (wd.2.2 : Int) ∧ wd.2.1 ≤ 31 ∧ wd.2.1 + wd.2.2 < 64 := by
                rcases HQ.out.2.2 with ⟨wd, e1, -, e2⟩ | ⟨-, e⟩
                · exact ⟨wd, e1, e2⟩
                · cases e
              obtain ⟨wd, hw1, hw2, hw3⟩ := hwd
              obtain ⟨fn, tmps, assign, body, hy, hR⟩ := HY.out (gR + 1) l st p T F wd p' (w4.alloc (.cells #[.int .i64 T, .float .f64 F] 27)) (HJ5.out (.cells #[.int .i64 T, .float .f64 F] 27)).1 (HJ5.out (.cells #[.int .i64 T, .float .f64 F] 27)).2.1 (HJ5.out (.cells #[.int .i64 T, .float .f64 F] 27)).2.2.1 HZ.out.2.1 hw1 HQ.out.1 (by rw [HZ.out.1, HCC.out.1]; exact hzl) (by rw [HN.out]; omega)
              have HW := hidJ (And.intro hw1 (And.intro hw2 hw3))
              clear hw1 hw2 hw3 hal
              have hb5 := Go.heap_alloc_new w4 (.cells #[.int .i64 T, .float .f64 F] 27)
              have e0 : (w4.alloc (.cells #[.int .i64 T, .float .f64 F] 27)).cell? ⟨w4.heap.size, 0, none⟩ = some (.int .i64 T) := by simp only [World.cell?, hb5]; rfl
              have e1 : (w4.alloc (.cells #[.int .i64 T, .float .f64 F] 27)).cell? ⟨w4.heap.size, 1, none⟩ = some (.float .f64 F) := by simp only [World.cell?, hb5]; rfl
              clear hb5
              gi_wp2
              refine hR.mono ?_
              rintro e W6 (⟨rfl, hj6, hr6, hc6⟩ | ⟨rfl, hx⟩)
              · have H6 : Hid (∃ l st p w0, l.length = z + 1 ∧ Dec (strL b) (strS b) l st p ∧ J (gR + 1) l W6 ∧ gR + 1 ≤ W6.heap.size ∧ w0.heap.size = W.heap.size ∧ TabC w0 ∧ TabC W6 ∧ RC (gR + 1) w0 W6 gR ptr (pst st) false (strL b) p (strS b)) := by
                  obtain ⟨g1, g2, g3, g4, g5, g6, g7, g8⟩ := HZ.out
                  have hm0 := HV.out.2.2.2
                  have hTm := HV.out.2.2.1
                  have hst := g2.spec
                  have hok := wrongN_ok hr6 (stA_ok startOk hst.2.2.2).most
                  have hs6 := hc6.size
                  have hB5 := (HJ5.out (.cells #[.int .i64 T, .float .f64 F] 27)).2.2.1
                  have hWs := HRC.out.2.2
                  have hT6 : TabC W6 := by
                    have t5 : TabC (w4.alloc (.cells #[.int .i64 T, .float .f64 F] 27)) := g7.ch (HJ5.out _).2.2.2 (fun e => by omega)
                    exact t5.ch hc6 (fun e => by omega)
                  have hR5 : RC (gR + 1) w0 (w4.alloc (.cells #[.int .i64 T, .float .f64 F] 27)) gR ptr (pst (rdP st T F wd)) false (strL b) p' (strS b) := by
                    rw [← rdP_past hst.2.2.1 hok.1, ← HW.out.2.1]
                    exact HQ.out.2.1.keep (alloc_gb _ _)
                  have hc6' : Ch (w4.alloc (.cells #[.int .i64 T, .float .f64 F] 27)) W6 (fun k => k < W.heap.size ∨ gR + 1 ≤ k) := hc6.mono (fun k _ e => by omega)
                  exact ⟨l ++ [(T, F)], rdP st T F wd, p', trunc W6 W.heap.size, by simp [g1], .snoc g2 HW.out.1 HQ.out.1 HW.out.2.2 hr6, hj6, by omega, trunc_size (by omega), hT6.trunc (by omega) (by omega), hT6, hR5.rebase g5 hB5 hc6'⟩
                clear hj6 hr6 hc6 hy HJ5 HQ HW HZ
                have hC9 : C < 65536 := HCC.out.2
                gi_wp2
                go_roundw
                case rel => exact ⟨z + 1, by simp, by omega, H6⟩
                case measure => simp [intOf]; omega
              · have HX := hidJ hx
                clear hx hy
                gi_wp2
                refine bodyPost_ret (results_none rfl _ _ _) rfl ?_
                exact ⟨⟨_, rfl⟩, .inl HX.out⟩
        · have hzi : ¬ (z : Int) < (C : Int) := by omega
          have hze : z = C := by omega
          subst hze
          gi_wp2
          first
          | (refine bodyPost_ret (results_none rfl _ _ _) rfl ?_
             obtain ⟨l, st, p, w0, h1, h2, h3, h4, h5, h6, h7, h8⟩ := hz.out
             exact ⟨⟨_, rfl⟩, .inr ⟨gR + 1, l, st, p, by rw [HN.out]; omega, h2, by rw [h1, HCC.out.1], h3⟩⟩)
          | (go_end0
             obtain ⟨l, st, p, w0, h1, h2, h3, h4, h5, h6, h7, h8⟩ := hz.out
             exact ⟨⟨_, rfl⟩, .inr ⟨gR + 1, l, st, p, by rw [HN.out]; omega, h2, by rw [h1, HCC.out.1], h3⟩⟩)

end Go.Proofs.YtkiefmhampfhoaaDoor
