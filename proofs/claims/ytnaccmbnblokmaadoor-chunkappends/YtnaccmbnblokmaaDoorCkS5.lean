/-
  The document's Put: the walk.
-/
import Derived.Test.YtnaccmbnblokmaaDoorCkS4
namespace Go.Proofs.YtnaccmbnblokmaaDoor
open Go.RowKit

/-- the document's state behind samples that come to st -/
def SdP (w0 w : World) (gs gp : Nat) (bs : List Bool) (st : Pst) : Prop := ∃ D : Int, (2 ≤ st.n → D = st.gap) ∧ Sd w0 w gs gp bs st.t D st.f (winL (st.th, st.ld, st.tl)) (winK (st.th, st.ld, st.tl))
theorem boxT {w w' : World} {b : Nat} {x y : Value} (h : w.heap[b]? = some (.cells #[x, y] 27 (0, 0))) (hk : KeepT tS w w') : w'.cell? ⟨b, 0, none⟩ = some x ∧ w'.cell? ⟨b, 1, none⟩ = some y := by
  have h2 := (hk.2 b _ _ _ h (by decide)).trans h
  exact ⟨by simp [World.cell?, h2], by simp [World.cell?, h2]⟩

theorem smp0 {st : Pst} (t : Int) (f : Nat) (h : st.n = 0) : smpB st t f = bytesBits (uv (zz t)) ++ bitsOf f 64 ∧ smpW st f = (st.th, st.ld, st.tl) := by
  unfold smpB smpW timB
  rw [if_pos h, if_pos h, if_pos h]
  exact ⟨rfl, rfl⟩
theorem smp1 {st : Pst} (t : Int) (f : Nat) (h : st.n = 1) : smpB st t f = bytesBits (uv (t - st.t).toNat) ++ valB st f ∧ smpW st f = valW st f := by
  unfold smpB smpW timB
  have h0 : ¬ st.n = 0 := by omega
  rw [if_neg h0, if_neg h0, if_neg h0, if_pos h]
  exact ⟨rfl, rfl⟩
theorem smp2 {st : Pst} (t : Int) (f : Nat) (h : 2 ≤ st.n) : smpB st t f = turnB (t - st.t - st.gap) ++ valB st f ∧ smpW st f = valW st f := by
  unfold smpB smpW timB
  have h0 : ¬ st.n = 0 := by omega
  have h1 : ¬ st.n = 1 := by omega
  rw [if_neg h0, if_neg h0, if_neg h0, if_neg h1]
  exact ⟨rfl, rfl⟩
theorem heapT {w w' : World} {b : Nat} {x y : Value} (h : w.heap[b]? = some (.cells #[x, y] 27 (0, 0))) (hk : KeepT tS w w') : w'.heap[b]? = some (.cells #[x, y] 27 (0, 0)) := (hk.2 b _ _ _ h (by decide)).trans h
/-- the time is laid into the state, and the call ends -/
theorem SdP.last {w0 w : World} {gs gp : Nat} {bs : List Bool} {st : Pst} {t D T : Int} {f : Nat} (hg : 1 ≤ st.n → D = t - st.t) (h : Sd w0 w gs gp bs T D f (winL (smpW st f)) (winK (smpW st f))) : SdP w0 (w.setCell ⟨gp, 0, none⟩ (.int .i64 t)) gs gp bs (nextP st t f) :=
  ⟨D, fun h2 => hg (by have : (nextP st t f).n = st.n + 1 := rfl; omega), (h.upd 0 (.int .i64 t) (T' := t) (D' := D) (V' := f) (L' := winL (smpW st f)) (K' := winK (smpW st f)) (heap_setCell_same w gp 0 _ _ _ h.sta)).1⟩

set_option maxRecDepth 8000 in
set_option maxHeartbeats 6400000 in
theorem dPut_any (w0 w : World) (gs gp : Nat) (bs : List Bool) (st : Pst) (t : Int) (f : Nat) (h : SdP w0 w gs gp bs st) (hs : OkP st) (hw : wrongN st t = 0) (hf : f < 18446744073709551616) (hsz : bs.length ≤ 900000) :
    Calls Tryd.prog 37 #[.pointer (some ⟨gp, 0, none⟩), .pointer (some ⟨gs, 0, none⟩), .int .i64 (st.n : Int), .agg #[.int .i64 t, .float .f64 f]] w fun e w' => e = .returned (.tuple #[]) ∧ SdP w0 w' gs gp (bs ++ smpB st t f) (nextP st t f) := by
  obtain ⟨ht, hr, hn⟩ := wrongN_ok hw hs.most
  have HW := hidJ (And.intro hs (And.intro ht (And.intro hr (And.intro hn (And.intro hf hsz)))))
  obtain ⟨D, hD, h⟩ := h
  have HS0 := hidJ (And.intro hD h)
  clear hD h hs hw hf hsz hr
  have HBx : Hid ((w.alloc (.cells #[.int .i64 t, .float .f64 f] 27)).heap[w.heap.size]? = some (.cells #[.int .i64 t, .float .f64 f] 27 (0, 0)) ∧ w.grownBy (w.alloc (.cells #[.int .i64 t, .float .f64 f] 27)) none) := ⟨Go.heap_alloc_new w _, alloc_gb _ _⟩
  have HB : Hid (∀ W, Calls Tryd.prog 33 #[.float .f64 f] W fun e w' => e = .returned (.int .u64 (f : Int)) ∧ w' = W) := refBits_any f
  obtain ⟨N, hN⟩ : ∃ N, st.n = N := ⟨_, rfl⟩
  rw [hN]
  have HN := hidJ hN
  rw [hN] at hn
  clear hN
  go_enter Tryd.func37, Tryd.ntmps37
  go_wp2_with fail
  refine (HB.out _).mono ?_
  rintro e w1 ⟨rfl, hw1⟩
  have HS1 : Hid (Sd w0 w1 gs gp bs st.t D st.f (winL (st.th, st.ld, st.tl)) (winK (st.th, st.ld, st.tl)) ∧ w1.heap[w.heap.size]? = some (.cells #[.int .i64 t, .float .f64 f] 27 (0, 0))) := by rw [hw1]; exact ⟨HS0.out.2.keep HBx.out.2, HBx.out.1⟩
  clear hw1 HBx
  generalize w.heap.size = b0 at *
  rcases (show N = 0 ∨ N = 1 ∨ 2 ≤ N by omega) with rfl | rfl | hN2
  · obtain ⟨x0, -⟩ := boxT HS1.out.2 (KeepT.refl tS w1)
    have HSm := hidJ (smp0 t f HN.out)
    go_wp2_with fail
    refine (refPutI_any _ [] t w1 (Rd.nil _) (by simp) (by omega) (by omega)).mono ?_
    rintro e w2 ⟨v2, rfl, ho2, hg2⟩
    rw [List.nil_append] at ho2
    have H2 : Hid (Sd w0 w2 gs gp bs st.t D st.f (winL (st.th, st.ld, st.tl)) (winK (st.th, st.ld, st.tl)) ∧ w2.heap[b0]? = some (.cells #[.int .i64 t, .float .f64 f] 27 (0, 0)) ∧ Own w2 w1.heap.size v2 (uv (zz t))) := ⟨HS1.out.1.keep hg2, heapT HS1.out.2 (KeepT.of_none hg2), ho2⟩
    clear ho2 hg2 HS1 x0
    go_wp2_with fail
    refine (whole_any w0 w2 gs gp bs _ _ _ _ _ H2.out.1 _ v2 _ H2.out.2.2 (by have := uv_len_of (n := zz t) (by unfold zz; split <;> omega); omega) (by have := HW.out.2.2.2.2.2; omega)).mono ?_
    rintro e w3 ⟨rfl, hS, hK⟩
    have H3 := hidJ (And.intro hS (heapT H2.out.2.1 hK))
    clear hS hK H2
    have HC := hidJ (sd_writeN H3.out.1 f 64 (f : Int) 64 rfl rfl HW.out.2.2.2.2.1 (by decide) (by have := HW.out.2.2.2.2.2; have := uv_len_of (n := zz t) (by unfold zz; split <;> omega); rw [List.length_append, bytesBits_len]; omega))
    go_wp2_with fail
    with_reducible refine HC.out.mono ?_
    rintro e w4 ⟨rfl, hS, hK⟩
    have H4 := hidJ (And.intro hS (heapT H3.out.2 hK))
    clear hS hK H3 HC
    have c2 := H4.out.1.cells.2.2.1
    have z2 := H4.out.1.frz 2
    have HU := hidJ (H4.out.1.upd 2 (.int .u64 (f : Int)) (T' := st.t) (D' := D) (V' := f) (L' := winL (st.th, st.ld, st.tl)) (K' := winK (st.th, st.ld, st.tl)) (heap_setCell_same w4 gp 2 _ _ _ H4.out.1.sta))
    have d0 := HU.out.1.cells.1
    have z0 := HU.out.1.frz 0
    obtain ⟨y0, -⟩ := boxT H4.out.2 HU.out.2
    have HF : Hid (SdP w0 ((w4.setCell ⟨gp, 2, none⟩ (.int .u64 (f : Int))).setCell ⟨gp, 0, none⟩ (.int .i64 t)) gs gp (bs ++ smpB st t f) (nextP st t f)) := by
      rw [HSm.out.1, ← List.append_assoc]
      refine SdP.last (fun h => ?_) (T := st.t) (D := D) ?_
      · rw [HN.out] at h; omega
      · rw [HSm.out.2]; exact HU.out.1
    clear HU H4
    go_wp2_with fail
    go_end0
    exact ⟨rfl, HF.out⟩
  · obtain ⟨x0, -⟩ := boxT HS1.out.2 (KeepT.refl tS w1)
    have HSm := hidJ (smp1 t f HN.out)
    have hr : st.t < t := by have := HW.out.2.2.1; have := HN.out; omega
    have hst := HW.out.1.time
    obtain ⟨G, hG⟩ : ∃ G : Nat, t - st.t = (G : Int) := ⟨(t - st.t).toNat, by omega⟩
    have hG2 : (t - st.t).toNat = G := by omega
    rw [hG2] at HSm
    have HG := hidJ hG
    have hGb : G < 9223372036854775808 := by omega
    have c0 := HS1.out.1.cells.1
    have c1 := HS1.out.1.cells.2.1
    have z1 := HS1.out.1.frz 1
    have HU := hidJ (HS1.out.1.upd 1 (.int .i64 (G : Int)) (T' := st.t) (D' := (G : Int)) (V' := st.f) (L' := winL (st.th, st.ld, st.tl)) (K' := winK (st.th, st.ld, st.tl)) (heap_setCell_same w1 gp 1 _ _ _ HS1.out.1.sta))
    clear hG2 hr hst
    go_upto_region 12 with fail
    go_region
    have H2 : Hid (Sd w0 (w1.setCell ⟨gp, 1, none⟩ (.int .i64 (G : Int))).drew gs gp bs st.t (G : Int) st.f (winL (st.th, st.ld, st.tl)) (winK (st.th, st.ld, st.tl)) ∧ (w1.setCell ⟨gp, 1, none⟩ (.int .i64 (G : Int))).drew.heap[b0]? = some (.cells #[.int .i64 t, .float .f64 f] 27 (0, 0))) := ⟨HU.out.1.keep (gb_drew _ _), heapT HS1.out.2 (HU.out.2.trans (KeepT.of_none (gb_drew _ _)))⟩
    clear HU HS1 c0 c1 z1 x0
    generalize (w1.setCell ⟨gp, 1, none⟩ (.int .i64 (G : Int))).drew = w2 at *
    have c1 := H2.out.1.cells.2.1
    have HPU := hidJ (refPutU_any (.slice none 0 0) [] (BitVec.ofNat 64 G) w2 (Rd.nil _) (by simp))
    rw [I64_bv (by omega), nat_bv (by omega)] at HPU
    go_wp2_with fail
    with_reducible refine HPU.out.mono ?_
    rintro e w3 ⟨v3, rfl, ho3, hg3⟩
    rw [List.nil_append] at ho3
    have H3 : Hid (Sd w0 w3 gs gp bs st.t (G : Int) st.f (winL (st.th, st.ld, st.tl)) (winK (st.th, st.ld, st.tl)) ∧ w3.heap[b0]? = some (.cells #[.int .i64 t, .float .f64 f] 27 (0, 0)) ∧ Own w3 w2.heap.size v3 (uv G)) := ⟨H2.out.1.keep hg3, heapT H2.out.2 (KeepT.of_none hg3), ho3⟩
    clear ho3 hg3 H2 c1 HPU
    go_wp2_with fail
    refine (whole_any w0 w3 gs gp bs _ _ _ _ _ H3.out.1 _ v3 _ H3.out.2.2 (by have := uv_len_of (n := G) (by omega); omega) (by have := HW.out.2.2.2.2.2; omega)).mono ?_
    rintro e w4 ⟨rfl, hS, hK⟩
    have H4 := hidJ (And.intro hS (heapT H3.out.2.1 hK))
    clear hS hK H3
    have HC := hidJ (dValue_any w0 w4 gs gp _ st.t (G : Int) st f H4.out.1 HW.out.1 HW.out.2.2.2.2.1 (by have := HW.out.2.2.2.2.2; have := uv_len_of (n := G) (by omega); rw [List.length_append, bytesBits_len]; omega))
    go_wp2_with fail
    with_reducible refine HC.out.mono ?_
    rintro e w5 ⟨rfl, hS, hK⟩
    have H5 := hidJ (And.intro hS (heapT H4.out.2 hK))
    clear hS hK H4 HC
    have d0 := H5.out.1.cells.1
    have z0 := H5.out.1.frz 0
    obtain ⟨y0, -⟩ := boxT H5.out.2 (KeepT.refl tS w5)
    have HF : Hid (SdP w0 (w5.setCell ⟨gp, 0, none⟩ (.int .i64 t)) gs gp (bs ++ smpB st t f) (nextP st t f)) := by
      rw [HSm.out.1, ← List.append_assoc]
      refine SdP.last (fun h => ?_) (T := st.t) (D := (G : Int)) ?_
      · exact HG.out.symm
      · rw [HSm.out.2]; exact H5.out.1
    clear H5
    go_wp2_with fail
    go_end0
    exact ⟨rfl, HF.out⟩
  · obtain ⟨x0, -⟩ := boxT HS1.out.2 (KeepT.refl tS w1)
    have HSm := hidJ (smp2 t f (by rw [HN.out]; exact hN2))
    have HD : Hid (D = st.gap) := HS0.out.1 (by rw [HN.out]; exact hN2)
    rw [← HD.out] at HSm
    have hgp := HW.out.1.gap
    have hst := HW.out.1.time
    rw [← HD.out] at hgp
    obtain ⟨G, hG⟩ : ∃ G : Int, t - st.t = G := ⟨_, rfl⟩
    obtain ⟨E, hE⟩ : ∃ E : Int, G - D = E := ⟨_, rfl⟩
    rw [hG, hE] at HSm
    have HG := hidJ (And.intro hG hE)
    have hGb : -1125899906842624 ≤ G ∧ G ≤ 1125899906842624 := by omega
    have hEb : -2251799813685248 ≤ E ∧ E ≤ 2251799813685248 := by omega
    have hN0 : ((N : Int) == 0) = false := by rw [beq_eq_false_iff_ne]; omega
    have hN1 : ((N : Int) == 1) = false := by rw [beq_eq_false_iff_ne]; omega
    have c0 := HS1.out.1.cells.1
    go_upto_region 3 with fail
    go_region
    have H2 : Hid (Sd w0 w1.drew gs gp bs st.t D st.f (winL (st.th, st.ld, st.tl)) (winK (st.th, st.ld, st.tl)) ∧ w1.drew.heap[b0]? = some (.cells #[.int .i64 t, .float .f64 f] 27 (0, 0))) := ⟨HS1.out.1.keep (gb_drew _ _), heapT HS1.out.2 (KeepT.of_none (gb_drew _ _))⟩
    clear HS1 c0 x0
    generalize w1.drew = w2 at *
    have c1 := H2.out.1.cells.2.1
    have HC := hidJ (dTime_any w0 w2 gs gp bs st.t D st.f _ _ E H2.out.1 (by have := HW.out.2.2.2.2.2; omega))
    go_wp2_with fail
    with_reducible refine HC.out.mono ?_
    rintro e w3 ⟨rfl, hS, hK⟩
    have H3 := hidJ (And.intro hS (heapT H2.out.2 hK))
    clear hS hK H2 HC c1
    have c1 := H3.out.1.cells.2.1
    have z1 := H3.out.1.frz 1
    have HU := hidJ (H3.out.1.upd 1 (.int .i64 G) (T' := st.t) (D' := G) (V' := st.f) (L' := winL (st.th, st.ld, st.tl)) (K' := winK (st.th, st.ld, st.tl)) (heap_setCell_same w3 gp 1 _ _ _ H3.out.1.sta))
    have HC := hidJ (dValue_any w0 _ gs gp _ st.t G st f HU.out.1 HW.out.1 HW.out.2.2.2.2.1 (by have := HW.out.2.2.2.2.2; have := turnB_len E; rw [List.length_append]; omega))
    go_wp2_with fail
    with_reducible refine HC.out.mono ?_
    rintro e w5 ⟨rfl, hS, hK⟩
    have H5 := hidJ (And.intro hS (heapT H3.out.2 (HU.out.2.trans hK)))
    clear hS hK H3 HC HU c1 z1
    have d0 := H5.out.1.cells.1
    have z0 := H5.out.1.frz 0
    obtain ⟨y0, -⟩ := boxT H5.out.2 (KeepT.refl tS w5)
    have HF : Hid (SdP w0 (w5.setCell ⟨gp, 0, none⟩ (.int .i64 t)) gs gp (bs ++ smpB st t f) (nextP st t f)) := by
      rw [HSm.out.1, ← List.append_assoc]
      refine SdP.last (fun h => ?_) (T := st.t) (D := G) ?_
      · exact HG.out.1.symm
      · rw [HSm.out.2]; exact H5.out.1
    clear H5
    go_wp2_with fail
    go_end0
    exact ⟨rfl, HF.out⟩
end Go.Proofs.YtnaccmbnblokmaaDoor
