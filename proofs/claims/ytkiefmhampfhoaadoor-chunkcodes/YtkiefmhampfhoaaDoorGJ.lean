/-
  CkS4, CkS5, CkS6, in one text.
-/
import Derived.Test.YtkiefmhampfhoaaDoorCkS3
/- CkS4 -/
namespace Go.Proofs.YtkiefmhampfhoaaDoor
open Go.RowKit

theorem I64_bv {x : Nat} (h : x < 18446744073709551616) : I64 (BitVec.ofNat 64 x) = (x : Int) := I64_of h
theorem turnB_form (d : Int) (F : Nat) (hF : formN d = F) : turnB d = headB F ++ bitsOf (U64 d % 2 ^ tw F) (tw F) := by rw [← hF]; rfl

set_option maxHeartbeats 3200000 in
theorem dTime_any (w0 w : World) (gs gp : Nat) (bs : List Bool) (T D : Int) (V : Nat) (L K : Int) (d : Int) (h : Sd w0 w gs gp bs T D V L K) (hsz : bs.length ≤ 1000000) :
    Calls Tryd.prog 64 #[.pointer (some ⟨gs, 0, none⟩), .int .i64 d] w fun e w' => e = .returned (.tuple #[]) ∧ Sd w0 w' gs gp (bs ++ turnB d) T D V L K ∧ KeepT tS w w' := by
  have HV := hidJ (And.intro h hsz)
  clear h hsz
  obtain ⟨F, hF⟩ : ∃ F, formN d = F := ⟨_, rfl⟩
  have HT := hidJ (turnB_form d F hF)
  have hF4 : F ≤ 4 := by rw [← hF]; exact formN_le d
  have HU := hidJ (U64_lt d)
  have HUW := hidJ (U64_wrap d)
  generalize turnB d = tB at *
  by_cases h0 : d = 0
  · subst h0
    have hF0 : F = 0 := by rw [← hF]; rfl
    subst hF0
    clear hF
    go_enter Tryd.func64, Tryd.ntmps64
    go_wp2_with fail
    refine (sd_writeN HV.out.1 0 1 _ _ rfl rfl (by decide) (by decide) (by have := HV.out.2; omega)).mono ?_
    rintro e w2 ⟨rfl, hS, hK⟩
    have HF : Hid (Sd w0 w2 gs gp (bs ++ tB) T D V L K ∧ KeepT tS w w2) := by
      refine ⟨?_, hK⟩
      rw [HT.out, show headB 0 ++ bitsOf (U64 0 % 2 ^ tw 0) (tw 0) = bitsOf 0 1 by decide]
      exact hS
    clear hS hK
    go_wp2_with fail
    go_end0
    exact ⟨rfl, HF.out⟩
  · have hdb : (d == 0) = false := by rw [beq_eq_false_iff_ne]; exact h0
    have hI1 : Hid (∀ W, Calls Tryd.prog 87 #[.int .i64 d, .int .i64 14] W fun e w' => e = .returned (.bool (decide (F ≤ 1))) ∧ W.grownBy w' none) := fun W => by have := refIn_any d 1 h0 (.inl rfl) W; rw [hF] at this; exact this
    have hI2 : Hid (∀ W, Calls Tryd.prog 87 #[.int .i64 d, .int .i64 17] W fun e w' => e = .returned (.bool (decide (F ≤ 2))) ∧ W.grownBy w' none) := fun W => by have := refIn_any d 2 h0 (.inr (.inl rfl)) W; rw [hF] at this; exact this
    have hI3 : Hid (∀ W, Calls Tryd.prog 87 #[.int .i64 d, .int .i64 20] W fun e w' => e = .returned (.bool (decide (F ≤ 3))) ∧ W.grownBy w' none) := fun W => by have := refIn_any d 3 h0 (.inr (.inr rfl)) W; rw [hF] at this; exact this
    have hF1 : 1 ≤ F := by rw [← hF]; exact formN_pos d h0
    clear hF
    rcases (show F = 1 ∨ F = 2 ∨ F = 3 ∨ F = 4 by omega) with rfl | rfl | rfl | rfl
    · go_enter Tryd.func64, Tryd.ntmps64
      have HS : Hid (Sd w0 w gs gp bs T D V L K ∧ KeepT tS w w) := ⟨HV.out.1, KeepT.refl _ _⟩
      go_wp2_with fail
      refine (hI1.out _).mono ?_
      rintro e wi1 ⟨rfl, hg⟩
      have HS : Hid (Sd w0 wi1 gs gp bs T D V L K ∧ KeepT tS w wi1) := ⟨HS.out.1.keep hg, HS.out.2.trans (KeepT.of_none hg)⟩
      clear hg
      rw [show decide (1 ≤ 1) = true from rfl]
      have HC := hidJ (sd_writeN HS.out.1 2 2 2 2 rfl rfl (by decide) (by decide) (by have := HV.out.2; omega))
      go_wp2_with fail
      with_reducible refine HC.out.mono ?_
      rintro e w2 ⟨rfl, hS, hK⟩
      have H2 := hidJ (And.intro hS (HS.out.2.trans hK))
      clear hS hK HC
      go_wp2_with fail
      refine (low_all d (BitVec.ofNat 64 (U64 d)) 14 (by decide) HUW.out _).mono ?_
      rintro e w3 ⟨rfl, hw3⟩
      have hw3 := hw3.symm
      subst hw3
      rw [nat_bv HU.out]
      obtain ⟨q, hq⟩ : ∃ q, U64 d % 2 ^ 14 = q := ⟨_, rfl⟩
      rw [hq]
      have HC := hidJ (sd_writeN H2.out.1 q 14 (q : Int) 14 rfl rfl (by have h1 := Nat.mod_le (U64 d) (2 ^ 14); rw [hq] at h1; have := HU.out; omega) (by decide) (by have := HV.out.2; simp [bitsOf_len]; omega))
      go_wp2_with fail
      with_reducible refine HC.out.mono ?_
      rintro e w4 ⟨rfl, hS, hK⟩
      have HF : Hid (Sd w0 w4 gs gp (bs ++ tB) T D V L K ∧ KeepT tS w w4) := by
        refine ⟨?_, H2.out.2.trans hK⟩
        rw [HT.out, show headB 1 = bitsOf 2 2 by decide, show tw 1 = 14 from rfl, hq, ← List.append_assoc]
        exact hS
      clear hS hK H2 HC
      go_wp2_with fail
      go_end0
      exact ⟨rfl, HF.out⟩
    · go_enter Tryd.func64, Tryd.ntmps64
      have HS : Hid (Sd w0 w gs gp bs T D V L K ∧ KeepT tS w w) := ⟨HV.out.1, KeepT.refl _ _⟩
      go_wp2_with fail
      refine (hI1.out _).mono ?_
      rintro e wi1 ⟨rfl, hg⟩
      have HS : Hid (Sd w0 wi1 gs gp bs T D V L K ∧ KeepT tS w wi1) := ⟨HS.out.1.keep hg, HS.out.2.trans (KeepT.of_none hg)⟩
      clear hg
      rw [show decide (2 ≤ 1) = false from rfl]
      go_wp2_with fail
      refine (hI2.out _).mono ?_
      rintro e wi2 ⟨rfl, hg⟩
      have HS : Hid (Sd w0 wi2 gs gp bs T D V L K ∧ KeepT tS w wi2) := ⟨HS.out.1.keep hg, HS.out.2.trans (KeepT.of_none hg)⟩
      clear hg
      rw [show decide (2 ≤ 2) = true from rfl]
      have HC := hidJ (sd_writeN HS.out.1 6 3 6 3 rfl rfl (by decide) (by decide) (by have := HV.out.2; omega))
      go_wp2_with fail
      with_reducible refine HC.out.mono ?_
      rintro e w2 ⟨rfl, hS, hK⟩
      have H2 := hidJ (And.intro hS (HS.out.2.trans hK))
      clear hS hK HC
      go_wp2_with fail
      refine (low_all d (BitVec.ofNat 64 (U64 d)) 17 (by decide) HUW.out _).mono ?_
      rintro e w3 ⟨rfl, hw3⟩
      have hw3 := hw3.symm
      subst hw3
      rw [nat_bv HU.out]
      obtain ⟨q, hq⟩ : ∃ q, U64 d % 2 ^ 17 = q := ⟨_, rfl⟩
      rw [hq]
      have HC := hidJ (sd_writeN H2.out.1 q 17 (q : Int) 17 rfl rfl (by have h1 := Nat.mod_le (U64 d) (2 ^ 17); rw [hq] at h1; have := HU.out; omega) (by decide) (by have := HV.out.2; simp [bitsOf_len]; omega))
      go_wp2_with fail
      with_reducible refine HC.out.mono ?_
      rintro e w4 ⟨rfl, hS, hK⟩
      have HF : Hid (Sd w0 w4 gs gp (bs ++ tB) T D V L K ∧ KeepT tS w w4) := by
        refine ⟨?_, H2.out.2.trans hK⟩
        rw [HT.out, show headB 2 = bitsOf 6 3 by decide, show tw 2 = 17 from rfl, hq, ← List.append_assoc]
        exact hS
      clear hS hK H2 HC
      go_wp2_with fail
      go_end0
      exact ⟨rfl, HF.out⟩
    · go_enter Tryd.func64, Tryd.ntmps64
      have HS : Hid (Sd w0 w gs gp bs T D V L K ∧ KeepT tS w w) := ⟨HV.out.1, KeepT.refl _ _⟩
      go_wp2_with fail
      refine (hI1.out _).mono ?_
      rintro e wi1 ⟨rfl, hg⟩
      have HS : Hid (Sd w0 wi1 gs gp bs T D V L K ∧ KeepT tS w wi1) := ⟨HS.out.1.keep hg, HS.out.2.trans (KeepT.of_none hg)⟩
      clear hg
      rw [show decide (3 ≤ 1) = false from rfl]
      go_wp2_with fail
      refine (hI2.out _).mono ?_
      rintro e wi2 ⟨rfl, hg⟩
      have HS : Hid (Sd w0 wi2 gs gp bs T D V L K ∧ KeepT tS w wi2) := ⟨HS.out.1.keep hg, HS.out.2.trans (KeepT.of_none hg)⟩
      clear hg
      rw [show decide (3 ≤ 2) = false from rfl]
      go_wp2_with fail
      refine (hI3.out _).mono ?_
      rintro e wi3 ⟨rfl, hg⟩
      have HS : Hid (Sd w0 wi3 gs gp bs T D V L K ∧ KeepT tS w wi3) := ⟨HS.out.1.keep hg, HS.out.2.trans (KeepT.of_none hg)⟩
      clear hg
      rw [show decide (3 ≤ 3) = true from rfl]
      have HC := hidJ (sd_writeN HS.out.1 14 4 14 4 rfl rfl (by decide) (by decide) (by have := HV.out.2; omega))
      go_wp2_with fail
      with_reducible refine HC.out.mono ?_
      rintro e w2 ⟨rfl, hS, hK⟩
      have H2 := hidJ (And.intro hS (HS.out.2.trans hK))
      clear hS hK HC
      go_wp2_with fail
      refine (low_all d (BitVec.ofNat 64 (U64 d)) 20 (by decide) HUW.out _).mono ?_
      rintro e w3 ⟨rfl, hw3⟩
      have hw3 := hw3.symm
      subst hw3
      rw [nat_bv HU.out]
      obtain ⟨q, hq⟩ : ∃ q, U64 d % 2 ^ 20 = q := ⟨_, rfl⟩
      rw [hq]
      have HC := hidJ (sd_writeN H2.out.1 q 20 (q : Int) 20 rfl rfl (by have h1 := Nat.mod_le (U64 d) (2 ^ 20); rw [hq] at h1; have := HU.out; omega) (by decide) (by have := HV.out.2; simp [bitsOf_len]; omega))
      go_wp2_with fail
      with_reducible refine HC.out.mono ?_
      rintro e w4 ⟨rfl, hS, hK⟩
      have HF : Hid (Sd w0 w4 gs gp (bs ++ tB) T D V L K ∧ KeepT tS w w4) := by
        refine ⟨?_, H2.out.2.trans hK⟩
        rw [HT.out, show headB 3 = bitsOf 14 4 by decide, show tw 3 = 20 from rfl, hq, ← List.append_assoc]
        exact hS
      clear hS hK H2 HC
      go_wp2_with fail
      go_end0
      exact ⟨rfl, HF.out⟩
    · go_enter Tryd.func64, Tryd.ntmps64
      have HS : Hid (Sd w0 w gs gp bs T D V L K ∧ KeepT tS w w) := ⟨HV.out.1, KeepT.refl _ _⟩
      go_wp2_with fail
      refine (hI1.out _).mono ?_
      rintro e wi1 ⟨rfl, hg⟩
      have HS : Hid (Sd w0 wi1 gs gp bs T D V L K ∧ KeepT tS w wi1) := ⟨HS.out.1.keep hg, HS.out.2.trans (KeepT.of_none hg)⟩
      clear hg
      rw [show decide (4 ≤ 1) = false from rfl]
      go_wp2_with fail
      refine (hI2.out _).mono ?_
      rintro e wi2 ⟨rfl, hg⟩
      have HS : Hid (Sd w0 wi2 gs gp bs T D V L K ∧ KeepT tS w wi2) := ⟨HS.out.1.keep hg, HS.out.2.trans (KeepT.of_none hg)⟩
      clear hg
      rw [show decide (4 ≤ 2) = false from rfl]
      go_wp2_with fail
      refine (hI3.out _).mono ?_
      rintro e wi3 ⟨rfl, hg⟩
      have HS : Hid (Sd w0 wi3 gs gp bs T D V L K ∧ KeepT tS w wi3) := ⟨HS.out.1.keep hg, HS.out.2.trans (KeepT.of_none hg)⟩
      clear hg
      rw [show decide (4 ≤ 3) = false from rfl]
      have HC := hidJ (sd_writeN HS.out.1 15 4 15 4 rfl rfl (by decide) (by decide) (by have := HV.out.2; omega))
      go_wp2_with fail
      with_reducible refine HC.out.mono ?_
      rintro e w2 ⟨rfl, hS, hK⟩
      have H2 := hidJ (And.intro hS (HS.out.2.trans hK))
      clear hS hK HC
      have hcv := HUW.out
      have HC := hidJ (sd_write H2.out.1 (BitVec.ofNat 64 (U64 d)) 64 (I64 (BitVec.ofNat 64 (U64 d))) 64 rfl rfl (by decide) (by have := HV.out.2; simp [bitsOf_len]; omega))
      go_wp2_with fail
      with_reducible refine HC.out.mono ?_
      rintro e w4 ⟨rfl, hS, hK⟩
      have HF : Hid (Sd w0 w4 gs gp (bs ++ tB) T D V L K ∧ KeepT tS w w4) := by
        refine ⟨?_, H2.out.2.trans hK⟩
        rw [HT.out, show headB 4 = bitsOf 15 4 by decide, show tw 4 = 64 from rfl, Nat.mod_eq_of_lt (show U64 d < 2 ^ 64 from HU.out), ← List.append_assoc]; rw [nat_bv HU.out] at hS
        exact hS
      clear hS hK H2 HC
      go_wp2_with fail
      go_end0
      exact ⟨rfl, HF.out⟩

end Go.Proofs.YtkiefmhampfhoaaDoor

/- CkS5 -/
namespace Go.Proofs.YtkiefmhampfhoaaDoor
open Go.RowKit

/-- the document's state behind samples that come to st -/
def SdP (w0 w : World) (gs gp : Nat) (bs : List Bool) (st : Pst) : Prop := ∃ D : Int, (2 ≤ st.n → D = st.gap) ∧ Sd w0 w gs gp bs st.t D st.f (winL (st.th, st.ld, st.tl)) (winK (st.th, st.ld, st.tl))
theorem boxT {w w' : World} {b : Nat} {x y : Value} (h : w.heap[b]? = some (.cells #[x, y] 27 (0, 0))) (hk : KeepT tS w w') : w'.cell? ⟨b, 0, none⟩ = some x ∧ w'.cell? ⟨b, 1, none⟩ = some y := by
  have h2 := (hk.2 b _ _ _ h (by decide)).trans h
  exact ⟨by simp [World.cell?, h2], by simp [World.cell?, h2]⟩

theorem smp0 {st : Pst} (t : Int) (f : Nat) (h : st.n = 0) : smpB st t f = bytesBits (uv (zz t)) ++ bitsOf f 64 ∧ smpW st f = (st.th, st.ld, st.tl) := by
  unfold smpB smpW timB
  rw [if_pos h, if_pos h, if_pos h]
  exact ⟨rfl, rfl⟩
theorem smp1 {st : Pst} (t : Int) (f : Nat) (h : st.n = 1) : smpB st t f = bytesBits (uv (t - st.t).toNat) ++ valB st f ∧ smpW st f = valW st f := by
  unfold smpB smpW timB
  have h0 : ¬ st.n = 0 := by omega
  rw [if_neg h0, if_neg h0, if_neg h0, if_pos h]
  exact ⟨rfl, rfl⟩
theorem smp2 {st : Pst} (t : Int) (f : Nat) (h : 2 ≤ st.n) : smpB st t f = turnB (t - st.t - st.gap) ++ valB st f ∧ smpW st f = valW st f := by
  unfold smpB smpW timB
  have h0 : ¬ st.n = 0 := by omega
  have h1 : ¬ st.n = 1 := by omega
  rw [if_neg h0, if_neg h0, if_neg h0, if_neg h1]
  exact ⟨rfl, rfl⟩
theorem heapT {w w' : World} {b : Nat} {x y : Value} (h : w.heap[b]? = some (.cells #[x, y] 27 (0, 0))) (hk : KeepT tS w w') : w'.heap[b]? = some (.cells #[x, y] 27 (0, 0)) := (hk.2 b _ _ _ h (by decide)).trans h
/-- the time is laid into the state, and the call ends -/
theorem SdP.last {w0 w : World} {gs gp : Nat} {bs : List Bool} {st : Pst} {t D T : Int} {f : Nat} (hg : 1 ≤ st.n → D = t - st.t) (h : Sd w0 w gs gp bs T D f (winL (smpW st f)) (winK (smpW st f))) : SdP w0 (w.setCell ⟨gp, 0, none⟩ (.int .i64 t)) gs gp bs (nextP st t f) :=
  ⟨D, fun h2 => hg (by have : (nextP st t f).n = st.n + 1 := rfl; omega), (h.upd 0 (.int .i64 t) (T' := t) (D' := D) (V' := f) (L' := winL (smpW st f)) (K' := winK (smpW st f)) (heap_setCell_same w gp 0 _ _ _ h.sta)).1⟩

set_option maxRecDepth 8000 in
set_option maxHeartbeats 6400000 in
theorem dPut_any (w0 w : World) (gs gp : Nat) (bs : List Bool) (st : Pst) (t : Int) (f : Nat) (h : SdP w0 w gs gp bs st) (hs : OkP st) (hw : wrongN st t = 0) (hf : f < 18446744073709551616) (hsz : bs.length ≤ 900000) :
    Calls Tryd.prog 37 #[.pointer (some ⟨gp, 0, none⟩), .pointer (some ⟨gs, 0, none⟩), .int .i64 (st.n : Int), .agg #[.int .i64 t, .float .f64 f]] w fun e w' => e = .returned (.tuple #[]) ∧ SdP w0 w' gs gp (bs ++ smpB st t f) (nextP st t f) := by
  obtain ⟨ht, hr, hn⟩ := wrongN_ok hw hs.most
  have HW := hidJ (And.intro hs (And.intro ht (And.intro hr (And.intro hn (And.intro hf hsz)))))
  obtain ⟨D, hD, h⟩ := h
  have HS0 := hidJ (And.intro hD h)
  clear hD h hs hw hf hsz hr
  have HBx : Hid ((w.alloc (.cells #[.int .i64 t, .float .f64 f] 27)).heap[w.heap.size]? = some (.cells #[.int .i64 t, .float .f64 f] 27 (0, 0)) ∧ w.grownBy (w.alloc (.cells #[.int .i64 t, .float .f64 f] 27)) none) := ⟨Go.heap_alloc_new w _, alloc_gb _ _⟩
  have HB : Hid (∀ W, Calls Tryd.prog 33 #[.float .f64 f] W fun e w' => e = .returned (.int .u64 (f : Int)) ∧ w' = W) := refBits_any f
  obtain ⟨N, hN⟩ : ∃ N, st.n = N := ⟨_, rfl⟩
  rw [hN]
  have HN := hidJ hN
  rw [hN] at hn
  clear hN
  go_enter Tryd.func37, Tryd.ntmps37
  go_wp2_with fail
  refine (HB.out _).mono ?_
  rintro e w1 ⟨rfl, hw1⟩
  have HS1 : Hid (Sd w0 w1 gs gp bs st.t D st.f (winL (st.th, st.ld, st.tl)) (winK (st.th, st.ld, st.tl)) ∧ w1.heap[w.heap.size]? = some (.cells #[.int .i64 t, .float .f64 f] 27 (0, 0))) := by rw [hw1]; exact ⟨HS0.out.2.keep HBx.out.2, HBx.out.1⟩
  clear hw1 HBx
  generalize w.heap.size = b0 at *
  rcases (show N = 0 ∨ N = 1 ∨ 2 ≤ N by omega) with rfl | rfl | hN2
  · obtain ⟨x0, -⟩ := boxT HS1.out.2 (KeepT.refl tS w1)
    have HSm := hidJ (smp0 t f HN.out)
    go_wp2_with fail
    refine (refPutI_any _ [] t w1 (Rd.nil _) (by simp) (by omega) (by omega)).mono ?_
    rintro e w2 ⟨v2, rfl, ho2, hg2⟩
    rw [List.nil_append] at ho2
    have H2 : Hid (Sd w0 w2 gs gp bs st.t D st.f (winL (st.th, st.ld, st.tl)) (winK (st.th, st.ld, st.tl)) ∧ w2.heap[b0]? = some (.cells #[.int .i64 t, .float .f64 f] 27 (0, 0)) ∧ Own w2 w1.heap.size v2 (uv (zz t))) := ⟨HS1.out.1.keep hg2, heapT HS1.out.2 (KeepT.of_none hg2), ho2⟩
    clear ho2 hg2 HS1 x0
    go_wp2_with fail
    refine (whole_any w0 w2 gs gp bs _ _ _ _ _ H2.out.1 _ v2 _ H2.out.2.2 (by have := uv_len_of (n := zz t) (by unfold zz; split <;> omega); omega) (by have := HW.out.2.2.2.2.2; omega)).mono ?_
    rintro e w3 ⟨rfl, hS, hK⟩
    have H3 := hidJ (And.intro hS (heapT H2.out.2.1 hK))
    clear hS hK H2
    have HC := hidJ (sd_writeN H3.out.1 f 64 (f : Int) 64 rfl rfl HW.out.2.2.2.2.1 (by decide) (by have := HW.out.2.2.2.2.2; have := uv_len_of (n := zz t) (by unfold zz; split <;> omega); rw [List.length_append, bytesBits_len]; omega))
    go_wp2_with fail
    with_reducible refine HC.out.mono ?_
    rintro e w4 ⟨rfl, hS, hK⟩
    have H4 := hidJ (And.intro hS (heapT H3.out.2 hK))
    clear hS hK H3 HC
    have c2 := H4.out.1.cells.2.2.1
    have z2 := H4.out.1.frz 2
    have HU := hidJ (H4.out.1.upd 2 (.int .u64 (f : Int)) (T' := st.t) (D' := D) (V' := f) (L' := winL (st.th, st.ld, st.tl)) (K' := winK (st.th, st.ld, st.tl)) (heap_setCell_same w4 gp 2 _ _ _ H4.out.1.sta))
    have d0 := HU.out.1.cells.1
    have z0 := HU.out.1.frz 0
    obtain ⟨y0, -⟩ := boxT H4.out.2 HU.out.2
    have HF : Hid (SdP w0 ((w4.setCell ⟨gp, 2, none⟩ (.int .u64 (f : Int))).setCell ⟨gp, 0, none⟩ (.int .i64 t)) gs gp (bs ++ smpB st t f) (nextP st t f)) := by
      rw [HSm.out.1, ← List.append_assoc]
      refine SdP.last (fun h => ?_) (T := st.t) (D := D) ?_
      · rw [HN.out] at h; omega
      · rw [HSm.out.2]; exact HU.out.1
    clear HU H4
    go_wp2_with fail
    go_end0
    exact ⟨rfl, HF.out⟩
  · obtain ⟨x0, -⟩ := boxT HS1.out.2 (KeepT.refl tS w1)
    have HSm := hidJ (smp1 t f HN.out)
    have hr : st.t < t := by have := HW.out.2.2.1; have := HN.out; omega
    have hst := HW.out.1.time
    obtain ⟨G, hG⟩ : ∃ G : Nat, t - st.t = (G : Int) := ⟨(t - st.t).toNat, by omega⟩
    have hG2 : (t - st.t).toNat = G := by omega
    rw [hG2] at HSm
    have HG := hidJ hG
    have hGb : G < 9223372036854775808 := by omega
    have c0 := HS1.out.1.cells.1
    have c1 := HS1.out.1.cells.2.1
    have z1 := HS1.out.1.frz 1
    have HU := hidJ (HS1.out.1.upd 1 (.int .i64 (G : Int)) (T' := st.t) (D' := (G : Int)) (V' := st.f) (L' := winL (st.th, st.ld, st.tl)) (K' := winK (st.th, st.ld, st.tl)) (heap_setCell_same w1 gp 1 _ _ _ HS1.out.1.sta))
    clear hG2 hr hst
    go_upto_region 12 with fail
    go_region
    have H2 : Hid (Sd w0 (w1.setCell ⟨gp, 1, none⟩ (.int .i64 (G : Int))).drew gs gp bs st.t (G : Int) st.f (winL (st.th, st.ld, st.tl)) (winK (st.th, st.ld, st.tl)) ∧ (w1.setCell ⟨gp, 1, none⟩ (.int .i64 (G : Int))).drew.heap[b0]? = some (.cells #[.int .i64 t, .float .f64 f] 27 (0, 0))) := ⟨HU.out.1.keep (gb_drew _ _), heapT HS1.out.2 (HU.out.2.trans (KeepT.of_none (gb_drew _ _)))⟩
    clear HU HS1 c0 c1 z1 x0
    generalize (w1.setCell ⟨gp, 1, none⟩ (.int .i64 (G : Int))).drew = w2 at *
    have c1 := H2.out.1.cells.2.1
    have HPU := hidJ (refPutU_any (.slice none 0 0) [] (BitVec.ofNat 64 G) w2 (Rd.nil _) (by simp))
    rw [I64_bv (by omega), nat_bv (by omega)] at HPU
    go_wp2_with fail
    with_reducible refine HPU.out.mono ?_
    rintro e w3 ⟨v3, rfl, ho3, hg3⟩
    rw [List.nil_append] at ho3
    have H3 : Hid (Sd w0 w3 gs gp bs st.t (G : Int) st.f (winL (st.th, st.ld, st.tl)) (winK (st.th, st.ld, st.tl)) ∧ w3.heap[b0]? = some (.cells #[.int .i64 t, .float .f64 f] 27 (0, 0)) ∧ Own w3 w2.heap.size v3 (uv G)) := ⟨H2.out.1.keep hg3, heapT H2.out.2 (KeepT.of_none hg3), ho3⟩
    clear ho3 hg3 H2 c1 HPU
    go_wp2_with fail
    refine (whole_any w0 w3 gs gp bs _ _ _ _ _ H3.out.1 _ v3 _ H3.out.2.2 (by have := uv_len_of (n := G) (by omega); omega) (by have := HW.out.2.2.2.2.2; omega)).mono ?_
    rintro e w4 ⟨rfl, hS, hK⟩
    have H4 := hidJ (And.intro hS (heapT H3.out.2.1 hK))
    clear hS hK H3
    have HC := hidJ (dValue_any w0 w4 gs gp _ st.t (G : Int) st f H4.out.1 HW.out.1 HW.out.2.2.2.2.1 (by have := HW.out.2.2.2.2.2; have := uv_len_of (n := G) (by omega); rw [List.length_append, bytesBits_len]; omega))
    go_wp2_with fail
    with_reducible refine HC.out.mono ?_
    rintro e w5 ⟨rfl, hS, hK⟩
    have H5 := hidJ (And.intro hS (heapT H4.out.2 hK))
    clear hS hK H4 HC
    have d0 := H5.out.1.cells.1
    have z0 := H5.out.1.frz 0
    obtain ⟨y0, -⟩ := boxT H5.out.2 (KeepT.refl tS w5)
    have HF : Hid (SdP w0 (w5.setCell ⟨gp, 0, none⟩ (.int .i64 t)) gs gp (bs ++ smpB st t f) (nextP st t f)) := by
      rw [HSm.out.1, ← List.append_assoc]
      refine SdP.last (fun h => ?_) (T := st.t) (D := (G : Int)) ?_
      · exact HG.out.symm
      · rw [HSm.out.2]; exact H5.out.1
    clear H5
    go_wp2_with fail
    go_end0
    exact ⟨rfl, HF.out⟩
  · obtain ⟨x0, -⟩ := boxT HS1.out.2 (KeepT.refl tS w1)
    have HSm := hidJ (smp2 t f (by rw [HN.out]; exact hN2))
    have HD : Hid (D = st.gap) := HS0.out.1 (by rw [HN.out]; exact hN2)
    rw [← HD.out] at HSm
    have hgp := HW.out.1.gap
    have hst := HW.out.1.time
    rw [← HD.out] at hgp
    obtain ⟨G, hG⟩ : ∃ G : Int, t - st.t = G := ⟨_, rfl⟩
    obtain ⟨E, hE⟩ : ∃ E : Int, G - D = E := ⟨_, rfl⟩
    rw [hG, hE] at HSm
    have HG := hidJ (And.intro hG hE)
    have hGb : -1125899906842624 ≤ G ∧ G ≤ 1125899906842624 := by omega
    have hEb : -2251799813685248 ≤ E ∧ E ≤ 2251799813685248 := by omega
    have hN0 : ((N : Int) == 0) = false := by rw [beq_eq_false_iff_ne]; omega
    have hN1 : ((N : Int) == 1) = false := by rw [beq_eq_false_iff_ne]; omega
    have c0 := HS1.out.1.cells.1
    go_upto_region 3 with fail
    go_region
    have H2 : Hid (Sd w0 w1.drew gs gp bs st.t D st.f (winL (st.th, st.ld, st.tl)) (winK (st.th, st.ld, st.tl)) ∧ w1.drew.heap[b0]? = some (.cells #[.int .i64 t, .float .f64 f] 27 (0, 0))) := ⟨HS1.out.1.keep (gb_drew _ _), heapT HS1.out.2 (KeepT.of_none (gb_drew _ _))⟩
    clear HS1 c0 x0
    generalize w1.drew = w2 at *
    have c1 := H2.out.1.cells.2.1
    have HC := hidJ (dTime_any w0 w2 gs gp bs st.t D st.f _ _ E H2.out.1 (by have := HW.out.2.2.2.2.2; omega))
    go_wp2_with fail
    with_reducible refine HC.out.mono ?_
    rintro e w3 ⟨rfl, hS, hK⟩
    have H3 := hidJ (And.intro hS (heapT H2.out.2 hK))
    clear hS hK H2 HC c1
    have c1 := H3.out.1.cells.2.1
    have z1 := H3.out.1.frz 1
    have HU := hidJ (H3.out.1.upd 1 (.int .i64 G) (T' := st.t) (D' := G) (V' := st.f) (L' := winL (st.th, st.ld, st.tl)) (K' := winK (st.th, st.ld, st.tl)) (heap_setCell_same w3 gp 1 _ _ _ H3.out.1.sta))
    have HC := hidJ (dValue_any w0 _ gs gp _ st.t G st f HU.out.1 HW.out.1 HW.out.2.2.2.2.1 (by have := HW.out.2.2.2.2.2; have := turnB_len E; rw [List.length_append]; omega))
    go_wp2_with fail
    with_reducible refine HC.out.mono ?_
    rintro e w5 ⟨rfl, hS, hK⟩
    have H5 := hidJ (And.intro hS (heapT H3.out.2 (HU.out.2.trans hK)))
    clear hS hK H3 HC HU c1 z1
    have d0 := H5.out.1.cells.1
    have z0 := H5.out.1.frz 0
    obtain ⟨y0, -⟩ := boxT H5.out.2 (KeepT.refl tS w5)
    have HF : Hid (SdP w0 (w5.setCell ⟨gp, 0, none⟩ (.int .i64 t)) gs gp (bs ++ smpB st t f) (nextP st t f)) := by
      rw [HSm.out.1, ← List.append_assoc]
      refine SdP.last (fun h => ?_) (T := st.t) (D := G) ?_
      · exact HG.out.1.symm
      · rw [HSm.out.2]; exact H5.out.1
    clear H5
    go_wp2_with fail
    go_end0
    exact ⟨rfl, HF.out⟩
end Go.Proofs.YtkiefmhampfhoaaDoor

/- CkS6 -/
namespace Go.Proofs.YtkiefmhampfhoaaDoor
open Go.RowKit

theorem dNew_any (w : World) : Calls Tryd.prog 36 #[] w fun e w' => e = .returned (.pointer (some ⟨w.heap.size, 0, none⟩)) ∧ w' = w.alloc (.cells #[.int .i64 0, .int .i64 0, .int .u64 0, .int .i64 64, .int .i64 0] 92) := by
  go_enter Tryd.func36, Tryd.ntmps36
  go_wp2
  go_ret
  exact ⟨rfl, rfl⟩

set_option maxRecDepth 8000 in
set_option maxHeartbeats 3200000 in
theorem dBytes_any (w : World) (v : Value) (l : List SmpT) (hr : RdP w v l) (hl : okL startP l) :
    Calls Tryd.prog 17 #[v] w fun e w' => ∃ v', e = .returned v' ∧ Own w' w.heap.size v' (ckB l) ∧ w.grownBy w' none := by
  have HR := hidJ (And.intro hr hl)
  obtain ⟨a, c, rfl, hlc, hcm, -⟩ := hr
  have hcm2 : c ≤ 9223372036854775807 := hcm
  have h120 := okL_most hl
  clear hcm hl
  obtain ⟨N, hN⟩ : ∃ N, l.length = N := ⟨_, rfl⟩
  have HN := hidJ hN
  rw [hN] at hlc h120
  rw [hN]
  clear hN
  go_enter Tryd.func17, Tryd.ntmps17
  go_wp2_with fail
  refine (dNew_any _).mono ?_
  rintro e w1 ⟨rfl, hw1⟩
  have H1 : Hid (SdP w w1 w.heap.size (w.heap.size + 1) [] startP) := by
    rw [hw1]
    have hg := alloc_gb w (.cells #[.slice none 0 0, .int .i64 0] 79)
    have hh := Go.heap_alloc_new w (.cells #[.slice none 0 0, .int .i64 0] 79)
    have hsz : (w.alloc (.cells #[.slice none 0 0, .int .i64 0] 79)).heap.size = w.heap.size + 1 := by simp
    generalize w.alloc (.cells #[.slice none 0 0, .int .i64 0] 79) = W at *
    have hg2 := alloc_gb W (.cells #[.int .i64 0, .int .i64 0, .int .u64 0, .int .i64 64, .int .i64 0] 92)
    have hh2 := Go.heap_alloc_new W (.cells #[.int .i64 0, .int .i64 0, .int .u64 0, .int .i64 64, .int .i64 0] 92)
    rw [hsz] at hh2
    refine ⟨0, fun _ => rfl, gb_none hg hg2, Nat.le_refl _, by omega, ⟨.slice none 0 0, ⟨?_, OwnB.nil _⟩, fun k hk => by simp [Value.ownBlock] at hk⟩, hh2⟩
    rw [hg2.block _ (by omega) (by simp)]
    exact hh
  clear hw1
  go_wp2_with fail
  have hsf := store_float
  go_loopw [13] (fun i wr => ∃ z : Nat, z ≤ N ∧ i = .int .i64 z ∧ Hid (SdP w wr w.heap.size (w.heap.size + 1) (encB startP (l.take z)) (stA startP (l.take z)))) (fun i _ => N - (intOf i).toNat)
  case atStart => exact ⟨0, by omega, rfl, H1.out⟩
  case round =>
    obtain ⟨z, hz, rfl, hr⟩ := hrel
    have hgr : w.grownBy wr none := hr.out.choose_spec.2.old
    by_cases hlt : z < N
    · have hzi : (z : Int) < (N : Int) := by omega
      have hzl : z < l.length := by rw [HN.out]; exact hlt
      obtain ⟨a', c', he, -, -, hc⟩ := HR.out.1.keep hgr
      simp only [Value.slice.injEq] at he
      obtain ⟨rfl, -, rfl⟩ := he
      obtain ⟨b, o, rfl, c0, c1⟩ := hc z hzl
      have hok : okL startP (l.take z) ∧ wrongN (stA startP (l.take z)) (l.getD z smZ).1 = 0 ∧ (l.getD z smZ).2 < 18446744073709551616 := by
        have h1 := HR.out.2
        rw [← List.take_append_drop (z + 1) l, take_snocS hzl, okL_app] at h1
        exact okL_snoc.1 h1.1
      have hnz : (stA startP (l.take z)).n = z := by rw [stA_n, List.length_take]; simp [startP]; omega
      have hbl : (encB startP (l.take z)).length ≤ 19200 := by
        have h1 := encB_len startOk hok.1
        rw [List.length_take] at h1
        omega
      have HA : Hid (∀ W, wr.grownBy W none → Calls Tryd.prog 37 #[.pointer (some ⟨w.heap.size + 1, 0, none⟩), .pointer (some ⟨w.heap.size, 0, none⟩), .int .i64 (z : Int), .agg #[.int .i64 (l.getD z smZ).1, .float .f64 (l.getD z smZ).2]] W fun e w' => e = .returned (.tuple #[]) ∧ Hid (SdP w w' w.heap.size (w.heap.size + 1) (encB startP (l.take (z + 1))) (stA startP (l.take (z + 1))))) := fun W hW => by
        obtain ⟨D, hD, hS⟩ := hr.out
        have h1 := dPut_any w W w.heap.size (w.heap.size + 1) (encB startP (l.take z)) (stA startP (l.take z)) (l.getD z smZ).1 (l.getD z smZ).2 ⟨D, hD, hS.keep hW⟩ (stA_ok startOk hok.1) hok.2.1 hok.2.2 (by omega)
        rw [hnz] at h1
        refine h1.mono ?_
        rintro e w' ⟨rfl, h2⟩
        refine ⟨rfl, ?_⟩
        rw [take_snocS hzl, encB_snoc, stA_snoc]
        exact h2
      clear hc hr hgr hok hnz hbl
      generalize (l.getD z smZ).1 = tz at *
      generalize (l.getD z smZ).2 = fz at *
      have hnew : ¬ b = wr.heap.size := by have := block_lt c0; omega
      have hnew2 : ¬ wr.heap.size = b := by omega
      clear hzl
      go_wp2_with fail
      with_reducible refine (HA.out _ (alloc_gb _ _)).mono ?_
      rintro e w2 ⟨rfl, H2⟩
      clear HA c0 c1
      go_wp2
      go_roundw
      case rel => exact ⟨z + 1, by omega, by go_num, H2⟩
      case measure => simp [intOf]; omega
    · obtain rfl : z = N := by omega
      have hzi : ¬ (z : Int) < (z : Int) := by omega
      have HE : Hid (SdP w wr w.heap.size (w.heap.size + 1) (encB startP l) (stA startP l) ∧ (encB startP l).length ≤ 19200) := by
        have h := hr.out
        rw [List.take_of_length_le (by rw [HN.out]; omega)] at h
        have h1 := encB_len startOk HR.out.2
        rw [HN.out] at h1
        exact ⟨h, by omega⟩
      clear hr
      have hdiv : (z : Int) / 256 = 0 := by omega
      have hz256 : z < 256 := by omega
      go_wp2_with fail
      have hlit : Own (wr.alloc (.cells #[.int .u8 0, .int .u8 (z : Int)] 5)) wr.heap.size (.slice (some ⟨wr.heap.size, 0, none⟩) 2 2) [0, UInt8.ofNat z] := by
        have h := World.ownsRow_lit (size := 1) (e := 5) wr #[.int .u8 0, .int .u8 (z : Int)] 2 (Nat.le_refl _) (by simp [maxLen]) rfl
        have e : (#[Value.int .u8 0, .int .u8 (z : Int)] : Array Value).toList = [0, UInt8.ofNat z].map bv := by
          have : ((UInt8.ofNat z).toNat : Int) = (z : Int) := by rw [UInt8.toNat_ofNat']; omega
          simp only [List.map_cons, List.map_nil, bv, this]
          rfl
        unfold Own
        rw [← e]
        exact h
      obtain ⟨D, -, hS⟩ := HE.out.1
      have HS := hidJ hS
      have HL : Hid (Own (wr.alloc (.cells #[.int .u8 0, .int .u8 (z : Int)] 5)) wr.heap.size (.slice (some ⟨wr.heap.size, 0, none⟩) 2 2) [0, UInt8.ofNat z] ∧ w.grownBy (wr.alloc (.cells #[.int .u8 0, .int .u8 (z : Int)] 5)) none ∧ wr.grownBy (wr.alloc (.cells #[.int .u8 0, .int .u8 (z : Int)] 5)) none) := ⟨hlit, gb_none hS.old (alloc_gb _ _), alloc_gb _ _⟩
      have HWr : Hid (w.heap.size ≤ wr.heap.size) := hS.old.size
      clear hlit hS
      generalize wr.alloc (.cells #[.int .u8 0, .int .u8 (z : Int)] 5) = W at *
      obtain ⟨v0, hv0, -⟩ := (HS.out.keep HL.out.2.2).str
      refine (rbytes_any w.heap.size v0 (encB startP l) 0 W hv0 (by have := HE.out.2; omega)).mono ?_
      rintro e w2 ⟨v2, rfl, ho2, hg2⟩
      have H2 : Hid (Own w2 W.heap.size v2 (pack (encB startP l)) ∧ W.grownBy w2 none) := ⟨ho2, hg2⟩
      clear ho2 hg2 hv0
      have hpl : (pack (encB startP l)).length ≤ 1048576 := by rw [pack_len]; have := HE.out.2; omega
      have HWb : Hid (wr.heap.size ≤ W.heap.size) := HL.out.2.2.size
      generalize wr.heap.size = b0 at *
      go_wp2_with (at_builtin; refine wp_app rfl _ _ rfl b0 _ _ [0, UInt8.ofNat z] (pack (encB startP l)) rfl rfl (HL.out.1.keep H2.out.2) H2.out.1.rd ?c1 ?c2 ?_)
      case c1 => simp; omega
      case c2 => have := HWb.out; have := H2.out.2.size; omega
      intro v3 w3 ho3 hf3
      have H3 : Hid (Own w3 w.heap.size v3 (ckB l) ∧ w.grownBy w3 none) := by
        refine ⟨?_, hf3.new (gb_none HL.out.2.1 H2.out.2) (fun k hk => by simp [Value.ownBlock] at hk; have := HWr.out; omega)⟩
        have : ckB l = [0, UInt8.ofNat z] ++ pack (encB startP l) := by rw [← HN.out]; rfl
        rw [this]
        exact Own.mono ho3 HWr.out
      clear ho3 hf3
      go_wp2
      go_ret
      exact ⟨_, rfl, H3.out⟩

set_option maxHeartbeats 1600000 in
/-- Wrong of a sample behind others -/
theorem dWrong_any (w : World) (v : Value) (l : List SmpT) (t : Int) (hr : RdP w v l) (hl : okL startP l) : Calls Tryd.prog 10 #[v, .int .i64 t] w fun e w' => e = .returned (.int .i64 (wrongN (stA startP l) t)) ∧ w.grownBy w' none := by
  have h120 := okL_most hl
  have hn : (stA startP l).n = l.length := by rw [stA_n]; simp [startP]
  have hlast : 0 < l.length → (stA startP l).t = (l.getD (l.length - 1) smZ).1 := fun h => by
    have e : l = l.take (l.length - 1) ++ [l.getD (l.length - 1) smZ] := by
      have := take_snocS (l := l) (j := l.length - 1) (by omega)
      rw [show l.length - 1 + 1 = l.length by omega, List.take_of_length_le (Nat.le_refl _)] at this
      exact this
    have h2 := stA_snoc startP (l.take (l.length - 1)) (l.getD (l.length - 1) smZ)
    rw [← e] at h2
    rw [h2]
    rfl
  have HE : Hid (wrongN (stA startP l) t = if t < 0 ∨ 1125899906842624 < t then 1 else if 0 < (stA startP l).n ∧ t ≤ (stA startP l).t then 90 else if (stA startP l).n = 120 then 8 else 0) := rfl
  obtain ⟨a, c, rfl, hlc, hcm, hc⟩ := hr
  have hcm2 : c ≤ 9223372036854775807 := hcm
  rw [hn] at HE
  generalize (stA startP l).t = t0 at *
  generalize wrongN (stA startP l) t = W at *
  obtain ⟨N, hN⟩ : ∃ N, l.length = N := ⟨_, rfl⟩
  rw [hN] at HE hlast hlc h120 hc
  rw [hN]
  clear hn hcm hl hN
  by_cases h1 : t < 0
  · have HW : Hid (W = 1) := by show W = 1; rw [HE.out, if_pos (.inl h1)]
    go_enter Tryd.func10, Tryd.ntmps10
    go_wp2
    go_ret
    exact ⟨ret_int HW.out.symm, gb_refl _ _⟩
  · by_cases h2 : (1125899906842624 : Int) < t
    · have HW : Hid (W = 1) := by show W = 1; rw [HE.out, if_pos (.inr h2)]
      go_enter Tryd.func10, Tryd.ntmps10
      go_wp2
      go_ret
      exact ⟨ret_int HW.out.symm, gb_refl _ _⟩
    · rw [if_neg (by omega)] at HE
      by_cases h3 : 0 < N
      · have h3i : (0 : Int) < (N : Int) := by omega
        obtain ⟨b, o, rfl, c0, -⟩ := hc (N - 1) (by omega)
        rw [← hlast h3] at c0
        obtain ⟨M, hM⟩ : ∃ M, N = M + 1 := ⟨N - 1, by omega⟩
        subst hM
        rw [show M + 1 - 1 = M by omega] at c0
        clear hc hlast
        by_cases h4 : t ≤ t0
        · have HW : Hid (W = 90) := by show W = 90; rw [HE.out, if_pos ⟨h3, h4⟩]
          go_enter Tryd.func10, Tryd.ntmps10
          go_wp2
          go_ret
          exact ⟨ret_int HW.out.symm, gb_refl _ _⟩
        · have h4i : ¬ t ≤ t0 := h4
          rw [if_neg (fun h => h4 h.2)] at HE
          by_cases h5 : M + 1 = 120
          · have HW : Hid (W = 8) := by show W = 8; rw [HE.out, if_pos h5]
            obtain rfl : M = 119 := by omega
            clear h5
            go_enter Tryd.func10, Tryd.ntmps10
            go_wp2
            go_ret
            exact ⟨ret_int HW.out.symm, gb_refl _ _⟩
          · have HW : Hid (W = 0) := by show W = 0; rw [HE.out, if_neg h5]
            have h5i : ¬ (120 : Int) ≤ (M : Int) + 1 := by omega
            go_enter Tryd.func10, Tryd.ntmps10
            go_wp2
            go_ret
            exact ⟨ret_int HW.out.symm, gb_refl _ _⟩
      · obtain rfl : N = 0 := by omega
        have HW : Hid (W = 0) := by show W = 0; rw [HE.out, if_neg (by omega), if_neg (by omega)]
        clear hc hlast
        go_enter Tryd.func10, Tryd.ntmps10
        go_wp2
        go_ret
        exact ⟨ret_int HW.out.symm, gb_refl _ _⟩
end Go.Proofs.YtkiefmhampfhoaaDoor
