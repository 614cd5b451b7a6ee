/-
  A chunk's stream: what window.holds, size, (*Chunk).putTurned and putValue come to, whatever the value: the walks.
-/
import Derived.Test.YtkiefmhampfhoaaDoorCkF
import Derived.Test.YtkiefmhampfhoaaDoorShelfB
namespace Go.Proofs.YtkiefmhampfhoaaDoor
open Go.RowKit
variable {R : Rst}

theorem wsize_any (th : Bool) (ld tl : Nat) (h : ld + tl ≤ 64) (w : World) :
    Calls Tryd.prog 97 #[.agg #[.bool th, .int .i64 (ld : Int), .int .i64 (tl : Int)]] w fun e w' => e = .returned (.int .i64 ((64 - ld - tl : Nat) : Int)) ∧ w.grownBy w' none := by
  have HE : Hid ((64 : Int) - (ld : Int) - (tl : Int) = ((64 - ld - tl : Nat) : Int)) := by show (64 : Int) - (ld : Int) - (tl : Int) = ((64 - ld - tl : Nat) : Int); omega
  have HG : Hid (w.grownBy (w.alloc (.cells #[.bool th, .int .i64 (ld : Int), .int .i64 (tl : Int)] 64)) none) := alloc_gb _ _
  have h1 : ld ≤ 64 := by omega
  have h2 : tl ≤ 64 := by omega
  clear h
  go_enter Tryd.func97, Tryd.ntmps97
  go_wp2
  go_ret
  exact ⟨ret_int HE.out, HG.out⟩

theorem holds_any (th : Bool) (ld tl l t : Nat) (w : World) :
    Calls Tryd.prog 96 #[.agg #[.bool th, .int .i64 (ld : Int), .int .i64 (tl : Int)], .agg #[.bool true, .int .i64 (l : Int), .int .i64 (t : Int)]] w fun e w' => e = .returned (.bool (th && decide (ld ≤ l) && decide (tl ≤ t))) ∧ w.grownBy w' none := by
  have HG : Hid (w.grownBy ((w.alloc (.cells #[.bool th, .int .i64 (ld : Int), .int .i64 (tl : Int)] 64)).alloc (.cells #[.bool true, .int .i64 (l : Int), .int .i64 (t : Int)] 64)) none) := gb_none (alloc_gb _ _) (alloc_gb _ _)
  cases th with
  | false =>
    go_enter Tryd.func96, Tryd.ntmps96
    go_wp2
    go_ret
    exact ⟨rfl, HG.out⟩
  | true =>
    by_cases h1 : ld ≤ l
    · have h1i : (ld : Int) ≤ (l : Int) := by omega
      by_cases h2 : tl ≤ t
      · have h2i : (tl : Int) ≤ (t : Int) := by omega
        have HE : Hid ((true && decide (ld ≤ l) && decide (tl ≤ t)) = true) := by show (true && decide (ld ≤ l) && decide (tl ≤ t)) = true; simp [h1, h2]
        generalize (true && decide (ld ≤ l) && decide (tl ≤ t)) = b at *
        go_enter Tryd.func96, Tryd.ntmps96
        go_wp2
        go_ret
        exact ⟨ret_bool HE.out.symm, HG.out⟩
      · have h2i : ¬ (tl : Int) ≤ (t : Int) := by omega
        have HE : Hid ((true && decide (ld ≤ l) && decide (tl ≤ t)) = false) := by show (true && decide (ld ≤ l) && decide (tl ≤ t)) = false; simp [h1, h2]
        generalize (true && decide (ld ≤ l) && decide (tl ≤ t)) = b at *
        go_enter Tryd.func96, Tryd.ntmps96
        go_wp2
        go_ret
        exact ⟨ret_bool HE.out.symm, HG.out⟩
    · have h1i : ¬ (ld : Int) ≤ (l : Int) := by omega
      have HE : Hid ((true && decide (ld ≤ l) && decide (tl ≤ t)) = false) := by show (true && decide (ld ≤ l) && decide (tl ≤ t)) = false; simp [h1]
      generalize (true && decide (ld ≤ l) && decide (tl ≤ t)) = b at *
      go_enter Tryd.func96, Tryd.ntmps96
      go_wp2
      go_ret
      exact ⟨ret_bool HE.out.symm, HG.out⟩

theorem shr_nat (x k : Nat) : (x : Int) / 2 ^ k = ((x / 2 ^ k : Nat) : Int) := by
  rw [Int.natCast_ediv, Int.natCast_pow]
  rfl
theorem wrapu_nat {n : Nat} (h : n < 18446744073709551616) : IntKind.u64.wrap (n : Int) = (n : Int) := by
  rw [IntKind.wrap_u64]
  omega
/-- the table of trailing zeros -/
def TabZ (w : World) : Prop := TabAt 2 Lib.deBruijn64tab w
theorem TabZ.keep {w w' : World} (h : TabZ w) (hg : w.grownBy w' none) : TabZ w' := fun j hj => by
  rw [← h j hj]
  exact World.cell?_of_block (hg.block _ (block_lt (h j hj)) (by simp))
theorem TabZ.fw {w w' : World} {g : Nat} {v v' : Value} (h : TabZ w) (hf : Fw w w' g v v') (h1 : g ≠ 2) (h2 : v.ownBlock ≠ some 2) : TabZ w' := fun j hj => by
  rw [← h j hj]
  exact World.cell?_of_block (hf.block _ (block_lt (h j hj)) h1.symm h2.symm)
theorem lz_any (x : Nat) (hx : x < 18446744073709551616) (w : World) : Calls Tryd.prog 94 #[.int .u64 (x : Int)] w fun e w' => e = .returned (.int .i64 ((64 - Lib.bitLen x : Nat) : Int)) ∧ w' = w := by
  refine (Any.bits_LeadingZeros64 Tryd.lays134 (x : Int) w (by omega) (by omega)).mono ?_
  rintro e w' ⟨rfl, rfl⟩
  have := Lib.bitLen_le x 64 (by omega) hx
  refine ⟨ret_int ?_, rfl⟩
  rw [Int.toNat_natCast]
  omega
theorem tz_any (x : Nat) (hx : x < 18446744073709551616) (w : World) (hT : TabZ w) : Calls Tryd.prog 95 #[.int .u64 (x : Int)] w fun e w' => e = .returned (.int .i64 (tailN x : Int)) ∧ w' = w :=
  Any7.bits_TrailingZeros64 Tryd.lays29 x hx w (fun _ => hT)

set_option maxRecDepth 8000 in
set_option maxHeartbeats 3200000 in
theorem putTurned_any (g : Nat) (v : Value) (bs : List Bool) (st : Pst) (x : Nat) (w : World) (hw : Wr (past st.n st.t st.f st.gap st.th (st.ld : Int) (st.tl : Int)) w g v bs) (h0 : x ≠ 0) (hx : x < 18446744073709551616) (hT : TabZ w) (_hg : g ≠ 2) (_hv : v.ownBlock ≠ some 2) (hwin : st.ld + st.tl < 64) (hsz : bs.length + 200 ≤ 8388608) :
    Calls Tryd.prog 79 #[.pointer (some ⟨g, 0, none⟩), .int .u64 (x : Int)] w fun e w' => e = .returned (.tuple #[]) ∧ ∃ v', Wr (past st.n st.t st.f st.gap (if fitsW st x = true then st.th else true) ((if fitsW st x = true then st.ld else leadN x : Nat) : Int) ((if fitsW st x = true then st.tl else tailN x : Nat) : Int)) w' g v' (bs ++ turnedB st x) ∧ Fw w w' g v v' := by
  have HW : Hid (Wr (past st.n st.t st.f st.gap st.th (st.ld : Int) (st.tl : Int)) w g v bs) := hw
  have HLz : Hid (∀ W, Calls Tryd.prog 94 #[.int .u64 (x : Int)] W fun e w' => e = .returned (.int .i64 ((64 - Lib.bitLen x : Nat) : Int)) ∧ w' = W) := fun W => lz_any x hx W
  have HTz : Hid (Calls Tryd.prog 95 #[.int .u64 (x : Int)] w fun e w' => e = .returned (.int .i64 (tailN x : Int)) ∧ w' = w) := tz_any x hx w hT
  obtain ⟨-, -, -, -, c6, c7, c8, fz⟩ := hw.cell
  simp only [past] at c6 c7 c8
  have hlt : g < w.heap.size := hw.cells.2.2.2.2
  have hl64 : 64 - Lib.bitLen x ≤ 64 := by omega
  have hmin : min ((64 - Lib.bitLen x : Nat) : Int) 31 = (leadN x : Int) := by unfold leadN; omega
  have hls := lead_spec h0 hx
  have htl := tail_spec h0 hx
  have HL : Hid (leadN x ≤ 31 ∧ leadN x + tailN x < 64 ∧ x < 2 ^ (64 - leadN x) ∧ fitsW st x = (st.th && decide (st.ld ≤ leadN x) && decide (st.tl ≤ tailN x)) ∧ turnedB st x = (if fitsW st x = true then false :: bitsOf (x / 2 ^ st.tl) (64 - st.ld - st.tl) else true :: (bitsOf (leadN x) 5 ++ (bitsOf ((64 - leadN x - tailN x) % 64) 6 ++ bitsOf (x / 2 ^ tailN x) (64 - leadN x - tailN x))))) :=
    ⟨hls.2.1, by omega, hls.1, rfl, rfl⟩
  have hl31 := hls.2.1
  have hlt64 : leadN x + tailN x < 64 := by omega
  have hbn : ¬ g = w.heap.size := by omega
  have HVB : Hid (v.ownBlock ≠ some w.heap.size) := fun e => by have := HW.out.2.lt _ e; omega
  clear hw hT _hg _hv hls htl fz
  generalize turnedB st x = TB at *
  generalize fitsW st x = FB at *
  generalize 64 - Lib.bitLen x = lz at *
  generalize leadN x = l at *
  generalize tailN x = tt at *
  go_enter Tryd.func79, Tryd.ntmps79
  go_wp2_with fail
  refine (HLz.out _).mono ?_
  rintro e w1 ⟨rfl, hw1⟩
  have hw1 := hw1.symm
  subst hw1
  go_wp2_with fail
  refine HTz.out.mono ?_
  rintro e w1 ⟨rfl, hw1⟩
  have hw1 := hw1.symm
  subst hw1
  go_wp2_with fail
  clear HLz HTz hmin hl64
  have HA : Hid (w.grownBy (w.alloc (.cells #[.bool true, .int .i64 (l : Int), .int .i64 (tt : Int)] 64)) none ∧ (w.alloc (.cells #[.bool true, .int .i64 (l : Int), .int .i64 (tt : Int)] 64)).heap[w.heap.size]? = some (.cells #[.bool true, .int .i64 (l : Int), .int .i64 (tt : Int)] 64 (0, 0))) := ⟨alloc_gb _ _, Go.heap_alloc_new w _⟩
  generalize w.alloc (.cells #[.bool true, .int .i64 (l : Int), .int .i64 (tt : Int)] 64) = W0 at *
  generalize w.heap.size = b0 at *
  have HB0 : Hid (b0 < W0.heap.size ∧ b0 ≠ g ∧ v.ownBlock ≠ some b0) := ⟨(Array.getElem?_eq_some_iff.1 HA.out.2).1, fun e => hbn e.symm, HVB.out⟩
  have HW0 : Hid (Wr (past st.n st.t st.f st.gap st.th (st.ld : Int) (st.tl : Int)) W0 g v bs) := HW.out.keep HA.out.1
  have HS : Hid (∀ W' v', Fw W0 W' g v v' → W'.cell? ⟨b0, 0, none⟩ = some (.bool true) ∧ W'.cell? ⟨b0, 1, none⟩ = some (.int .i64 (l : Int)) ∧ W'.cell? ⟨b0, 2, none⟩ = some (.int .i64 (tt : Int))) := fun W' v' hF => by
    have hb : W'.heap[b0]? = _ := (hF.block _ HB0.out.1 HB0.out.2.1 HB0.out.2.2.symm).trans HA.out.2
    exact ⟨by simp [World.cell?, hb], by simp [World.cell?, hb], by simp [World.cell?, hb]⟩
  have HC : Hid (∀ W', W0.grownBy W' none → W'.cell? ⟨g, 6, none⟩ = some (.bool st.th) ∧ W'.cell? ⟨g, 7, none⟩ = some (.int .i64 (st.ld : Int)) ∧ W'.cell? ⟨g, 8, none⟩ = some (.int .i64 (st.tl : Int)) ∧ W'.cell? ⟨b0, 0, none⟩ = some (.bool true) ∧ W'.cell? ⟨b0, 1, none⟩ = some (.int .i64 (l : Int)) ∧ W'.cell? ⟨b0, 2, none⟩ = some (.int .i64 (tt : Int))) := fun W' hW => by
    have hc := (HW0.out.keep hW).cell
    have hs := HS.out W' v (Fw.of_none hW g v)
    exact ⟨hc.2.2.2.2.1, hc.2.2.2.2.2.1, hc.2.2.2.2.2.2.1, hs⟩
  have HHo : Hid (∀ W, W0.grownBy W none → Calls Tryd.prog 96 #[.agg #[.bool st.th, .int .i64 (st.ld : Int), .int .i64 (st.tl : Int)], .agg #[.bool true, .int .i64 (l : Int), .int .i64 (tt : Int)]] W fun e w' => e = .returned (.bool FB) ∧ (w'.cell? ⟨g, 6, none⟩ = some (.bool st.th) ∧ w'.cell? ⟨g, 7, none⟩ = some (.int .i64 (st.ld : Int)) ∧ w'.cell? ⟨g, 8, none⟩ = some (.int .i64 (st.tl : Int)) ∧ w'.cell? ⟨b0, 0, none⟩ = some (.bool true) ∧ w'.cell? ⟨b0, 1, none⟩ = some (.int .i64 (l : Int)) ∧ w'.cell? ⟨b0, 2, none⟩ = some (.int .i64 (tt : Int))) ∧ Hid (W0.grownBy w' none)) := fun W hW =>
    (holds_any st.th st.ld st.tl l tt W).mono fun e w' ⟨q1, q2⟩ => ⟨by rw [q1, HL.out.2.2.2.1], HC.out w' (gb_none hW q2), gb_none hW q2⟩
  obtain ⟨k6, k7, k8, j0, j1, j2⟩ := HC.out W0 (gb_refl _ _)
  clear c6 c7 c8 hlt hbn HVB
  go_region_held3 (fun w' => w'.cell? ⟨g, 6, none⟩ = some (.bool st.th) ∧ w'.cell? ⟨g, 7, none⟩ = some (.int .i64 (st.ld : Int)) ∧ w'.cell? ⟨g, 8, none⟩ = some (.int .i64 (st.tl : Int)) ∧ w'.cell? ⟨b0, 0, none⟩ = some (.bool true) ∧ w'.cell? ⟨b0, 1, none⟩ = some (.int .i64 (l : Int)) ∧ w'.cell? ⟨b0, 2, none⟩ = some (.int .i64 (tt : Int))) (go_keep)
    (first | (go_at_call 96; refine (HHo.out _ ?_).mono ?_; (first | exact gb_refl _ _ | exact gb_drew _ _); rintro e w2 ⟨rfl, ⟨m6, m7, m8, n0, n1, n2⟩, HG2⟩))
  clear k6 k7 k8 j0 j1 j2 HHo m6 m7 m8 n0 n1 n2
  have HWz : Hid (∀ a b, a + b ≤ 64 → ∀ th W, Calls Tryd.prog 97 #[.agg #[.bool th, .int .i64 ((a : Nat) : Int), .int .i64 ((b : Nat) : Int)]] W fun e w' => e = .returned (.int .i64 ((64 - a - b : Nat) : Int)) ∧ W.grownBy w' none) := fun a b h th W => wsize_any th a b h W
  cases FB with
  | true =>
    have HTB : Hid (bs ++ [false] ++ bitsOf (x / 2 ^ st.tl) (64 - st.ld - st.tl) = bs ++ TB ∧ x / 2 ^ st.tl < 2 ^ (64 - st.ld - st.tl)) := by
      refine ⟨by rw [HL.out.2.2.2.2, if_pos rfl, List.append_assoc]; rfl, ?_⟩
      have hf := HL.out.2.2.2.1
      have hld : st.ld ≤ l := by
        have := hf.symm
        simp only [Bool.and_eq_true, decide_eq_true_eq] at this
        exact this.1.2
      exact div_lt_pow (Nat.lt_of_lt_of_le HL.out.2.2.1 (Nat.pow_le_pow_right (by decide) (by omega))) (by omega)
    have HBi : Hid (Calls Tryd.prog 78 #[.pointer (some ⟨g, 0, none⟩), .bool false] w2 fun e w' => e = .returned (.int .i64 0) ∧ ∃ v', Wr (past st.n st.t st.f st.gap st.th (st.ld : Int) (st.tl : Int)) w' g v' (bs ++ [false]) ∧ Fw W0 w' g v v') := by
      refine (wbit_ok g v bs false _ (HW0.out.keep HG2.out) (by omega)).mono ?_
      rintro e w3 ⟨rfl, v3, h3, h4⟩
      exact ⟨rfl, v3, h3, Fw.pre HG2.out h4⟩
    go_wp2_with fail
    refine HBi.out.mono ?_
    rintro e w3 ⟨rfl, v3, h3, h4⟩
    have H3 : Hid (Wr (past st.n st.t st.f st.gap st.th (st.ld : Int) (st.tl : Int)) w3 g v3 (bs ++ [false]) ∧ Fw W0 w3 g v v3) := ⟨h3, h4⟩
    obtain ⟨-, -, -, -, c6, c7, c8, -⟩ := h3.cell
    simp only [past] at c6 c7 c8
    clear h3 h4 HBi HL
    have HB2 : Hid (∀ X N W, X = ((x / 2 ^ st.tl : Nat) : Int) → N = ((64 - st.ld - st.tl : Nat) : Int) → w3.grownBy W none → Calls Tryd.prog 52 #[.pointer (some ⟨g, 0, none⟩), .int .u64 X, .int .i64 N] W fun e w' => e = .returned (.int .i64 0) ∧ (w'.cell? ⟨g, 6, none⟩ = some (.bool st.th) ∧ w'.cell? ⟨g, 7, none⟩ = some (.int .i64 (st.ld : Int)) ∧ w'.cell? ⟨g, 8, none⟩ = some (.int .i64 (st.tl : Int))) ∧ Hid (∃ v', Wr (past st.n st.t st.f st.gap st.th (st.ld : Int) (st.tl : Int)) w' g v' (bs ++ TB) ∧ Fw w w' g v v')) := fun X N W hX hN hW => by
      have hq : x / 2 ^ st.tl ≤ x := Nat.div_le_self _ _
      have e64 : (BitVec.ofNat 64 (x / 2 ^ st.tl)).toNat = x / 2 ^ st.tl := by rw [BitVec.toNat_ofNat]; exact Nat.mod_eq_of_lt (by omega)
      refine (wbits_eq g v3 _ (BitVec.ofNat 64 (x / 2 ^ st.tl)) (64 - st.ld - st.tl) X N (by rw [hX, I64_of (by omega)]) hN W (H3.out.1.keep hW) (by omega) (by rw [e64]; exact HTB.out.2) (by rw [List.length_append]; simp; omega)).mono ?_
      rintro e w4 ⟨rfl, v4, q1, q2⟩
      rw [e64, HTB.out.1] at q1
      have hc := q1.cell
      exact ⟨rfl, ⟨hc.2.2.2.2.1, hc.2.2.2.2.2.1, hc.2.2.2.2.2.2.1⟩, v4, q1, Fw.pre HA.out.1 ((H3.out.2.trans (Fw.of_none hW g v3)).trans q2)⟩
    have HSz : Hid (∀ W, w3.grownBy W none → Calls Tryd.prog 97 #[.agg #[.bool st.th, .int .i64 (st.ld : Int), .int .i64 (st.tl : Int)]] W fun e w' => e = .returned (.int .i64 ((64 - st.ld - st.tl : Nat) : Int)) ∧ (w'.cell? ⟨g, 6, none⟩ = some (.bool st.th) ∧ w'.cell? ⟨g, 7, none⟩ = some (.int .i64 (st.ld : Int)) ∧ w'.cell? ⟨g, 8, none⟩ = some (.int .i64 (st.tl : Int))) ∧ Hid (w3.grownBy w' none)) := fun W hW =>
      (HWz.out st.ld st.tl (by omega) st.th W).mono fun e w' ⟨q1, q2⟩ => by
        have hc := (H3.out.1.keep (gb_none hW q2)).cell
        exact ⟨q1, ⟨hc.2.2.2.2.1, hc.2.2.2.2.2.1, hc.2.2.2.2.2.2.1⟩, gb_none hW q2⟩
    go_wp2_with fail
    generalize 64 - st.ld - st.tl = sz at *
    go_region_held3 (fun w' => w'.cell? ⟨g, 6, none⟩ = some (.bool st.th) ∧ w'.cell? ⟨g, 7, none⟩ = some (.int .i64 (st.ld : Int)) ∧ w'.cell? ⟨g, 8, none⟩ = some (.int .i64 (st.tl : Int))) (go_keep)
      (first
        | (go_at_call 97; refine (HSz.out _ ?_).mono ?_; (first | exact gb_refl _ _ | exact gb_drew _ _); rintro e w5 ⟨rfl, ⟨m6, m7, m8⟩, HG5⟩)
        | (go_at_call 52; refine (HB2.out _ _ _ (shr_nat _ _) rfl HG5.out).mono ?_; rintro e w4 ⟨rfl, ⟨i6, i7, i8⟩, H4⟩))
    clear HB2 HSz
    go_wp2
    go_end0
    exact ⟨rfl, H4.out⟩
  | false =>
    have HTB : Hid (bs ++ [true] ++ bitsOf l 5 ++ bitsOf ((64 - l - tt) % 64) 6 ++ bitsOf (x / 2 ^ tt) (64 - l - tt) = bs ++ TB ∧ x / 2 ^ tt < 2 ^ (64 - l - tt)) := by
      refine ⟨by rw [HL.out.2.2.2.2, if_neg (by simp)]; simp, ?_⟩
      exact div_lt_pow HL.out.2.2.1 (by omega)
    have HBi : Hid (Calls Tryd.prog 78 #[.pointer (some ⟨g, 0, none⟩), .bool true] w2 fun e w' => e = .returned (.int .i64 0) ∧ ∃ v', Wr (past st.n st.t st.f st.gap st.th (st.ld : Int) (st.tl : Int)) w' g v' (bs ++ [true]) ∧ Fw W0 w' g v v') := by
      refine (wbit_ok g v bs true _ (HW0.out.keep HG2.out) (by omega)).mono ?_
      rintro e w3 ⟨rfl, v3, h3, h4⟩
      exact ⟨rfl, v3, h3, Fw.pre HG2.out h4⟩
    go_wp2_with fail
    refine HBi.out.mono ?_
    rintro e w3 ⟨rfl, v3, h3, h4⟩
    have H3 : Hid (Wr (past st.n st.t st.f st.gap st.th (st.ld : Int) (st.tl : Int)) w3 g v3 (bs ++ [true]) ∧ Fw W0 w3 g v v3) := ⟨h3, h4⟩
    obtain ⟨j0, j1, j2⟩ := HS.out _ _ h4
    clear h3 h4 HBi HL
    have HB4 : Hid (∀ X W, X = (l : Int) → w3.grownBy W none → Calls Tryd.prog 52 #[.pointer (some ⟨g, 0, none⟩), .int .u64 X, .int .i64 5] W fun e w' => e = .returned (.int .i64 0) ∧ (w'.cell? ⟨b0, 0, none⟩ = some (.bool true) ∧ w'.cell? ⟨b0, 1, none⟩ = some (.int .i64 (l : Int)) ∧ w'.cell? ⟨b0, 2, none⟩ = some (.int .i64 (tt : Int))) ∧ Hid (∃ v', Wr (past st.n st.t st.f st.gap st.th (st.ld : Int) (st.tl : Int)) w' g v' (bs ++ [true] ++ bitsOf l 5) ∧ Fw W0 w' g v v')) := fun X W hX hW => by
      have e64 : (BitVec.ofNat 64 l).toNat = l := by rw [BitVec.toNat_ofNat]; exact Nat.mod_eq_of_lt (by omega)
      refine (wbits_eq g v3 _ (BitVec.ofNat 64 l) 5 X _ (by rw [hX, I64_of (by omega)]) rfl W (H3.out.1.keep hW) (by omega) (by rw [e64]; omega) (by rw [List.length_append]; simp; omega)).mono ?_
      rintro e w4 ⟨rfl, v4, q1, q2⟩
      rw [e64] at q1
      have hF := (H3.out.2.trans (Fw.of_none hW g v3)).trans q2
      exact ⟨rfl, HS.out _ _ hF, v4, q1, hF⟩
    have hlw : IntKind.u64.wrap (l : Int) = (l : Int) := wrapu_nat (by omega)
    go_wp2_with fail
    go_region_held3 (fun w' => w'.cell? ⟨b0, 0, none⟩ = some (.bool true) ∧ w'.cell? ⟨b0, 1, none⟩ = some (.int .i64 (l : Int)) ∧ w'.cell? ⟨b0, 2, none⟩ = some (.int .i64 (tt : Int))) (go_keep)
      (first | (go_at_call 52; refine (HB4.out _ _ (by first | rfl | exact wrapu_nat (by omega)) ?_).mono ?_; (first | exact gb_refl _ _ | exact gb_drew _ _); rintro e w4 ⟨rfl, ⟨m0, m1, m2⟩, H4⟩))
    clear HB4 H3 j0 j1 j2
    have HSz : Hid (∀ W, w4.grownBy W none → Calls Tryd.prog 97 #[.agg #[.bool true, .int .i64 (l : Int), .int .i64 (tt : Int)]] W fun e w' => e = .returned (.int .i64 ((64 - l - tt : Nat) : Int)) ∧ (w'.cell? ⟨b0, 0, none⟩ = some (.bool true) ∧ w'.cell? ⟨b0, 1, none⟩ = some (.int .i64 (l : Int)) ∧ w'.cell? ⟨b0, 2, none⟩ = some (.int .i64 (tt : Int))) ∧ Hid (w4.grownBy w' none)) := fun W hW =>
      (HWz.out l tt (by omega) true W).mono fun e w' ⟨q1, q2⟩ => by
        obtain ⟨v4, -, hF⟩ := H4.out
        exact ⟨q1, HS.out _ _ (hF.trans (Fw.of_none (gb_none hW q2) g v4)), gb_none hW q2⟩
    have HLo : Hid (∀ X W1, X = ((64 - l - tt : Nat) : Int) → Calls Tryd.prog 81 #[.int .u64 X, .int .i64 6] W1 fun e w' => e = .returned (.int .u64 (((64 - l - tt) % 64 : Nat) : Int)) ∧ w' = W1) := fun X W1 hX => by
      have := lowest_any (BitVec.ofNat 64 (64 - l - tt)) 6 (by simp) W1
      have e64 : (BitVec.ofNat 64 (64 - l - tt)).toNat = 64 - l - tt := by rw [BitVec.toNat_ofNat]; exact Nat.mod_eq_of_lt (by omega)
      rw [e64, I64_of (by omega), ← hX] at this
      exact this
    have HB5 : Hid (∀ X W, X = (((64 - l - tt) % 64 : Nat) : Int) → w4.grownBy W none → Calls Tryd.prog 52 #[.pointer (some ⟨g, 0, none⟩), .int .u64 X, .int .i64 6] W fun e w' => e = .returned (.int .i64 0) ∧ (w'.cell? ⟨b0, 0, none⟩ = some (.bool true) ∧ w'.cell? ⟨b0, 1, none⟩ = some (.int .i64 (l : Int)) ∧ w'.cell? ⟨b0, 2, none⟩ = some (.int .i64 (tt : Int))) ∧ Hid (∃ v', Wr (past st.n st.t st.f st.gap st.th (st.ld : Int) (st.tl : Int)) w' g v' (bs ++ [true] ++ bitsOf l 5 ++ bitsOf ((64 - l - tt) % 64) 6) ∧ Fw W0 w' g v v')) := fun X W hX hW => by
      obtain ⟨v4, h1, h2⟩ := H4.out
      have e64 : (BitVec.ofNat 64 ((64 - l - tt) % 64)).toNat = (64 - l - tt) % 64 := by rw [BitVec.toNat_ofNat]; exact Nat.mod_eq_of_lt (by omega)
      refine (wbits_eq g v4 _ (BitVec.ofNat 64 ((64 - l - tt) % 64)) 6 X _ (by rw [hX, I64_of (by omega)]) rfl W (h1.keep hW) (by omega) (by rw [e64]; omega) (by simp only [List.length_append, bitsOf_len]; simp; omega)).mono ?_
      rintro e w5 ⟨rfl, v5, q1, q2⟩
      rw [e64] at q1
      have hF := (h2.trans (Fw.of_none hW g v4)).trans q2
      exact ⟨rfl, HS.out _ _ hF, v5, q1, hF⟩
    have hszb : 64 - l - tt ≤ 64 := by omega
    go_wp2_with fail
    generalize hSZ : 64 - l - tt = sz at *
    have HSZ : Hid (64 - l - tt = sz) := hSZ
    generalize hS6 : sz % 64 = sz6 at *
    clear hSZ hS6
    go_region_held3 (fun w' => w'.cell? ⟨b0, 0, none⟩ = some (.bool true) ∧ w'.cell? ⟨b0, 1, none⟩ = some (.int .i64 (l : Int)) ∧ w'.cell? ⟨b0, 2, none⟩ = some (.int .i64 (tt : Int))) (go_keep)
      (first
        | (go_at_call 97; refine (HSz.out _ ?_).mono ?_; (first | exact gb_refl _ _ | exact gb_drew _ _); rintro e w5 ⟨rfl, ⟨m0, m1, m2⟩, HG5⟩)
        | (go_at_call 81; refine (HLo.out _ _ (by first | rfl | exact wrapu_nat (by omega))).mono ?_; rintro e w7 ⟨rfl, hw7⟩; have hw7 := hw7.symm; subst hw7)
        | (go_at_call 52; refine (HB5.out _ _ rfl HG5.out).mono ?_; rintro e w6 ⟨rfl, ⟨i0, i1, i2⟩, H6⟩))
    clear HSz HLo HB5 m0 m1 m2 H4
    obtain ⟨v6, h1, h2⟩ := H6.out
    obtain ⟨-, -, -, -, c6, c7, c8, fz⟩ := h1.cell
    simp only [past] at c6 c7 c8
    have f6 := fz 6
    have f7 := fz 7
    have f8 := fz 8
    have HW6 : Hid (Wr (past st.n st.t st.f st.gap st.th (st.ld : Int) (st.tl : Int)) w6 g v6 (bs ++ [true] ++ bitsOf l 5 ++ bitsOf sz6 6) ∧ Fw W0 w6 g v v6) := ⟨h1, h2⟩
    clear h1 h2 fz H6
    go_wp2_with fail
    have HW7 : Hid (Wr (past st.n st.t st.f st.gap true (l : Int) (tt : Int)) (((w6.setCell ⟨g, 6, none⟩ (.bool true)).setCell ⟨g, 7, none⟩ (.int .i64 (l : Int))).setCell ⟨g, 8, none⟩ (.int .i64 (tt : Int))) g v6 (bs ++ [true] ++ bitsOf l 5 ++ bitsOf sz6 6) ∧ Fw W0 (((w6.setCell ⟨g, 6, none⟩ (.bool true)).setCell ⟨g, 7, none⟩ (.int .i64 (l : Int))).setCell ⟨g, 8, none⟩ (.int .i64 (tt : Int))) g v v6) := by
      have h1 := heap_setCell_same w6 g 6 _ _ (.bool true) HW6.out.1.1
      have h2 := heap_setCell_same _ g 7 _ _ (.int .i64 (l : Int)) h1
      have h3 := heap_setCell_same _ g 8 _ _ (.int .i64 (tt : Int)) h2
      have hs : ∀ (A B : World) (j : Nat) (x : Value), A.grownBy B (some g) → A.grownBy (B.setCell ⟨g, j, none⟩ x) (some g) := fun A B j x h => gb_trans h (gb_set B g j x) (fun _ h _ => h.symm)
      have hG : w6.grownBy (((w6.setCell ⟨g, 6, none⟩ (.bool true)).setCell ⟨g, 7, none⟩ (.int .i64 (l : Int))).setCell ⟨g, 8, none⟩ (.int .i64 (tt : Int))) (some g) := hs _ _ _ _ (hs _ _ _ _ (gb_set _ _ _ _))
      exact ⟨HW6.out.1.turned (by rw [h3]; rfl) hG, HW6.out.2.trans (Fw.turned hG)⟩
    generalize ((w6.setCell ⟨g, 6, none⟩ (.bool true)).setCell ⟨g, 7, none⟩ (.int .i64 (l : Int))).setCell ⟨g, 8, none⟩ (.int .i64 (tt : Int)) = W7 at *
    clear c6 c7 c8 f6 f7 f8 HW6 i0 i1 i2
    have HB7 : Hid (∀ X N W, X = ((x / 2 ^ tt : Nat) : Int) → N = (sz : Int) → W7.grownBy W none → Calls Tryd.prog 52 #[.pointer (some ⟨g, 0, none⟩), .int .u64 X, .int .i64 N] W fun e w' => e = .returned (.int .i64 0) ∧ (w'.cell? ⟨g, 6, none⟩ = some (.bool true) ∧ w'.cell? ⟨g, 7, none⟩ = some (.int .i64 (l : Int)) ∧ w'.cell? ⟨g, 8, none⟩ = some (.int .i64 (tt : Int))) ∧ Hid (∃ v', Wr (past st.n st.t st.f st.gap true (l : Int) (tt : Int)) w' g v' (bs ++ TB) ∧ Fw w w' g v v')) := fun X N W hX hN hW => by
      have hq : x / 2 ^ tt ≤ x := Nat.div_le_self _ _
      have e64 : (BitVec.ofNat 64 (x / 2 ^ tt)).toNat = x / 2 ^ tt := by rw [BitVec.toNat_ofNat]; exact Nat.mod_eq_of_lt (by omega)
      refine (wbits_eq g v6 _ (BitVec.ofNat 64 (x / 2 ^ tt)) sz X N (by rw [hX, I64_of (by omega)]) hN W (HW7.out.1.keep hW) hszb (by rw [e64]; exact HTB.out.2) (by simp only [List.length_append, bitsOf_len]; simp; omega)).mono ?_
      rintro e w8 ⟨rfl, v8, q1, q2⟩
      rw [e64, HTB.out.1] at q1
      have hc := q1.cell
      exact ⟨rfl, ⟨hc.2.2.2.2.1, hc.2.2.2.2.2.1, hc.2.2.2.2.2.2.1⟩, v8, q1, Fw.pre HA.out.1 ((HW7.out.2.trans (Fw.of_none hW g v6)).trans q2)⟩
    have HSz : Hid (∀ W, W7.grownBy W none → Calls Tryd.prog 97 #[.agg #[.bool true, .int .i64 (l : Int), .int .i64 (tt : Int)]] W fun e w' => e = .returned (.int .i64 (sz : Int)) ∧ (w'.cell? ⟨g, 6, none⟩ = some (.bool true) ∧ w'.cell? ⟨g, 7, none⟩ = some (.int .i64 (l : Int)) ∧ w'.cell? ⟨g, 8, none⟩ = some (.int .i64 (tt : Int))) ∧ Hid (W7.grownBy w' none)) := fun W hW =>
      (HWz.out l tt (by omega) true W).mono fun e w' ⟨q1, q2⟩ => by
        have hc := (HW7.out.1.keep (gb_none hW q2)).cell
        rw [HSZ.out] at q1
        exact ⟨q1, ⟨hc.2.2.2.2.1, hc.2.2.2.2.2.1, hc.2.2.2.2.2.2.1⟩, gb_none hW q2⟩
    obtain ⟨-, -, -, -, c6, c7, c8, -⟩ := HW7.out.1.cell
    simp only [past] at c6 c7 c8
    go_region_held3 (fun w' => w'.cell? ⟨g, 6, none⟩ = some (.bool true) ∧ w'.cell? ⟨g, 7, none⟩ = some (.int .i64 (l : Int)) ∧ w'.cell? ⟨g, 8, none⟩ = some (.int .i64 (tt : Int))) (go_keep)
      (first
        | (go_at_call 97; refine (HSz.out _ ?_).mono ?_; (first | exact gb_refl _ _ | exact gb_drew _ _); rintro e w9 ⟨rfl, ⟨m6, m7, m8⟩, HG9⟩)
        | (go_at_call 52; refine (HB7.out _ _ _ (shr_nat _ _) rfl HG9.out).mono ?_; rintro e w8 ⟨rfl, ⟨i6, i7, i8⟩, H8⟩))
    clear HB7 HSz
    go_wp2
    go_end0
    exact ⟨rfl, H8.out⟩
end Go.Proofs.YtkiefmhampfhoaaDoor
