/-
  What the document's Write and Form come to: the walks.
-/
import Derived.Test.YtgbpnkamamafjabDoorBitsR2
namespace Go.Proofs.YtgbpnkamamafjabDoor
open Go.RowKit

theorem bit_and (x : BitVec 64) (i : Nat) : bits .and .u64 (I64 x / 2 ^ i) 1 = ((x.toNat / 2 ^ i % 2 : Nat) : Int) := by
  have e : I64 x / 2 ^ i = ((x.toNat / 2 ^ i : Nat) : Int) := by
    unfold I64
    rw [Int.natCast_ediv, Int.natCast_pow]
    rfl
  have hx := x.isLt
  have h := u64_and_nat (x.toNat / 2 ^ i) 1 (Nat.lt_of_le_of_lt (Nat.div_le_self _ _) hx) (by decide)
  rw [Nat.and_one_is_mod] at h
  rw [e]
  exact h
theorem bit_test (x : BitVec 64) (i : Nat) : (bits .and .u64 (I64 x / 2 ^ i) 1 == 1) = x.toNat.testBit i := by
  rw [bit_and, Nat.testBit_eq_decide_div_mod_eq]
  by_cases h : x.toNat / 2 ^ i % 2 = 1
  · rw [h]; rfl
  · have h0 : x.toNat / 2 ^ i % 2 = 0 := by omega
    rw [h0]; rfl

theorem OwnB.shape3 {w : World} {v : Value} {l : List Bool} (h : OwnB w v l) : ∃ a n c, v = .slice a n c := by
  obtain ⟨a, c, h⟩ := h.shape
  exact ⟨a, _, c, h⟩
set_option maxHeartbeats 3200000 in
theorem write_any (g : Nat) (v : Value) (l : List Bool) (p : Nat) (y : BitVec 64) (n : Nat) (w : World) (hs : St w g v l p) (hn : n ≤ 64) (hsz : l.length ≤ 17592186044416) :
    Calls Tryd.prog 43 #[.pointer (some ⟨g, 0, none⟩), .int .u64 (I64 y), .int .i64 (n : Int)] w fun e w' => e = .returned (.tuple #[]) ∧ ∃ v', St w' g v' (l ++ bitsOf y.toNat n) p ∧ Fw w w' g v v' := by
  have hs2 : Hid (St w g v l p) := hs
  clear hs
  go_enter Tryd.func43, Tryd.ntmps43
  go_wp2
  go_loopw [6] (fun i wr => ∃ k : Nat, k ≤ n ∧ i = .int .i64 ((k : Int) - 1) ∧ Hid (∃ v' cur, St wr g v' cur p ∧ l ++ bitsOf y.toNat n = cur ++ bitsOf y.toNat k ∧ Fw w wr g v v')) (fun i _ => (intOf i + 1).toNat)
  case atStart => exact ⟨n, Nat.le_refl _, rfl, v, l, hs2.out, rfl, Fw.refl _ _ _⟩
  case round =>
    obtain ⟨k, hk, rfl, hr⟩ := hrel
    obtain ⟨v', cur, hst, heq, hfw⟩ := hr.out
    clear hr
    have hcl : cur.length + k = l.length + n := by
      have := congrArg List.length heq
      simp only [List.length_append, bitsOf_len] at this
      omega
    by_cases h0 : 0 < k
    · obtain ⟨j, rfl⟩ : ∃ j, k = j + 1 := ⟨k - 1, by omega⟩
      have hji : ((j + 1 : Nat) : Int) - 1 = (j : Int) := by omega
      rw [hji]
      have hbt := bit_test y j
      have heq2 : l ++ bitsOf y.toNat n = (cur ++ [y.toNat.testBit j]) ++ bitsOf y.toNat j := by rw [heq]; simp [bitsOf]
      have hc := hst.cells
      have c0 := hc.1
      have f0 := hc.2.2.1
      have H : Hid (St wr g v' cur p ∧ l ++ bitsOf y.toNat n = (cur ++ [y.toNat.testBit j]) ++ bitsOf y.toNat j ∧ Fw w wr g v v' ∧ cur.length + 1 ≤ 175921860444160) := ⟨hst, heq2, hfw, by omega⟩
      clear hst heq heq2 hfw hcl hji hc
      generalize y.toNat.testBit j = tb at *
      go_wp2_with (at_builtin; refine wp_appB rfl _ _ rfl _ cur tb _ rfl rfl (litB _ _ _) (H.out.1.2.keep (alloc_gb _ _)) H.out.2.2.2 ?_)
      intro v1 w1 ho1 hf1
      obtain ⟨a1, N1, c1, hv1⟩ := ho1.shape3
      subst hv1
      have hG := H.out.1.grow hf1 ho1
      have hwg : w1.heap[g]? = some (.cells #[v', .int .i64 (p : Int)] 28 (0, 0)) := by rw [hG.1]; exact H.out.1.1
      have d0 : w1.cell? ⟨g, 0, none⟩ = some v' := by simp [World.cell?, hwg]
      have df : w1.frozen? ⟨g, 0, none⟩ = false := by simp [World.frozen?, hwg]
      have H2 : Hid (∃ v1' cur', St (w1.setCell ⟨g, 0, none⟩ (.slice a1 N1 c1)) g v1' cur' p ∧ l ++ bitsOf y.toNat n = cur' ++ bitsOf y.toNat j ∧ Fw w (w1.setCell ⟨g, 0, none⟩ (.slice a1 N1 c1)) g v v1') := ⟨_, cur ++ [tb], hG.2.1, H.out.2.1, H.out.2.2.1.trans hG.2.2⟩
      clear hG hwg H hf1 ho1 c0 f0 hbt
      go_wp2
      go_roundw
      case rel => exact ⟨j, by omega, rfl, H2⟩
      case measure => simp [intOf]
    · obtain rfl : k = 0 := by omega
      have HE : Hid (∃ v', St wr g v' (l ++ bitsOf y.toNat n) p ∧ Fw w wr g v v') := ⟨v', by rw [heq]; simpa [bitsOf] using hst, hfw⟩
      clear hst heq hfw hcl
      go_wp2
      go_end0
      exact ⟨rfl, HE.out⟩
theorem write_eq (g : Nat) (v : Value) (l : List Bool) (p : Nat) (y : BitVec 64) (n : Nat) (X N : Int) (hX : X = I64 y) (hN : N = (n : Int)) (w : World) (hs : St w g v l p) (hn : n ≤ 64) (hsz : l.length ≤ 17592186044416) :
    Calls Tryd.prog 43 #[.pointer (some ⟨g, 0, none⟩), .int .u64 X, .int .i64 N] w fun e w' => e = .returned (.tuple #[]) ∧ ∃ v', St w' g v' (l ++ bitsOf y.toNat n) p ∧ Fw w w' g v v' := by
  subst hX
  subst hN
  exact write_any g v l p y n w hs hn hsz

theorem head_bits (r : Nat) (h : r ≤ 8) : bitsOf (hd r) (hb r) = List.replicate r true ++ (if r < 8 then [false] else []) := by
  rcases (show r = 0 ∨ r = 1 ∨ r = 2 ∨ r = 3 ∨ r = 4 ∨ r = 5 ∨ r = 6 ∨ r = 7 ∨ r = 8 by omega) with rfl | rfl | rfl | rfl | rfl | rfl | rfl | rfl | rfl <;> decide +kernel
theorem St.keep {w w' : World} {g : Nat} {v : Value} {l : List Bool} {p : Nat} (h : St w g v l p) (hg : w.grownBy w' none) : St w' g v l p :=
  ⟨by rw [hg.block g h.cells.2.2.2 (by simp)]; exact h.1, h.2.keep hg⟩
/-- what is new at the call and its own -/
theorem Fw.new {w w1 w2 : World} {g : Nat} {v v' : Value} (h1 : w.grownBy w1 none) (h2 : Fw w1 w2 g v v') (hg : w.heap.size ≤ g) (hv : ∀ k, v.ownBlock = some k → w.heap.size ≤ k) : w.grownBy w2 none :=
  ⟨h2.os.trans h1.os, h2.tape.trans h1.tape, h2.output.trans h1.output, Nat.le_trans h1.size h2.size, fun k hk _ =>
    (h2.block k (Nat.lt_of_lt_of_le hk h1.size) (by omega) (fun e => by have := hv k e.symm; omega)).trans (h1.block k hk (by simp))⟩

set_option maxHeartbeats 6400000 in
theorem form_any (n : Int) (x : BitVec 64) (w : World) (hx : IntKind.u64.wrap n = I64 x) :
    Calls Tryd.prog 25 #[.int .i64 n] w fun e w' => ∃ v', e = .returned v' ∧ OwnB w' v' (form n x) ∧ w.grownBy w' none ∧ ∀ k, v'.ownBlock = some k → w.heap.size ≤ k := by
  have HR := rowN_le n
  have HF : Hid (form n x = bitsOf (hd (rowN n)) (hb (rowN n)) ++ bitsOf x.toNat (wd (rowN n))) := rfl
  have HRow : Hid (∀ w, Calls Tryd.prog 41 #[.int .i64 n] w fun e w' => e = .returned (.int .i64 (rowN n : Int)) ∧ w.grownBy w' none) := row_any n
  generalize rowN n = r at *
  have HWd : Hid (∀ w', Calls Tryd.prog 42 #[.int .i64 (r : Int)] w' fun e w'' => e = .returned (.int .i64 (wd r : Int)) ∧ w'.grownBy w'' none) := fun w' => width_any r w' HR
  have HLow : Hid (∀ w, Calls Tryd.prog 44 #[.int .i64 n, .int .i64 (wd r : Int)] w fun e w' => (∃ y : BitVec 64, e = .returned (.int .u64 (I64 y)) ∧ bitsOf y.toNat (wd r) = bitsOf x.toNat (wd r)) ∧ w' = w) := fun w => low_any n x r w hx HR
  have hwl := wd_le r
  have HB : Hid (bitsOf (hd r) (hb r) = List.replicate r true ++ (if r < 8 then [false] else [])) := head_bits r HR
  clear hx
  generalize wd r = K at *
  go_enter Tryd.func25, Tryd.ntmps25
  go_wp2_with fail
  refine (HRow.out _).mono ?_
  rintro e w1 ⟨rfl, hg1⟩
  have H1 : Hid (St w1 w.heap.size (.slice none 0 0) [] 0 ∧ w.grownBy w1 none) := by
    refine ⟨St.keep ⟨?_, OwnB.nil _⟩ hg1, gb_none (alloc_gb _ _) hg1⟩
    exact Go.heap_alloc_new w _
  clear hg1 HRow
  go_wp2
  go_loopw [5] (fun i wr => ∃ k : Nat, k ≤ r ∧ i = .int .i64 (k : Int) ∧ Hid (∃ v', St wr w.heap.size v' (List.replicate k true) 0 ∧ Fw w1 wr w.heap.size (.slice none 0 0) v')) (fun i _ => r - (intOf i).toNat)
  case atStart => exact ⟨0, by omega, rfl, .slice none 0 0, H1.out.1, Fw.refl _ _ _⟩
  case round =>
    obtain ⟨k, hk, rfl, hr⟩ := hrel
    obtain ⟨v', hst, hfw⟩ := hr.out
    clear hr
    by_cases h0 : k < r
    · have hc := hst.cells
      have c0 := hc.1
      have H : Hid (St wr w.heap.size v' (List.replicate k true) 0 ∧ Fw w1 wr w.heap.size (.slice none 0 0) v' ∧ (List.replicate k true).length + 1 ≤ 175921860444160) := ⟨hst, hfw, by simp; omega⟩
      clear hst hfw hc
      go_wp2_with (at_builtin; refine wp_appB rfl _ _ rfl _ (List.replicate k true) true _ rfl rfl (litB _ _ _) (H.out.1.2.keep (alloc_gb _ _)) H.out.2.2 ?_)
      intro v1 w2 ho1 hf1
      obtain ⟨a1, N1, c1, hv1⟩ := ho1.shape3
      subst hv1
      have hG := H.out.1.grow hf1 ho1
      have hwg : w2.heap[w.heap.size]? = some (.cells #[v', .int .i64 ((0 : Nat) : Int)] 28 (0, 0)) := by rw [hG.1]; exact H.out.1.1
      have d0 : w2.cell? ⟨w.heap.size, 0, none⟩ = some v' := by simp [World.cell?, hwg]
      have df : w2.frozen? ⟨w.heap.size, 0, none⟩ = false := by simp [World.frozen?, hwg]
      have H2 : Hid (∃ v1', St (w2.setCell ⟨w.heap.size, 0, none⟩ (.slice a1 N1 c1)) w.heap.size v1' (List.replicate (k + 1) true) 0 ∧ Fw w1 (w2.setCell ⟨w.heap.size, 0, none⟩ (.slice a1 N1 c1)) w.heap.size (.slice none 0 0) v1') :=
        ⟨_, by rw [List.replicate_succ']; exact hG.2.1, H.out.2.1.trans hG.2.2⟩
      clear hG hwg H hf1 ho1 c0
      go_wp2
      go_roundw
      case rel => exact ⟨k + 1, by omega, by go_num, H2⟩
      case measure => simp [intOf]; omega
    · obtain rfl : k = r := by omega
      have hc := hst.cells
      have c0 := hc.1
      by_cases h8 : k < 8
      · rw [if_pos h8] at HB
        have H : Hid (St wr w.heap.size v' (List.replicate k true) 0 ∧ Fw w1 wr w.heap.size (.slice none 0 0) v' ∧ (List.replicate k true).length + 1 ≤ 175921860444160) := ⟨hst, hfw, by simp; omega⟩
        clear hst hfw hc
        go_wp2_with (at_builtin; refine wp_appB rfl _ _ rfl _ (List.replicate k true) false _ rfl rfl (litB _ _ _) (H.out.1.2.keep (alloc_gb _ _)) H.out.2.2 ?_)
        intro v1 w2 ho1 hf1
        obtain ⟨a1, N1, c1, hv1⟩ := ho1.shape3
        subst hv1
        have hG := H.out.1.grow hf1 ho1
        have hwg : w2.heap[w.heap.size]? = some (.cells #[v', .int .i64 ((0 : Nat) : Int)] 28 (0, 0)) := by rw [hG.1]; exact H.out.1.1
        have d0 : w2.cell? ⟨w.heap.size, 0, none⟩ = some v' := by simp [World.cell?, hwg]
        have df : w2.frozen? ⟨w.heap.size, 0, none⟩ = false := by simp [World.frozen?, hwg]
        have H2 : Hid (∃ v1, St (w2.setCell ⟨w.heap.size, 0, none⟩ (.slice a1 N1 c1)) w.heap.size v1 (bitsOf (hd k) (hb k)) 0 ∧ Fw w1 (w2.setCell ⟨w.heap.size, 0, none⟩ (.slice a1 N1 c1)) w.heap.size (.slice none 0 0) v1) :=
          ⟨_, by rw [HB.out]; exact hG.2.1, H.out.2.1.trans hG.2.2⟩
        clear hG hwg H hf1 ho1 c0
        have hbl := bitsOf_len (hd k) (hb k)
        have hbb := hb_le k
        have HBL : Hid ((bitsOf (hd k) (hb k)).length ≤ 17592186044416) := by show (bitsOf (hd k) (hb k)).length ≤ 17592186044416; omega
        clear hbl hbb
        generalize bitsOf (hd k) (hb k) = HB1 at *
        go_wp2_with fail
        refine (HWd.out _).mono ?_
        rintro e w3 ⟨rfl, hg3⟩
        obtain ⟨v1, h21, h22⟩ := H2.out
        have H3 : Hid (St w3 w.heap.size v1 HB1 0 ∧ Fw w1 w3 w.heap.size (.slice none 0 0) v1) := ⟨h21.keep hg3, h22.trans (Fw.of_none hg3 _ _)⟩
        clear h21 h22
        clear H2 hg3 d0 df
        go_wp2_with fail
        refine (HLow.out _).mono ?_
        rintro e w4 ⟨⟨y, rfl, hy⟩, rfl⟩
        have HY : Hid (bitsOf y.toNat K = bitsOf x.toNat K) := hy
        clear hy
        go_wp2_with fail
        refine (write_any w.heap.size v1 HB1 0 y K _ H3.out.1 (by omega) HBL.out).mono ?_
        rintro e w5 ⟨rfl, v5, hs5, hf5⟩
        have H5 : Hid (OwnB w5 v5 (form n x) ∧ w.grownBy w5 none ∧ ∀ k, v5.ownBlock = some k → w.heap.size ≤ k) := by
          rw [HY.out, ← HF.out] at hs5
          have hF := H3.out.2.trans hf5
          refine ⟨hs5.2, Fw.new H1.out.2 hF (Nat.le_refl _) (fun k hk => by simp [Value.ownBlock] at hk), fun k hk => ?_⟩
          rcases hF.own k hk with h | h
          · simp [Value.ownBlock] at h
          · exact Nat.le_trans H1.out.2.size h
        have c5 := hs5.cells.1
        clear hs5 hf5 H3 H1
        go_wp2
        go_ret
        exact ⟨v5, rfl, H5.out⟩
      · rw [if_neg h8, List.append_nil] at HB
        have H2 : Hid (St wr w.heap.size v' (bitsOf (hd k) (hb k)) 0 ∧ Fw w1 wr w.heap.size (.slice none 0 0) v') := ⟨by rw [HB.out]; exact hst, hfw⟩
        clear hst hfw hc c0
        have hbl := bitsOf_len (hd k) (hb k)
        have hbb := hb_le k
        have HBL : Hid ((bitsOf (hd k) (hb k)).length ≤ 17592186044416) := by show (bitsOf (hd k) (hb k)).length ≤ 17592186044416; omega
        clear hbl hbb
        generalize bitsOf (hd k) (hb k) = HB1 at *
        go_wp2_with fail
        refine (HWd.out _).mono ?_
        rintro e w3 ⟨rfl, hg3⟩
        have H3 : Hid (St w3 w.heap.size v' HB1 0 ∧ Fw w1 w3 w.heap.size (.slice none 0 0) v') := ⟨H2.out.1.keep hg3, H2.out.2.trans (Fw.of_none hg3 _ _)⟩
        clear H2 hg3
        go_wp2_with fail
        refine (HLow.out _).mono ?_
        rintro e w4 ⟨⟨y, rfl, hy⟩, rfl⟩
        have HY : Hid (bitsOf y.toNat K = bitsOf x.toNat K) := hy
        clear hy
        go_wp2_with fail
        refine (write_any w.heap.size v' HB1 0 y K _ H3.out.1 (by omega) HBL.out).mono ?_
        rintro e w5 ⟨rfl, v5, hs5, hf5⟩
        have H5 : Hid (OwnB w5 v5 (form n x) ∧ w.grownBy w5 none ∧ ∀ k, v5.ownBlock = some k → w.heap.size ≤ k) := by
          rw [HY.out, ← HF.out] at hs5
          have hF := H3.out.2.trans hf5
          refine ⟨hs5.2, Fw.new H1.out.2 hF (Nat.le_refl _) (fun k hk => by simp [Value.ownBlock] at hk), fun k hk => ?_⟩
          rcases hF.own k hk with h | h
          · simp [Value.ownBlock] at h
          · exact Nat.le_trans H1.out.2.size h
        have c5 := hs5.cells.1
        clear hs5 hf5 H3 H1
        go_wp2
        go_ret
        exact ⟨v5, rfl, H5.out⟩
end Go.Proofs.YtgbpnkamamafjabDoor
