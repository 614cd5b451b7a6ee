/-
  A writer that the call made: its calls in one contract each, whatever they answer.
-/
import Derived.Test.YtgbpnkamamafjabDoorBitsI
import Derived.Test.YtgbpnkamamafjabDoorBitsA
namespace Go.Proofs.YtgbpnkamamafjabDoor
open Go.RowKit

theorem Fw.newN {w w1 w2 : World} {g : Nat} {v v' : Value} (h1 : w.grownBy w1 none) (h2 : Fw w1 w2 g v v') (hg : w.heap.size ≤ g) (hv : ∀ k, v.ownBlock = some k → w.heap.size ≤ k) : w.grownBy w2 none :=
  ⟨h2.os.trans h1.os, h2.tape.trans h1.tape, h2.output.trans h1.output, Nat.le_trans h1.size h2.size, fun k hk _ =>
    (h2.block k (Nat.lt_of_lt_of_le hk h1.size) (by omega) (fun e => by have := hv k e.symm; omega)).trans (h1.block k hk (by simp))⟩

/-- a writer that is new since w, of these bits -/
def WN (w wr : World) (g : Nat) (bs : List Bool) : Prop := w.heap.size ≤ g ∧ w.grownBy wr none ∧ ∃ v, Wr wr g v bs ∧ ∀ k, v.ownBlock = some k → w.heap.size ≤ k
theorem WN.keep {w wr wr' : World} {g : Nat} {bs : List Bool} (h : WN w wr g bs) (hg : wr.grownBy wr' none) : WN w wr' g bs := by
  obtain ⟨h1, h2, v, h3, h4⟩ := h
  exact ⟨h1, gb_none h2 hg, v, h3.keep hg, h4⟩
theorem WN.step {w wr wr' : World} {g : Nat} {v v' : Value} {bs' : List Bool} (h1 : w.heap.size ≤ g) (h2 : w.grownBy wr none) (h4 : ∀ k, v.ownBlock = some k → w.heap.size ≤ k) (hw : Wr wr' g v' bs') (hf : Fw wr wr' g v v') : WN w wr' g bs' :=
  ⟨h1, Fw.newN h2 hf h1 h4, v', hw, fun k hk => by
    rcases hf.own k hk with h | h
    · exact h4 k h.symm
    · exact Nat.le_trans h2.size h⟩
/-- what Bits answers, and the stream behind it -/
def bBad (x : BitVec 64) (n : Int) : Prop := n < 0 ∨ 64 < n ∨ (0 ≤ n ∧ n ≤ 64 ∧ ¬ x.toNat < 2 ^ n.toNat)
instance (x : BitVec 64) (n : Int) : Decidable (bBad x n) := by unfold bBad; infer_instance
def bCode (x : BitVec 64) (n : Int) (L : Nat) : Int := if bBad x n then 1 else if 8388608 < L + n.toNat then 8 else 0
def bNew (x : BitVec 64) (n : Int) (bs : List Bool) : List Bool := if bCode x n bs.length = 0 then bs ++ bitsOf x.toNat n.toNat else bs
theorem bNew_le {x : BitVec 64} {n : Int} {bs : List Bool} (h : bs.length ≤ 8388608) : (bNew x n bs).length ≤ 8388608 := by
  unfold bNew bCode
  by_cases h1 : bBad x n
  · simp [h1, h]
  · by_cases h2 : 8388608 < bs.length + n.toNat
    · simp [h1, h2, h]
    · simp only [h1, h2, if_false, if_true, List.length_append, bitsOf_len]
      omega
theorem wbitsN (w wr : World) (g : Nat) (bs : List Bool) (x : BitVec 64) (n : Int) (h : WN w wr g bs) (hs : bs.length ≤ 8388608) :
    Calls Tryd.prog 24 #[.pointer (some ⟨g, 0, none⟩), .int .u64 (I64 x), .int .i64 n] wr fun e w' => e = .returned (.int .i64 (bCode x n bs.length)) ∧ WN w w' g (bNew x n bs) := by
  obtain ⟨h1, h2, v, h3, h4⟩ := h
  by_cases hb : bBad x n
  · have e1 : bCode x n bs.length = 1 := by unfold bCode; rw [if_pos hb]
    have e2 : bNew x n bs = bs := by unfold bNew; rw [e1]; rfl
    rw [e1, e2]
    exact (wbits_arg g x n wr hb).mono fun e w' ⟨he, hw⟩ => ⟨he, by subst hw; exact ⟨h1, h2, v, h3, h4⟩⟩
  · have hb2 := hb
    unfold bBad at hb2
    obtain ⟨m, rfl⟩ := Int.eq_ofNat_of_zero_le (show 0 ≤ n by omega)
    rw [Int.toNat_natCast] at hb2
    have hm : m ≤ 64 := by omega
    have hx : x.toNat < 2 ^ m := by
      by_cases hx : x.toNat < 2 ^ m
      · exact hx
      · exact absurd (.inr (.inr ⟨by omega, by omega, hx⟩)) hb2
    by_cases hf : 8388608 < bs.length + m
    · have e1 : bCode x (m : Int) bs.length = 8 := by unfold bCode; rw [if_neg hb, Int.toNat_natCast, if_pos hf]
      have e2 : bNew x (m : Int) bs = bs := by unfold bNew; rw [e1]; rfl
      rw [e1, e2]
      exact (wbits_full g v bs x m wr h3 hm hx hs hf).mono fun e w' ⟨he, hw⟩ => ⟨he, by subst hw; exact ⟨h1, h2, v, h3, h4⟩⟩
    · have e1 : bCode x (m : Int) bs.length = 0 := by unfold bCode; rw [if_neg hb, Int.toNat_natCast, if_neg hf]
      have e2 : bNew x (m : Int) bs = bs ++ bitsOf x.toNat m := by unfold bNew; rw [e1, Int.toNat_natCast, if_pos rfl]
      rw [e1, e2]
      exact (wbits_ok g v bs x m wr h3 hm hx (by omega)).mono fun e w' ⟨he, v', hw, hfw⟩ => ⟨he, WN.step h1 h2 h4 hw hfw⟩

/-- what Bit answers, and the stream behind it -/
def oCode (L : Nat) : Int := if 8388608 ≤ L then 8 else 0
def oNew (b : Bool) (bs : List Bool) : List Bool := if 8388608 ≤ bs.length then bs else bs ++ [b]
theorem wbit_fullB (g : Nat) (v : Value) (bs : List Bool) (b : Bool) (w : World) (hw : Wr w g v bs) (hs : bs.length = 8388608) :
    Calls Tryd.prog 26 #[.pointer (some ⟨g, 0, none⟩), .bool b] w fun e w' => e = .returned (.int .i64 8) ∧ w' = w := by
  cases b
  · have HC : Hid (Calls Tryd.prog 24 #[.pointer (some ⟨g, 0, none⟩), .int .u64 0, .int .i64 1] w fun e w' => e = .returned (.int .i64 8) ∧ w' = w) := wbits_full g v bs 0#64 1 w hw (by omega) (by decide) (by omega) (by omega)
    clear hw hs
    go_enter Tryd.func26, Tryd.ntmps26
    go_wp2_with fail
    refine HC.out.mono ?_
    rintro e w1 ⟨rfl, rfl⟩
    go_wp2
    go_ret
    exact ⟨rfl, rfl⟩
  · exact wbit_full g v bs w hw hs
theorem wbitN (w wr : World) (g : Nat) (bs : List Bool) (b : Bool) (h : WN w wr g bs) (hs : bs.length ≤ 8388608) :
    Calls Tryd.prog 26 #[.pointer (some ⟨g, 0, none⟩), .bool b] wr fun e w' => e = .returned (.int .i64 (oCode bs.length)) ∧ WN w w' g (oNew b bs) := by
  obtain ⟨h1, h2, v, h3, h4⟩ := h
  by_cases hf : 8388608 ≤ bs.length
  · have e1 : oCode bs.length = 8 := if_pos hf
    have e2 : oNew b bs = bs := if_pos hf
    rw [e1, e2]
    exact (wbit_fullB g v bs b wr h3 (by omega)).mono fun e w' ⟨he, hw⟩ => ⟨he, by subst hw; exact ⟨h1, h2, v, h3, h4⟩⟩
  · have e1 : oCode bs.length = 0 := if_neg hf
    have e2 : oNew b bs = bs ++ [b] := if_neg hf
    rw [e1, e2]
    exact (wbit_ok g v bs b wr h3 (by omega)).mono fun e w' ⟨he, v', hw, hfw⟩ => ⟨he, WN.step h1 h2 h4 hw hfw⟩
theorem oNew_le {b : Bool} {bs : List Bool} (h : bs.length ≤ 8388608) : (oNew b bs).length ≤ 8388608 := by
  unfold oNew
  by_cases hf : 8388608 ≤ bs.length
  · rw [if_pos hf]; exact h
  · rw [if_neg hf, List.length_append]; simp; omega

/-- what Int answers, and the stream behind it -/
def iCode (n : Int) (x : BitVec 64) (L : Nat) : Int := if 8388608 < L + (form n x).length then 8 else 0
def iNew (n : Int) (x : BitVec 64) (bs : List Bool) : List Bool := if 8388608 < bs.length + (form n x).length then bs else bs ++ form n x
theorem iNew_le {n : Int} {x : BitVec 64} {bs : List Bool} (h : bs.length ≤ 8388608) : (iNew n x bs).length ≤ 8388608 := by
  unfold iNew
  split
  · exact h
  · rw [List.length_append]; omega
theorem wintN (w wr : World) (g : Nat) (bs : List Bool) (n : Int) (x : BitVec 64) (h : WN w wr g bs) (hT : TabW w) (hx : IntKind.u64.wrap n = I64 x) (hs : bs.length ≤ 8388608) :
    Calls Tryd.prog 23 #[.pointer (some ⟨g, 0, none⟩), .int .i64 n] wr fun e w' => e = .returned (.int .i64 (iCode n x bs.length)) ∧ WN w w' g (iNew n x bs) := by
  obtain ⟨h1, h2, v, h3, h4⟩ := h
  have hlt := block_lt (hT 0 (by omega))
  by_cases hf : 8388608 < bs.length + (form n x).length
  · have e1 : iCode n x bs.length = 8 := if_pos hf
    have e2 : iNew n x bs = bs := if_pos hf
    rw [e1, e2]
    exact (wint_full g v bs n x wr h3 (hT.keep h2) hs hf).mono fun e w' ⟨he, hw⟩ => ⟨he, ⟨h1, gb_none h2 hw, v, h3.keep hw, h4⟩⟩
  · have e1 : iCode n x bs.length = 0 := if_neg hf
    have e2 : iNew n x bs = bs ++ form n x := if_neg hf
    rw [e1, e2]
    exact (wint_ok g v bs n x wr h3 (hT.keep h2) hx (by omega) (fun e => by have := h4 _ e; omega) (by omega)).mono fun e w' ⟨he, v', hw, hfw⟩ => ⟨he, WN.step h1 h2 h4 hw hfw⟩
theorem wlenN (w wr : World) (g : Nat) (bs : List Bool) (h : WN w wr g bs) :
    Calls Tryd.prog 10 #[.pointer (some ⟨g, 0, none⟩)] wr fun e w' => e = .returned (.int .i64 (bs.length : Int)) ∧ w' = wr := by
  obtain ⟨h1, h2, v, h3, h4⟩ := h
  exact wlen_any g v bs wr h3
theorem newN (w wr : World) (hg : w.grownBy wr none) : Calls Tryd.prog 8 #[] wr fun e w' => ∃ g, e = .returned (.pointer (some ⟨g, 0, none⟩)) ∧ WN w w' g [] ∧ wr.heap.size ≤ g := by
  refine (newWriter_any wr).mono ?_
  rintro e w1 ⟨g, rfl, hw1, hg1, hgg1⟩
  exact ⟨g, rfl, ⟨Nat.le_trans hg.size hgg1, gb_none hg hg1, _, hw1, fun k hk => by simp [Value.ownBlock] at hk⟩, hgg1⟩
theorem wbytesN (w wr : World) (g : Nat) (bs : List Bool) (h : WN w wr g bs) (hs : bs.length ≤ 8388608) :
    Calls Tryd.prog 11 #[.pointer (some ⟨g, 0, none⟩)] wr fun e w' => ∃ v', e = .returned v' ∧ Own w' wr.heap.size v' (pack bs) ∧ wr.grownBy w' none := by
  obtain ⟨h1, h2, v, h3, h4⟩ := h
  exact wbytes_any g v bs wr h3 hs
end Go.Proofs.YtgbpnkamamafjabDoor
