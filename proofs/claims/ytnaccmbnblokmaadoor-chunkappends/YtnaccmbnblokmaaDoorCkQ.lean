/-
  A chunk's reader: its words, and what take comes to: the walk.
-/
import Derived.Test.YtnaccmbnblokmaaDoorCkH
namespace Go.Proofs.YtnaccmbnblokmaaDoor
open Go.RowKit
variable {B : Nat}

/-- a stream of bits that is read: there, or not (then there is nothing in it) -/
def Strm (B : Nat) (w0 w : World) (ptr : Value) (L : List UInt8) (p s : Nat) : Prop := (∃ gB, ptr = .pointer (some ⟨gB, 0, none⟩) ∧ RN B w0 w gB L p s) ∨ (ptr = .pointer none ∧ s = 0 ∧ p = 0)
/-- a chunk's reader at block gR -/
structure RC (B : Nat) (w0 w : World) (gR : Nat) (ptr : Value) (R : Rst) (fl : Bool) (L : List UInt8) (p s : Nat) : Prop where
  new : w0.heap.size ≤ gR
  low : gR < B
  kept : w0.grownBy w none
  box : w.heap[gR]? = some (.cells #[ptr, R.a, R.b, R.c, R.d, R.e, R.f, R.h, .bool fl] 119 (0, 0))
  strm : Strm B w0 w ptr L p s
/-- its blocks -/
def RSt (gR : Nat) (ptr : Value) : Nat → Prop := fun k => k = gR ∨ ptr = .pointer (some ⟨k, 0, none⟩)
theorem RC.pos {w0 w : World} {gR p s : Nat} {ptr : Value} {R : Rst} {fl : Bool} {L : List UInt8} (h : RC B w0 w gR ptr R fl L p s) : p ≤ s := by
  rcases h.strm with ⟨gB, _, h1⟩ | ⟨_, h1, h2⟩
  · exact h1.place
  · omega
theorem RC.lt {w0 w : World} {gR p s : Nat} {ptr : Value} {R : Rst} {fl : Bool} {L : List UInt8} (h : RC B w0 w gR ptr R fl L p s) : gR < w.heap.size := (Array.getElem?_eq_some_iff.1 h.box).1
theorem RC.keep {w0 w w' : World} {gR p s : Nat} {ptr : Value} {R : Rst} {fl : Bool} {L : List UInt8} (h : RC B w0 w gR ptr R fl L p s) (hg : w.grownBy w' none) : RC B w0 w' gR ptr R fl L p s := by
  refine ⟨h.new, h.low, gb_none h.kept hg, (hg.block gR h.lt (by simp)).trans h.box, ?_⟩
  rcases h.strm with ⟨gB, h0, h1⟩ | h1
  · exact .inl ⟨gB, h0, h1.keep hg⟩
  · exact .inr h1
theorem RC.cell {w0 w : World} {gR p s : Nat} {ptr : Value} {R : Rst} {fl : Bool} {L : List UInt8} (h : RC B w0 w gR ptr R fl L p s) : w.cell? ⟨gR, 0, none⟩ = some ptr ∧ w.cell? ⟨gR, 1, none⟩ = some R.a ∧ w.cell? ⟨gR, 2, none⟩ = some R.b ∧ w.cell? ⟨gR, 3, none⟩ = some R.c ∧ w.cell? ⟨gR, 4, none⟩ = some R.d ∧ w.cell? ⟨gR, 5, none⟩ = some R.e ∧ w.cell? ⟨gR, 6, none⟩ = some R.f ∧ w.cell? ⟨gR, 7, none⟩ = some R.h ∧ w.cell? ⟨gR, 8, none⟩ = some (.bool fl) ∧ ∀ j, w.frozen? ⟨gR, j, none⟩ = false := by
  have hb := h.box
  refine ⟨?_, ?_, ?_, ?_, ?_, ?_, ?_, ?_, ?_, fun j => ?_⟩ <;> first | simp [World.cell?, hb] | simp [World.frozen?, hb]
/-- a block that is no row of bytes, and not the reader's, is written -/
theorem RN.other {w0 w w' : World} {g p s k : Nat} {L : List UInt8} (h : RN B w0 w g L p s) (hg : w.grownBy w' (some k)) (hk : k ≠ g) (hk0 : w0.heap.size ≤ k) (hkb : ∀ cur fr, w.heap[k]? ≠ some (.cells cur 5 fr)) : RN B w0 w' g L p s := by
  obtain ⟨gb, c, h1, h2, h3, cur, fr, h4⟩ := h.here
  have hne : gb ≠ k := fun e => hkb cur fr (by rw [← e]; exact h4)
  have hlt : gb < w.heap.size := (Array.getElem?_eq_some_iff.1 h4).1
  refine ⟨h.new, gb_new h.kept hg (fun j hj => by cases hj; exact hk0), h.place, h.most, h.bytes, gb, c, h1, ?_, ?_, cur, fr, ?_⟩
  · unfold Rr
    rw [hg.block g h2.cells.2.2.2.2 (by intro e; exact hk (by injection e with e; exact e.symm))]
    exact h2
  · exact h3.kept hg (.inr (by simp [Value.ownBlock]; exact hne))
  · rw [hg.block gb hlt (by intro e; exact hne (by injection e))]
    exact h4
/-- the reader's own cells are written -/
theorem RC.turned {w0 w W : World} {gR p s : Nat} {ptr : Value} {R R' : Rst} {fl fl' : Bool} {L : List UInt8} (h : RC B w0 w gR ptr R fl L p s) (hW : W.heap[gR]? = some (.cells #[ptr, R'.a, R'.b, R'.c, R'.d, R'.e, R'.f, R'.h, .bool fl'] 119 (0, 0))) (hg : w.grownBy W (some gR)) : RC B w0 W gR ptr R' fl' L p s := by
  refine ⟨h.new, h.low, gb_new h.kept hg (fun j hj => by cases hj; exact h.new), hW, ?_⟩
  rcases h.strm with ⟨gB, h0, h1⟩ | h1
  · refine .inl ⟨gB, h0, h1.other hg ?_ h.new ?_⟩
    · intro e
      obtain ⟨gb, c, -, h2, -⟩ := h1.here
      unfold Rr at h2
      rw [← e, h.box] at h2
      simp at h2
    · intro cur fr e
      rw [h.box] at e
      simp at e
  · exact .inr h1
theorem RC.ch {w W : World} {gR : Nat} {ptr : Value} (hg : w.grownBy W (some gR)) : Ch w W (RSt gR ptr) := Ch.of_gb hg (fun k hk _ => by cases hk; exact .inl rfl)
/-- a block behind the reader's is written -/
theorem RN.far {w0 w w' : World} {g p s k : Nat} {L : List UInt8} (h : RN B w0 w g L p s) (hg : w.grownBy w' (some k)) (hk0 : w0.heap.size ≤ k) (hkB : B ≤ k) : RN B w0 w' g L p s := by
  obtain ⟨gb, c, h1, h2, h3, cur, fr, h4⟩ := h.here
  have hne : gb ≠ k := by omega
  have hlt : gb < w.heap.size := (Array.getElem?_eq_some_iff.1 h4).1
  refine ⟨h.new, gb_new h.kept hg (fun j hj => by cases hj; exact hk0), h.place, h.most, h.bytes, gb, c, h1, ?_, ?_, cur, fr, ?_⟩
  · unfold Rr
    rw [hg.block g h2.cells.2.2.2.2 (by simp; omega)]
    exact h2
  · exact h3.kept hg (.inr (by simp [Value.ownBlock]; exact hne))
  · rw [hg.block gb hlt (by intro e; exact hne (by injection e))]
    exact h4
theorem RC.far {w0 w W : World} {gR p s : Nat} {ptr : Value} {R : Rst} {fl : Bool} {L : List UInt8} {o : Option Nat} (h : RC B w0 w gR ptr R fl L p s) (hg : w.grownBy W o) (ho : ∀ k, o = some k → B ≤ k) : RC B w0 W gR ptr R fl L p s := by
  cases o with
  | none => exact h.keep hg
  | some k =>
    have hk := ho k rfl
    have hlow := h.low
    have hnew := h.new
    refine ⟨h.new, h.low, gb_new h.kept hg (fun j hj => by cases hj; omega), (hg.block gR h.lt (by simp; omega)).trans h.box, ?_⟩
    rcases h.strm with ⟨gB, h0, h1⟩ | h1
    · exact .inl ⟨gB, h0, h1.far hg (by omega) hk⟩
    · exact .inr h1
theorem RC.blocks {w0 w : World} {gR p s : Nat} {ptr : Value} {R : Rst} {fl : Bool} {L : List UInt8} (h : RC B w0 w gR ptr R fl L p s) : ∀ k, RSt gR ptr k → w0.heap.size ≤ k ∧ k < B := by
  rintro k (rfl | rfl)
  · exact ⟨h.new, h.low⟩
  · rcases h.strm with ⟨gB, h0, h1⟩ | ⟨h0, _⟩
    · simp only [Value.pointer.injEq, Option.some.injEq, Addr.mk.injEq, and_true] at h0
      subst h0
      obtain ⟨gb, c, hb, _⟩ := h1.here
      exact ⟨h1.new, hb.2.1⟩
    · cases h0
/-- what n bits come to: there, or a fault -/
def Tkn (L : List UInt8) (s p n : Nat) (fl : Bool) (x p' : Nat) (fl' : Bool) : Prop := (tkO L s p n = some (x, p') ∧ fl' = fl) ∨ (tkO L s p n = none ∧ x = 0 ∧ p' = p ∧ fl' = true)
theorem Tkn.lt {L : List UInt8} {s p n x p' : Nat} {fl fl' : Bool} (h : Tkn L s p n fl x p' fl') : x < 2 ^ n := by
  rcases h with ⟨h, _⟩ | ⟨_, h, _⟩
  · exact (tkO_lt h).1
  · rw [h]; exact Nat.pow_pos (by decide)
theorem rbitsNil (n : Nat) (w : World) : Calls Tryd.prog 101 #[.pointer none, .int .i64 (n : Int)] w fun e w' => ∃ c : Int, e = .returned (.tuple #[.int .u64 0, .int .i64 c]) ∧ c ≠ 0 ∧ w' = w := by
  go_enter Tryd.func101, Tryd.ntmps101
  go_wp2
  go_ret2
  exact ⟨_, rfl, by decide, rfl⟩

/-- Bits of the stream -/
theorem strmBits (w0 w : World) (gR p s n : Nat) (ptr : Value) (R : Rst) (fl : Bool) (L : List UInt8) (h : RC B w0 w gR ptr R fl L p s) (hn : n ≤ 64) (hz : 0 < s ∨ 1 ≤ n ∨ fl = true) :
    Calls Tryd.prog 101 #[ptr, .int .i64 (n : Int)] w fun e w' => ∃ (x p' : Nat) (c : Int), e = .returned (.tuple #[.int .u64 (x : Int), .int .i64 c]) ∧ RC B w0 w' gR ptr R fl L p' s ∧ Tkn L s p n fl x p' (fl || !(c == 0)) ∧ Ch w w' (RSt gR ptr) := by
  rcases h.strm with ⟨gB, h0, h1⟩ | ⟨h0, h1, h2⟩
  · subst h0
    refine (rbitsN w0 w gB p s L (n : Int) h1).mono ?_
    rintro e w' ⟨q1, q2, q3⟩
    have hne : gR ≠ gB := by
      intro e
      obtain ⟨gb, c, -, h2, -⟩ := h1.here
      unfold Rr at h2
      rw [← e, h.box] at h2
      simp at h2
    have hRC : RC B w0 w' gR (.pointer (some ⟨gB, 0, none⟩)) R fl L (rAt p (n : Int) (s - p)) s := ⟨h.new, h.low, q2.kept, by rw [q3.block gR h.lt (by intro e; exact hne (by injection e))]; exact h.box, .inl ⟨gB, rfl, q2⟩⟩
    have hpl := h1.place
    refine ⟨rVal L p (n : Int) (s - p), rAt p (n : Int) (s - p), rCode (n : Int) (s - p), ?_, hRC, ?_, Ch.of_gb q3 (fun k hk _ => by cases hk; exact .inr rfl)⟩
    · rw [q1]
      have hlt : rVal L p (n : Int) (s - p) < 18446744073709551616 := by
        unfold rVal
        split
        · have := natOf_lt (ubits L p (n : Int).toNat)
          rw [ubits_len] at this
          exact Nat.lt_of_lt_of_le this (Nat.pow_le_pow_right (by decide : 2 > 0) (by simpa using hn))
        · decide
      rw [I64_of hlt]
    · unfold Tkn tkO rVal rAt rCode
      have hb : ¬ rBad (n : Int) := by unfold rBad; omega
      rw [if_neg hb, Int.toNat_natCast]
      by_cases hs : s - p < n
      · rw [if_pos hs, if_neg (by omega)]
        exact .inr ⟨rfl, rfl, rfl, by simp⟩
      · rw [if_neg hs, if_pos (by omega)]
        exact .inl ⟨rfl, by simp⟩
  · subst h0
    refine (rbitsNil n w).mono ?_
    rintro e w' ⟨c, q1, q2, q3⟩
    subst q3
    refine ⟨0, p, c, q1, h, ?_, Ch.refl _ _⟩
    have hc : (c == 0) = false := by rw [beq_eq_false_iff_ne]; exact q2
    rw [hc]
    unfold Tkn tkO
    by_cases hn0 : 1 ≤ n
    · rw [if_neg (by omega)]
      exact .inr ⟨rfl, rfl, rfl, by simp⟩
    · have hfl : fl = true := by rcases hz with q | q | q; omega; exact absurd q hn0; exact q
      obtain rfl : n = 0 := by omega
      rw [if_pos (by omega), hfl]
      exact .inl ⟨rfl, rfl⟩

set_option maxHeartbeats 1600000 in
theorem take_any (w0 w : World) (gR p s n : Nat) (ptr : Value) (R : Rst) (fl : Bool) (L : List UInt8) (h : RC B w0 w gR ptr R fl L p s) (hn : n ≤ 64) (hz : 0 < s ∨ 1 ≤ n ∨ fl = true) :
    Calls Tryd.prog 89 #[.pointer (some ⟨gR, 0, none⟩), .int .i64 (n : Int)] w fun e w' => ∃ (x p' : Nat) (fl' : Bool), e = .returned (.int .u64 (x : Int)) ∧ RC B w0 w' gR ptr R fl' L p' s ∧ Tkn L s p n fl x p' fl' ∧ Ch w w' (RSt gR ptr) := by
  have HB := hidJ (strmBits w0 w gR p s n ptr R fl L h hn hz)
  have c0 := h.cell.1
  clear h
  go_enter Tryd.func89, Tryd.ntmps89
  go_wp2_with fail
  refine HB.out.mono ?_
  rintro e w1 ⟨x, p', c, rfl, h1, h2, h3⟩
  have H1 := hidJ (And.intro h1 (And.intro h2 h3))
  have hc := h1.cell
  have c8 := hc.2.2.2.2.2.2.2.2.1
  have f8 := hc.2.2.2.2.2.2.2.2.2 8
  have HE : Hid (∀ b, b = (fl || !(c == 0)) → ∃ (x' p'' : Nat) (fl' : Bool), Ending.returned (.int .u64 (x : Int)) = .returned (.int .u64 (x' : Int)) ∧ RC B w0 (w1.setCell ⟨gR, 8, none⟩ (.bool b)) gR ptr R fl' L p'' s ∧ Tkn L s p n fl x' p'' fl' ∧ Ch w (w1.setCell ⟨gR, 8, none⟩ (.bool b)) (RSt gR ptr)) := by
    intro b hb
    refine ⟨x, p', b, rfl, h1.turned ?_ (gb_set _ _ _ _), by rw [hb]; exact h2, h3.trans (RC.ch (gb_set _ _ _ _)) (fun _ _ e => e)⟩
    have := heap_setCell_same w1 gR 8 _ _ (.bool b) h1.box
    rw [this]
    rfl
  clear h1 h2 h3 hc HB c0 H1
  cases fl with
  | true =>
    go_wp2
    go_ret
    exact HE.out _ (by simp)
  | false =>
    by_cases h0 : c = 0
    · subst h0
      go_wp2
      go_ret
      exact HE.out _ (by simp)
    · have hcb : (c == 0) = false := by rw [beq_eq_false_iff_ne]; exact h0
      have hcn : (c != 0) = true := by simp [h0]
      go_wp2
      go_ret
      exact HE.out _ (by simp [h0])
end Go.Proofs.YtnaccmbnblokmaaDoor
