/-
  CkQ, CkQ2, CkQ3, CkQ4, in one text.
-/
import Derived.Test.YtkiefmhampfhoaaDoorGC
/- CkQ -/
namespace Go.Proofs.YtkiefmhampfhoaaDoor
open Go.RowKit
variable {B : Nat}

/-- a stream of bits that is read: there, or not (then there is nothing in it) -/
def Strm (B : Nat) (w0 w : World) (ptr : Value) (L : List UInt8) (p s : Nat) : Prop := (∃ gB, ptr = .pointer (some ⟨gB, 0, none⟩) ∧ RN B w0 w gB L p s) ∨ (ptr = .pointer none ∧ s = 0 ∧ p = 0)
/-- a chunk's reader at block gR -/
structure RC (B : Nat) (w0 w : World) (gR : Nat) (ptr : Value) (R : Rst) (fl : Bool) (L : List UInt8) (p s : Nat) : Prop where
  new : w0.heap.size ≤ gR
  low : gR < B
  kept : w0.grownBy w none
  box : w.heap[gR]? = some (.cells #[ptr, R.a, R.b, R.c, R.d, R.e, R.f, R.h, .bool fl] 119 (0, 0))
  strm : Strm B w0 w ptr L p s
/-- its blocks -/
def RSt (gR : Nat) (ptr : Value) : Nat → Prop := fun k => k = gR ∨ ptr = .pointer (some ⟨k, 0, none⟩)
theorem RC.pos {w0 w : World} {gR p s : Nat} {ptr : Value} {R : Rst} {fl : Bool} {L : List UInt8} (h : RC B w0 w gR ptr R fl L p s) : p ≤ s := by
  rcases h.strm with ⟨gB, _, h1⟩ | ⟨_, h1, h2⟩
  · exact h1.place
  · omega
theorem RC.lt {w0 w : World} {gR p s : Nat} {ptr : Value} {R : Rst} {fl : Bool} {L : List UInt8} (h : RC B w0 w gR ptr R fl L p s) : gR < w.heap.size := (Array.getElem?_eq_some_iff.1 h.box).1
theorem RC.keep {w0 w w' : World} {gR p s : Nat} {ptr : Value} {R : Rst} {fl : Bool} {L : List UInt8} (h : RC B w0 w gR ptr R fl L p s) (hg : w.grownBy w' none) : RC B w0 w' gR ptr R fl L p s := by
  refine ⟨h.new, h.low, gb_none h.kept hg, (hg.block gR h.lt (by simp)).trans h.box, ?_⟩
  rcases h.strm with ⟨gB, h0, h1⟩ | h1
  · exact .inl ⟨gB, h0, h1.keep hg⟩
  · exact .inr h1
theorem RC.cell {w0 w : World} {gR p s : Nat} {ptr : Value} {R : Rst} {fl : Bool} {L : List UInt8} (h : RC B w0 w gR ptr R fl L p s) : w.cell? ⟨gR, 0, none⟩ = some ptr ∧ w.cell? ⟨gR, 1, none⟩ = some R.a ∧ w.cell? ⟨gR, 2, none⟩ = some R.b ∧ w.cell? ⟨gR, 3, none⟩ = some R.c ∧ w.cell? ⟨gR, 4, none⟩ = some R.d ∧ w.cell? ⟨gR, 5, none⟩ = some R.e ∧ w.cell? ⟨gR, 6, none⟩ = some R.f ∧ w.cell? ⟨gR, 7, none⟩ = some R.h ∧ w.cell? ⟨gR, 8, none⟩ = some (.bool fl) ∧ ∀ j, w.frozen? ⟨gR, j, none⟩ = false := by
  have hb := h.box
  refine ⟨?_, ?_, ?_, ?_, ?_, ?_, ?_, ?_, ?_, fun j => ?_⟩ <;> first | simp [World.cell?, hb] | simp [World.frozen?, hb]
/-- a block that is no row of bytes, and not the reader's, is written -/
theorem RN.other {w0 w w' : World} {g p s k : Nat} {L : List UInt8} (h : RN B w0 w g L p s) (hg : w.grownBy w' (some k)) (hk : k ≠ g) (hk0 : w0.heap.size ≤ k) (hkb : ∀ cur fr, w.heap[k]? ≠ some (.cells cur 5 fr)) : RN B w0 w' g L p s := by
  obtain ⟨gb, c, h1, h2, h3, cur, fr, h4⟩ := h.here
  have hne : gb ≠ k := fun e => hkb cur fr (by rw [← e]; exact h4)
  have hlt : gb < w.heap.size := (Array.getElem?_eq_some_iff.1 h4).1
  refine ⟨h.new, gb_new h.kept hg (fun j hj => by cases hj; exact hk0), h.place, h.most, h.bytes, gb, c, h1, ?_, ?_, cur, fr, ?_⟩
  · unfold Rr
    rw [hg.block g h2.cells.2.2.2.2 (by intro e; exact hk (by injection e with e; exact e.symm))]
    exact h2
  · exact h3.kept hg (.inr (by simp [Value.ownBlock]; exact hne))
  · rw [hg.block gb hlt (by intro e; exact hne (by injection e))]
    exact h4
/-- the reader's own cells are written -/
theorem RC.turned {w0 w W : World} {gR p s : Nat} {ptr : Value} {R R' : Rst} {fl fl' : Bool} {L : List UInt8} (h : RC B w0 w gR ptr R fl L p s) (hW : W.heap[gR]? = some (.cells #[ptr, R'.a, R'.b, R'.c, R'.d, R'.e, R'.f, R'.h, .bool fl'] 119 (0, 0))) (hg : w.grownBy W (some gR)) : RC B w0 W gR ptr R' fl' L p s := by
  refine ⟨h.new, h.low, gb_new h.kept hg (fun j hj => by cases hj; exact h.new), hW, ?_⟩
  rcases h.strm with ⟨gB, h0, h1⟩ | h1
  · refine .inl ⟨gB, h0, h1.other hg ?_ h.new ?_⟩
    · intro e
      obtain ⟨gb, c, -, h2, -⟩ := h1.here
      unfold Rr at h2
      rw [← e, h.box] at h2
      simp at h2
    · intro cur fr e
      rw [h.box] at e
      simp at e
  · exact .inr h1
theorem RC.ch {w W : World} {gR : Nat} {ptr : Value} (hg : w.grownBy W (some gR)) : Ch w W (RSt gR ptr) := Ch.of_gb hg (fun k hk _ => by cases hk; exact .inl rfl)
/-- a block behind the reader's is written -/
theorem RN.far {w0 w w' : World} {g p s k : Nat} {L : List UInt8} (h : RN B w0 w g L p s) (hg : w.grownBy w' (some k)) (hk0 : w0.heap.size ≤ k) (hkB : B ≤ k) : RN B w0 w' g L p s := by
  obtain ⟨gb, c, h1, h2, h3, cur, fr, h4⟩ := h.here
  have hne : gb ≠ k := by omega
  have hlt : gb < w.heap.size := (Array.getElem?_eq_some_iff.1 h4).1
  refine ⟨h.new, gb_new h.kept hg (fun j hj => by cases hj; exact hk0), h.place, h.most, h.bytes, gb, c, h1, ?_, ?_, cur, fr, ?_⟩
  · unfold Rr
    rw [hg.block g h2.cells.2.2.2.2 (by simp; omega)]
    exact h2
  · exact h3.kept hg (.inr (by simp [Value.ownBlock]; exact hne))
  · rw [hg.block gb hlt (by intro e; exact hne (by injection e))]
    exact h4
theorem RC.far {w0 w W : World} {gR p s : Nat} {ptr : Value} {R : Rst} {fl : Bool} {L : List UInt8} {o : Option Nat} (h : RC B w0 w gR ptr R fl L p s) (hg : w.grownBy W o) (ho : ∀ k, o = some k → B ≤ k) : RC B w0 W gR ptr R fl L p s := by
  cases o with
  | none => exact h.keep hg
  | some k =>
    have hk := ho k rfl
    have hlow := h.low
    have hnew := h.new
    refine ⟨h.new, h.low, gb_new h.kept hg (fun j hj => by cases hj; omega), (hg.block gR h.lt (by simp; omega)).trans h.box, ?_⟩
    rcases h.strm with ⟨gB, h0, h1⟩ | h1
    · exact .inl ⟨gB, h0, h1.far hg (by omega) hk⟩
    · exact .inr h1
theorem RC.blocks {w0 w : World} {gR p s : Nat} {ptr : Value} {R : Rst} {fl : Bool} {L : List UInt8} (h : RC B w0 w gR ptr R fl L p s) : ∀ k, RSt gR ptr k → w0.heap.size ≤ k ∧ k < B := by
  rintro k (rfl | rfl)
  · exact ⟨h.new, h.low⟩
  · rcases h.strm with ⟨gB, h0, h1⟩ | ⟨h0, _⟩
    · simp only [Value.pointer.injEq, Option.some.injEq, Addr.mk.injEq, and_true] at h0
      subst h0
      obtain ⟨gb, c, hb, _⟩ := h1.here
      exact ⟨h1.new, hb.2.1⟩
    · cases h0
/-- what n bits come to: there, or a fault -/
def Tkn (L : List UInt8) (s p n : Nat) (fl : Bool) (x p' : Nat) (fl' : Bool) : Prop := (tkO L s p n = some (x, p') ∧ fl' = fl) ∨ (tkO L s p n = none ∧ x = 0 ∧ p' = p ∧ fl' = true)
theorem Tkn.lt {L : List UInt8} {s p n x p' : Nat} {fl fl' : Bool} (h : Tkn L s p n fl x p' fl') : x < 2 ^ n := by
  rcases h with ⟨h, _⟩ | ⟨_, h, _⟩
  · exact (tkO_lt h).1
  · rw [h]; exact Nat.pow_pos (by decide)
theorem rbitsNil (n : Nat) (w : World) : Calls Tryd.prog 101 #[.pointer none, .int .i64 (n : Int)] w fun e w' => ∃ c : Int, e = .returned (.tuple #[.int .u64 0, .int .i64 c]) ∧ c ≠ 0 ∧ w' = w := by
  go_enter Tryd.func101, Tryd.ntmps101
  go_wp2
  go_ret2
  exact ⟨_, rfl, by decide, rfl⟩

/-- Bits of the stream -/
theorem strmBits (w0 w : World) (gR p s n : Nat) (ptr : Value) (R : Rst) (fl : Bool) (L : List UInt8) (h : RC B w0 w gR ptr R fl L p s) (hn : n ≤ 64) (hz : 0 < s ∨ 1 ≤ n ∨ fl = true) :
    Calls Tryd.prog 101 #[ptr, .int .i64 (n : Int)] w fun e w' => ∃ (x p' : Nat) (c : Int), e = .returned (.tuple #[.int .u64 (x : Int), .int .i64 c]) ∧ RC B w0 w' gR ptr R fl L p' s ∧ Tkn L s p n fl x p' (fl || !(c == 0)) ∧ Ch w w' (RSt gR ptr) := by
  rcases h.strm with ⟨gB, h0, h1⟩ | ⟨h0, h1, h2⟩
  · subst h0
    refine (rbitsN w0 w gB p s L (n : Int) h1).mono ?_
    rintro e w' ⟨q1, q2, q3⟩
    have hne : gR ≠ gB := by
      intro e
      obtain ⟨gb, c, -, h2, -⟩ := h1.here
      unfold Rr at h2
      rw [← e, h.box] at h2
      simp at h2
    have hRC : RC B w0 w' gR (.pointer (some ⟨gB, 0, none⟩)) R fl L (rAt p (n : Int) (s - p)) s := ⟨h.new, h.low, q2.kept, by rw [q3.block gR h.lt (by intro e; exact hne (by injection e))]; exact h.box, .inl ⟨gB, rfl, q2⟩⟩
    have hpl := h1.place
    refine ⟨rVal L p (n : Int) (s - p), rAt p (n : Int) (s - p), rCode (n : Int) (s - p), ?_, hRC, ?_, Ch.of_gb q3 (fun k hk _ => by cases hk; exact .inr rfl)⟩
    · rw [q1]
      have hlt : rVal L p (n : Int) (s - p) < 18446744073709551616 := by
        unfold rVal
        split
        · have := natOf_lt (ubits L p (n : Int).toNat)
          rw [ubits_len] at this
          exact Nat.lt_of_lt_of_le this (Nat.pow_le_pow_right (by decide : 2 > 0) (by simpa using hn))
        · decide
      rw [I64_of hlt]
    · unfold Tkn tkO rVal rAt rCode
      have hb : ¬ rBad (n : Int) := by unfold rBad; omega
      rw [if_neg hb, Int.toNat_natCast]
      by_cases hs : s - p < n
      · rw [if_pos hs, if_neg (by omega)]
        exact .inr ⟨rfl, rfl, rfl, by simp⟩
      · rw [if_neg hs, if_pos (by omega)]
        exact .inl ⟨rfl, by simp⟩
  · subst h0
    refine (rbitsNil n w).mono ?_
    rintro e w' ⟨c, q1, q2, q3⟩
    subst q3
    refine ⟨0, p, c, q1, h, ?_, Ch.refl _ _⟩
    have hc : (c == 0) = false := by rw [beq_eq_false_iff_ne]; exact q2
    rw [hc]
    unfold Tkn tkO
    by_cases hn0 : 1 ≤ n
    · rw [if_neg (by omega)]
      exact .inr ⟨rfl, rfl, rfl, by simp⟩
    · have hfl : fl = true := by rcases hz with q | q | q; omega; exact absurd q hn0; exact q
      obtain rfl : n = 0 := by omega
      rw [if_pos (by omega), hfl]
      exact .inl ⟨rfl, rfl⟩

set_option maxHeartbeats 1600000 in
theorem take_any (w0 w : World) (gR p s n : Nat) (ptr : Value) (R : Rst) (fl : Bool) (L : List UInt8) (h : RC B w0 w gR ptr R fl L p s) (hn : n ≤ 64) (hz : 0 < s ∨ 1 ≤ n ∨ fl = true) :
    Calls Tryd.prog 89 #[.pointer (some ⟨gR, 0, none⟩), .int .i64 (n : Int)] w fun e w' => ∃ (x p' : Nat) (fl' : Bool), e = .returned (.int .u64 (x : Int)) ∧ RC B w0 w' gR ptr R fl' L p' s ∧ Tkn L s p n fl x p' fl' ∧ Ch w w' (RSt gR ptr) := by
  have HB := hidJ (strmBits w0 w gR p s n ptr R fl L h hn hz)
  have c0 := h.cell.1
  clear h
  go_enter Tryd.func89, Tryd.ntmps89
  go_wp2_with fail
  refine HB.out.mono ?_
  rintro e w1 ⟨x, p', c, rfl, h1, h2, h3⟩
  have H1 := hidJ (And.intro h1 (And.intro h2 h3))
  have hc := h1.cell
  have c8 := hc.2.2.2.2.2.2.2.2.1
  have f8 := hc.2.2.2.2.2.2.2.2.2 8
  have HE : Hid (∀ b, b = (fl || !(c == 0)) → ∃ (x' p'' : Nat) (fl' : Bool), Ending.returned (.int .u64 (x : Int)) = .returned (.int .u64 (x' : Int)) ∧ RC B w0 (w1.setCell ⟨gR, 8, none⟩ (.bool b)) gR ptr R fl' L p'' s ∧ Tkn L s p n fl x' p'' fl' ∧ Ch w (w1.setCell ⟨gR, 8, none⟩ (.bool b)) (RSt gR ptr)) := by
    intro b hb
    refine ⟨x, p', b, rfl, h1.turned ?_ (gb_set _ _ _ _), by rw [hb]; exact h2, h3.trans (RC.ch (gb_set _ _ _ _)) (fun _ _ e => e)⟩
    have := heap_setCell_same w1 gR 8 _ _ (.bool b) h1.box
    rw [this]
    rfl
  clear h1 h2 h3 hc HB c0 H1
  cases fl with
  | true =>
    go_wp2
    go_ret
    exact HE.out _ (by simp)
  | false =>
    by_cases h0 : c = 0
    · subst h0
      go_wp2
      go_ret
      exact HE.out _ (by simp)
    · have hcb : (c == 0) = false := by rw [beq_eq_false_iff_ne]; exact h0
      have hcn : (c != 0) = true := by simp [h0]
      go_wp2
      go_ret
      exact HE.out _ (by simp [h0])
end Go.Proofs.YtkiefmhampfhoaaDoor

/- CkQ2 -/
namespace Go.Proofs.YtkiefmhampfhoaaDoor
open Go.RowKit
variable {B : Nat}

/-- what a reading of a kind comes to: there, or a fault -/
def Rdg {α : Type} (o : Option (α × Nat)) (fl : Bool) (x : α) (p' : Nat) (fl' : Bool) : Prop := (o = some (x, p') ∧ fl' = fl) ∨ (o = none ∧ fl' = true)
def lenV : Value → Nat
  | .slice _ n _ => n
  | _ => 0
theorem numO_some {L : List UInt8} {s k p x p1 : Nat} (h : tkO L s p 8 = some (x, p1)) (hx : ¬ x < 128) : numO L s (k + 1) p = match numO L s k p1 with | none => none | some (bs, p2) => some (UInt8.ofNat x :: bs, p2) := by
  rw [numO, h]
  simp only [if_neg hx]
  cases numO L s k p1 <;> rfl
theorem numO_last {L : List UInt8} {s k p x p1 : Nat} (h : tkO L s p 8 = some (x, p1)) (hx : x < 128) : numO L s (k + 1) p = some ([UInt8.ofNat x], p1) := by
  rw [numO, h]
  simp only [if_pos hx]
theorem numO_none {L : List UInt8} {s k p : Nat} (h : tkO L s p 8 = none) : numO L s (k + 1) p = none := by
  rw [numO, h]
/-- bytes ahead of a number's rest -/
def NumI (L : List UInt8) (s p : Nat) (bs : List UInt8) (q : Nat) : Prop := q = p + 8 * bs.length ∧ bs.length ≤ s / 8 ∧ numO L s (s / 8 + 1) p = match numO L s (s / 8 + 1 - bs.length) q with | none => none | some (r, p2) => some (bs ++ r, p2)
theorem NumI.start (L : List UInt8) (s p : Nat) : NumI L s p [] p := ⟨by simp, by simp, by
  simp only [List.length_nil, Nat.sub_zero, List.nil_append]
  cases numO L s (s / 8 + 1) p with
  | none => rfl
  | some r => rfl⟩
theorem NumI.step {L : List UInt8} {s p q x p1 : Nat} {bs : List UInt8} (h : NumI L s p bs q) (ht : tkO L s q 8 = some (x, p1)) (hx : ¬ x < 128) : NumI L s p (bs ++ [UInt8.ofNat x]) p1 := by
  obtain ⟨h1, h2, h3⟩ := h
  have hp := tkO_lt ht
  refine ⟨by rw [List.length_append]; simp; omega, by rw [List.length_append]; simp; omega, ?_⟩
  rw [h3]
  obtain ⟨k, hk⟩ : ∃ k, s / 8 + 1 - bs.length = k + 1 := ⟨s / 8 - bs.length, by omega⟩
  have hk2 : s / 8 + 1 - (bs ++ [UInt8.ofNat x]).length = k := by rw [List.length_append]; simp; omega
  rw [hk, hk2, numO_some ht hx]
  cases numO L s k p1 with
  | none => rfl
  | some r => simp
theorem NumI.last {L : List UInt8} {s p q x p1 : Nat} {bs : List UInt8} (h : NumI L s p bs q) (ht : tkO L s q 8 = some (x, p1)) (hx : x < 128) : numO L s (s / 8 + 1) p = some (bs ++ [UInt8.ofNat x], p1) := by
  obtain ⟨h1, h2, h3⟩ := h
  obtain ⟨k, hk⟩ : ∃ k, s / 8 + 1 - bs.length = k + 1 := ⟨s / 8 - bs.length, by omega⟩
  rw [h3, hk, numO_last ht hx]
theorem NumI.none {L : List UInt8} {s p q : Nat} {bs : List UInt8} (h : NumI L s p bs q) (ht : tkO L s q 8 = none) : numO L s (s / 8 + 1) p = .none := by
  obtain ⟨h1, h2, h3⟩ := h
  obtain ⟨k, hk⟩ : ∃ k, s / 8 + 1 - bs.length = k + 1 := ⟨s / 8 - bs.length, by omega⟩
  rw [h3, hk, numO_none ht]
theorem RC.room {w0 w : World} {gR p s : Nat} {ptr : Value} {R : Rst} {fl : Bool} {L : List UInt8} (h : RC B w0 w gR ptr R fl L p s) : s ≤ 8388608 := by
  rcases h.strm with ⟨gB, _, h1⟩ | ⟨_, h1, _⟩
  · exact h1.most
  · omega

set_option maxRecDepth 8000 in
set_option maxHeartbeats 3200000 in
theorem number_any (w0 w : World) (gR p s : Nat) (ptr : Value) (R : Rst) (fl : Bool) (L : List UInt8) (h : RC B w0 w gR ptr R fl L p s) (hB : B ≤ w.heap.size) :
    Calls Tryd.prog 100 #[.pointer (some ⟨gR, 0, none⟩)] w fun e w' => ∃ (v : Value) (bs : List UInt8) (p' : Nat) (fl' : Bool), e = .returned v ∧ Own w' w.heap.size v bs ∧ RC B w0 w' gR ptr R fl' L p' s ∧ Rdg (numO L s (s / 8 + 1) p) fl bs p' fl' ∧ Ch w w' (RSt gR ptr) := by
  have HR := hidJ h
  have hs := h.room
  clear h
  go_enter Tryd.func100, Tryd.ntmps100
  go_wp2
  go_loopw [3] (fun i wr => ∃ n, lenV i = n ∧ n ≤ 1048577 ∧ Hid (∃ bs q, bs.length = n ∧ Own wr w.heap.size i bs ∧ RC B w0 wr gR ptr R fl L q s ∧ NumI L s p bs q ∧ Ch w wr (RSt gR ptr))) (fun i _ => 1048600 - lenV i)
  case atStart => exact ⟨0, rfl, by omega, [], p, rfl, Own.nil _ _, HR.out, NumI.start _ _ _, Ch.refl _ _⟩
  case round =>
    obtain ⟨n, hn, hn2, hr⟩ := hrel
    have hsh : ∃ a c, u3 = .slice a n c := by
      obtain ⟨bs, q, h1, h2, -⟩ := hr.out
      obtain ⟨a, c, h3⟩ := h2.shape
      exact ⟨a, c, by rw [← h1]; exact h3⟩
    obtain ⟨a, c, rfl⟩ := hsh
    have HT : Hid (Calls Tryd.prog 89 #[.pointer (some ⟨gR, 0, none⟩), .int .i64 8] wr fun e w' => ∃ (x : Nat), e = .returned (.int .u64 (x : Int)) ∧ x < 256 ∧ Hid (∃ bs q p' fl', bs.length = n ∧ Own w' w.heap.size (.slice a n c) bs ∧ RC B w0 w' gR ptr R fl' L p' s ∧ NumI L s p bs q ∧ Tkn L s q 8 fl x p' fl' ∧ Ch w w' (RSt gR ptr) ∧ w.heap.size ≤ w'.heap.size)) := by
      obtain ⟨bs, q, h1, h2, h3, h4, h5⟩ := hr.out
      refine (take_any w0 wr gR q s 8 ptr R fl L h3 (by omega) (.inr (.inl (by omega)))).mono ?_
      rintro e w' ⟨x, p', fl', q1, q2, q3, q4⟩
      have hlt := q3.lt
      refine ⟨x, q1, by simpa using hlt, bs, q, p', fl', h1, ?_, q2, h4, q3, h5.trans q4 (fun _ _ e => e), Nat.le_trans h5.size q4.size⟩
      refine ⟨h2.1, ?_⟩
      rcases h2.2 with e0 | ⟨b, cap, cur, e1, e2, e3, e4⟩
      · exact .inl e0
      · have hb : b < wr.heap.size := (Array.getElem?_eq_some_iff.1 e3).1
        refine .inr ⟨b, cap, cur, e1, e2, (q4.block hb (fun e => ?_)).trans e3, e4⟩
        have := (h3.blocks b e).2
        omega
    clear hr hn
    go_wp2_with fail
    refine HT.out.mono ?_
    rintro e w1 ⟨x, rfl, hx, H1⟩
    have hx8 : (x : Int) % 256 = ((UInt8.ofNat x).toNat : Int) := by rw [UInt8.toNat_ofNat']; omega
    have hbt : (UInt8.ofNat x).toNat = x := by rw [UInt8.toNat_ofNat']; omega
    have HX := hidJ (And.intro hx hbt)
    clear HT hx hbt
    obtain ⟨bs, q, p', fl', h1, h2, h3, h4, h5, h6, h7⟩ := H1.out
    have HO := hidJ (And.intro h2 h1)
    have HF : Hid (∀ C v' w', Fr (w1.alloc C) w' (.slice a n c) v' → RC B w0 w' gR ptr R fl' L p' s ∧ Ch w w' (RSt gR ptr)) := by
      intro C v' w' hf
      have hb : ∀ k, (Value.slice a n c).ownBlock = some k → w.heap.size ≤ k := fun k hk => (h2.lt k hk).1
      refine ⟨(h3.keep (alloc_gb _ _)).far hf.1 (fun k hk => Nat.le_trans hB (hb k hk)), ?_⟩
      refine Ch.trans (h6.trans (Ch.of_gb (S := RSt gR ptr) (alloc_gb _ _) (fun k hk => by cases hk)) (fun _ _ e => e)) (Ch.of_gb (S := fun k => w.heap.size ≤ k) hf.1 (fun k hk _ => hb k hk)) (fun k hk e => ?_)
      have : w.heap.size ≤ k := e
      omega
    have HN := hidJ (And.intro h4 h5)
    have hol : bs.length = n := h1
    have hws := h7
    clear H1 h1 h2 h3 h4 h5 h6 h7
    by_cases hlt : x < 128
    · have hbi : ((UInt8.ofNat x).toNat : Int) < 128 := by rw [HX.out.2]; omega
      have HE : Hid (Rdg (numO L s (s / 8 + 1) p) fl (bs ++ [UInt8.ofNat x]) p' fl') := by
        rcases HN.out.2 with ⟨e1, e2⟩ | ⟨e1, -, -, e2⟩
        · exact .inl ⟨HN.out.1.last e1 hlt, e2⟩
        · exact .inr ⟨HN.out.1.none e1, e2⟩
      clear hlt
      generalize UInt8.ofNat x = b1 at *
      go_wp2_with (at_builtin; refine wp_app rfl _ _ rfl w.heap.size _ _ bs [b1] rfl rfl (HO.out.1.keep (alloc_gb _ _)) rd_one ?c1 ?c2 ?_)
      case c1 => first | omega | (simp; omega)
      case c2 => first | omega | (simp; omega)
      intro v' w2 ho' hf'
      have H2 := hidJ (And.intro ho' (HF.out _ _ _ hf'))
      clear ho' hf' HF HO
      go_wp2
      go_ret
      exact ⟨_, _, _, _, rfl, H2.out.1, H2.out.2.1, HE.out, H2.out.2.2⟩
    · have hbi : ¬ ((UInt8.ofNat x).toNat : Int) < 128 := by rw [HX.out.2]; omega
      have HE : Hid (NumI L s p (bs ++ [UInt8.ofNat x]) p' ∧ fl' = fl ∧ (bs ++ [UInt8.ofNat x]).length ≤ s / 8) := by
        rcases HN.out.2 with ⟨e1, e2⟩ | ⟨-, e1, -⟩
        · have := HN.out.1.step e1 hlt
          exact ⟨this, e2, this.2.1⟩
        · omega
      clear hlt
      generalize UInt8.ofNat x = b1 at *
      go_wp2_with (at_builtin; refine wp_app rfl _ _ rfl w.heap.size _ _ bs [b1] rfl rfl (HO.out.1.keep (alloc_gb _ _)) rd_one ?c3 ?c4 ?_)
      case c3 => first | omega | (simp; omega)
      case c4 => first | omega | (simp; omega)
      intro v' w2 ho' hf'
      have hlv : lenV v' = n + 1 := by
        obtain ⟨a', c', e⟩ := ho'.shape
        rw [e]
        show (bs ++ [b1]).length = n + 1
        rw [List.length_append, hol]
        rfl
      have hF := HF.out _ _ _ hf'
      rw [HE.out.2.1] at hF
      have H2 : Hid (∃ bs q, bs.length = n + 1 ∧ Own w2 w.heap.size v' bs ∧ RC B w0 w2 gR ptr R fl L q s ∧ NumI L s p bs q ∧ Ch w w2 (RSt gR ptr)) := ⟨bs ++ [b1], p', by rw [List.length_append, hol]; rfl, ho', hF.1, HE.out.1, hF.2⟩
      have hn3 : n + 1 ≤ 1048577 := by
        have := HE.out.2.2
        rw [List.length_append, hol] at this
        simp at this
        omega
      have HL := hidJ hlv
      clear ho' hf' HF HO hF HE hlv
      go_wp2
      go_roundw
      case rel => exact ⟨n + 1, HL.out, hn3, H2⟩
      case measure => rw [HL.out]; show 1048600 - (n + 1) < 1048600 - n; omega
end Go.Proofs.YtkiefmhampfhoaaDoor

/- CkQ3 -/
namespace Go.Proofs.YtkiefmhampfhoaaDoor
open Go.RowKit
variable {B : Nat}

def timeZ (L : List UInt8) (s p : Nat) : Option (Int × Nat) := match numO L s (s / 8 + 1) p with
  | none => none
  | some (bs, p1) => if (uSpec bs 0).2.2 = 0 then some (uz (BitVec.ofNat 64 (uSpec bs 0).1).toNat, p1) else none
def gapZ (L : List UInt8) (s p : Nat) : Option (Int × Nat) := match numO L s (s / 8 + 1) p with
  | none => none
  | some (bs, p1) => if (uSpec bs 0).2.2 = 0 then some (wrap64 (I64 (BitVec.ofNat 64 (uSpec bs 0).1)), p1) else none
theorem RC.ofCh {w w' : World} {gR : Nat} {ptr : Value} (h : Ch w w' (RSt gR ptr)) (W : World) (hW : W = w') : Ch w W (RSt gR ptr) := by rw [hW]; exact h
/-- the fault is written -/
theorem RC.fault {w0 w : World} {gR p s : Nat} {ptr : Value} {R : Rst} {fl : Bool} {L : List UInt8} (h : RC B w0 w gR ptr R fl L p s) (b : Bool) : RC B w0 (w.setCell ⟨gR, 8, none⟩ (.bool b)) gR ptr R b L p s := by
  refine h.turned ?_ (gb_set _ _ _ _)
  have := heap_setCell_same w gR 8 _ _ (.bool b) h.box
  rw [this]
  rfl

set_option maxHeartbeats 1600000 in
theorem time_any (w0 w : World) (gR p s : Nat) (ptr : Value) (R : Rst) (fl : Bool) (L : List UInt8) (h : RC B w0 w gR ptr R fl L p s) (hB : B ≤ w.heap.size) :
    Calls Tryd.prog 88 #[.pointer (some ⟨gR, 0, none⟩)] w fun e w' => ∃ (T : Int) (p' : Nat) (fl' : Bool), e = .returned (.int .i64 T) ∧ (-9223372036854775808 ≤ T ∧ T ≤ 9223372036854775807) ∧ RC B w0 w' gR ptr R fl' L p' s ∧ Rdg (timeZ L s p) fl T p' fl' ∧ Ch w w' (RSt gR ptr) := by
  have HN := hidJ (number_any w0 w gR p s ptr R fl L h hB)
  clear h
  go_enter Tryd.func88, Tryd.ntmps88
  go_wp2_with fail
  refine HN.out.mono ?_
  rintro e w1 ⟨v, bs, p', fl1, rfl, h1, h2, h3, h4⟩
  have HI := hidJ (i_any v bs 0 w1 h1.rd)
  obtain ⟨a, c, rfl⟩ := h1.shape
  unfold tup3i at HI
  have HZ : Hid (∀ b, b = (fl1 || !((uSpec bs 0).2.2 == 0)) → Rdg (timeZ L s p) fl (uz (BitVec.ofNat 64 (uSpec bs 0).1).toNat) p' b) := by
    intro b hb
    unfold timeZ
    rcases h3 with ⟨e1, e2⟩ | ⟨e1, e2⟩
    · rw [e1]
      simp only
      by_cases h0 : (uSpec bs 0).2.2 = 0
      · rw [if_pos h0]
        exact .inl ⟨rfl, by rw [hb, h0, e2]; simp⟩
      · rw [if_neg h0]
        exact .inr ⟨rfl, by rw [hb]; simp [h0]⟩
    · rw [e1]
      exact .inr ⟨rfl, by rw [hb, e2]; simp⟩
  have hTb : -9223372036854775808 ≤ uz (BitVec.ofNat 64 (uSpec bs 0).1).toNat ∧ uz (BitVec.ofNat 64 (uSpec bs 0).1).toNat ≤ 9223372036854775807 := by
    have := (BitVec.ofNat 64 (uSpec bs 0).1).isLt
    unfold uz
    split <;> omega
  have H1 := hidJ (And.intro h2 h4)
  have hc := h2.cell
  have c8 := hc.2.2.2.2.2.2.2.2.1
  have f8 := hc.2.2.2.2.2.2.2.2.2 8
  clear h1 h2 h3 h4 hc HN
  generalize uz (BitVec.ofNat 64 (uSpec bs 0).1).toNat = T at *
  generalize (uSpec bs 0).2.1 = r2 at *
  generalize (uSpec bs 0).2.2 = r3 at *
  go_wp2_with fail
  refine HI.out.mono ?_
  rintro e w2 ⟨rfl, hw2⟩
  have hw2 := hw2.symm
  subst hw2
  have HE : Hid (∀ b, b = (fl1 || !(r3 == 0)) → ∃ (T' : Int) (p'' : Nat) (fl' : Bool), Ending.returned (.int .i64 T) = .returned (.int .i64 T') ∧ (-9223372036854775808 ≤ T' ∧ T' ≤ 9223372036854775807) ∧ RC B w0 (w1.setCell ⟨gR, 8, none⟩ (.bool b)) gR ptr R fl' L p'' s ∧ Rdg (timeZ L s p) fl T' p'' fl' ∧ Ch w (w1.setCell ⟨gR, 8, none⟩ (.bool b)) (RSt gR ptr)) := by
    intro b hb
    exact ⟨T, p', b, rfl, hTb, H1.out.1.fault b, HZ.out b hb, H1.out.2.trans (RC.ch (gb_set _ _ _ _)) (fun _ _ e => e)⟩
  clear HI HZ H1
  cases fl1 with
  | true =>
    go_wp2
    go_ret
    exact HE.out _ (by simp)
  | false =>
    by_cases h0 : r3 = 0
    · subst h0
      go_wp2
      go_ret
      exact HE.out _ (by simp)
    · have hcb : (r3 == 0) = false := by rw [beq_eq_false_iff_ne]; exact h0
      have hcn : (r3 != 0) = true := by simp [h0]
      go_wp2
      go_ret
      exact HE.out _ (by simp [h0])

set_option maxHeartbeats 1600000 in
theorem gap_any (w0 w : World) (gR p s : Nat) (ptr : Value) (R : Rst) (fl : Bool) (L : List UInt8) (h : RC B w0 w gR ptr R fl L p s) (hB : B ≤ w.heap.size) :
    Calls Tryd.prog 90 #[.pointer (some ⟨gR, 0, none⟩)] w fun e w' => ∃ (T : Int) (p' : Nat) (fl' : Bool), e = .returned (.int .i64 T) ∧ (-9223372036854775808 ≤ T ∧ T ≤ 9223372036854775807) ∧ RC B w0 w' gR ptr R fl' L p' s ∧ Rdg (gapZ L s p) fl T p' fl' ∧ Ch w w' (RSt gR ptr) := by
  have HN := hidJ (number_any w0 w gR p s ptr R fl L h hB)
  clear h
  go_enter Tryd.func90, Tryd.ntmps90
  go_wp2_with fail
  refine HN.out.mono ?_
  rintro e w1 ⟨v, bs, p', fl1, rfl, h1, h2, h3, h4⟩
  have HI := hidJ (u_any v bs 0 w1 h1.rd)
  obtain ⟨a, c, rfl⟩ := h1.shape
  unfold tup3 at HI
  have HZ : Hid (∀ b, b = (fl1 || !((uSpec bs 0).2.2 == 0)) → Rdg (gapZ L s p) fl (wrap64 (I64 (BitVec.ofNat 64 (uSpec bs 0).1))) p' b) := by
    intro b hb
    unfold gapZ
    rcases h3 with ⟨e1, e2⟩ | ⟨e1, e2⟩
    · rw [e1]
      simp only
      by_cases h0 : (uSpec bs 0).2.2 = 0
      · rw [if_pos h0]
        exact .inl ⟨rfl, by rw [hb, h0, e2]; simp⟩
      · rw [if_neg h0]
        exact .inr ⟨rfl, by rw [hb]; simp [h0]⟩
    · rw [e1]
      exact .inr ⟨rfl, by rw [hb, e2]; simp⟩
  have HTb : Hid (-9223372036854775808 ≤ wrap64 (I64 (BitVec.ofNat 64 (uSpec bs 0).1)) ∧ wrap64 (I64 (BitVec.ofNat 64 (uSpec bs 0).1)) ≤ 9223372036854775807) := by
    show -9223372036854775808 ≤ wrap64 (I64 (BitVec.ofNat 64 (uSpec bs 0).1)) ∧ wrap64 (I64 (BitVec.ofNat 64 (uSpec bs 0).1)) ≤ 9223372036854775807
    unfold wrap64
    omega
  have H1 := hidJ (And.intro h2 h4)
  have hc := h2.cell
  have c8 := hc.2.2.2.2.2.2.2.2.1
  have f8 := hc.2.2.2.2.2.2.2.2.2 8
  clear h1 h2 h3 h4 hc HN
  generalize BitVec.ofNat 64 (uSpec bs 0).1 = U at *
  generalize (uSpec bs 0).2.1 = r2 at *
  generalize (uSpec bs 0).2.2 = r3 at *
  go_wp2_with fail
  refine HI.out.mono ?_
  rintro e w2 ⟨rfl, hw2⟩
  have hw2 := hw2.symm
  subst hw2
  have HE : Hid (∀ b, b = (fl1 || !(r3 == 0)) → ∃ (T' : Int) (p'' : Nat) (fl' : Bool), Ending.returned (.int .i64 (wrap64 (I64 U))) = .returned (.int .i64 T') ∧ (-9223372036854775808 ≤ T' ∧ T' ≤ 9223372036854775807) ∧ RC B w0 (w1.setCell ⟨gR, 8, none⟩ (.bool b)) gR ptr R fl' L p'' s ∧ Rdg (gapZ L s p) fl T' p'' fl' ∧ Ch w (w1.setCell ⟨gR, 8, none⟩ (.bool b)) (RSt gR ptr)) := by
    intro b hb
    exact ⟨_, p', b, rfl, HTb.out, H1.out.1.fault b, HZ.out b hb, H1.out.2.trans (RC.ch (gb_set _ _ _ _)) (fun _ _ e => e)⟩
  clear HI HZ H1
  cases fl1 with
  | true =>
    go_wp2
    go_ret
    exact HE.out _ (by simp)
  | false =>
    by_cases h0 : r3 = 0
    · subst h0
      go_wp2
      go_ret
      exact HE.out _ (by simp)
    · have hcb : (r3 == 0) = false := by rw [beq_eq_false_iff_ne]; exact h0
      have hcn : (r3 != 0) = true := by simp [h0]
      go_wp2
      go_ret
      exact HE.out _ (by simp [h0])

theorem tw_two (z : Nat) (h : z ≤ 4) : tw z = 0 ∨ tw z = 14 ∨ tw z = 17 ∨ tw z = 20 ∨ tw z = 64 := by
  rcases (show z = 0 ∨ z = 1 ∨ z = 2 ∨ z = 3 ∨ z = 4 by omega) with rfl | rfl | rfl | rfl | rfl <;> simp [tw]
theorem ofR_any (v k : Nat) (hk : k = 0 ∨ k = 14 ∨ k = 17 ∨ k = 20 ∨ k = 64) (hv : v < 2 ^ k) (w : World) :
    Calls Tryd.prog 104 #[.int .u64 (v : Int), .int .i64 (k : Int)] w fun e w' => e = .returned (.int .i64 (ofRk v k)) ∧ w' = w := by
  rcases hk with rfl | rfl | rfl | rfl | rfl
  · obtain rfl : v = 0 := by simpa using hv
    go_enter Tryd.func104, Tryd.ntmps104
    go_wp2
    go_ret
    exact ⟨rfl, rfl⟩
  · show Calls Tryd.prog 104 #[.int .u64 (v : Int), .int .i64 14] w _
    have hv2 : v < 16384 := hv
    by_cases h1 : (8192 : Int) < (v : Int)
    · have HE : Hid ((v : Int) - 16384 = ofRk v 14) := by
        show (v : Int) - 16384 = ofRk v 14
        unfold ofRk
        rw [if_neg (by decide), if_pos (by simp only [show (2 : Nat) ^ (14 - 1) = 8192 by decide]; omega)]
        simp only [show (2 : Nat) ^ 14 = 16384 by decide]
        omega
      generalize ofRk v 14 = r at *
      go_enter Tryd.func104, Tryd.ntmps104
      go_wp2
      go_ret
      exact ⟨ret_int HE.out, rfl⟩
    · have HE : Hid ((v : Int) = ofRk v 14) := by
        show (v : Int) = ofRk v 14
        unfold ofRk
        rw [if_neg (by decide), if_neg (by simp only [show (2 : Nat) ^ (14 - 1) = 8192 by decide]; omega)]
      generalize ofRk v 14 = r at *
      go_enter Tryd.func104, Tryd.ntmps104
      go_wp2
      go_ret
      exact ⟨ret_int HE.out, rfl⟩
  · show Calls Tryd.prog 104 #[.int .u64 (v : Int), .int .i64 17] w _
    have hv2 : v < 131072 := hv
    by_cases h1 : (65536 : Int) < (v : Int)
    · have HE : Hid ((v : Int) - 131072 = ofRk v 17) := by
        show (v : Int) - 131072 = ofRk v 17
        unfold ofRk
        rw [if_neg (by decide), if_pos (by simp only [show (2 : Nat) ^ (17 - 1) = 65536 by decide]; omega)]
        simp only [show (2 : Nat) ^ 17 = 131072 by decide]
        omega
      generalize ofRk v 17 = r at *
      go_enter Tryd.func104, Tryd.ntmps104
      go_wp2
      go_ret
      exact ⟨ret_int HE.out, rfl⟩
    · have HE : Hid ((v : Int) = ofRk v 17) := by
        show (v : Int) = ofRk v 17
        unfold ofRk
        rw [if_neg (by decide), if_neg (by simp only [show (2 : Nat) ^ (17 - 1) = 65536 by decide]; omega)]
      generalize ofRk v 17 = r at *
      go_enter Tryd.func104, Tryd.ntmps104
      go_wp2
      go_ret
      exact ⟨ret_int HE.out, rfl⟩
  · show Calls Tryd.prog 104 #[.int .u64 (v : Int), .int .i64 20] w _
    have hv2 : v < 1048576 := hv
    by_cases h1 : (524288 : Int) < (v : Int)
    · have HE : Hid ((v : Int) - 1048576 = ofRk v 20) := by
        show (v : Int) - 1048576 = ofRk v 20
        unfold ofRk
        rw [if_neg (by decide), if_pos (by simp only [show (2 : Nat) ^ (20 - 1) = 524288 by decide]; omega)]
        simp only [show (2 : Nat) ^ 20 = 1048576 by decide]
        omega
      generalize ofRk v 20 = r at *
      go_enter Tryd.func104, Tryd.ntmps104
      go_wp2
      go_ret
      exact ⟨ret_int HE.out, rfl⟩
    · have HE : Hid ((v : Int) = ofRk v 20) := by
        show (v : Int) = ofRk v 20
        unfold ofRk
        rw [if_neg (by decide), if_neg (by simp only [show (2 : Nat) ^ (20 - 1) = 524288 by decide]; omega)]
      generalize ofRk v 20 = r at *
      go_enter Tryd.func104, Tryd.ntmps104
      go_wp2
      go_ret
      exact ⟨ret_int HE.out, rfl⟩
  · show Calls Tryd.prog 104 #[.int .u64 (v : Int), .int .i64 64] w _
    have HE : Hid (wrap64 (v : Int) = ofRk v 64) := by
      show wrap64 (v : Int) = ofRk v 64
      unfold ofRk
      rw [if_pos rfl]
    generalize ofRk v 64 = r at *
    go_enter Tryd.func104, Tryd.ntmps104
    go_wp2
    go_ret
    exact ⟨ret_int HE.out, rfl⟩
end Go.Proofs.YtkiefmhampfhoaaDoor

/- CkQ4 -/
namespace Go.Proofs.YtkiefmhampfhoaaDoor
open Go.RowKit
variable {B : Nat}

theorem trnO_one {L : List UInt8} {s k p p1 : Nat} (h : tkO L s p 1 = some (1, p1)) : trnO L s (k + 1) p = match trnO L s k p1 with | none => none | some (j, p2) => some (j + 1, p2) := by
  rw [trnO, h]
  simp only [if_true]
  cases trnO L s k p1 <;> rfl
theorem trnO_end {L : List UInt8} {s k p p1 x : Nat} (h : tkO L s p 1 = some (x, p1)) (hx : x ≠ 1) : trnO L s (k + 1) p = some (0, p1) := by
  rw [trnO, h]
  simp only [if_neg hx]
theorem trnO_none {L : List UInt8} {s k p : Nat} (h : tkO L s p 1 = none) : trnO L s (k + 1) p = none := by
  rw [trnO, h]
def TrnI (L : List UInt8) (s p z q : Nat) : Prop := trnO L s 4 p = match trnO L s (4 - z) q with | none => none | some (j, p2) => some (j + z, p2)
theorem TrnI.start (L : List UInt8) (s p : Nat) : TrnI L s p 0 p := by
  unfold TrnI
  cases trnO L s (4 - 0) p with
  | none => rfl
  | some r => rfl
theorem TrnI.step {L : List UInt8} {s p z q p1 : Nat} (h : TrnI L s p z q) (hz : z < 4) (ht : tkO L s q 1 = some (1, p1)) : TrnI L s p (z + 1) p1 := by
  unfold TrnI at *
  obtain ⟨k, hk⟩ : ∃ k, 4 - z = k + 1 := ⟨3 - z, by omega⟩
  rw [h, hk, show 4 - (z + 1) = k by omega, trnO_one ht]
  cases trnO L s k p1 with
  | none => rfl
  | some r => simp only [Option.some.injEq, Prod.mk.injEq, and_true]; omega
theorem TrnI.full {L : List UInt8} {s p q : Nat} (h : TrnI L s p 4 q) : trnO L s 4 p = some (4, q) := by
  unfold TrnI at h
  rw [h]
  rfl
theorem TrnI.last {L : List UInt8} {s p z q p1 x : Nat} (h : TrnI L s p z q) (hz : z < 4) (ht : tkO L s q 1 = some (x, p1)) (hx : x ≠ 1) : trnO L s 4 p = some (z, p1) := by
  unfold TrnI at h
  obtain ⟨k, hk⟩ : ∃ k, 4 - z = k + 1 := ⟨3 - z, by omega⟩
  rw [h, hk, trnO_end ht hx]
  simp
theorem TrnI.none {L : List UInt8} {s p z q : Nat} (h : TrnI L s p z q) (hz : z < 4) (ht : tkO L s q 1 = .none) : trnO L s 4 p = .none := by
  unfold TrnI at h
  obtain ⟨k, hk⟩ : ∃ k, 4 - z = k + 1 := ⟨3 - z, by omega⟩
  rw [h, hk, trnO_none ht]
theorem TabC.ch {w w' : World} {S : Nat → Prop} (h : TabC w) (hc : Ch w w' S) (hf : ¬ S 1) : TabC w' := fun j hj => by
  rw [← h j hj]
  exact World.cell?_of_block (hc.block (block_lt (h j hj)) hf)

set_option maxRecDepth 8000 in
set_option maxHeartbeats 3200000 in
theorem turnR_any (w0 w : World) (gR p s : Nat) (ptr : Value) (R : Rst) (fl : Bool) (L : List UInt8) (h : RC B w0 w gR ptr R fl L p s) (hT : TabC w0) :
    Calls Tryd.prog 92 #[.pointer (some ⟨gR, 0, none⟩)] w fun e w' => ∃ (d : Int) (p' : Nat) (fl' : Bool), e = .returned (.int .i64 d) ∧ RC B w0 w' gR ptr R fl' L p' s ∧ Rdg (turnO L s p) fl d p' fl' ∧ Ch w w' (RSt gR ptr) := by
  have HR := hidJ (And.intro h hT)
  clear h hT
  go_enter Tryd.func92, Tryd.ntmps92
  go_wp2
  go_loopw [3] (fun i wr => ∃ z : Nat, z ≤ 4 ∧ i = .int .i64 z ∧ Hid (∃ q, RC B w0 wr gR ptr R fl L q s ∧ TrnI L s p z q ∧ Ch w wr (RSt gR ptr))) (fun i _ => 4 - (intOf i).toNat)
  case atStart => exact ⟨0, by omega, rfl, p, HR.out.1, TrnI.start _ _ _, Ch.refl _ _⟩
  case round =>
    obtain ⟨z, hz, rfl, hr⟩ := hrel
    by_cases hlt : z < 4
    · have hzi : (z : Int) < 4 := by omega
      have HT : Hid (Calls Tryd.prog 89 #[.pointer (some ⟨gR, 0, none⟩), .int .i64 1] wr fun e w' => ∃ (x : Nat), e = .returned (.int .u64 (x : Int)) ∧ Hid (∃ q p' fl', RC B w0 w' gR ptr R fl' L p' s ∧ TrnI L s p z q ∧ Tkn L s q 1 fl x p' fl' ∧ Ch w w' (RSt gR ptr))) := by
        obtain ⟨q, h1, h2, h3⟩ := hr.out
        refine (take_any w0 wr gR q s 1 ptr R fl L h1 (by omega) (.inr (.inl (by omega)))).mono ?_
        rintro e w' ⟨x, p', fl', g1, g2, g3, g4⟩
        exact ⟨x, g1, q, p', fl', g2, h2, g3, h3.trans g4 (fun _ _ e => e)⟩
      clear hr
      go_wp2_with fail
      refine HT.out.mono ?_
      rintro e W1 ⟨x, rfl, H1⟩
      clear HT
      by_cases hx : x = 1
      · subst hx
        have H2 : Hid (∃ q, RC B w0 W1 gR ptr R fl L q s ∧ TrnI L s p (z + 1) q ∧ Ch w W1 (RSt gR ptr)) := by
          obtain ⟨q, p', fl', h1, h2, h3, h4⟩ := H1.out
          rcases h3 with ⟨e1, e2⟩ | ⟨-, e1, -⟩
          · rw [e2] at h1
            exact ⟨p', h1, h2.step hlt e1, h4⟩
          · cases e1
        clear H1
        go_wp2
        go_roundw
        case rel => exact ⟨z + 1, by omega, by go_num, H2⟩
        case measure => simp [intOf]; omega
      · have hxb : ((x : Int) == 1) = false := by rw [beq_eq_false_iff_ne]; omega
        have hxi : ¬ (x : Int) = 1 := by omega
        have HX1 : Hid (∃ q1 fl1, RC B w0 W1 gR ptr R fl1 L q1 s ∧ ((trnO L s 4 p = some (z, q1) ∧ fl1 = fl) ∨ (trnO L s 4 p = none ∧ fl1 = true)) ∧ Ch w W1 (RSt gR ptr) ∧ (0 < s ∨ 1 ≤ tw z ∨ fl1 = true)) := by
          obtain ⟨q, p', fl', h1, h2, h3, h4⟩ := H1.out
          rcases h3 with ⟨e1, e2⟩ | ⟨e1, -, -, e2⟩
          · exact ⟨p', fl', h1, .inl ⟨h2.last hlt e1 hx, e2⟩, h4, .inl (by have := tkO_lt e1; omega)⟩
          · exact ⟨p', fl', h1, .inr ⟨h2.none hlt e1, e2⟩, h4, .inr (.inr e2)⟩
        have HTb1 : Hid (TabC W1) := by
          obtain ⟨q, p', fl', h1, -⟩ := H1.out
          exact HR.out.2.keep h1.kept
        clear H1
        have hzb : z ≤ 4 := by omega
        have t0 : W1.cell? ⟨1, z, none⟩ = some (.int .i64 (tw z : Int)) := HTb1.out z (by omega)
        have HT2 : Hid (Calls Tryd.prog 89 #[.pointer (some ⟨gR, 0, none⟩), .int .i64 (tw z : Int)] W1 fun e w' => ∃ (x : Nat), e = .returned (.int .u64 (x : Int)) ∧ x < 2 ^ tw z ∧ Hid (∃ (p' : Nat) (fl' : Bool), RC B w0 w' gR ptr R fl' L p' s ∧ Rdg (turnO L s p) fl (ofRk x (tw z)) p' fl' ∧ Ch w w' (RSt gR ptr))) := by
          obtain ⟨q1, fl1, e1, e2, e3, e4⟩ := HX1.out
          refine (take_any w0 W1 gR q1 s (tw z) ptr R fl1 L e1 (tw_le z) e4).mono ?_
          rintro e w' ⟨x, p', fl', g1, g2, g3, g4⟩
          refine ⟨x, g1, g3.lt, p', fl', g2, ?_, e3.trans g4 (fun _ _ e => e)⟩
          unfold turnO
          rcases e2 with ⟨r1, r2⟩ | ⟨r1, r2⟩
          · rw [r1]
            simp only
            rcases g3 with ⟨k1, k2⟩ | ⟨k1, -, -, k2⟩
            · rw [k1]
              exact .inl ⟨rfl, by rw [k2, r2]⟩
            · rw [k1]
              exact .inr ⟨rfl, k2⟩
          · rw [r1]
            refine .inr ⟨rfl, ?_⟩
            rcases g3 with ⟨-, k2⟩ | ⟨-, -, -, k2⟩
            · rw [k2, r2]
            · exact k2
        have HOf : Hid (∀ x W, x < 2 ^ tw z → Calls Tryd.prog 104 #[.int .u64 ((x : Nat) : Int), .int .i64 (tw z : Int)] W fun e w' => e = .returned (.int .i64 (ofRk x (tw z))) ∧ w' = W) := fun x W hx => ofR_any x (tw z) (tw_two z hzb) hx W
        generalize tw z = wz at *
        go_wp2_with fail
        refine HT2.out.mono ?_
        rintro e w3 ⟨x3, rfl, hx3, H3⟩
        clear HT2
        go_wp2_with fail
        refine (HOf.out _ _ hx3).mono ?_
        rintro e w4 ⟨rfl, hw4⟩
        have hw4 := hw4.symm
        subst hw4
        clear HOf hx3
        generalize ofRk x3 wz = d3 at *
        go_wp2
        go_ret
        obtain ⟨p', fl', k1, k2, k3⟩ := H3.out
        exact ⟨_, p', fl', rfl, k1, k2, k3⟩
    · have hzi : ¬ (z : Int) < 4 := by omega
      have HX2 : Hid (∃ q1 fl1, RC B w0 wr gR ptr R fl1 L q1 s ∧ ((trnO L s 4 p = some (z, q1) ∧ fl1 = fl) ∨ (trnO L s 4 p = none ∧ fl1 = true)) ∧ Ch w wr (RSt gR ptr) ∧ (0 < s ∨ 1 ≤ tw z ∨ fl1 = true)) := by
        obtain rfl : z = 4 := by omega
        obtain ⟨q, h1, h2, h3⟩ := hr.out
        exact ⟨q, fl, h1, .inl ⟨h2.full, rfl⟩, h3, .inr (.inl (by decide))⟩
      have HTb2 : Hid (TabC wr) := by
        obtain ⟨q, h1, -⟩ := hr.out
        exact HR.out.2.keep h1.kept
      clear hr
      have hzb : z ≤ 4 := by omega
      have t0 : wr.cell? ⟨1, z, none⟩ = some (.int .i64 (tw z : Int)) := HTb2.out z (by omega)
      have HT2 : Hid (Calls Tryd.prog 89 #[.pointer (some ⟨gR, 0, none⟩), .int .i64 (tw z : Int)] wr fun e w' => ∃ (x : Nat), e = .returned (.int .u64 (x : Int)) ∧ x < 2 ^ tw z ∧ Hid (∃ (p' : Nat) (fl' : Bool), RC B w0 w' gR ptr R fl' L p' s ∧ Rdg (turnO L s p) fl (ofRk x (tw z)) p' fl' ∧ Ch w w' (RSt gR ptr))) := by
        obtain ⟨q1, fl1, e1, e2, e3, e4⟩ := HX2.out
        refine (take_any w0 wr gR q1 s (tw z) ptr R fl1 L e1 (tw_le z) e4).mono ?_
        rintro e w' ⟨x, p', fl', g1, g2, g3, g4⟩
        refine ⟨x, g1, g3.lt, p', fl', g2, ?_, e3.trans g4 (fun _ _ e => e)⟩
        unfold turnO
        rcases e2 with ⟨r1, r2⟩ | ⟨r1, r2⟩
        · rw [r1]
          simp only
          rcases g3 with ⟨k1, k2⟩ | ⟨k1, -, -, k2⟩
          · rw [k1]
            exact .inl ⟨rfl, by rw [k2, r2]⟩
          · rw [k1]
            exact .inr ⟨rfl, k2⟩
        · rw [r1]
          refine .inr ⟨rfl, ?_⟩
          rcases g3 with ⟨-, k2⟩ | ⟨-, -, -, k2⟩
          · rw [k2, r2]
          · exact k2
      have HOf : Hid (∀ x W, x < 2 ^ tw z → Calls Tryd.prog 104 #[.int .u64 ((x : Nat) : Int), .int .i64 (tw z : Int)] W fun e w' => e = .returned (.int .i64 (ofRk x (tw z))) ∧ w' = W) := fun x W hx => ofR_any x (tw z) (tw_two z hzb) hx W
      generalize tw z = wz at *
      go_wp2_with fail
      refine HT2.out.mono ?_
      rintro e w3 ⟨x3, rfl, hx3, H3⟩
      clear HT2
      go_wp2_with fail
      refine (HOf.out _ _ hx3).mono ?_
      rintro e w4 ⟨rfl, hw4⟩
      have hw4 := hw4.symm
      subst hw4
      clear HOf hx3
      generalize ofRk x3 wz = d3 at *
      go_wp2
      go_ret
      obtain ⟨p', fl', k1, k2, k3⟩ := H3.out
      exact ⟨_, p', fl', rfl, k1, k2, k3⟩
end Go.Proofs.YtkiefmhampfhoaaDoor
