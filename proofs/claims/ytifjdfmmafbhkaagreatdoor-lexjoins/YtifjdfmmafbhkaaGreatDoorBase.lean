/-
  Bytes in memory, what stays and what grows, and 32 bits as a bit vector: plain facts that the walks of this seat lean on; nothing of the program is in it.
-/
import Derived.WalkKit
import Derived.WalkSpells
import Derived.WalkLawsBesides
import Derived.Deep.DeepAppendWide
import Derived.Deep.AppendSrc
namespace Go.Proofs.YtifjdfmmafbhkaaGreatDoor
open Go.RowKit

theorem ret_int {k : IntKind} {a b : Int} (h : a = b) : Ending.returned (.int k a) = .returned (.int k b) := by rw [h]

/-! ### bytes -/
/-- a byte as a cell -/
def bv (b : UInt8) : Value := .int .u8 (b.toNat : Int)

/-- the address leads to these bytes -/
def RdA (w : World) (a : Option Addr) (l : List UInt8) : Prop :=
  ∀ j, j < l.length → ∃ b o, a = some ⟨b, o, none⟩ ∧ w.cell? ⟨b, o + j, none⟩ = some (.int .u8 ((l.getD j 0).toNat : Int))

/-- the value is a slice that reads as these bytes -/
def Rd (w : World) (v : Value) (l : List UInt8) : Prop :=
  ∃ a c, v = .slice a l.length c ∧ l.length ≤ c ∧ c ≤ maxLen ∧ RdA w a l ∧ (a = none → c = 0)

theorem Rd.le {w : World} {v : Value} {l : List UInt8} (h : Rd w v l) : l.length ≤ maxLen := by
  obtain ⟨a, c, _, h1, h2, _⟩ := h; omega

theorem Rd.nil (w : World) : Rd w (.slice none 0 0) [] := ⟨none, 0, rfl, Nat.le_refl _, by simp [maxLen], fun j hj => by simp at hj, fun _ => rfl⟩

theorem gb_refl (w : World) (g : Option Nat) : w.grownBy w g := ⟨rfl, rfl, rfl, Nat.le_refl _, fun _ _ _ => rfl⟩
theorem gb_drew (w : World) (g : Option Nat) : w.grownBy w.drew g := ⟨rfl, rfl, rfl, Nat.le_refl _, fun _ _ _ => rfl⟩

theorem gb_trans {w w1 w2 : World} {g g' : Option Nat} (h1 : w.grownBy w1 g) (h2 : w1.grownBy w2 g') (hg : ∀ k, g' = some k → k < w.heap.size → some k = g) : w.grownBy w2 g :=
  ⟨h2.os.trans h1.os, h2.tape.trans h1.tape, h2.output.trans h1.output, Nat.le_trans h1.size h2.size, fun k hk hne =>
    (h2.block k (Nat.lt_of_lt_of_le hk h1.size) (fun e => hne (hg k e.symm hk))).trans (h1.block k hk hne)⟩

theorem gb_none {w w1 w2 : World} {g : Option Nat} (h1 : w.grownBy w1 g) (h2 : w1.grownBy w2 none) : w.grownBy w2 g := gb_trans h1 h2 (fun _ h => by cases h)

/-- what is new at the call and written later -/
theorem gb_new {w w1 w2 : World} {g g' : Option Nat} (h1 : w.grownBy w1 g) (h2 : w1.grownBy w2 g') (hg : ∀ k, g' = some k → w.heap.size ≤ k) : w.grownBy w2 g :=
  gb_trans h1 h2 (fun k hk hlt => by have := hg k hk; omega)

theorem gb_below {w w1 : World} (h : w.grownBy w1 none) : Below w.heap.size w w1 := (Below.refl _ w).grown h (Nat.le_refl _) (fun _ hk => by cases hk)
theorem gb_of_below {w w1 : World} (h : Below w.heap.size w w1) : w.grownBy w1 none := ⟨h.os, h.tape, h.output, h.size, fun k hk _ => h.block k hk⟩

theorem block_lt {w : World} {b o : Nat} {u : Value} (h : w.cell? ⟨b, o, none⟩ = some u) : b < w.heap.size := by
  by_cases hb : b < w.heap.size
  · exact hb
  · exfalso
    have : w.heap[b]? = none := by simp; omega
    simp [World.cell?, this] at h

theorem RdA.kept {w w' : World} {a : Option Addr} {l : List UInt8} {g : Option Nat} (h : RdA w a l) (hg : w.grownBy w' g) (hne : ∀ x, a = some x → some x.block ≠ g) : RdA w' a l := by
  intro j hj
  obtain ⟨b, o, rfl, hc⟩ := h j hj
  refine ⟨b, o, rfl, ?_⟩
  rw [← hc]
  exact World.cell?_of_block (hg.block b (block_lt hc) (hne _ rfl))

theorem Rd.kept {w w' : World} {v : Value} {l : List UInt8} {g : Option Nat} (h : Rd w v l) (hg : w.grownBy w' g) (hne : g = none ∨ v.ownBlock ≠ g) : Rd w' v l := by
  obtain ⟨a, c, rfl, h1, h2, h3, h4⟩ := h
  refine ⟨a, c, rfl, h1, h2, h3.kept hg ?_, h4⟩
  rintro x rfl
  rcases hne with rfl | hne
  · simp
  · exact hne

theorem Rd.keep {w w' : World} {v : Value} {l : List UInt8} (h : Rd w v l) (hg : w.grownBy w' none) : Rd w' v l := h.kept hg (.inl rfl)

/-- THE CALL's OWN: a row at the head of a block of its own, from 'base' on. -/
def Own (w : World) (base : Nat) (v : Value) (l : List UInt8) : Prop := w.ownsRow base 5 1 v l.length (l.map bv)

theorem Own.nil (w : World) (base : Nat) : Own w base (.slice none 0 0) [] := World.ownsRow_nil w base _ _

theorem Own.lt {w : World} {base : Nat} {v : Value} {l : List UInt8} (h : Own w base v l) : ∀ k, v.ownBlock = some k → base ≤ k ∧ k < w.heap.size := World.ownsRow.lt h

theorem Own.mono {w : World} {base base' : Nat} {v : Value} {l : List UInt8} (h : Own w base v l) (hb : base' ≤ base) : Own w base' v l := by
  obtain ⟨h1, h2⟩ := h
  refine ⟨h1, ?_⟩
  rcases h2 with h2 | ⟨g, cap, cur, hv, hg, r⟩
  · exact .inl h2
  · exact .inr ⟨g, cap, cur, hv, by omega, r⟩

theorem getD_map_bv {l : List UInt8} {j : Nat} (hj : j < l.length) : (l.map bv)[j]? = some (.int .u8 ((l.getD j 0).toNat : Int)) := by
  simp [hj, bv]

theorem Own.rd {w : World} {base : Nat} {v : Value} {l : List UInt8} (h : Own w base v l) : Rd w v l := by
  rcases h.2 with ⟨rfl, hn⟩ | ⟨g, cap, cur, rfl, hg, hh, hnc, hcm, hcs, ht⟩
  · have : l = [] := List.eq_nil_of_length_eq_zero hn
    subst this
    exact Rd.nil w
  · refine ⟨_, _, rfl, hnc, hcm, ?_, fun h => by cases h⟩
    intro j hj
    refine ⟨g, 0, rfl, ?_⟩
    have := World.ownsRow.cellAt h j (by omega)
    rw [Nat.zero_add, this]
    exact getD_map_bv hj

theorem Own.kept {w w' : World} {base : Nat} {v : Value} {l : List UInt8} {g : Option Nat} (h : Own w base v l) (hg : w.grownBy w' g) (hne : v.ownBlock = none ∨ v.ownBlock ≠ g) : Own w' base v l := World.ownsRow.kept h hg hne
theorem Own.keep {w w' : World} {base : Nat} {v : Value} {l : List UInt8} (h : Own w base v l) (hg : w.grownBy w' none) : Own w' base v l := by
  refine World.ownsRow.kept h hg ?_
  cases hv : v.ownBlock with
  | none => exact .inl rfl
  | some k => exact .inr (by simp)

theorem Own.shape {w : World} {base : Nat} {v : Value} {l : List UInt8} (h : Own w base v l) : ∃ a c, v = .slice a l.length c := by
  rcases h.2 with ⟨rfl, hn⟩ | ⟨g, cap, cur, rfl, _⟩
  · exact ⟨none, 0, by rw [hn]⟩
  · exact ⟨_, _, rfl⟩

/-- a row of its own that has bytes: its shape, and each of them -/
theorem Own.form {w : World} {base : Nat} {v : Value} {l : List UInt8} (h : Own w base v l) (hl : l ≠ []) : ∃ g cap, v = .slice (some ⟨g, 0, none⟩) l.length cap ∧ base ≤ g ∧ g < w.heap.size ∧ l.length ≤ cap ∧ cap ≤ maxLen ∧ ∀ j, j < l.length → w.cell? ⟨g, j, none⟩ = some (.int .u8 ((l.getD j 0).toNat : Int)) := by
  have h0 := h
  rcases h.2 with ⟨rfl, hn⟩ | ⟨g, cap, cur, rfl, hg, hh, hnc, hcm, hcs, ht⟩
  · exact absurd (List.eq_nil_of_length_eq_zero hn) hl
  · refine ⟨g, cap, rfl, hg, (Array.getElem?_eq_some_iff.1 hh).1, hnc, hcm, fun j hj => ?_⟩
    have := World.ownsRow.cellAt h0 j (by omega)
    rw [this]
    exact getD_map_bv hj

theorem Rd.ownBlock_lt {w : World} {v : Value} {l : List UInt8} (h : Rd w v l) (hl : l ≠ []) : ∀ k, v.ownBlock = some k → k < w.heap.size := by
  obtain ⟨a, c, rfl, h1, h2, h3, h4⟩ := h
  intro k hk
  obtain ⟨b, o, rfl, hc⟩ := h3 0 (List.length_pos_iff.2 hl)
  simp [Value.ownBlock] at hk
  subst hk
  exact block_lt hc

/-- a slice that is only read stays readable while a NEW row is written -/
theorem Rd.far {w w1 w2 : World} {v : Value} {l : List UInt8} {g : Option Nat} (h : Rd w v l) (h1 : w.grownBy w1 none) (h2 : w1.grownBy w2 g) (hg : ∀ k, g = some k → w.heap.size ≤ k) : Rd w2 v l := by
  have h3 : w.grownBy w2 none := gb_new h1 h2 hg
  exact h.keep h3

theorem oneCell_bv (l : List UInt8) : ∀ u ∈ l.map bv, u.oneCell' = true := by
  intro u hu
  obtain ⟨x, _, rfl⟩ := List.mem_map.1 hu
  rfl

/-- what an append finds at a slice that is read -/
theorem RdA.news {w : World} {a : Addr} {l : List UInt8} (h : RdA w (some a) l) : ∀ j u, (l.map bv)[j]? = some u → w.cell? (a.add j) = some u := by
  intro j u hj
  have hlt : j < l.length := by
    have := List.getElem?_eq_some_iff.1 hj
    simpa using this.1
  obtain ⟨b, o, hb, hc⟩ := h j hlt
  cases hb
  rw [getD_map_bv hlt] at hj
  cases hj
  rw [Go.WideShapes.add_plain]
  exact hc

theorem growfit {n m : Nat} (h : n + m ≤ 175921860444160) : ((n + m) + (n + m) / 4 + 192) * 1 ≤ 281474976710656 := by omega

/-! ### 32 bits -/
def I32 (x : BitVec 32) : Int := x.toNat
theorem I32_lt (x : BitVec 32) : I32 x < 4294967296 := by have := x.isLt; simp only [I32]; omega
theorem I32_nonneg (x : BitVec 32) : 0 ≤ I32 x := by simp only [I32]; omega
theorem I32_inj {x y : BitVec 32} (h : I32 x = I32 y) : x = y := by
  apply BitVec.eq_of_toNat_eq
  simp only [I32] at h
  omega
theorem I32_xor (x y : BitVec 32) : bits .xor .u32 (I32 x) (I32 y) = I32 (x ^^^ y) := by
  have hx := x.isLt
  have hy := y.isLt
  simp only [I32]
  rw [u32_xor_nat _ _ hx hy, BitVec.toNat_xor]
theorem I32_and (x y : BitVec 32) : bits .and .u32 (I32 x) (I32 y) = I32 (x &&& y) := by
  have hx := x.isLt
  have hy := y.isLt
  simp only [I32]
  rw [u32_and_nat _ _ hx hy, BitVec.toNat_and]
theorem I32_or (x y : BitVec 32) : bits .or .u32 (I32 x) (I32 y) = I32 (x ||| y) := by
  have hx := x.isLt
  have hy := y.isLt
  simp only [I32]
  rw [u32_or_nat _ _ hx hy, BitVec.toNat_or]
theorem I32_not (x : BitVec 32) : bits .xor .u32 IntKind.u32.max (I32 x) = I32 (~~~ x) := by
  have h := I32_xor (BitVec.allOnes 32) x
  have e : I32 (BitVec.allOnes 32) = IntKind.u32.max := by decide
  rw [e, BitVec.allOnes_xor] at h
  exact h
theorem I32_mod (x : BitVec 32) : I32 x % 4294967296 = I32 x := by
  have := I32_lt x
  have := I32_nonneg x
  omega
theorem I32_and15 (x : BitVec 32) : bits .and .u32 (I32 x) 15 = ((x.toNat % 16 : Nat) : Int) := by
  have h := I32_and x 15#32
  have e : I32 15#32 = 15 := by decide
  rw [e] at h
  rw [h]
  simp only [I32, BitVec.toNat_and]
  congr 1
  exact Nat.and_two_pow_sub_one_eq_mod _ 4
theorem I32_shr4 (x : BitVec 32) : I32 x / (16 : Int) = I32 (x >>> 4) := by
  simp only [I32, BitVec.toNat_ushiftRight, Nat.shiftRight_eq_div_pow]
  omega
theorem I32_shr1 (x : BitVec 32) : I32 x / (2 : Int) = I32 (x >>> 1) := by
  simp only [I32, BitVec.toNat_ushiftRight, Nat.shiftRight_eq_div_pow]
  omega
theorem I32_byte (b : UInt8) : (b.toNat : Int) = I32 (BitVec.ofNat 32 b.toNat) := by
  have := b.toNat_lt
  simp only [I32, BitVec.toNat_ofNat]
  omega
end Go.Proofs.YtifjdfmmafbhkaaGreatDoor
