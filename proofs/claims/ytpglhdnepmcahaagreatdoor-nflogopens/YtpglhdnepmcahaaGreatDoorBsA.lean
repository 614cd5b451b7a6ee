/-
  Base, Laws, in one text.
-/
import Derived.WalkKit
import Derived.WalkSpells
import Derived.WalkLawsBesides
import Derived.Deep.DeepAppendWide
import Derived.Deep.AppendSrc
import Derived.Test.YtpglhdnepmcahaaGreatDoorProg
import Derived.Laws.CopyOwn
/- Base -/
namespace Go.Proofs.YtpglhdnepmcahaaGreatDoor
open Go.RowKit

theorem ret_int {k : IntKind} {a b : Int} (h : a = b) : Ending.returned (.int k a) = .returned (.int k b) := by rw [h]

/-! ### bytes -/
/-- a byte as a cell -/
def bv (b : UInt8) : Value := .int .u8 (b.toNat : Int)

/-- the address leads to these bytes -/
def RdA (w : World) (a : Option Addr) (l : List UInt8) : Prop :=
  ∀ j, j < l.length → ∃ b o, a = some ⟨b, o, none⟩ ∧ w.cell? ⟨b, o + j, none⟩ = some (.int .u8 ((l.getD j 0).toNat : Int))

/-- the value is a slice that reads as these bytes -/
def Rd (w : World) (v : Value) (l : List UInt8) : Prop :=
  ∃ a c, v = .slice a l.length c ∧ l.length ≤ c ∧ c ≤ maxLen ∧ RdA w a l ∧ (a = none → c = 0)

theorem Rd.le {w : World} {v : Value} {l : List UInt8} (h : Rd w v l) : l.length ≤ maxLen := by
  obtain ⟨a, c, _, h1, h2, _⟩ := h; omega

theorem Rd.nil (w : World) : Rd w (.slice none 0 0) [] := ⟨none, 0, rfl, Nat.le_refl _, by simp [maxLen], fun j hj => by simp at hj, fun _ => rfl⟩

theorem gb_refl (w : World) (g : Option Nat) : w.grownBy w g := ⟨rfl, rfl, rfl, Nat.le_refl _, fun _ _ _ => rfl⟩
theorem gb_drew (w : World) (g : Option Nat) : w.grownBy w.drew g := ⟨rfl, rfl, rfl, Nat.le_refl _, fun _ _ _ => rfl⟩

theorem gb_trans {w w1 w2 : World} {g g' : Option Nat} (h1 : w.grownBy w1 g) (h2 : w1.grownBy w2 g') (hg : ∀ k, g' = some k → k < w.heap.size → some k = g) : w.grownBy w2 g :=
  ⟨h2.os.trans h1.os, h2.tape.trans h1.tape, h2.output.trans h1.output, Nat.le_trans h1.size h2.size, fun k hk hne =>
    (h2.block k (Nat.lt_of_lt_of_le hk h1.size) (fun e => hne (hg k e.symm hk))).trans (h1.block k hk hne)⟩

theorem gb_none {w w1 w2 : World} {g : Option Nat} (h1 : w.grownBy w1 g) (h2 : w1.grownBy w2 none) : w.grownBy w2 g := gb_trans h1 h2 (fun _ h => by cases h)

/-- what is new at the call and written later -/
theorem gb_new {w w1 w2 : World} {g g' : Option Nat} (h1 : w.grownBy w1 g) (h2 : w1.grownBy w2 g') (hg : ∀ k, g' = some k → w.heap.size ≤ k) : w.grownBy w2 g :=
  gb_trans h1 h2 (fun k hk hlt => by have := hg k hk; omega)

theorem gb_below {w w1 : World} (h : w.grownBy w1 none) : Below w.heap.size w w1 := (Below.refl _ w).grown h (Nat.le_refl _) (fun _ hk => by cases hk)
theorem gb_of_below {w w1 : World} (h : Below w.heap.size w w1) : w.grownBy w1 none := ⟨h.os, h.tape, h.output, h.size, fun k hk _ => h.block k hk⟩

theorem block_lt {w : World} {b o : Nat} {u : Value} (h : w.cell? ⟨b, o, none⟩ = some u) : b < w.heap.size := by
  by_cases hb : b < w.heap.size
  · exact hb
  · exfalso
    have : w.heap[b]? = none := by simp; omega
    simp [World.cell?, this] at h

theorem RdA.kept {w w' : World} {a : Option Addr} {l : List UInt8} {g : Option Nat} (h : RdA w a l) (hg : w.grownBy w' g) (hne : ∀ x, a = some x → some x.block ≠ g) : RdA w' a l := by
  intro j hj
  obtain ⟨b, o, rfl, hc⟩ := h j hj
  refine ⟨b, o, rfl, ?_⟩
  rw [← hc]
  exact World.cell?_of_block (hg.block b (block_lt hc) (hne _ rfl))

theorem Rd.kept {w w' : World} {v : Value} {l : List UInt8} {g : Option Nat} (h : Rd w v l) (hg : w.grownBy w' g) (hne : g = none ∨ v.ownBlock ≠ g) : Rd w' v l := by
  obtain ⟨a, c, rfl, h1, h2, h3, h4⟩ := h
  refine ⟨a, c, rfl, h1, h2, h3.kept hg ?_, h4⟩
  rintro x rfl
  rcases hne with rfl | hne
  · simp
  · exact hne

theorem Rd.keep {w w' : World} {v : Value} {l : List UInt8} (h : Rd w v l) (hg : w.grownBy w' none) : Rd w' v l := h.kept hg (.inl rfl)

/-- THE CALL's OWN: a row at the head of a block of its own, from 'base' on. -/
def Own (w : World) (base : Nat) (v : Value) (l : List UInt8) : Prop := w.ownsRow base 5 1 v l.length (l.map bv)

theorem Own.nil (w : World) (base : Nat) : Own w base (.slice none 0 0) [] := World.ownsRow_nil w base _ _

theorem Own.lt {w : World} {base : Nat} {v : Value} {l : List UInt8} (h : Own w base v l) : ∀ k, v.ownBlock = some k → base ≤ k ∧ k < w.heap.size := World.ownsRow.lt h

theorem Own.mono {w : World} {base base' : Nat} {v : Value} {l : List UInt8} (h : Own w base v l) (hb : base' ≤ base) : Own w base' v l := by
  obtain ⟨h1, h2⟩ := h
  refine ⟨h1, ?_⟩
  rcases h2 with h2 | ⟨g, cap, cur, hv, hg, r⟩
  · exact .inl h2
  · exact .inr ⟨g, cap, cur, hv, by omega, r⟩

theorem getD_map_bv {l : List UInt8} {j : Nat} (hj : j < l.length) : (l.map bv)[j]? = some (.int .u8 ((l.getD j 0).toNat : Int)) := by
  simp [hj, bv]

theorem Own.rd {w : World} {base : Nat} {v : Value} {l : List UInt8} (h : Own w base v l) : Rd w v l := by
  rcases h.2 with ⟨rfl, hn⟩ | ⟨g, cap, cur, rfl, hg, hh, hnc, hcm, hcs, ht⟩
  · have : l = [] := List.eq_nil_of_length_eq_zero hn
    subst this
    exact Rd.nil w
  · refine ⟨_, _, rfl, hnc, hcm, ?_, fun h => by cases h⟩
    intro j hj
    refine ⟨g, 0, rfl, ?_⟩
    have := World.ownsRow.cellAt h j (by omega)
    rw [Nat.zero_add, this]
    exact getD_map_bv hj

theorem Own.kept {w w' : World} {base : Nat} {v : Value} {l : List UInt8} {g : Option Nat} (h : Own w base v l) (hg : w.grownBy w' g) (hne : v.ownBlock = none ∨ v.ownBlock ≠ g) : Own w' base v l := World.ownsRow.kept h hg hne
theorem Own.keep {w w' : World} {base : Nat} {v : Value} {l : List UInt8} (h : Own w base v l) (hg : w.grownBy w' none) : Own w' base v l := by
  refine World.ownsRow.kept h hg ?_
  cases hv : v.ownBlock with
  | none => exact .inl rfl
  | some k => exact .inr (by simp)

theorem Own.shape {w : World} {base : Nat} {v : Value} {l : List UInt8} (h : Own w base v l) : ∃ a c, v = .slice a l.length c := by
  rcases h.2 with ⟨rfl, hn⟩ | ⟨g, cap, cur, rfl, _⟩
  · exact ⟨none, 0, by rw [hn]⟩
  · exact ⟨_, _, rfl⟩

/-- a row of its own that has bytes: its shape, and each of them -/
theorem Own.form {w : World} {base : Nat} {v : Value} {l : List UInt8} (h : Own w base v l) (hl : l ≠ []) : ∃ g cap, v = .slice (some ⟨g, 0, none⟩) l.length cap ∧ base ≤ g ∧ g < w.heap.size ∧ l.length ≤ cap ∧ cap ≤ maxLen ∧ ∀ j, j < l.length → w.cell? ⟨g, j, none⟩ = some (.int .u8 ((l.getD j 0).toNat : Int)) := by
  have h0 := h
  rcases h.2 with ⟨rfl, hn⟩ | ⟨g, cap, cur, rfl, hg, hh, hnc, hcm, hcs, ht⟩
  · exact absurd (List.eq_nil_of_length_eq_zero hn) hl
  · refine ⟨g, cap, rfl, hg, (Array.getElem?_eq_some_iff.1 hh).1, hnc, hcm, fun j hj => ?_⟩
    have := World.ownsRow.cellAt h0 j (by omega)
    rw [this]
    exact getD_map_bv hj

theorem Rd.ownBlock_lt {w : World} {v : Value} {l : List UInt8} (h : Rd w v l) (hl : l ≠ []) : ∀ k, v.ownBlock = some k → k < w.heap.size := by
  obtain ⟨a, c, rfl, h1, h2, h3, h4⟩ := h
  intro k hk
  obtain ⟨b, o, rfl, hc⟩ := h3 0 (List.length_pos_iff.2 hl)
  simp [Value.ownBlock] at hk
  subst hk
  exact block_lt hc

/-- a slice that is only read stays readable while a NEW row is written -/
theorem Rd.far {w w1 w2 : World} {v : Value} {l : List UInt8} {g : Option Nat} (h : Rd w v l) (h1 : w.grownBy w1 none) (h2 : w1.grownBy w2 g) (hg : ∀ k, g = some k → w.heap.size ≤ k) : Rd w2 v l := by
  have h3 : w.grownBy w2 none := gb_new h1 h2 hg
  exact h.keep h3

theorem oneCell_bv (l : List UInt8) : ∀ u ∈ l.map bv, u.oneCell' = true := by
  intro u hu
  obtain ⟨x, _, rfl⟩ := List.mem_map.1 hu
  rfl

/-- what an append finds at a slice that is read -/
theorem RdA.news {w : World} {a : Addr} {l : List UInt8} (h : RdA w (some a) l) : ∀ j u, (l.map bv)[j]? = some u → w.cell? (a.add j) = some u := by
  intro j u hj
  have hlt : j < l.length := by
    have := List.getElem?_eq_some_iff.1 hj
    simpa using this.1
  obtain ⟨b, o, hb, hc⟩ := h j hlt
  cases hb
  rw [getD_map_bv hlt] at hj
  cases hj
  rw [Go.WideShapes.add_plain]
  exact hc

theorem growfit {n m : Nat} (h : n + m ≤ 175921860444160) : ((n + m) + (n + m) / 4 + 192) * 1 ≤ 281474976710656 := by omega

/-! ### 32 bits -/
def I32 (x : BitVec 32) : Int := x.toNat
theorem I32_lt (x : BitVec 32) : I32 x < 4294967296 := by have := x.isLt; simp only [I32]; omega
theorem I32_nonneg (x : BitVec 32) : 0 ≤ I32 x := by simp only [I32]; omega
theorem I32_inj {x y : BitVec 32} (h : I32 x = I32 y) : x = y := by
  apply BitVec.eq_of_toNat_eq
  simp only [I32] at h
  omega
theorem I32_xor (x y : BitVec 32) : bits .xor .u32 (I32 x) (I32 y) = I32 (x ^^^ y) := by
  have hx := x.isLt
  have hy := y.isLt
  simp only [I32]
  rw [u32_xor_nat _ _ hx hy, BitVec.toNat_xor]
theorem I32_and (x y : BitVec 32) : bits .and .u32 (I32 x) (I32 y) = I32 (x &&& y) := by
  have hx := x.isLt
  have hy := y.isLt
  simp only [I32]
  rw [u32_and_nat _ _ hx hy, BitVec.toNat_and]
theorem I32_or (x y : BitVec 32) : bits .or .u32 (I32 x) (I32 y) = I32 (x ||| y) := by
  have hx := x.isLt
  have hy := y.isLt
  simp only [I32]
  rw [u32_or_nat _ _ hx hy, BitVec.toNat_or]
theorem I32_not (x : BitVec 32) : bits .xor .u32 IntKind.u32.max (I32 x) = I32 (~~~ x) := by
  have h := I32_xor (BitVec.allOnes 32) x
  have e : I32 (BitVec.allOnes 32) = IntKind.u32.max := by decide
  rw [e, BitVec.allOnes_xor] at h
  exact h
theorem I32_mod (x : BitVec 32) : I32 x % 4294967296 = I32 x := by
  have := I32_lt x
  have := I32_nonneg x
  omega
theorem I32_and15 (x : BitVec 32) : bits .and .u32 (I32 x) 15 = ((x.toNat % 16 : Nat) : Int) := by
  have h := I32_and x 15#32
  have e : I32 15#32 = 15 := by decide
  rw [e] at h
  rw [h]
  simp only [I32, BitVec.toNat_and]
  congr 1
  exact Nat.and_two_pow_sub_one_eq_mod _ 4
theorem I32_shr4 (x : BitVec 32) : I32 x / (16 : Int) = I32 (x >>> 4) := by
  simp only [I32, BitVec.toNat_ushiftRight, Nat.shiftRight_eq_div_pow]
  omega
theorem I32_shr1 (x : BitVec 32) : I32 x / (2 : Int) = I32 (x >>> 1) := by
  simp only [I32, BitVec.toNat_ushiftRight, Nat.shiftRight_eq_div_pow]
  omega
theorem I32_byte (b : UInt8) : (b.toNat : Int) = I32 (BitVec.ofNat 32 b.toNat) := by
  have := b.toNat_lt
  simp only [I32, BitVec.toNat_ofNat]
  omega
end Go.Proofs.YtpglhdnepmcahaaGreatDoor

/- Laws -/
namespace Go.Proofs.YtpglhdnepmcahaaGreatDoor
open Go.RowKit

theorem infoB : (Tryz.prog.info? 5).map (fun i => (i.zero, i.size, i.bytes)) = some (some (.int .u8 0), 1, 1) := by kernel_rfl
theorem sizeB : (Tryz.prog.info? 5).map (·.size) = some 1 := by kernel_rfl

/-- what a call that may write and move one row of its own leaves of the rest -/
def Fr (w w' : World) (v v' : Value) : Prop := w.grownBy w' v.ownBlock ∧ ∀ k, v'.ownBlock = some k → some k = v.ownBlock ∨ w.heap.size ≤ k
theorem Fr.refl (w : World) (v : Value) : Fr w w v v := ⟨gb_refl _ _, fun _ h => .inl h.symm⟩
theorem Fr.trans {w w1 w2 : World} {v v1 v2 : Value} (h1 : Fr w w1 v v1) (h2 : Fr w1 w2 v1 v2) : Fr w w2 v v2 := by
  refine ⟨gb_trans h1.1 h2.1 (fun k hk hlt => ?_), fun k hk => ?_⟩
  · rcases h1.2 k hk with h | h
    · exact h
    · omega
  · rcases h2.2 k hk with h | h
    · exact h1.2 k h.symm
    · exact .inr (Nat.le_trans h1.1.size h)
/-- a row that is new at the call -/
theorem Fr.new {w w1 w2 : World} {v v' : Value} (h1 : w.grownBy w1 none) (h2 : Fr w1 w2 v v') (hv : ∀ k, v.ownBlock = some k → w.heap.size ≤ k) : w.grownBy w2 none := gb_new h1 h2.1 hv
/-- in between new blocks came -/
theorem Fr.pre {w w1 w2 : World} {v v' : Value} (h1 : w.grownBy w1 none) (h2 : Fr w1 w2 v v') : Fr w w2 v v' :=
  ⟨gb_trans (g := v.ownBlock) ⟨h1.os, h1.tape, h1.output, h1.size, fun k hk _ => h1.block k hk (by simp)⟩ h2.1 (fun _ hk _ => hk.symm), fun k hk => (h2.2 k hk).imp id (fun h => Nat.le_trans h1.size h)⟩
theorem gb_any {w w1 : World} (h1 : w.grownBy w1 none) (g : Option Nat) : w.grownBy w1 g := ⟨h1.os, h1.tape, h1.output, h1.size, fun k hk _ => h1.block k hk (by simp)⟩

/-- APPEND, run: whatever is appended is readable. -/
theorem run_app (w : World) (ty : TypeId) (base : Nat) (v : Value) (l : List UInt8) (hown : Own w base v l) (x : Value) (m : List UInt8) (hx : Rd w x m)
    (hsz : l.length + m.length ≤ 175921860444160) (hbase : base ≤ w.heap.size) :
    ∃ v' w', (Builtin.append_ #[42, 42] ty #[v, x]).run Tryz.prog w = .ok v' w' ∧ Own w' base v' (l ++ m) ∧ Fr w w' v v' := by
  obtain ⟨i0, hi, hz0, hz1, hz2⟩ := info_parts infoB
  obtain ⟨a, c, rfl, hmc, hcm, hra, hnil⟩ := hx
  cases a with
  | none =>
    have hm0 : m = [] := by
      have := hnil rfl
      exact List.eq_nil_of_length_eq_zero (by omega)
    subst hm0
    have := hnil rfl
    subst this
    refine ⟨v, w, run_append_owned_none w base 42 ty 5 i0 1 Tryz.underlying42 hi v l.length _ hown, by simpa using hown, Fr.refl _ _⟩
  | some ad =>
    have hlen : (m.map bv).length = m.length * 1 := by simp
    obtain ⟨v', w', hr, ho, hg, _⟩ := run_append_own_wide (P := Tryz.prog) w base 42 ty 5 i0 (.int .u8 0) 1 1 Tryz.underlying42 hi hz0 hz1 hz2 rfl (by decide) v l.length (l.map bv) hown
      ad m.length c (m.map bv) hlen hra.news (oneCell_bv m) (by unfold maxLen; omega) (by omega) hbase
    refine ⟨v', w', hr, ?_, hg, ?_⟩
    · have : Own w' base v' (l ++ m) = w'.ownsRow base 5 1 v' (l.length + m.length) (l.map bv ++ m.map bv) := by simp [Own]
      rw [this]
      exact ho
    · intro k hk
      rcases hown.2 with ⟨rfl, hn⟩ | ⟨g, cap, cur, rfl, hbg, hh, hnc, hcm', hcs, htake⟩
      · by_cases hm0 : m.length = 0
        · have hm1 : m = [] := List.eq_nil_of_length_eq_zero hm0
          subst hm1
          rename_i hiff
          have := hiff.2 ⟨rfl, rfl⟩
          subst this
          simp [Value.ownBlock] at hk
        · have hn' := run_append_nil (P := Tryz.prog) w 42 ty 5 i0 (.int .u8 0) Tryz.underlying42 hi hz0 ad m.length c (m.map bv) (by rw [hz1]; exact hlen) hra.news (by omega) (by omega) (by rw [hz2]; omega)
          rw [hr] at hn'
          injection hn' with e1 e2
          subst e1
          simp [Value.ownBlock] at hk
          exact .inr (by omega)
      · by_cases hroom : l.length + m.length ≤ cap
        · have hn' := run_append_room (P := Tryz.prog) w 42 ty 5 i0 Tryz.underlying42 hi g l.length cap cur hh ad m.length c (m.map bv) (by rw [hz1]; exact hlen) hra.news (oneCell_bv m) hroom (by rw [hz1, hlen, hcs]; omega)
          rw [hr] at hn'
          injection hn' with e1 e2
          subst e1
          exact .inl (by simpa [Value.ownBlock] using hk.symm)
        · have hn' := run_append_grow (P := Tryz.prog) w 42 ty 5 i0 (.int .u8 0) Tryz.underlying42 hi hz0 ⟨g, 0, none⟩ l.length cap (l.map bv) (by rw [hz1]; simp) (World.ownsRow.cells hown rfl) ad m.length c (m.map bv) (by rw [hz1]; exact hlen) hra.news (by omega) (by omega) (by rw [hz2]; exact growslice_fits_wide (by omega) (by omega))
          rw [hr] at hn'
          injection hn' with e1 e2
          subst e1
          simp [Value.ownBlock] at hk
          exact .inr (by omega)

/-- APPEND, for the walk. -/
theorem wp_app {w : World} {ops : Array Oper} {rest : List Oper} {o : Oper} {a : Act} {Q : Exit → Act → World → Prop} (hgd : o.guard = none) (s x : Operand)
    (ho : o.op = .call { callee := .builtin .append, args := #[s, x], argTypes := #[42, 42] })
    (base : Nat) (v xv : Value) (l m : List UInt8) (hs : a.eval s = v) (hx : a.eval x = xv) (hown : Own w base v l) (hr : Rd w xv m) (hsz : l.length + m.length ≤ 175921860444160) (hbase : base ≤ w.heap.size)
    (h : ∀ v' w', Own w' base v' (l ++ m) → Fr w w' v v' → wpList Tryz.prog ops Q rest (a.put o.dst v') w') : wpList Tryz.prog ops Q (o :: rest) a w := by
  refine wpList_plain hgd fun K hK => ?_
  obtain ⟨v', w', hrun, h2, h3⟩ := run_app w o.type base v l hown xv m hr hsz hbase
  unfold Oper.wp execOp
  simp only [ho, resolve, invoke, builtin, Sem.run_bind, Sem.run_pure, Result.andThen_ok, List.map_toArray, List.map_cons, List.map_nil, hs, hx, hrun]
  exact hK _ _ (h v' w' h2 h3)

theorem made_zeros (n c : Nat) (h : n ≤ c) : (madeCells #[Value.int .u8 0] c).toList.take n = (List.replicate n (0 : UInt8)).map bv := by
  rw [toList_madeCells_one, List.take_replicate, List.map_replicate]
  have : min n c = n := by omega
  rw [this]
  rfl

/-- MAKE, for the walk. -/
theorem wp_make {w : World} {ops : Array Oper} {rest : List Oper} {o : Oper} {a : Act} {Q : Exit → Act → World → Prop} (hgd : o.guard = none) (ol oc : Operand)
    (ho : o.op = Op.makeSlice 42 ol oc) (base : Nat) (kl kc : IntKind) (L C : Int) (n c : Nat) (hl : a.eval ol = .int kl L) (hc : a.eval oc = .int kc C) (hL : L = (n : Int)) (hC : C = (c : Int)) (hnc : n ≤ c)
    (hsz : c ≤ 281474976710656) (hbase : base ≤ w.heap.size)
    (h : ∀ w', Own w' base (.slice (some ⟨w.heap.size, 0, none⟩) n c) (List.replicate n 0) → w.grownBy w' none → w'.heap.size = w.heap.size + 1 → wpList Tryz.prog ops Q rest (a.put o.dst (.slice (some ⟨w.heap.size, 0, none⟩) n c)) w') :
    wpList Tryz.prog ops Q (o :: rest) a w := by
  refine wpList_plain hgd fun K hK => ?_
  obtain ⟨i0, hi, hz0, hz1, hz2⟩ := info_parts infoB
  have hrun := run_make (P := Tryz.prog) w 42 5 i0 (.int .u8 0) Tryz.underlying42 hi hz0 kl kc (n : Int) (c : Int) (by omega) (by omega) (by rw [hz2]; omega) (by omega)
  rw [hz1] at hrun
  simp only [Int.toNat_natCast, Nat.mul_one] at hrun
  subst hL
  subst hC
  unfold Oper.wp
  simp [execOp, ho, hl, hc, hrun, Result.andThen]
  refine hK _ _ (h _ ?_ (World.grownBy_alloc w _ none) (by simp))
  refine ⟨by simp, .inr ⟨w.heap.size, c, _, by simp, hbase, Go.heap_alloc_new w _, by simpa using hnc, by unfold maxLen; omega, ?_, ?_⟩⟩
  · rw [size_madeCells]; simp
  · simp only [List.length_replicate, Nat.mul_one]
    exact made_zeros n c hnc

/-- COPY, for the walk: all of the source goes over. -/
theorem wp_copy {w : World} {ops : Array Oper} {rest : List Oper} {o : Oper} {a : Act} {Q : Exit → Act → World → Prop} (hgd : o.guard = none) (d s : Operand)
    (ho : o.op = .call { callee := .builtin .copy, args := #[d, s], argTypes := #[42, 42] })
    (base : Nat) (v xv : Value) (l m : List UInt8) (hd : a.eval d = v) (hs : a.eval s = xv) (hown : Own w base v l) (hr : Rd w xv m) (hlen : m.length = l.length)
    (h : ∀ w', Own w' base v m → w.grownBy w' v.ownBlock → wpList Tryz.prog ops Q rest (a.put o.dst (goInt m.length)) w') : wpList Tryz.prog ops Q (o :: rest) a w := by
  obtain ⟨sa, c, rfl, hmc, hcm, hra, hnil⟩ := hr
  by_cases h0 : m.length = 0
  · have hm0 : m = [] := List.eq_nil_of_length_eq_zero h0
    have hl0 : l = [] := List.eq_nil_of_length_eq_zero (by omega)
    subst hm0
    subst hl0
    obtain ⟨da, dc, rfl⟩ := hown.shape
    exact wpList_copy_nothing hgd d s _ _ ho 5 Tryz.underlying42 sizeB _ _ _ _ _ _ hd hs (by simp) (h w hown (gb_refl _ _))
  · cases hsa : sa with
    | none => exact absurd (hnil hsa) (by omega)
    | some ad =>
      subst hsa
      rcases hown.2 with ⟨rfl, hn⟩ | ⟨g, cap, cur, rfl, hbg, hh, hnc, hcm', hcs, htake⟩
      · omega
      · refine wpList_copy_own hgd d s _ _ ho 5 Tryz.underlying42 sizeB g 0 l.length cap ad m.length c hd hs cur 5 hh (m.map bv) (by rw [List.length_map, hlen]; simp) hra.news (by simp; omega) (oneCell_bv m) ?_
        have e : (goInt (m.map bv).length) = goInt m.length := by simp
        rw [e]
        refine h _ ⟨by simp, .inr ⟨g, cap, _, by rw [hlen], hbg, setRow_heap w g cur _ 5 _ hh, by omega, hcm', ?_, ?_⟩⟩ ⟨rfl, rfl, rfl, by simp, fun k _ hk => setRow_other w g k _ (fun e => hk (by simp [Value.ownBlock, e]))⟩
        · simp
          omega
        · simp

/-- a literal's bytes, marked or not -/
theorem Rd_lit (w : World) (cs : List UInt8) (n : Nat) (hn : n = cs.length) (hm : cs.length ≤ 175921860444160) (A : Array Value) (hA : A = (cs.map bv).toArray) {fr : Nat × Nat} : Rd (w.alloc (.cells A 5 fr)) (.slice (some ⟨w.heap.size, 0, none⟩) n n) cs := by
  subst hn
  subst hA
  refine ⟨_, _, rfl, Nat.le_refl _, by unfold maxLen; omega, ?_, fun h => by cases h⟩
  intro j hj
  refine ⟨_, _, rfl, ?_⟩
  have hh := Go.heap_alloc_new w (.cells (cs.map bv).toArray 5 fr)
  have := getD_map_bv hj
  simp only [World.cell?, hh, Nat.zero_add]
  simpa using this
end Go.Proofs.YtpglhdnepmcahaaGreatDoor
