/-
  CkW, CkW2, Ck1, Ck2, in one text.
-/
import Derived.Test.YtkiefmhampfhoaaDoorCkPuts
import Derived.Test.YtkiefmhampfhoaaDoorBitsM
import Derived.BigRegion
import Derived.Deep.QuietTactic
import Derived.BigQuiet
import Derived.Laws.Externs
import Derived.WalkMore
import Derived.Deep.RegionHeld3
/- CkW -/
namespace Go.Proofs.YtkiefmhampfhoaaDoor
open Go.RowKit

/-- the cells of a chunk behind its stream -/
structure Rst where
  a : Value
  b : Value
  c : Value
  d : Value
  e : Value
  f : Value
  h : Value
variable {R : Rst}

/-- a writer at block g, whose bytes are v, of these bits -/
def Wr (R : Rst) (w : World) (g : Nat) (v : Value) (bs : List Bool) : Prop := w.heap[g]? = some (.cells #[v, .int .i64 (bs.length : Int), R.a, R.b, R.c, R.d, R.e, R.f, R.h] 68 (0, 0)) ∧ Own w 0 v (pack bs)

/-- what stays when a writer is written -/
structure Fw (w w' : World) (g : Nat) (v v' : Value) : Prop where
  os : w'.os = w.os
  tape : w'.tape = w.tape
  output : w'.output = w.output
  size : w.heap.size ≤ w'.heap.size
  block : ∀ k, k < w.heap.size → k ≠ g → some k ≠ v.ownBlock → w'.heap[k]? = w.heap[k]?
  own : ∀ k, v'.ownBlock = some k → some k = v.ownBlock ∨ w.heap.size ≤ k
theorem Fw.refl (w : World) (g : Nat) (v : Value) : Fw w w g v v := ⟨rfl, rfl, rfl, Nat.le_refl _, fun _ _ _ _ => rfl, fun _ h => .inl h.symm⟩
theorem Fw.trans {w w1 w2 : World} {g : Nat} {v v1 v2 : Value} (h1 : Fw w w1 g v v1) (h2 : Fw w1 w2 g v1 v2) : Fw w w2 g v v2 := by
  refine ⟨h2.os.trans h1.os, h2.tape.trans h1.tape, h2.output.trans h1.output, Nat.le_trans h1.size h2.size, fun k hk hg hv => ?_, fun k hk => ?_⟩
  · refine (h2.block k (Nat.lt_of_lt_of_le hk h1.size) hg (fun e => ?_)).trans (h1.block k hk hg hv)
    rcases h1.own k e.symm with h | h
    · exact hv h
    · omega
  · rcases h2.own k hk with h | h
    · exact h1.own k h.symm
    · exact .inr (Nat.le_trans h1.size h)
/-- what only adds blocks -/
theorem Fw.of_none {w w' : World} (h : w.grownBy w' none) (g : Nat) (v : Value) : Fw w w' g v v := ⟨h.os, h.tape, h.output, h.size, fun k hk _ _ => h.block k hk (by simp), fun _ hk => .inl hk.symm⟩
theorem Wr.cells {w : World} {g : Nat} {v : Value} {bs : List Bool} (h : Wr R w g v bs) : w.cell? ⟨g, 0, none⟩ = some v ∧ w.cell? ⟨g, 1, none⟩ = some (.int .i64 (bs.length : Int)) ∧ w.frozen? ⟨g, 0, none⟩ = false ∧ w.frozen? ⟨g, 1, none⟩ = false ∧ g < w.heap.size := by
  refine ⟨?_, ?_, ?_, ?_, (Array.getElem?_eq_some_iff.1 h.1).1⟩
  · simp [World.cell?, h.1]
  · simp [World.cell?, h.1]
  · simp [World.frozen?, h.1]
  · simp [World.frozen?, h.1]
theorem Wr.apart {w : World} {g : Nat} {v : Value} {bs : List Bool} (h : Wr R w g v bs) : v.ownBlock ≠ some g := by
  rcases h.2.2 with ⟨rfl, _⟩ | ⟨g', cap, cur, rfl, _, hh, _⟩
  · simp [Value.ownBlock]
  · intro he
    simp only [Value.ownBlock, Option.some.injEq] at he
    subst he
    rw [h.1] at hh
    simp at hh

theorem wrap64_id {x : Int} (h1 : -9223372036854775808 ≤ x) (h2 : x ≤ 9223372036854775807) : wrap64 x = x := by
  unfold wrap64
  omega

theorem or_shifted {q k F : Nat} (x : BitVec 64) (n : Nat) (hq : q < 256) : bits .or .u8 (q : Int) (I64 x / 2 ^ n % 256 * 2 ^ (8 - k) % 256 / 2 ^ (8 - F)) = ((q ||| shifted (x.toNat / 2 ^ n) k F : Nat) : Int) := by
  have e : I64 x / 2 ^ n % 256 * 2 ^ (8 - k) % 256 / 2 ^ (8 - F) = ((shifted (x.toNat / 2 ^ n) k F : Nat) : Int) := by
    unfold shifted I64
    rw [Int.natCast_ediv, Int.natCast_emod, Int.natCast_mul, Int.natCast_emod, Int.natCast_ediv, Int.natCast_pow, Int.natCast_pow, Int.natCast_pow]
    rfl
  rw [e, u8_or_nat _ _ hq (shifted_lt _ _ _)]
theorem or0_a {k : Nat} (x : BitVec 64) : bits .or .u8 0 (I64 x % 256 * 2 ^ (8 - k) % 256) = ((shifted (x.toNat / 2 ^ 0) k 8 : Nat) : Int) := by
  have h := or_shifted (q := 0) (k := k) (F := 8) x 0 (by decide)
  rw [Nat.zero_or] at h
  have e : I64 x / 2 ^ 0 % 256 * 2 ^ (8 - k) % 256 / 2 ^ (8 - 8) = I64 x % 256 * 2 ^ (8 - k) % 256 := by
    simp only [Int.pow_zero, Int.ediv_one, Nat.sub_self]
  rw [e] at h
  exact h
theorem or0_b (x : BitVec 64) (n : Nat) : bits .or .u8 0 (I64 x / 2 ^ n % 256) = ((shifted (x.toNat / 2 ^ n) 8 8 : Nat) : Int) := by
  have h := or_shifted (q := 0) (k := 8) (F := 8) x n (by decide)
  rw [Nat.zero_or] at h
  have e : I64 x / 2 ^ n % 256 * 2 ^ (8 - 8) % 256 / 2 ^ (8 - 8) = I64 x / 2 ^ n % 256 := by
    rw [Nat.sub_self, Int.pow_zero, Int.mul_one, Int.ediv_one, Int.emod_emod_of_dvd _ (Int.dvd_refl 256)]
  rw [e] at h
  exact h
theorem or_lt {q y : Nat} (h1 : q < 256) (h2 : y < 256) : q ||| y < 256 := Nat.or_lt_two_pow (n := 8) h1 h2

theorem drew1 {T w : World} {g m : Nat} {v : Value} {X : List Bool} {x : Nat} (h : ∃ v' cur', Wr R T g v' cur' ∧ X = cur' ++ bitsOf x m ∧ Fw w T g v v') : ∃ v' cur', Wr R T.drew g v' cur' ∧ X = cur' ++ bitsOf x m ∧ Fw w T.drew g v v' := by
  obtain ⟨v', cur', h1, h2, h3⟩ := h
  exact ⟨v', cur', h1, h2, ⟨h3.os, h3.tape, h3.output, h3.size, h3.block, h3.own⟩⟩
theorem drew2 {T w : World} {g m : Nat} {v : Value} {X : List Bool} {x : Nat} (h : ∃ v' cur', Wr R T g v' cur' ∧ X = cur' ++ bitsOf x m ∧ Fw w T g v v') : ∃ v' cur', Wr R T.drew.drew g v' cur' ∧ X = cur' ++ bitsOf x m ∧ Fw w T.drew.drew g v v' := by
  obtain ⟨v', cur', h1, h2, h3⟩ := h
  exact ⟨v', cur', h1, h2, ⟨h3.os, h3.tape, h3.output, h3.size, h3.block, h3.own⟩⟩

/-- a byte and the count are stored -/
theorem Wr.store {w : World} {g gb L c : Nat} {l : List UInt8} {s : Int} (hg : w.heap[g]? = some (.cells #[.slice (some ⟨gb, 0, none⟩) L c, .int .i64 s, R.a, R.b, R.c, R.d, R.e, R.f, R.h] 68 (0, 0))) (ho : Own w 0 (.slice (some ⟨gb, 0, none⟩) L c) l) (hL : l.length = L) (hne : gb ≠ g) (j : Nat) (b : UInt8) (s' : Int) :
    ((w.setCell ⟨gb, j, none⟩ (.int .u8 (b.toNat : Int))).setCell ⟨g, 1, none⟩ (.int .i64 s')).heap[g]? = some (.cells #[.slice (some ⟨gb, 0, none⟩) L c, .int .i64 s', R.a, R.b, R.c, R.d, R.e, R.f, R.h] 68 (0, 0)) ∧
    Own ((w.setCell ⟨gb, j, none⟩ (.int .u8 (b.toNat : Int))).setCell ⟨g, 1, none⟩ (.int .i64 s')) 0 (.slice (some ⟨gb, 0, none⟩) L c) (l.set j b) ∧
    Fw w ((w.setCell ⟨gb, j, none⟩ (.int .u8 (b.toNat : Int))).setCell ⟨g, 1, none⟩ (.int .i64 s')) g (.slice (some ⟨gb, 0, none⟩) L c) (.slice (some ⟨gb, 0, none⟩) L c) := by
  have h1 : (w.setCell ⟨gb, j, none⟩ (.int .u8 (b.toNat : Int))).heap[g]? = w.heap[g]? := Below.heap_setCell _ _ _ _ (fun e => hne e.symm)
  refine ⟨?_, ?_, ?_⟩
  · have := heap_setCell_same (w.setCell ⟨gb, j, none⟩ (.int .u8 (b.toNat : Int))) g 1 _ _ (.int .i64 s') (h1.trans hg)
    rw [this]
    rfl
  · have h2 : Own (w.setCell ⟨gb, j, none⟩ (.int .u8 (b.toNat : Int))) 0 (.slice (some ⟨gb, 0, none⟩) L c) (l.set j b) := by
      have h3 := World.ownsRow.stored (h := by unfold Own at ho; rw [hL] at ho; exact ho) j (bv b)
      unfold Own
      rw [List.length_set, List.map_set, hL]
      exact h3.1
    exact h2.kept (g := some g) ⟨rfl, rfl, rfl, by simp, fun k _ hk => Below.heap_setCell _ _ _ _ (fun e => hk (by rw [e]))⟩ (.inr (by simp [Value.ownBlock]; exact hne))
  · refine ⟨rfl, rfl, rfl, by simp, fun k _ hk1 hk2 => ?_, fun _ h => .inl h.symm⟩
    rw [Below.heap_setCell _ _ _ _ (by simpa using hk1), Below.heap_setCell _ _ _ _ (by intro e; exact hk2 (by simp [Value.ownBlock]; exact e))]

/-- the bytes have been moved, and the writer has them -/
theorem Wr.grow {wr w1 : World} {g : Nat} {v' v1 : Value} {cur : List Bool} {l : List UInt8} {o : Obj} (h : Wr R wr g v' cur) (hf : Fr (wr.drew.alloc o) w1 v' v1) (ho : Own w1 0 v1 l) :
    w1.heap[g]? = wr.heap[g]? ∧ (w1.setCell ⟨g, 0, none⟩ v1).heap[g]? = some (.cells #[v1, .int .i64 (cur.length : Int), R.a, R.b, R.c, R.d, R.e, R.f, R.h] 68 (0, 0)) ∧ Own (w1.setCell ⟨g, 0, none⟩ v1) 0 v1 l ∧ Fw wr (w1.setCell ⟨g, 0, none⟩ v1) g v' v1 ∧ v1.ownBlock ≠ some g := by
  have hlt : g < wr.heap.size := h.cells.2.2.2.2
  have h1 : w1.heap[g]? = wr.heap[g]? := by
    rw [hf.1.block g (by simp; omega) (fun e => h.apart e.symm)]
    exact Below.heap_alloc wr.drew o g hlt
  have h2 : v1.ownBlock ≠ some g := by
    rcases ho.2 with ⟨rfl, _⟩ | ⟨g', cap, cu, rfl, _, hh, _⟩
    · simp [Value.ownBlock]
    · intro he
      simp only [Value.ownBlock, Option.some.injEq] at he
      subst he
      rw [h1, h.1] at hh
      simp at hh
  refine ⟨h1, ?_, ?_, ?_, h2⟩
  · have := heap_setCell_same w1 g 0 _ _ v1 (h1.trans h.1)
    rw [this]
    rfl
  · refine ho.kept (g := some g) ⟨rfl, rfl, rfl, by simp, fun k _ hk => Below.heap_setCell _ _ _ _ (fun e => hk (by rw [e]))⟩ (.inr h2)
  · refine ⟨hf.1.os, hf.1.tape, hf.1.output, ?_, fun k hk hk1 hk2 => ?_, fun k hk => ?_⟩
    · have := hf.1.size
      simp at this ⊢
      omega
    · rw [Below.heap_setCell _ _ _ _ (by simpa using hk1), hf.1.block k (by simp; omega) hk2]
      exact Below.heap_alloc wr.drew o k hk
    · rcases hf.2 k hk with h3 | h3
      · exact .inl h3
      · right
        simp at h3
        omega

/-- what a piece that is stored leaves -/
theorem put_fin {w T : World} {g gb L c n m : Nat} {v : Value} {bs cur : List Bool} {x : Nat} (hg : T.heap[g]? = some (.cells #[.slice (some ⟨gb, 0, none⟩) L c, .int .i64 (cur.length : Int), R.a, R.b, R.c, R.d, R.e, R.f, R.h] 68 (0, 0))) (ho : Own T 0 (.slice (some ⟨gb, 0, none⟩) L c) (roomy cur)) (hL : L = cur.length / 8 + 1) (hne : gb ≠ g)
    (heq : bs ++ bitsOf x n = cur ++ bitsOf x m) (hfw : Fw w T g v (.slice (some ⟨gb, 0, none⟩) L c)) :
    ∀ k n', 1 ≤ k → k ≤ 8 - cur.length % 8 → m = n' + k → ∀ W : World, W = ((T.setCell ⟨gb, L - 1, none⟩ (.int .u8 ((byteOf cur (cur.length / 8) ||| shifted (x / 2 ^ n') k (8 - cur.length % 8) : Nat) : Int))).setCell ⟨g, 1, none⟩ (.int .i64 ((cur.length : Int) + (k : Int)))) →
      ∃ v' cur', Wr R W g v' cur' ∧ bs ++ bitsOf x n = cur' ++ bitsOf x n' ∧ Fw w W g v v' := by
  intro k n' hk1 hk2 hmk W hW
  have hb : ((UInt8.ofNat (byteOf cur (cur.length / 8) ||| shifted (x / 2 ^ n') k (8 - cur.length % 8))).toNat : Int) = ((byteOf cur (cur.length / 8) ||| shifted (x / 2 ^ n') k (8 - cur.length % 8) : Nat) : Int) := by
    have := or_lt (byteOf_lt cur (cur.length / 8)) (shifted_lt (x / 2 ^ n') k (8 - cur.length % 8))
    rw [UInt8.toNat_ofNat']
    omega
  have hs := Wr.store hg ho (by rw [roomy_len, hL]) hne (L - 1) (UInt8.ofNat (byteOf cur (cur.length / 8) ||| shifted (x / 2 ^ n') k (8 - cur.length % 8))) ((cur.length : Int) + (k : Int))
  rw [hb, ← hW] at hs
  have hp := put_step cur x n' k hk1 (by omega)
  have e : L - 1 = cur.length / 8 := by omega
  refine ⟨_, cur ++ piece x n' k, ⟨?_, ?_⟩, ?_, hfw.trans hs.2.2⟩
  · rw [hs.1]
    have : ((cur ++ piece x n' k).length : Int) = (cur.length : Int) + (k : Int) := by rw [List.length_append]; unfold piece; rw [bitsOf_len]; omega
    rw [this]
  · rw [hp]
    have h2 := hs.2.1
    rw [e] at h2
    exact h2
  · rw [heq, hmk, bitsOf_split, List.append_assoc]

set_option maxHeartbeats 3200000 in
theorem put_any (g : Nat) (v : Value) (bs : List Bool) (x : BitVec 64) (n : Nat) (w : World) (hw : Wr R w g v bs) (hn : n ≤ 64) (hsz : bs.length ≤ 8388608) :
    Calls Tryd.prog 75 #[.pointer (some ⟨g, 0, none⟩), .int .u64 (I64 x), .int .i64 (n : Int)] w fun e w' => e = .returned (.tuple #[]) ∧ ∃ v', Wr R w' g v' (bs ++ bitsOf x.toNat n) ∧ Fw w w' g v v' := by
  go_enter Tryd.func75, Tryd.ntmps75
  go_wp2
  go_loopw [2] (fun i wr => ∃ m : Nat, m ≤ n ∧ i = .int .i64 m ∧ Hid (∃ v' cur, Wr R wr g v' cur ∧ bs ++ bitsOf x.toNat n = cur ++ bitsOf x.toNat m ∧ Fw w wr g v v')) (fun i _ => (intOf i).toNat)
  case atStart => exact ⟨n, Nat.le_refl _, rfl, v, bs, hw, rfl, Fw.refl _ _ _⟩
  case round =>
    obtain ⟨m, hm, rfl, hr⟩ := hrel
    obtain ⟨v', cur, hwr, heq, hfw⟩ := hr.out
    clear hr
    have hcl : cur.length + m = bs.length + n := by
      have := congrArg List.length heq
      simp only [List.length_append, bitsOf_len] at this
      omega
    by_cases h0 : 0 < m
    · obtain ⟨a, c, hvs⟩ := hwr.2.shape
      rw [pack_len] at hvs
      subst hvs
      have hc := hwr.cells
      have c0 := hc.1
      have c1 := hc.2.1
      have f0 := hc.2.2.1
      have f1 := hc.2.2.2.1
      by_cases h8 : cur.length % 8 = 0
      · have e0 : byteOf cur (cur.length / 8) = 0 := byteOf_end cur _ (by omega)
        have e8 : 8 - cur.length % 8 = 8 := by omega
        have hro : roomy cur = pack cur ++ [0] := if_pos h8
        have hap := hwr.apart
        have H : Hid (Wr R wr g (.slice a ((cur.length + 7) / 8) c) cur ∧ bs ++ bitsOf x.toNat n = cur ++ bitsOf x.toNat m ∧ Fw w wr g v (.slice a ((cur.length + 7) / 8) c) ∧ byteOf cur (cur.length / 8) = 0 ∧ 8 - cur.length % 8 = 8 ∧ roomy cur = pack cur ++ [0] ∧ (Value.slice a ((cur.length + 7) / 8) c).ownBlock ≠ some g) := ⟨hwr, heq, hfw, e0, e8, hro, hap⟩
        have hcl2 : cur.length ≤ 8388672 := by omega
        have hw1 : Hid (8 * ((cur.length + 7) / 8) = cur.length ∧ (cur.length + 7) / 8 = cur.length / 8) := ⟨by omega, by omega⟩
        have hpl : Hid ((pack cur).length = (cur.length + 7) / 8) := pack_len cur
        clear hwr heq hfw e0 e8 hro hap hc h8 hcl
        generalize hLL : (cur.length + 7) / 8 = L at *
        have HLL : Hid ((cur.length + 7) / 8 = L) := hLL
        clear hLL
        generalize hss : cur.length = s at *
        have HSS : Hid (cur.length = s) := hss
        clear hss
        have hw2 : 8 * (L : Int) - (s : Int) = 0 := by have := hw1.out.1; omega
        have hL2 : L ≤ 8388672 := by have := hw1.out.1; omega
        go_wp2_with fail
        go_region
        go_wp2_with (at_builtin; refine wp_app rfl _ _ rfl 0 _ _ (pack cur) [0] rfl rfl ((H.out.1.2.keep (gb_drew _ none)).keep (alloc_gb _ _)) (Rd_lit _ [0] 1 rfl (by simp) _ rfl) ?c1 ?c2 ?_)
        case c1 => have := hpl.out; first | omega | (simp; omega)
        case c2 => omega
        intro v1 w1 ho1 hf1
        have hG := H.out.1.grow hf1 ho1
        obtain ⟨gb, cap, hv1, -, hgb, hcap, hcm, hcell⟩ := ho1.form (by simp)
        have hlen : (pack cur ++ [0]).length = L + 1 := by rw [List.length_append, hpl.out]; rfl
        rw [hlen] at hv1 hcap hcell
        subst hv1
        have hgg : gb ≠ g := by have := hG.2.2.2.2; simp [Value.ownBlock] at this; exact this
        have hlast : w1.cell? ⟨gb, L, none⟩ = some (.int .u8 0) := by
          rw [hcell L (by omega)]
          have e : (pack cur ++ [0]).getD L 0 = 0 := by rw [← hpl.out]; simp
          rw [e]
          rfl
        have hfz1 : w1.frozen? ⟨gb, L, none⟩ = false := by
          have h1 := ho1
          unfold Own at h1
          rw [hlen] at h1
          exact World.ownsRow.frozenAt h1 L
        have hwg : w1.heap[g]? = some (.cells #[.slice a L c, .int .i64 (s : Int), R.a, R.b, R.c, R.d, R.e, R.f, R.h] 68 (0, 0)) := by
          rw [hG.1, ← HSS.out]
          exact H.out.1.1
        have d0 : w1.cell? ⟨g, 0, none⟩ = some (.slice a L c) := by simp [World.cell?, hwg]
        have df : w1.frozen? ⟨g, 0, none⟩ = false := by simp [World.frozen?, hwg]
        have hfin : Hid (∀ k n', 1 ≤ k → k ≤ 8 → m = n' + k → ∀ W : World, W = (((w1.setCell ⟨g, 0, none⟩ (.slice (some ⟨gb, 0, none⟩) (L + 1) cap)).setCell ⟨gb, L, none⟩ (.int .u8 ((shifted (x.toNat / 2 ^ n') k 8 : Nat) : Int))).setCell ⟨g, 1, none⟩ (.int .i64 ((s : Int) + (k : Int)))) →
            ∃ v' cur', Wr R W g v' cur' ∧ bs ++ bitsOf x.toNat n = cur' ++ bitsOf x.toNat n' ∧ Fw w W g v v') := by
          intro k n' hk1 hk2 hmk W hW
          refine put_fin hG.2.1 (by rw [H.out.2.2.2.2.2.1]; exact hG.2.2.1) (by have := hw1.out.2; have := HSS.out; rw [this]; omega) hgg H.out.2.1 (H.out.2.2.1.trans hG.2.2.2.1) k n' hk1 (by rw [HSS.out, H.out.2.2.2.2.1]; exact hk2) hmk W ?_
          rw [hW, HSS.out, H.out.2.2.2.1, H.out.2.2.2.2.1, Nat.zero_or]
          rfl
        have t0 : (w1.setCell ⟨g, 0, none⟩ (.slice (some ⟨gb, 0, none⟩) (L + 1) cap)).cell? ⟨g, 0, none⟩ = some (.slice (some ⟨gb, 0, none⟩) (L + 1) cap) := by have := hG.2.1; simp [World.cell?, this]
        have t1 : (w1.setCell ⟨g, 0, none⟩ (.slice (some ⟨gb, 0, none⟩) (L + 1) cap)).cell? ⟨g, 1, none⟩ = some (.int .i64 (s : Int)) := by have := hG.2.1; rw [HSS.out] at this; simp [World.cell?, this]
        have t2 : (w1.setCell ⟨g, 0, none⟩ (.slice (some ⟨gb, 0, none⟩) (L + 1) cap)).frozen? ⟨g, 1, none⟩ = false := by have := hG.2.1; simp [World.frozen?, this]
        have t3 : (w1.setCell ⟨g, 0, none⟩ (.slice (some ⟨gb, 0, none⟩) (L + 1) cap)).cell? ⟨gb, L, none⟩ = some (.int .u8 0) := by
          rw [← hlast]
          exact World.cell?_of_block (Below.heap_setCell _ _ _ _ (by simpa using hgg))
        have t4 : (w1.setCell ⟨g, 0, none⟩ (.slice (some ⟨gb, 0, none⟩) (L + 1) cap)).frozen? ⟨gb, L, none⟩ = false := by
          rw [← hfz1]
          exact World.frozen?_of_block (Below.heap_setCell _ _ _ _ (by simpa using hgg))
        have HT : Hid ((w1.setCell ⟨g, 0, none⟩ (.slice (some ⟨gb, 0, none⟩) (L + 1) cap)).cell? ⟨g, 0, none⟩ = some (.slice (some ⟨gb, 0, none⟩) (L + 1) cap) ∧ (w1.setCell ⟨g, 0, none⟩ (.slice (some ⟨gb, 0, none⟩) (L + 1) cap)).cell? ⟨g, 1, none⟩ = some (.int .i64 (s : Int)) ∧ (w1.setCell ⟨g, 0, none⟩ (.slice (some ⟨gb, 0, none⟩) (L + 1) cap)).frozen? ⟨g, 1, none⟩ = false ∧ (w1.setCell ⟨g, 0, none⟩ (.slice (some ⟨gb, 0, none⟩) (L + 1) cap)).cell? ⟨gb, L, none⟩ = some (.int .u8 0) ∧ (w1.setCell ⟨g, 0, none⟩ (.slice (some ⟨gb, 0, none⟩) (L + 1) cap)).frozen? ⟨gb, L, none⟩ = false) := ⟨t0, t1, t2, t3, t4⟩
        clear hG hf1 ho1 hwg hlast hfz1 hcell hlen t0 t1 t2 t3 t4 H hpl hw1 HLL c0 c1 f0 f1 hcap hcm hgb
        by_cases hmin : (m : Int) < 8
        · have hor := or0_a (k := m) x
          have hf2 := hfin.out m 0 (by omega) (by omega) (by omega)
          have HF2 : Hid (∀ W : World, W = (((w1.setCell ⟨g, 0, none⟩ (.slice (some ⟨gb, 0, none⟩) (L + 1) cap)).setCell ⟨gb, L, none⟩ (.int .u8 ((shifted (x.toNat / 2 ^ 0) m 8 : Nat) : Int))).setCell ⟨g, 1, none⟩ (.int .i64 ((s : Int) + (m : Int)))) → ∃ v' cur', Wr R W g v' cur' ∧ bs ++ bitsOf x.toNat n = cur' ++ bitsOf x.toNat 0 ∧ Fw w W g v v') := hf2
          clear hf2 hfin
          generalize shifted (x.toNat / 2 ^ 0) m 8 = nb at *
          go_wp2_with fail
          generalize w1.setCell ⟨g, 0, none⟩ (.slice (some ⟨gb, 0, none⟩) (L + 1) cap) = T at *
          obtain ⟨t0, t1, t2, t3, t4⟩ := HT.out
          clear HT d0 df
          all_goals go_region
          all_goals go_wp2
          all_goals go_roundw
          case rel => exact ⟨0, by omega, rfl, drew1 (HF2.out _ rfl)⟩
          case measure => simp [intOf]; omega
        · obtain ⟨n', hn'⟩ : ∃ n', m = n' + 8 := ⟨m - 8, by omega⟩
          have hor := or0_b x n'
          have hf2 := hfin.out 8 n' (by omega) (by omega) hn'
          have HF2 : Hid (∀ W : World, W = (((w1.setCell ⟨g, 0, none⟩ (.slice (some ⟨gb, 0, none⟩) (L + 1) cap)).setCell ⟨gb, L, none⟩ (.int .u8 ((shifted (x.toNat / 2 ^ n') 8 8 : Nat) : Int))).setCell ⟨g, 1, none⟩ (.int .i64 ((s : Int) + 8))) → ∃ v' cur', Wr R W g v' cur' ∧ bs ++ bitsOf x.toNat n = cur' ++ bitsOf x.toNat n' ∧ Fw w W g v v') := hf2
          have hsub : (m : Int) - 8 = (n' : Int) := by omega
          clear hf2 hfin
          generalize shifted (x.toNat / 2 ^ n') 8 8 = nb at *
          have hmn : n' ≤ n ∧ n' < m := by omega
          clear hn'
          go_wp2_with fail
          generalize w1.setCell ⟨g, 0, none⟩ (.slice (some ⟨gb, 0, none⟩) (L + 1) cap) = T at *
          obtain ⟨t0, t1, t2, t3, t4⟩ := HT.out
          clear HT d0 df
          all_goals go_region
          all_goals go_wp2
          all_goals go_roundw
          case rel => exact ⟨n', hmn.1, rfl, drew1 (HF2.out _ rfl)⟩
          case measure => simp [intOf]; exact hmn.2
      · have hne0 : pack cur ≠ [] := by intro h; have := congrArg List.length h; rw [pack_len] at this; simp at this; omega
        obtain ⟨gb, cap, hv1, -, hgb, hcap, hcm, hcell⟩ := hwr.2.form hne0
        rw [pack_len] at hv1 hcap hcell
        simp only [Value.slice.injEq] at hv1
        obtain ⟨rfl, -, rfl⟩ := hv1
        have hgg : gb ≠ g := by have := hwr.apart; simp [Value.ownBlock] at this; exact this
        have hfz : wr.frozen? ⟨gb, (cur.length + 7) / 8 - 1, none⟩ = false := by
          have h1 := hwr.2
          unfold Own at h1
          rw [pack_len] at h1
          exact World.ownsRow.frozenAt h1 _
        have hce : wr.cell? ⟨gb, (cur.length + 7) / 8 - 1, none⟩ = some (.int .u8 (byteOf cur (cur.length / 8) : Int)) := by
          have e : (cur.length + 7) / 8 - 1 = cur.length / 8 := by omega
          rw [e, hcell (cur.length / 8) (by omega), pack_get _ _ (by omega), UInt8.toNat_ofNat']
          have := byteOf_lt cur (cur.length / 8)
          congr 3
          omega
        have hbl := byteOf_lt cur (cur.length / 8)
        have hF : Hid (8 * ((cur.length + 7) / 8) = cur.length + (8 - cur.length % 8)) := by show 8 * ((cur.length + 7) / 8) = cur.length + (8 - cur.length % 8); omega
        have kf1 : 1 ≤ 8 - cur.length % 8 := by omega
        have kf2 : 8 - cur.length % 8 ≤ 7 := by omega
        have hcl2 : cur.length ≤ 8388672 := by omega
        have hL1 : 1 ≤ (cur.length + 7) / 8 := by omega
        have hst : Hid (∀ k n', 1 ≤ k → k ≤ 8 - cur.length % 8 → m = n' + k → ∀ W : World, W = ((wr.setCell ⟨gb, (cur.length + 7) / 8 - 1, none⟩ (.int .u8 ((byteOf cur (cur.length / 8) ||| shifted (x.toNat / 2 ^ n') k (8 - cur.length % 8) : Nat) : Int))).setCell ⟨g, 1, none⟩ (.int .i64 ((cur.length : Int) + (k : Int)))) →
            ∃ v' cur', Wr R W g v' cur' ∧ bs ++ bitsOf x.toNat n = cur' ++ bitsOf x.toNat n' ∧ Fw w W g v v') :=
          put_fin hwr.1 (by rw [show roomy cur = pack cur from if_neg h8]; exact hwr.2) (by omega) hgg heq hfw
        clear hc hcell hwr heq hfw hcl h8 hne0 hcap hcm hgb
        generalize byteOf cur (cur.length / 8) = q at *
        generalize 8 - cur.length % 8 = F at *
        generalize (cur.length + 7) / 8 = L at *
        generalize cur.length = s at *
        have hw1 : 8 * (L : Int) - (s : Int) = (F : Int) := by have := hF.out; omega
        have k3 : ((F : Int) == 0) = false := by simp; omega
        have hL2 : L ≤ 8388672 := by have := hF.out; omega
        by_cases hmin : (m : Int) < (F : Int)
        · have hor := or_shifted (q := q) (k := m) (F := F) x 0 hbl
          have hfin := hst.out m 0 (by omega) (by omega) (by omega)
          have HF2 : Hid (∀ W : World, W = ((wr.setCell ⟨gb, L - 1, none⟩ (.int .u8 ((q ||| shifted (x.toNat / 2 ^ 0) m F : Nat) : Int))).setCell ⟨g, 1, none⟩ (.int .i64 ((s : Int) + (m : Int)))) → ∃ v' cur', Wr R W g v' cur' ∧ bs ++ bitsOf x.toNat n = cur' ++ bitsOf x.toNat 0 ∧ Fw w W g v v') := hfin
          clear hfin hst
          generalize q ||| shifted (x.toNat / 2 ^ 0) m F = nb at *
          simp only [Int.pow_zero, Int.ediv_one] at hor
          go_wp2_with fail
          go_region
          all_goals go_wp2_with fail
          all_goals go_region
          all_goals go_wp2
          all_goals go_roundw
          case rel => exact ⟨0, by omega, rfl, drew2 (HF2.out _ rfl)⟩
          case measure => simp [intOf]; omega
        · obtain ⟨n', hn'⟩ : ∃ n', m = n' + F := ⟨m - F, by omega⟩
          have hor := or_shifted (q := q) (k := F) (F := F) x n' hbl
          have hfin := hst.out F n' (by omega) (by omega) hn'
          have HF2 : Hid (∀ W : World, W = ((wr.setCell ⟨gb, L - 1, none⟩ (.int .u8 ((q ||| shifted (x.toNat / 2 ^ n') F F : Nat) : Int))).setCell ⟨g, 1, none⟩ (.int .i64 ((s : Int) + (F : Int)))) → ∃ v' cur', Wr R W g v' cur' ∧ bs ++ bitsOf x.toNat n = cur' ++ bitsOf x.toNat n' ∧ Fw w W g v v') := hfin
          have hsub : (m : Int) - (F : Int) = (n' : Int) := by omega
          clear hfin hst
          generalize q ||| shifted (x.toNat / 2 ^ n') F F = nb at *
          have hmn : n' ≤ n ∧ n' < m := by omega
          have HM : Hid (m = n' + F) := hn'
          clear hn'
          go_wp2_with fail
          go_region
          all_goals go_wp2_with fail
          all_goals go_region
          all_goals go_wp2
          all_goals go_roundw
          case rel => exact ⟨n', hmn.1, rfl, drew2 (HF2.out _ rfl)⟩
          case measure => simp [intOf]; exact hmn.2
    · have hm0 : m = 0 := by omega
      subst hm0
      have HE : Hid (∃ v', Wr R wr g v' (bs ++ bitsOf x.toNat n) ∧ Fw w wr g v v') := ⟨v', by rw [heq]; simpa [bitsOf] using hwr, hfw⟩
      clear hwr heq hfw hcl
      go_wp2
      go_end0
      exact ⟨rfl, HE.out⟩
end Go.Proofs.YtkiefmhampfhoaaDoor

/- CkW2 -/
namespace Go.Proofs.YtkiefmhampfhoaaDoor
open Go.RowKit
variable {R : Rst}

theorem ret_bool {a b : Bool} (h : a = b) : Ending.returned (.bool a) = .returned (.bool b) := by rw [h]

theorem hasRoom_any (g : Nat) (v : Value) (bs : List Bool) (n : Int) (w : World) (hw : Wr R w g v bs) (hsz : bs.length ≤ 8388608) :
    Calls Tryd.prog 74 #[.pointer (some ⟨g, 0, none⟩), .int .i64 n] w fun e w' => e = .returned (.bool (decide (n ≤ 8388608 - (bs.length : Int)))) ∧ w.grownBy w' none := by
  have hc := hw.cells
  have c1 := hc.2.1
  clear hc hw
  generalize bs.length = s at *
  go_enter Tryd.func74, Tryd.ntmps74
  go_wp2
  go_ret
  exact ⟨rfl, gb_refl _ _⟩

theorem Fw.gb {w w' : World} {g : Nat} {v v' : Value} (h : Fw w w' g v v') : Fw w w' g v v' := h
theorem Fw.pre {w w1 w2 : World} {g : Nat} {v v' : Value} (h1 : w.grownBy w1 none) (h2 : Fw w1 w2 g v v') : Fw w w2 g v v' := (Fw.of_none h1 g v).trans h2
theorem Wr.keep {w w' : World} {g : Nat} {v : Value} {bs : List Bool} (h : Wr R w g v bs) (hg : w.grownBy w' none) : Wr R w' g v bs :=
  ⟨by rw [hg.block g h.cells.2.2.2.2 (by simp)]; exact h.1, h.2.keep hg⟩

/-- a number of n bits -/
theorem shr_zero {x : BitVec 64} {n : Nat} (h : x.toNat < 2 ^ n) : I64 x / 2 ^ n = 0 := by
  have e : I64 x / 2 ^ n = ((x.toNat / 2 ^ n : Nat) : Int) := by
    unfold I64
    rw [Int.natCast_ediv, Int.natCast_pow]
    rfl
  rw [e, Nat.div_eq_of_lt h]
  rfl
set_option maxHeartbeats 1600000 in
theorem wbits_ok (g : Nat) (v : Value) (bs : List Bool) (x : BitVec 64) (n : Nat) (w : World) (hw : Wr R w g v bs) (hn : n ≤ 64) (hx : x.toNat < 2 ^ n) (hsz : bs.length + n ≤ 8388608) :
    Calls Tryd.prog 52 #[.pointer (some ⟨g, 0, none⟩), .int .u64 (I64 x), .int .i64 (n : Int)] w fun e w' => e = .returned (.int .i64 0) ∧ ∃ v', Wr R w' g v' (bs ++ bitsOf x.toNat n) ∧ Fw w w' g v v' := by
  have hw2 : Hid (Wr R w g v bs) := hw
  have hz := shr_zero hx
  have n1 : ¬ (n : Int) < 0 := by omega
  have n2 : ¬ (64 : Int) < (n : Int) := by omega
  have hle : Hid (decide ((n : Int) ≤ 8388608 - (bs.length : Int)) = true) := decide_eq_true (by omega)
  clear hw hx
  go_enter Tryd.func52, Tryd.ntmps52
  go_wp2_with fail
  refine (hasRoom_any g v bs n _ hw2.out (by omega)).mono ?_
  rintro e w1 ⟨he, hg1⟩
  rw [hle.out] at he
  subst he
  have HG : Hid (w.grownBy w1 none) := hg1
  clear hg1
  go_wp2_with fail
  refine (put_any g v bs x n _ (hw2.out.keep HG.out) hn (by omega)).mono ?_
  rintro e w2 ⟨rfl, v', hw3, hf3⟩
  have H3 : Hid (∃ v', Wr R w2 g v' (bs ++ bitsOf x.toNat n) ∧ Fw w w2 g v v') := ⟨v', hw3, Fw.pre HG.out hf3⟩
  clear hw3 hf3
  go_wp2
  go_ret
  exact ⟨rfl, H3.out⟩

theorem wbits_eq (g : Nat) (v : Value) (bs : List Bool) (x : BitVec 64) (n : Nat) (X N : Int) (hX : X = I64 x) (hN : N = (n : Int)) (w : World) (hw : Wr R w g v bs) (hn : n ≤ 64) (hx : x.toNat < 2 ^ n) (hsz : bs.length + n ≤ 8388608) :
    Calls Tryd.prog 52 #[.pointer (some ⟨g, 0, none⟩), .int .u64 X, .int .i64 N] w fun e w' => e = .returned (.int .i64 0) ∧ ∃ v', Wr R w' g v' (bs ++ bitsOf x.toNat n) ∧ Fw w w' g v v' := by
  subst hX
  subst hN
  exact wbits_ok g v bs x n w hw hn hx hsz

theorem wbit_ok (g : Nat) (v : Value) (bs : List Bool) (b : Bool) (w : World) (hw : Wr R w g v bs) (hsz : bs.length + 1 ≤ 8388608) :
    Calls Tryd.prog 78 #[.pointer (some ⟨g, 0, none⟩), .bool b] w fun e w' => e = .returned (.int .i64 0) ∧ ∃ v', Wr R w' g v' (bs ++ [b]) ∧ Fw w w' g v v' := by
  have hw2 : Hid (Wr R w g v bs) := hw
  clear hw
  cases b
  · go_enter Tryd.func78, Tryd.ntmps78
    go_wp2_with fail
    refine (wbits_eq g v bs 0#64 1 _ _ (by decide) (by decide) _ hw2.out (by omega) (by decide) hsz).mono ?_
    rintro e w1 ⟨rfl, h⟩
    have H : Hid (∃ v', Wr R w1 g v' (bs ++ [false]) ∧ Fw w w1 g v v') := h
    clear h
    go_wp2
    go_ret
    exact ⟨rfl, H.out⟩
  · go_enter Tryd.func78, Tryd.ntmps78
    go_wp2_with fail
    refine (wbits_eq g v bs 1#64 1 _ _ (by decide) (by decide) _ hw2.out (by omega) (by decide) hsz).mono ?_
    rintro e w1 ⟨rfl, h⟩
    have H : Hid (∃ v', Wr R w1 g v' (bs ++ [true]) ∧ Fw w w1 g v v') := h
    clear h
    go_wp2
    go_ret
    exact ⟨rfl, H.out⟩

set_option maxHeartbeats 1600000 in
theorem wbytes_any (g : Nat) (v : Value) (bs : List Bool) (w : World) (hw : Wr R w g v bs) (hsz : bs.length ≤ 8388608) :
    Calls Tryd.prog 35 #[.pointer (some ⟨g, 0, none⟩)] w fun e w' => ∃ v', e = .returned v' ∧ Own w' w.heap.size v' (pack bs) ∧ w.grownBy w' none := by
  have hc := hw.cells
  have c0 := hc.1
  have hlt := hc.2.2.2.2
  have hw2 : Hid (Wr R w g v bs) := hw
  obtain ⟨a, c, rfl⟩ := hw.2.shape
  have hl : (pack bs).length ≤ 1048576 := by rw [pack_len]; omega
  clear hw hc
  go_enter Tryd.func35, Tryd.ntmps35
  go_wp2_with (at_make; refine wp_make rfl _ _ rfl w.heap.size _ _ _ _ (pack bs).length (pack bs).length rfl rfl rfl rfl ?c2 ?c3 ?c4 ?_)
  case c2 => omega
  case c3 => omega
  case c4 => omega
  intro w1 ho1 hg1 _
  have H1 : Hid (Own w1 w.heap.size (.slice (some ⟨w.heap.size, 0, none⟩) (pack bs).length (pack bs).length) (List.replicate (pack bs).length 0) ∧ w.grownBy w1 none) := ⟨ho1, hg1⟩
  have d0 : w1.cell? ⟨g, 0, none⟩ = some (.slice a (pack bs).length c) := by rw [← c0]; exact World.cell?_of_block (hg1.block g hlt (by simp))
  clear ho1 hg1 c0
  go_wp2_with (refine wp_copy rfl _ _ rfl w.heap.size _ _ (List.replicate (pack bs).length 0) (pack bs) rfl rfl H1.out.1 (hw2.out.2.rd.keep H1.out.2) (by simp) ?_)
  intro w2 ho2 hg2
  have H2 : Hid (Own w2 w.heap.size (.slice (some ⟨w.heap.size, 0, none⟩) (pack bs).length (pack bs).length) (pack bs) ∧ w.grownBy w2 none) := ⟨ho2, gb_new H1.out.2 hg2 (fun k hk => by simp [Value.ownBlock] at hk; omega)⟩
  clear ho2 hg2 H1 hw2
  go_wp2
  go_ret
  exact ⟨_, rfl, H2.out.1, H2.out.2⟩
end Go.Proofs.YtkiefmhampfhoaaDoor

/- Ck1 -/
namespace Go.Proofs.YtkiefmhampfhoaaDoor
open Go.RowKit
variable {R : Rst}

theorem fbits_run (b : Nat) (w : World) : (callFunc 53 #[.float .f64 b]).run Tryd.prog w = .ok (.value (.int .u64 (b : Int))) w := by
  rw [run_callFunc_extern (e := Extern.MathFloatBits.float64bits) Tryd.func53 (by kernel_rfl) (by kernel_rfl) (by kernel_rfl) (by kernel_rfl)]
  rfl

/-- a float is one cell -/
theorem store_float (a : Addr) (f : Nat) (m : Mode) (w : World) : (store a (.float .f64 f) m).run Tryd.prog w = stored Tryd.prog w a (.float .f64 f) m := run_store _ w a _ m rfl

/-- the bits of bytes -/
def bytesBits (l : List UInt8) : List Bool := l.flatMap fun b => bitsOf b.toNat 8
theorem bytesBits_len (l : List UInt8) : (bytesBits l).length = 8 * l.length := by
  induction l with
  | nil => rfl
  | cons b l ih =>
    unfold bytesBits at ih ⊢
    rw [List.flatMap_cons, List.length_append, ih, bitsOf_len, List.length_cons]
    omega
theorem bytesBits_snoc (l : List UInt8) (b : UInt8) : bytesBits (l ++ [b]) = bytesBits l ++ bitsOf b.toNat 8 := by simp [bytesBits]

/-- bytes that lie apart from a writer stay -/
theorem Rd.fw {w w' : World} {g : Nat} {v v' u : Value} {l : List UInt8} (h : Rd w u l) (hf : Fw w w' g v v') (ha : ∀ x c, u = .slice (some x) l.length c → x.block ≠ g ∧ some x.block ≠ v.ownBlock) : Rd w' u l := by
  obtain ⟨a, c, rfl, h1, h2, h3, h4⟩ := h
  refine ⟨a, c, rfl, h1, h2, fun j hj => ?_, h4⟩
  obtain ⟨b, o, rfl, hc⟩ := h3 j hj
  refine ⟨b, o, rfl, ?_⟩
  rw [← hc]
  have := ha _ _ rfl
  exact World.cell?_of_block (hf.block b (block_lt hc) this.1 this.2)

set_option maxHeartbeats 1600000 in
theorem putBytes_any (g : Nat) (v u : Value) (bs : List Bool) (l : List UInt8) (w : World) (hw : Wr R w g v bs) (hu : Rd w u l) (ha : ∀ x c, u = .slice (some x) l.length c → x.block ≠ g ∧ some x.block ≠ v.ownBlock) (hsz : bs.length + 8 * l.length ≤ 8388608) :
    Calls Tryd.prog 50 #[.pointer (some ⟨g, 0, none⟩), u] w fun e w' => e = .returned (.tuple #[]) ∧ ∃ v', Wr R w' g v' (bs ++ bytesBits l) ∧ Fw w w' g v v' := by
  have HU : Hid (Rd w u l) := hu
  have HA : Hid (∀ x c, u = .slice (some x) l.length c → x.block ≠ g ∧ some x.block ≠ v.ownBlock) := ha
  obtain ⟨a, c, rfl⟩ : ∃ a c, u = .slice a l.length c := by obtain ⟨a, c, h, _⟩ := hu; exact ⟨a, c, h⟩
  have HW0 : Hid (Wr R w g v bs) := hw
  clear hu ha hw
  go_enter Tryd.func50, Tryd.ntmps50
  go_wp2
  go_loopw [8] (fun i wr => ∃ z : Nat, z ≤ l.length ∧ i = .int .i64 z ∧ Hid (∃ v', Wr R wr g v' (bs ++ bytesBits (l.take z)) ∧ Fw w wr g v v')) (fun i _ => l.length - (intOf i).toNat)
  case atStart => exact ⟨0, by omega, rfl, v, by simpa [bytesBits] using HW0.out, Fw.refl _ _ _⟩
  case round =>
    obtain ⟨z, hz, rfl, hr⟩ := hrel
    by_cases hlt : z < l.length
    · obtain ⟨v', hwr, hfw⟩ := hr.out
      obtain ⟨a', c', he, h1, h2, h3, h4⟩ := HU.out.fw hfw HA.out
      obtain ⟨b, o, rfl, hcell⟩ := h3 z hlt
      simp only [Value.slice.injEq] at he
      obtain ⟨rfl, -, rfl⟩ := he
      have HH : Hid (Wr R wr g v' (bs ++ bytesBits (l.take z)) ∧ Fw w wr g v v' ∧ (bs ++ bytesBits (l.take z)).length + 8 ≤ 8388608 ∧ bs ++ bytesBits (l.take (z + 1)) = bs ++ bytesBits (l.take z) ++ bitsOf (l.getD z 0).toNat 8) := by
        refine ⟨hwr, hfw, ?_, ?_⟩
        · rw [List.length_append, bytesBits_len, List.length_take]
          omega
        · have e : l.take (z + 1) = l.take z ++ [l.getD z 0] := by rw [List.take_succ_eq_append_getElem hlt]; simp [hlt]
          rw [e, bytesBits_snoc, List.append_assoc]
      have hb := (l.getD z 0).toNat_lt
      generalize l.getD z 0 = y at *
      have hyw : IntKind.u64.wrap (y.toNat : Int) = I64 (BitVec.ofNat 64 y.toNat) := by rw [I64_of (by omega)]; rw [IntKind.wrap_u64]; omega
      clear hwr hfw hr h1 h2 h3 h4
      go_wp2_with fail
      refine (wbits_eq g v' _ (BitVec.ofNat 64 y.toNat) 8 _ _ rfl rfl _ HH.out.1 (by omega) ?c1 HH.out.2.2.1).mono ?_
      case c1 => simp; omega
      rintro e w1 ⟨rfl, v1, hw1, hf1⟩
      have H1 : Hid (∃ v', Wr R w1 g v' (bs ++ bytesBits (l.take (z + 1))) ∧ Fw w w1 g v v') := by
        refine ⟨v1, ?_, HH.out.2.1.trans hf1⟩
        rw [HH.out.2.2.2]
        have e : (BitVec.ofNat 64 y.toNat).toNat = y.toNat := by rw [BitVec.toNat_ofNat]; omega
        rw [e] at hw1
        exact hw1
      clear hw1 hf1 HH
      go_wp2
      go_roundw
      case rel => exact ⟨z + 1, by omega, by go_num, H1⟩
      case measure => simp [intOf]; omega
    · have hzl : z = l.length := by omega
      have HE : Hid (∃ v', Wr R wr g v' (bs ++ bytesBits l) ∧ Fw w wr g v v') := by
        have := hr.out
        rw [hzl, List.take_length] at this
        exact this
      clear hr
      go_wp2
      go_end0
      exact ⟨rfl, HE.out⟩

/-- the cells behind the stream are written -/
theorem Wr.turned {w W : World} {R' : Rst} {g : Nat} {v : Value} {bs : List Bool} (h : Wr R w g v bs) (hW : W.heap[g]? = some (.cells #[v, .int .i64 (bs.length : Int), R'.a, R'.b, R'.c, R'.d, R'.e, R'.f, R'.h] 68 (0, 0))) (hg : w.grownBy W (some g)) : Wr R' W g v bs :=
  ⟨hW, h.2.kept hg (.inr h.apart)⟩
theorem Fw.turned {w W : World} {g : Nat} {v : Value} (hg : w.grownBy W (some g)) : Fw w W g v v :=
  ⟨hg.os, hg.tape, hg.output, hg.size, fun k hk h1 _ => hg.block k hk (by simpa using h1), fun _ hk => .inl hk.symm⟩
theorem gb_set (w : World) (g j : Nat) (x : Value) : w.grownBy (w.setCell ⟨g, j, none⟩ x) (some g) :=
  ⟨rfl, rfl, rfl, by simp, fun k _ hk => Below.heap_setCell _ _ _ _ (fun e => hk (by rw [e]))⟩
theorem Wr.cell {w : World} {g : Nat} {v : Value} {bs : List Bool} (h : Wr R w g v bs) : w.cell? ⟨g, 2, none⟩ = some R.a ∧ w.cell? ⟨g, 3, none⟩ = some R.b ∧ w.cell? ⟨g, 4, none⟩ = some R.c ∧ w.cell? ⟨g, 5, none⟩ = some R.d ∧ w.cell? ⟨g, 6, none⟩ = some R.e ∧ w.cell? ⟨g, 7, none⟩ = some R.f ∧ w.cell? ⟨g, 8, none⟩ = some R.h ∧ ∀ j, w.frozen? ⟨g, j, none⟩ = false := by
  refine ⟨?_, ?_, ?_, ?_, ?_, ?_, ?_, fun j => ?_⟩ <;> first | simp [World.cell?, h.1] | simp [World.frozen?, h.1]

/-- what the next sample hangs on -/
def past (n : Nat) (t : Int) (f : Nat) (gap : Int) (th : Bool) (ld tl : Int) : Rst := ⟨.int .i64 (n : Int), .int .i64 t, .float .f64 f, .int .i64 gap, .bool th, .int .i64 ld, .int .i64 tl⟩

set_option maxHeartbeats 1600000 in
theorem add_any (g : Nat) (v : Value) (bs : List Bool) (n f f' : Nat) (t t' gap : Int) (th : Bool) (ld tl : Int) (w : World) (hw : Wr (past n t f gap th ld tl) w g v bs) (hn : n ≤ 1000) (ht : 0 ≤ t ∧ t ≤ 1125899906842624) (ht' : 0 ≤ t' ∧ t' ≤ 1125899906842624) :
    Calls Tryd.prog 57 #[.pointer (some ⟨g, 2, none⟩), .agg #[.int .i64 t', .float .f64 f']] w fun e w' => e = .returned (.tuple #[]) ∧ Wr (past (n + 1) t' f' (t' - t) th ld tl) w' g v bs ∧ Fw w w' g v v := by
  have HW : Hid (Wr (past n t f gap th ld tl) w g v bs) := hw
  obtain ⟨c2, c3, c4, c5, -, -, -, fz⟩ := hw.cell
  have f2 := fz 2
  have f3 := fz 3
  have f4 := fz 4
  have f5 := fz 5
  have hlt : g < w.heap.size := hw.cells.2.2.2.2
  simp only [past] at c2 c3 c4 c5
  clear hw fz
  go_enter Tryd.func57, Tryd.ntmps57
  go_wp2
  obtain ⟨W1, hW1⟩ : ∃ W1, w.alloc (.cells #[.int .i64 t', .float .f64 f'] 27) = W1 := ⟨_, rfl⟩
  have hal : w.grownBy W1 none := by rw [← hW1]; exact alloc_gb _ _
  have hb0 : W1.heap[w.heap.size]? = some (.cells #[.int .i64 t', .float .f64 f'] 27 (0, 0)) := by rw [← hW1]; exact Go.heap_alloc_new w _
  have hgb := hal.block g hlt (by simp)
  have HB : Hid (W1.heap[g]? = w.heap[g]? ∧ w.grownBy W1 none) := ⟨hgb, hal⟩
  have e0 : W1.cell? ⟨w.heap.size, 0, none⟩ = some (.int .i64 t') := by simp [World.cell?, hb0]
  have e1 : W1.cell? ⟨w.heap.size, 1, none⟩ = some (.float .f64 f') := by simp [World.cell?, hb0]
  have d2 : W1.cell? ⟨g, 2, none⟩ = _ := (World.cell?_of_block hgb).trans c2
  have d3 : W1.cell? ⟨g, 3, none⟩ = _ := (World.cell?_of_block hgb).trans c3
  have d4 : W1.cell? ⟨g, 4, none⟩ = _ := (World.cell?_of_block hgb).trans c4
  have d5 : W1.cell? ⟨g, 5, none⟩ = _ := (World.cell?_of_block hgb).trans c5
  have g2 : W1.frozen? ⟨g, 2, none⟩ = _ := (World.frozen?_of_block hgb).trans f2
  have g3 : W1.frozen? ⟨g, 3, none⟩ = _ := (World.frozen?_of_block hgb).trans f3
  have g4 : W1.frozen? ⟨g, 4, none⟩ = _ := (World.frozen?_of_block hgb).trans f4
  have g5 : W1.frozen? ⟨g, 5, none⟩ = _ := (World.frozen?_of_block hgb).trans f5
  have hne : ¬ w.heap.size = g := by omega
  have hne2 : ¬ g = w.heap.size := by omega
  rw [hW1]
  clear hW1 hal hb0 hgb c2 c3 c4 c5 f2 f3 f4 f5 hlt
  generalize w.heap.size = b0 at *
  have hd : (-1125899906842624 : Int) ≤ t' - t ∧ t' - t ≤ 1125899906842624 := by omega
  have hsf := store_float
  go_region
  go_wp2
  go_end0
  have h0 := HB.out.1.trans HW.out.1
  have h1 := heap_setCell_same W1 g 5 _ _ (.int .i64 (t' - t)) h0
  have h2 := heap_setCell_same _ g 3 _ _ (.int .i64 t') h1
  have h3 := heap_setCell_same _ g 4 _ _ (.float .f64 f') h2
  have h4 := heap_setCell_same _ g 2 _ _ (.int .i64 ((n : Int) + 1)) h3
  have hs : ∀ (A B : World) (j : Nat) (x : Value), A.grownBy B (some g) → A.grownBy (B.setCell ⟨g, j, none⟩ x) (some g) := fun A B j x h => gb_trans h (gb_set B g j x) (fun _ h _ => h.symm)
  have hG : w.grownBy ((((W1.setCell ⟨g, 5, none⟩ (.int .i64 (t' - t))).setCell ⟨g, 3, none⟩ (.int .i64 t')).setCell ⟨g, 4, none⟩ (.float .f64 f')).setCell ⟨g, 2, none⟩ (.int .i64 ((n : Int) + 1))).drew (some g) :=
    gb_none (hs _ _ _ _ (hs _ _ _ _ (hs _ _ _ _ (hs _ _ _ _ (gb_any HB.out.2 _))))) (gb_drew _ _)
  refine ⟨rfl, HW.out.turned ?_ hG, Fw.turned hG⟩
  show ((((W1.setCell ⟨g, 5, none⟩ (.int .i64 (t' - t))).setCell ⟨g, 3, none⟩ (.int .i64 t')).setCell ⟨g, 4, none⟩ (.float .f64 f')).setCell ⟨g, 2, none⟩ (.int .i64 ((n : Int) + 1))).heap[g]? = _
  rw [h4]
  rfl
end Go.Proofs.YtkiefmhampfhoaaDoor

/- Ck2 -/
namespace Go.Proofs.YtkiefmhampfhoaaDoor
open Go.RowKit
variable {R : Rst}

theorem chunkNew_any (w : World) : Calls Tryd.prog 9 #[] w fun e w' => ∃ g, e = .returned (.pointer (some ⟨g, 0, none⟩)) ∧ Wr (past 0 0 0 0 false 0 0) w' g (.slice none 0 0) [] ∧ w.grownBy w' none ∧ w.heap.size ≤ g := by
  go_enter Tryd.func9, Tryd.ntmps9
  go_wp2
  go_ret
  refine ⟨w.heap.size, rfl, ⟨?_, Own.nil _ _⟩, ?_, Nat.le_refl _⟩
  · exact Go.heap_alloc_new w _
  · exact alloc_gb _ _

set_option maxHeartbeats 1600000 in
/-- the value is the last one -/
theorem putValue_same (g : Nat) (v : Value) (bs : List Bool) (n f : Nat) (t gap : Int) (th : Bool) (ld tl : Int) (w : World) (hw : Wr (past n t f gap th ld tl) w g v bs) (hf : f < 18446744073709551616) (hsz : bs.length + 1 ≤ 8388608) :
    Calls Tryd.prog 55 #[.pointer (some ⟨g, 0, none⟩), .float .f64 f] w fun e w' => e = .returned (.tuple #[]) ∧ ∃ v', Wr (past n t f gap th ld tl) w' g v' (bs ++ [false]) ∧ Fw w w' g v v' := by
  have HW : Hid (Wr (past n t f gap th ld tl) w g v bs) := hw
  obtain ⟨-, -, c4, -, -, -, -, fz⟩ := hw.cell
  simp only [past] at c4
  have hfb := fbits_run f
  have hx : bits .xor .u64 (f : Int) (f : Int) = 0 := by
    have := I64_xor (BitVec.ofNat 64 f) (BitVec.ofNat 64 f)
    rw [I64_of hf, BitVec.xor_self] at this
    exact this
  clear hw fz
  go_enter Tryd.func55, Tryd.ntmps55
  go_wp2_with fail
  go_region
  go_wp2_with fail
  refine (wbit_ok g v bs false _ (HW.out.keep (gb_drew _ none)) hsz).mono ?_
  rintro e w1 ⟨rfl, v1, hw1, hf1⟩
  have H1 : Hid (∃ v', Wr (past n t f gap th ld tl) w1 g v' (bs ++ [false]) ∧ Fw w w1 g v v') := ⟨v1, hw1, Fw.pre (gb_drew _ none) hf1⟩
  clear hw1 hf1
  go_wp2
  go_end0
  exact ⟨rfl, H1.out⟩

/-- how many bits of a turn each form has -/
def tw (j : Nat) : Nat := [0, 14, 17, 20, 64].getD j 0
def TabC (w : World) : Prop := ∀ j, j < 5 → w.cell? ⟨1, j, none⟩ = some (.int .i64 (tw j : Int))
theorem TabC.keep {w w' : World} (h : TabC w) (hg : w.grownBy w' none) : TabC w' := fun j hj => by
  rw [← h j hj]
  exact World.cell?_of_block (hg.block _ (block_lt (h j hj)) (by simp))
theorem TabC.fw {w w' : World} {g : Nat} {v v' : Value} (h : TabC w) (hf : Fw w w' g v v') (h1 : g ≠ 1) (h2 : v.ownBlock ≠ some 1) : TabC w' := fun j hj => by
  rw [← h j hj]
  exact World.cell?_of_block (hf.block _ (block_lt (h j hj)) h1.symm h2.symm)

theorem formOf_zero (w : World) (hT : TabC w) : Calls Tryd.prog 80 #[.int .i64 0] w fun e w' => e = .returned (.int .i64 0) ∧ w.grownBy w' none := by
  have t0 := hT 0 (by omega)
  simp only [tw] at t0
  clear hT
  go_enter Tryd.func80, Tryd.ntmps80
  go_wp2
  go_step3
  go_wp2
  go_step3
  go_wp2
  go_loop [3] (fun i => i = .int .i64 0) (fun _ => 0)
  case atStart => rfl
  case round =>
    subst hrel
    go_wp2
    try rw [Exit.noGoto_ret]
    go_ret
    exact ⟨rfl, gb_refl _ _⟩
theorem lowest_zero (w : World) : Calls Tryd.prog 81 #[.int .u64 0, .int .i64 0] w fun e w' => e = .returned (.int .u64 0) ∧ w' = w := by
  go_enter Tryd.func81, Tryd.ntmps81
  go_wp2
  go_ret
  exact ⟨rfl, rfl⟩

set_option maxHeartbeats 1600000 in
/-- the gap is the last one -/
theorem putTurn_zero (g : Nat) (v : Value) (bs : List Bool) (w : World) (hw : Wr R w g v bs) (hT : TabC w) (hg : g ≠ 1) (hv : v.ownBlock ≠ some 1) (hsz : bs.length + 1 ≤ 8388608) :
    Calls Tryd.prog 56 #[.pointer (some ⟨g, 0, none⟩), .int .i64 0] w fun e w' => e = .returned (.tuple #[]) ∧ ∃ v', Wr R w' g v' (bs ++ [false]) ∧ Fw w w' g v v' := by
  have HW : Hid (Wr R w g v bs ∧ TabC w ∧ g ≠ 1 ∧ v.ownBlock ≠ some 1) := ⟨hw, hT, hg, hv⟩
  clear hw hT hg hv
  go_enter Tryd.func56, Tryd.ntmps56
  go_wp2_with fail
  refine (formOf_zero _ HW.out.2.1).mono ?_
  rintro e w1 ⟨rfl, hg1⟩
  have H1 : Hid (Wr R w1 g v bs ∧ TabC w1 ∧ w.grownBy w1 none) := ⟨HW.out.1.keep hg1, HW.out.2.1.keep hg1, hg1⟩
  clear hg1
  go_wp2_with fail
  go_loop [9] (fun i => i = .int .i64 0) (fun _ => 0)
  case atStart => rfl
  case round =>
    subst hrel
    go_wp2_with fail
    refine (wbit_ok g v bs false _ H1.out.1 hsz).mono ?_
    rintro e w2 ⟨rfl, v2, hw2, hf2⟩
    have H2 : Hid (Wr R w2 g v2 (bs ++ [false]) ∧ Fw w w2 g v v2) := ⟨hw2, Fw.pre H1.out.2.2 hf2⟩
    have t0 : w2.cell? ⟨1, 0, none⟩ = some (.int .i64 0) := (H1.out.2.1.fw hf2 HW.out.2.2.1 HW.out.2.2.2) 0 (by omega)
    clear hw2 hf2 H1
    have HB : Hid (∀ W, w2.grownBy W none → Calls Tryd.prog 52 #[.pointer (some ⟨g, 0, none⟩), .int .u64 0, .int .i64 0] W fun e w' => e = .returned (.int .i64 0) ∧ Hid (∃ v', Wr R w' g v' (bs ++ [false]) ∧ Fw w w' g v v')) := fun W hW => by
      refine (wbits_eq g v2 _ 0#64 0 _ _ rfl rfl _ (H2.out.1.keep hW) (by omega) (by decide) (by simp; omega)).mono ?_
      rintro e w4 ⟨rfl, v4, hw4, hf4⟩
      exact ⟨rfl, v4, by simpa [bitsOf] using hw4, (H2.out.2.trans (Fw.of_none hW g v2)).trans hf4⟩
    go_wp2_with fail
    go_region_held3 (fun _ => True) (go_keep)
      (first
        | (go_at_call 81; refine (lowest_zero _).mono ?_; rintro e w3 ⟨rfl, rfl⟩)
        | (go_at_call 52; refine (HB.out _ ?_).mono ?_; (first | exact gb_refl _ _ | exact gb_drew _ _); rintro e w4 ⟨rfl, H4⟩))
    clear H2 HB
    go_wp2
    go_end0
    exact ⟨rfl, H4.out⟩

theorem wrap_both {x : Int} (h1 : 0 ≤ x) (h2 : x ≤ 9223372036854775807) : IntKind.u64.wrap (IntKind.i64.wrap x) = x := by
  rw [IntKind.wrap_i64, IntKind.wrap_u64]
  omega

/-- what lies nowhere near a chunk's own blocks -/
theorem Fw.rd {w w' : World} {g : Nat} {v v' u : Value} {l : List UInt8} (hf : Fw w w' g v v') (h : Rd w u l) (ha : ∀ x c, u = .slice (some x) l.length c → x.block ≠ g ∧ some x.block ≠ v.ownBlock) : Rd w' u l := h.fw hf ha

/-- new bytes lie apart from a chunk -/
theorem new_apart {w w1 : World} {g : Nat} {v u : Value} {bs : List Bool} {l : List UInt8} (hw : Wr R w g v bs) (ho : Own w1 w.heap.size u l) : ∀ x c, u = .slice (some x) l.length c → x.block ≠ g ∧ some x.block ≠ v.ownBlock := by
  intro x c hu
  subst hu
  have h1 := ho.lt x.block (by
    rcases ho.2 with ⟨h, -⟩ | ⟨b, cap, cur, h, -⟩
    · cases h
    · simp only [Value.slice.injEq, Option.some.injEq] at h
      rw [h.1]
      simp [Value.ownBlock])
  have h2 := hw.cells.2.2.2.2
  refine ⟨by omega, fun e => ?_⟩
  have := hw.2.lt x.block e.symm
  omega

set_option maxRecDepth 8000 in
set_option maxHeartbeats 3200000 in
/-- the first sample -/
theorem put_first (g : Nat) (f : Nat) (t : Int) (w : World) (hw : Wr (past 0 0 0 0 false 0 0) w g (.slice none 0 0) []) (hf : f < 18446744073709551616) (ht : 0 ≤ t ∧ t ≤ 1125899906842624) :
    Calls Tryd.prog 32 #[.pointer (some ⟨g, 0, none⟩), .agg #[.int .i64 t, .float .f64 f]] w fun e w' => e = .returned (.tuple #[]) ∧ ∃ v', Wr (past 1 t f t false 0 0) w' g v' (bytesBits (uv (zz t)) ++ bitsOf f 64) ∧ Fw w w' g (.slice none 0 0) v' := by
  have HW : Hid (Wr (past 0 0 0 0 false 0 0) w g (.slice none 0 0) []) := hw
  obtain ⟨c2, -, -, -, -, -, -, fz⟩ := hw.cell
  have hlt : g < w.heap.size := hw.cells.2.2.2.2
  simp only [past] at c2
  clear hw fz
  have hfb := fbits_run f
  have halo : Hid (w.grownBy (w.alloc (.cells #[.int .i64 t, .float .f64 f] 27)) none ∧ (w.alloc (.cells #[.int .i64 t, .float .f64 f] 27)).heap[w.heap.size]? = some (.cells #[.int .i64 t, .float .f64 f] 27 (0, 0))) := ⟨alloc_gb _ _, Go.heap_alloc_new w _⟩
  have HWa : Hid (Wr (past 0 0 0 0 false 0 0) (w.alloc (.cells #[.int .i64 t, .float .f64 f] 27)) g (.slice none 0 0) []) := HW.out.keep halo.out.1
  have hsl : Hid (w.heap.size < (w.alloc (.cells #[.int .i64 t, .float .f64 f] 27)).heap.size ∧ g < w.heap.size) := ⟨by simp, hlt⟩
  go_enter Tryd.func32, Tryd.ntmps32
  go_wp2_with fail
  generalize w.alloc (.cells #[.int .i64 t, .float .f64 f] 27) = W0 at *
  refine (putI_any _ [] t _ (Rd.nil _) (by simp) (by omega) (by omega)).mono ?_
  rintro e w1 ⟨v1, rfl, ho1, hg1⟩
  rw [List.nil_append] at ho1
  have H1 : Hid (Own w1 W0.heap.size v1 (uv (zz t)) ∧ W0.grownBy w1 none) := ⟨ho1, hg1⟩
  clear ho1 hg1
  have hul : (uv (zz t)).length ≤ 10 := by
    have h1 := uv_len64 (BitVec.ofNat 64 (zz t))
    rw [ofNat_zz (by omega) (by omega)] at h1
    exact h1
  go_wp2_with fail
  refine (putBytes_any g _ v1 [] (uv (zz t)) _ (HWa.out.keep H1.out.2) H1.out.1.rd (new_apart HWa.out H1.out.1) (by simp; omega)).mono ?_
  rintro e w2 ⟨rfl, v2, hw2, hf2⟩
  rw [List.nil_append] at hw2
  have H2 : Hid (Wr (past 0 0 0 0 false 0 0) w2 g v2 (bytesBits (uv (zz t))) ∧ Fw W0 w2 g (.slice none 0 0) v2) := ⟨hw2, Fw.pre H1.out.2 hf2⟩
  have hb2 : w2.heap[w.heap.size]? = some (.cells #[.int .i64 t, .float .f64 f] 27 (0, 0)) := by
    rw [H2.out.2.block _ hsl.out.1 (by have := hsl.out.2; omega) (by simp [Value.ownBlock])]
    exact halo.out.2
  have e1 : w2.cell? ⟨w.heap.size, 1, none⟩ = some (.float .f64 f) := by simp [World.cell?, hb2]
  have HB2 : Hid (w2.heap[w.heap.size]? = some (.cells #[.int .i64 t, .float .f64 f] 27 (0, 0))) := hb2
  clear hw2 hf2 H1 HWa hb2
  have HB : Hid (∀ W, w2.grownBy W none → Calls Tryd.prog 52 #[.pointer (some ⟨g, 0, none⟩), .int .u64 (f : Int), .int .i64 64] W fun e w' => e = .returned (.int .i64 0) ∧ (w'.cell? ⟨w.heap.size, 0, none⟩ = some (.int .i64 t) ∧ w'.cell? ⟨w.heap.size, 1, none⟩ = some (.float .f64 f)) ∧ Hid (∃ v', Wr (past 0 0 0 0 false 0 0) w' g v' (bytesBits (uv (zz t)) ++ bitsOf f 64) ∧ Fw W0 w' g (.slice none 0 0) v')) := fun W hW => by
    have e64 : (BitVec.ofNat 64 f).toNat = f := by rw [BitVec.toNat_ofNat]; omega
    refine (wbits_eq g v2 _ (BitVec.ofNat 64 f) 64 _ _ (I64_of hf).symm rfl _ (H2.out.1.keep hW) (by omega) (by rw [e64]; exact hf) (by rw [bytesBits_len]; omega)).mono ?_
    rintro e w4 ⟨rfl, v4, hw4, hf4⟩
    rw [e64] at hw4
    have hF := (H2.out.2.trans (Fw.of_none hW g v2)).trans hf4
    have hb4 : w4.heap[w.heap.size]? = some (.cells #[.int .i64 t, .float .f64 f] 27 (0, 0)) := by
      rw [hF.block _ hsl.out.1 (by have := hsl.out.2; omega) (by simp [Value.ownBlock])]
      exact halo.out.2
    exact ⟨rfl, ⟨by simp [World.cell?, hb4], by simp [World.cell?, hb4]⟩, v4, hw4, hF⟩
  generalize hb0 : w.heap.size = b0 at *
  go_wp2_with fail
  go_region_held3 (fun w' => w'.cell? ⟨b0, 1, none⟩ = some (.float .f64 f)) (go_keep)
    (first | (go_at_call 52; refine (HB.out _ ?_).mono ?_; (first | exact gb_refl _ _ | exact gb_drew _ _); rintro e w4 ⟨rfl, ⟨d0, d1⟩, H4⟩))
  have HA : Hid (∀ W, w4.grownBy W none → Calls Tryd.prog 57 #[.pointer (some ⟨g, 2, none⟩), .agg #[.int .i64 t, .float .f64 f]] W fun e w' => e = .returned (.tuple #[]) ∧ (w'.cell? ⟨b0, 0, none⟩ = some (.int .i64 t) ∧ w'.cell? ⟨b0, 1, none⟩ = some (.float .f64 f)) ∧ Hid (∃ v', Wr (past 1 t f t false 0 0) w' g v' (bytesBits (uv (zz t)) ++ bitsOf f 64) ∧ Fw w w' g (.slice none 0 0) v')) := fun W hW => by
    obtain ⟨v4, hw4, hf4⟩ := H4.out
    refine (add_any g v4 _ 0 0 f 0 t 0 false 0 0 W (hw4.keep hW) (by omega) (by omega) ht).mono ?_
    rintro e w5 ⟨rfl, hw5, hf5⟩
    rw [Int.sub_zero] at hw5
    have hF := (hf4.trans (Fw.of_none hW g v4)).trans hf5
    have hb5 : w5.heap[b0]? = some (.cells #[.int .i64 t, .float .f64 f] 27 (0, 0)) := by
      rw [hF.block _ hsl.out.1 (by have := hsl.out.2; omega) (by simp [Value.ownBlock])]
      exact halo.out.2
    exact ⟨rfl, ⟨by simp [World.cell?, hb5], by simp [World.cell?, hb5]⟩, v4, hw5, Fw.pre halo.out.1 hF⟩
  go_wp2_with fail
  go_region_held3 (fun w' => w'.cell? ⟨b0, 0, none⟩ = some (.int .i64 t) ∧ w'.cell? ⟨b0, 1, none⟩ = some (.float .f64 f)) (go_keep)
    (first | (go_at_call 57; refine (HA.out _ ?_).mono ?_; (first | exact gb_refl _ _ | exact gb_drew _ _); rintro e w5 ⟨rfl, ⟨g0, g1⟩, H5⟩))
  go_wp2
  go_end0
  exact ⟨rfl, H5.out⟩

set_option maxRecDepth 8000 in
set_option maxHeartbeats 3200000 in
/-- the second sample, of the first one's value -/
theorem put_second (g : Nat) (v : Value) (bs : List Bool) (f : Nat) (t t' gap : Int) (th : Bool) (ld tl : Int) (w : World) (hw : Wr (past 1 t f gap th ld tl) w g v bs) (hf : f < 18446744073709551616) (ht : 0 ≤ t ∧ t ≤ 1125899906842624) (ht' : t ≤ t' ∧ t' ≤ 1125899906842624) (hsz : bs.length + 100 ≤ 8388608) :
    Calls Tryd.prog 32 #[.pointer (some ⟨g, 0, none⟩), .agg #[.int .i64 t', .float .f64 f]] w fun e w' => e = .returned (.tuple #[]) ∧ ∃ v', Wr (past 2 t' f (t' - t) th ld tl) w' g v' (bs ++ bytesBits (uv (t' - t).toNat) ++ [false]) ∧ Fw w w' g v v' := by
  obtain ⟨d, hd⟩ : ∃ d : Nat, t' - t = (d : Int) := ⟨(t' - t).toNat, by omega⟩
  rw [show (t' - t).toNat = d by omega]
  have HX : Hid (IntKind.u64.wrap (IntKind.i64.wrap (t' - t)) = t' - t) := wrap_both (by omega) (by omega)
  have HW : Hid (Wr (past 1 t f gap th ld tl) w g v bs) := hw
  obtain ⟨c2, c3, -, -, -, -, -, fz⟩ := hw.cell
  have hlt : g < w.heap.size := hw.cells.2.2.2.2
  simp only [past] at c2 c3
  clear hw fz
  have halo : Hid (w.grownBy (w.alloc (.cells #[.int .i64 t', .float .f64 f] 27)) none ∧ (w.alloc (.cells #[.int .i64 t', .float .f64 f] 27)).heap[w.heap.size]? = some (.cells #[.int .i64 t', .float .f64 f] 27 (0, 0))) := ⟨alloc_gb _ _, Go.heap_alloc_new w _⟩
  have HWa : Hid (Wr (past 1 t f gap th ld tl) (w.alloc (.cells #[.int .i64 t', .float .f64 f] 27)) g v bs) := HW.out.keep halo.out.1
  have hsl : Hid (w.heap.size < (w.alloc (.cells #[.int .i64 t', .float .f64 f] 27)).heap.size ∧ g < w.heap.size ∧ v.ownBlock ≠ some w.heap.size) := ⟨by simp, hlt, fun e => by have := HW.out.2.lt _ e; omega⟩
  go_enter Tryd.func32, Tryd.ntmps32
  go_wp2_with fail
  have hd0 : Hid (0 ≤ t' - t ∧ t' - t ≤ 1125899906842624) := ⟨by omega, by omega⟩
  have HD : Hid (t' - t = (d : Int) ∧ d ≤ 1125899906842624 ∧ (uv d).length ≤ 10 ∧ (BitVec.ofNat 64 d).toNat = d) := by
    have e : (BitVec.ofNat 64 d).toNat = d := by rw [BitVec.toNat_ofNat]; omega
    have h1 := uv_len64 (BitVec.ofNat 64 d)
    rw [e] at h1
    exact ⟨hd, by omega, h1, e⟩
  generalize hW0 : w.alloc (.cells #[.int .i64 t', .float .f64 f] 27) = W0 at *
  generalize hb0 : w.heap.size = b0 at *
  have HAp : Hid (W0.heap[b0]? = some (.cells #[.int .i64 t', .float .f64 f] 27 (0, 0)) ∧ b0 < W0.heap.size ∧ b0 ≠ g ∧ v.ownBlock ≠ some b0) := ⟨halo.out.2, hsl.out.1, by have := hsl.out.2.1; omega, hsl.out.2.2⟩
  have HS : Hid (∀ W' v', Fw W0 W' g v v' → W'.cell? ⟨b0, 0, none⟩ = some (.int .i64 t') ∧ W'.cell? ⟨b0, 1, none⟩ = some (.float .f64 f)) := fun W' v' hF => by
    have hb : W'.heap[b0]? = some (.cells #[.int .i64 t', .float .f64 f] 27 (0, 0)) := by
      rw [hF.block _ HAp.out.2.1 HAp.out.2.2.1 HAp.out.2.2.2.symm]
      exact HAp.out.1
    exact ⟨by simp [World.cell?, hb], by simp [World.cell?, hb]⟩
  have HP : Hid (∀ X W, X = t' - t → W0.grownBy W none → Calls Tryd.prog 54 #[.slice none 0 0, .int .u64 X] W fun e w' => ∃ v1, e = .returned v1 ∧ (w'.cell? ⟨b0, 0, none⟩ = some (.int .i64 t') ∧ w'.cell? ⟨g, 3, none⟩ = some (.int .i64 t)) ∧ Hid (Own w' W.heap.size v1 (uv d) ∧ W0.grownBy W none ∧ W.grownBy w' none)) := fun X W hX hW => by
    have hx : t' - t = I64 (BitVec.ofNat 64 d) := by rw [HD.out.1, I64_of (by have := HD.out.2.1; omega)]
    rw [hX, hx]
    refine (putU_any _ [] (BitVec.ofNat 64 d) _ (Rd.nil _) (by simp)).mono ?_
    rintro e w1 ⟨v1, rfl, ho1, hg1⟩
    rw [List.nil_append, HD.out.2.2.2] at ho1
    refine ⟨v1, rfl, ⟨(HS.out _ _ (Fw.of_none (gb_none hW hg1) g v)).1, ?_⟩, ho1, hW, hg1⟩
    exact ((HWa.out.keep hW).keep hg1).cell.2.1
  have HQ : Hid (∀ W w1 v1, Own w1 W.heap.size v1 (uv d) ∧ W0.grownBy W none ∧ W.grownBy w1 none → ∀ W2, w1.grownBy W2 none → Calls Tryd.prog 50 #[.pointer (some ⟨g, 0, none⟩), v1] W2 fun e w' => e = .returned (.tuple #[]) ∧ (w'.cell? ⟨b0, 0, none⟩ = some (.int .i64 t') ∧ w'.cell? ⟨g, 3, none⟩ = some (.int .i64 t)) ∧ w'.cell? ⟨b0, 1, none⟩ = some (.float .f64 f) ∧ Hid (∃ v', Wr (past 1 t f gap th ld tl) w' g v' (bs ++ bytesBits (uv d)) ∧ Fw W0 w' g v v')) := fun W w1 v1 h W2 h2 => by
    obtain ⟨h1, h3, h4⟩ := h
    have hW := HWa.out.keep h3
    refine (putBytes_any g v v1 bs (uv d) _ ((hW.keep h4).keep h2) (h1.rd.keep h2) (new_apart hW h1) (by have := HD.out.2.2.1; omega)).mono ?_
    rintro e w2 ⟨rfl, v2, hw2, hf2⟩
    have hF := Fw.pre (gb_none (gb_none h3 h4) h2) hf2
    exact ⟨rfl, ⟨(HS.out _ _ hF).1, hw2.cell.2.1⟩, (HS.out _ _ hF).2, v2, hw2, hF⟩
  have e0 : W0.cell? ⟨b0, 0, none⟩ = some (.int .i64 t') := (HS.out _ _ (Fw.refl _ _ _)).1
  have e3 : W0.cell? ⟨g, 3, none⟩ = some (.int .i64 t) := HWa.out.cell.2.1
  clear c2 c3 hd hb0 hW0 hsl
  go_region_held3 (fun w' => w'.cell? ⟨b0, 0, none⟩ = some (.int .i64 t') ∧ w'.cell? ⟨g, 3, none⟩ = some (.int .i64 t)) (go_keep)
    (first
      | (go_at_call 54; refine (HP.out _ _ HX.out ?_).mono ?_; (first | exact gb_refl _ _ | exact gb_drew _ _); rintro e w1 ⟨v1, rfl, ⟨f0, f3⟩, H1⟩)
      | (go_at_call 50; refine (HQ.out _ _ _ H1.out _ ?_).mono ?_; (first | exact gb_refl _ _ | exact gb_drew _ _); rintro e w2 ⟨rfl, ⟨k0, k3⟩, k1, H2⟩))
  go_wp2_with fail
  obtain ⟨v2, hw2, hf2⟩ := H2.out
  refine (putValue_same g v2 _ 1 f t gap th ld tl _ hw2 hf (by have := HD.out.2.2.1; rw [List.length_append, bytesBits_len]; omega)).mono ?_
  rintro e w3 ⟨rfl, v3, hw3, hf3⟩
  have H3 : Hid (∃ v', Wr (past 1 t f gap th ld tl) w3 g v' (bs ++ bytesBits (uv d) ++ [false]) ∧ Fw W0 w3 g v v') := ⟨v3, hw3, hf2.trans hf3⟩
  have j0 := (HS.out _ _ (hf2.trans hf3)).1
  have j1 := (HS.out _ _ (hf2.trans hf3)).2
  clear hw2 hf2 hw3 hf3 H2 k0 k3 k1
  have HA : Hid (∀ W, w3.grownBy W none → Calls Tryd.prog 57 #[.pointer (some ⟨g, 2, none⟩), .agg #[.int .i64 t', .float .f64 f]] W fun e w' => e = .returned (.tuple #[]) ∧ (w'.cell? ⟨b0, 0, none⟩ = some (.int .i64 t') ∧ w'.cell? ⟨b0, 1, none⟩ = some (.float .f64 f)) ∧ Hid (∃ v', Wr (past 2 t' f (t' - t) th ld tl) w' g v' (bs ++ bytesBits (uv d) ++ [false]) ∧ Fw w w' g v v')) := fun W hW => by
    obtain ⟨v4, hw4, hf4⟩ := H3.out
    refine (add_any g v4 _ 1 f f t t' gap th ld tl W (hw4.keep hW) (by omega) ht (by omega)).mono ?_
    rintro e w5 ⟨rfl, hw5, hf5⟩
    have hF := (hf4.trans (Fw.of_none hW g v4)).trans hf5
    exact ⟨rfl, HS.out _ _ hF, v4, hw5, Fw.pre halo.out.1 hF⟩
  go_wp2_with fail
  go_region_held3 (fun w' => w'.cell? ⟨b0, 0, none⟩ = some (.int .i64 t') ∧ w'.cell? ⟨b0, 1, none⟩ = some (.float .f64 f)) (go_keep)
    (first | (go_at_call 57; refine (HA.out _ ?_).mono ?_; (first | exact gb_refl _ _ | exact gb_drew _ _); rintro e w5 ⟨rfl, ⟨g0, g1⟩, H5⟩))
  go_wp2
  go_end0
  exact ⟨rfl, H5.out⟩

end Go.Proofs.YtkiefmhampfhoaaDoor
