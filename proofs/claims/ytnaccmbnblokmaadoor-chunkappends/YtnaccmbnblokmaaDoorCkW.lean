/-
  A writer in memory: what (*Writer).put comes to: the walk.
-/
import Derived.Test.YtnaccmbnblokmaaDoorCkPuts
import Derived.Test.YtnaccmbnblokmaaDoorBitsM
import Derived.BigRegion
import Derived.Deep.QuietTactic
import Derived.BigQuiet
namespace Go.Proofs.YtnaccmbnblokmaaDoor
open Go.RowKit

/-- the cells of a chunk behind its stream -/
structure Rst where
  a : Value
  b : Value
  c : Value
  d : Value
  e : Value
  f : Value
  h : Value
variable {R : Rst}

/-- a writer at block g, whose bytes are v, of these bits -/
def Wr (R : Rst) (w : World) (g : Nat) (v : Value) (bs : List Bool) : Prop := w.heap[g]? = some (.cells #[v, .int .i64 (bs.length : Int), R.a, R.b, R.c, R.d, R.e, R.f, R.h] 68 (0, 0)) ∧ Own w 0 v (pack bs)

/-- what stays when a writer is written -/
structure Fw (w w' : World) (g : Nat) (v v' : Value) : Prop where
  os : w'.os = w.os
  tape : w'.tape = w.tape
  output : w'.output = w.output
  size : w.heap.size ≤ w'.heap.size
  block : ∀ k, k < w.heap.size → k ≠ g → some k ≠ v.ownBlock → w'.heap[k]? = w.heap[k]?
  own : ∀ k, v'.ownBlock = some k → some k = v.ownBlock ∨ w.heap.size ≤ k
theorem Fw.refl (w : World) (g : Nat) (v : Value) : Fw w w g v v := ⟨rfl, rfl, rfl, Nat.le_refl _, fun _ _ _ _ => rfl, fun _ h => .inl h.symm⟩
theorem Fw.trans {w w1 w2 : World} {g : Nat} {v v1 v2 : Value} (h1 : Fw w w1 g v v1) (h2 : Fw w1 w2 g v1 v2) : Fw w w2 g v v2 := by
  refine ⟨h2.os.trans h1.os, h2.tape.trans h1.tape, h2.output.trans h1.output, Nat.le_trans h1.size h2.size, fun k hk hg hv => ?_, fun k hk => ?_⟩
  · refine (h2.block k (Nat.lt_of_lt_of_le hk h1.size) hg (fun e => ?_)).trans (h1.block k hk hg hv)
    rcases h1.own k e.symm with h | h
    · exact hv h
    · omega
  · rcases h2.own k hk with h | h
    · exact h1.own k h.symm
    · exact .inr (Nat.le_trans h1.size h)
/-- what only adds blocks -/
theorem Fw.of_none {w w' : World} (h : w.grownBy w' none) (g : Nat) (v : Value) : Fw w w' g v v := ⟨h.os, h.tape, h.output, h.size, fun k hk _ _ => h.block k hk (by simp), fun _ hk => .inl hk.symm⟩
theorem Wr.cells {w : World} {g : Nat} {v : Value} {bs : List Bool} (h : Wr R w g v bs) : w.cell? ⟨g, 0, none⟩ = some v ∧ w.cell? ⟨g, 1, none⟩ = some (.int .i64 (bs.length : Int)) ∧ w.frozen? ⟨g, 0, none⟩ = false ∧ w.frozen? ⟨g, 1, none⟩ = false ∧ g < w.heap.size := by
  refine ⟨?_, ?_, ?_, ?_, (Array.getElem?_eq_some_iff.1 h.1).1⟩
  · simp [World.cell?, h.1]
  · simp [World.cell?, h.1]
  · simp [World.frozen?, h.1]
  · simp [World.frozen?, h.1]
theorem Wr.apart {w : World} {g : Nat} {v : Value} {bs : List Bool} (h : Wr R w g v bs) : v.ownBlock ≠ some g := by
  rcases h.2.2 with ⟨rfl, _⟩ | ⟨g', cap, cur, rfl, _, hh, _⟩
  · simp [Value.ownBlock]
  · intro he
    simp only [Value.ownBlock, Option.some.injEq] at he
    subst he
    rw [h.1] at hh
    simp at hh

theorem wrap64_id {x : Int} (h1 : -9223372036854775808 ≤ x) (h2 : x ≤ 9223372036854775807) : wrap64 x = x := by
  unfold wrap64
  omega

theorem or_shifted {q k F : Nat} (x : BitVec 64) (n : Nat) (hq : q < 256) : bits .or .u8 (q : Int) (I64 x / 2 ^ n % 256 * 2 ^ (8 - k) % 256 / 2 ^ (8 - F)) = ((q ||| shifted (x.toNat / 2 ^ n) k F : Nat) : Int) := by
  have e : I64 x / 2 ^ n % 256 * 2 ^ (8 - k) % 256 / 2 ^ (8 - F) = ((shifted (x.toNat / 2 ^ n) k F : Nat) : Int) := by
    unfold shifted I64
    rw [Int.natCast_ediv, Int.natCast_emod, Int.natCast_mul, Int.natCast_emod, Int.natCast_ediv, Int.natCast_pow, Int.natCast_pow, Int.natCast_pow]
    rfl
  rw [e, u8_or_nat _ _ hq (shifted_lt _ _ _)]
theorem or0_a {k : Nat} (x : BitVec 64) : bits .or .u8 0 (I64 x % 256 * 2 ^ (8 - k) % 256) = ((shifted (x.toNat / 2 ^ 0) k 8 : Nat) : Int) := by
  have h := or_shifted (q := 0) (k := k) (F := 8) x 0 (by decide)
  rw [Nat.zero_or] at h
  have e : I64 x / 2 ^ 0 % 256 * 2 ^ (8 - k) % 256 / 2 ^ (8 - 8) = I64 x % 256 * 2 ^ (8 - k) % 256 := by
    simp only [Int.pow_zero, Int.ediv_one, Nat.sub_self]
  rw [e] at h
  exact h
theorem or0_b (x : BitVec 64) (n : Nat) : bits .or .u8 0 (I64 x / 2 ^ n % 256) = ((shifted (x.toNat / 2 ^ n) 8 8 : Nat) : Int) := by
  have h := or_shifted (q := 0) (k := 8) (F := 8) x n (by decide)
  rw [Nat.zero_or] at h
  have e : I64 x / 2 ^ n % 256 * 2 ^ (8 - 8) % 256 / 2 ^ (8 - 8) = I64 x / 2 ^ n % 256 := by
    rw [Nat.sub_self, Int.pow_zero, Int.mul_one, Int.ediv_one, Int.emod_emod_of_dvd _ (Int.dvd_refl 256)]
  rw [e] at h
  exact h
theorem or_lt {q y : Nat} (h1 : q < 256) (h2 : y < 256) : q ||| y < 256 := Nat.or_lt_two_pow (n := 8) h1 h2

theorem drew1 {T w : World} {g m : Nat} {v : Value} {X : List Bool} {x : Nat} (h : ∃ v' cur', Wr R T g v' cur' ∧ X = cur' ++ bitsOf x m ∧ Fw w T g v v') : ∃ v' cur', Wr R T.drew g v' cur' ∧ X = cur' ++ bitsOf x m ∧ Fw w T.drew g v v' := by
  obtain ⟨v', cur', h1, h2, h3⟩ := h
  exact ⟨v', cur', h1, h2, ⟨h3.os, h3.tape, h3.output, h3.size, h3.block, h3.own⟩⟩
theorem drew2 {T w : World} {g m : Nat} {v : Value} {X : List Bool} {x : Nat} (h : ∃ v' cur', Wr R T g v' cur' ∧ X = cur' ++ bitsOf x m ∧ Fw w T g v v') : ∃ v' cur', Wr R T.drew.drew g v' cur' ∧ X = cur' ++ bitsOf x m ∧ Fw w T.drew.drew g v v' := by
  obtain ⟨v', cur', h1, h2, h3⟩ := h
  exact ⟨v', cur', h1, h2, ⟨h3.os, h3.tape, h3.output, h3.size, h3.block, h3.own⟩⟩

/-- a byte and the count are stored -/
theorem Wr.store {w : World} {g gb L c : Nat} {l : List UInt8} {s : Int} (hg : w.heap[g]? = some (.cells #[.slice (some ⟨gb, 0, none⟩) L c, .int .i64 s, R.a, R.b, R.c, R.d, R.e, R.f, R.h] 68 (0, 0))) (ho : Own w 0 (.slice (some ⟨gb, 0, none⟩) L c) l) (hL : l.length = L) (hne : gb ≠ g) (j : Nat) (b : UInt8) (s' : Int) :
    ((w.setCell ⟨gb, j, none⟩ (.int .u8 (b.toNat : Int))).setCell ⟨g, 1, none⟩ (.int .i64 s')).heap[g]? = some (.cells #[.slice (some ⟨gb, 0, none⟩) L c, .int .i64 s', R.a, R.b, R.c, R.d, R.e, R.f, R.h] 68 (0, 0)) ∧
    Own ((w.setCell ⟨gb, j, none⟩ (.int .u8 (b.toNat : Int))).setCell ⟨g, 1, none⟩ (.int .i64 s')) 0 (.slice (some ⟨gb, 0, none⟩) L c) (l.set j b) ∧
    Fw w ((w.setCell ⟨gb, j, none⟩ (.int .u8 (b.toNat : Int))).setCell ⟨g, 1, none⟩ (.int .i64 s')) g (.slice (some ⟨gb, 0, none⟩) L c) (.slice (some ⟨gb, 0, none⟩) L c) := by
  have h1 : (w.setCell ⟨gb, j, none⟩ (.int .u8 (b.toNat : Int))).heap[g]? = w.heap[g]? := Below.heap_setCell _ _ _ _ (fun e => hne e.symm)
  refine ⟨?_, ?_, ?_⟩
  · have := heap_setCell_same (w.setCell ⟨gb, j, none⟩ (.int .u8 (b.toNat : Int))) g 1 _ _ (.int .i64 s') (h1.trans hg)
    rw [this]
    rfl
  · have h2 : Own (w.setCell ⟨gb, j, none⟩ (.int .u8 (b.toNat : Int))) 0 (.slice (some ⟨gb, 0, none⟩) L c) (l.set j b) := by
      have h3 := World.ownsRow.stored (h := by unfold Own at ho; rw [hL] at ho; exact ho) j (bv b)
      unfold Own
      rw [List.length_set, List.map_set, hL]
      exact h3.1
    exact h2.kept (g := some g) ⟨rfl, rfl, rfl, by simp, fun k _ hk => Below.heap_setCell _ _ _ _ (fun e => hk (by rw [e]))⟩ (.inr (by simp [Value.ownBlock]; exact hne))
  · refine ⟨rfl, rfl, rfl, by simp, fun k _ hk1 hk2 => ?_, fun _ h => .inl h.symm⟩
    rw [Below.heap_setCell _ _ _ _ (by simpa using hk1), Below.heap_setCell _ _ _ _ (by intro e; exact hk2 (by simp [Value.ownBlock]; exact e))]

/-- the bytes have been moved, and the writer has them -/
theorem Wr.grow {wr w1 : World} {g : Nat} {v' v1 : Value} {cur : List Bool} {l : List UInt8} {o : Obj} (h : Wr R wr g v' cur) (hf : Fr (wr.drew.alloc o) w1 v' v1) (ho : Own w1 0 v1 l) :
    w1.heap[g]? = wr.heap[g]? ∧ (w1.setCell ⟨g, 0, none⟩ v1).heap[g]? = some (.cells #[v1, .int .i64 (cur.length : Int), R.a, R.b, R.c, R.d, R.e, R.f, R.h] 68 (0, 0)) ∧ Own (w1.setCell ⟨g, 0, none⟩ v1) 0 v1 l ∧ Fw wr (w1.setCell ⟨g, 0, none⟩ v1) g v' v1 ∧ v1.ownBlock ≠ some g := by
  have hlt : g < wr.heap.size := h.cells.2.2.2.2
  have h1 : w1.heap[g]? = wr.heap[g]? := by
    rw [hf.1.block g (by simp; omega) (fun e => h.apart e.symm)]
    exact Below.heap_alloc wr.drew o g hlt
  have h2 : v1.ownBlock ≠ some g := by
    rcases ho.2 with ⟨rfl, _⟩ | ⟨g', cap, cu, rfl, _, hh, _⟩
    · simp [Value.ownBlock]
    · intro he
      simp only [Value.ownBlock, Option.some.injEq] at he
      subst he
      rw [h1, h.1] at hh
      simp at hh
  refine ⟨h1, ?_, ?_, ?_, h2⟩
  · have := heap_setCell_same w1 g 0 _ _ v1 (h1.trans h.1)
    rw [this]
    rfl
  · refine ho.kept (g := some g) ⟨rfl, rfl, rfl, by simp, fun k _ hk => Below.heap_setCell _ _ _ _ (fun e => hk (by rw [e]))⟩ (.inr h2)
  · refine ⟨hf.1.os, hf.1.tape, hf.1.output, ?_, fun k hk hk1 hk2 => ?_, fun k hk => ?_⟩
    · have := hf.1.size
      simp at this ⊢
      omega
    · rw [Below.heap_setCell _ _ _ _ (by simpa using hk1), hf.1.block k (by simp; omega) hk2]
      exact Below.heap_alloc wr.drew o k hk
    · rcases hf.2 k hk with h3 | h3
      · exact .inl h3
      · right
        simp at h3
        omega

/-- what a piece that is stored leaves -/
theorem put_fin {w T : World} {g gb L c n m : Nat} {v : Value} {bs cur : List Bool} {x : Nat} (hg : T.heap[g]? = some (.cells #[.slice (some ⟨gb, 0, none⟩) L c, .int .i64 (cur.length : Int), R.a, R.b, R.c, R.d, R.e, R.f, R.h] 68 (0, 0))) (ho : Own T 0 (.slice (some ⟨gb, 0, none⟩) L c) (roomy cur)) (hL : L = cur.length / 8 + 1) (hne : gb ≠ g)
    (heq : bs ++ bitsOf x n = cur ++ bitsOf x m) (hfw : Fw w T g v (.slice (some ⟨gb, 0, none⟩) L c)) :
    ∀ k n', 1 ≤ k → k ≤ 8 - cur.length % 8 → m = n' + k → ∀ W : World, W = ((T.setCell ⟨gb, L - 1, none⟩ (.int .u8 ((byteOf cur (cur.length / 8) ||| shifted (x / 2 ^ n') k (8 - cur.length % 8) : Nat) : Int))).setCell ⟨g, 1, none⟩ (.int .i64 ((cur.length : Int) + (k : Int)))) →
      ∃ v' cur', Wr R W g v' cur' ∧ bs ++ bitsOf x n = cur' ++ bitsOf x n' ∧ Fw w W g v v' := by
  intro k n' hk1 hk2 hmk W hW
  have hb : ((UInt8.ofNat (byteOf cur (cur.length / 8) ||| shifted (x / 2 ^ n') k (8 - cur.length % 8))).toNat : Int) = ((byteOf cur (cur.length / 8) ||| shifted (x / 2 ^ n') k (8 - cur.length % 8) : Nat) : Int) := by
    have := or_lt (byteOf_lt cur (cur.length / 8)) (shifted_lt (x / 2 ^ n') k (8 - cur.length % 8))
    rw [UInt8.toNat_ofNat']
    omega
  have hs := Wr.store hg ho (by rw [roomy_len, hL]) hne (L - 1) (UInt8.ofNat (byteOf cur (cur.length / 8) ||| shifted (x / 2 ^ n') k (8 - cur.length % 8))) ((cur.length : Int) + (k : Int))
  rw [hb, ← hW] at hs
  have hp := put_step cur x n' k hk1 (by omega)
  have e : L - 1 = cur.length / 8 := by omega
  refine ⟨_, cur ++ piece x n' k, ⟨?_, ?_⟩, ?_, hfw.trans hs.2.2⟩
  · rw [hs.1]
    have : ((cur ++ piece x n' k).length : Int) = (cur.length : Int) + (k : Int) := by rw [List.length_append]; unfold piece; rw [bitsOf_len]; omega
    rw [this]
  · rw [hp]
    have h2 := hs.2.1
    rw [e] at h2
    exact h2
  · rw [heq, hmk, bitsOf_split, List.append_assoc]

set_option maxHeartbeats 3200000 in
theorem put_any (g : Nat) (v : Value) (bs : List Bool) (x : BitVec 64) (n : Nat) (w : World) (hw : Wr R w g v bs) (hn : n ≤ 64) (hsz : bs.length ≤ 8388608) :
    Calls Tryd.prog 75 #[.pointer (some ⟨g, 0, none⟩), .int .u64 (I64 x), .int .i64 (n : Int)] w fun e w' => e = .returned (.tuple #[]) ∧ ∃ v', Wr R w' g v' (bs ++ bitsOf x.toNat n) ∧ Fw w w' g v v' := by
  go_enter Tryd.func75, Tryd.ntmps75
  go_wp2
  go_loopw [2] (fun i wr => ∃ m : Nat, m ≤ n ∧ i = .int .i64 m ∧ Hid (∃ v' cur, Wr R wr g v' cur ∧ bs ++ bitsOf x.toNat n = cur ++ bitsOf x.toNat m ∧ Fw w wr g v v')) (fun i _ => (intOf i).toNat)
  case atStart => exact ⟨n, Nat.le_refl _, rfl, v, bs, hw, rfl, Fw.refl _ _ _⟩
  case round =>
    obtain ⟨m, hm, rfl, hr⟩ := hrel
    obtain ⟨v', cur, hwr, heq, hfw⟩ := hr.out
    clear hr
    have hcl : cur.length + m = bs.length + n := by
      have := congrArg List.length heq
      simp only [List.length_append, bitsOf_len] at this
      omega
    by_cases h0 : 0 < m
    · obtain ⟨a, c, hvs⟩ := hwr.2.shape
      rw [pack_len] at hvs
      subst hvs
      have hc := hwr.cells
      have c0 := hc.1
      have c1 := hc.2.1
      have f0 := hc.2.2.1
      have f1 := hc.2.2.2.1
      by_cases h8 : cur.length % 8 = 0
      · have e0 : byteOf cur (cur.length / 8) = 0 := byteOf_end cur _ (by omega)
        have e8 : 8 - cur.length % 8 = 8 := by omega
        have hro : roomy cur = pack cur ++ [0] := if_pos h8
        have hap := hwr.apart
        have H : Hid (Wr R wr g (.slice a ((cur.length + 7) / 8) c) cur ∧ bs ++ bitsOf x.toNat n = cur ++ bitsOf x.toNat m ∧ Fw w wr g v (.slice a ((cur.length + 7) / 8) c) ∧ byteOf cur (cur.length / 8) = 0 ∧ 8 - cur.length % 8 = 8 ∧ roomy cur = pack cur ++ [0] ∧ (Value.slice a ((cur.length + 7) / 8) c).ownBlock ≠ some g) := ⟨hwr, heq, hfw, e0, e8, hro, hap⟩
        have hcl2 : cur.length ≤ 8388672 := by omega
        have hw1 : Hid (8 * ((cur.length + 7) / 8) = cur.length ∧ (cur.length + 7) / 8 = cur.length / 8) := ⟨by omega, by omega⟩
        have hpl : Hid ((pack cur).length = (cur.length + 7) / 8) := pack_len cur
        clear hwr heq hfw e0 e8 hro hap hc h8 hcl
        generalize hLL : (cur.length + 7) / 8 = L at *
        have HLL : Hid ((cur.length + 7) / 8 = L) := hLL
        clear hLL
        generalize hss : cur.length = s at *
        have HSS : Hid (cur.length = s) := hss
        clear hss
        have hw2 : 8 * (L : Int) - (s : Int) = 0 := by have := hw1.out.1; omega
        have hL2 : L ≤ 8388672 := by have := hw1.out.1; omega
        go_wp2_with fail
        go_region
        go_wp2_with (at_builtin; refine wp_app rfl _ _ rfl 0 _ _ (pack cur) [0] rfl rfl ((H.out.1.2.keep (gb_drew _ none)).keep (alloc_gb _ _)) (Rd_lit _ [0] 1 rfl (by simp) _ rfl) ?c1 ?c2 ?_)
        case c1 => have := hpl.out; first | omega | (simp; omega)
        case c2 => omega
        intro v1 w1 ho1 hf1
        have hG := H.out.1.grow hf1 ho1
        obtain ⟨gb, cap, hv1, -, hgb, hcap, hcm, hcell⟩ := ho1.form (by simp)
        have hlen : (pack cur ++ [0]).length = L + 1 := by rw [List.length_append, hpl.out]; rfl
        rw [hlen] at hv1 hcap hcell
        subst hv1
        have hgg : gb ≠ g := by have := hG.2.2.2.2; simp [Value.ownBlock] at this; exact this
        have hlast : w1.cell? ⟨gb, L, none⟩ = some (.int .u8 0) := by
          rw [hcell L (by omega)]
          have e : (pack cur ++ [0]).getD L 0 = 0 := by rw [← hpl.out]; simp
          rw [e]
          rfl
        have hfz1 : w1.frozen? ⟨gb, L, none⟩ = false := by
          have h1 := ho1
          unfold Own at h1
          rw [hlen] at h1
          exact World.ownsRow.frozenAt h1 L
        have hwg : w1.heap[g]? = some (.cells #[.slice a L c, .int .i64 (s : Int), R.a, R.b, R.c, R.d, R.e, R.f, R.h] 68 (0, 0)) := by
          rw [hG.1, ← HSS.out]
          exact H.out.1.1
        have d0 : w1.cell? ⟨g, 0, none⟩ = some (.slice a L c) := by simp [World.cell?, hwg]
        have df : w1.frozen? ⟨g, 0, none⟩ = false := by simp [World.frozen?, hwg]
        have hfin : Hid (∀ k n', 1 ≤ k → k ≤ 8 → m = n' + k → ∀ W : World, W = (((w1.setCell ⟨g, 0, none⟩ (.slice (some ⟨gb, 0, none⟩) (L + 1) cap)).setCell ⟨gb, L, none⟩ (.int .u8 ((shifted (x.toNat / 2 ^ n') k 8 : Nat) : Int))).setCell ⟨g, 1, none⟩ (.int .i64 ((s : Int) + (k : Int)))) →
            ∃ v' cur', Wr R W g v' cur' ∧ bs ++ bitsOf x.toNat n = cur' ++ bitsOf x.toNat n' ∧ Fw w W g v v') := by
          intro k n' hk1 hk2 hmk W hW
          refine put_fin hG.2.1 (by rw [H.out.2.2.2.2.2.1]; exact hG.2.2.1) (by have := hw1.out.2; have := HSS.out; rw [this]; omega) hgg H.out.2.1 (H.out.2.2.1.trans hG.2.2.2.1) k n' hk1 (by rw [HSS.out, H.out.2.2.2.2.1]; exact hk2) hmk W ?_
          rw [hW, HSS.out, H.out.2.2.2.1, H.out.2.2.2.2.1, Nat.zero_or]
          rfl
        have t0 : (w1.setCell ⟨g, 0, none⟩ (.slice (some ⟨gb, 0, none⟩) (L + 1) cap)).cell? ⟨g, 0, none⟩ = some (.slice (some ⟨gb, 0, none⟩) (L + 1) cap) := by have := hG.2.1; simp [World.cell?, this]
        have t1 : (w1.setCell ⟨g, 0, none⟩ (.slice (some ⟨gb, 0, none⟩) (L + 1) cap)).cell? ⟨g, 1, none⟩ = some (.int .i64 (s : Int)) := by have := hG.2.1; rw [HSS.out] at this; simp [World.cell?, this]
        have t2 : (w1.setCell ⟨g, 0, none⟩ (.slice (some ⟨gb, 0, none⟩) (L + 1) cap)).frozen? ⟨g, 1, none⟩ = false := by have := hG.2.1; simp [World.frozen?, this]
        have t3 : (w1.setCell ⟨g, 0, none⟩ (.slice (some ⟨gb, 0, none⟩) (L + 1) cap)).cell? ⟨gb, L, none⟩ = some (.int .u8 0) := by
          rw [← hlast]
          exact World.cell?_of_block (Below.heap_setCell _ _ _ _ (by simpa using hgg))
        have t4 : (w1.setCell ⟨g, 0, none⟩ (.slice (some ⟨gb, 0, none⟩) (L + 1) cap)).frozen? ⟨gb, L, none⟩ = false := by
          rw [← hfz1]
          exact World.frozen?_of_block (Below.heap_setCell _ _ _ _ (by simpa using hgg))
        have HT : Hid ((w1.setCell ⟨g, 0, none⟩ (.slice (some ⟨gb, 0, none⟩) (L + 1) cap)).cell? ⟨g, 0, none⟩ = some (.slice (some ⟨gb, 0, none⟩) (L + 1) cap) ∧ (w1.setCell ⟨g, 0, none⟩ (.slice (some ⟨gb, 0, none⟩) (L + 1) cap)).cell? ⟨g, 1, none⟩ = some (.int .i64 (s : Int)) ∧ (w1.setCell ⟨g, 0, none⟩ (.slice (some ⟨gb, 0, none⟩) (L + 1) cap)).frozen? ⟨g, 1, none⟩ = false ∧ (w1.setCell ⟨g, 0, none⟩ (.slice (some ⟨gb, 0, none⟩) (L + 1) cap)).cell? ⟨gb, L, none⟩ = some (.int .u8 0) ∧ (w1.setCell ⟨g, 0, none⟩ (.slice (some ⟨gb, 0, none⟩) (L + 1) cap)).frozen? ⟨gb, L, none⟩ = false) := ⟨t0, t1, t2, t3, t4⟩
        clear hG hf1 ho1 hwg hlast hfz1 hcell hlen t0 t1 t2 t3 t4 H hpl hw1 HLL c0 c1 f0 f1 hcap hcm hgb
        by_cases hmin : (m : Int) < 8
        · have hor := or0_a (k := m) x
          have hf2 := hfin.out m 0 (by omega) (by omega) (by omega)
          have HF2 : Hid (∀ W : World, W = (((w1.setCell ⟨g, 0, none⟩ (.slice (some ⟨gb, 0, none⟩) (L + 1) cap)).setCell ⟨gb, L, none⟩ (.int .u8 ((shifted (x.toNat / 2 ^ 0) m 8 : Nat) : Int))).setCell ⟨g, 1, none⟩ (.int .i64 ((s : Int) + (m : Int)))) → ∃ v' cur', Wr R W g v' cur' ∧ bs ++ bitsOf x.toNat n = cur' ++ bitsOf x.toNat 0 ∧ Fw w W g v v') := hf2
          clear hf2 hfin
          generalize shifted (x.toNat / 2 ^ 0) m 8 = nb at *
          go_wp2_with fail
          generalize w1.setCell ⟨g, 0, none⟩ (.slice (some ⟨gb, 0, none⟩) (L + 1) cap) = T at *
          obtain ⟨t0, t1, t2, t3, t4⟩ := HT.out
          clear HT d0 df
          all_goals go_region
          all_goals go_wp2
          all_goals go_roundw
          case rel => exact ⟨0, by omega, rfl, drew1 (HF2.out _ rfl)⟩
          case measure => simp [intOf]; omega
        · obtain ⟨n', hn'⟩ : ∃ n', m = n' + 8 := ⟨m - 8, by omega⟩
          have hor := or0_b x n'
          have hf2 := hfin.out 8 n' (by omega) (by omega) hn'
          have HF2 : Hid (∀ W : World, W = (((w1.setCell ⟨g, 0, none⟩ (.slice (some ⟨gb, 0, none⟩) (L + 1) cap)).setCell ⟨gb, L, none⟩ (.int .u8 ((shifted (x.toNat / 2 ^ n') 8 8 : Nat) : Int))).setCell ⟨g, 1, none⟩ (.int .i64 ((s : Int) + 8))) → ∃ v' cur', Wr R W g v' cur' ∧ bs ++ bitsOf x.toNat n = cur' ++ bitsOf x.toNat n' ∧ Fw w W g v v') := hf2
          have hsub : (m : Int) - 8 = (n' : Int) := by omega
          clear hf2 hfin
          generalize shifted (x.toNat / 2 ^ n') 8 8 = nb at *
          have hmn : n' ≤ n ∧ n' < m := by omega
          clear hn'
          go_wp2_with fail
          generalize w1.setCell ⟨g, 0, none⟩ (.slice (some ⟨gb, 0, none⟩) (L + 1) cap) = T at *
          obtain ⟨t0, t1, t2, t3, t4⟩ := HT.out
          clear HT d0 df
          all_goals go_region
          all_goals go_wp2
          all_goals go_roundw
          case rel => exact ⟨n', hmn.1, rfl, drew1 (HF2.out _ rfl)⟩
          case measure => simp [intOf]; exact hmn.2
      · have hne0 : pack cur ≠ [] := by intro h; have := congrArg List.length h; rw [pack_len] at this; simp at this; omega
        obtain ⟨gb, cap, hv1, -, hgb, hcap, hcm, hcell⟩ := hwr.2.form hne0
        rw [pack_len] at hv1 hcap hcell
        simp only [Value.slice.injEq] at hv1
        obtain ⟨rfl, -, rfl⟩ := hv1
        have hgg : gb ≠ g := by have := hwr.apart; simp [Value.ownBlock] at this; exact this
        have hfz : wr.frozen? ⟨gb, (cur.length + 7) / 8 - 1, none⟩ = false := by
          have h1 := hwr.2
          unfold Own at h1
          rw [pack_len] at h1
          exact World.ownsRow.frozenAt h1 _
        have hce : wr.cell? ⟨gb, (cur.length + 7) / 8 - 1, none⟩ = some (.int .u8 (byteOf cur (cur.length / 8) : Int)) := by
          have e : (cur.length + 7) / 8 - 1 = cur.length / 8 := by omega
          rw [e, hcell (cur.length / 8) (by omega), pack_get _ _ (by omega), UInt8.toNat_ofNat']
          have := byteOf_lt cur (cur.length / 8)
          congr 3
          omega
        have hbl := byteOf_lt cur (cur.length / 8)
        have hF : Hid (8 * ((cur.length + 7) / 8) = cur.length + (8 - cur.length % 8)) := by show 8 * ((cur.length + 7) / 8) = cur.length + (8 - cur.length % 8); omega
        have kf1 : 1 ≤ 8 - cur.length % 8 := by omega
        have kf2 : 8 - cur.length % 8 ≤ 7 := by omega
        have hcl2 : cur.length ≤ 8388672 := by omega
        have hL1 : 1 ≤ (cur.length + 7) / 8 := by omega
        have hst : Hid (∀ k n', 1 ≤ k → k ≤ 8 - cur.length % 8 → m = n' + k → ∀ W : World, W = ((wr.setCell ⟨gb, (cur.length + 7) / 8 - 1, none⟩ (.int .u8 ((byteOf cur (cur.length / 8) ||| shifted (x.toNat / 2 ^ n') k (8 - cur.length % 8) : Nat) : Int))).setCell ⟨g, 1, none⟩ (.int .i64 ((cur.length : Int) + (k : Int)))) →
            ∃ v' cur', Wr R W g v' cur' ∧ bs ++ bitsOf x.toNat n = cur' ++ bitsOf x.toNat n' ∧ Fw w W g v v') :=
          put_fin hwr.1 (by rw [show roomy cur = pack cur from if_neg h8]; exact hwr.2) (by omega) hgg heq hfw
        clear hc hcell hwr heq hfw hcl h8 hne0 hcap hcm hgb
        generalize byteOf cur (cur.length / 8) = q at *
        generalize 8 - cur.length % 8 = F at *
        generalize (cur.length + 7) / 8 = L at *
        generalize cur.length = s at *
        have hw1 : 8 * (L : Int) - (s : Int) = (F : Int) := by have := hF.out; omega
        have k3 : ((F : Int) == 0) = false := by simp; omega
        have hL2 : L ≤ 8388672 := by have := hF.out; omega
        by_cases hmin : (m : Int) < (F : Int)
        · have hor := or_shifted (q := q) (k := m) (F := F) x 0 hbl
          have hfin := hst.out m 0 (by omega) (by omega) (by omega)
          have HF2 : Hid (∀ W : World, W = ((wr.setCell ⟨gb, L - 1, none⟩ (.int .u8 ((q ||| shifted (x.toNat / 2 ^ 0) m F : Nat) : Int))).setCell ⟨g, 1, none⟩ (.int .i64 ((s : Int) + (m : Int)))) → ∃ v' cur', Wr R W g v' cur' ∧ bs ++ bitsOf x.toNat n = cur' ++ bitsOf x.toNat 0 ∧ Fw w W g v v') := hfin
          clear hfin hst
          generalize q ||| shifted (x.toNat / 2 ^ 0) m F = nb at *
          simp only [Int.pow_zero, Int.ediv_one] at hor
          go_wp2_with fail
          go_region
          all_goals go_wp2_with fail
          all_goals go_region
          all_goals go_wp2
          all_goals go_roundw
          case rel => exact ⟨0, by omega, rfl, drew2 (HF2.out _ rfl)⟩
          case measure => simp [intOf]; omega
        · obtain ⟨n', hn'⟩ : ∃ n', m = n' + F := ⟨m - F, by omega⟩
          have hor := or_shifted (q := q) (k := F) (F := F) x n' hbl
          have hfin := hst.out F n' (by omega) (by omega) hn'
          have HF2 : Hid (∀ W : World, W = ((wr.setCell ⟨gb, L - 1, none⟩ (.int .u8 ((q ||| shifted (x.toNat / 2 ^ n') F F : Nat) : Int))).setCell ⟨g, 1, none⟩ (.int .i64 ((s : Int) + (F : Int)))) → ∃ v' cur', Wr R W g v' cur' ∧ bs ++ bitsOf x.toNat n = cur' ++ bitsOf x.toNat n' ∧ Fw w W g v v') := hfin
          have hsub : (m : Int) - (F : Int) = (n' : Int) := by omega
          clear hfin hst
          generalize q ||| shifted (x.toNat / 2 ^ n') F F = nb at *
          have hmn : n' ≤ n ∧ n' < m := by omega
          have HM : Hid (m = n' + F) := hn'
          clear hn'
          go_wp2_with fail
          go_region
          all_goals go_wp2_with fail
          all_goals go_region
          all_goals go_wp2
          all_goals go_roundw
          case rel => exact ⟨n', hmn.1, rfl, drew2 (HF2.out _ rfl)⟩
          case measure => simp [intOf]; exact hmn.2
    · have hm0 : m = 0 := by omega
      subst hm0
      have HE : Hid (∃ v', Wr R wr g v' (bs ++ bitsOf x.toNat n) ∧ Fw w wr g v v') := ⟨v', by rw [heq]; simpa [bitsOf] using hwr, hfw⟩
      clear hwr heq hfw hcl
      go_wp2
      go_end0
      exact ⟨rfl, HE.out⟩
end Go.Proofs.YtnaccmbnblokmaaDoor
