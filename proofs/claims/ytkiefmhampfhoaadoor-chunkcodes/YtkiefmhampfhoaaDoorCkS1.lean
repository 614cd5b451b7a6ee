/-
  The document's streams and numbers in memory: Write, Bytes, PutU, PutI: the walks.
-/
import Derived.Test.YtkiefmhampfhoaaDoorGC
import Derived.Test.YtkiefmhampfhoaaDoorGB
namespace Go.Proofs.YtkiefmhampfhoaaDoor
open Go.RowKit

theorem infoL : (Tryd.prog.info? 4).map (fun i => (i.zero, i.size, i.bytes)) = some (some (.bool false), 1, 1) := by kernel_rfl
/-- a list of bools of the call's own -/
def OwnB (w : World) (v : Value) (l : List Bool) : Prop := w.ownsRow 0 4 1 v l.length (l.map Value.bool)
theorem OwnB.nil (w : World) : OwnB w (.slice none 0 0) [] := World.ownsRow_nil w 0 _ _
theorem OwnB.shape {w : World} {v : Value} {l : List Bool} (h : OwnB w v l) : ∃ a c, v = .slice a l.length c := by
  rcases h.2 with ⟨rfl, hn⟩ | ⟨g, cap, cur, rfl, _⟩
  · exact ⟨none, 0, by rw [hn]⟩
  · exact ⟨_, _, rfl⟩
/-- a stream at block g -/
def St (w : World) (g : Nat) (v : Value) (l : List Bool) (p : Nat) : Prop := w.heap[g]? = some (.cells #[v, .int .i64 (p : Int)] 79 (0, 0)) ∧ OwnB w v l
theorem St.cells {w : World} {g : Nat} {v : Value} {l : List Bool} {p : Nat} (h : St w g v l p) : w.cell? ⟨g, 0, none⟩ = some v ∧ w.cell? ⟨g, 1, none⟩ = some (.int .i64 (p : Int)) ∧ w.frozen? ⟨g, 0, none⟩ = false ∧ g < w.heap.size := by
  refine ⟨?_, ?_, ?_, (Array.getElem?_eq_some_iff.1 h.1).1⟩
  · simp [World.cell?, h.1]
  · simp [World.cell?, h.1]
  · simp [World.frozen?, h.1]
theorem St.apart {w : World} {g : Nat} {v : Value} {l : List Bool} {p : Nat} (h : St w g v l p) : v.ownBlock ≠ some g := by
  rcases h.2.2 with ⟨rfl, _⟩ | ⟨g', cap, cur, rfl, _, hh, _⟩
  · simp [Value.ownBlock]
  · intro he
    simp only [Value.ownBlock, Option.some.injEq] at he
    subst he
    rw [h.1] at hh
    simp at hh
/-- one bool more, run -/
theorem run_appB (w : World) (ty : TypeId) (v : Value) (l : List Bool) (hown : OwnB w v l) (b : Bool) (gx : Nat) (hx : w.cell? ⟨gx, 0, none⟩ = some (.bool b)) (hsz : l.length + 1 ≤ 175921860444160) :
    ∃ v' w', (Builtin.append_ #[77, 77] ty #[v, .slice (some ⟨gx, 0, none⟩) 1 1]).run Tryd.prog w = .ok v' w' ∧ OwnB w' v' (l ++ [b]) ∧ Fr w w' v v' := by
  obtain ⟨i0, hi, hz0, hz1, hz2⟩ := info_parts infoL
  have hlen : [Value.bool b].length = 1 * 1 := rfl
  have hnews : ∀ j u, [Value.bool b][j]? = some u → w.cell? ((⟨gx, 0, none⟩ : Addr).add j) = some u := by
    intro j u hj
    match j, hj with
    | 0, hj => simp at hj; subst hj; simpa [Addr.add] using hx
  have hone : ∀ u ∈ [Value.bool b], u.oneCell' = true := by intro u hu; simp at hu; subst hu; rfl
  obtain ⟨v', w', hr, ho, hg, _⟩ := run_append_own_wide (P := Tryd.prog) w 0 77 ty 4 i0 (.bool false) 1 1 Tryd.underlying77 hi hz0 hz1 hz2 rfl (by decide) v l.length (l.map Value.bool) hown
    ⟨gx, 0, none⟩ 1 1 [.bool b] hlen hnews hone (by unfold maxLen; omega) (by omega) (Nat.zero_le _)
  refine ⟨v', w', hr, ?_, hg, ?_⟩
  · have : OwnB w' v' (l ++ [b]) = w'.ownsRow 0 4 1 v' (l.length + 1) (l.map Value.bool ++ [.bool b]) := by simp [OwnB]
    rw [this]
    exact ho
  · intro k hk
    rcases hown.2 with ⟨rfl, hn⟩ | ⟨g, cap, cur, rfl, hbg, hh, hnc, hcm', hcs, htake⟩
    · have hn' := run_append_nil (P := Tryd.prog) w 77 ty 4 i0 (.bool false) Tryd.underlying77 hi hz0 ⟨gx, 0, none⟩ 1 1 [.bool b] (by rw [hz1]; exact hlen) hnews (by omega) (by omega) (by rw [hz2]; omega)
      rw [hr] at hn'
      injection hn' with e1 e2
      subst e1
      simp [Value.ownBlock] at hk
      exact .inr (by omega)
    · by_cases hroom : l.length + 1 ≤ cap
      · have hn' := run_append_room (P := Tryd.prog) w 77 ty 4 i0 Tryd.underlying77 hi g l.length cap cur hh ⟨gx, 0, none⟩ 1 1 [.bool b] (by rw [hz1]; exact hlen) hnews hone hroom (by rw [hz1, hlen, hcs]; omega)
        rw [hr] at hn'
        injection hn' with e1 e2
        subst e1
        exact .inl (by simpa [Value.ownBlock] using hk.symm)
      · have hn' := run_append_grow (P := Tryd.prog) w 77 ty 4 i0 (.bool false) Tryd.underlying77 hi hz0 ⟨g, 0, none⟩ l.length cap (l.map Value.bool) (by rw [hz1]; simp) (World.ownsRow.cells hown rfl) ⟨gx, 0, none⟩ 1 1 [.bool b] (by rw [hz1]; exact hlen) hnews (by omega) (by omega) (by rw [hz2]; exact growslice_fits_wide (by omega) (by omega))
        rw [hr] at hn'
        injection hn' with e1 e2
        subst e1
        simp [Value.ownBlock] at hk
        exact .inr (by omega)
theorem wp_appB {w : World} {ops : Array Oper} {rest : List Oper} {o : Oper} {a : Act} {Q : Exit → Act → World → Prop} (hgd : o.guard = none) (s x : Operand)
    (ho : o.op = .call { callee := .builtin .append, args := #[s, x], argTypes := #[77, 77] })
    (v : Value) (l : List Bool) (b : Bool) (gx : Nat) (hs : a.eval s = v) (hx : a.eval x = .slice (some ⟨gx, 0, none⟩) 1 1) (hc : w.cell? ⟨gx, 0, none⟩ = some (.bool b)) (hown : OwnB w v l) (hsz : l.length + 1 ≤ 175921860444160)
    (h : ∀ v' w', OwnB w' v' (l ++ [b]) → Fr w w' v v' → wpList Tryd.prog ops Q rest (a.put o.dst v') w') : wpList Tryd.prog ops Q (o :: rest) a w := by
  refine wpList_plain hgd fun K hK => ?_
  obtain ⟨v', w', hrun, h2, h3⟩ := run_appB w o.type v l hown b gx hc hsz
  unfold Oper.wp execOp
  simp only [ho, resolve, invoke, builtin, Sem.run_bind, Sem.run_pure, Result.andThen_ok, List.map_toArray, List.map_cons, List.map_nil, hs, hx, hrun]
  exact hK _ _ (h v' w' h2 h3)
theorem OwnB.keep {w w' : World} {v : Value} {l : List Bool} (h : OwnB w v l) (hg : w.grownBy w' none) : OwnB w' v l := by
  refine World.ownsRow.kept h hg ?_
  cases hv : v.ownBlock with
  | none => exact .inl rfl
  | some k => exact .inr (by simp)
/-- the list has been moved, and the stream has it -/
theorem St.grow {wr w1 : World} {g p : Nat} {v' v1 : Value} {cur l : List Bool} {o : Obj} (h : St wr g v' cur p) (hf : Fr (wr.alloc o) w1 v' v1) (ho : OwnB w1 v1 l) :
    w1.heap[g]? = wr.heap[g]? ∧ St (w1.setCell ⟨g, 0, none⟩ v1) g v1 l p ∧ Fw wr (w1.setCell ⟨g, 0, none⟩ v1) g v' v1 := by
  have hlt : g < wr.heap.size := h.cells.2.2.2
  have h1 : w1.heap[g]? = wr.heap[g]? := by
    rw [hf.1.block g (by simp; omega) (fun e => h.apart e.symm)]
    exact Below.heap_alloc wr o g hlt
  have h2 : v1.ownBlock ≠ some g := by
    rcases ho.2 with ⟨rfl, _⟩ | ⟨g', cap, cu, rfl, _, hh, _⟩
    · simp [Value.ownBlock]
    · intro he
      simp only [Value.ownBlock, Option.some.injEq] at he
      subst he
      rw [h1, h.1] at hh
      simp at hh
  refine ⟨h1, ⟨?_, ?_⟩, ?_⟩
  · have := heap_setCell_same w1 g 0 _ _ v1 (h1.trans h.1)
    rw [this]
    rfl
  · exact World.ownsRow.kept (row := some g) ho ⟨rfl, rfl, rfl, by simp, fun k _ hk => Below.heap_setCell _ _ _ _ (fun e => hk (by rw [e]))⟩ (.inr h2)
  · refine ⟨hf.1.os, hf.1.tape, hf.1.output, ?_, fun k hk hk1 hk2 => ?_, fun k hk => ?_⟩
    · have := hf.1.size
      simp at this ⊢
      omega
    · rw [Below.heap_setCell _ _ _ _ (by simpa using hk1), hf.1.block k (by simp; omega) hk2]
      exact Below.heap_alloc wr o k hk
    · rcases hf.2 k hk with h3 | h3
      · exact .inl h3
      · right
        simp at h3
        omega
theorem litB (w : World) (b : Bool) (t : TypeId) : (w.alloc (.cells #[Value.bool b] t)).cell? ⟨w.heap.size, 0, none⟩ = some (.bool b) := by
  rw [World.cell?_alloc_at _ _ _ _ rfl]; rfl
theorem bitsOf_mod (x k : Nat) : ∀ j, j ≤ k → bitsOf (x % 2 ^ k) j = bitsOf x j := by
  intro j
  induction j with
  | zero => intro _; rfl
  | succ j ih =>
    intro h
    simp only [bitsOf]
    rw [ih (by omega), Nat.testBit_mod_two_pow]
    simp only [List.cons.injEq, and_true]
    have : j < k := by omega
    simp [this]
theorem bit_and (x : BitVec 64) (i : Nat) : bits .and .u64 (I64 x / 2 ^ i) 1 = ((x.toNat / 2 ^ i % 2 : Nat) : Int) := by
  have e : I64 x / 2 ^ i = ((x.toNat / 2 ^ i : Nat) : Int) := by
    unfold I64
    rw [Int.natCast_ediv, Int.natCast_pow]
    rfl
  have hx := x.isLt
  have h := u64_and_nat (x.toNat / 2 ^ i) 1 (Nat.lt_of_le_of_lt (Nat.div_le_self _ _) hx) (by decide)
  rw [Nat.and_one_is_mod] at h
  rw [e]
  exact h
theorem bit_test (x : BitVec 64) (i : Nat) : (bits .and .u64 (I64 x / 2 ^ i) 1 == 1) = x.toNat.testBit i := by
  rw [bit_and, Nat.testBit_eq_decide_div_mod_eq]
  by_cases h : x.toNat / 2 ^ i % 2 = 1
  · rw [h]; rfl
  · have h0 : x.toNat / 2 ^ i % 2 = 0 := by omega
    rw [h0]; rfl
theorem OwnB.shape3 {w : World} {v : Value} {l : List Bool} (h : OwnB w v l) : ∃ a n c, v = .slice a n c := by
  obtain ⟨a, c, h⟩ := h.shape
  exact ⟨a, _, c, h⟩
set_option maxHeartbeats 3200000 in
theorem write_any (g : Nat) (v : Value) (l : List Bool) (p : Nat) (y : BitVec 64) (n : Nat) (w : World) (hs : St w g v l p) (hn : n ≤ 64) (hsz : l.length ≤ 17592186044416) :
    Calls Tryd.prog 61 #[.pointer (some ⟨g, 0, none⟩), .int .u64 (I64 y), .int .i64 (n : Int)] w fun e w' => e = .returned (.tuple #[]) ∧ ∃ v', St w' g v' (l ++ bitsOf y.toNat n) p ∧ Fw w w' g v v' := by
  have hs2 : Hid (St w g v l p) := hs
  clear hs
  go_enter Tryd.func61, Tryd.ntmps61
  go_wp2
  go_loopw [6] (fun i wr => ∃ k : Nat, k ≤ n ∧ i = .int .i64 ((k : Int) - 1) ∧ Hid (∃ v' cur, St wr g v' cur p ∧ l ++ bitsOf y.toNat n = cur ++ bitsOf y.toNat k ∧ Fw w wr g v v')) (fun i _ => (intOf i + 1).toNat)
  case atStart => exact ⟨n, Nat.le_refl _, rfl, v, l, hs2.out, rfl, Fw.refl _ _ _⟩
  case round =>
    obtain ⟨k, hk, rfl, hr⟩ := hrel
    obtain ⟨v', cur, hst, heq, hfw⟩ := hr.out
    clear hr
    have hcl : cur.length + k = l.length + n := by
      have := congrArg List.length heq
      simp only [List.length_append, bitsOf_len] at this
      omega
    by_cases h0 : 0 < k
    · obtain ⟨j, rfl⟩ : ∃ j, k = j + 1 := ⟨k - 1, by omega⟩
      have hji : ((j + 1 : Nat) : Int) - 1 = (j : Int) := by omega
      rw [hji]
      have hbt := bit_test y j
      have heq2 : l ++ bitsOf y.toNat n = (cur ++ [y.toNat.testBit j]) ++ bitsOf y.toNat j := by rw [heq]; simp [bitsOf]
      have hc := hst.cells
      have c0 := hc.1
      have f0 := hc.2.2.1
      have H : Hid (St wr g v' cur p ∧ l ++ bitsOf y.toNat n = (cur ++ [y.toNat.testBit j]) ++ bitsOf y.toNat j ∧ Fw w wr g v v' ∧ cur.length + 1 ≤ 175921860444160) := ⟨hst, heq2, hfw, by omega⟩
      clear hst heq heq2 hfw hcl hji hc
      generalize y.toNat.testBit j = tb at *
      go_wp2_with (at_builtin; refine wp_appB rfl _ _ rfl _ cur tb _ rfl rfl (litB _ _ _) (H.out.1.2.keep (alloc_gb _ _)) H.out.2.2.2 ?_)
      intro v1 w1 ho1 hf1
      obtain ⟨a1, N1, c1, hv1⟩ := ho1.shape3
      subst hv1
      have hG := H.out.1.grow hf1 ho1
      have hwg : w1.heap[g]? = some (.cells #[v', .int .i64 (p : Int)] 79 (0, 0)) := by rw [hG.1]; exact H.out.1.1
      have d0 : w1.cell? ⟨g, 0, none⟩ = some v' := by simp [World.cell?, hwg]
      have df : w1.frozen? ⟨g, 0, none⟩ = false := by simp [World.frozen?, hwg]
      have H2 : Hid (∃ v1' cur', St (w1.setCell ⟨g, 0, none⟩ (.slice a1 N1 c1)) g v1' cur' p ∧ l ++ bitsOf y.toNat n = cur' ++ bitsOf y.toNat j ∧ Fw w (w1.setCell ⟨g, 0, none⟩ (.slice a1 N1 c1)) g v v1') := ⟨_, cur ++ [tb], hG.2.1, H.out.2.1, H.out.2.2.1.trans hG.2.2⟩
      clear hG hwg H hf1 ho1 c0 f0 hbt
      go_wp2
      go_roundw
      case rel => exact ⟨j, by omega, rfl, H2⟩
      case measure => simp [intOf]
    · obtain rfl : k = 0 := by omega
      have HE : Hid (∃ v', St wr g v' (l ++ bitsOf y.toNat n) p ∧ Fw w wr g v v') := ⟨v', by rw [heq]; simpa [bitsOf] using hst, hfw⟩
      clear hst heq hfw hcl
      go_wp2
      go_end0
      exact ⟨rfl, HE.out⟩
theorem write_eq (g : Nat) (v : Value) (l : List Bool) (p : Nat) (y : BitVec 64) (n : Nat) (X N : Int) (hX : X = I64 y) (hN : N = (n : Int)) (w : World) (hs : St w g v l p) (hn : n ≤ 64) (hsz : l.length ≤ 17592186044416) :
    Calls Tryd.prog 61 #[.pointer (some ⟨g, 0, none⟩), .int .u64 X, .int .i64 N] w fun e w' => e = .returned (.tuple #[]) ∧ ∃ v', St w' g v' (l ++ bitsOf y.toNat n) p ∧ Fw w w' g v v' := by
  subst hX
  subst hN
  exact write_any g v l p y n w hs hn hsz
theorem St.keep {w w' : World} {g : Nat} {v : Value} {l : List Bool} {p : Nat} (h : St w g v l p) (hg : w.grownBy w' none) : St w' g v l p :=
  ⟨by rw [hg.block g h.cells.2.2.2 (by simp)]; exact h.1, h.2.keep hg⟩
/-- what is new at the call and its own -/
theorem Fw.new {w w1 w2 : World} {g : Nat} {v v' : Value} (h1 : w.grownBy w1 none) (h2 : Fw w1 w2 g v v') (hg : w.heap.size ≤ g) (hv : ∀ k, v.ownBlock = some k → w.heap.size ≤ k) : w.grownBy w2 none :=
  ⟨h2.os.trans h1.os, h2.tape.trans h1.tape, h2.output.trans h1.output, Nat.le_trans h1.size h2.size, fun k hk _ =>
    (h2.block k (Nat.lt_of_lt_of_le hk h1.size) (by omega) (fun e => by have := hv k e.symm; omega)).trans (h1.block k hk (by simp))⟩
def packN (l : List Bool) (N : Nat) : List UInt8 := (List.range N).map fun i => UInt8.ofNat (byteOf l i)
theorem packN_len (l : List Bool) (N : Nat) : (packN l N).length = N := by simp [packN]
theorem packN_get (l : List Bool) (N i : Nat) (h : i < N) : (packN l N).getD i 0 = UInt8.ofNat (byteOf l i) := by simp [packN, List.getD, h]
theorem packN_nil (N : Nat) : packN [] N = List.replicate N 0 := by
  apply List.ext_getElem
  · simp [packN]
  · intro i h1 h2
    simp only [packN, List.getElem_map, List.getElem_range, List.getElem_replicate]
    rw [byteOf_end [] i (by simp)]
    rfl
theorem bit_piece (b : Bool) : [b] = piece (b2n b) 0 1 := by cases b <;> rfl
theorem byteOf_one (t : List Bool) (b : Bool) (k : Nat) : byteOf (t ++ [b]) k = if k = t.length / 8 ∧ b = true then byteOf t k ||| 128 / 2 ^ (t.length % 8) else byteOf t k := by
  by_cases h : k = t.length / 8
  · subst h
    rw [bit_piece b, byteOf_piece t (b2n b) 0 1 (by omega) (by omega)]
    have hm : t.length % 8 < 8 := Nat.mod_lt _ (by decide)
    cases b
    · have e : ∀ j, j < 8 → shifted (b2n false / 2 ^ 0) 1 (8 - j) = 0 := by decide
      rw [e _ hm]
      simp
    · have e : ∀ j, j < 8 → shifted (b2n true / 2 ^ 0) 1 (8 - j) = 128 / 2 ^ j := by decide
      rw [e _ hm]
      simp
  · rw [if_neg (fun hh => h hh.1)]
    by_cases h2 : k < t.length / 8
    · exact byteOf_app _ _ _ (by omega)
    · rw [byteOf_end t k (by omega), byteOf_end (t ++ [b]) k (by rw [List.length_append]; simp; omega)]
theorem packN_false (t : List Bool) (N : Nat) : packN (t ++ [false]) N = packN t N := by
  unfold packN
  apply List.map_congr_left
  intro k _
  rw [byteOf_one]
  simp
theorem packN_true (t : List Bool) (N : Nat) : packN (t ++ [true]) N = (packN t N).set (t.length / 8) (UInt8.ofNat (byteOf t (t.length / 8) ||| 128 / 2 ^ (t.length % 8))) := by
  apply List.ext_getElem
  · simp [packN]
  · intro k h1 h2
    rw [List.getElem_set]
    simp only [packN, List.getElem_map, List.getElem_range]
    rw [byteOf_one]
    by_cases e : t.length / 8 = k
    · subst e
      simp
    · rw [if_neg e, if_neg (fun hh => e hh.1.symm)]
theorem pack_packN (l : List Bool) : pack l = packN l ((l.length + 7) / 8) := rfl
theorem take_one {l : List Bool} {i : Nat} (h : i < l.length) : l.take (i + 1) = l.take i ++ [l.getD i false] := by
  have h1 : l.getD i false = l[i] := by simp [List.getD, h]
  rw [h1, List.take_succ_eq_append_getElem h]
theorem OwnB.cell {w : World} {v : Value} {l : List Bool} (h : OwnB w v l) (hl : l ≠ []) : ∃ g cap, v = .slice (some ⟨g, 0, none⟩) l.length cap ∧ g < w.heap.size ∧ ∀ j, j < l.length → w.cell? ⟨g, j, none⟩ = some (.bool (l.getD j false)) := by
  have h0 := h
  rcases h.2 with ⟨rfl, hn⟩ | ⟨g, cap, cur, rfl, hg, hh, hnc, hcm, hcs, ht⟩
  · exact absurd (List.eq_nil_of_length_eq_zero hn) hl
  · refine ⟨g, cap, rfl, (Array.getElem?_eq_some_iff.1 hh).1, fun j hj => ?_⟩
    have := World.ownsRow.cellAt h0 j (by omega)
    rw [this]
    simp [hj, List.getD]
theorem or8 {q y : Nat} (hq : q < 256) (hy : y < 256) : bits .or .u8 (q : Int) (y : Int) = ((q ||| y : Nat) : Int) := u8_or_nat _ _ hq hy
theorem shr128 {m : Nat} (h : m < 8) : (128 : Int) / 2 ^ m = ((128 / 2 ^ m : Nat) : Int) := by
  have : ∀ j, j < 8 → (128 : Int) / 2 ^ j = ((128 / 2 ^ j : Nat) : Int) := by decide
  exact this m h
set_option maxHeartbeats 3200000 in
theorem rbytes_any (g : Nat) (v : Value) (l : List Bool) (p : Nat) (w : World) (hs : St w g v l p) (hsz : l.length ≤ 8388608) :
    Calls Tryd.prog 38 #[.pointer (some ⟨g, 0, none⟩)] w fun e w' => ∃ v', e = .returned v' ∧ Own w' w.heap.size v' (pack l) ∧ w.grownBy w' none := by
  have H : Hid (St w g v l p) := hs
  have hc := hs.cells
  have c0 := hc.1
  have hlt := hc.2.2.2
  obtain ⟨a, c, hv⟩ := hs.2.shape
  subst hv
  have hN : ((l.length : Int) + 7).tdiv 8 = (((l.length + 7) / 8 : Nat) : Int) := by rw [Int.tdiv_eq_ediv_of_nonneg (by omega)]; omega
  have HN : Hid ((l.length + 7) / 8 ≤ 1048576 ∧ l.length ≤ 8388608) := ⟨by omega, hsz⟩
  have HP : Hid (pack l = packN l ((l.length + 7) / 8)) := rfl
  have HN8 : Hid (∀ i, i < l.length → i / 8 < (l.length + 7) / 8) := fun i hi => by omega
  have hl1 : (l.length : Int) ≤ 8388608 := by omega
  clear hs hc hsz
  generalize (l.length + 7) / 8 = N at *
  go_enter Tryd.func38, Tryd.ntmps38
  go_wp2_with (at_make; refine wp_make rfl _ _ rfl w.heap.size _ _ _ _ N N rfl rfl ?c0 ?c1 ?c2 ?c3 ?c4 ?_)
  case c0 => exact wrap64_id (by omega) (by have := HN.out.1; omega)
  case c1 => exact wrap64_id (by omega) (by have := HN.out.1; omega)
  case c2 => exact Nat.le_refl _
  case c3 => have := HN.out.1; omega
  case c4 => omega
  intro w1 ho1 hg1 _
  have d0 : w1.cell? ⟨g, 0, none⟩ = some (.slice a l.length c) := by rw [← c0]; exact World.cell?_of_block (hg1.block g hlt (by simp))
  have H1 : Hid (Own w1 w.heap.size (.slice (some ⟨w.heap.size, 0, none⟩) N N) (packN [] N) ∧ w.grownBy w1 none ∧ St w1 g (.slice a l.length c) l p) := ⟨by rw [packN_nil]; exact ho1, hg1, H.out.keep hg1⟩
  clear ho1 hg1 c0 H
  go_wp2
  go_loopw [19] (fun i wr => ∃ k : Nat, k ≤ l.length ∧ i = .int .i64 (k : Int) ∧ Hid (Own wr w.heap.size (.slice (some ⟨w.heap.size, 0, none⟩) N N) (packN (l.take k) N) ∧ w.grownBy wr none ∧ St wr g (.slice a l.length c) l p)) (fun i _ => l.length - (intOf i).toNat)
  case atStart => exact ⟨0, by omega, rfl, H1⟩
  case round =>
    obtain ⟨k, hk, rfl, hr⟩ := hrel
    by_cases h0 : k < l.length
    · have hne : l ≠ [] := by rintro rfl; simp at h0
      obtain ⟨gb, cap, hv, hgb, hcell⟩ := hr.out.2.2.2.cell hne
      simp only [Value.slice.injEq, true_and] at hv
      obtain ⟨rfl, rfl⟩ := hv
      have hcb := hcell k h0
      have ht := take_one h0
      have htl : (l.take k).length = k := by simp; omega
      cases hb : l.getD k false with
      | false =>
        rw [hb] at hcb ht
        have H2 : Hid (Own wr w.heap.size (.slice (some ⟨w.heap.size, 0, none⟩) N N) (packN (l.take (k + 1)) N) ∧ w.grownBy wr none ∧ St wr g (.slice (some ⟨gb, 0, none⟩) l.length c) l p) := ⟨by rw [ht, packN_false]; exact hr.out.1, hr.out.2⟩
        clear hcell hr ht htl hne hb
        go_wp2
        go_roundw
        case rel => exact ⟨k + 1, by omega, by go_num, H2⟩
        case measure => simp [intOf]; omega
      | true =>
        rw [hb] at hcb ht
        have hk8 := HN8.out k h0
        have hq : (k : Int).tdiv 8 = ((k / 8 : Nat) : Int) := by rw [Int.tdiv_eq_ediv_of_nonneg (by omega)]; omega
        have hm : (k : Int).tmod 8 = ((k % 8 : Nat) : Int) := by rw [Int.tmod_eq_emod_of_nonneg (by omega)]; omega
        have hms : k % 8 < 8 := Nat.mod_lt _ (by decide)
        have hbl := byteOf_lt (l.take k) (k / 8)
        have hcy : wr.cell? ⟨w.heap.size, k / 8, none⟩ = some (.int .u8 (byteOf (l.take k) (k / 8) : Int)) := by
          obtain ⟨g2, cap2, hv2, -, -, -, -, hc2⟩ := hr.out.1.form (by intro e; have := congrArg List.length e; rw [packN_len] at this; simp at this; omega)
          simp only [Value.slice.injEq, Option.some.injEq, Addr.mk.injEq] at hv2
          obtain ⟨⟨rfl, -, -⟩, -, -⟩ := hv2
          rw [hc2 (k / 8) (by rw [packN_len]; exact hk8), packN_get _ _ _ hk8, UInt8.toNat_ofNat']
          congr 3
          omega
        have hfz : wr.frozen? ⟨w.heap.size, k / 8, none⟩ = false := by
          have h1 := hr.out.1
          unfold Own at h1
          rw [packN_len] at h1
          exact World.ownsRow.frozenAt h1 (k / 8)
        have hor := or8 hbl (show 128 / 2 ^ (k % 8) < 256 from Nat.lt_of_le_of_lt (Nat.div_le_self _ _) (by decide))
        have hsh := shr128 hms
        have H2 : Hid (Own (wr.setCell ⟨w.heap.size, k / 8, none⟩ (.int .u8 ((byteOf (l.take k) (k / 8) ||| 128 / 2 ^ (k % 8) : Nat) : Int))) w.heap.size (.slice (some ⟨w.heap.size, 0, none⟩) N N) (packN (l.take (k + 1)) N) ∧ w.grownBy (wr.setCell ⟨w.heap.size, k / 8, none⟩ (.int .u8 ((byteOf (l.take k) (k / 8) ||| 128 / 2 ^ (k % 8) : Nat) : Int))) none ∧ St (wr.setCell ⟨w.heap.size, k / 8, none⟩ (.int .u8 ((byteOf (l.take k) (k / 8) ||| 128 / 2 ^ (k % 8) : Nat) : Int))) g (.slice (some ⟨gb, 0, none⟩) l.length c) l p) := by
          have hlt2 := or_lt hbl (show 128 / 2 ^ (k % 8) < 256 from Nat.lt_of_le_of_lt (Nat.div_le_self _ _) (by decide))
          have hsame : wr.grownBy (wr.setCell ⟨w.heap.size, k / 8, none⟩ (.int .u8 ((byteOf (l.take k) (k / 8) ||| 128 / 2 ^ (k % 8) : Nat) : Int))) (some w.heap.size) :=
            ⟨rfl, rfl, rfl, by simp, fun j _ hj => Below.heap_setCell _ _ _ _ (fun e => hj (by rw [e]))⟩
          refine ⟨?_, gb_new hr.out.2.1 hsame (fun j hj => by cases hj; exact Nat.le_refl _), ?_, ?_⟩
          · have h1 := hr.out.1
            have h3 : wr.ownsRow w.heap.size 5 1 (.slice (some ⟨w.heap.size, 0, none⟩) N N) N ((packN (l.take k) N).map bv) := by unfold Own at h1; rw [packN_len] at h1; exact h1
            have h4 := World.ownsRow.stored (h := h3) (k / 8) (bv (UInt8.ofNat (byteOf (l.take k) (k / 8) ||| 128 / 2 ^ (k % 8))))
            have e2 : bv (UInt8.ofNat (byteOf (l.take k) (k / 8) ||| 128 / 2 ^ (k % 8))) = .int .u8 ((byteOf (l.take k) (k / 8) ||| 128 / 2 ^ (k % 8) : Nat) : Int) := by
              unfold bv
              rw [UInt8.toNat_ofNat']
              congr 2
              omega
            rw [e2] at h4
            unfold Own
            rw [packN_len, ht, packN_true, htl, List.map_set, e2]
            exact h4.1
          · have hgne : g ≠ w.heap.size := by
              intro e
              have h5 := hr.out.1.2
              rcases h5 with ⟨h6, _⟩ | ⟨g3, cap3, cur3, h6, _, hh3, _⟩
              · cases h6
              · simp only [Value.slice.injEq, Option.some.injEq, Addr.mk.injEq] at h6
                obtain ⟨⟨rfl, -, -⟩, -, -⟩ := h6
                have h7 := hr.out.2.2.1
                rw [e] at h7
                rw [h7] at hh3
                simp at hh3
            rw [hsame.block g hr.out.2.2.cells.2.2.2 (by simpa using hgne)]
            exact hr.out.2.2.1
          · refine World.ownsRow.kept hr.out.2.2.2 hsame (.inr ?_)
            intro e
            simp only [Value.ownBlock, Option.some.injEq] at e
            have h5 := hr.out.1.2
            rcases h5 with ⟨h6, _⟩ | ⟨g3, cap3, cur3, h6, _, hh3, _⟩
            · cases h6
            · simp only [Value.slice.injEq, Option.some.injEq, Addr.mk.injEq] at h6
              obtain ⟨⟨rfl, -, -⟩, -, -⟩ := h6
              rcases hr.out.2.2.2.2 with ⟨h8, _⟩ | ⟨g4, cap4, cur4, h8, _, hh4, _⟩
              · cases h8
              · simp only [Value.slice.injEq, Option.some.injEq, Addr.mk.injEq] at h8
                obtain ⟨⟨rfl, -, -⟩, -, -⟩ := h8
                rw [e] at hh4
                rw [hh4] at hh3
                simp at hh3
        have hK8b : k / 8 ≤ 1048576 := by have := HN.out.1; omega
        clear hcell hr ht htl hne hb
        generalize byteOf (l.take k) (k / 8) = Q at *
        generalize 128 / 2 ^ (k % 8) = Y at *
        generalize Q ||| Y = QY at *
        generalize k / 8 = K8 at *
        generalize k % 8 = M8 at *
        go_wp2
        go_roundw
        case rel => exact ⟨k + 1, by omega, by go_num, H2⟩
        case measure => simp [intOf]; omega
    · obtain rfl : k = l.length := by omega
      have H2 : Hid (Own wr w.heap.size (.slice (some ⟨w.heap.size, 0, none⟩) N N) (pack l) ∧ w.grownBy wr none) := ⟨by rw [HP.out]; simpa using hr.out.1, hr.out.2.1⟩
      clear hr
      go_wp2
      go_ret
      exact ⟨_, rfl, H2.out⟩
theorem turn_neg_eq {n : Int} (h : n < 0) (hl : -9223372036854775808 ≤ n) : 2 * -(n + 1) + 1 = I64 (BitVec.ofNat 64 (zz n)) := by
  unfold zz
  rw [if_pos h, I64_of (by omega)]
  omega
theorem turn_any (n : Int) (w : World) (hl : -9223372036854775808 ≤ n) (hh : n ≤ 9223372036854775807) :
    Calls Tryd.prog 82 #[.int .i64 n] w fun e w' => e = .returned (.int .u64 (I64 (BitVec.ofNat 64 (zz n)))) ∧ w' = w := by
  by_cases h : n < 0
  · have H : Hid (2 * -(n + 1) + 1 = I64 (BitVec.ofNat 64 (zz n))) := turn_neg_eq h hl
    have h' : ¬ 0 ≤ n := by omega
    go_enter Tryd.func82, Tryd.ntmps82
    go_wp2
    go_ret
    exact ⟨ret_int H.out, rfl⟩
  · have H : Hid (2 * n = I64 (BitVec.ofNat 64 (zz n))) := (Int.mul_comm 2 n).trans (zz_pos_eq h hh)
    have h' : 0 ≤ n := by omega
    go_enter Tryd.func82, Tryd.ntmps82
    go_wp2
    go_ret
    exact ⟨ret_int H.out, rfl⟩
set_option maxHeartbeats 800000 in
theorem joined_any (v u : Value) (l m : List UInt8) (w : World) (hv : Rd w v l) (hu : Rd w u m) (hsz : l.length + m.length ≤ 175921860000000) :
    Calls Tryd.prog 83 #[v, u] w fun e w' => ∃ v', e = .returned v' ∧ Own w' w.heap.size v' (l ++ m) ∧ w.grownBy w' none := by
  have hv2 : Hid (Rd w v l) := hv
  have hu2 : Hid (Rd w u m) := hu
  clear hv hu
  go_enter Tryd.func83, Tryd.ntmps83
  go_wp2_with (at_builtin; refine wp_app rfl _ _ rfl w.heap.size _ _ [] l rfl rfl (Own.nil _ _) hv2.out ?c1 ?c2 ?_)
  case c1 => first | omega | (simp; omega)
  case c2 => omega
  intro v1 w1 ho1 hf1
  have H1 : Hid (Own w1 w.heap.size v1 l ∧ w.grownBy w1 none) := ⟨by simpa using ho1, hf1.1⟩
  clear ho1 hf1
  go_wp2_with (at_builtin; refine wp_app rfl _ _ rfl w.heap.size _ _ l m rfl rfl H1.out.1 (hu2.out.keep H1.out.2) ?c3 ?c4 ?_)
  case c3 => first | omega | (simp; omega)
  case c4 => exact H1.out.2.size
  intro v2 w2 ho2 hf2
  have H2 : Hid (Own w2 w.heap.size v2 (l ++ m) ∧ w.grownBy w2 none) := ⟨ho2, Fr.new H1.out.2 hf2 (fun k hk => (H1.out.1.lt k hk).1)⟩
  clear ho2 hf2 H1
  go_wp2
  go_ret
  exact ⟨_, rfl, H2.out.1, H2.out.2⟩
theorem low_mod (x : BitVec 64) : (I64 x).tmod 128 = ((x.toNat % 128 : Nat) : Int) := by
  simp only [I64]
  rw [Int.tmod_eq_emod_of_nonneg (by omega)]
  omega
theorem wrap_I64 (x : BitVec 64) : IntKind.u64.wrap (I64 x) = I64 x := by
  have := I64_lt x
  have := I64_nonneg x
  rw [IntKind.wrap_u64]; omega
theorem low_div (x : BitVec 64) : (I64 x).tdiv 128 = I64 (x >>> 7) := by
  rw [Int.tdiv_eq_ediv_of_nonneg (I64_nonneg x)]
  exact I64_shr7 x
set_option maxHeartbeats 1600000 in
theorem refPutU_any (v : Value) (l : List UInt8) (x : BitVec 64) (w : World) (hv : Rd w v l) (hsz : l.length ≤ 175921850000000) :
    Calls Tryd.prog 62 #[v, .int .u64 (I64 x)] w fun e w' => ∃ v', e = .returned v' ∧ Own w' w.heap.size v' (l ++ uv x.toNat) ∧ w.grownBy w' none := by
  have hv2 : Hid (Rd w v l) := hv
  have hlen := uv_len64 x
  clear hv
  go_enter Tryd.func62, Tryd.ntmps62
  go_wp2
  go_loopw [1, 5] (fun n s wr => ∃ (d : List UInt8) (y : BitVec 64), n = .int .u64 (I64 y) ∧ Hid (Own wr w.heap.size s d) ∧ Hid (uv x.toNat = d ++ uv y.toNat) ∧ Hid (w.grownBy wr none)) (fun n _ _ => (intOf n).toNat)
  case atStart => exact ⟨[], x, rfl, Own.nil _ _, rfl, gb_refl _ _⟩
  case round =>
    obtain ⟨d, y, rfl, ho, hu, hf⟩ := hrel
    have hdl : d.length + 1 ≤ 10 := by
      have h1 := congrArg List.length hu.out
      have := uv_pos y.toNat
      simp only [List.length_append] at h1
      omega
    by_cases h : 128 ≤ I64 y
    · obtain ⟨q, hq⟩ : ∃ q : Int, (I64 y).tmod 128 = q := ⟨_, rfl⟩
      have hq0 : 0 ≤ q := by rw [← hq, low_mod]; omega
      have hq1 : q < 128 := by rw [← hq, low_mod]; omega
      have e3 : q + 128 = ((lowB y.toNat).toNat : Int) := by rw [← hq, low_mod, lowB_nat]; omega
      have e2 := low_div y
      have hy : ¬ y.toNat < 128 := by simp only [I64] at h; omega
      have hst : Hid (uv x.toNat = (d ++ [lowB y.toNat]) ++ uv (y >>> 7).toNat) := by
        have := hu.out
        rw [uv_big hy] at this
        show uv x.toNat = _
        rw [this]
        simp [BitVec.toNat_ushiftRight, Nat.shiftRight_eq_div_pow]
      have hms : Hid ((I64 (y >>> 7)).toNat < (I64 y).toNat) := by
        show (I64 (y >>> 7)).toNat < (I64 y).toNat
        rw [← I64_shr7]; omega
      clear hu hy
      generalize y >>> 7 = y1 at *
      generalize lowB y.toNat = b1 at *
      go_wp2_with (at_builtin; refine wp_app rfl _ _ rfl w.heap.size _ _ d [b1] rfl rfl (ho.out.keep (alloc_gb _ _)) rd_one ?c1 ?c2 ?_)
      case c1 => first | omega | (simp; omega)
      case c2 => have := hf.out.size; first | omega | (simp; omega)
      intro v' w' ho' hf'
      have hf2 : Hid (w.grownBy w' none) := gb_new hf.out (Fr.pre (alloc_gb _ _) hf').1 (fun k hk => (ho.out.lt k hk).1)
      have ho2 : Hid (Own w' w.heap.size v' (d ++ [b1])) := ho'
      clear hf' ho' ho hf e3 hq hq0 hq1
      have e6 := wrap_I64 y1
      go_wp2
      go_roundw
      case rel => exact ⟨d ++ [b1], y1, rfl, ho2, hst, hf2⟩
      case measure => simp only [intOf]; exact hms.out
    · have hy : y.toNat < 128 := by simp only [I64] at h; omega
      have e1 := small256 y
      have hst : Hid (uv x.toNat = d ++ [UInt8.ofNat y.toNat]) := by
        have := hu.out
        rw [uv_small hy] at this
        exact this
      clear hu hy
      generalize UInt8.ofNat y.toNat = b1 at *
      go_wp2_with (at_builtin; refine wp_app rfl _ _ rfl w.heap.size _ _ d [b1] rfl rfl (ho.out.keep (alloc_gb _ _)) rd_one ?c3 ?c4 ?_)
      case c3 => first | omega | (simp; omega)
      case c4 => have := hf.out.size; first | omega | (simp; omega)
      intro v' w' ho' hf'
      have H2 : Hid (Rd w' v' (uv x.toNat) ∧ w.grownBy w' none) := ⟨by rw [hst.out]; exact ho'.rd, gb_new hf.out (Fr.pre (alloc_gb _ _) hf').1 (fun k hk => (ho.out.lt k hk).1)⟩
      clear hf' ho' ho hf hst e1
      go_wp2_with fail
      refine (joined_any v v' l (uv x.toNat) _ (hv2.out.keep H2.out.2) H2.out.1 (by omega)).mono ?_
      rintro e w3 ⟨v3, rfl, ho3, hg3⟩
      have H3 : Hid (Own w3 w.heap.size v3 (l ++ uv x.toNat) ∧ w.grownBy w3 none) := ⟨ho3.mono H2.out.2.size, gb_none H2.out.2 hg3⟩
      clear ho3 hg3 H2
      go_wp2
      go_ret
      exact ⟨_, rfl, H3.out.1, H3.out.2⟩
theorem refPutI_any (v : Value) (l : List UInt8) (n : Int) (w : World) (hv : Rd w v l) (hsz : l.length ≤ 175921850000000) (hl : -9223372036854775808 ≤ n) (hh : n ≤ 9223372036854775807) :
    Calls Tryd.prog 60 #[v, .int .i64 n] w fun e w' => ∃ v', e = .returned v' ∧ Own w' w.heap.size v' (l ++ uv (zz n)) ∧ w.grownBy w' none := by
  have hv2 : Hid (Rd w v l) := hv
  have hz : Hid ((BitVec.ofNat 64 (zz n)).toNat = zz n) := ofNat_zz hl hh
  clear hv
  go_enter Tryd.func60, Tryd.ntmps60
  go_wp2_with fail
  refine (turn_any n _ hl hh).mono ?_
  rintro e w1 ⟨rfl, rfl⟩
  go_wp2_with fail
  refine (refPutU_any v l _ _ hv2.out (by omega)).mono ?_
  rintro e w2 ⟨v2, rfl, ho, hg⟩
  rw [hz.out] at ho
  have H : Hid (Own w2 w1.heap.size v2 (l ++ uv (zz n)) ∧ w1.grownBy w2 none) := ⟨ho, hg⟩
  clear ho hg
  go_wp2
  go_ret
  exact ⟨_, rfl, H.out.1, H.out.2⟩
/-- blocks of other types are as they were -/
def KeepT (ts : List TypeId) (w w' : World) : Prop := w.heap.size ≤ w'.heap.size ∧ ∀ (k : Nat) A t fr, w.heap[k]? = some (Obj.cells A t fr) → t ∉ ts → w'.heap[k]? = w.heap[k]?
theorem KeepT.refl (ts : List TypeId) (w : World) : KeepT ts w w := ⟨Nat.le_refl _, fun _ _ _ _ _ _ => rfl⟩
theorem KeepT.trans {ts : List TypeId} {w w1 w2 : World} (h1 : KeepT ts w w1) (h2 : KeepT ts w1 w2) : KeepT ts w w2 :=
  ⟨Nat.le_trans h1.1 h2.1, fun k A t fr hk ht => by
    have e := h1.2 k A t fr hk ht
    rw [h2.2 k A t fr (e.trans hk) ht, e]⟩
theorem KeepT.of_none {ts : List TypeId} {w w' : World} (h : w.grownBy w' none) : KeepT ts w w' :=
  ⟨h.size, fun k A t fr hk _ => h.block k (Array.getElem?_eq_some_iff.1 hk).1 (by simp)⟩
theorem KeepT.of_st {w w' : World} {g p : Nat} {v v' : Value} {bs : List Bool} (hw : St w g v bs p) (hf : Fw w w' g v v') : KeepT [79, 4] w w' :=
  ⟨hf.size, fun k A t fr hk ht => by
    refine hf.block k (Array.getElem?_eq_some_iff.1 hk).1 ?_ ?_
    · rintro rfl
      rw [hw.1] at hk
      simp only [Option.some.injEq, Obj.cells.injEq] at hk
      exact ht (by rw [← hk.2.1]; simp)
    · intro e
      rcases hw.2.2 with ⟨rfl, _⟩ | ⟨gb, cap, cur, rfl, _, hh, _⟩
      · simp [Value.ownBlock] at e
      · simp only [Value.ownBlock, Option.some.injEq] at e
        subst e
        rw [hh] at hk
        simp only [Option.some.injEq, Obj.cells.injEq] at hk
        exact ht (by rw [← hk.2.1]; simp)⟩
theorem ownT {w w' : World} {base : Nat} {ty : TypeId} {v : Value} {n : Nat} {cs : List Value} {ts : List TypeId} (h : w.ownsRow base ty 1 v n cs) (hk : KeepT ts w w') (ht : ty ∉ ts) : w'.ownsRow base ty 1 v n cs := by
  refine ⟨h.1, ?_⟩
  rcases h.2 with h2 | ⟨g, cap, cur, hv, hb, hh, r⟩
  · exact .inl h2
  · exact .inr ⟨g, cap, cur, hv, hb, (hk.2 g _ _ _ hh ht).trans hh, r⟩
theorem KeepT.mono {ts ts' : List TypeId} {w w' : World} (h : KeepT ts w w') (hs : ∀ t ∈ ts, t ∈ ts') : KeepT ts' w w' := ⟨h.1, fun k A t fr hk ht => h.2 k A t fr hk (fun hh => ht (hs t hh))⟩
end Go.Proofs.YtkiefmhampfhoaaDoor
