/-
  Lists of asked calls that a statement makes, and what they come to as bits: plain facts and laws.
-/
import Derived.Test.YtgbpnkamamafjabDoorLiftO
import Derived.Test.YtgbpnkamamafjabDoorBitsS2
import Derived.Test.YtgbpnkamamafjabDoorBitsE7
namespace Go.Proofs.YtgbpnkamamafjabDoor
open Go.ChangeShapes Go.WideShapes Go.ChangeAt Go.RowKit

theorem infoO : (Tryd.prog.info? 31).map (fun i => (i.zero, i.size, i.bytes)) = some (some (.agg #[.int .i64 0, .int .u64 0, .int .i64 0, .int .i64 0]), 4, 32) := by kernel_rfl
def opCells (o : OpT) : List Value := [.int .i64 o.k, .int .u64 (I64 o.x), .int .i64 o.n, .int .i64 o.i]
def flat (ks : List OpT) : List Value := ks.flatMap opCells
theorem flat_len (ks : List OpT) : (flat ks).length = ks.length * 4 := by
  induction ks with
  | nil => rfl
  | cons o ks ih =>
    have : flat (o :: ks) = opCells o ++ flat ks := rfl
    rw [this, List.length_append, ih]
    simp [opCells]
    omega
theorem flat_get (ks : List OpT) : ∀ j f, j < ks.length → f < 4 → (flat ks)[j * 4 + f]? = (opCells (ks.getD j opZ))[f]? := by
  induction ks with
  | nil => intro j f hj; simp at hj
  | cons o ks ih =>
    intro j f hj hf
    have e : flat (o :: ks) = opCells o ++ flat ks := rfl
    have hl : (opCells o).length = 4 := rfl
    rw [e]
    cases j with
    | zero =>
      rw [Nat.zero_mul, Nat.zero_add, List.getElem?_append_left (by omega)]
      rfl
    | succ j =>
      rw [List.getElem?_append_right (by omega), hl]
      have e2 : (j + 1) * 4 + f - 4 = j * 4 + f := by omega
      rw [e2, ih j f (by simpa using hj) hf]
      rfl
/-- a list of calls of the call's own -/
def OwnO (w : World) (base : Nat) (v : Value) (ks : List OpT) : Prop := w.ownsRow base 31 4 v ks.length (flat ks)
theorem OwnO.nil (w : World) (base : Nat) : OwnO w base (.slice none 0 0) [] := World.ownsRow_nil w base _ _
theorem OwnO.keep {w w' : World} {base : Nat} {v : Value} {ks : List OpT} (h : OwnO w base v ks) (hg : w.grownBy w' none) : OwnO w' base v ks := by
  refine World.ownsRow.kept h hg ?_
  cases hv : v.ownBlock with
  | none => exact .inl rfl
  | some k => exact .inr (by simp)
theorem OwnO.keptT {w w' : World} {base : Nat} {v : Value} {ks : List OpT} {ts : List TypeId} (h : OwnO w base v ks) (hk : KeepT ts w w') (ht : 31 ∉ ts) : OwnO w' base v ks := by
  refine ⟨h.1, ?_⟩
  rcases h.2 with h2 | ⟨g, cap, cur, hv, hb, hh, r⟩
  · exact .inl h2
  · exact .inr ⟨g, cap, cur, hv, hb, (hk.2 g _ _ _ hh ht).trans hh, r⟩
theorem OwnO.shape {w : World} {base : Nat} {v : Value} {ks : List OpT} (h : OwnO w base v ks) : ∃ a c, v = .slice a ks.length c := by
  rcases h.2 with ⟨rfl, hn⟩ | ⟨g, cap, cur, rfl, _⟩
  · exact ⟨none, 0, by rw [hn]⟩
  · exact ⟨_, _, rfl⟩
theorem OwnO.form {w : World} {base : Nat} {v : Value} {ks : List OpT} (h : OwnO w base v ks) (hl : ks ≠ []) : ∃ g cap, v = .slice (some ⟨g, 0, none⟩) ks.length cap ∧ ∀ j, j < ks.length →
    w.cell? ⟨g, j * 4, none⟩ = some (.int .i64 (ks.getD j opZ).k) ∧ w.cell? ⟨g, j * 4 + 1, none⟩ = some (.int .u64 (I64 (ks.getD j opZ).x)) ∧ w.cell? ⟨g, j * 4 + 2, none⟩ = some (.int .i64 (ks.getD j opZ).n) ∧ w.cell? ⟨g, j * 4 + 3, none⟩ = some (.int .i64 (ks.getD j opZ).i) := by
  have h0 := h
  rcases h.2 with ⟨rfl, hn⟩ | ⟨g, cap, cur, rfl, hg, hh, hnc, hcm, hcs, ht⟩
  · exact absurd (List.eq_nil_of_length_eq_zero hn) hl
  · refine ⟨g, cap, rfl, fun j hj => ?_⟩
    have e : ∀ f, f < 4 → w.cell? ⟨g, j * 4 + f, none⟩ = (opCells (ks.getD j opZ))[f]? := fun f hf => by
      rw [World.ownsRow.cellAt h0 (j * 4 + f) (by omega), flat_get ks j f hj hf]
    exact ⟨e 0 (by omega), e 1 (by omega), e 2 (by omega), e 3 (by omega)⟩
theorem OwnO.lt {w : World} {base : Nat} {v : Value} {ks : List OpT} (h : OwnO w base v ks) : ∀ k, v.ownBlock = some k → base ≤ k ∧ k < w.heap.size := World.ownsRow.lt h
theorem KeepT.of_row {w w' : World} {base : Nat} {v : Value} {ks : List OpT} (h : OwnO w base v ks) (hg : w.grownBy w' v.ownBlock) : KeepT [31] w w' :=
  ⟨hg.size, fun k A t fr hk ht => by
    refine hg.block k (Array.getElem?_eq_some_iff.1 hk).1 ?_
    intro e
    rcases h.2 with ⟨rfl, _⟩ | ⟨gb, cap, cur, rfl, _, hh, _⟩
    · simp [Value.ownBlock] at e
    · simp only [Value.ownBlock, Option.some.injEq] at e
      subst e
      rw [hh] at hk
      simp only [Option.some.injEq, Obj.cells.injEq] at hk
      exact ht (by rw [← hk.2.1]; simp)⟩
theorem WN.keptO {w wr wr' : World} {g : Nat} {bs : List Bool} (h : WN w wr g bs) (hk : KeepT [31] wr wr') (hg : w.grownBy wr' none) : WN w wr' g bs := by
  obtain ⟨h1, h2, v, h3, h4⟩ := h
  exact ⟨h1, hg, v, ⟨(hk.2 g _ _ _ h3.1 (by decide)).trans h3.1, ownT h3.2 hk (by decide)⟩, h4⟩
/-- one call more, for the walk -/
theorem wp_appO {w : World} {ops : Array Oper} {rest : List Oper} {o : Oper} {a : Act} {Q : Exit → Act → World → Prop} (hgd : o.guard = none) (s x : Operand)
    (ho : o.op = .call { callee := .builtin .append, args := #[s, x], argTypes := #[22, 22] })
    (base : Nat) (v : Value) (ks : List OpT) (q : OpT) (g : Nat) (hs : a.eval s = v) (hx : a.eval x = .slice (some ⟨g, 0, none⟩) 1 1)
    (hc : w.heap[g]? = some (.cells (opCells q).toArray 31 (0, 0))) (hown : OwnO w base v ks) (hsz : ks.length ≤ 16777216) (hbase : base ≤ w.heap.size)
    (h : ∀ v' w', OwnO w' base v' (ks ++ [q]) → w.grownBy w' v.ownBlock → wpList Tryd.prog ops Q rest (a.put o.dst v') w') : wpList Tryd.prog ops Q (o :: rest) a w := by
  obtain ⟨i0, hi, hz0, hz1, hz2⟩ := info_parts infoO
  refine wpList_append_own_wide w hgd s x _ ho base 31 i0 (.agg #[.int .i64 0, .int .u64 0, .int .i64 0, .int .i64 0]) 4 32 Tryd.underlying22 hi hz0 hz1 hz2 rfl (by decide) v ks.length (flat ks) hs hown ⟨g, 0, none⟩ 1 1 (opCells q) hx rfl ?_ ?_ (by unfold maxLen; omega) (by omega) hbase ?_
  · intro j t hj
    rw [Go.WideShapes.add_plain, Nat.zero_add]
    simp only [World.cell?, hc]
    simpa using hj
  · intro t ht
    simp [opCells] at ht
    rcases ht with rfl | rfl | rfl | rfl <;> rfl
  · intro v' w' h1 h2 _
    refine h v' w' ?_ h2
    have e : OwnO w' base v' (ks ++ [q]) = w'.ownsRow base 31 4 v' (ks.length + 1) (flat ks ++ opCells q) := by
      unfold OwnO flat
      rw [List.length_append, List.flatMap_append]
      simp
    rw [e]
    exact h1

/-! ### what they come to -/
def enc (o : OpT) : List Bool := if o.k = 0 then [o.n.tmod 2 != 0] else if o.k = 1 then bitsOf o.x.toNat o.n.toNat else form o.i (BitVec.ofInt 64 o.i)
def Good (o : OpT) : Prop := (o.k = 0 ∨ (o.k = 1 ∧ ¬ bBad o.x o.n) ∨ o.k = 2) ∧ -9223372036854775808 ≤ o.i ∧ o.i ≤ 9223372036854775807
def encs (ks : List OpT) : List Bool := ks.flatMap enc
theorem encs_app (a b : List OpT) : encs (a ++ b) = encs a ++ encs b := by simp [encs]
theorem enc_le (o : OpT) (h : Good o) : (enc o).length ≤ 72 := by
  unfold enc
  split
  · simp
  · split
    · rename_i h1
      rw [bitsOf_len]
      rcases h.1 with h2 | ⟨_, h2⟩ | h2
      · omega
      · unfold bBad at h2; omega
      · omega
    · rw [form_len]
      have := hb_le (rowN o.i)
      have := wd_le (rowN o.i)
      omega
theorem encs_le (ks : List OpT) (h : ∀ o ∈ ks, Good o) : (encs ks).length ≤ 72 * ks.length := by
  induction ks with
  | nil => simp [encs]
  | cons o ks ih =>
    have e : encs (o :: ks) = enc o ++ encs ks := rfl
    have h1 := enc_le o (h o List.mem_cons_self)
    have h2 := ih (fun q hq => h q (List.mem_cons_of_mem _ hq))
    rw [e, List.length_append, List.length_cons]
    omega
theorem encs_at {ks : List OpT} {j : Nat} (h : j < ks.length) : At (pack (encs ks)) (encs (ks.take j)).length (encs ks).length (enc (ks.getD j opZ)) ∧ encs (ks.take (j + 1)) = encs (ks.take j) ++ enc (ks.getD j opZ) := by
  have h1 : ks.getD j opZ = ks[j] := by simp [List.getD, h]
  have e : ks = ks.take j ++ (ks.getD j opZ :: ks.drop (j + 1)) := by rw [h1, ← List.drop_eq_getElem_cons h, List.take_append_drop]
  constructor
  · refine At.pack (c := encs (ks.drop (j + 1))) ?_
    conv => lhs; rw [e]
    rw [encs_app]
    rfl
  · rw [List.take_succ_eq_append_getElem h, encs_app, h1]
    simp [encs]
/-- what a call that is kept adds -/
theorem opNew_enc {o : OpT} (h : Good o) {bs : List Bool} (hl : bs.length + 72 ≤ 8388608) : opNew o.k o.x o.n o.i (BitVec.ofInt 64 o.i) bs = bs ++ enc o ∧ opCode o.k o.x o.n o.i (BitVec.ofInt 64 o.i) bs.length = 0 := by
  have he := enc_le o h
  rcases h.1 with h2 | ⟨h2, h3⟩ | h2
  · have eE : enc o = [o.n.tmod 2 != 0] := if_pos h2
    have eN : opNew o.k o.x o.n o.i (BitVec.ofInt 64 o.i) bs = oNew (o.n.tmod 2 != 0) bs := if_pos h2
    have eC : opCode o.k o.x o.n o.i (BitVec.ofInt 64 o.i) bs.length = oCode bs.length := if_pos h2
    rw [eE, eN, eC]
    exact ⟨if_neg (by omega), if_neg (by omega)⟩
  · have h0 : ¬ o.k = 0 := by omega
    have eE : enc o = bitsOf o.x.toNat o.n.toNat := by unfold enc; rw [if_neg h0, if_pos h2]
    have eN : opNew o.k o.x o.n o.i (BitVec.ofInt 64 o.i) bs = bNew o.x o.n bs := by unfold opNew; rw [if_neg h0, if_pos h2]
    have eC : opCode o.k o.x o.n o.i (BitVec.ofInt 64 o.i) bs.length = bCode o.x o.n bs.length := by unfold opCode; rw [if_neg h0, if_pos h2]
    rw [eE, bitsOf_len] at he
    have hc : bCode o.x o.n bs.length = 0 := by
      unfold bCode
      rw [if_neg h3, if_neg (by omega)]
    rw [eE, eN, eC]
    exact ⟨by unfold bNew; rw [if_pos hc], hc⟩
  · have h0 : ¬ o.k = 0 := by omega
    have h1 : ¬ o.k = 1 := by omega
    have eE : enc o = form o.i (BitVec.ofInt 64 o.i) := by unfold enc; rw [if_neg h0, if_neg h1]
    have eN : opNew o.k o.x o.n o.i (BitVec.ofInt 64 o.i) bs = iNew o.i (BitVec.ofInt 64 o.i) bs := by unfold opNew; rw [if_neg h0, if_neg h1, if_pos h2]
    have eC : opCode o.k o.x o.n o.i (BitVec.ofInt 64 o.i) bs.length = iCode o.i (BitVec.ofInt 64 o.i) bs.length := by unfold opCode; rw [if_neg h0, if_neg h1, if_pos h2]
    rw [eE] at he
    rw [eE, eN, eC]
    exact ⟨if_neg (by omega), if_neg (by omega)⟩
/-- bounds of what came in -/
theorem one_opB {H : Type} {encd : TypeId × Value → H} {W : World} {n : Nat} {a : Addr} {j : Nat} {cs : List Value} {x : DataW H × List MemPlace} (h1 : W.cells? 0 (a.add (j * Tryd.prog.cellsOf 31)) (Tryd.prog.cellsOf 31) = some cs)
    (h2 : DataW.trod encd Tryd.prog W 0 (fun _ => true) true n 31 cs = some x) : ∃ z : Int, W.cell? (a.add (j * 4 + 3)) = some (.int .i64 z) ∧ -9223372036854775808 ≤ z ∧ z ≤ 9223372036854775807 := by
  rw [cellsOp] at h1
  obtain ⟨_, hlen, hcell⟩ := World.cells?_some h1
  obtain ⟨xs, k, hk, hxy, _, hxl, hf⟩ := DataW.trod_struct Tryd.underlying31 h2
  match cs, hlen with
  | [v0, v1, v2, v3], _ =>
    have e3 := hcell 3 (by omega)
    rw [Go.Deep.add_add] at e3
    match xs, hxl with
    | [y0, y1, y2, y3], _ =>
      have g3 := hf 3 _ rfl
      simp [cellsI64] at g3
      obtain ⟨z3, w3, -, f3⟩ := DataW.trod_int Tryd.underlying2 g3
      simp only [List.cons.injEq, and_true] at w3
      subst w3
      exact ⟨z3, by simpa using e3, i64_bd f3⟩
theorem open_opsB {H : Type} {encd : TypeId × Value → H} {W : World} {base : Nat} {v : Value} {d : DataW H} {p : List MemPlace} (hval : Value.okWide Tryd.prog W .any base 22 v)
    (h : DataW.Trod encd Tryd.prog W 0 (fun _ => true) true 22 v d p) : ∃ ops, OpsIn W v ops ∧ ∀ j, j < ops.length → -9223372036854775808 ≤ (ops.getD j opZ).i ∧ (ops.getD j opZ).i ≤ 9223372036854775807 := by
  obtain ⟨ops, ho⟩ := open_ops hval h
  refine ⟨ops, ho, fun j hj => ?_⟩
  obtain ⟨a, c, hv, hml, hc⟩ := ho
  obtain ⟨b, o, rfl, c0, c1, c2, c3⟩ := hc j hj
  subst hv
  obtain ⟨fuel, hf⟩ := h
  rcases Go.Deep.open_slice Tryd.underlying22 hf with ⟨hcs, hx⟩ | ⟨a, l, c', m, n, D, Pl, hcs, hb, hl, hm, hmm, hx, hel⟩
  · simp [Value.cells] at hcs
  · simp [Value.cells] at hcs
    obtain ⟨rfl, rfl, rfl⟩ := hcs
    simp only [if_true] at hmm
    obtain ⟨cs', h1, h2⟩ := hel j (by omega)
    obtain ⟨z, hz, hb1, hb2⟩ := one_opB h1 h2
    rw [Go.WideShapes.add_plain, ← Nat.add_assoc, c3] at hz
    simp only [Option.some.injEq, Value.int.injEq, true_and] at hz
    rw [hz]
    exact ⟨hb1, hb2⟩
end Go.Proofs.YtgbpnkamamafjabDoor
