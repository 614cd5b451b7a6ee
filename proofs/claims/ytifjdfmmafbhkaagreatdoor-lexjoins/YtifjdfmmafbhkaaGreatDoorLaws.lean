/-
  append, make and copy of bytes onto memory of the call's own, as laws for the walk over this seat's program.
-/
import Derived.Test.YtifjdfmmafbhkaaGreatDoorProg
import Derived.Test.YtifjdfmmafbhkaaGreatDoorBase
import Derived.Laws.CopyOwn
namespace Go.Proofs.YtifjdfmmafbhkaaGreatDoor
open Go.RowKit

theorem infoB : (Tryz.prog.info? 5).map (fun i => (i.zero, i.size, i.bytes)) = some (some (.int .u8 0), 1, 1) := by kernel_rfl
theorem sizeB : (Tryz.prog.info? 5).map (·.size) = some 1 := by kernel_rfl

/-- what a call that may write and move one row of its own leaves of the rest -/
def Fr (w w' : World) (v v' : Value) : Prop := w.grownBy w' v.ownBlock ∧ ∀ k, v'.ownBlock = some k → some k = v.ownBlock ∨ w.heap.size ≤ k
theorem Fr.refl (w : World) (v : Value) : Fr w w v v := ⟨gb_refl _ _, fun _ h => .inl h.symm⟩
theorem Fr.trans {w w1 w2 : World} {v v1 v2 : Value} (h1 : Fr w w1 v v1) (h2 : Fr w1 w2 v1 v2) : Fr w w2 v v2 := by
  refine ⟨gb_trans h1.1 h2.1 (fun k hk hlt => ?_), fun k hk => ?_⟩
  · rcases h1.2 k hk with h | h
    · exact h
    · omega
  · rcases h2.2 k hk with h | h
    · exact h1.2 k h.symm
    · exact .inr (Nat.le_trans h1.1.size h)
/-- a row that is new at the call -/
theorem Fr.new {w w1 w2 : World} {v v' : Value} (h1 : w.grownBy w1 none) (h2 : Fr w1 w2 v v') (hv : ∀ k, v.ownBlock = some k → w.heap.size ≤ k) : w.grownBy w2 none := gb_new h1 h2.1 hv
/-- in between new blocks came -/
theorem Fr.pre {w w1 w2 : World} {v v' : Value} (h1 : w.grownBy w1 none) (h2 : Fr w1 w2 v v') : Fr w w2 v v' :=
  ⟨gb_trans (g := v.ownBlock) ⟨h1.os, h1.tape, h1.output, h1.size, fun k hk _ => h1.block k hk (by simp)⟩ h2.1 (fun _ hk _ => hk.symm), fun k hk => (h2.2 k hk).imp id (fun h => Nat.le_trans h1.size h)⟩
theorem gb_any {w w1 : World} (h1 : w.grownBy w1 none) (g : Option Nat) : w.grownBy w1 g := ⟨h1.os, h1.tape, h1.output, h1.size, fun k hk _ => h1.block k hk (by simp)⟩

/-- APPEND, run: whatever is appended is readable. -/
theorem run_app (w : World) (ty : TypeId) (base : Nat) (v : Value) (l : List UInt8) (hown : Own w base v l) (x : Value) (m : List UInt8) (hx : Rd w x m)
    (hsz : l.length + m.length ≤ 175921860444160) (hbase : base ≤ w.heap.size) :
    ∃ v' w', (Builtin.append_ #[36, 36] ty #[v, x]).run Tryz.prog w = .ok v' w' ∧ Own w' base v' (l ++ m) ∧ Fr w w' v v' := by
  obtain ⟨i0, hi, hz0, hz1, hz2⟩ := info_parts infoB
  obtain ⟨a, c, rfl, hmc, hcm, hra, hnil⟩ := hx
  cases a with
  | none =>
    have hm0 : m = [] := by
      have := hnil rfl
      exact List.eq_nil_of_length_eq_zero (by omega)
    subst hm0
    have := hnil rfl
    subst this
    refine ⟨v, w, run_append_owned_none w base 36 ty 5 i0 1 Tryz.underlying36 hi v l.length _ hown, by simpa using hown, Fr.refl _ _⟩
  | some ad =>
    have hlen : (m.map bv).length = m.length * 1 := by simp
    obtain ⟨v', w', hr, ho, hg, _⟩ := run_append_own_wide (P := Tryz.prog) w base 36 ty 5 i0 (.int .u8 0) 1 1 Tryz.underlying36 hi hz0 hz1 hz2 rfl (by decide) v l.length (l.map bv) hown
      ad m.length c (m.map bv) hlen hra.news (oneCell_bv m) (by unfold maxLen; omega) (by omega) hbase
    refine ⟨v', w', hr, ?_, hg, ?_⟩
    · have : Own w' base v' (l ++ m) = w'.ownsRow base 5 1 v' (l.length + m.length) (l.map bv ++ m.map bv) := by simp [Own]
      rw [this]
      exact ho
    · intro k hk
      rcases hown.2 with ⟨rfl, hn⟩ | ⟨g, cap, cur, rfl, hbg, hh, hnc, hcm', hcs, htake⟩
      · by_cases hm0 : m.length = 0
        · have hm1 : m = [] := List.eq_nil_of_length_eq_zero hm0
          subst hm1
          rename_i hiff
          have := hiff.2 ⟨rfl, rfl⟩
          subst this
          simp [Value.ownBlock] at hk
        · have hn' := run_append_nil (P := Tryz.prog) w 36 ty 5 i0 (.int .u8 0) Tryz.underlying36 hi hz0 ad m.length c (m.map bv) (by rw [hz1]; exact hlen) hra.news (by omega) (by omega) (by rw [hz2]; omega)
          rw [hr] at hn'
          injection hn' with e1 e2
          subst e1
          simp [Value.ownBlock] at hk
          exact .inr (by omega)
      · by_cases hroom : l.length + m.length ≤ cap
        · have hn' := run_append_room (P := Tryz.prog) w 36 ty 5 i0 Tryz.underlying36 hi g l.length cap cur hh ad m.length c (m.map bv) (by rw [hz1]; exact hlen) hra.news (oneCell_bv m) hroom (by rw [hz1, hlen, hcs]; omega)
          rw [hr] at hn'
          injection hn' with e1 e2
          subst e1
          exact .inl (by simpa [Value.ownBlock] using hk.symm)
        · have hn' := run_append_grow (P := Tryz.prog) w 36 ty 5 i0 (.int .u8 0) Tryz.underlying36 hi hz0 ⟨g, 0, none⟩ l.length cap (l.map bv) (by rw [hz1]; simp) (World.ownsRow.cells hown rfl) ad m.length c (m.map bv) (by rw [hz1]; exact hlen) hra.news (by omega) (by omega) (by rw [hz2]; exact growslice_fits_wide (by omega) (by omega))
          rw [hr] at hn'
          injection hn' with e1 e2
          subst e1
          simp [Value.ownBlock] at hk
          exact .inr (by omega)

/-- APPEND, for the walk. -/
theorem wp_app {w : World} {ops : Array Oper} {rest : List Oper} {o : Oper} {a : Act} {Q : Exit → Act → World → Prop} (hgd : o.guard = none) (s x : Operand)
    (ho : o.op = .call { callee := .builtin .append, args := #[s, x], argTypes := #[36, 36] })
    (base : Nat) (v xv : Value) (l m : List UInt8) (hs : a.eval s = v) (hx : a.eval x = xv) (hown : Own w base v l) (hr : Rd w xv m) (hsz : l.length + m.length ≤ 175921860444160) (hbase : base ≤ w.heap.size)
    (h : ∀ v' w', Own w' base v' (l ++ m) → Fr w w' v v' → wpList Tryz.prog ops Q rest (a.put o.dst v') w') : wpList Tryz.prog ops Q (o :: rest) a w := by
  refine wpList_plain hgd fun K hK => ?_
  obtain ⟨v', w', hrun, h2, h3⟩ := run_app w o.type base v l hown xv m hr hsz hbase
  unfold Oper.wp execOp
  simp only [ho, resolve, invoke, builtin, Sem.run_bind, Sem.run_pure, Result.andThen_ok, List.map_toArray, List.map_cons, List.map_nil, hs, hx, hrun]
  exact hK _ _ (h v' w' h2 h3)

theorem made_zeros (n c : Nat) (h : n ≤ c) : (madeCells #[Value.int .u8 0] c).toList.take n = (List.replicate n (0 : UInt8)).map bv := by
  rw [toList_madeCells_one, List.take_replicate, List.map_replicate]
  have : min n c = n := by omega
  rw [this]
  rfl

/-- MAKE, for the walk. -/
theorem wp_make {w : World} {ops : Array Oper} {rest : List Oper} {o : Oper} {a : Act} {Q : Exit → Act → World → Prop} (hgd : o.guard = none) (ol oc : Operand)
    (ho : o.op = Op.makeSlice 36 ol oc) (base : Nat) (kl kc : IntKind) (L C : Int) (n c : Nat) (hl : a.eval ol = .int kl L) (hc : a.eval oc = .int kc C) (hL : L = (n : Int)) (hC : C = (c : Int)) (hnc : n ≤ c)
    (hsz : c ≤ 281474976710656) (hbase : base ≤ w.heap.size)
    (h : ∀ w', Own w' base (.slice (some ⟨w.heap.size, 0, none⟩) n c) (List.replicate n 0) → w.grownBy w' none → w'.heap.size = w.heap.size + 1 → wpList Tryz.prog ops Q rest (a.put o.dst (.slice (some ⟨w.heap.size, 0, none⟩) n c)) w') :
    wpList Tryz.prog ops Q (o :: rest) a w := by
  refine wpList_plain hgd fun K hK => ?_
  obtain ⟨i0, hi, hz0, hz1, hz2⟩ := info_parts infoB
  have hrun := run_make (P := Tryz.prog) w 36 5 i0 (.int .u8 0) Tryz.underlying36 hi hz0 kl kc (n : Int) (c : Int) (by omega) (by omega) (by rw [hz2]; omega) (by omega)
  rw [hz1] at hrun
  simp only [Int.toNat_natCast, Nat.mul_one] at hrun
  subst hL
  subst hC
  unfold Oper.wp
  simp [execOp, ho, hl, hc, hrun, Result.andThen]
  refine hK _ _ (h _ ?_ (World.grownBy_alloc w _ none) (by simp))
  refine ⟨by simp, .inr ⟨w.heap.size, c, _, by simp, hbase, Go.heap_alloc_new w _, by simpa using hnc, by unfold maxLen; omega, ?_, ?_⟩⟩
  · rw [size_madeCells]; simp
  · simp only [List.length_replicate, Nat.mul_one]
    exact made_zeros n c hnc

/-- COPY, for the walk: all of the source goes over. -/
theorem wp_copy {w : World} {ops : Array Oper} {rest : List Oper} {o : Oper} {a : Act} {Q : Exit → Act → World → Prop} (hgd : o.guard = none) (d s : Operand)
    (ho : o.op = .call { callee := .builtin .copy, args := #[d, s], argTypes := #[36, 36] })
    (base : Nat) (v xv : Value) (l m : List UInt8) (hd : a.eval d = v) (hs : a.eval s = xv) (hown : Own w base v l) (hr : Rd w xv m) (hlen : m.length = l.length)
    (h : ∀ w', Own w' base v m → w.grownBy w' v.ownBlock → wpList Tryz.prog ops Q rest (a.put o.dst (goInt m.length)) w') : wpList Tryz.prog ops Q (o :: rest) a w := by
  obtain ⟨sa, c, rfl, hmc, hcm, hra, hnil⟩ := hr
  by_cases h0 : m.length = 0
  · have hm0 : m = [] := List.eq_nil_of_length_eq_zero h0
    have hl0 : l = [] := List.eq_nil_of_length_eq_zero (by omega)
    subst hm0
    subst hl0
    obtain ⟨da, dc, rfl⟩ := hown.shape
    exact wpList_copy_nothing hgd d s _ _ ho 5 Tryz.underlying36 sizeB _ _ _ _ _ _ hd hs (by simp) (h w hown (gb_refl _ _))
  · cases hsa : sa with
    | none => exact absurd (hnil hsa) (by omega)
    | some ad =>
      subst hsa
      rcases hown.2 with ⟨rfl, hn⟩ | ⟨g, cap, cur, rfl, hbg, hh, hnc, hcm', hcs, htake⟩
      · omega
      · refine wpList_copy_own hgd d s _ _ ho 5 Tryz.underlying36 sizeB g 0 l.length cap ad m.length c hd hs cur 5 hh (m.map bv) (by rw [List.length_map, hlen]; simp) hra.news (by simp; omega) (oneCell_bv m) ?_
        have e : (goInt (m.map bv).length) = goInt m.length := by simp
        rw [e]
        refine h _ ⟨by simp, .inr ⟨g, cap, _, by rw [hlen], hbg, setRow_heap w g cur _ 5 _ hh, by omega, hcm', ?_, ?_⟩⟩ ⟨rfl, rfl, rfl, by simp, fun k _ hk => setRow_other w g k _ (fun e => hk (by simp [Value.ownBlock, e]))⟩
        · simp
          omega
        · simp

/-- a literal's bytes, marked or not -/
theorem Rd_lit (w : World) (cs : List UInt8) (n : Nat) (hn : n = cs.length) (hm : cs.length ≤ 175921860444160) (A : Array Value) (hA : A = (cs.map bv).toArray) {fr : Nat × Nat} : Rd (w.alloc (.cells A 5 fr)) (.slice (some ⟨w.heap.size, 0, none⟩) n n) cs := by
  subst hn
  subst hA
  refine ⟨_, _, rfl, Nat.le_refl _, by unfold maxLen; omega, ?_, fun h => by cases h⟩
  intro j hj
  refine ⟨_, _, rfl, ?_⟩
  have hh := Go.heap_alloc_new w (.cells (cs.map bv).toArray 5 fr)
  have := getD_map_bv hj
  simp only [World.cell?, hh, Nat.zero_add]
  simpa using this
end Go.Proofs.YtifjdfmmafbhkaaGreatDoor
