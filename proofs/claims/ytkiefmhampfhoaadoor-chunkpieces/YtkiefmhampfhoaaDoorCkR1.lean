/-
  A range over a function whose rounds may leave: my own laws; what a reader of samples has read, in words.
-/
import Derived.Test.YtkiefmhampfhoaaDoorCkQ6
import Derived.RangeFuncNested
import Derived.RangeFuncBound
import Derived.RangeFuncCalls
import Derived.RangeFuncLeaves
import Derived.Shelf.Abstract
import Derived.OwnWalkIn
import Derived.TacticsInMore
import Derived.LoopNIn
import Derived.LoopIn
namespace Go.Proofs.YtkiefmhampfhoaaDoor
open Go.RowKit Go.Shelf

/-- one round that goes on, or leaves by a return -/
theorem yield_ex {F : Fence} {n l : Nat} {P : Program} {W : World} {args : Array Value} {rc : Loop} {R Rx : World → Prop} {A B : Code} {ps : Array Tmp} {tm : Array Value} (ha : rc.assign = A) (hb : rc.body = B) (hp : rc.params = ps) (ht : rc.tmps = tm) (hl : W.heap[l]? = some (.loop rc)) (hrd : rc.state = .ready) (hps : args.size = ps.size) (hF : F.fn rc.fn)
    (h : A.wpIn (F.inRound l) n P (Exit.then (fun a₁ w₁ => w₁.heap[l]? = some (.loop rc) ∧ B.wpIn (F.inRound l) n P (fun e _ w₂ => w₂.heap[l]? = some (.loop { rc with state := .busy }) ∧ ((e = .normal ∧ R (w₂.putObj l (.loop { rc with state := .ready, pending := none }))) ∨ (e = .ret ∧ Rx (w₂.putObj l (.loop { rc with state := .done, pending := some .ret }))))) a₁ (w₁.putObj l (.loop { rc with state := .busy }))) (fun _ _ _ => False))
      { tmps := (ps.zip args).foldl (fun tmps (t, a) => tmps.setIfInBounds t a) tm, defers := [] } W) :
    YieldAt F n P l args W fun e W' => (e = .returned (.bool true) ∧ R W') ∨ (e = .returned (.bool false) ∧ Rx W') := by
  subst ha hb hp ht
  refine ⟨_, _, _, _, run_yield hl hps, roundIn_of_wpIn hF (wpIn_mono h ?_)⟩
  intro e a₁ w₁ hq
  cases e with
  | normal =>
    obtain ⟨h1, h2⟩ := hq
    refine ⟨_, run_beginRound h1 hrd, wpIn_mono h2 ?_⟩
    rintro e a₂ w₂ ⟨h3, ⟨rfl, h4⟩ | ⟨rfl, h4⟩⟩
    · exact ⟨_, _, run_endRound none h3, .inl ⟨rfl, h4⟩⟩
    · exact ⟨_, _, run_endRound (some .ret) h3, .inr ⟨rfl, h4⟩⟩
  | _ => exact hq.elim

/-- the record of a range that begins in w -/
def recOf (fn : FuncId) (tmps : Array Value) (ps : Array Tmp) (assign body : Code) (w : World) : Loop := { state := .ready, pending := none, fn, tmps, params := ps, assign, body, defers := w.heap.size }
/-- the statement: the function returns, and no round has left, or one has left by a return -/
theorem range_ex {F : Fence} {n : Nat} {P : Program} {g : Operand} {ps : Array Tmp} {assign body : Code} {Q : Exit → Act → World → Prop} {a : Act} {w : World} (hro : F.round = none) (h1 : 1 ≤ n) {gf : Nat} {lb : Array Value} (hg : a.eval g = .func (.func gf) #[] lb) (hFg : F.fn gf) (eg : ∀ args w, (callFunc gf args).run P w = .ok (.enter gf args) w)
    (h : ∀ rc : Loop, F.fn rc.fn → rc.state = .ready → rc.pending = none → rc.params = ps → rc.tmps = a.tmps → rc.assign = assign → rc.body = body → CallsIn F (n - 1) P gf (#[.func (.yield (w.heap.size + 1)) #[] #[]] ++ lb) ((w.alloc (.deferred (some []))).alloc (.loop rc)) fun e W' =>
      (∃ v, e = .returned v) ∧ ((W'.heap[w.heap.size + 1]? = some (.loop rc) ∧ Q .normal { a with defers := { target := .collected w.heap.size, args := #[] } :: a.defers } (W'.putObj (w.heap.size + 1) (.loop { rc with state := .exhausted }))) ∨
        (W'.heap[w.heap.size + 1]? = some (.loop { rc with state := .done, pending := some .ret }) ∧ Q .ret { a with defers := { target := .collected w.heap.size, args := #[] } :: a.defers } (W'.putObj (w.heap.size + 1) (.loop { rc with state := .exhausted, pending := some .ret }))))) :
    (Code.rangeFunc g ps assign body).wpIn F n P Q a w := by
  refine wpIn_rangeFunc ?_
  intro fn hfn
  rw [hro]
  have he := run_enterLoop_outer (P := P) (w := w) fn a.tmps ps assign body
  have hc := h (recOf fn a.tmps ps assign body w) hfn rfl rfl rfl rfl rfl rfl
  obtain ⟨W1, hW1⟩ : ∃ W1, (w.alloc (.deferred (some []))).alloc (.loop (recOf fn a.tmps ps assign body w)) = W1 := ⟨_, rfl⟩
  rw [hW1] at hc
  have hW2 := hW1
  unfold recOf at hW2
  refine ⟨w.heap.size + 1, [{ target := .collected w.heap.size, args := #[] }], W1, { target := .fn (.func gf) lb, args := #[.func (.yield (w.heap.size + 1)) #[] #[]] }, W1, gf, #[.func (.yield (w.heap.size + 1)) #[] #[]] ++ lb, W1, ?_, ?_, ?_, ?_, fun _ => h1, ?_⟩
  · rw [hW2] at he
    exact he
  · simp only [resolve, hg]
    simp [go_sem]
  · intro f' hf'
    simp [Target.leads] at hf'
    subst hf'
    exact hFg
  · simp [invoke, go_sem, eg]
  · refine CallsIn.mono hc ?_
    intro e W' hx
    obtain ⟨⟨v, hv⟩, h2⟩ := hx
    rw [hv]
    rcases h2 with ⟨h3, h4⟩ | ⟨h3, h4⟩
    · have hend := run_endLoop (P := P) h3 (by simp [recOf])
      exact ⟨none, _, hend, h4⟩
    · have hend := run_endLoop (P := P) h3 (by simp)
      exact ⟨some .ret, _, hend, wpIn_ret h4⟩

/-! ### a reader, and who hears of it -/
variable {B : Nat}
/-- the first m blocks of a world -/
def trunc (w : World) (m : Nat) : World := { w with heap := w.heap.extract 0 m }
theorem trunc_size {w : World} {m : Nat} (h : m ≤ w.heap.size) : (trunc w m).heap.size = m := by simp [trunc]; omega
theorem trunc_block {w : World} {m k : Nat} (hk : k < m) : (trunc w m).heap[k]? = w.heap[k]? := by
  simp only [trunc]
  by_cases h : k < w.heap.size
  · rw [Array.getElem?_eq_getElem h, Array.getElem?_eq_getElem (by simp; omega)]
    simp
  · rw [Array.getElem?_eq_none (by rw [Array.size_extract]; omega), Array.getElem?_eq_none (by omega)]
theorem trunc_gb {w : World} {m : Nat} (h : m ≤ w.heap.size) : (trunc w m).grownBy w none := by
  refine Ch.gb (S := fun _ => False) ⟨rfl, rfl, rfl, by rw [trunc_size h]; exact h, fun k hk _ => ?_⟩ (fun _ _ e => e)
  rw [trunc_size h] at hk
  exact (trunc_block hk).symm
theorem RN.mono {B' : Nat} {w0 w : World} {g p s : Nat} {L : List UInt8} (h : RN B w0 w g L p s) (hB : B ≤ B') : RN B' w0 w g L p s := by
  obtain ⟨gb, c, h1, h2⟩ := h.here
  exact ⟨h.new, h.kept, h.place, h.most, h.bytes, gb, c, ⟨h1.1, by omega, by omega, h1.2.2.2⟩, h2⟩
/-- who hears of a sample writes what is its own: the reader is where it was -/
theorem RC.rebase {w0 W W' : World} {gR p s m : Nat} {ptr : Value} {R : Rst} {fl : Bool} {L : List UInt8} (h : RC B w0 W gR ptr R fl L p s) (hm : w0.heap.size = m) (hB : B ≤ W.heap.size) (hc : Ch W W' (fun k => k < m ∨ B ≤ k)) : RC B (trunc W' m) W' gR ptr R fl L p s := by
  have hs := hc.size
  have hmW : m ≤ W'.heap.size := by have := h.kept.size; omega
  have hz := trunc_size hmW
  have keep : ∀ k, m ≤ k → k < B → W'.heap[k]? = W.heap[k]? := fun k h1 h2 => hc.block (by omega) (fun e => by rcases e with e | e <;> omega)
  refine ⟨by rw [hz, ← hm]; exact h.new, h.low, trunc_gb hmW, ?_, ?_⟩
  · rw [keep gR (by rw [← hm]; exact h.new) h.low]
    exact h.box
  · rcases h.strm with ⟨gB, e1, h1⟩ | h1
    · obtain ⟨gb, c, q1, q2, q3, cur, fr, q4⟩ := h1.here
      have k1 := keep gB (by rw [← hm]; exact h1.new) q1.2.1
      have k2 := keep gb (by rw [← hm]; exact q1.2.2.2) q1.2.2.1
      refine .inl ⟨gB, e1, by rw [hz, ← hm]; exact h1.new, trunc_gb hmW, h1.place, h1.most, h1.bytes, gb, c, ⟨q1.1, q1.2.1, q1.2.2.1, by rw [hz, ← hm]; exact q1.2.2.2⟩, ?_, ?_, cur, fr, ?_⟩
      · unfold Rr
        rw [k1]
        exact q2
      · refine q3.ch (S := fun k => k < m ∨ B ≤ k) hc (fun k hk _ e => ?_)
        simp only [Value.ownBlock, Option.some.injEq] at hk
        have := q1.2.2
        omega
      · rw [k2]
        exact q4
    · exact .inr h1
theorem TabC.trunc {W : World} {m : Nat} (h : TabC W) (_hm : m ≤ W.heap.size) (ht : 1 < m) : TabC (trunc W m) := fun j hj => by
  rw [← h j hj]
  exact World.cell?_of_block (trunc_block ht)

/-! ### what has been read, in words -/
def rdP (st : Pst) (T : Int) (F : Nat) (wd : Bool × Nat × Nat) : Pst := ⟨st.n + 1, T, F, T - st.t, wd.1, wd.2.1, wd.2.2⟩
/-- of the stream L, of s bits, l has been read, and each of l could be laid behind those ahead; the place is p -/
inductive Dec (L : List UInt8) (s : Nat) : List SmpT → Pst → Nat → Prop
  | nil : Dec L s [] startP 0
  | snoc {l : List SmpT} {st : Pst} {p : Nat} {T : Int} {F : Nat} {wd : Bool × Nat × Nat} {p' : Nat} : Dec L s l st p → nexO st L s p = some (T, F, wd, p') → F < 18446744073709551616 → wd.2.1 ≤ 31 ∧ wd.2.1 + wd.2.2 < 64 → wrongN (stA startP l) T = 0 → Dec L s (l ++ [(T, F)]) (rdP st T F wd) p'
theorem Dec.spec {L : List UInt8} {s : Nat} {l : List SmpT} {st : Pst} {p : Nat} (h : Dec L s l st p) : st.n = l.length ∧ st.t = (stA startP l).t ∧ OkP st ∧ okL startP l := by
  induction h with
  | nil => exact ⟨rfl, rfl, startOk, trivial⟩
  | @snoc l st p T F wd p' h0 hx hf hw hr ih =>
    obtain ⟨h1, h2, h3, h4⟩ := ih
    have hk := wrongN_ok hr (stA_ok startOk h4).most
    have hn : (stA startP l).n = l.length := by rw [stA_n]; simp [startP]
    refine ⟨by simp [rdP, h1], by rw [stA_snoc]; rfl, ⟨?_, hk.1, hf, ?_, hw⟩, okL_snoc.2 ⟨h4, hr, hf⟩⟩
    · show st.n + 1 ≤ 120
      omega
    · have := h3.time
      show -1125899906842624 ≤ T - st.t ∧ T - st.t ≤ 1125899906842624
      omega
theorem rdP_past {st : Pst} {T : Int} {F : Nat} {wd : Bool × Nat × Nat} (h : OkP st) (ht : 0 ≤ T ∧ T ≤ 1125899906842624) : past (st.n + 1) T F (wrap64 (T - st.t)) wd.1 (wd.2.1 : Int) (wd.2.2 : Int) = pst (rdP st T F wd) := by
  have := h.time
  rw [wrap64_id (by omega) (by omega)]
  rfl
/-- what is there to be read behind a chunk's two bytes -/
def strL (b : List UInt8) : List UInt8 := b.drop 2
def strS (b : List UInt8) : Nat := if b.length ≤ 1048578 then 8 * (b.length - 2) else 0
def cntN (b : List UInt8) : Nat := (b.getD 0 0).toNat * 256 + (b.getD 1 0).toNat
end Go.Proofs.YtkiefmhampfhoaaDoor
