/-
  NfC, NfG, in one text.
-/
import Derived.Test.YtpglhdnepmcahaaGreatDoorLhA
import Derived.RangeFuncNested
import Derived.RangeFuncBound
import Derived.RangeFuncCalls
import Derived.RangeFuncLeaves
import Derived.Shelf.Abstract
import Derived.OwnWalkIn
import Derived.TacticsInMore
import Derived.LoopNIn
import Derived.LoopIn
import Derived.Maps.OwnSet
import Derived.Maps.OwnOps
import Derived.Maps.Ext
import Derived.StringKeys
import Derived.Deep.RegionHeld3
import Derived.Deep.RegionWith
import Derived.Shelf.SlSortCmp.Kit1
/- NfC -/
namespace Go.Proofs.YtpglhdnepmcahaaGreatDoor
open Go.RowKit Go.Shelf Go.Maps Go.WideMaps

theorem hidJ {p : Prop} (h : p) : Hid p := h
/-- what is written of old blocks lies in S; all others stay -/
def Ch (w w' : World) (S : Nat → Prop) : Prop :=
  w'.os = w.os ∧ w'.tape = w.tape ∧ w'.output = w.output ∧ w.heap.size ≤ w'.heap.size ∧ ∀ k, k < w.heap.size → ¬ S k → w'.heap[k]? = w.heap[k]?
theorem Ch.refl (w : World) (S : Nat → Prop) : Ch w w S := ⟨rfl, rfl, rfl, Nat.le_refl _, fun _ _ _ => rfl⟩
theorem Ch.size {w w' : World} {S : Nat → Prop} (h : Ch w w' S) : w.heap.size ≤ w'.heap.size := h.2.2.2.1
theorem Ch.block {w w' : World} {S : Nat → Prop} (h : Ch w w' S) {k : Nat} (hk : k < w.heap.size) (hs : ¬ S k) : w'.heap[k]? = w.heap[k]? := h.2.2.2.2 k hk hs
theorem Ch.trans {w w1 w2 : World} {S T : Nat → Prop} (h1 : Ch w w1 S) (h2 : Ch w1 w2 T) (hT : ∀ k, k < w.heap.size → T k → S k) : Ch w w2 S :=
  ⟨h2.1.trans h1.1, h2.2.1.trans h1.2.1, h2.2.2.1.trans h1.2.2.1, Nat.le_trans h1.size h2.size, fun k hk hs =>
    (h2.block (Nat.lt_of_lt_of_le hk h1.size) (fun ht => hs (hT k hk ht))).trans (h1.block hk hs)⟩
theorem Ch.mono {w w' : World} {S T : Nat → Prop} (h : Ch w w' S) (hT : ∀ k, k < w.heap.size → S k → T k) : Ch w w' T :=
  ⟨h.1, h.2.1, h.2.2.1, h.size, fun k hk hs => h.block hk (fun hk' => hs (hT k hk hk'))⟩
theorem Ch.of_gb {w w' : World} {g : Option Nat} {S : Nat → Prop} (h : w.grownBy w' g) (hg : ∀ k, g = some k → k < w.heap.size → S k) : Ch w w' S :=
  ⟨h.os, h.tape, h.output, h.size, fun k hk hs => h.block k hk (fun e => hs (hg k e.symm hk))⟩
theorem Ch.gb {w w' : World} {S : Nat → Prop} (h : Ch w w' S) (hs : ∀ k, k < w.heap.size → ¬ S k) : w.grownBy w' none :=
  ⟨h.1, h.2.1, h.2.2.1, h.size, fun k hk _ => h.block hk (hs k hk)⟩
/-- S, and what is new between two worlds -/
def Gr (S : Nat → Prop) (w w' : World) : Nat → Prop := fun k => S k ∨ (w.heap.size ≤ k ∧ k < w'.heap.size)
theorem some_lt {w : World} {k : Nat} {o : Obj} (h : w.heap[k]? = some o) : k < w.heap.size := (Array.getElem?_eq_some_iff.1 h).1
theorem row_via {w w' : World} {E : TypeId} {size base n : Nat} {v : Value} {xs : List Value} (h : w.ownsRow base E size v n xs) (hk : ∀ k, v.ownBlock = some k → w'.heap[k]? = w.heap[k]?) : w'.ownsRow base E size v n xs := by
  refine ⟨h.1, ?_⟩
  rcases h.2 with hn | ⟨g, cap, cur, rfl, hb, hgg, rest⟩
  · exact .inl hn
  · exact .inr ⟨g, cap, cur, rfl, hb, by rw [hk g rfl]; exact hgg, rest⟩
theorem row_objE {w : World} {E : TypeId} {size base n : Nat} {v : Value} {xs : List Value} (h : w.ownsRow base E size v n xs) {k : Nat} (hk : v.ownBlock = some k) : ∃ cur, w.heap[k]? = some (.cells cur E (0, 0)) := by
  rcases h.2 with ⟨rfl, _⟩ | ⟨g, cap, cur, rfl, hb, hgg, rest⟩
  · simp [Value.ownBlock] at hk
  · simp only [Value.ownBlock, Option.some.injEq] at hk
    subst hk
    exact ⟨cur, hgg⟩
theorem RdL.via {w w' : World} {v : Value} {ls : List LbT} (h : RdL w v ls) (hk : ∀ k, v.ownBlock = some k → k < w.heap.size → w'.heap[k]? = w.heap[k]?) : RdL w' v ls := by
  obtain ⟨a, c, rfl, h1, h2, h3, h4⟩ := h
  refine ⟨a, c, rfl, h1, h2, fun j hj => ?_, h4⟩
  obtain ⟨b, o, rfl, c0, c1⟩ := h3 j hj
  have hb := hk b rfl (block_lt c0)
  exact ⟨b, o, rfl, (World.cell?_of_block hb).trans c0, (World.cell?_of_block hb).trans c1⟩
theorem RdL.ch {w w' : World} {v : Value} {ls : List LbT} {S : Nat → Prop} (h : RdL w v ls) (hc : Ch w w' S) (hs : ∀ k, v.ownBlock = some k → k < w.heap.size → ¬ S k) : RdL w' v ls :=
  h.via (fun k hk hlt => hc.block hlt (hs k hk hlt))

/-- labels in blocks of S that hold labels alone -/
def Rl (w : World) (S : Nat → Prop) (v : Value) (ls : List LbT) : Prop := RdL w v ls ∧ ∀ k, v.ownBlock = some k → S k ∧ ∃ cur fr, w.heap[k]? = some (.cells cur 51 fr)
theorem Rl.frame {w w' : World} {S T : Nat → Prop} {v : Value} {ls : List LbT} (h : Rl w S v ls) (hc : Ch w w' T) (hT : ∀ k, k < w.heap.size → S k → ¬ T k) : Rl w' S v ls := by
  refine ⟨h.1.ch hc (fun k hk hlt => hT k hlt (h.2 k hk).1), fun k hk => ⟨(h.2 k hk).1, ?_⟩⟩
  obtain ⟨cur, fr, hb⟩ := (h.2 k hk).2
  exact ⟨cur, fr, by rw [hc.block (some_lt hb) (hT k (some_lt hb) (h.2 k hk).1)]; exact hb⟩
theorem Rl.mono {w : World} {S T : Nat → Prop} {v : Value} {ls : List LbT} (h : Rl w S v ls) (hT : ∀ k, k < w.heap.size → S k → T k) : Rl w T v ls :=
  ⟨h.1, fun k hk => ⟨by obtain ⟨cur, fr, hb⟩ := (h.2 k hk).2; exact hT k (some_lt hb) (h.2 k hk).1, (h.2 k hk).2⟩⟩
theorem Rl.one {w : World} {S : Nat → Prop} {v : Value} {ls : List LbT} (h : Rl w S v ls) : v.oneCell' = true := by
  obtain ⟨⟨a, c, rfl, _⟩, _⟩ := h
  rfl
theorem OwnL.rl {w : World} {base : Nat} {v : Value} {ls : List LbT} {S : Nat → Prop} (h : OwnL w base v ls) (hS : ∀ k, v.ownBlock = some k → S k) : Rl w S v ls :=
  ⟨h.rd, fun k hk => ⟨hS k hk, by obtain ⟨cur, hc⟩ := row_objE h hk; exact ⟨cur, _, hc⟩⟩⟩

/-- how a slice of a whole block reads among a map's elements -/
def slD : Value → DataW Unit
  | .slice (some ⟨b, 0, none⟩) n c => .agg [.lit (.int .i64 (b : Int)), .lit (.int .i64 (n : Int)), .lit (.int .i64 (c : Int))]
  | _ => .nil
def slElem (v : Value) : Option (DataW Unit × List MemPlace) :=
  match v with
  | .slice none 0 0 => some (.nil, [])
  | .slice (some ⟨b, 0, none⟩) n c => some (.agg [.lit (.int .i64 (b : Int)), .lit (.int .i64 (n : Int)), .lit (.int .i64 (c : Int))], [])
  | _ => none
def Shp (v : Value) : Prop := v = .slice none 0 0 ∨ ∃ b n c, v = .slice (some ⟨b, 0, none⟩) n c
theorem Shp.elem {v : Value} (h : Shp v) : slElem v = some (slD v, []) := by
  rcases h with rfl | ⟨b, n, c, rfl⟩ <;> rfl
theorem Shp.inv {u v : Value} (hv : Shp v) {ps : List MemPlace} (h : slElem u = some (slD v, ps)) : u = v := by
  rcases hv with rfl | ⟨b, n, c, rfl⟩
  · unfold slElem at h
    split at h
    · rfl
    · simp [slD] at h
    · cases h
  · unfold slElem at h
    split at h
    · simp [slD] at h
    · rename_i b' n' c'
      simp [slD] at h
      obtain ⟨⟨h1, h2, h3⟩, -⟩ := h
      have e1 : b' = b := by omega
      have e2 : n' = n := by omega
      have e3 : c' = c := by omega
      rw [e1, e2, e3]
    · cases h
theorem row_shp {w : World} {E : TypeId} {size base n : Nat} {v : Value} {xs : List Value} (h : w.ownsRow base E size v n xs) : Shp v := by
  rcases h.2 with ⟨rfl, _⟩ | ⟨g, cap, cur, rfl, _⟩
  · exact .inl rfl
  · exact .inr ⟨g, n, cap, rfl⟩
/-- one round that goes on, or leaves by a return -/
theorem yield_ex {F : Fence} {n l : Nat} {P : Program} {W : World} {args : Array Value} {rc : Loop} {R Rx : World → Prop} {A B : Code} {ps : Array Tmp} {tm : Array Value} (ha : rc.assign = A) (hb : rc.body = B) (hp : rc.params = ps) (ht : rc.tmps = tm) (hl : W.heap[l]? = some (.loop rc)) (hrd : rc.state = .ready) (hps : args.size = ps.size) (hF : F.fn rc.fn)
    (h : A.wpIn (F.inRound l) n P (Exit.then (fun a₁ w₁ => w₁.heap[l]? = some (.loop rc) ∧ B.wpIn (F.inRound l) n P (fun e _ w₂ => w₂.heap[l]? = some (.loop { rc with state := .busy }) ∧ ((e = .normal ∧ R (w₂.putObj l (.loop { rc with state := .ready, pending := none }))) ∨ (e = .ret ∧ Rx (w₂.putObj l (.loop { rc with state := .done, pending := some .ret }))))) a₁ (w₁.putObj l (.loop { rc with state := .busy }))) (fun _ _ _ => False))
      { tmps := (ps.zip args).foldl (fun tmps (t, a) => tmps.setIfInBounds t a) tm, defers := [] } W) :
    YieldAt F n P l args W fun e W' => (e = .returned (.bool true) ∧ R W') ∨ (e = .returned (.bool false) ∧ Rx W') := by
  subst ha hb hp ht
  refine ⟨_, _, _, _, run_yield hl hps, roundIn_of_wpIn hF (wpIn_mono h ?_)⟩
  intro e a₁ w₁ hq
  cases e with
  | normal =>
    obtain ⟨h1, h2⟩ := hq
    refine ⟨_, run_beginRound h1 hrd, wpIn_mono h2 ?_⟩
    rintro e a₂ w₂ ⟨h3, ⟨rfl, h4⟩ | ⟨rfl, h4⟩⟩
    · exact ⟨_, _, run_endRound none h3, .inl ⟨rfl, h4⟩⟩
    · exact ⟨_, _, run_endRound (some .ret) h3, .inr ⟨rfl, h4⟩⟩
  | _ => exact hq.elim

/-- the record of a range that begins in w -/
def recOf (fn : FuncId) (tmps : Array Value) (ps : Array Tmp) (assign body : Code) (w : World) : Loop := { state := .ready, pending := none, fn, tmps, params := ps, assign, body, defers := w.heap.size }
/-- the statement: the function returns, and no round has left, or one has left by a return -/
theorem range_ex {F : Fence} {n : Nat} {P : Program} {g : Operand} {ps : Array Tmp} {assign body : Code} {Q : Exit → Act → World → Prop} {a : Act} {w : World} (hro : F.round = none) (h1 : 1 ≤ n) {gf : Nat} {lb : Array Value} (hg : a.eval g = .func (.func gf) #[] lb) (hFg : F.fn gf) (eg : ∀ args w, (callFunc gf args).run P w = .ok (.enter gf args) w)
    (h : ∀ rc : Loop, F.fn rc.fn → rc.state = .ready → rc.pending = none → rc.params = ps → rc.tmps = a.tmps → rc.assign = assign → rc.body = body → CallsIn F (n - 1) P gf (#[.func (.yield (w.heap.size + 1)) #[] #[]] ++ lb) ((w.alloc (.deferred (some []))).alloc (.loop rc)) fun e W' =>
      (∃ v, e = .returned v) ∧ ((W'.heap[w.heap.size + 1]? = some (.loop rc) ∧ Q .normal { a with defers := { target := .collected w.heap.size, args := #[] } :: a.defers } (W'.putObj (w.heap.size + 1) (.loop { rc with state := .exhausted }))) ∨
        (W'.heap[w.heap.size + 1]? = some (.loop { rc with state := .done, pending := some .ret }) ∧ Q .ret { a with defers := { target := .collected w.heap.size, args := #[] } :: a.defers } (W'.putObj (w.heap.size + 1) (.loop { rc with state := .exhausted, pending := some .ret }))))) :
    (Code.rangeFunc g ps assign body).wpIn F n P Q a w := by
  refine wpIn_rangeFunc ?_
  intro fn hfn
  rw [hro]
  have he := run_enterLoop_outer (P := P) (w := w) fn a.tmps ps assign body
  have hc := h (recOf fn a.tmps ps assign body w) hfn rfl rfl rfl rfl rfl rfl
  obtain ⟨W1, hW1⟩ : ∃ W1, (w.alloc (.deferred (some []))).alloc (.loop (recOf fn a.tmps ps assign body w)) = W1 := ⟨_, rfl⟩
  rw [hW1] at hc
  have hW2 := hW1
  unfold recOf at hW2
  refine ⟨w.heap.size + 1, [{ target := .collected w.heap.size, args := #[] }], W1, { target := .fn (.func gf) lb, args := #[.func (.yield (w.heap.size + 1)) #[] #[]] }, W1, gf, #[.func (.yield (w.heap.size + 1)) #[] #[]] ++ lb, W1, ?_, ?_, ?_, ?_, fun _ => h1, ?_⟩
  · rw [hW2] at he
    exact he
  · simp only [resolve, hg]
    simp [go_sem]
  · intro f' hf'
    simp [Target.leads] at hf'
    subst hf'
    exact hFg
  · simp [invoke, go_sem, eg]
  · refine CallsIn.mono hc ?_
    intro e W' hx
    obtain ⟨⟨v, hv⟩, h2⟩ := hx
    rw [hv]
    rcases h2 with ⟨h3, h4⟩ | ⟨h3, h4⟩
    · have hend := run_endLoop (P := P) h3 (by simp [recOf])
      exact ⟨none, _, hend, h4⟩
    · have hend := run_endLoop (P := P) h3 (by simp)
      exact ⟨some .ret, _, hend, wpIn_ret h4⟩

/-- one round that goes on, or breaks -/
theorem yield_br {F : Fence} {n l k : Nat} {P : Program} {W : World} {args : Array Value} {rc : Loop} {R Rx : World → Prop} {A B : Code} {ps : Array Tmp} {tm : Array Value} (ha : rc.assign = A) (hb : rc.body = B) (hp : rc.params = ps) (ht : rc.tmps = tm) (hl : W.heap[l]? = some (.loop rc)) (hrd : rc.state = .ready) (hps : args.size = ps.size) (hF : F.fn rc.fn)
    (h : A.wpIn (F.inRound l) n P (Exit.then (fun a₁ w₁ => w₁.heap[l]? = some (.loop rc) ∧ B.wpIn (F.inRound l) n P (fun e _ w₂ => w₂.heap[l]? = some (.loop { rc with state := .busy }) ∧ ((e = .normal ∧ R (w₂.putObj l (.loop { rc with state := .ready, pending := none }))) ∨ (e = .exit k ∧ Rx (w₂.putObj l (.loop { rc with state := .done, pending := some (.exit k) }))))) a₁ (w₁.putObj l (.loop { rc with state := .busy }))) (fun _ _ _ => False))
      { tmps := (ps.zip args).foldl (fun tmps (t, a) => tmps.setIfInBounds t a) tm, defers := [] } W) :
    YieldAt F n P l args W fun e W' => (e = .returned (.bool true) ∧ R W') ∨ (e = .returned (.bool false) ∧ Rx W') := by
  subst ha hb hp ht
  refine ⟨_, _, _, _, run_yield hl hps, roundIn_of_wpIn hF (wpIn_mono h ?_)⟩
  intro e a₁ w₁ hq
  cases e with
  | normal =>
    obtain ⟨h1, h2⟩ := hq
    refine ⟨_, run_beginRound h1 hrd, wpIn_mono h2 ?_⟩
    rintro e a₂ w₂ ⟨h3, ⟨rfl, h4⟩ | ⟨rfl, h4⟩⟩
    · exact ⟨_, _, run_endRound none h3, .inl ⟨rfl, h4⟩⟩
    · exact ⟨_, _, run_endRound (some (.exit k)) h3, .inr ⟨rfl, h4⟩⟩
  | _ => exact hq.elim
/-- the statement: the function returns, and no round has left, or one has broken -/
theorem range_br {F : Fence} {n k : Nat} {P : Program} {g : Operand} {ps : Array Tmp} {assign body : Code} {Q : Exit → Act → World → Prop} {a : Act} {w : World} (hro : F.round = none) (h1 : 1 ≤ n) {gf : Nat} {lb : Array Value} (hg : a.eval g = .func (.func gf) #[] lb) (hFg : F.fn gf) (eg : ∀ args w, (callFunc gf args).run P w = .ok (.enter gf args) w)
    (h : ∀ rc : Loop, F.fn rc.fn → rc.state = .ready → rc.pending = none → rc.params = ps → rc.tmps = a.tmps → rc.assign = assign → rc.body = body → CallsIn F (n - 1) P gf (#[.func (.yield (w.heap.size + 1)) #[] #[]] ++ lb) ((w.alloc (.deferred (some []))).alloc (.loop rc)) fun e W' =>
      (∃ v, e = .returned v) ∧ ((W'.heap[w.heap.size + 1]? = some (.loop rc) ∧ Q .normal { a with defers := { target := .collected w.heap.size, args := #[] } :: a.defers } (W'.putObj (w.heap.size + 1) (.loop { rc with state := .exhausted }))) ∨
        (W'.heap[w.heap.size + 1]? = some (.loop { rc with state := .done, pending := some (.exit k) }) ∧ Q (.exit k) { a with defers := { target := .collected w.heap.size, args := #[] } :: a.defers } (W'.putObj (w.heap.size + 1) (.loop { rc with state := .exhausted, pending := some (.exit k) }))))) :
    (Code.rangeFunc g ps assign body).wpIn F n P Q a w := by
  refine wpIn_rangeFunc ?_
  intro fn hfn
  rw [hro]
  have he := run_enterLoop_outer (P := P) (w := w) fn a.tmps ps assign body
  have hc := h (recOf fn a.tmps ps assign body w) hfn rfl rfl rfl rfl rfl rfl
  obtain ⟨W1, hW1⟩ : ∃ W1, (w.alloc (.deferred (some []))).alloc (.loop (recOf fn a.tmps ps assign body w)) = W1 := ⟨_, rfl⟩
  rw [hW1] at hc
  have hW2 := hW1
  unfold recOf at hW2
  refine ⟨w.heap.size + 1, [{ target := .collected w.heap.size, args := #[] }], W1, { target := .fn (.func gf) lb, args := #[.func (.yield (w.heap.size + 1)) #[] #[]] }, W1, gf, #[.func (.yield (w.heap.size + 1)) #[] #[]] ++ lb, W1, ?_, ?_, ?_, ?_, fun _ => h1, ?_⟩
  · rw [hW2] at he
    exact he
  · simp only [resolve, hg]
    simp [go_sem]
  · intro f' hf'
    simp [Target.leads] at hf'
    subst hf'
    exact hFg
  · simp [invoke, go_sem, eg]
  · refine CallsIn.mono hc ?_
    intro e W' hx
    obtain ⟨⟨v, hv⟩, h2⟩ := hx
    rw [hv]
    rcases h2 with ⟨h3, h4⟩ | ⟨h3, h4⟩
    · have hend := run_endLoop (P := P) h3 (by simp [recOf])
      exact ⟨none, _, hend, h4⟩
    · have hend := run_endLoop (P := P) h3 (by simp)
      exact ⟨some (.exit k), _, hend, wpIn_exit h4⟩

theorem bxch {w w' : World} {b : Nat} {t : TypeId} {x : Value} {S : Nat → Prop} (h : Boxed w b t x) (hc : Ch w w' S) (hs : ¬ S b) : Boxed w' b t x := by
  show w'.heap[b]? = _
  rw [hc.block h.lt hs]
  exact h
theorem some_lt2 {W : World} {k : Nat} {o : Obj} (h : W.heap[k]? = some o) : k < W.heap.size := (Array.getElem?_eq_some_iff.1 h).1
theorem gb_ch {w W W' : World} {S : Nat → Prop} (h : w.grownBy W none) (hc : Ch W W' S) (hs : ∀ k, S k → w.heap.size ≤ k) : w.grownBy W' none :=
  Ch.gb (S := fun _ => False) ((Ch.of_gb (S := fun _ => False) h (fun k hk => by cases hk)).trans hc (fun k hk e => by have := hs k e; omega)) (fun _ _ e => e)
theorem putRec_ch (W : World) (k : Nat) (o : Obj) : Ch W (W.putObj k o) (fun j => j = k) := ⟨rfl, rfl, rfl, by simp, fun j _ hj => World.putObj_heap_other hj⟩
theorem gb_setI (w : World) (g j : Nat) (u : Value) : w.grownBy (w.setCell ⟨g, j, none⟩ u) (some g) := gbs w g j u
theorem set_ch (W : World) (b i : Nat) (x : Value) : Ch W (W.setCell ⟨b, i, none⟩ x) (fun j => j = b) := Ch.of_gb (gb_setI W b i x) (fun k hk _ => by cases hk; rfl)
theorem row_ch {w w' : World} {E : TypeId} {size : Nat} {S : Nat → Prop} {base n : Nat} {v : Value} {xs : List Value} (h : w.ownsRow base E size v n xs) (hc : Ch w w' S) (hs : ∀ k, v.ownBlock = some k → ¬ S k) : w'.ownsRow base E size v n xs :=
  row_via h (fun k hk => hc.block (h.lt k hk).2 (hs k hk))
theorem ready_same {rc : Loop} (h1 : rc.state = .ready) (h2 : rc.pending = none) : ({ rc with state := .ready, pending := none } : Loop) = rc := by
  cases rc
  simp only at h1 h2
  subst h1
  subst h2
  rfl
theorem set3 {W : World} {g : Nat} {t : TypeId} {a b c x y z : Value} (h : W.heap[g]? = some (.cells #[a, b, c] t (0, 0))) : (((W.setCell ⟨g, 0, none⟩ x).setCell ⟨g, 1, none⟩ y).setCell ⟨g, 2, none⟩ z).heap[g]? = some (.cells #[x, y, z] t (0, 0)) := by
  have h1 := Go.heap_setCell_same W g 0 _ _ x h
  have h2 := Go.heap_setCell_same _ g 1 _ _ y h1
  have h3 := Go.heap_setCell_same _ g 2 _ _ z h2
  simpa using h3
theorem set3_gb {W W2 : World} {g : Nat} {x y z : Value} (h : W.grownBy W2 none) (hg : W.heap.size ≤ g) : W.grownBy (((W2.setCell ⟨g, 0, none⟩ x).setCell ⟨g, 1, none⟩ y).setCell ⟨g, 2, none⟩ z) none := by
  have k : ∀ (X : World) (j : Nat) (u : Value), Ch X (X.setCell ⟨g, j, none⟩ u) (fun k => k = g) := fun X j u => Ch.of_gb (gb_setI X g j u) (fun k hk _ => by cases hk; rfl)
  exact gb_ch (gb_ch (gb_ch h (k _ _ _) (fun k e => by rw [e]; exact hg)) (k _ _ _) (fun k e => by rw [e]; exact hg)) (k _ _ _) (fun k e => by rw [e]; exact hg)
theorem set3_ne {W : World} {g b : Nat} {x y z : Value} (hb : b < W.heap.size) (hne : b ≠ g) : (((W.setCell ⟨g, 0, none⟩ x).setCell ⟨g, 1, none⟩ y).setCell ⟨g, 2, none⟩ z).heap[b]? = W.heap[b]? := by
  have k : ∀ (X : World) (j : Nat) (u : Value), Ch X (X.setCell ⟨g, j, none⟩ u) (fun k => k = g) := fun X j u => Ch.of_gb (gb_setI X g j u) (fun k hk _ => by cases hk; rfl)
  have h : Ch W (((W.setCell ⟨g, 0, none⟩ x).setCell ⟨g, 1, none⟩ y).setCell ⟨g, 2, none⟩ z) (fun k => k = g) := ((k _ _ _).trans (k _ _ _) (fun _ _ e => e)).trans (k _ _ _) (fun _ _ e => e)
  exact h.block hb hne
/-- a struct of three cells -/
def B3 (w : World) (b : Nat) (t : TypeId) (x y z : Value) : Prop := w.heap[b]? = some (.cells #[x, y, z] t (0, 0))
theorem B3.cells {w : World} {b : Nat} {t : TypeId} {x y z : Value} (h : B3 w b t x y z) : w.cell? ⟨b, 0, none⟩ = some x ∧ w.cell? ⟨b, 1, none⟩ = some y ∧ w.cell? ⟨b, 2, none⟩ = some z ∧ w.frozen? ⟨b, 0, none⟩ = false ∧ w.frozen? ⟨b, 1, none⟩ = false ∧ w.frozen? ⟨b, 2, none⟩ = false := by
  unfold B3 at h
  exact ⟨by simp [World.cell?, h], by simp [World.cell?, h], by simp [World.cell?, h], by simp [World.frozen?, h], by simp [World.frozen?, h], by simp [World.frozen?, h]⟩
theorem B3.keep {w w' : World} {b : Nat} {t : TypeId} {x y z : Value} (h : B3 w b t x y z) (hg : w.grownBy w' none) : B3 w' b t x y z := (hg.block b (some_lt h) (by simp)).trans h
theorem B3.new (w : World) (t : TypeId) (x y z : Value) : B3 (w.alloc (.cells #[x, y, z] t)) w.heap.size t x y z := Go.heap_alloc_new w _
theorem B3.ch {w w' : World} {S : Nat → Prop} {b : Nat} {t : TypeId} {x y z : Value} (h : B3 w b t x y z) (hc : Ch w w' S) (hs : ¬ S b) : B3 w' b t x y z := (hc.block (some_lt h) hs).trans h
/-- append by a run that is known, inside a fence -/
theorem wpIn_appRun {F : Fence} {n : Nat} {w w' : World} {ops : Array Oper} {rest : List Oper} {o : Oper} {a : Act} {Q : Exit → Act → World → Prop} (hgd : o.guard = none) (s x : Operand) (T : TypeId)
    (ho : o.op = .call { callee := .builtin .append, args := #[s, x], argTypes := #[T, T] }) (vs vx v' : Value) (hs : a.eval s = vs) (hx : a.eval x = vx)
    (hr : (Builtin.append_ #[T, T] o.type #[vs, vx]).run Tryz.prog w = .ok v' w') (h : wpListIn F n Tryz.prog ops Q rest (a.put o.dst v') w') : wpListIn F n Tryz.prog ops Q (o :: rest) a w := by
  refine wpListIn_plain hgd fun K hK => ?_
  unfold Oper.wpIn
  refine ⟨by simp [Oper.about, ho, resolve, Target.leads, Sem.run_pure], ?_⟩
  rw [Oper.semAt_plain F _ _ (by rw [ho]; intro c hc'; cases hc')]
  simp [execOp, ho, resolve, invoke, builtin, hs, hx, hr, Result.andThen]
  exact hK _ _ h

/-- append by a run that is known, at a step of a region that draws -/
theorem step_appRun {w : World} {ops : Array Oper} {o : Oper} {a : Act} {K : Act → World → Prop} {Q : Exit → Act → World → Prop} {E : Prop} (hgd : o.guard = none) (s x : Operand) (T : TypeId)
    (ho : o.op = .call { callee := .builtin .append, args := #[s, x], argTypes := #[T, T] }) (vs vx : Value) (hs : a.eval s = vs) (hx : a.eval x = vx) (n : Nat) (P : Option Addr → Nat → World → Prop)
    (hr : ∃ a1 c1 w', (Builtin.append_ #[T, T] o.type #[vs, vx]).run Tryz.prog w = .ok (.slice a1 n c1) w' ∧ P a1 c1 w') (h : ∀ a1 c1 w', P a1 c1 w' → K (a.put o.dst (.slice a1 n c1)) w') :
    if Region.wanted o (yielded ops a.tmps) = true then Oper.wp Tryz.prog o a w K Q else E := by
  have hw : Region.wanted o (yielded ops a.tmps) = true := by simp [Region.wanted, hgd]
  rw [if_pos hw]
  obtain ⟨a1, c1, w', hrun, h2⟩ := hr
  unfold Oper.wp execOp
  simp only [ho, resolve, invoke, builtin, Sem.run_bind, Sem.run_pure, Result.andThen_ok, List.map_toArray, List.map_cons, List.map_nil, hs, hx, hrun]
  exact h a1 c1 w' h2
end Go.Proofs.YtpglhdnepmcahaaGreatDoor

/- NfG -/
namespace Go.Proofs.YtpglhdnepmcahaaGreatDoor
open Go.RowKit Go.Shelf Go.Sort

/-- draws, and blocks laid behind -/
def Gw (w w' : World) : Prop := ∃ q os', w' = grow (w.drewN q) os'
theorem Gw.refl (w : World) : Gw w w := ⟨0, #[], by rw [grow_empty]; rfl⟩
theorem Gw.trans {w w1 w2 : World} (h1 : Gw w w1) (h2 : Gw w1 w2) : Gw w w2 := by
  obtain ⟨q, os, rfl⟩ := h1
  obtain ⟨q', os', rfl⟩ := h2
  refine ⟨q + q', os ++ os', ?_⟩
  rw [← grow_grow]
  simp [grow, World.drewN, Nat.add_assoc]
theorem Gw.alloc (w : World) (o : Obj) : Gw w (w.alloc o) := ⟨0, #[o], by rw [alloc_eq_grow]; rfl⟩
theorem Gw.drew (w : World) : Gw w w.drew := ⟨1, #[], by rw [grow_empty]; rfl⟩
theorem Gw.drewN (w : World) (n : Nat) : Gw w (w.drewN n) := ⟨n, #[], by rw [grow_empty]⟩
theorem Gw.gb {w w' : World} (h : Gw w w') : w.grownBy w' none := by
  obtain ⟨q, os, rfl⟩ := h
  exact grow_gb _ _ _
set_option maxRecDepth 8000 in
set_option maxHeartbeats 3200000 in
theorem compareFuncG (w : World) (v u : Value) (ls ms : List LbT) (hv : RdL w v ls) (hu : RdL w u ms) :
    Calls Tryz.prog 121 #[v, u, .func (.func 122) #[] #[]] w fun e w' => e = .returned (.int .i64 (cmpLs ls ms)) ∧ Gw w w' := by
  have HV : Hid (RdL w v ls ∧ RdL w u ms) := ⟨hv, hu⟩
  obtain ⟨a, c, rfl, hc1, hc2, -, -⟩ := hv
  obtain ⟨b, d, rfl, hd1, hd2, -, -⟩ := hu
  unfold maxLen at hc2 hd2
  have HR : Hid (cmpLs ls ms = cmpLs (ls.drop 0) (ms.drop 0)) := (by simp : cmpLs ls ms = cmpLs (ls.drop 0) (ms.drop 0))
  generalize cmpLs ls ms = R at *
  go_enter Tryz.func121, Tryz.ntmps121
  go_wp2
  go_loopw [13] (fun i wr => ∃ z : Nat, z ≤ ls.length ∧ z ≤ ms.length ∧ i = .int .i64 z ∧ Hid (Gw w wr ∧ R = cmpLs (ls.drop z) (ms.drop z))) (fun i _ => ls.length - (intOf i).toNat)
  case atStart => exact ⟨0, by omega, by omega, rfl, Gw.refl _, HR.out⟩
  case round =>
    obtain ⟨z, hzN, hzM, rfl, hr⟩ := hrel
    have HG : Hid (Gw w wr) := hr.out.1
    by_cases hzl : z < ls.length
    · have hzi : (z : Int) < (ls.length : Int) := by omega
      obtain ⟨a', c', he, -, -, h3, -⟩ := HV.out.1.keep hr.out.1.gb
      simp only [Value.slice.injEq] at he
      obtain ⟨rfl, -, rfl⟩ := he
      obtain ⟨b1, o1, rfl, c0, c1⟩ := h3 z hzl
      have hbl : ¬ b1 = wr.heap.size := by have := block_lt c0; omega
      have hbl2 : ¬ wr.heap.size = b1 := by omega
      clear h3
      by_cases hzm : z < ms.length
      · have hzj : ¬ (ms.length : Int) ≤ (z : Int) := by omega
        have hzj2 : (z : Int) < (ms.length : Int) := by omega
        obtain ⟨a2, c2, he2, -, -, h4, -⟩ := HV.out.2.keep hr.out.1.gb
        simp only [Value.slice.injEq] at he2
        obtain ⟨rfl, -, rfl⟩ := he2
        obtain ⟨b2, o2, rfl, d0, d1⟩ := h4 z hzm
        have hbm : ¬ b2 = wr.heap.size := by have := block_lt d0; omega
        have hbm2 : ¬ wr.heap.size = b2 := by omega
        have HS : Hid (R = if cmpL (ls.getD z ([], [])) (ms.getD z ([], [])) ≠ 0 then cmpL (ls.getD z ([], [])) (ms.getD z ([], [])) else cmpLs (ls.drop (z + 1)) (ms.drop (z + 1))) := by rw [← cmp_step hzl hzm]; exact hr.out.2
        have HO : Hid (∀ W, Gw w W → Calls Tryz.prog 122 #[.agg #[.string (ByteArray.mk ⟨(ls.getD z ([], [])).1⟩), .string (ByteArray.mk ⟨(ls.getD z ([], [])).2⟩)], .agg #[.string (ByteArray.mk ⟨(ms.getD z ([], [])).1⟩), .string (ByteArray.mk ⟨(ms.getD z ([], [])).2⟩)]] W fun e w' => e = .returned (.int .i64 (cmpL (ls.getD z ([], [])) (ms.getD z ([], [])))) ∧ Hid (Gw w w')) := fun W hW => (compareOne_any W _ _).mono fun e w' ⟨h1, q, os', h2⟩ => ⟨h1, hW.trans ⟨q, os', h2⟩⟩
        have HE : Hid (∀ C D, Gw w ((wr.alloc C).alloc D)) := fun C D => hr.out.1.trans ((Gw.alloc _ _).trans (Gw.alloc _ _))
        have dC0 : ∀ C, (wr.alloc C).cell? ⟨b2, o2 + z * 2, none⟩ = some (.string (ByteArray.mk ⟨(ms.getD z ([], [])).1⟩)) := fun C => (World.cell?_of_block ((World.grownBy_alloc wr C none).block b2 (block_lt d0) (by simp))).trans d0
        have dC1 : ∀ C, (wr.alloc C).cell? ⟨b2, o2 + z * 2 + 1, none⟩ = some (.string (ByteArray.mk ⟨(ms.getD z ([], [])).2⟩)) := fun C => (World.cell?_of_block ((World.grownBy_alloc wr C none).block b2 (block_lt d0) (by simp))).trans d1
        clear h4 hr HG
        generalize cmpL (ls.getD z ([], [])) (ms.getD z ([], [])) = r at *
        generalize ByteArray.mk ⟨(ls.getD z ([], [])).1⟩ = sn at *
        generalize ByteArray.mk ⟨(ls.getD z ([], [])).2⟩ = sv at *
        generalize ByteArray.mk ⟨(ms.getD z ([], [])).1⟩ = sm at *
        generalize ByteArray.mk ⟨(ms.getD z ([], [])).2⟩ = su at *
        by_cases hr0 : r = 0
        · subst hr0
          rw [if_neg (by simp)] at HS
          go_wp2_with fail
          refine (HO.out _ (HE.out _ _)).mono ?_
          rintro e w1 ⟨rfl, H1⟩
          clear HO HE
          go_wp2
          go_roundw
          case rel => exact ⟨z + 1, by omega, by omega, by simp, H1.out, HS.out⟩
          case measure => simp [intOf]; omega
        · rw [if_pos hr0] at HS
          have hrb : (r == 0) = false := by rw [beq_eq_false_iff_ne]; exact hr0
          go_wp2_with fail
          refine (HO.out _ (HE.out _ _)).mono ?_
          rintro e w1 ⟨rfl, H1⟩
          clear HO HE
          go_wp2
          go_ret
          exact ⟨by rw [HS.out]; rfl, H1.out⟩
      · have hzj : (ms.length : Int) ≤ (z : Int) := by omega
        have HS : Hid (R = 1) := by rw [← cmp_endB hzl (by omega : ms.length ≤ z)]; exact hr.out.2
        have HE : Hid (∀ C, Gw w (wr.alloc C)) := fun C => hr.out.1.trans (Gw.alloc _ _)
        clear hr HG
        generalize ByteArray.mk ⟨(ls.getD z ([], [])).1⟩ = sn at *
        generalize ByteArray.mk ⟨(ls.getD z ([], [])).2⟩ = sv at *
        go_wp2
        go_ret
        exact ⟨by rw [HS.out]; rfl, HE.out _⟩
    · have hzi : ¬ (z : Int) < (ls.length : Int) := by omega
      by_cases hzm : ls.length < ms.length
      · have hlm : (ls.length : Int) < (ms.length : Int) := by omega
        have HS : Hid (R = -1) := by rw [← cmp_endA (by omega : ls.length ≤ z) (by omega : z < ms.length)]; exact hr.out.2
        clear hr
        go_wp2
        go_ret
        exact ⟨by rw [HS.out]; rfl, HG.out⟩
      · have hlm : ¬ (ls.length : Int) < (ms.length : Int) := by omega
        have HS : Hid (R = 0) := by rw [← cmp_endAB (by omega : ls.length ≤ z) (by omega : ms.length ≤ z)]; exact hr.out.2
        clear hr
        go_wp2
        go_ret
        exact ⟨by rw [HS.out]; rfl, HG.out⟩
set_option maxHeartbeats 1600000 in
theorem compareG (w : World) (v u : Value) (ls ms : List LbT) (hv : RdL w v ls) (hu : RdL w u ms) :
    Calls Tryz.prog 104 #[v, u] w fun e w' => e = .returned (.int .i64 (cmpLs ls ms)) ∧ Gw w w' := by
  have HC : Hid (Calls Tryz.prog 121 #[v, u, .func (.func 122) #[] #[]] w fun e w' => e = .returned (.int .i64 (cmpLs ls ms)) ∧ Hid (Gw w w')) := compareFuncG w v u ls ms hv hu
  generalize cmpLs ls ms = R at *
  clear hv hu
  go_enter Tryz.func104, Tryz.ntmps104
  go_wp2_with fail
  refine HC.out.mono ?_
  rintro e w1 ⟨rfl, H1⟩
  clear HC
  go_wp2
  go_ret
  exact ⟨rfl, H1.out⟩

end Go.Proofs.YtpglhdnepmcahaaGreatDoor
