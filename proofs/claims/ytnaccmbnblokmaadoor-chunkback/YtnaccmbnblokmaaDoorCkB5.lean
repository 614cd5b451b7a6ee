/-
  Split: between two rounds: plain facts; the walk.
-/
import Derived.Test.YtnaccmbnblokmaaDoorCkB4
namespace Go.Proofs.YtnaccmbnblokmaaDoor
open Go.RowKit Go.Shelf

attribute [local go_sem] Oper.semAt_some

/-- the piece k of many samples -/
def pieceL (l : List SmpT) (k : Nat) : List SmpT := (l.drop (120 * k)).take 120
theorem getD_drop {l : List SmpT} {a j : Nat} : (l.drop a).getD j smZ = l.getD (a + j) smZ := by simp [List.getD, List.getElem?_drop]
theorem getD_take {l : List SmpT} {n j : Nat} (h : j < n) : (l.take n).getD j smZ = l.getD j smZ := by simp [List.getD, h]
/-- what rises can be a chunk, as far as it has room -/
theorem okL_ris {l : List SmpT} (hin : SmIn l) (hr : RisOk l) (a : Nat) : ∀ n, n ≤ 120 → a + n ≤ l.length → okL startP ((l.drop a).take n) := by
  intro n
  induction n with
  | zero => intro _ _; exact trivial
  | succ n ih =>
    intro hn hl
    have h1 := ih (by omega) (by omega)
    have hnl : n < (l.drop a).length := by rw [List.length_drop]; omega
    rw [take_snocS hnl, okL_snoc]
    have hc := risC_ok (hr (a + n) (by omega))
    rw [getD_drop]
    refine ⟨h1, ?_, (hin _ (getS_mem (by omega))).2⟩
    have hsn : (stA startP ((l.drop a).take n)).n = n := by rw [stA_n]; simp [startP]; omega
    unfold wrongN
    rw [if_neg (by omega), if_neg, if_neg (by omega)]
    rw [hsn]
    rintro ⟨h0, hle⟩
    obtain ⟨m, rfl⟩ : ∃ m, n = m + 1 := ⟨n - 1, by omega⟩
    rw [take_snocS (by omega), stA_snoc] at hle
    have e : (nextP (stA startP ((l.drop a).take m)) ((l.drop a).getD m smZ).1 ((l.drop a).getD m smZ).2).t = (l.getD (a + m) smZ).1 := by rw [getD_drop]; rfl
    rw [e] at hle
    have := hc.2
    rw [show a + (m + 1) - 1 = a + m by omega] at this
    omega
theorem piece_ok {l : List SmpT} (hin : SmIn l) (hr : RisOk l) (k : Nat) (hk : 120 * k < l.length) : okL startP (pieceL l k) ∧ (pieceL l k).length = min 120 (l.length - 120 * k) := by
  have hl : (pieceL l k).length = min 120 (l.length - 120 * k) := by simp [pieceL]
  refine ⟨?_, hl⟩
  have := okL_ris hin hr (120 * k) (min 120 (l.length - 120 * k)) (by omega) (by omega)
  have e : pieceL l k = (l.drop (120 * k)).take (min 120 (l.length - 120 * k)) := by
    unfold pieceL
    rw [List.take_eq_take_min (i := 120), List.length_drop]
  rw [e]
  exact this
theorem RdP.piece {w : World} {b o c : Nat} {l : List SmpT} (h : RdP w (.slice (some ⟨b, o, none⟩) l.length c) l) (k : Nat) (hk : 120 * k < l.length) : RdP w (.slice (some ⟨b, o + 120 * k * 2, none⟩) (min 120 (l.length - 120 * k)) (min 120 (l.length - 120 * k))) (pieceL l k) := by
  obtain ⟨a', c', e, h1, h2, h3⟩ := h
  simp only [Value.slice.injEq, true_and] at e
  have hl : (pieceL l k).length = min 120 (l.length - 120 * k) := by simp [pieceL]
  refine ⟨_, _, by rw [hl], by omega, by have : 120 ≤ maxLen := (by simp [maxLen]); omega, fun j hj => ?_⟩
  obtain ⟨b', o', q, c0, c1⟩ := h3 (120 * k + j) (by omega)
  rw [← e.1] at q
  simp only [Option.some.injEq, Addr.mk.injEq, and_true] at q
  obtain ⟨rfl, rfl⟩ := q
  have eg : (pieceL l k).getD j smZ = l.getD (120 * k + j) smZ := by
    unfold pieceL
    rw [getD_take (by omega), getD_drop]
  rw [eg]
  refine ⟨b, o + 120 * k * 2, rfl, ?_, ?_⟩
  · rw [← c0]
    congr 2
    omega
  · rw [← c1]
    congr 2
    omega
theorem infoBs : (Tryd.prog.info? 36).map (fun i => (i.zero, i.size, i.bytes)) = some (some (.slice none 0 0), 1, 24) := by kernel_rfl
theorem own_typed {W : World} {base : Nat} {x : Value} {b : List UInt8} (h : Own W base x b) {q : Nat} (hq : x.ownBlock = some q) : ∃ cur fr, W.heap[q]? = some (.cells cur 5 fr) := by
  rcases h.2 with ⟨e, -⟩ | ⟨g, cap, cur, e, -, hh, -⟩
  · rw [e] at hq
    simp [Value.ownBlock] at hq
  · rw [e] at hq
    simp only [Value.ownBlock, Option.some.injEq] at hq
    subst hq
    exact ⟨_, _, hh⟩
theorem row_typed {W : World} {base n : Nat} {x : Value} {xs : List Value} (h : W.ownsRow base 36 1 x n xs) {q : Nat} (hq : x.ownBlock = some q) : ∃ cur fr, W.heap[q]? = some (.cells cur 36 fr) := by
  rcases h.2 with ⟨e, -⟩ | ⟨g, cap, cur, e, -, hh, -⟩
  · rw [e] at hq
    simp [Value.ownBlock] at hq
  · rw [e] at hq
    simp only [Value.ownBlock, Option.some.injEq] at hq
    subst hq
    exact ⟨_, _, hh⟩
theorem own_ch {w w' : World} {S : Nat → Prop} {base : Nat} {v : Value} {b : List UInt8} (h : Own w base v b) (hc : Ch w w' S) (hs : ∀ k, v.ownBlock = some k → ¬ S k) : Own w' base v b := by
  obtain ⟨h0, h1⟩ := h
  refine ⟨h0, ?_⟩
  rcases h1 with h1 | ⟨gb, cap, cur, e, q1, q2, q3⟩
  · exact .inl h1
  · refine .inr ⟨gb, cap, cur, e, q1, ?_, q3⟩
    rw [hc.block (some_lt2 q2) (hs gb (by rw [e]; rfl))]
    exact q2
theorem rowB_ch {w w' : World} {S : Nat → Prop} {base n : Nat} {v : Value} {xs : List Value} (h : w.ownsRow base 36 1 v n xs) (hc : Ch w w' S) (hs : ∀ k, v.ownBlock = some k → ¬ S k) : w'.ownsRow base 36 1 v n xs := by
  obtain ⟨h0, h1⟩ := h
  refine ⟨h0, ?_⟩
  rcases h1 with h1 | ⟨gb, cap, cur, e, q1, q2, q3⟩
  · exact .inl h1
  · refine .inr ⟨gb, cap, cur, e, q1, ?_, q3⟩
    rw [hc.block (some_lt2 q2) (hs gb (by rw [e]; rfl))]
    exact q2
/-- in Split: k pieces are written -/
structure SpJ (w : World) (cb : Nat) (rc : Loop) (l : List SmpT) (v : Value) (k : Nat) (W : World) : Prop where
  old : w.grownBy W none
  place : w.heap.size ≤ cb ∧ cb + 5 ≤ W.heap.size
  bs : Boxed W (cb + 1) 22 v
  bn : Boxed W (cb + 2) 3 (.int .i64 120)
  df : W.heap[cb + 3]? = some (.deferred (some []))
  rcd : W.heap[cb + 4]? = some (.loop rc)
  row : ∃ vC vals, Boxed W cb 51 vC ∧ W.ownsRow (cb + 5) 36 1 vC k vals ∧ ∀ j, j < k → ∃ x, vals[j]? = some x ∧ Own W (cb + 5) x (ckB (pieceL l j))
theorem SpJ.keep {w W W' : World} {cb k : Nat} {rc : Loop} {l : List SmpT} {v : Value} (h : SpJ w cb rc l v k W) (hg : W.grownBy W' none) : SpJ w cb rc l v k W' := by
  obtain ⟨vC, vals, r1, r2, r3⟩ := h.row
  have hc : Ch W W' (fun _ => False) := Ch.of_gb hg (fun k hk => by cases hk)
  have hz := hc.size
  have hp := h.place
  exact ⟨gb_none h.old hg, by omega, bxch h.bs hc (fun e => e), bxch h.bn hc (fun e => e), (hc.block (some_lt2 h.df) (fun e => e)).trans h.df, (hc.block (some_lt2 h.rcd) (fun e => e)).trans h.rcd, vC, vals, bxch r1 hc (fun e => e), rowB_ch r2 hc (fun _ _ e => e), fun j hj => by obtain ⟨x, a, b⟩ := r3 j hj; exact ⟨x, a, own_ch b hc (fun _ _ e => e)⟩⟩
theorem SpJ.put {w W : World} {cb k : Nat} {rc rc' : Loop} {l : List SmpT} {v : Value} (h : SpJ w cb rc l v k W) : SpJ w cb rc' l v k (W.putObj (cb + 4) (.loop rc')) := by
  obtain ⟨vC, vals, r1, r2, r3⟩ := h.row
  have hp := h.place
  have hc := putRec_ch W (cb + 4) (.loop rc')
  refine ⟨gb_ch h.old hc (fun k e => by omega), by simpa using hp, bxch h.bs hc (by omega), bxch h.bn hc (by omega), (hc.block (some_lt2 h.df) (by omega)).trans h.df, World.putObj_heap_same (some_lt2 h.rcd), vC, vals, bxch r1 hc (by omega), rowB_ch r2 hc (fun q hq e => ?_), fun j hj => ?_⟩
  · have := (World.ownsRow.lt r2 q hq).1
    omega
  · obtain ⟨x, a, b⟩ := r3 j hj
    refine ⟨x, a, own_ch b hc (fun q hq e => ?_)⟩
    have := (b.lt q hq).1
    omega
/-- a piece's bytes are laid behind the others -/
theorem SpJ.more {w W : World} {cb k : Nat} {rc : Loop} {l : List SmpT} {v : Value} (h : SpJ w cb rc l v k W) (ax : Option Addr) (nx cx : Nat) (hx : Own W (cb + 5) (.slice ax nx cx) (ckB (pieceL l k))) (hk : k ≤ 1000) :
    ∃ aL cL a2 c2 W2, W.cell? ⟨cb, 0, none⟩ = some (.slice aL k cL) ∧ (Builtin.append_ #[51, 51] 51 #[.slice aL k cL, .slice (some ⟨W.heap.size, 0, none⟩) 1 1]).run Tryd.prog (W.alloc (.cells #[.slice ax nx cx] 36)) = .ok (.slice a2 (k + 1) c2) W2 ∧
      W2.cell? ⟨cb, 0, none⟩ = some (.slice aL k cL) ∧ W2.frozen? ⟨cb, 0, none⟩ = false ∧ SpJ w cb rc l v (k + 1) (W2.setCell ⟨cb, 0, none⟩ (.slice a2 (k + 1) c2)) := by
  have hp := h.place
  obtain ⟨vC, vals, c3, c4, c5⟩ := h.row
  obtain ⟨i0, hi, hz0, hz1, hz2⟩ := info_parts infoBs
  have hal := alloc_gb W (.cells #[.slice ax nx cx] 36)
  have hnew := Go.heap_alloc_new W (.cells #[.slice ax nx cx] 36)
  obtain ⟨v2, W2, hrun, ho, hfr⟩ := run_appG (W.alloc (.cells #[.slice ax nx cx] 36)) 51 51 36 i0 _ 1 24 (cb + 5) Tryd.underlying51 hi hz0 hz1 hz2 rfl (by decide) (by decide) vC k vals (World.ownsRow.alloc c4 _) (some ⟨W.heap.size, 0, none⟩) 1 1 [.slice ax nx cx] rfl
    (fun j u hj => by
      refine ⟨_, rfl, ?_⟩
      rw [Go.WideShapes.add_plain]
      simp only [World.cell?, hnew]
      simpa using hj) (fun e => by cases e)
    (fun u hu => by
      simp only [List.mem_cons, List.not_mem_nil, or_false] at hu
      rw [hu]; rfl) (by omega) (by simp; omega)
  obtain ⟨aL, cL, rfl⟩ : ∃ a c, vC = .slice a k c := by
    rcases c4.2 with ⟨e, e2⟩ | ⟨b, cap, cur, e, -⟩
    · exact ⟨none, 0, by rw [e, e2]⟩
    · exact ⟨_, _, e⟩
  obtain ⟨a2, cc, rfl⟩ : ∃ a c, v2 = .slice a (k + 1) c := by
    rcases ho.2 with ⟨e, e2⟩ | ⟨b, cap, cur, e, -⟩
    · omega
    · exact ⟨_, _, e⟩
  have hvL := World.ownsRow.lt c4
  have k1 : Ch W (W.alloc (.cells #[.slice ax nx cx] 36)) (fun q => (Value.slice aL k cL).ownBlock = some q) := Ch.of_gb hal (fun k hk => by cases hk)
  have k2 : Ch W W2 (fun q => (Value.slice aL k cL).ownBlock = some q) := k1.trans (Ch.of_gb (S := fun q => (Value.slice aL k cL).ownBlock = some q) hfr.1 (fun k hk _ => hk)) (fun _ _ e => e)
  have n1 : ∀ q, q < cb + 5 → ¬ (Value.slice aL k cL).ownBlock = some q := fun q hq e => by have := (hvL q e).1; omega
  have bL := bxch c3 k2 (n1 _ (by omega))
  have k3 := set_ch W2 cb 0 (.slice a2 (k + 1) cc)
  have hz2' := k2.size
  have hz3 : (W2.setCell ⟨cb, 0, none⟩ (.slice a2 (k + 1) cc)).heap.size = W2.heap.size := by simp
  have d1 := (k2.block (some_lt2 h.df) (n1 _ (by omega))).trans h.df
  have r1 := (k2.block (some_lt2 h.rcd) (n1 _ (by omega))).trans h.rcd
  have apart : ∀ {y : Value} {bs : List UInt8}, Own W (cb + 5) y bs → ∀ q, y.ownBlock = some q → ¬ (Value.slice aL k cL).ownBlock = some q := fun hy q hq e => by
    obtain ⟨cur, fr, t1⟩ := own_typed hy hq
    obtain ⟨cur2, fr2, t2⟩ := row_typed c4 e
    rw [t1] at t2
    simp at t2
  have full : ∀ {y : Value} {bs : List UInt8}, Own W (cb + 5) y bs → Own (W2.setCell ⟨cb, 0, none⟩ (.slice a2 (k + 1) cc)) (cb + 5) y bs := fun hy => own_ch (own_ch hy k2 (apart hy)) k3 (fun q hq e => by have := (hy.lt q hq).1; omega)
  have hlen : vals.length = k := by have := c4.1; omega
  refine ⟨aL, cL, a2, cc, W2, c3.cell, hrun, bL.cell, bL.frozen, gb_ch (gb_ch h.old k2 (fun q e => by have := (hvL q e).1; omega)) k3 (fun q e => by omega), by omega, bxch (bxch h.bs k2 (n1 _ (by omega))) k3 (by omega), bxch (bxch h.bn k2 (n1 _ (by omega))) k3 (by omega), (k3.block (some_lt2 d1) (by omega)).trans d1, (k3.block (some_lt2 r1) (by omega)).trans r1, .slice a2 (k + 1) cc, vals ++ [.slice ax nx cx], bL.set _, rowB_ch ho k3 (fun q hq e => ?_), fun j hj => ?_⟩
  · have := (World.ownsRow.lt ho q hq).1
    omega
  · by_cases hjk : j < k
    · obtain ⟨y, y1, y2⟩ := c5 j hjk
      exact ⟨y, by rw [List.getElem?_append_left (by omega)]; exact y1, full y2⟩
    · obtain rfl : j = k := by omega
      exact ⟨_, by rw [List.getElem?_append_right (by omega), hlen]; simp, full hx⟩
end Go.Proofs.YtnaccmbnblokmaaDoor
