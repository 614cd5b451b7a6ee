/-
  CkB4, CkB5, CkB6, in one text.
-/
import Derived.Test.YtkiefmhampfhoaaDoorGF
/- CkB4 -/
namespace Go.Proofs.YtkiefmhampfhoaaDoor
open Go.RowKit Go.Shelf

attribute [local go_sem] Oper.semAt_some

set_option maxHeartbeats 1000000 in
theorem slChunk_any (a : Option Addr) (n c : Nat) (w : World) :
    Calls Tryd.prog 49 #[.slice a n c, .int .i64 120] w fun e w' => e = .returned (.func (.func 72) #[] #[.pointer (some ⟨w.heap.size, 0, none⟩), .pointer (some ⟨w.heap.size + 1, 0, none⟩)]) ∧ w' = (w.alloc (.cells #[.slice a n c] 22)).alloc (.cells #[.int .i64 120] 3) := by
  go_enter Tryd.func49, Tryd.ntmps49
  go_wp2
  go_ret
  exact ⟨rfl, rfl⟩

set_option maxRecDepth 100000 in
set_option maxHeartbeats 3200000 in
theorem slChunk1_on (n : Nat) (hn1 : 2 ≤ n) (lp Bs Bn b o N c : Nat) (a : Option Addr) (ha : 0 < N → a = some ⟨b, o, none⟩) (J : Nat → World → Prop) (W : World) (hNm : N ≤ 100000) (hNc : N ≤ c) (_hcm : c ≤ 9223372036854775807)
    (hJr : ∀ k W, J k W → W.cell? ⟨Bs, 0, none⟩ = some (.slice a N c) ∧ W.cell? ⟨Bn, 0, none⟩ = some (.int .i64 120))
    (hJd : ∀ k W, J k W → J k W.drew)
    (hY : ∀ k W, 120 * k < N → J k W → YieldAt Fence.wide (n - 1) Tryd.prog lp #[.slice (some ⟨b, o + 120 * k * 2, none⟩) (min 120 (N - 120 * k)) (min 120 (N - 120 * k))] W fun e W' => e = .returned (.bool true) ∧ J (k + 1) W')
    (h0 : J 0 W) :
    CallsIn Fence.wide n Tryd.prog 72 (#[.func (.yield lp) #[] #[]] ++ #[.pointer (some ⟨Bs, 0, none⟩), .pointer (some ⟨Bn, 0, none⟩)]) W fun e W' => (∃ v, e = .returned v) ∧ ∃ k, N ≤ 120 * k ∧ 120 * k < N + 120 ∧ J k W' := by
  have HJ := hidJ hJr
  have HJd := hidJ hJd
  have HY := hidJ hY
  have H0 := hidJ h0
  clear hJr hJd hY h0
  refine callsIn_of_wp Tryd.func72 rfl trivial ?_ rfl
  simp only [Tryd.ntmps72, List.size_toArray, List.length_cons, List.length_nil, Nat.reduceAdd, Nat.reduceSub, Array.replicate_succ, Array.replicate_zero, List.push_toArray, List.append_toArray, List.nil_append, List.cons_append]
  gi_wp2
  gi_loopw [4] (fun i wr => ∃ z : Nat, i = .int .i64 z ∧ z < N + 120 ∧ Hid (∃ k, z = 120 * k ∧ J k wr)) (fun i _ => N + 120 - (intOf i).toNat)
  case atStart => exact ⟨0, rfl, by omega, 0, rfl, H0.out⟩
  case round =>
    obtain ⟨z, rfl, hz, HP⟩ := hrel
    obtain ⟨k, hk, hj⟩ := HP.out
    have hr := HJ.out k wr hj
    have x0 := hr.1
    have x1 := hr.2
    have HK := hidJ (And.intro hk hj)
    clear hr hk hj HP
    by_cases hlt : z < N
    · obtain rfl := ha (by omega)
      clear ha
      obtain ⟨D, hD⟩ : ∃ D, N = z + D := ⟨N - z, by omega⟩
      have hzi : (z : Int) < (N : Int) := by omega
      have hr2 := HJ.out k _ (HJd.out k wr HK.out.2)
      have x2 := hr2.1
      have x3 := hr2.2
      obtain ⟨fn, tmps, assign, body, hy, hR⟩ := HY.out k wr.drew (by rw [← HK.out.1]; exact hlt) (HJd.out k wr HK.out.2)
      rw [← HK.out.1] at hy
      clear hr2
      subst hD
      have hsb : z + D - z = D := by omega
      rw [hsb] at hy
      by_cases hDm : D ≤ 120
      · rw [Nat.min_eq_right hDm] at hy
        have hmi : min (120 : Int) (D : Int) = (D : Int) := by omega
        have hts : ((z : Int) + (D : Int)).toNat - z = D := by omega
        have hn0 : 1 ≤ n := by omega
        clear hsb
        gi_wp2
        gi_region
        gi_wp2
        refine hR.mono ?_
        rintro e W3 ⟨rfl, hj3⟩
        have HJ3 := hidJ hj3
        have hr3 := HJ.out _ W3 hj3
        have x4 := hr3.1
        have x5 := hr3.2
        clear hj3 hr3 hy
        gi_wp2
        go_roundw
        case rel => exact ⟨z + 120, by simp, by omega, k + 1, by have := HK.out.1; omega, HJ3.out⟩
        case measure => simp [intOf]; omega

      · rw [Nat.min_eq_left (by omega)] at hy
        have hmi : min (120 : Int) (D : Int) = 120 := by omega
        have hts : ((z : Int) + 120).toNat - z = 120 := by omega
        have hn0 : 1 ≤ n := by omega
        have h12 : (120 : Int) ≤ (D : Int) := by omega
        clear hsb
        gi_wp2
        gi_region
        gi_wp2
        refine hR.mono ?_
        rintro e W3 ⟨rfl, hj3⟩
        have HJ3 := hidJ hj3
        have hr3 := HJ.out _ W3 hj3
        have x4 := hr3.1
        have x5 := hr3.2
        clear hj3 hr3 hy
        gi_wp2
        go_roundw
        case rel => exact ⟨z + 120, by simp, by omega, k + 1, by have := HK.out.1; omega, HJ3.out⟩
        case measure => simp [intOf]; omega

    · have hzi : ¬ (z : Int) < (N : Int) := by omega
      gi_wp2
      first
      | (refine bodyPost_ret (results_none rfl _ _ _) rfl ?_
         exact ⟨⟨_, rfl⟩, k, by have := HK.out.1; omega, by have := HK.out.1; omega, HK.out.2⟩)
      | (go_end0
         exact ⟨⟨_, rfl⟩, k, by have := HK.out.1; omega, by have := HK.out.1; omega, HK.out.2⟩)
end Go.Proofs.YtkiefmhampfhoaaDoor

/- CkB5 -/
namespace Go.Proofs.YtkiefmhampfhoaaDoor
open Go.RowKit Go.Shelf

attribute [local go_sem] Oper.semAt_some

/-- the piece k of many samples -/
def pieceL (l : List SmpT) (k : Nat) : List SmpT := (l.drop (120 * k)).take 120
theorem getD_drop {l : List SmpT} {a j : Nat} : (l.drop a).getD j smZ = l.getD (a + j) smZ := by simp [List.getD, List.getElem?_drop]
theorem getD_take {l : List SmpT} {n j : Nat} (h : j < n) : (l.take n).getD j smZ = l.getD j smZ := by simp [List.getD, h]
/-- what rises can be a chunk, as far as it has room -/
theorem okL_ris {l : List SmpT} (hin : SmIn l) (hr : RisOk l) (a : Nat) : ∀ n, n ≤ 120 → a + n ≤ l.length → okL startP ((l.drop a).take n) := by
  intro n
  induction n with
  | zero => intro _ _; exact trivial
  | succ n ih =>
    intro hn hl
    have h1 := ih (by omega) (by omega)
    have hnl : n < (l.drop a).length := by rw [List.length_drop]; omega
    rw [take_snocS hnl, okL_snoc]
    have hc := risC_ok (hr (a + n) (by omega))
    rw [getD_drop]
    refine ⟨h1, ?_, (hin _ (getS_mem (by omega))).2⟩
    have hsn : (stA startP ((l.drop a).take n)).n = n := by rw [stA_n]; simp [startP]; omega
    unfold wrongN
    rw [if_neg (by omega), if_neg, if_neg (by omega)]
    rw [hsn]
    rintro ⟨h0, hle⟩
    obtain ⟨m, rfl⟩ : ∃ m, n = m + 1 := ⟨n - 1, by omega⟩
    rw [take_snocS (by omega), stA_snoc] at hle
    have e : (nextP (stA startP ((l.drop a).take m)) ((l.drop a).getD m smZ).1 ((l.drop a).getD m smZ).2).t = (l.getD (a + m) smZ).1 := by rw [getD_drop]; rfl
    rw [e] at hle
    have := hc.2
    rw [show a + (m + 1) - 1 = a + m by omega] at this
    omega
theorem piece_ok {l : List SmpT} (hin : SmIn l) (hr : RisOk l) (k : Nat) (hk : 120 * k < l.length) : okL startP (pieceL l k) ∧ (pieceL l k).length = min 120 (l.length - 120 * k) := by
  have hl : (pieceL l k).length = min 120 (l.length - 120 * k) := by simp [pieceL]
  refine ⟨?_, hl⟩
  have := okL_ris hin hr (120 * k) (min 120 (l.length - 120 * k)) (by omega) (by omega)
  have e : pieceL l k = (l.drop (120 * k)).take (min 120 (l.length - 120 * k)) := by
    unfold pieceL
    rw [List.take_eq_take_min (i := 120), List.length_drop]
  rw [e]
  exact this
theorem RdP.piece {w : World} {b o c : Nat} {l : List SmpT} (h : RdP w (.slice (some ⟨b, o, none⟩) l.length c) l) (k : Nat) (hk : 120 * k < l.length) : RdP w (.slice (some ⟨b, o + 120 * k * 2, none⟩) (min 120 (l.length - 120 * k)) (min 120 (l.length - 120 * k))) (pieceL l k) := by
  obtain ⟨a', c', e, h1, h2, h3⟩ := h
  simp only [Value.slice.injEq, true_and] at e
  have hl : (pieceL l k).length = min 120 (l.length - 120 * k) := by simp [pieceL]
  refine ⟨_, _, by rw [hl], by omega, by have : 120 ≤ maxLen := (by simp [maxLen]); omega, fun j hj => ?_⟩
  obtain ⟨b', o', q, c0, c1⟩ := h3 (120 * k + j) (by omega)
  rw [← e.1] at q
  simp only [Option.some.injEq, Addr.mk.injEq, and_true] at q
  obtain ⟨rfl, rfl⟩ := q
  have eg : (pieceL l k).getD j smZ = l.getD (120 * k + j) smZ := by
    unfold pieceL
    rw [getD_take (by omega), getD_drop]
  rw [eg]
  refine ⟨b, o + 120 * k * 2, rfl, ?_, ?_⟩
  · rw [← c0]
    congr 2
    omega
  · rw [← c1]
    congr 2
    omega
theorem infoBs : (Tryd.prog.info? 36).map (fun i => (i.zero, i.size, i.bytes)) = some (some (.slice none 0 0), 1, 24) := by kernel_rfl
theorem own_typed {W : World} {base : Nat} {x : Value} {b : List UInt8} (h : Own W base x b) {q : Nat} (hq : x.ownBlock = some q) : ∃ cur fr, W.heap[q]? = some (.cells cur 5 fr) := by
  rcases h.2 with ⟨e, -⟩ | ⟨g, cap, cur, e, -, hh, -⟩
  · rw [e] at hq
    simp [Value.ownBlock] at hq
  · rw [e] at hq
    simp only [Value.ownBlock, Option.some.injEq] at hq
    subst hq
    exact ⟨_, _, hh⟩
theorem row_typed {W : World} {base n : Nat} {x : Value} {xs : List Value} (h : W.ownsRow base 36 1 x n xs) {q : Nat} (hq : x.ownBlock = some q) : ∃ cur fr, W.heap[q]? = some (.cells cur 36 fr) := by
  rcases h.2 with ⟨e, -⟩ | ⟨g, cap, cur, e, -, hh, -⟩
  · rw [e] at hq
    simp [Value.ownBlock] at hq
  · rw [e] at hq
    simp only [Value.ownBlock, Option.some.injEq] at hq
    subst hq
    exact ⟨_, _, hh⟩
theorem own_ch {w w' : World} {S : Nat → Prop} {base : Nat} {v : Value} {b : List UInt8} (h : Own w base v b) (hc : Ch w w' S) (hs : ∀ k, v.ownBlock = some k → ¬ S k) : Own w' base v b := by
  obtain ⟨h0, h1⟩ := h
  refine ⟨h0, ?_⟩
  rcases h1 with h1 | ⟨gb, cap, cur, e, q1, q2, q3⟩
  · exact .inl h1
  · refine .inr ⟨gb, cap, cur, e, q1, ?_, q3⟩
    rw [hc.block (some_lt2 q2) (hs gb (by rw [e]; rfl))]
    exact q2
theorem rowB_ch {w w' : World} {S : Nat → Prop} {base n : Nat} {v : Value} {xs : List Value} (h : w.ownsRow base 36 1 v n xs) (hc : Ch w w' S) (hs : ∀ k, v.ownBlock = some k → ¬ S k) : w'.ownsRow base 36 1 v n xs := by
  obtain ⟨h0, h1⟩ := h
  refine ⟨h0, ?_⟩
  rcases h1 with h1 | ⟨gb, cap, cur, e, q1, q2, q3⟩
  · exact .inl h1
  · refine .inr ⟨gb, cap, cur, e, q1, ?_, q3⟩
    rw [hc.block (some_lt2 q2) (hs gb (by rw [e]; rfl))]
    exact q2
/-- in Split: k pieces are written -/
structure SpJ (w : World) (cb : Nat) (rc : Loop) (l : List SmpT) (v : Value) (k : Nat) (W : World) : Prop where
  old : w.grownBy W none
  place : w.heap.size ≤ cb ∧ cb + 5 ≤ W.heap.size
  bs : Boxed W (cb + 1) 22 v
  bn : Boxed W (cb + 2) 3 (.int .i64 120)
  df : W.heap[cb + 3]? = some (.deferred (some []))
  rcd : W.heap[cb + 4]? = some (.loop rc)
  row : ∃ vC vals, Boxed W cb 51 vC ∧ W.ownsRow (cb + 5) 36 1 vC k vals ∧ ∀ j, j < k → ∃ x, vals[j]? = some x ∧ Own W (cb + 5) x (ckB (pieceL l j))
theorem SpJ.keep {w W W' : World} {cb k : Nat} {rc : Loop} {l : List SmpT} {v : Value} (h : SpJ w cb rc l v k W) (hg : W.grownBy W' none) : SpJ w cb rc l v k W' := by
  obtain ⟨vC, vals, r1, r2, r3⟩ := h.row
  have hc : Ch W W' (fun _ => False) := Ch.of_gb hg (fun k hk => by cases hk)
  have hz := hc.size
  have hp := h.place
  exact ⟨gb_none h.old hg, by omega, bxch h.bs hc (fun e => e), bxch h.bn hc (fun e => e), (hc.block (some_lt2 h.df) (fun e => e)).trans h.df, (hc.block (some_lt2 h.rcd) (fun e => e)).trans h.rcd, vC, vals, bxch r1 hc (fun e => e), rowB_ch r2 hc (fun _ _ e => e), fun j hj => by obtain ⟨x, a, b⟩ := r3 j hj; exact ⟨x, a, own_ch b hc (fun _ _ e => e)⟩⟩
theorem SpJ.put {w W : World} {cb k : Nat} {rc rc' : Loop} {l : List SmpT} {v : Value} (h : SpJ w cb rc l v k W) : SpJ w cb rc' l v k (W.putObj (cb + 4) (.loop rc')) := by
  obtain ⟨vC, vals, r1, r2, r3⟩ := h.row
  have hp := h.place
  have hc := putRec_ch W (cb + 4) (.loop rc')
  refine ⟨gb_ch h.old hc (fun k e => by omega), by simpa using hp, bxch h.bs hc (by omega), bxch h.bn hc (by omega), (hc.block (some_lt2 h.df) (by omega)).trans h.df, World.putObj_heap_same (some_lt2 h.rcd), vC, vals, bxch r1 hc (by omega), rowB_ch r2 hc (fun q hq e => ?_), fun j hj => ?_⟩
  · have := (World.ownsRow.lt r2 q hq).1
    omega
  · obtain ⟨x, a, b⟩ := r3 j hj
    refine ⟨x, a, own_ch b hc (fun q hq e => ?_)⟩
    have := (b.lt q hq).1
    omega
/-- a piece's bytes are laid behind the others -/
theorem SpJ.more {w W : World} {cb k : Nat} {rc : Loop} {l : List SmpT} {v : Value} (h : SpJ w cb rc l v k W) (ax : Option Addr) (nx cx : Nat) (hx : Own W (cb + 5) (.slice ax nx cx) (ckB (pieceL l k))) (hk : k ≤ 1000) :
    ∃ aL cL a2 c2 W2, W.cell? ⟨cb, 0, none⟩ = some (.slice aL k cL) ∧ (Builtin.append_ #[51, 51] 51 #[.slice aL k cL, .slice (some ⟨W.heap.size, 0, none⟩) 1 1]).run Tryd.prog (W.alloc (.cells #[.slice ax nx cx] 36)) = .ok (.slice a2 (k + 1) c2) W2 ∧
      W2.cell? ⟨cb, 0, none⟩ = some (.slice aL k cL) ∧ W2.frozen? ⟨cb, 0, none⟩ = false ∧ SpJ w cb rc l v (k + 1) (W2.setCell ⟨cb, 0, none⟩ (.slice a2 (k + 1) c2)) := by
  have hp := h.place
  obtain ⟨vC, vals, c3, c4, c5⟩ := h.row
  obtain ⟨i0, hi, hz0, hz1, hz2⟩ := info_parts infoBs
  have hal := alloc_gb W (.cells #[.slice ax nx cx] 36)
  have hnew := Go.heap_alloc_new W (.cells #[.slice ax nx cx] 36)
  obtain ⟨v2, W2, hrun, ho, hfr⟩ := run_appG (W.alloc (.cells #[.slice ax nx cx] 36)) 51 51 36 i0 _ 1 24 (cb + 5) Tryd.underlying51 hi hz0 hz1 hz2 rfl (by decide) (by decide) vC k vals (World.ownsRow.alloc c4 _) (some ⟨W.heap.size, 0, none⟩) 1 1 [.slice ax nx cx] rfl
    (fun j u hj => by
      refine ⟨_, rfl, ?_⟩
      rw [Go.WideShapes.add_plain]
      simp only [World.cell?, hnew]
      simpa using hj) (fun e => by cases e)
    (fun u hu => by
      simp only [List.mem_cons, List.not_mem_nil, or_false] at hu
      rw [hu]; rfl) (by omega) (by simp; omega)
  obtain ⟨aL, cL, rfl⟩ : ∃ a c, vC = .slice a k c := by
    rcases c4.2 with ⟨e, e2⟩ | ⟨b, cap, cur, e, -⟩
    · exact ⟨none, 0, by rw [e, e2]⟩
    · exact ⟨_, _, e⟩
  obtain ⟨a2, cc, rfl⟩ : ∃ a c, v2 = .slice a (k + 1) c := by
    rcases ho.2 with ⟨e, e2⟩ | ⟨b, cap, cur, e, -⟩
    · omega
    · exact ⟨_, _, e⟩
  have hvL := World.ownsRow.lt c4
  have k1 : Ch W (W.alloc (.cells #[.slice ax nx cx] 36)) (fun q => (Value.slice aL k cL).ownBlock = some q) := Ch.of_gb hal (fun k hk => by cases hk)
  have k2 : Ch W W2 (fun q => (Value.slice aL k cL).ownBlock = some q) := k1.trans (Ch.of_gb (S := fun q => (Value.slice aL k cL).ownBlock = some q) hfr.1 (fun k hk _ => hk)) (fun _ _ e => e)
  have n1 : ∀ q, q < cb + 5 → ¬ (Value.slice aL k cL).ownBlock = some q := fun q hq e => by have := (hvL q e).1; omega
  have bL := bxch c3 k2 (n1 _ (by omega))
  have k3 := set_ch W2 cb 0 (.slice a2 (k + 1) cc)
  have hz2' := k2.size
  have hz3 : (W2.setCell ⟨cb, 0, none⟩ (.slice a2 (k + 1) cc)).heap.size = W2.heap.size := by simp
  have d1 := (k2.block (some_lt2 h.df) (n1 _ (by omega))).trans h.df
  have r1 := (k2.block (some_lt2 h.rcd) (n1 _ (by omega))).trans h.rcd
  have apart : ∀ {y : Value} {bs : List UInt8}, Own W (cb + 5) y bs → ∀ q, y.ownBlock = some q → ¬ (Value.slice aL k cL).ownBlock = some q := fun hy q hq e => by
    obtain ⟨cur, fr, t1⟩ := own_typed hy hq
    obtain ⟨cur2, fr2, t2⟩ := row_typed c4 e
    rw [t1] at t2
    simp at t2
  have full : ∀ {y : Value} {bs : List UInt8}, Own W (cb + 5) y bs → Own (W2.setCell ⟨cb, 0, none⟩ (.slice a2 (k + 1) cc)) (cb + 5) y bs := fun hy => own_ch (own_ch hy k2 (apart hy)) k3 (fun q hq e => by have := (hy.lt q hq).1; omega)
  have hlen : vals.length = k := by have := c4.1; omega
  refine ⟨aL, cL, a2, cc, W2, c3.cell, hrun, bL.cell, bL.frozen, gb_ch (gb_ch h.old k2 (fun q e => by have := (hvL q e).1; omega)) k3 (fun q e => by omega), by omega, bxch (bxch h.bs k2 (n1 _ (by omega))) k3 (by omega), bxch (bxch h.bn k2 (n1 _ (by omega))) k3 (by omega), (k3.block (some_lt2 d1) (by omega)).trans d1, (k3.block (some_lt2 r1) (by omega)).trans r1, .slice a2 (k + 1) cc, vals ++ [.slice ax nx cx], bL.set _, rowB_ch ho k3 (fun q hq e => ?_), fun j hj => ?_⟩
  · have := (World.ownsRow.lt ho q hq).1
    omega
  · by_cases hjk : j < k
    · obtain ⟨y, y1, y2⟩ := c5 j hjk
      exact ⟨y, by rw [List.getElem?_append_left (by omega)]; exact y1, full y2⟩
    · obtain rfl : j = k := by omega
      exact ⟨_, by rw [List.getElem?_append_right (by omega), hlen]; simp, full hx⟩
end Go.Proofs.YtkiefmhampfhoaaDoor

/- CkB6 -/
namespace Go.Proofs.YtkiefmhampfhoaaDoor
open Go.RowKit Go.Shelf

attribute [local go_sem] Oper.semAt_some

/-- rows of bytes that the call made -/
def OwnBs (w : World) (base : Nat) (v : Value) (K : Nat) (f : Nat → List UInt8) : Prop := ∃ vals, w.ownsRow base 36 1 v K vals ∧ ∀ j, j < K → ∃ x, vals[j]? = some x ∧ Own w base x (f j)
theorem rowB_mono {w : World} {base base' n : Nat} {v : Value} {xs : List Value} (h : w.ownsRow base 36 1 v n xs) (hb : base' ≤ base) : w.ownsRow base' 36 1 v n xs := by
  obtain ⟨h1, h2⟩ := h
  refine ⟨h1, ?_⟩
  rcases h2 with h2 | ⟨g, cap, cur, hv, hg, r⟩
  · exact .inl h2
  · exact .inr ⟨g, cap, cur, hv, by omega, r⟩
/-- what Split answers -/
def SpA (l : List SmpT) (w w' : World) (e : Ending) : Prop :=
  (RisOk l ∧ ∃ v' K, l.length ≤ 120 * K ∧ 120 * K < l.length + 120 ∧ e = .returned (.tuple #[v', .int .i64 0, .int .i64 0]) ∧ OwnBs w' w.heap.size v' K (fun j => ckB (pieceL l j))) ∨
  (∃ z, z < l.length ∧ risC l z ≠ 0 ∧ (∀ j, j < z → risC l j = 0) ∧ e = .returned (.tuple #[.slice none 0 0, .int .i64 (risC l z), .int .i64 (z : Int)]))

set_option maxRecDepth 100000 in
set_option maxHeartbeats 6400000 in
theorem ckSplit_in (n : Nat) (hn : 8 ≤ n) (w : World) (v : Value) (l : List SmpT) (hr : RdP w v l) (hin : SmIn l) (hT : Tk w) (hl : l.length ≤ 2000) :
    CallsIn Fence.wide n Tryd.prog 28 #[v] w fun e w' => SpA l w w' e ∧ w.grownBy w' none := by
  have h1 : 1 ≤ n := by omega
  have HV := hidJ (And.intro hr (And.intro hin hT))
  have HRi := hidJ (rising_any w v l hr)
  obtain ⟨a, c, rfl, hlc, hcm, hrd⟩ := hr
  obtain ⟨N, hN⟩ : ∃ N, l.length = N := ⟨_, rfl⟩
  have HN : Hid (l.length = N) := hN
  have ha : ∃ b o, 0 < N → a = some ⟨b, o, none⟩ := by
    by_cases h : 0 < N
    · obtain ⟨b, o, e, -⟩ := hrd 0 (by omega)
      exact ⟨b, o, fun _ => e⟩
    · exact ⟨0, 0, fun h' => absurd h' h⟩
  obtain ⟨b, o, ha⟩ := ha
  have HA := hidJ ha
  rw [hN] at hlc hl HRi
  rw [hN]
  clear hN hrd hT hin ha
  refine callsIn_of_wp_marks Tryd.func28 rfl trivial ?_ rfl
  simp only [Tryd.ntmps28, List.size_toArray, List.length_cons, List.length_nil, Nat.reduceAdd, Nat.reduceSub, Array.replicate_succ, Array.replicate_zero, List.push_toArray, List.append_toArray, List.nil_append, List.cons_append]
  gi_wp2_with fail
  refine ⟨trivial, ?_⟩
  gi_at_call 48
  refine (callsIn_wide.2 HRi.out).mono ?_
  rintro e w1 ⟨hri, hg1⟩
  have HG1 := hidJ hg1
  clear hg1 HRi
  rcases hri with ⟨hok, rfl⟩ | ⟨z, hz, hne, hfirst, rfl⟩
  · have HOK := hidJ hok
    clear hok
    gi_wp2_with fail
    refine ⟨trivial, ?_⟩
    gi_at_call 49
    refine (callsIn_wide.2 (slChunk_any a N c _)).mono ?_
    rintro e w2 ⟨rfl, rfl⟩
    have H2 : Hid (∀ W0, W0 = ((w1.alloc (.cells #[.slice none 0 0] 51)).alloc (.cells #[.slice a N c] 22)).alloc (.cells #[.int .i64 120] 3) → w.grownBy W0 none ∧ W0.heap.size = w1.heap.size + 3 ∧ w.heap.size ≤ w1.heap.size ∧ Boxed W0 w1.heap.size 51 (.slice none 0 0) ∧ Boxed W0 (w1.heap.size + 1) 22 (.slice a N c) ∧ Boxed W0 (w1.heap.size + 2) 3 (.int .i64 120)) := by
      rintro W0 rfl
      have k1 := alloc_gb w1 (.cells #[.slice none 0 0] 51)
      have k2 := alloc_gb (w1.alloc (.cells #[.slice none 0 0] 51)) (.cells #[.slice a N c] 22)
      have k3 := alloc_gb ((w1.alloc (.cells #[.slice none 0 0] 51)).alloc (.cells #[.slice a N c] 22)) (.cells #[.int .i64 120] 3)
      have y1 := ((Boxed.new w1 51 (.slice none 0 0)).alloc (.cells #[.slice a N c] 22)).alloc (.cells #[.int .i64 120] 3)
      have y2 := (Boxed.new (w1.alloc (.cells #[.slice none 0 0] 51)) 22 (.slice a N c)).alloc (.cells #[.int .i64 120] 3)
      have y3 := Boxed.new ((w1.alloc (.cells #[.slice none 0 0] 51)).alloc (.cells #[.slice a N c] 22)) 3 (.int .i64 120)
      simp only [World.size_alloc] at y2 y3
      exact ⟨gb_none HG1.out (gb_none (gb_none k1 k2) k3), by simp, HG1.out.size, y1, y2, y3⟩
    gi_wp2_with fail
    have H3 := H2.out _ rfl
    try rw [show w1.heap.size + 1 + 1 = w1.heap.size + 2 from rfl]
    generalize ((w1.alloc (.cells #[.slice none 0 0] 51)).alloc (.cells #[.slice a N c] 22)).alloc (.cells #[.int .i64 120] 3) = W0 at *
    clear H2 HG1
    generalize w1.heap.size = cb at *
    have H0 := hidJ H3
    clear H3
    refine range_ex rfl h1 (gf := 72) (lb := #[.pointer (some ⟨cb + 1, 0, none⟩), .pointer (some ⟨cb + 2, 0, none⟩)]) rfl trivial (enters_of Tryd.func72 (by kernel_rfl) rfl) ?_
    intro rc hfn hrd hpe hps htm has hbo
    rw [H0.out.2.1, show cb + 3 + 1 = cb + 4 from rfl]
    have HS : Hid (SpJ w cb rc l (.slice a N c) 0 ((W0.alloc (.deferred (some []))).alloc (.loop rc))) := by
      obtain ⟨q1, q2, q3, q4, q5, q6⟩ := H0.out
      have k1 := alloc_gb W0 (.deferred (some []))
      have k2 := alloc_gb (W0.alloc (.deferred (some []))) (.loop rc)
      have kk := gb_none k1 k2
      have e1 := World.alloc_heap_new W0 (.deferred (some []))
      have e2 := World.alloc_heap_new (W0.alloc (.deferred (some []))) (.loop rc)
      rw [World.size_alloc] at e2
      rw [q2] at e1 e2
      exact ⟨gb_none q1 kk, ⟨q3, by simp [q2]⟩, q5.kept kk (by simp), q6.kept kk (by simp), (k2.block _ (by simp [q2]) (by simp)).trans e1, e2, .slice none 0 0, [], q4.kept kk (by simp), World.ownsRow_nil _ _ _ _, fun j hj => by omega⟩
    generalize (W0.alloc (.deferred (some []))).alloc (.loop rc) = Ws at *
    refine CallsIn.mono (slChunk1_on (n - 1) (by omega) (cb + 4) (cb + 1) (cb + 2) b o N c a HA.out (SpJ w cb rc l (.slice a N c)) Ws (by omega) hlc hcm ?hJr ?hJd ?hY HS.out) ?post
    case hJr => exact fun k W hj => ⟨hj.bs.cell, hj.bn.cell⟩
    case hJd => exact fun k W hj => hj.keep (gb_drew _ _)
    case hY =>
      intro k W hk hj
      refine YieldAt.mono (yield_ex (R := SpJ w cb rc l (.slice a N c) (k + 1)) (Rx := fun _ => False) has hbo hps htm hj.rcd hrd rfl hfn ?_) ?_
      · clear has hbo hps htm
        have hkl : 120 * k < l.length := by rw [HN.out]; exact hk
        have hk1 : k ≤ 1000 := by omega
        have HK := hidJ hj.rcd
        have hB := hj.put (rc' := { rc with state := .busy })
        have hpk := piece_ok HV.out.2.1 HOK.out k hkl
        have hrp : RdP w (.slice (some ⟨b, o + 120 * k * 2, none⟩) (min 120 (N - 120 * k)) (min 120 (N - 120 * k))) (pieceL l k) := by
          have h0 := HV.out.1
          rw [HA.out (by omega)] at h0
          have h2 := h0.piece k hkl
          rw [HN.out] at h2
          exact h2
        have hinp : SmIn (pieceL l k) := fun y hy => HV.out.2.1 y (List.mem_of_mem_drop (List.mem_of_mem_take hy))
        have HEn : Hid (Calls Tryd.prog 20 #[.slice (some ⟨b, o + 120 * k * 2, none⟩) (min 120 (N - 120 * k)) (min 120 (N - 120 * k))] (W.putObj (cb + 4) (.loop { rc with state := .busy })) fun e W3 => ∃ ax nx cx, e = .returned (.tuple #[.slice ax nx cx, .int .i64 0, .int .i64 0]) ∧ Own W3 (cb + 5) (.slice ax nx cx) (ckB (pieceL l k)) ∧ SpJ w cb { rc with state := .busy } l (.slice a N c) k W3) := by
          refine (ckEncode_any _ _ (pieceL l k) (hrp.keep hB.old) hinp (HV.out.2.2.keep hB.old)).mono ?_
          rintro e W3 ⟨hA, hg⟩
          rcases hA with ⟨-, v', he, ho⟩ | ⟨z, hz, -, hne, -⟩
          · obtain ⟨ax, cx, rfl⟩ := ho.shape
            exact ⟨ax, _, cx, he, ho.mono hB.place.2, hB.keep hg⟩
          · exfalso
            have hsp := okL_app (st := startP) (l := (pieceL l k).take z) (r := (pieceL l k).drop z)
            rw [List.take_append_drop] at hsp
            have h3 := (hsp.1 hpk.1).2
            have hd : (pieceL l k).drop z = (pieceL l k).getD z smZ :: (pieceL l k).drop (z + 1) := by
              rw [List.drop_eq_getElem_cons hz]
              simp [List.getD, hz]
            rw [hd] at h3
            exact hne h3.1
        have HX := hidJ (And.intro hrd hpe)
        clear hB hpk hrp hinp hj hrd hpe hfn hkl hk
        generalize min 120 (N - 120 * k) = pn at *
        gi_wp2
        refine ⟨HK.out, ?_⟩
        generalize W.putObj (cb + 4) (.loop { rc with state := .busy }) = Wb at *
        clear HK
        gi_wp2_with fail
        refine ⟨trivial, fun _ => by omega, ?_⟩
        refine (CallsIn.inRound _ (callsIn_wide.2 HEn.out)).mono ?_
        rintro e W3 ⟨ax, nx, cx, rfl, ho3, hj3⟩
        obtain ⟨aL, cL, a2, c2, W4, r1, r2, r3, r4, r5⟩ := hj3.more ax nx cx ho3 hk1
        have H5 := hidJ r5
        clear r5 ho3 hj3 HEn
        gi_wp2_with (gi_at_builtin; refine wpIn_appRun rfl _ _ 51 rfl _ _ _ rfl rfl r2 ?_)
        have hfin := H5.out
        refine ⟨hfin.rcd, ?_⟩
        have := hfin.put (rc' := { rc with state := .ready, pending := none })
        rw [ready_same HX.out.1 HX.out.2] at this ⊢
        exact this
      · rintro e W' (⟨h1, h2⟩ | ⟨-, h⟩)
        · exact ⟨h1, h2⟩
        · exact h.elim
    case post =>
      rintro e W' ⟨⟨x, rfl⟩, K, hK1, hK2, hj⟩
      refine ⟨⟨x, rfl⟩, .inl ⟨hj.rcd, ?_⟩⟩
      have hj7 := hj.put (rc' := { rc with state := .exhausted })
      clear has hbo hps htm hrd hpe hfn hj
      generalize W'.putObj (cb + 4) (.loop { rc with state := .exhausted }) = W7 at *
      obtain ⟨vC, vals, c3, c4, c5⟩ := hj7.row
      obtain ⟨aL, cL, rfl⟩ : ∃ a c, vC = .slice a K c := by
        rcases c4.2 with ⟨e, e2⟩ | ⟨b, cap, cur, e, -⟩
        · exact ⟨none, 0, by rw [e, e2]⟩
        · exact ⟨_, _, e⟩
      have z0 := c3.cell
      have HE := hidJ (And.intro hj7 (And.intro c4 (And.intro c5 (And.intro hK1 hK2))))
      clear hj7 c3 c4 c5
      gi_wp2
      obtain ⟨q1, q2, q3, q4, q5⟩ := HE.out
      have hp := q1.place
      have hc := putRec_ch W7 (cb + 3) (.deferred none)
      refine ⟨by simp, .inl ⟨_, _, rfl, run_takeDeferred q1.df, ?_⟩⟩
      refine ⟨_, results_tmp3 rfl _ _ _, .inl ⟨HOK.out, _, K, by rw [HN.out]; exact q4, by rw [HN.out]; exact q5, rfl, vals, rowB_mono (rowB_ch q2 hc (fun q hq e => ?_)) (by omega : w.heap.size ≤ cb + 5), fun j hj => ?_⟩, gb_ch q1.old hc (fun q e => by omega)⟩
      · have := (World.ownsRow.lt q2 q hq).1
        omega
      · obtain ⟨x, x1, x2⟩ := q3 j hj
        refine ⟨x, x1, (own_ch x2 hc (fun q hq e => ?_)).mono (by omega)⟩
        have := (x2.lt q hq).1
        omega
  · have HF := hidJ (And.intro hz (And.intro hne hfirst))
    obtain ⟨q, hq⟩ : ∃ q, risC l z = q := ⟨_, rfl⟩
    rw [hq] at hne ⊢
    have HQ := hidJ hq
    have hqb : (q == 0) = false := by rw [beq_eq_false_iff_ne]; exact hne
    have hqn : (q != 0) = true := by simp [hne]
    clear hq hz hfirst
    gi_wp2
    refine ⟨_, results_tmp3 rfl _ _ _, .inr ⟨z, by rw [HN.out]; exact HF.out.1, HF.out.2.1, HF.out.2.2, ?_⟩, HG1.out⟩
    rw [HQ.out]
    rfl
theorem ckSplit_any (w : World) (v : Value) (l : List SmpT) (hr : RdP w v l) (hin : SmIn l) (hT : Tk w) (hl : l.length ≤ 2000) :
    Calls Tryd.prog 28 #[v] w fun e w' => SpA l w w' e ∧ w.grownBy w' none := (callsIn_wide (n := 8)).1 (ckSplit_in 8 (Nat.le_refl _) w v l hr hin hT hl)
end Go.Proofs.YtkiefmhampfhoaaDoor
