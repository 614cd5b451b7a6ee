/-
  Len, Last, the law's own spoil; what the law keeps between two samples.
-/
import Derived.Test.YtkiefmhampfhoaaDoorGI
import Derived.Test.YtkiefmhampfhoaaDoorGJ
namespace Go.Proofs.YtkiefmhampfhoaaDoor
open Go.RowKit

theorem ckLen_any (w : World) (S : Nat → Prop) (g : Nat) (m : List SmpT) (h : CkO w S g m) : Calls Tryd.prog 13 #[.pointer (some ⟨g, 0, none⟩)] w fun e w' => e = .returned (.int .i64 (m.length : Int)) ∧ w' = w := by
  obtain ⟨v, h1, -⟩ := h.here
  have c2 : w.cell? ⟨g, 2, none⟩ = some (.int .i64 ((stA startP m).n : Int)) := h1.cell.1
  rw [h.n] at c2
  clear h h1
  go_enter Tryd.func13, Tryd.ntmps13
  go_wp2
  go_ret
  exact ⟨rfl, rfl⟩
/-- the last sample, or none -/
def lastS (m : List SmpT) : SmpT := m.getD (m.length - 1) smZ
theorem lastS_st {m : List SmpT} (h : m ≠ []) : (stA startP m).t = (lastS m).1 ∧ (stA startP m).f = (lastS m).2 := by
  have hl : 0 < m.length := List.length_pos_iff.2 h
  have e : m = m.take (m.length - 1) ++ [lastS m] := by
    have := take_snocS (l := m) (j := m.length - 1) (by omega)
    rw [show m.length - 1 + 1 = m.length by omega, List.take_of_length_le (Nat.le_refl _)] at this
    exact this
  have h2 := stA_snoc startP (m.take (m.length - 1)) (lastS m)
  rw [← e] at h2
  rw [h2]
  exact ⟨rfl, rfl⟩
set_option maxHeartbeats 800000 in
theorem ckLast_any (w : World) (S : Nat → Prop) (g : Nat) (m : List SmpT) (h : CkO w S g m) : Calls Tryd.prog 12 #[.pointer (some ⟨g, 0, none⟩)] w fun e w' => e = .returned (.tuple #[.agg #[.int .i64 (lastS m).1, .float .f64 (lastS m).2], .bool (decide (0 < m.length))]) ∧ w.grownBy w' none := by
  have hsf := store_float
  have HL : Hid (∀ W, w.grownBy W none → Calls Tryd.prog 13 #[.pointer (some ⟨g, 0, none⟩)] W fun e w' => e = .returned (.int .i64 (m.length : Int)) ∧ w' = W) := fun W hW => ckLen_any W S g m (h.keep hW)
  have HC : Hid (m ≠ [] → ∀ W, w.grownBy W none → W.cell? ⟨g, 3, none⟩ = some (.int .i64 (lastS m).1) ∧ W.cell? ⟨g, 4, none⟩ = some (.float .f64 (lastS m).2)) := fun hm W hW => by
    obtain ⟨v, h1, -⟩ := (h.keep hW).here
    have e := lastS_st hm
    have c3 : W.cell? ⟨g, 3, none⟩ = some (.int .i64 (stA startP m).t) := h1.cell.2.1
    have c4 : W.cell? ⟨g, 4, none⟩ = some (.float .f64 (stA startP m).f) := h1.cell.2.2.1
    rw [e.1] at c3
    rw [e.2] at c4
    exact ⟨c3, c4⟩
  have hgl := h.lt
  clear h
  cases m with
  | nil =>
    go_enter Tryd.func12, Tryd.ntmps12
    go_wp2_with fail
    refine (HL.out _ (alloc_gb _ _)).mono ?_
    rintro e w1 ⟨rfl, rfl⟩
    go_wp2
    have hb := Go.heap_alloc_new w (.cells #[.int .i64 0, .float .f64 0] 27)
    have c0 : (w.alloc (.cells #[.int .i64 0, .float .f64 0] 27)).cell? ⟨w.heap.size, 0, none⟩ = some (.int .i64 0) := by simp only [World.cell?, hb]; rfl
    have c1 : (w.alloc (.cells #[.int .i64 0, .float .f64 0] 27)).cell? ⟨w.heap.size, 1, none⟩ = some (.float .f64 0) := by simp only [World.cell?, hb]; rfl
    have hg : w.grownBy (w.alloc (.cells #[.int .i64 0, .float .f64 0] 27)) none := alloc_gb _ _
    generalize w.alloc (.cells #[.int .i64 0, .float .f64 0] 27) = W1 at *
    refine bodyPost_ret (v := .tuple #[.agg #[.int .i64 0, .float .f64 0], .bool false]) ?_ rfl ?_
    · simp [results, Tryd.f12, go_sem, c0, c1]
    · exact ⟨rfl, hg⟩
  | cons y m' =>
    obtain ⟨N, hN⟩ : ∃ N, (y :: m').length = N := ⟨_, rfl⟩
    have hN0 : 0 < N := by rw [← hN]; simp
    have hNb : ((N : Int) == 0) = false := by rw [beq_eq_false_iff_ne]; omega
    have HD : Hid (decide (0 < (y :: m').length) = true) := decide_eq_true (by simp)
    rw [hN] at HL HD
    rw [hN]
    have HC2 := hidJ (HC.out (by simp))
    generalize decide (0 < N) = q at *
    generalize (lastS (y :: m')).1 = t0 at *
    generalize (lastS (y :: m')).2 = f0 at *
    clear HC hN
    go_enter Tryd.func12, Tryd.ntmps12
    go_wp2_with fail
    refine (HL.out _ (alloc_gb _ _)).mono ?_
    rintro e w1 ⟨rfl, hw1⟩
    have hw1 := hw1.symm
    subst hw1
    obtain ⟨c3, c4⟩ := HC2.out _ (alloc_gb w (.cells #[.int .i64 0, .float .f64 0] 27))
    have hne : ¬ g = w.heap.size := by omega
    go_wp2
    have hb := Go.heap_alloc_new w (.cells #[.int .i64 t0, .float .f64 f0] 27)
    have d0 : (w.alloc (.cells #[.int .i64 t0, .float .f64 f0] 27)).cell? ⟨w.heap.size, 0, none⟩ = some (.int .i64 t0) := by simp only [World.cell?, hb]; rfl
    have d1 : (w.alloc (.cells #[.int .i64 t0, .float .f64 f0] 27)).cell? ⟨w.heap.size, 1, none⟩ = some (.float .f64 f0) := by simp only [World.cell?, hb]; rfl
    have hg : w.grownBy (w.alloc (.cells #[.int .i64 t0, .float .f64 f0] 27)) none := alloc_gb _ _
    have hq := HD.out
    subst hq
    clear c3 c4
    generalize w.alloc (.cells #[.int .i64 t0, .float .f64 f0] 27) = W1 at *
    refine bodyPost_ret (v := .tuple #[.agg #[.int .i64 t0, .float .f64 f0], .bool true]) ?_ rfl ?_
    · simp [results, Tryd.f12, go_sem, d0, d1]
    · exact ⟨rfl, hg⟩

theorem Own.set {w : World} {base g cap : Nat} {l : List UInt8} (h : Own w base (.slice (some ⟨g, 0, none⟩) l.length cap) l) (j : Nat) (b : UInt8) : Own (w.setCell ⟨g, j, none⟩ (.int .u8 (b.toNat : Int))) base (.slice (some ⟨g, 0, none⟩) (l.set j b).length cap) (l.set j b) := by
  have := World.ownsRow.stored h j (bv b)
  unfold Own
  rw [List.length_set, List.map_set]
  exact this.1
set_option maxHeartbeats 1600000 in
theorem spoil8_any (v : Value) (base : Nat) (l : List UInt8) (w : World) (hv : Own w base v l) :
    Calls Tryd.prog 18 #[v] w fun e w' => e = .returned (.tuple #[]) ∧ w.grownBy w' v.ownBlock := by
  have hv2 : Hid (Own w base v l) := hv
  have hmax : l.length ≤ 9223372036854775807 := hv.rd.le
  obtain ⟨a, c, rfl⟩ := hv.shape
  clear hv
  generalize hN : l.length = n at *
  have HN : Hid (l.length = n) := hN
  clear hN
  go_enter Tryd.func18, Tryd.ntmps18
  go_wp2
  go_loopw [5] (fun i wr => ∃ k : Nat, k ≤ n ∧ i = .int .i64 k ∧ Hid (∃ m : List UInt8, m.length = n ∧ Own wr base (.slice a n c) m ∧ w.grownBy wr (Value.ownBlock (.slice a n c)))) (fun i _ => n - (intOf i).toNat)
  case atStart => exact ⟨0, by omega, rfl, l, HN.out, hv2.out, gb_refl _ _⟩
  case round =>
    obtain ⟨k, hk, rfl, hr⟩ := hrel
    obtain ⟨m, hm, ho, hg⟩ := hr.out
    have H : Hid (m.length = n ∧ Own wr base (.slice a n c) m ∧ w.grownBy wr (Value.ownBlock (.slice a n c))) := ⟨hm, ho, hg⟩
    clear hr hm ho hg hv2
    by_cases hlt : k < n
    · obtain ⟨g, cap, he, hg0, hg1, hcap, hcm, hcell⟩ := H.out.2.1.form (by intro h; have := H.out.1; rw [h] at this; simp at this; omega)
      simp only [Value.slice.injEq] at he
      obtain ⟨rfl, -, rfl⟩ := he
      have hc := hcell k (by rw [H.out.1]; exact hlt)
      have hf : wr.frozen? ⟨g, k, none⟩ = false := by
        have h1 := H.out.2.1
        unfold Own at h1
        rw [H.out.1] at h1
        exact World.ownsRow.frozenAt h1 k
      have hst : Hid (∃ m' : List UInt8, m'.length = n ∧ Own (wr.setCell ⟨g, k, none⟩ (.int .u8 99)) base (.slice (some ⟨g, 0, none⟩) n c) m' ∧ w.grownBy (wr.setCell ⟨g, k, none⟩ (.int .u8 99)) (Value.ownBlock (.slice (some ⟨g, 0, none⟩) n c))) := by
        refine ⟨m.set k 99, by rw [List.length_set]; exact H.out.1, ?_, gb_trans H.out.2.2 (gb_set _ _ _ _) (fun k' hk' _ => hk'.symm)⟩
        have h1 := H.out.2.1
        rw [← H.out.1] at h1
        have h2 := h1.set k 99
        rwa [List.length_set, H.out.1] at h2
      have hki : (k : Int) < (n : Int) := by omega
      clear hcell H hg0 hg1 hcap hcm
      generalize (m.getD k 0).toNat = b1 at *
      go_wp2
      go_roundw
      case rel => exact ⟨k + 1, by omega, by go_num, hst⟩
      case measure => simp [intOf]; omega
    · have HF : Hid (w.grownBy wr (Value.ownBlock (.slice a n c))) := H.out.2.2
      clear H
      go_wp2
      go_end0
      exact ⟨rfl, HF.out⟩

/-- the law between two samples: a chunk of m, and the list of m -/
structure ApJ (w W : World) (g : Nat) (vT : Value) (m : List SmpT) : Prop where
  old : w.grownBy W none
  ck : ∃ S : Nat → Prop, (∀ k, S k → w.heap.size ≤ k ∧ k < W.heap.size) ∧ CkO W S g m ∧ ∀ k, vT.ownBlock = some k → ¬ S k
  row : W.ownsRow w.heap.size 27 2 vT m.length (smC m)
theorem ApJ.keep {w W W' : World} {g : Nat} {vT : Value} {m : List SmpT} (h : ApJ w W g vT m) (hg : W.grownBy W' none) : ApJ w W' g vT m := by
  obtain ⟨S, h1, h2, h3⟩ := h.ck
  have hz := hg.size
  exact ⟨gb_none h.old hg, ⟨S, fun k hk => ⟨(h1 k hk).1, by have := (h1 k hk).2; omega⟩, h2.keep hg, h3⟩, row_ch h.row (Ch.of_gb (S := fun _ => False) hg (fun k hk => by cases hk)) (fun _ _ e => e)⟩
theorem ApJ.shape {w W : World} {g : Nat} {vT : Value} {m : List SmpT} (h : ApJ w W g vT m) : ∃ a c, vT = .slice a m.length c := by
  rcases h.row.2 with ⟨e, e2⟩ | ⟨b, cap, cur, e, -⟩
  · exact ⟨none, 0, by rw [e, e2]⟩
  · exact ⟨_, _, e⟩
theorem ApJ.rd {w W : World} {g : Nat} {vT : Value} {m : List SmpT} (h : ApJ w W g vT m) : RdP W vT m := RdP.of_row h.row
/-- Append beside the list, and beside a block o that is younger -/
theorem ApJ.append {w W0 W : World} {g : Nat} {vT : Value} {m : List SmpT} (h0 : ApJ w W0 g vT m) (hg : W0.grownBy W none) {b0 : Nat} {o : Obj} (hb : W0.heap.size ≤ b0) (ho : W.heap[b0]? = some o) (hT : Tk w) (T : Int) (F : Nat) (hF : F < 18446744073709551616) :
    Calls Tryd.prog 11 #[.pointer (some ⟨g, 0, none⟩), .int .i64 T, .float .f64 F] W fun e W' => e = .returned (.int .i64 (wrongN (stA startP m) T)) ∧ (wrongN (stA startP m) T ≠ 0 → ApJ w W' g vT m) ∧ (wrongN (stA startP m) T = 0 → w.grownBy W' none ∧ (∃ S : Nat → Prop, (∀ k, S k → w.heap.size ≤ k ∧ k < W'.heap.size) ∧ CkO W' S g (m ++ [(T, F)]) ∧ ∀ k, vT.ownBlock = some k → ¬ S k) ∧ W'.ownsRow w.heap.size 27 2 vT m.length (smC m)) ∧ W'.heap[b0]? = some o := by
  have h := h0.keep hg
  obtain ⟨S, h1, h2, h3⟩ := h0.ck
  replace h2 := h2.keep hg
  have ht := hT.lt
  have hgz := hg.size
  refine (ckAppend_any W S g m T F h2 (hT.keep h.old) ⟨fun e => by have := h1 _ e; omega, fun e => by have := h1 _ e; omega⟩ hF).mono ?_
  rintro e W' ⟨q1, q2, q3⟩
  have hold := gb_ch h.old q3 (fun k e => (h1 k e).1)
  have hz := q3.size
  have hrow := row_ch h.row q3 h3
  have hw0 := h.old.size
  have hS : ∀ k, Gr S W W' k → w.heap.size ≤ k ∧ k < W'.heap.size := fun k hk => by
    rcases hk with hk | hk
    · have := h1 k hk; omega
    · omega
  have hv : ∀ k, vT.ownBlock = some k → ¬ Gr S W W' k := fun k hk e => by
    rcases e with e | e
    · exact h3 k hk e
    · have := (World.ownsRow.lt h.row k hk).2
      omega
  refine ⟨q1, fun hne => ?_, fun h0 => ?_, (q3.block (some_lt2 ho) (fun e => by have := h1 _ e; omega)).trans ho⟩
  · rw [if_neg hne] at q2
    exact ⟨hold, ⟨_, hS, q2, hv⟩, hrow⟩
  · rw [if_pos h0] at q2
    exact ⟨hold, ⟨_, hS, q2, hv⟩, hrow⟩
theorem ApJ.ok {w W : World} {g : Nat} {vT : Value} {m : List SmpT} (h : ApJ w W g vT m) : okL startP m := h.ck.choose_spec.2.1.ok
/-- the sample is laid behind the list's others -/
theorem ApJ.push {w W : World} {g : Nat} {a : Option Addr} {c : Nat} {m : List SmpT} (T : Int) (F : Nat) (hold : w.grownBy W none) (hck : ∃ S : Nat → Prop, (∀ k, S k → w.heap.size ≤ k ∧ k < W.heap.size) ∧ CkO W S g (m ++ [(T, F)]) ∧ ∀ k, (Value.slice a m.length c).ownBlock = some k → ¬ S k) (hrow : W.ownsRow w.heap.size 27 2 (.slice a m.length c) m.length (smC m)) :
    ∃ a2 c2 W2, (Builtin.append_ #[22, 22] 22 #[.slice a m.length c, .slice (some ⟨W.heap.size, 0, none⟩) 1 1]).run Tryd.prog (W.alloc (.cells #[.int .i64 T, .float .f64 F] 27)) = .ok (.slice a2 (m.length + 1) c2) W2 ∧ ApJ w W2 g (.slice a2 (m.length + 1) c2) (m ++ [(T, F)]) := by
  obtain ⟨S, h1, h2, h3⟩ := hck
  obtain ⟨i0, hi, hz0, hz1, hz2⟩ := info_parts infoSm
  have hlen : m.length ≤ 120 := by have := h2.len; rw [List.length_append] at this; omega
  have hal := alloc_gb W (.cells #[.int .i64 T, .float .f64 F] 27)
  have hnew := Go.heap_alloc_new W (.cells #[.int .i64 T, .float .f64 F] 27)
  obtain ⟨v2, W2, hrun, ho, hfr⟩ := run_appG (W.alloc (.cells #[.int .i64 T, .float .f64 F] 27)) 22 22 27 i0 _ 2 16 w.heap.size Tryd.underlying22 hi hz0 hz1 hz2 rfl (by decide) (by decide) (.slice a m.length c) m.length (smC m) (World.ownsRow.alloc hrow _) (some ⟨W.heap.size, 0, none⟩) 1 1 [.int .i64 T, .float .f64 F] rfl
    (fun j u hj => by
      refine ⟨_, rfl, ?_⟩
      rw [Go.WideShapes.add_plain]
      simp only [World.cell?, hnew]
      simpa using hj) (fun e => by cases e)
    (fun u hu => by
      simp only [List.mem_cons, List.not_mem_nil, or_false] at hu
      rcases hu with rfl | rfl <;> rfl) (by omega) (by have := hold.size; simp; omega)
  obtain ⟨a2, cc, rfl⟩ : ∃ a c, v2 = .slice a (m.length + 1) c := by
    rcases ho.2 with ⟨e, e2⟩ | ⟨b, cap, cur, e, -⟩
    · omega
    · exact ⟨_, _, e⟩
  have hvL := World.ownsRow.lt hrow
  have k1 : Ch W (W.alloc (.cells #[.int .i64 T, .float .f64 F] 27)) (fun k => (Value.slice a m.length c).ownBlock = some k) := Ch.of_gb hal (fun k hk => by cases hk)
  have k2 : Ch W W2 (fun k => (Value.slice a m.length c).ownBlock = some k) := k1.trans (Ch.of_gb (S := fun k => (Value.slice a m.length c).ownBlock = some k) hfr.1 (fun k hk _ => hk)) (fun _ _ e => e)
  have hz := k2.size
  refine ⟨a2, cc, W2, hrun, gb_ch hold k2 (fun k e => (hvL k e).1), ⟨S, fun k hk => ⟨(h1 k hk).1, by have := (h1 k hk).2; omega⟩, h2.frame k2 (fun k _ e e' => h3 k e' e), fun k hk e => ?_⟩, ?_⟩
  · rcases hfr.2 k hk with q | q
    · exact h3 k q.symm e
    · have := h1 k e
      simp at q
      omega
  · rw [smC_snoc]
    simpa using ho
/-- append by a run that is known -/
theorem wp_appRun {w w' : World} {ops : Array Oper} {rest : List Oper} {o : Oper} {a : Act} {Q : Exit → Act → World → Prop} (hgd : o.guard = none) (s x : Operand) (T : TypeId)
    (ho : o.op = .call { callee := .builtin .append, args := #[s, x], argTypes := #[T, T] }) (vs vx v' : Value) (hs : a.eval s = vs) (hx : a.eval x = vx)
    (hr : (Builtin.append_ #[T, T] o.type #[vs, vx]).run Tryd.prog w = .ok v' w') (h : wpList Tryd.prog ops Q rest (a.put o.dst v') w') : wpList Tryd.prog ops Q (o :: rest) a w := by
  refine wpList_plain hgd fun K hK => ?_
  unfold Oper.wp execOp
  simp only [ho, resolve, invoke, builtin, Sem.run_bind, Sem.run_pure, Result.andThen_ok, List.map_toArray, List.map_cons, List.map_nil, hs, hx, hr]
  exact hK _ _ h
end Go.Proofs.YtkiefmhampfhoaaDoor
