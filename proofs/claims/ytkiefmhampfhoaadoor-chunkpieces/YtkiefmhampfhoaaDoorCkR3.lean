/-
  Decode: bytes.Equal, and what is between two rounds: plain facts.
-/
import Derived.Test.YtkiefmhampfhoaaDoorCkR2
import Derived.Test.YtkiefmhampfhoaaDoorGE
namespace Go.Proofs.YtkiefmhampfhoaaDoor
open Go.RowKit Go.Shelf

set_option maxHeartbeats 1600000 in
theorem equal_any (w : World) (v u : Value) (l m : List UInt8) (hv : Rd w v l) (hu : Rd w u m) :
    Calls Tryd.prog 40 #[v, u] w fun e w' => e = .returned (.bool (decide (l = m))) ∧ w' = w := by
  have c1 := run_strU hv
  have c2 := run_strU hu
  have HE : Hid (((ByteArray.mk ⟨l⟩ : ByteArray) = ByteArray.mk ⟨m⟩) = (l = m)) := by
    show ((ByteArray.mk ⟨l⟩ : ByteArray) = ByteArray.mk ⟨m⟩) = (l = m)
    simp
  obtain ⟨a, c, rfl, -⟩ := hv
  obtain ⟨a', c', rfl, -⟩ := hu
  go_enter Tryd.func40, Tryd.ntmps40
  go_wp2
  go_ret
  refine ⟨?_, rfl⟩
  refine congrArg (fun x => Ending.returned (.bool x)) ?_
  by_cases h : l = m
  · subst h
    simp
  · rw [decide_eq_false h, beq_eq_false_iff_ne]
    exact h

theorem infoSm : (Tryd.prog.info? 27).map (fun i => (i.zero, i.size, i.bytes)) = some (some (.agg #[.int .i64 0, .float .f64 0]), 2, 16) := by kernel_rfl
/-- the cells of samples -/
def smC : List SmpT → List Value
  | [] => []
  | x :: l => .int .i64 x.1 :: .float .f64 x.2 :: smC l
theorem smC_snoc (l : List SmpT) (x : SmpT) : smC (l ++ [x]) = smC l ++ [.int .i64 x.1, .float .f64 x.2] := by
  induction l with
  | nil => rfl
  | cons y l ih => simp [smC, ih]
/-- in Decode: the row holds l, the chunk l2, the range's record is rc -/
structure DcJ (w : World) (g ag : Nat) (rc : Loop) (B : Nat) (l l2 : List SmpT) (W : World) : Prop where
  old : w.grownBy W none
  place : w.heap.size + 2 ≤ ag ∧ ag + 5 ≤ B ∧ B ≤ W.heap.size
  b0 : Boxed W w.heap.size 22 (.slice none 0 0)
  b1 : Boxed W (w.heap.size + 1) 28 (.int .i64 0)
  ba : Boxed W ag 23 (.pointer (some ⟨g, 0, none⟩))
  df : W.heap[ag + 3]? = some (.deferred (some []))
  rcd : W.heap[ag + 4]? = some (.loop rc)
  ck : ∃ S vL, CkO W S g l2 ∧ (∀ k, S k → k < W.heap.size ∧ ((w.heap.size + 2 ≤ k ∧ k < ag) ∨ B ≤ k)) ∧ Boxed W (ag + 1) 22 vL ∧ W.ownsRow B 27 2 vL l.length (smC l) ∧ ∀ k, vL.ownBlock = some k → ¬ S k
/-- what may be written in a round -/
def DcF (w : World) (ag B : Nat) : Nat → Prop := fun k => (w.heap.size ≤ k ∧ k < ag + 5) ∨ B ≤ k
theorem bxch {w w' : World} {b : Nat} {t : TypeId} {x : Value} {S : Nat → Prop} (h : Boxed w b t x) (hc : Ch w w' S) (hs : ¬ S b) : Boxed w' b t x := by
  show w'.heap[b]? = _
  rw [hc.block h.lt hs]
  exact h
theorem row_ch {w w' : World} {S : Nat → Prop} {base n : Nat} {v : Value} {xs : List Value} (h : w.ownsRow base 27 2 v n xs) (hc : Ch w w' S) (hs : ∀ k, v.ownBlock = some k → ¬ S k) : w'.ownsRow base 27 2 v n xs := by
  obtain ⟨h0, h1⟩ := h
  refine ⟨h0, ?_⟩
  rcases h1 with h1 | ⟨gb, cap, cur, e, q1, q2, q3⟩
  · exact .inl h1
  · refine .inr ⟨gb, cap, cur, e, q1, ?_, q3⟩
    have hlt : gb < w.heap.size := (Array.getElem?_eq_some_iff.1 q2).1
    rw [hc.block hlt (hs gb (by rw [e]; rfl))]
    exact q2
theorem some_lt2 {W : World} {k : Nat} {o : Obj} (h : W.heap[k]? = some o) : k < W.heap.size := (Array.getElem?_eq_some_iff.1 h).1
theorem gb_ch {w W W' : World} {S : Nat → Prop} (h : w.grownBy W none) (hc : Ch W W' S) (hs : ∀ k, S k → w.heap.size ≤ k) : w.grownBy W' none :=
  Ch.gb (S := fun _ => False) ((Ch.of_gb (S := fun _ => False) h (fun k hk => by cases hk)).trans hc (fun k hk e => by have := hs k e; omega)) (fun _ _ e => e)
theorem DcJ.far {w W W' : World} {g ag B : Nat} {rc : Loop} {l l2 : List SmpT} (h : DcJ w g ag rc B l l2 W) (hc : Ch W W' (fun k => ag + 5 ≤ k ∧ k < B)) : DcJ w g ag rc B l l2 W' := by
  have hp := h.place
  have hz := hc.size
  obtain ⟨S, vL, c1, c2, c3, c4, c5⟩ := h.ck
  refine ⟨gb_ch h.old hc (fun k e => by omega), by omega, bxch h.b0 hc (by omega), bxch h.b1 hc (by omega), bxch h.ba hc (by omega), (hc.block (some_lt2 h.df) (by omega)).trans h.df, (hc.block (some_lt2 h.rcd) (by omega)).trans h.rcd, S, vL, ?_, fun k hk => ⟨by have := c2 k hk; omega, (c2 k hk).2⟩, bxch c3 hc (by omega), ?_, c5⟩
  · exact c1.frame hc (fun k hk e e' => by have := c2 k e; omega)
  · refine row_ch c4 hc (fun k hk e => ?_)
    have := (World.ownsRow.lt c4 k hk).1
    omega
theorem DcJ.keep {w W W' : World} {g ag B : Nat} {rc : Loop} {l l2 : List SmpT} (h : DcJ w g ag rc B l l2 W) (hg : W.grownBy W' none) : DcJ w g ag rc B l l2 W' := h.far (Ch.of_gb hg (fun k hk => by cases hk))
theorem putRec_ch (W : World) (k : Nat) (o : Obj) : Ch W (W.putObj k o) (fun j => j = k) := ⟨rfl, rfl, rfl, by simp, fun j _ hj => World.putObj_heap_other hj⟩
theorem DcJ.put {w W : World} {g ag B : Nat} {rc rc' : Loop} {l l2 : List SmpT} (h : DcJ w g ag rc B l l2 W) : DcJ w g ag rc' B l l2 (W.putObj (ag + 4) (.loop rc')) := by
  have hp := h.place
  have hc := putRec_ch W (ag + 4) (.loop rc')
  obtain ⟨S, vL, c1, c2, c3, c4, c5⟩ := h.ck
  refine ⟨gb_ch h.old hc (fun k e => by omega), by simpa using hp, bxch h.b0 hc (by omega), bxch h.b1 hc (by omega), bxch h.ba hc (by omega), (hc.block (some_lt2 h.df) (by omega)).trans h.df, World.putObj_heap_same (some_lt2 h.rcd), S, vL, ?_, fun k hk => by simpa using c2 k hk, bxch c3 hc (by omega), ?_, c5⟩
  · exact c1.frame hc (fun k hk e e' => by have := c2 k e; omega)
  · refine row_ch c4 hc (fun k hk e => ?_)
    have := (World.ownsRow.lt c4 k hk).1
    omega
/-- Append in a round -/
theorem DcJ.append {w W1 W : World} {g ag B s : Nat} {rc0 rc : Loop} {l : List SmpT} {o : Obj} (h : DcJ w g ag rc0 B l l W1) (hc : Ch W1 W (fun j => j = ag + 4)) (hrc : W.heap[ag + 4]? = some (.loop rc)) (hs : W1.heap.size ≤ s) (ho : W.heap[s]? = some o) (hT : Tk w) (T : Int) (F : Nat) (hF : F < 18446744073709551616) :
    Calls Tryd.prog 11 #[.pointer (some ⟨g, 0, none⟩), .int .i64 T, .float .f64 F] W fun e W' => e = .returned (.int .i64 (wrongN (stA startP l) T)) ∧ DcJ w g ag rc B l (if wrongN (stA startP l) T = 0 then l ++ [(T, F)] else l) W' ∧ Ch W W' (DcF w ag B) ∧ W'.heap[s]? = some o := by
  have hp := h.place
  have hz1 := hc.size
  obtain ⟨S, vL, c1, c2, c3, c4, c5⟩ := h.ck
  have ht := hT.lt
  have hold := gb_ch h.old hc (fun k e => by omega)
  have hTW := hT.keep hold
  have c1' := c1.frame hc (fun k hk e e' => by have := c2 k e; omega)
  have hsn : ¬ S s := fun e => by have := c2 s e; omega
  refine (ckAppend_any W S g l T F c1' hTW ⟨fun e => by have := c2 _ e; omega, fun e => by have := c2 _ e; omega⟩ hF).mono ?_
  rintro e W' ⟨q1, q2, q3⟩
  have hz := q3.size
  have hS : ∀ k, S k → DcF w ag B k := fun k e => by have := c2 k e; unfold DcF; omega
  refine ⟨q1, ⟨gb_ch hold q3 (fun k e => by have := c2 k e; omega), by omega, bxch (bxch h.b0 hc (by omega)) q3 (fun e => by have := c2 _ e; omega), bxch (bxch h.b1 hc (by omega)) q3 (fun e => by have := c2 _ e; omega), bxch (bxch h.ba hc (by omega)) q3 (fun e => by have := c2 _ e; omega), ?_, (q3.block (some_lt2 hrc) (fun e => by have := c2 _ e; omega)).trans hrc, Gr S W W', vL, q2, fun k hk => ?_, bxch (bxch c3 hc (by omega)) q3 (fun e => by have := c2 _ e; omega), ?_, fun k hk e => ?_⟩, q3.mono (fun k _ e => hS k e), (q3.block (some_lt2 ho) hsn).trans ho⟩
  · have h3 := (hc.block (some_lt2 h.df) (by omega)).trans h.df
    exact (q3.block (some_lt2 h3) (fun e => by have := c2 _ e; omega)).trans h3
  · rcases hk with hk | hk
    · have := c2 k hk
      omega
    · omega
  · refine row_ch (row_ch c4 hc (fun k hk e => ?_)) q3 c5
    have := (World.ownsRow.lt c4 k hk).1
    omega
  · rcases e with e | e
    · exact c5 k hk e
    · have := (World.ownsRow.lt c4 k hk).2
      omega
/-- how Decode leaves a round -/
structure DcX (w : World) (ag : Nat) (rc : Loop) (W : World) : Prop where
  old : w.grownBy W none
  place : w.heap.size + 2 ≤ ag
  b0 : Boxed W w.heap.size 22 (.slice none 0 0)
  b1 : Boxed W (w.heap.size + 1) 28 (.int .i64 3)
  df : W.heap[ag + 3]? = some (.deferred (some []))
  rcd : W.heap[ag + 4]? = some (.loop rc)
theorem set_ch (W : World) (b i : Nat) (x : Value) : Ch W (W.setCell ⟨b, i, none⟩ x) (fun j => j = b) := Ch.of_gb (gb_set W b i x) (fun k hk _ => by cases hk; rfl)
/-- the two results are written -/
theorem DcJ.fault {w W : World} {g ag B : Nat} {rc rc' : Loop} {l l2 : List SmpT} (h : DcJ w g ag rc B l l2 W) :
    ((W.setCell ⟨w.heap.size, 0, none⟩ (.slice none 0 0)).setCell ⟨w.heap.size + 1, 0, none⟩ (.int .i64 3)).heap[ag + 4]? = some (.loop rc) ∧ DcX w ag rc' (((W.setCell ⟨w.heap.size, 0, none⟩ (.slice none 0 0)).setCell ⟨w.heap.size + 1, 0, none⟩ (.int .i64 3)).putObj (ag + 4) (.loop rc')) := by
  have hp := h.place
  have c1 := set_ch W w.heap.size 0 (.slice none 0 0)
  have c2 := set_ch (W.setCell ⟨w.heap.size, 0, none⟩ (.slice none 0 0)) (w.heap.size + 1) 0 (.int .i64 3)
  have c3 := putRec_ch ((W.setCell ⟨w.heap.size, 0, none⟩ (.slice none 0 0)).setCell ⟨w.heap.size + 1, 0, none⟩ (.int .i64 3)) (ag + 4) (.loop rc')
  have r1 := (c1.block (some_lt2 h.rcd) (by omega)).trans h.rcd
  have r2 := (c2.block (some_lt2 r1) (by omega)).trans r1
  have d1 := (c1.block (some_lt2 h.df) (by omega)).trans h.df
  have d2 := (c2.block (some_lt2 d1) (by omega)).trans d1
  refine ⟨r2, gb_ch (gb_ch (gb_ch h.old c1 (fun k e => by omega)) c2 (fun k e => by omega)) c3 (fun k e => by omega), hp.1, ?_, ?_, (c3.block (some_lt2 d2) (by omega)).trans d2, World.putObj_heap_same (some_lt2 r2)⟩
  · exact bxch (bxch (h.b0.set _) c2 (by omega)) c3 (by omega)
  · exact bxch ((bxch h.b1 c1 (by omega)).set _) c3 (by omega)
theorem smC_len (l : List SmpT) : (smC l).length = l.length * 2 := by
  induction l with
  | nil => rfl
  | cons x l ih => simp only [smC, List.length_cons, ih]; omega
/-- the sample is laid behind the row's others -/
theorem DcJ.row {w W : World} {g ag B : Nat} {rc : Loop} {l l2 : List SmpT} (T : Int) (F : Nat) (h : DcJ w g ag rc B l l2 W) (hl : l.length ≤ 1000) :
    ∃ aL cL a2 c2 W2, W.cell? ⟨ag + 1, 0, none⟩ = some (.slice aL l.length cL) ∧ (Builtin.append_ #[22, 22] 22 #[.slice aL l.length cL, .slice (some ⟨W.heap.size, 0, none⟩) 1 1]).run Tryd.prog (W.alloc (.cells #[.int .i64 T, .float .f64 F] 27)) = .ok (.slice a2 (l.length + 1) c2) W2 ∧
      W2.cell? ⟨ag + 1, 0, none⟩ = some (.slice aL l.length cL) ∧ W2.frozen? ⟨ag + 1, 0, none⟩ = false ∧ DcJ w g ag rc B (l ++ [(T, F)]) l2 (W2.setCell ⟨ag + 1, 0, none⟩ (.slice a2 (l.length + 1) c2)) ∧ Ch W (W2.setCell ⟨ag + 1, 0, none⟩ (.slice a2 (l.length + 1) c2)) (DcF w ag B) := by
  have hp := h.place
  obtain ⟨S, vL, c1, c2, c3, c4, c5⟩ := h.ck
  obtain ⟨i0, hi, hz0, hz1, hz2⟩ := info_parts infoSm
  have hal := alloc_gb W (.cells #[.int .i64 T, .float .f64 F] 27)
  have hnew := Go.heap_alloc_new W (.cells #[.int .i64 T, .float .f64 F] 27)
  obtain ⟨v2, W2, hrun, ho, hfr⟩ := run_appG (W.alloc (.cells #[.int .i64 T, .float .f64 F] 27)) 22 22 27 i0 _ 2 16 B Tryd.underlying22 hi hz0 hz1 hz2 rfl (by decide) (by decide) vL l.length (smC l) (World.ownsRow.alloc c4 _) (some ⟨W.heap.size, 0, none⟩) 1 1 [.int .i64 T, .float .f64 F] rfl
    (fun j u hj => by
      refine ⟨_, rfl, ?_⟩
      rw [Go.WideShapes.add_plain]
      simp only [World.cell?, hnew]
      simpa using hj) (fun e => by cases e)
    (fun u hu => by
      simp only [List.mem_cons, List.not_mem_nil, or_false] at hu
      rcases hu with rfl | rfl <;> rfl) (by omega) (by simp; omega)
  obtain ⟨aL, cL, rfl⟩ : ∃ a c, vL = .slice a l.length c := by
    rcases c4.2 with ⟨e, e2⟩ | ⟨b, cap, cur, e, -⟩
    · exact ⟨none, 0, by rw [e, e2]⟩
    · exact ⟨_, _, e⟩
  obtain ⟨a2, cc, rfl⟩ : ∃ a c, v2 = .slice a (l.length + 1) c := by
    rcases ho.2 with ⟨e, e2⟩ | ⟨b, cap, cur, e, -⟩
    · omega
    · exact ⟨_, _, e⟩
  have hvL := World.ownsRow.lt c4
  have k1 : Ch W (W.alloc (.cells #[.int .i64 T, .float .f64 F] 27)) (fun k => (Value.slice aL l.length cL).ownBlock = some k) := Ch.of_gb hal (fun k hk => by cases hk)
  have k2 : Ch W W2 (fun k => (Value.slice aL l.length cL).ownBlock = some k) := k1.trans (Ch.of_gb (S := fun k => (Value.slice aL l.length cL).ownBlock = some k) hfr.1 (fun k hk _ => hk)) (fun _ _ e => e)
  have n1 : ∀ k, k < B → ¬ (Value.slice aL l.length cL).ownBlock = some k := fun k hk e => by have := (hvL k e).1; omega
  have bL := bxch c3 k2 (n1 _ (by omega))
  have k3 := set_ch W2 (ag + 1) 0 (.slice a2 (l.length + 1) cc)
  have hz2' := k2.size
  have hz3 : (W2.setCell ⟨ag + 1, 0, none⟩ (.slice a2 (l.length + 1) cc)).heap.size = W2.heap.size := by simp
  refine ⟨aL, cL, a2, cc, W2, c3.cell, hrun, bL.cell, bL.frozen, ?_, ?_⟩
  · have d1 := (k2.block (some_lt2 h.df) (n1 _ (by omega))).trans h.df
    have r1 := (k2.block (some_lt2 h.rcd) (n1 _ (by omega))).trans h.rcd
    refine ⟨gb_ch (gb_ch h.old k2 (fun k e => by have := (hvL k e).1; omega)) k3 (fun k e => by omega), by omega, bxch (bxch h.b0 k2 (n1 _ (by omega))) k3 (by omega), bxch (bxch h.b1 k2 (n1 _ (by omega))) k3 (by omega), bxch (bxch h.ba k2 (n1 _ (by omega))) k3 (by omega), (k3.block (some_lt2 d1) (by omega)).trans d1, (k3.block (some_lt2 r1) (by omega)).trans r1, S, .slice a2 (l.length + 1) cc, ?_, fun k hk => ⟨by have := c2 k hk; omega, (c2 k hk).2⟩, bL.set _, ?_, ?_⟩
    · exact (c1.frame k2 (fun k _ e e' => c5 k e' e)).frame k3 (fun k _ e e' => by have := c2 k e; omega)
    · have ho' : W2.ownsRow B 27 2 (.slice a2 (l.length + 1) cc) (l ++ [(T, F)]).length (smC (l ++ [(T, F)])) := by
        rw [smC_snoc]
        simpa using ho
      refine row_ch ho' k3 (fun k hk e => ?_)
      have := (World.ownsRow.lt ho' k hk).1
      omega
    · intro k hk e
      rcases hfr.2 k hk with q | q
      · exact c5 k q.symm e
      · have := c2 k e
        simp at q
        omega
  · refine (k2.mono (T := DcF w ag B) (fun k _ e => ?_)).trans k3 (fun k _ e => ?_)
    · have := (hvL k e).1
      unfold DcF
      omega
    · have e' : k = ag + 1 := e
      unfold DcF
      omega
theorem ready_same {rc : Loop} (h1 : rc.state = .ready) (h2 : rc.pending = none) : ({ rc with state := .ready, pending := none } : Loop) = rc := by
  cases rc
  simp only at h1 h2
  subst h1
  subst h2
  rfl
/-- why a row of bytes is no chunk: found on the way -/
def WhyD (b : List UInt8) : Prop := b.length < 2 ∨ ∃ l st p, Dec (strL b) (strS b) l st p ∧ l.length < cntN b ∧ (nexO st (strL b) (strS b) p = none ∨ ∃ T F wd p', nexO st (strL b) (strS b) p = some (T, F, wd, p') ∧ wrongN (stA startP l) T ≠ 0)
/-- what Decode answers -/
def DecA (b : List UInt8) (w' : World) (e : Ending) : Prop :=
  (∃ l v', e = .returned (.tuple #[v', .int .i64 0]) ∧ okL startP l ∧ b = ckB l ∧ RdP w' v' l) ∨
  (e = .returned (.tuple #[.slice none 0 0, .int .i64 3]) ∧ (WhyD b ∨ ∃ l st p, Dec (strL b) (strS b) l st p ∧ l.length = cntN b ∧ ckB l ≠ b))
end Go.Proofs.YtkiefmhampfhoaaDoor
