/-
  Alf, Alg, in one text.
-/
import Derived.Test.YtmgbcmogdjhacaaDoorVB
/- Alf -/
namespace Go.Proofs.YtmgbcmogdjhacaaDoor
open Go.RowKit Go.Shelf Go.Sort Go.Maps Go.WideMaps

/-- a row of alerts between two rounds -/
structure CnJ (w : World) (ag : Nat) (t0 : TypeId) (p : Int) (rc : Loop) (l : List AlX) (W : World) : Prop where
  old : w.grownBy W none
  place : w.heap.size + 2 ≤ ag ∧ ag + 2 ≤ W.heap.size
  b0 : Boxed W w.heap.size t0 (.int .i64 p)
  df : W.heap[ag]? = some (.deferred (some []))
  rcd : W.heap[ag + 1]? = some (.loop rc)
  row : ∃ vL, Boxed W (w.heap.size + 1) 38 vL ∧ OwnX W (ag + 2) vL l
  lab : ∀ x ∈ l, OwnL W (ag + 2) x.1 x.2.lbs
section
variable {w W W' : World} {ag : Nat} {t0 : TypeId} {p : Int} {rc rc' : Loop} {l : List AlX}
theorem CnJ.keep (h : CnJ w ag t0 p rc l W) (hg : W.grownBy W' none) : CnJ w ag t0 p rc l W' := by
  have hp := h.place
  have hz := hg.size
  obtain ⟨vL, c3, c4⟩ := h.row
  exact ⟨gb_none h.old hg, by omega, h.b0.kept hg (by simp), (hg.block _ (some_lt2 h.df) (by simp)).trans h.df, (hg.block _ (some_lt2 h.rcd) (by simp)).trans h.rcd, ⟨vL, c3.kept hg (by simp), c4.keep hg⟩, fun x hx => (h.lab x hx).keep hg⟩
theorem CnJ.put (h : CnJ w ag t0 p rc l W) : CnJ w ag t0 p rc' l (W.putObj (ag + 1) (.loop rc')) := by
  have hp := h.place
  have hc := putRec_ch W (ag + 1) (.loop rc')
  obtain ⟨vL, c3, c4⟩ := h.row
  refine ⟨gb_ch h.old hc (fun k e => by omega), by simpa using hp, bxch h.b0 hc (by omega), (hc.block (some_lt2 h.df) (by omega)).trans h.df, World.putObj_heap_same (some_lt2 h.rcd), ⟨vL, bxch c3 hc (by omega), row_ch c4 hc (fun k hk e => ?_)⟩, fun x hx => row_ch (h.lab x hx) hc (fun k hk e => ?_)⟩
  · have := (World.ownsRow.lt c4 k hk).1
    omega
  · have := ((h.lab x hx).lt k hk).1
    omega
/-- what is written in a round -/
def CnF (w : World) (ag : Nat) : Nat → Prop := fun k => k = w.heap.size + 1 ∨ ag + 2 ≤ k
theorem CnJ.more (u : Value) (a : AlR) (h : CnJ w ag t0 p rc l W) (hl : l.length ≤ 1000) (hu : OwnL W (ag + 2) u a.lbs) :
    ∃ aL cL a2 c2 W2, W.cell? ⟨w.heap.size + 1, 0, none⟩ = some (.slice aL l.length cL) ∧ (Builtin.append_ #[38, 38] 38 #[.slice aL l.length cL, .slice (some ⟨W.heap.size, 0, none⟩) 1 1]).run Tryd.prog (W.alloc (.cells #[u, .int .i64 a.st, .int .i64 a.en] 34)) = .ok (.slice a2 (l.length + 1) c2) W2 ∧
      W2.cell? ⟨w.heap.size + 1, 0, none⟩ = some (.slice aL l.length cL) ∧ W2.frozen? ⟨w.heap.size + 1, 0, none⟩ = false ∧ CnJ w ag t0 p rc (l ++ [(u, a)]) (W2.setCell ⟨w.heap.size + 1, 0, none⟩ (.slice a2 (l.length + 1) c2)) ∧ Ch W (W2.setCell ⟨w.heap.size + 1, 0, none⟩ (.slice a2 (l.length + 1) c2)) (CnF w ag) ∧ (W2.setCell ⟨w.heap.size + 1, 0, none⟩ (.slice a2 (l.length + 1) c2)).cell? ⟨w.heap.size + 1, 0, none⟩ = some (.slice a2 (l.length + 1) c2) := by
  have hp := h.place
  obtain ⟨vL, c3, c4⟩ := h.row
  have hal := World.grownBy_alloc W (.cells #[u, .int .i64 a.st, .int .i64 a.en] 34) none
  have hu1 : u.oneCell' = true := by obtain ⟨a', c', rfl⟩ := hu.shape; rfl
  obtain ⟨a2, cc, W2, hrun, ho, hfr⟩ := OwnX.push c4 (u, a) hu1 (by omega) (by omega) hal rfl
  obtain ⟨aL, cL, rfl⟩ := c4.shape
  have hvL := World.ownsRow.lt c4
  have k1 : Ch W (W.alloc (.cells #[u, .int .i64 a.st, .int .i64 a.en] 34)) (fun k => (Value.slice aL l.length cL).ownBlock = some k) := Ch.of_gb hal (fun k hk => by cases hk)
  have k2 : Ch W W2 (fun k => (Value.slice aL l.length cL).ownBlock = some k) := k1.trans (Ch.of_gb (S := fun k => (Value.slice aL l.length cL).ownBlock = some k) hfr.1 (fun k hk _ => hk)) (fun _ _ e => e)
  have n1 : ∀ k, k < ag + 2 → ¬ (Value.slice aL l.length cL).ownBlock = some k := fun k hk e => by have := (hvL k e).1; omega
  have bL := bxch c3 k2 (n1 _ (by omega))
  have k3 := set_ch W2 (w.heap.size + 1) 0 (.slice a2 (l.length + 1) cc)
  have hz2' := k2.size
  have hz3 : (W2.setCell ⟨w.heap.size + 1, 0, none⟩ (.slice a2 (l.length + 1) cc)).heap.size = W2.heap.size := by simp
  have nl : ∀ (v : Value) (ls : List LbT), OwnL W (ag + 2) v ls → ∀ k, v.ownBlock = some k → ¬ (Value.slice aL l.length cL).ownBlock = some k := fun v ls hv k hk e => by
    obtain ⟨cur, h1⟩ := row_objE hv hk
    obtain ⟨cur', h2⟩ := row_objE c4 e
    rw [h1] at h2
    simp at h2
  refine ⟨aL, cL, a2, cc, W2, c3.cell, hrun, bL.cell, bL.frozen, ?_, ?_, (bL.set _).cell⟩
  · have d1 := (k2.block (some_lt2 h.df) (n1 _ (by omega))).trans h.df
    have r1 := (k2.block (some_lt2 h.rcd) (n1 _ (by omega))).trans h.rcd
    refine ⟨gb_ch (gb_ch h.old k2 (fun k e => by have := (hvL k e).1; omega)) k3 (fun k e => by omega), by omega, bxch (bxch h.b0 k2 (n1 _ (by omega))) k3 (by omega), (k3.block (some_lt2 d1) (by omega)).trans d1, (k3.block (some_lt2 r1) (by omega)).trans r1, ⟨.slice a2 (l.length + 1) cc, bL.set _, ?_⟩, fun x hx => ?_⟩
    · have e : (l ++ [(u, a)]).length = l.length + 1 := by simp
      refine row_ch (show OwnX W2 (ag + 2) (.slice a2 (l.length + 1) cc) (l ++ [(u, a)]) from ho) k3 (fun k hk e => ?_)
      have := (World.ownsRow.lt ho k hk).1
      omega
    · have hx0 : OwnL W (ag + 2) x.1 x.2.lbs := by
        rcases List.mem_append.1 hx with hx | hx
        · exact h.lab x hx
        · rw [List.mem_singleton] at hx
          subst hx
          exact hu
      have hx1 := row_ch hx0 k2 (fun k hk => nl _ _ hx0 k hk)
      exact row_ch hx1 k3 (fun k hk e => by have := (World.ownsRow.lt hx1 k hk).1; omega)
  · refine (k2.mono (T := CnF w ag) (fun k _ e => ?_)).trans k3 (fun k _ e => ?_)
    · have := (hvL k e).1
      unfold CnF
      omega
    · have e' : k = w.heap.size + 1 := e
      unfold CnF
      omega
/-- how it ends -/
theorem CnJ.fin (h : CnJ w ag t0 p rc l W) : W.heap[ag]? = some (.deferred (some [])) ∧ ∃ a n c, W.cell? ⟨w.heap.size + 1, 0, none⟩ = some (.slice a n c) ∧ OwnX (W.putObj ag (.deferred none)) (w.heap.size + 2) (.slice a n c) l ∧ (∀ x ∈ l, OwnL (W.putObj ag (.deferred none)) (w.heap.size + 2) x.1 x.2.lbs) ∧ w.grownBy (W.putObj ag (.deferred none)) none := by
  obtain ⟨vL, c3, c4⟩ := h.row
  have hp := h.place
  have k2 := putRec_ch W ag (.deferred none)
  obtain ⟨a, c, rfl⟩ := c4.shape
  refine ⟨h.df, a, _, c, c3.cell, OwnX.mono (base := ag + 2) (row_ch c4 k2 (fun k hk e => ?_)) (by omega), fun x hx => OwnL.mono (base := ag + 2) (row_ch (h.lab x hx) k2 (fun k hk e => ?_)) (by omega), gb_ch h.old k2 (fun k e => by omega)⟩
  · have := (World.ownsRow.lt c4 k hk).1
    omega
  · have := ((h.lab x hx).lt k hk).1
    omega
end
/-- a set, or none -/
def PtrA (w : World) (pv : Value) (M : List AlR) : Prop := (pv = .pointer none ∧ M = []) ∨ ∃ S gx R most, pv = .pointer (some ⟨gx, 0, none⟩) ∧ PrjOK w S gx R most M ∧ ∀ k, S k → k < w.heap.size
theorem PtrA.keep {w w' : World} {pv : Value} {M : List AlR} (h : PtrA w pv M) (hg : w.grownBy w' none) : PtrA w' pv M := by
  rcases h with h | ⟨S, gx, R, most, h1, h2, h3⟩
  · exact .inl h
  · exact .inr ⟨S, gx, R, most, h1, h2.keep hg, fun k hk => Nat.lt_of_lt_of_le (h3 k hk) hg.size⟩
theorem allP_any (w w0 : World) (pv : Value) (M : List AlR) (h : PtrA w0 pv M) (hw : w0.grownBy w none) :
    Calls Tryd.prog 10 #[pv] w fun e w' => ∃ c v hv, e = .returned (.func (.func 25) #[] #[.pointer (some ⟨c, 0, none⟩)]) ∧ w.heap.size ≤ c ∧ Boxed w' c 38 v ∧ OwnX w' w.heap.size v (xsM hv M) ∧ (∀ a ∈ M, RdL w' (hv a.lbs) a.lbs) ∧ (∀ a ∈ M, a.lbs.length ≤ 16) ∧ M.length ≤ 500 ∧ (∀ a ∈ M, ∀ k, (hv a.lbs).ownBlock = some k → k < w0.heap.size) ∧ w.grownBy w' none := by
  rcases h with ⟨rfl, rfl⟩ | ⟨S, gx, R, most, rfl, ⟨gm, D, hv, h2⟩, h3⟩
  · refine (all_nil w).mono ?_
    rintro e w' ⟨c, v, q1, q2, q3, q4, q5⟩
    exact ⟨c, v, fun _ => .slice none 0 0, q1, q2, q3, q4, (fun a ha => by cases ha), (fun a ha => by cases ha), by simp, (fun a ha => by cases ha), q5⟩
  · have hk := h2.keep hw
    refine (all_any w S gx R most M gm D hv hk (fun k hk => Nat.lt_of_lt_of_le (h3 k hk) hw.size)).mono ?_
    rintro e w' ⟨c, v, q1, q2, q3, q4, q5⟩
    have hm := h2.ok.2.2.2
    exact ⟨c, v, hv, q1, q2, q3, q4, fun a ha => ((hk.keep q5).each a ha).1, fun a ha => (right_short (h2.ok.2.1 a ha)).1, by omega, fun a ha k hk' => h3 k ((h2.each a ha).2 k hk').1, q5⟩
end Go.Proofs.YtmgbcmogdjhacaaDoor

/- Alg -/
namespace Go.Proofs.YtmgbcmogdjhacaaDoor
open Go.RowKit Go.Shelf Go.Sort Go.Maps Go.WideMaps

attribute [local go_sem] Oper.semAt_some

def firB (now : Int) (a : AlR) : Bool := decide (a.st ≤ now) && decide (now < a.en)
theorem fireM_eq (now : Int) (M : List AlR) : fireM now M = M.filter (firB now) := rfl
/-- those heard of that fire -/
def firX (now : Int) (l : List AlX) : List AlX := l.filter fun x => firB now x.2
theorem firX_map (now : Int) (l : List AlX) : (firX now l).map (·.2) = (l.map (·.2)).filter (firB now) := by
  unfold firX
  rw [List.filter_map]
  rfl
theorem firX_snoc (now : Int) (l : List AlX) (x : AlX) : firX now (l ++ [x]) = firX now l ++ if firB now x.2 then [x] else [] := by
  unfold firX
  rw [List.filter_append]
  congr 1
  by_cases h : firB now x.2 <;> simp [h]
theorem firX_len (now : Int) (l : List AlX) : (firX now l).length ≤ l.length := List.length_filter_le _ _

set_option maxRecDepth 100000 in
set_option maxHeartbeats 6400000 in
theorem firing_in (n : Nat) (hn : 8 ≤ n) (w : World) (pv : Value) (now : Int) (M : List AlR) (hpv : ∃ a, pv = .pointer a) (h : PtrA w pv M) :
    CallsIn Fence.wide n Tryd.prog 21 #[pv, .int .i64 now] w fun e w' => ∃ v' l, e = .returned v' ∧ OwnX w' w.heap.size v' l ∧ l.map (·.2) = fireM now M ∧ (∀ x ∈ l, OwnL w' w.heap.size x.1 x.2.lbs) ∧ w.grownBy w' none := by
  have h1 : 1 ≤ n := by omega
  obtain ⟨pa, rfl⟩ := hpv
  have HA : Hid (∀ W, W = (w.alloc (.cells #[.int .i64 now] 2)).alloc (.cells #[.slice none 0 0] 38) → (Calls Tryd.prog 10 #[.pointer pa] W fun e w' => ∃ c v hv, e = .returned (.func (.func 25) #[] #[.pointer (some ⟨c, 0, none⟩)]) ∧ Hid (w'.cell? ⟨c, 0, none⟩ = some v ∧ OwnX w' (w.heap.size + 2) v (xsM hv M) ∧ (∀ a ∈ M, RdL w' (hv a.lbs) a.lbs) ∧ (∀ a ∈ M, a.lbs.length ≤ 16) ∧ M.length ≤ 500 ∧ (∀ a ∈ M, ∀ k, (hv a.lbs).ownBlock = some k → k < w.heap.size) ∧ w.grownBy w' none ∧ Boxed w' w.heap.size 2 (.int .i64 now) ∧ Boxed w' (w.heap.size + 1) 38 (.slice none 0 0) ∧ w.heap.size + 2 ≤ w'.heap.size))) := by
    rintro W rfl
    have k := gb_none (World.grownBy_alloc w (.cells #[.int .i64 now] 2) none) (World.grownBy_alloc (w.alloc (.cells #[.int .i64 now] 2)) (.cells #[.slice none 0 0] 38) none)
    have x0 := (Boxed.new w 2 (.int .i64 now)).alloc (.cells #[.slice none 0 0] 38)
    have x1 := Boxed.new (w.alloc (.cells #[.int .i64 now] 2)) 38 (.slice none 0 0)
    simp only [World.size_alloc] at x1
    refine (allP_any _ w (.pointer pa) M h k).mono ?_
    rintro e w' ⟨c, v, hv, q1, q2, q3, q4, q5, q6, q7, q8, q9⟩
    simp only [World.size_alloc] at q4
    exact ⟨c, v, hv, q1, q3.cell, q4, q5, q6, q7, q8, gb_none k q9, x0.kept q9 (by simp), x1.kept q9 (by simp), by have := q9.size; simp at this; omega⟩
  clear h
  refine callsIn_of_wp_marks Tryd.func21 rfl trivial ?_ rfl
  simp only [Tryd.ntmps21, List.size_toArray, List.length_cons, List.length_nil, Nat.reduceAdd, Nat.reduceSub, Array.replicate_succ, Array.replicate_zero, List.push_toArray, List.append_toArray, List.nil_append, List.cons_append]
  gi_wp2_with fail
  refine ⟨trivial, ?_⟩
  gi_at_call 10
  refine (callsIn_wide.2 (HA.out _ rfl)).mono ?_
  rintro e W0 ⟨c, v, hv, rfl, H0⟩
  clear HA
  gi_wp2_with fail
  obtain ⟨ag, hag⟩ : ∃ ag, W0.heap.size = ag := ⟨_, rfl⟩
  have HAG := hidJ hag
  clear hag
  refine range_br (k := 0) rfl h1 (gf := 25) (lb := #[.pointer (some ⟨c, 0, none⟩)]) rfl trivial (enters_of Tryd.func25 (by kernel_rfl) rfl) ?_
  intro rc hfn hrd hpe hps htm has hbo
  rw [HAG.out]
  have HS : Hid (((W0.alloc (.deferred (some []))).alloc (.loop rc)).heap.size = ag + 2 ∧ ((W0.alloc (.deferred (some []))).alloc (.loop rc)).heap[ag]? = some (.deferred (some [])) ∧ ((W0.alloc (.deferred (some []))).alloc (.loop rc)).heap[ag + 1]? = some (.loop rc) ∧ W0.grownBy ((W0.alloc (.deferred (some []))).alloc (.loop rc)) none ∧ w.heap.size + 2 ≤ ag) := by
    have q2 := HAG.out
    have k1 := alloc_gb W0 (.deferred (some []))
    have k2 := alloc_gb (W0.alloc (.deferred (some []))) (.loop rc)
    have e1 := World.alloc_heap_new W0 (.deferred (some []))
    have e2 := World.alloc_heap_new (W0.alloc (.deferred (some []))) (.loop rc)
    rw [World.size_alloc] at e2
    rw [q2] at e1 e2
    exact ⟨by simp [q2], (k2.block _ (by simp [q2]) (by simp)).trans e1, e2, gb_none k1 k2, by have := H0.out.2.2.2.2.2.2.2.2.2; omega⟩
  generalize (W0.alloc (.deferred (some []))).alloc (.loop rc) = Ws at *
  obtain ⟨p1, p2, p3, p4, p5, p6, p7, p8, p9, p10⟩ := H0.out
  obtain ⟨s1, s2, s3, s4, s5⟩ := HS.out
  have hvlt : ∀ k, v.ownBlock = some k → w.heap.size + 2 ≤ k ∧ k < ag := fun k hk => by have := p2.lt k hk; rw [HAG.out] at this; exact this
  refine CallsIn.mono (iter_any (n - 1) (by omega) (ag + 1) c v hv M Ws (fun k => k = w.heap.size + 1 ∨ k = ag + 1) ?cell ?row ?lab p4 p5 (fun k hk e => by have := hvlt k hk; omega) (fun a ha k hk e => by have := p6 a ha k hk; omega) (fun a ha k hk => by have := p6 a ha k hk; omega) (fun l W' => CnJ w ag 2 now rc (firX now l) W' ∧ l.length ≤ 500) (fun _ => False) ?hJ ?h0 ?hY) ?post
  case cell => exact (World.cell?_of_block (s4.block c (block_lt p1) (by simp))).trans p1
  case row => exact (p2.keep s4).mono (Nat.zero_le _)
  case lab => exact fun a ha => (p3 a ha).keep s4
  case hJ => exact fun l W1 W2 hj hg => ⟨hj.1.keep hg, hj.2⟩
  case h0 => exact ⟨⟨gb_none p7 s4, by omega, p8.kept s4 (by simp), s2, s3, ⟨_, p9.kept s4 (by simp), OwnX.nil _ _⟩, fun x hx => by cases hx⟩, by simp⟩
  case hY =>
    rintro l a r W0' W1 u ⟨hj0, hl⟩ hg01 hsz hmr hu
    have hlm : l.length + 1 ≤ 500 := by
      have := congrArg List.length hmr
      rw [List.length_append, List.length_map, List.length_cons] at this
      omega
    have hj := hj0.keep hg01
    have hu2 : OwnL W1 (ag + 2) u a.lbs := hu.mono (by omega)
    rw [s1]
    clear hj0 hu hg01 hsz
    refine YieldAt.mono (yield_br (k := 0) (R := fun W' => (CnJ w ag 2 now rc (firX now (l ++ [(u, a)])) W' ∧ (l ++ [(u, a)]).length ≤ 500) ∧ Ch W1 W' (fun k => (k = w.heap.size + 1 ∨ k = ag + 1) ∨ ag + 2 ≤ k)) (Rx := fun _ => False) has hbo hps htm hj.rcd hrd rfl hfn ?_) ?_
    · clear has hbo hps htm
      obtain ⟨sa, hsa⟩ : ∃ sa, a.st = sa := ⟨_, rfl⟩
      obtain ⟨ea, hea⟩ : ∃ ea, a.en = ea := ⟨_, rfl⟩
      obtain ⟨ua, un, uc, rfl⟩ : ∃ a n c, u = .slice a n c := by obtain ⟨a', c', e⟩ := hu2.shape; exact ⟨_, _, _, e⟩
      have hal := alloc_gb W1 (.cells #[.slice ua un uc, .int .i64 sa, .int .i64 ea] 34)
      have hk := hj.keep hal
      have HK := hidJ hk.rcd
      have hB0 := hk.put (rc' := { rc with state := .busy })
      have hcb : Ch W1 ((W1.alloc (.cells #[.slice ua un uc, .int .i64 sa, .int .i64 ea] 34)).putObj (ag + 1) (.loop { rc with state := .busy })) (fun j => j = ag + 1) := (Ch.of_gb (S := fun j => j = ag + 1) hal (fun k hk => by cases hk)).trans (putRec_ch _ _ _) (fun _ _ e => e)
      have HCB := hidJ hcb
      have hnb : B3 ((W1.alloc (.cells #[.slice ua un uc, .int .i64 sa, .int .i64 ea] 34)).putObj (ag + 1) (.loop { rc with state := .busy })) W1.heap.size 34 (.slice ua un uc) (.int .i64 sa) (.int .i64 ea) := (B3.new W1 34 _ _ _).ch (putRec_ch _ _ _) (by have := hj.place; omega)
      obtain ⟨y0, y1, y2, -⟩ := hnb.cells
      have x0 := hB0.b0.cell
      have hub : OwnL ((W1.alloc (.cells #[.slice ua un uc, .int .i64 sa, .int .i64 ea] 34)).putObj (ag + 1) (.loop { rc with state := .busy })) (ag + 2) (.slice ua un uc) a.lbs := row_ch hu2 hcb (fun k hk e => by have := (hu2.lt k hk).1; omega)
      obtain ⟨aL, cL, a2, c2, W4, r1, r2, r3, r4, r5, r6, r7⟩ := hB0.more (.slice ua un uc) a (by have := firX_len now l; omega) hub
      have HX := hidJ (And.intro hrd (And.intro hpe (And.intro hlm (And.intro hsa hea))))
      have HB0 := hidJ hB0
      have H5 := hidJ (And.intro r5 r6)
      rw [hsa, hea] at r2
      unfold alV
      rw [hsa, hea]
      clear hk hB0 hcb hnb hal hj hrd hpe hfn hmr hub hu2 r5 r6 hlm
      obtain ⟨nl, hnl⟩ : ∃ nl, (firX now l).length = nl := ⟨_, rfl⟩
      rw [hnl] at r1 r2 r3 r7
      have HNL := hidJ hnl
      clear hnl
      by_cases hf1 : sa ≤ now
      · by_cases hf2 : now < ea
        · have HF : Hid (firX now (l ++ [(.slice ua un uc, a)]) = firX now l ++ [(.slice ua un uc, a)]) := by
            rw [Hid, firX_snoc, if_pos (by unfold firB; rw [hsa, hea]; simp [hf1, hf2])]
          clear hsa hea
          gi_wp2
          refine ⟨HK.out, ?_⟩
          generalize (W1.alloc (.cells #[.slice ua un uc, .int .i64 sa, .int .i64 ea] 34)).putObj (ag + 1) (.loop { rc with state := .busy }) = Wb at *
          generalize W1.heap.size = sb at *
          clear HK
          gi_wp2_with (gi_at_builtin; refine wpIn_appRun rfl _ _ 38 rfl _ _ _ rfl rfl r2 ?_)
          have hfin := H5.out
          rw [HNL.out] at hfin
          have hp := hfin.1.place
          refine ⟨hfin.1.rcd, ⟨?_, by have := HX.out.2.2.1; simp; omega⟩, ?_⟩
          · have := hfin.1.put (rc' := { rc with state := .ready, pending := none })
            rw [ready_same HX.out.1 HX.out.2.1] at this ⊢
            rw [HF.out]
            exact this
          · refine ((HCB.out.mono (T := fun k => (k = w.heap.size + 1 ∨ k = ag + 1) ∨ ag + 2 ≤ k) (fun k _ e => by omega)).trans hfin.2 (fun k _ e => by unfold CnF at e; omega)).trans (putRec_ch _ _ _) (fun k _ e => by omega)
        · have HF : Hid (firX now (l ++ [(.slice ua un uc, a)]) = firX now l) := by
            rw [Hid, firX_snoc, if_neg (by unfold firB; rw [hsa, hea]; simp [hf2]), List.append_nil]
          clear hsa hea r1 r2 r3 r4 r7 H5
          have hg1 : decide (now < ea) = false := decide_eq_false hf2
          gi_wp2
          refine ⟨HK.out, ?_⟩
          generalize (W1.alloc (.cells #[.slice ua un uc, .int .i64 sa, .int .i64 ea] 34)).putObj (ag + 1) (.loop { rc with state := .busy }) = Wb at *
          generalize W1.heap.size = sb at *
          clear HK
          gi_wp2
          refine ⟨HB0.out.rcd, ⟨?_, by have := HX.out.2.2.1; simp; omega⟩, ?_⟩
          · have := HB0.out.put (rc' := { rc with state := .ready, pending := none })
            rw [ready_same HX.out.1 HX.out.2.1] at this ⊢
            rw [HF.out]
            exact this
          · exact (HCB.out.mono (T := fun k => (k = w.heap.size + 1 ∨ k = ag + 1) ∨ ag + 2 ≤ k) (fun k _ e => by omega)).trans (putRec_ch _ _ _) (fun k _ e => by omega)
      · have HF : Hid (firX now (l ++ [(.slice ua un uc, a)]) = firX now l) := by
          rw [Hid, firX_snoc, if_neg (by unfold firB; rw [hsa, hea]; simp [hf1]), List.append_nil]
        clear hsa hea r1 r2 r3 r4 r7 H5
        have hg1 : decide (sa ≤ now) = false := decide_eq_false hf1
        gi_wp2
        refine ⟨HK.out, ?_⟩
        generalize (W1.alloc (.cells #[.slice ua un uc, .int .i64 sa, .int .i64 ea] 34)).putObj (ag + 1) (.loop { rc with state := .busy }) = Wb at *
        generalize W1.heap.size = sb at *
        clear HK
        gi_wp2
        refine ⟨HB0.out.rcd, ⟨?_, by have := HX.out.2.2.1; simp; omega⟩, ?_⟩
        · have := HB0.out.put (rc' := { rc with state := .ready, pending := none })
          rw [ready_same HX.out.1 HX.out.2.1] at this ⊢
          rw [HF.out]
          exact this
        · exact (HCB.out.mono (T := fun k => (k = w.heap.size + 1 ∨ k = ag + 1) ∨ ag + 2 ≤ k) (fun k _ e => by omega)).trans (putRec_ch _ _ _) (fun k _ e => by omega)
    · rintro e W' (⟨q1, q2, q4⟩ | ⟨q1, q2⟩)
      · exact ⟨.inl ⟨q1, q2⟩, q4⟩
      · exact q2.elim
  case post =>
    rintro e W' ⟨⟨x, rfl⟩, hq⟩
    refine ⟨⟨x, rfl⟩, ?_⟩
    rcases hq with ⟨l, hlm, hj, -⟩ | hq
    · refine .inl ⟨hj.rcd, ?_⟩
      have hj7 := hj.put (rc' := { rc with state := .exhausted })
      have HM := hidJ hlm
      clear has hbo hps htm hrd hpe hfn hj hlm
      generalize W'.putObj (ag + 1) (.loop { rc with state := .exhausted }) = W7 at *
      obtain ⟨d1, a', n', c', z0, z1, z2, z3⟩ := hj7.fin
      have HZ := hidJ (And.intro d1 (And.intro z1 (And.intro z2 z3)))
      clear d1 z1 z2 z3 hj7
      gi_wp2
      refine ⟨by simp, .inl ⟨_, _, rfl, run_takeDeferred HZ.out.1, ?_⟩⟩
      refine ⟨_, results_tmp rfl _ _ _, ?_⟩
      exact ⟨.slice a' n' c', firX now l, rfl, HZ.out.2.1.mono (by omega), by rw [firX_map, HM.out, fireM_eq], fun x hx => (HZ.out.2.2.1 x hx).mono (by omega), HZ.out.2.2.2⟩
    · exact hq.elim
end Go.Proofs.YtmgbcmogdjhacaaDoor
