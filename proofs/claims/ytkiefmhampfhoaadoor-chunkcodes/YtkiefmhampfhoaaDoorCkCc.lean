/-
  ranged: what Range tells: the walk.
-/
import Derived.Test.YtkiefmhampfhoaaDoorCkCb
import Derived.Test.YtkiefmhampfhoaaDoorGI
namespace Go.Proofs.YtkiefmhampfhoaaDoor
open Go.RowKit Go.Shelf

attribute [local go_sem] Oper.semAt_some

/-- those of a span -/
def wthn (frm to : Int) (l : List SmpT) : List SmpT := l.filter fun x => decide (frm ≤ x.1 ∧ x.1 ≤ to)
theorem wthn_len (frm to : Int) (l : List SmpT) : (wthn frm to l).length ≤ l.length := List.length_filter_le _ _
theorem wthn_in {frm to : Int} {l : List SmpT} {k : Nat} (hk : k < l.length) (h : frm ≤ (l.getD k smZ).1 ∧ (l.getD k smZ).1 ≤ to) : wthn frm to (l.take (k + 1)) = wthn frm to (l.take k) ++ [((l.getD k smZ).1, (l.getD k smZ).2)] := by
  unfold wthn
  rw [take_snocS hk, List.filter_append]
  congr 1
  obtain ⟨y, hy⟩ : ∃ y, l.getD k smZ = y := ⟨_, rfl⟩
  rw [hy] at h ⊢
  simp [h]
theorem wthn_out {frm to : Int} {l : List SmpT} {k : Nat} (hk : k < l.length) (h : ¬ (frm ≤ (l.getD k smZ).1 ∧ (l.getD k smZ).1 ≤ to)) : wthn frm to (l.take (k + 1)) = wthn frm to (l.take k) := by
  unfold wthn
  rw [take_snocS hk, List.filter_append]
  have : List.filter (fun x : SmpT => decide (frm ≤ x.1 ∧ x.1 ≤ to)) [l.getD k smZ] = [] := by
    rw [List.filter_eq_nil_iff]
    intro x hx
    rw [List.mem_singleton] at hx
    subst hx
    simpa using h
  rw [this, List.append_nil]
/-- ranged between two rounds -/
structure RgJ (w : World) (ag Bl Bf Bt : Nat) (frm to : Int) (v : Value) (m : List SmpT) (rc : Loop) (B : Nat) (l : List SmpT) (W : World) : Prop where
  old : w.grownBy W none
  place : w.heap.size + 1 ≤ ag ∧ ag + 2 ≤ B ∧ B ≤ W.heap.size
  df : W.heap[ag]? = some (.deferred (some []))
  rcd : W.heap[ag + 1]? = some (.loop rc)
  bl : Boxed W Bl 22 v
  bf : Boxed W Bf 2 (.int .i64 frm)
  bt : Boxed W Bt 2 (.int .i64 to)
  cp : (w.heap.size + 1 ≤ Bl ∧ Bl < ag) ∧ (w.heap.size + 1 ≤ Bf ∧ Bf < ag) ∧ (w.heap.size + 1 ≤ Bt ∧ Bt < ag) ∧ ∀ k, v.ownBlock = some k → w.heap.size + 1 ≤ k ∧ k < ag
  lst : W.ownsRow (w.heap.size + 1) 27 2 v m.length (smC m)
  row : ∃ vL, Boxed W w.heap.size 22 vL ∧ W.ownsRow B 27 2 vL l.length (smC l)
section
variable {w W W' : World} {ag Bl Bf Bt B : Nat} {frm to : Int} {v : Value} {m : List SmpT} {rc rc' : Loop} {l : List SmpT}
theorem RgJ.far (h : RgJ w ag Bl Bf Bt frm to v m rc B l W) (hc : Ch W W' (fun k => ag + 2 ≤ k ∧ k < B)) : RgJ w ag Bl Bf Bt frm to v m rc B l W' := by
  have hp := h.place
  have hq := h.cp
  have hz := hc.size
  obtain ⟨vL, c3, c4⟩ := h.row
  refine ⟨gb_ch h.old hc (fun k e => by omega), by omega, (hc.block (some_lt2 h.df) (by omega)).trans h.df, (hc.block (some_lt2 h.rcd) (by omega)).trans h.rcd, bxch h.bl hc (by omega), bxch h.bf hc (by omega), bxch h.bt hc (by omega), hq, row_ch h.lst hc (fun k hk e => by have := hq.2.2.2 k hk; omega), vL, bxch c3 hc (by omega), row_ch c4 hc (fun k hk e => ?_)⟩
  have := (World.ownsRow.lt c4 k hk).1
  omega
theorem RgJ.put (h : RgJ w ag Bl Bf Bt frm to v m rc B l W) : RgJ w ag Bl Bf Bt frm to v m rc' B l (W.putObj (ag + 1) (.loop rc')) := by
  have hp := h.place
  have hq := h.cp
  have hc := putRec_ch W (ag + 1) (.loop rc')
  obtain ⟨vL, c3, c4⟩ := h.row
  refine ⟨gb_ch h.old hc (fun k e => by omega), by simpa using hp, (hc.block (some_lt2 h.df) (by omega)).trans h.df, World.putObj_heap_same (some_lt2 h.rcd), bxch h.bl hc (by omega), bxch h.bf hc (by omega), bxch h.bt hc (by omega), hq, row_ch h.lst hc (fun k hk e => by have := hq.2.2.2 k hk; omega), vL, bxch c3 hc (by omega), row_ch c4 hc (fun k hk e => ?_)⟩
  have := (World.ownsRow.lt c4 k hk).1
  omega
theorem RgJ.more (T : Int) (F : Nat) (h : RgJ w ag Bl Bf Bt frm to v m rc B l W) (hl : l.length ≤ 1000) :
    ∃ aL cL a2 c2 W2, W.cell? ⟨w.heap.size, 0, none⟩ = some (.slice aL l.length cL) ∧ (Builtin.append_ #[22, 22] 22 #[.slice aL l.length cL, .slice (some ⟨W.heap.size, 0, none⟩) 1 1]).run Tryd.prog (W.alloc (.cells #[.int .i64 T, .float .f64 F] 27)) = .ok (.slice a2 (l.length + 1) c2) W2 ∧
      W2.cell? ⟨w.heap.size, 0, none⟩ = some (.slice aL l.length cL) ∧ W2.frozen? ⟨w.heap.size, 0, none⟩ = false ∧ RgJ w ag Bl Bf Bt frm to v m rc B (l ++ [(T, F)]) (W2.setCell ⟨w.heap.size, 0, none⟩ (.slice a2 (l.length + 1) c2)) ∧ Ch W (W2.setCell ⟨w.heap.size, 0, none⟩ (.slice a2 (l.length + 1) c2)) (fun k => k = w.heap.size ∨ B ≤ k) ∧ (W2.setCell ⟨w.heap.size, 0, none⟩ (.slice a2 (l.length + 1) c2)).cell? ⟨w.heap.size, 0, none⟩ = some (.slice a2 (l.length + 1) c2) := by
  have hp := h.place
  have hq := h.cp
  obtain ⟨vL, c3, c4⟩ := h.row
  obtain ⟨i0, hi, hz0, hz1, hz2⟩ := info_parts infoSm
  have hal := alloc_gb W (.cells #[.int .i64 T, .float .f64 F] 27)
  have hnew := Go.heap_alloc_new W (.cells #[.int .i64 T, .float .f64 F] 27)
  obtain ⟨v2, W2, hrun, ho, hfr⟩ := run_appG (W.alloc (.cells #[.int .i64 T, .float .f64 F] 27)) 22 22 27 i0 _ 2 16 B Tryd.underlying22 hi hz0 hz1 hz2 rfl (by decide) (by decide) vL l.length (smC l) (World.ownsRow.alloc c4 _) (some ⟨W.heap.size, 0, none⟩) 1 1 [.int .i64 T, .float .f64 F] rfl
    (fun j u hj => by
      refine ⟨_, rfl, ?_⟩
      rw [Go.WideShapes.add_plain]
      simp only [World.cell?, hnew]
      simpa using hj) (fun e => by cases e)
    (fun u hu => by
      simp only [List.mem_cons, List.not_mem_nil, or_false] at hu
      rcases hu with rfl | rfl <;> rfl) (by omega) (by simp; omega)
  obtain ⟨aL, cL, rfl⟩ : ∃ a c, vL = .slice a l.length c := by
    rcases c4.2 with ⟨e, e2⟩ | ⟨b, cap, cur, e, -⟩
    · exact ⟨none, 0, by rw [e, e2]⟩
    · exact ⟨_, _, e⟩
  obtain ⟨a2, cc, rfl⟩ : ∃ a c, v2 = .slice a (l.length + 1) c := by
    rcases ho.2 with ⟨e, e2⟩ | ⟨b, cap, cur, e, -⟩
    · omega
    · exact ⟨_, _, e⟩
  have hvL := World.ownsRow.lt c4
  have k1 : Ch W (W.alloc (.cells #[.int .i64 T, .float .f64 F] 27)) (fun k => (Value.slice aL l.length cL).ownBlock = some k) := Ch.of_gb hal (fun k hk => by cases hk)
  have k2 : Ch W W2 (fun k => (Value.slice aL l.length cL).ownBlock = some k) := k1.trans (Ch.of_gb (S := fun k => (Value.slice aL l.length cL).ownBlock = some k) hfr.1 (fun k hk _ => hk)) (fun _ _ e => e)
  have n1 : ∀ k, k < B → ¬ (Value.slice aL l.length cL).ownBlock = some k := fun k hk e => by have := (hvL k e).1; omega
  have bL := bxch c3 k2 (n1 _ (by omega))
  have k3 := set_ch W2 w.heap.size 0 (.slice a2 (l.length + 1) cc)
  have hz2' := k2.size
  have hz3 : (W2.setCell ⟨w.heap.size, 0, none⟩ (.slice a2 (l.length + 1) cc)).heap.size = W2.heap.size := by simp
  refine ⟨aL, cL, a2, cc, W2, c3.cell, hrun, bL.cell, bL.frozen, ?_, ?_, (bL.set _).cell⟩
  · have d1 := (k2.block (some_lt2 h.df) (n1 _ (by omega))).trans h.df
    have r1 := (k2.block (some_lt2 h.rcd) (n1 _ (by omega))).trans h.rcd
    refine ⟨gb_ch (gb_ch h.old k2 (fun k e => by have := (hvL k e).1; omega)) k3 (fun k e => by omega), by omega, (k3.block (some_lt2 d1) (by omega)).trans d1, (k3.block (some_lt2 r1) (by omega)).trans r1, bxch (bxch h.bl k2 (n1 _ (by omega))) k3 (by omega), bxch (bxch h.bf k2 (n1 _ (by omega))) k3 (by omega), bxch (bxch h.bt k2 (n1 _ (by omega))) k3 (by omega), hq, row_ch (row_ch h.lst k2 (fun k hk e => n1 k (by have := hq.2.2.2 k hk; omega) e)) k3 (fun k hk e => by have := hq.2.2.2 k hk; omega), .slice a2 (l.length + 1) cc, bL.set _, ?_⟩
    have ho' : W2.ownsRow B 27 2 (.slice a2 (l.length + 1) cc) (l ++ [(T, F)]).length (smC (l ++ [(T, F)])) := by
      rw [smC_snoc]
      simpa using ho
    refine row_ch ho' k3 (fun k hk e => ?_)
    have := (World.ownsRow.lt ho' k hk).1
    omega
  · refine (k2.mono (T := fun k => k = w.heap.size ∨ B ≤ k) (fun k _ e => ?_)).trans k3 (fun k _ e => ?_)
    · have := (hvL k e).1
      omega
    · have e' : k = w.heap.size := e
      omega
end

set_option maxRecDepth 100000 in
set_option maxHeartbeats 6400000 in
theorem ranged_in (n : Nat) (hn : 14 ≤ n) (w : World) (v : Value) (b : List UInt8) (frm to : Int) (hv : Rd w v b) (hb : b.length < 281474976710656) (hT : Tk w) :
    CallsIn Fence.wide n Tryd.prog 26 #[v, .int .i64 frm, .int .i64 to] w fun e w' => ((∃ m v', e = .returned (.tuple #[v', .int .i64 0]) ∧ okL startP m ∧ b = ckB m ∧ RdP w' v' (wthn frm to m)) ∨ (e = .returned (.tuple #[.slice none 0 0, .int .i64 3]) ∧ ∀ m, okL startP m → b ≠ ckB m)) ∧ w.grownBy w' none := by
  have h1 : 1 ≤ n := by omega
  have HV := hidJ (And.intro hv (And.intro hb hT))
  clear hv hb hT
  have hnf : ∀ (lb : Array Value) (W : World), (binOp .eql 73 (.func (.func 71) #[] lb) .nilFunc).run Tryd.prog W = .ok (.bool false) W := fun _ _ => rfl
  have hnn : ∀ (W : World), (binOp .eql 73 .nilFunc .nilFunc).run Tryd.prog W = .ok (.bool true) W := fun _ => rfl
  refine callsIn_of_wp_marks Tryd.func26 rfl trivial ?_ rfl
  simp only [Tryd.ntmps26, List.size_toArray, List.length_cons, List.length_nil, Nat.reduceAdd, Nat.reduceSub, Array.replicate_succ, Array.replicate_zero, List.push_toArray, List.append_toArray, List.nil_append, List.cons_append]
  have HA : Hid (∀ W, W = w.alloc (.cells #[.slice none 0 0] 22) → (Calls Tryd.prog 47 #[v, .int .i64 frm, .int .i64 to] W fun e w' => ((∃ l vL Bl Bf Bt, e = .returned (.tuple #[rngF Bl Bf Bt, .int .i64 0]) ∧ Hid (okL startP l ∧ b = ckB l ∧ RngC W w' Bl Bf Bt frm to vL l ∧ w.grownBy w' none ∧ Boxed w' w.heap.size 22 (.slice none 0 0) ∧ W.heap.size = w.heap.size + 1)) ∨ (e = .returned (.tuple #[.nilFunc, .int .i64 3]) ∧ Hid ((∀ m, okL startP m → b ≠ ckB m) ∧ w.grownBy w' none))))) := by
    rintro W rfl
    have k := alloc_gb w (.cells #[.slice none 0 0] 22)
    have x0 := Boxed.new w 22 (.slice none 0 0)
    refine (ckRange_any _ v b frm to (HV.out.1.keep k) HV.out.2.1 (HV.out.2.2.keep k)).mono ?_
    rintro e w' ⟨⟨l, vL, Bl, Bf, Bt, q1, q2, q3, q4⟩ | ⟨q1, q2⟩, hg⟩
    · exact .inl ⟨l, vL, Bl, Bf, Bt, q1, q2, q3, q4, gb_none k hg, x0.kept hg (by simp), by simp⟩
    · exact .inr ⟨q1, q2, gb_none k hg⟩
  gi_wp2_with fail
  refine ⟨trivial, ?_⟩
  gi_at_call 47
  refine (callsIn_wide.2 (HA.out _ rfl)).mono ?_
  rintro e W0 (⟨m, vL, Bl, Bf, Bt, rfl, H0⟩ | ⟨rfl, H0⟩)
  · clear HA hnn
    unfold rngF
    gi_wp2_with fail
    obtain ⟨ag, hag⟩ : ∃ ag, W0.heap.size = ag := ⟨_, rfl⟩
    have HAG := hidJ hag
    clear hag
    refine range_br (k := 0) rfl h1 (gf := 71) (lb := #[.pointer (some ⟨Bl, 0, none⟩), .pointer (some ⟨Bf, 0, none⟩), .pointer (some ⟨Bt, 0, none⟩)]) rfl trivial (enters_of Tryd.func71 (by kernel_rfl) rfl) ?_
    intro rc hfn hrd hpe hps htm has hbo
    rw [HAG.out]
    have HS : Hid (RgJ w ag Bl Bf Bt frm to vL m rc (ag + 2) [] ((W0.alloc (.deferred (some []))).alloc (.loop rc)) ∧ m.length ≤ 120) := by
      have q2 := HAG.out
      have k1 := alloc_gb W0 (.deferred (some []))
      have k2 := alloc_gb (W0.alloc (.deferred (some []))) (.loop rc)
      have kk := gb_none k1 k2
      have e1 := World.alloc_heap_new W0 (.deferred (some []))
      have e2 := World.alloc_heap_new (W0.alloc (.deferred (some []))) (.loop rc)
      rw [World.size_alloc] at e2
      rw [q2] at e1 e2
      obtain ⟨p1, p2, ⟨r1, r2, r3, r4, r5⟩, p4, p5, p6⟩ := H0.out
      have s1 := some_lt2 r1
      have s2 := some_lt2 r2
      have s3 := some_lt2 r3
      have s5 := some_lt2 p5
      refine ⟨⟨gb_none p4 kk, ⟨by omega, by omega, by simp [q2]⟩, (k2.block _ (by simp [q2]) (by simp)).trans e1, e2, r1.kept kk (by simp), r2.kept kk (by simp), r3.kept kk (by simp), ⟨by omega, by omega, by omega, fun k hk => ?_⟩, ?_, _, p5.kept kk (by simp), World.ownsRow_nil _ _ _ _⟩, okL_most p1⟩
      · have := World.ownsRow.lt r5 k hk
        omega
      · rw [p6] at r5
        exact row_ch r5 (Ch.of_gb (S := fun _ => False) kk (fun k hk => by cases hk)) (fun _ _ e => e)
    generalize (W0.alloc (.deferred (some []))).alloc (.loop rc) = Ws at *
    refine CallsIn.mono (rng1_on (n - 1) (by omega) (ag + 1) Bl Bf Bt frm to m vL (fun k W' => ∃ B, RgJ w ag Bl Bf Bt frm to vL m rc B (wthn frm to (m.take k)) W') Ws (by have := HS.out.2; omega) ?hJr ?hJa ?hSk ?hY ?h0) ?post
    case hJr =>
      rintro k W ⟨B, hj⟩
      exact ⟨hj.bl.cell, hj.bf.cell, hj.bt.cell, RdP.of_row hj.lst⟩
    case hJa =>
      rintro k W C ⟨B, hj⟩
      exact ⟨B, hj.far (Ch.of_gb (alloc_gb W C) (fun k hk => by cases hk))⟩
    case hSk =>
      rintro k W hk hno ⟨B, hj⟩
      exact ⟨B, by rw [wthn_out hk hno]; exact hj⟩
    case h0 => exact ⟨ag + 2, by simpa [wthn] using HS.out.1⟩
    case hY =>
      rintro k W1 hk hf ht ⟨B, hj⟩
      rw [wthn_in hk ⟨hf, ht⟩]
      have hlen : (wthn frm to (m.take k)).length ≤ 120 := by
        have h2 := wthn_len frm to (m.take k)
        rw [List.length_take] at h2
        have := HS.out.2
        omega
      generalize wthn frm to (m.take k) = l at *
      generalize (m.getD k smZ).1 = T at *
      generalize (m.getD k smZ).2 = F at *
      refine YieldAt.mono (yield_br (k := 0) (R := fun W' => ∃ B, RgJ w ag Bl Bf Bt frm to vL m rc B (l ++ [(T, F)]) W') (Rx := fun _ => False) has hbo hps htm hj.rcd hrd rfl hfn ?_) ?_
      · clear has hbo hps htm
        have hsf := store_float
        have HK := hidJ hj.rcd
        have hB0 := hj.put (rc' := { rc with state := .busy })
        obtain ⟨aL, cL, a2, c2, W4, r1, r2, r3, r4, r5, r6, r7⟩ := hB0.more T F (by omega)
        have H5 := hidJ r5
        have HX := hidJ (And.intro hrd hpe)
        clear r5 r6 hB0 hj hrd hpe hfn
        obtain ⟨nl, hnl⟩ : ∃ nl, l.length = nl := ⟨_, rfl⟩
        rw [hnl] at r1 r2 r3 r7 hlen
        have HNL := hidJ hnl
        clear hnl
        have h240 : ¬ (240 : Int) < (nl : Int) + 1 := by omega
        gi_wp2
        refine ⟨HK.out, ?_⟩
        generalize W1.putObj (ag + 1) (.loop { rc with state := .busy }) = Wb at *
        clear HK
        gi_wp2_with (gi_at_builtin; refine wpIn_appRun rfl _ _ 22 rfl _ _ _ rfl rfl r2 ?_)
        have hfin := H5.out
        rw [HNL.out] at hfin
        refine ⟨hfin.rcd, B, ?_⟩
        have := hfin.put (rc' := { rc with state := .ready, pending := none })
        rw [ready_same HX.out.1 HX.out.2] at this ⊢
        exact this
      · rintro e W' (⟨q1, q2⟩ | ⟨-, q2⟩)
        · exact ⟨q1, q2⟩
        · exact q2.elim
    case post =>
      rintro e W' ⟨⟨x, rfl⟩, B, hj⟩
      refine ⟨⟨x, rfl⟩, .inl ⟨hj.rcd, ?_⟩⟩
      rw [List.take_of_length_le (Nat.le_refl _)] at hj
      have hj7 := hj.put (rc' := { rc with state := .exhausted })
      clear has hbo hps htm hrd hpe hfn hj
      generalize W'.putObj (ag + 1) (.loop { rc with state := .exhausted }) = W7 at *
      obtain ⟨vR, c3, c4⟩ := hj7.row
      have hp := hj7.place
      have k2 := putRec_ch W7 ag (.deferred none)
      obtain ⟨a, c, rfl⟩ : ∃ a c, vR = .slice a (wthn frm to m).length c := by
        rcases c4.2 with ⟨e, e2⟩ | ⟨b, cap, cur, e, -⟩
        · exact ⟨none, 0, by rw [e, e2]⟩
        · exact ⟨_, _, e⟩
      have HZ : Hid (W7.heap[ag]? = some (.deferred (some [])) ∧ RdP (W7.putObj ag (.deferred none)) (.slice a (wthn frm to m).length c) (wthn frm to m) ∧ w.grownBy (W7.putObj ag (.deferred none)) none) := by
        refine ⟨hj7.df, RdP.of_row (row_ch c4 k2 (fun k hk e => ?_)), gb_ch hj7.old k2 (fun k e => by omega)⟩
        have := (World.ownsRow.lt c4 k hk).1
        omega
      have z0 := c3.cell
      clear hj7 c3 c4 k2 hp
      gi_wp2
      refine ⟨by simp, .inl ⟨_, _, rfl, run_takeDeferred HZ.out.1, ?_⟩⟩
      refine ⟨_, results_tmp2 rfl _ _ _, .inl ⟨m, _, rfl, H0.out.1, H0.out.2.1, HZ.out.2.1⟩, HZ.out.2.2⟩
  · clear HA hnf
    gi_wp2
    refine ⟨_, results_tmp2 rfl _ _ _, .inr ⟨rfl, H0.out.1⟩, H0.out.2⟩
theorem ranged_any (w : World) (v : Value) (b : List UInt8) (frm to : Int) (hv : Rd w v b) (hb : b.length < 281474976710656) (hT : Tk w) :
    Calls Tryd.prog 26 #[v, .int .i64 frm, .int .i64 to] w fun e w' => ((∃ m v', e = .returned (.tuple #[v', .int .i64 0]) ∧ okL startP m ∧ b = ckB m ∧ RdP w' v' (wthn frm to m)) ∨ (e = .returned (.tuple #[.slice none 0 0, .int .i64 3]) ∧ ∀ m, okL startP m → b ≠ ckB m)) ∧ w.grownBy w' none := (callsIn_wide (n := 14)).1 (ranged_in 14 (Nat.le_refl _) w v b frm to hv hb hT)
end Go.Proofs.YtkiefmhampfhoaaDoor
