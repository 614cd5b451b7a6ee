/-
  Alh, Ali, in one text.
-/
import Derived.Test.YtmgbcmogdjhacaaDoorVC
/- Alh -/
namespace Go.Proofs.YtmgbcmogdjhacaaDoor
open Go.RowKit Go.Shelf Go.Sort Go.Maps Go.WideMaps

attribute [local go_sem] Oper.semAt_some

set_option maxRecDepth 100000 in
set_option maxHeartbeats 6400000 in
theorem allL_in (n : Nat) (hn : 8 ≤ n) (w : World) (pv : Value) (most : Nat) (M : List AlR) (hpv : ∃ a, pv = .pointer a) (h : PtrA w pv M) :
    CallsIn Fence.wide n Tryd.prog 14 #[pv, .int .i64 (most : Int)] w fun e w' => ∃ v' l, e = .returned v' ∧ OwnX w' w.heap.size v' l ∧ l.map (·.2) = (if most = 0 then M else M.take most) ∧ (∀ x ∈ l, OwnL w' w.heap.size x.1 x.2.lbs) ∧ w.grownBy w' none := by
  have h1 : 1 ≤ n := by omega
  obtain ⟨pa, rfl⟩ := hpv
  obtain ⟨TM, hTM⟩ : ∃ TM, TM = (if most = 0 then M else M.take most) := ⟨_, rfl⟩
  rw [← hTM]
  have HTM := hidJ hTM
  clear hTM
  have HA : Hid (∀ W, W = (w.alloc (.cells #[.int .i64 (most : Int)] 3)).alloc (.cells #[.slice none 0 0] 38) → (Calls Tryd.prog 10 #[.pointer pa] W fun e w' => ∃ c v hv, e = .returned (.func (.func 25) #[] #[.pointer (some ⟨c, 0, none⟩)]) ∧ Hid (w'.cell? ⟨c, 0, none⟩ = some v ∧ OwnX w' (w.heap.size + 2) v (xsM hv M) ∧ (∀ a ∈ M, RdL w' (hv a.lbs) a.lbs) ∧ (∀ a ∈ M, a.lbs.length ≤ 16) ∧ M.length ≤ 500 ∧ (∀ a ∈ M, ∀ k, (hv a.lbs).ownBlock = some k → k < w.heap.size) ∧ w.grownBy w' none ∧ Boxed w' w.heap.size 3 (.int .i64 (most : Int)) ∧ Boxed w' (w.heap.size + 1) 38 (.slice none 0 0) ∧ w.heap.size + 2 ≤ w'.heap.size))) := by
    rintro W rfl
    have k := gb_none (World.grownBy_alloc w (.cells #[.int .i64 (most : Int)] 3) none) (World.grownBy_alloc (w.alloc (.cells #[.int .i64 (most : Int)] 3)) (.cells #[.slice none 0 0] 38) none)
    have x0 := (Boxed.new w 3 (.int .i64 (most : Int))).alloc (.cells #[.slice none 0 0] 38)
    have x1 := Boxed.new (w.alloc (.cells #[.int .i64 (most : Int)] 3)) 38 (.slice none 0 0)
    simp only [World.size_alloc] at x1
    refine (allP_any _ w (.pointer pa) M h k).mono ?_
    rintro e w' ⟨c, v, hv, q1, q2, q3, q4, q5, q6, q7, q8, q9⟩
    simp only [World.size_alloc] at q4
    exact ⟨c, v, hv, q1, q3.cell, q4, q5, q6, q7, q8, gb_none k q9, x0.kept q9 (by simp), x1.kept q9 (by simp), by have := q9.size; simp at this; omega⟩
  clear h
  have hnf : ∀ (lb : Array Value) (W : World), (binOp .eql 29 (.func (.func 25) #[] lb) .nilFunc).run Tryd.prog W = .ok (.bool false) W := fun _ _ => rfl
  refine callsIn_of_wp_marks Tryd.func14 rfl trivial ?_ rfl
  simp only [Tryd.ntmps14, List.size_toArray, List.length_cons, List.length_nil, Nat.reduceAdd, Nat.reduceSub, Array.replicate_succ, Array.replicate_zero, List.push_toArray, List.append_toArray, List.nil_append, List.cons_append]
  gi_wp2_with fail
  refine ⟨trivial, ?_⟩
  gi_at_call 10
  refine (callsIn_wide.2 (HA.out _ rfl)).mono ?_
  rintro e W0 ⟨c, v, hv, rfl, H0⟩
  clear HA
  gi_wp2_with fail
  obtain ⟨ag, hag⟩ : ∃ ag, W0.heap.size = ag := ⟨_, rfl⟩
  have HAG := hidJ hag
  clear hag
  refine range_br (k := 0) rfl h1 (gf := 25) (lb := #[.pointer (some ⟨c, 0, none⟩)]) rfl trivial (enters_of Tryd.func25 (by kernel_rfl) rfl) ?_
  intro rc hfn hrd hpe hps htm has hbo
  rw [HAG.out]
  have HS : Hid (((W0.alloc (.deferred (some []))).alloc (.loop rc)).heap.size = ag + 2 ∧ ((W0.alloc (.deferred (some []))).alloc (.loop rc)).heap[ag]? = some (.deferred (some [])) ∧ ((W0.alloc (.deferred (some []))).alloc (.loop rc)).heap[ag + 1]? = some (.loop rc) ∧ W0.grownBy ((W0.alloc (.deferred (some []))).alloc (.loop rc)) none ∧ w.heap.size + 2 ≤ ag) := by
    have q2 := HAG.out
    have k1 := alloc_gb W0 (.deferred (some []))
    have k2 := alloc_gb (W0.alloc (.deferred (some []))) (.loop rc)
    have e1 := World.alloc_heap_new W0 (.deferred (some []))
    have e2 := World.alloc_heap_new (W0.alloc (.deferred (some []))) (.loop rc)
    rw [World.size_alloc] at e2
    rw [q2] at e1 e2
    exact ⟨by simp [q2], (k2.block _ (by simp [q2]) (by simp)).trans e1, e2, gb_none k1 k2, by have := H0.out.2.2.2.2.2.2.2.2.2; omega⟩
  generalize (W0.alloc (.deferred (some []))).alloc (.loop rc) = Ws at *
  obtain ⟨p1, p2, p3, p4, p5, p6, p7, p8, p9, p10⟩ := H0.out
  obtain ⟨s1, s2, s3, s4, s5⟩ := HS.out
  have hvlt : ∀ k, v.ownBlock = some k → w.heap.size + 2 ≤ k ∧ k < ag := fun k hk => by have := p2.lt k hk; rw [HAG.out] at this; exact this
  refine CallsIn.mono (iter_any (n - 1) (by omega) (ag + 1) c v hv M Ws (fun k => k = w.heap.size + 1 ∨ k = ag + 1) ?cell ?row ?lab p4 p5 (fun k hk e => by have := hvlt k hk; omega) (fun a ha k hk e => by have := p6 a ha k hk; omega) (fun a ha k hk => by have := p6 a ha k hk; omega) (fun l W' => CnJ w ag 3 (most : Int) rc l W' ∧ l.length ≤ 500 ∧ (most = 0 ∨ l.length < most)) (fun W' => ∃ l, CnJ w ag 3 (most : Int) { rc with state := .done, pending := some (.exit 0) } l W' ∧ l.map (·.2) = M.take most ∧ most ≠ 0) ?hJ ?h0 ?hY) ?post
  case cell => exact (World.cell?_of_block (s4.block c (block_lt p1) (by simp))).trans p1
  case row => exact (p2.keep s4).mono (Nat.zero_le _)
  case lab => exact fun a ha => (p3 a ha).keep s4
  case hJ => exact fun l W1 W2 hj hg => ⟨hj.1.keep hg, hj.2⟩
  case h0 => exact ⟨⟨gb_none p7 s4, by omega, p8.kept s4 (by simp), s2, s3, ⟨_, p9.kept s4 (by simp), OwnX.nil _ _⟩, fun x hx => by cases hx⟩, by simp, by simp; omega⟩
  case hY =>
    rintro l a r W0' W1 u ⟨hj0, hl, hmo⟩ hg01 hsz hmr hu
    have hlm : l.length + 1 ≤ 500 := by
      have := congrArg List.length hmr
      rw [List.length_append, List.length_map, List.length_cons] at this
      omega
    have hj := hj0.keep hg01
    have hu2 : OwnL W1 (ag + 2) u a.lbs := hu.mono (by omega)
    rw [s1]
    clear hj0 hu hg01 hsz
    refine YieldAt.mono (yield_br (k := 0) (R := fun W' => (CnJ w ag 3 (most : Int) rc (l ++ [(u, a)]) W' ∧ (l ++ [(u, a)]).length ≤ 500 ∧ (most = 0 ∨ (l ++ [(u, a)]).length < most)) ∧ Ch W1 W' (fun k => (k = w.heap.size + 1 ∨ k = ag + 1) ∨ ag + 2 ≤ k)) (Rx := fun W' => (∃ l, CnJ w ag 3 (most : Int) { rc with state := .done, pending := some (.exit 0) } l W' ∧ l.map (·.2) = M.take most ∧ most ≠ 0) ∧ Ch W1 W' (fun k => (k = w.heap.size + 1 ∨ k = ag + 1) ∨ ag + 2 ≤ k)) has hbo hps htm hj.rcd hrd rfl hfn ?_) ?_
    · clear has hbo hps htm
      obtain ⟨sa, hsa⟩ : ∃ sa, a.st = sa := ⟨_, rfl⟩
      obtain ⟨ea, hea⟩ : ∃ ea, a.en = ea := ⟨_, rfl⟩
      obtain ⟨ua, un, uc, rfl⟩ : ∃ a n c, u = .slice a n c := by obtain ⟨a', c', e⟩ := hu2.shape; exact ⟨_, _, _, e⟩
      have hal := alloc_gb W1 (.cells #[.slice ua un uc, .int .i64 sa, .int .i64 ea] 34)
      have hk := hj.keep hal
      have HK := hidJ hk.rcd
      have hB0 := hk.put (rc' := { rc with state := .busy })
      have hcb : Ch W1 ((W1.alloc (.cells #[.slice ua un uc, .int .i64 sa, .int .i64 ea] 34)).putObj (ag + 1) (.loop { rc with state := .busy })) (fun j => j = ag + 1) := (Ch.of_gb (S := fun j => j = ag + 1) hal (fun k hk => by cases hk)).trans (putRec_ch _ _ _) (fun _ _ e => e)
      have HCB := hidJ hcb
      have hnb : B3 ((W1.alloc (.cells #[.slice ua un uc, .int .i64 sa, .int .i64 ea] 34)).putObj (ag + 1) (.loop { rc with state := .busy })) W1.heap.size 34 (.slice ua un uc) (.int .i64 sa) (.int .i64 ea) := (B3.new W1 34 _ _ _).ch (putRec_ch _ _ _) (by have := hj.place; omega)
      obtain ⟨y0, y1, y2, -⟩ := hnb.cells
      have hub : OwnL ((W1.alloc (.cells #[.slice ua un uc, .int .i64 sa, .int .i64 ea] 34)).putObj (ag + 1) (.loop { rc with state := .busy })) (ag + 2) (.slice ua un uc) a.lbs := row_ch hu2 hcb (fun k hk e => by have := (hu2.lt k hk).1; omega)
      obtain ⟨aL, cL, a2, c2, W4, r1, r2, r3, r4, r5, r6, r7⟩ := hB0.more (.slice ua un uc) a (by omega) hub
      have x0 := r5.b0.cell
      have HX := hidJ (And.intro hrd (And.intro hpe (And.intro hlm (And.intro hmr hmo))))
      have H5 := hidJ (And.intro r5 r6)
      rw [hsa, hea] at r2
      unfold alV
      rw [hsa, hea]
      clear hk hB0 hcb hnb hal hj hrd hpe hfn hmr hub hu2 r5 r6 hsa hea
      obtain ⟨nl, hnl⟩ : ∃ nl, l.length = nl := ⟨_, rfl⟩
      rw [hnl] at r1 r2 r3 r7 x0 hl hmo hlm
      have HNL := hidJ hnl
      clear hnl
      have HLM := hidJ (And.intro hl (And.intro hmo hlm))
      clear hmo
      by_cases hme : most = nl + 1
      · have hmi : ((nl : Int) + 1 == (most : Int)) = true := by rw [beq_iff_eq]; omega
        have hmj : (nl : Int) + 1 = (most : Int) := by omega
        have HQ : Hid (∀ W', CnJ w ag 3 (most : Int) { rc with state := .busy } (l ++ [(.slice ua un uc, a)]) W' → ∃ l, CnJ w ag 3 (most : Int) { rc with state := .done, pending := some (.exit 0) } l (W'.putObj (ag + 1) (.loop { rc with state := .done, pending := some (.exit 0) })) ∧ l.map (·.2) = M.take most ∧ most ≠ 0) := by
          intro W' hcj
          refine ⟨_, hcj.put, ?_, by omega⟩
          have e2 : M = (l ++ [(Value.slice ua un uc, a)]).map (·.2) ++ r := by rw [HX.out.2.2.2.1]; simp
          rw [e2, hme, List.take_left']
          simp [HNL.out]
        clear hme
        gi_wp2
        refine ⟨HK.out, ?_⟩
        generalize (W1.alloc (.cells #[.slice ua un uc, .int .i64 sa, .int .i64 ea] 34)).putObj (ag + 1) (.loop { rc with state := .busy }) = Wb at *
        generalize W1.heap.size = sb at *
        clear HK
        gi_wp2_with (gi_at_builtin; refine wpIn_appRun rfl _ _ 38 rfl _ _ _ rfl rfl r2 ?_)
        have hfin := H5.out
        rw [HNL.out] at hfin
        have hp := hfin.1.place
        refine ⟨hfin.1.rcd, HQ.out _ hfin.1, ?_⟩
        refine ((HCB.out.mono (T := fun k => (k = w.heap.size + 1 ∨ k = ag + 1) ∨ ag + 2 ≤ k) (fun k _ e => by omega)).trans hfin.2 (fun k _ e => by unfold CnF at e; omega)).trans (putRec_ch _ _ _) (fun k _ e => by omega)
      · have hmi : ((nl : Int) + 1 == (most : Int)) = false := by rw [beq_eq_false_iff_ne]; omega
        have hmj : ¬ (nl : Int) + 1 = (most : Int) := by omega
        have HQ : Hid ((l ++ [(Value.slice ua un uc, a)]).length ≤ 500 ∧ (most = 0 ∨ (l ++ [(Value.slice ua un uc, a)]).length < most)) := by
          have := HLM.out
          rw [Hid, List.length_append, HNL.out]
          simp only [List.length_cons, List.length_nil]
          omega
        clear hme
        gi_wp2
        refine ⟨HK.out, ?_⟩
        generalize (W1.alloc (.cells #[.slice ua un uc, .int .i64 sa, .int .i64 ea] 34)).putObj (ag + 1) (.loop { rc with state := .busy }) = Wb at *
        generalize W1.heap.size = sb at *
        clear HK
        gi_wp2_with (gi_at_builtin; refine wpIn_appRun rfl _ _ 38 rfl _ _ _ rfl rfl r2 ?_)
        have hfin := H5.out
        rw [HNL.out] at hfin
        have hp := hfin.1.place
        have hQ := HQ.out
        simp only [List.length_append, List.length_cons, List.length_nil, Nat.zero_add] at hQ
        refine ⟨hfin.1.rcd, ⟨?_, by first | exact HQ.out | exact hQ | omega⟩, ?_⟩
        · have := hfin.1.put (rc' := { rc with state := .ready, pending := none })
          rw [ready_same HX.out.1 HX.out.2.1] at this ⊢
          exact this
        · refine ((HCB.out.mono (T := fun k => (k = w.heap.size + 1 ∨ k = ag + 1) ∨ ag + 2 ≤ k) (fun k _ e => by omega)).trans hfin.2 (fun k _ e => by unfold CnF at e; omega)).trans (putRec_ch _ _ _) (fun k _ e => by omega)
    · rintro e W' (⟨q1, q2, q4⟩ | ⟨q1, q2, q4⟩)
      · exact ⟨.inl ⟨q1, q2⟩, q4⟩
      · exact ⟨.inr ⟨q1, q2⟩, q4⟩
  case post =>
    rintro e W' ⟨⟨x, rfl⟩, hq⟩
    refine ⟨⟨x, rfl⟩, ?_⟩
    rcases hq with ⟨l, hlm, hj, -, hmo⟩ | ⟨l, hj, hlm, hmo⟩
    · refine .inl ⟨hj.rcd, ?_⟩
      have hj7 := hj.put (rc' := { rc with state := .exhausted })
      have HM : Hid (l.map (·.2) = TM) := by
        rw [Hid, hlm, HTM.out]
        by_cases hm : most = 0
        · rw [if_pos hm]
        · rw [if_neg hm, List.take_of_length_le]
          have := congrArg List.length hlm
          rw [List.length_map] at this
          omega
      clear has hbo hps htm hrd hpe hfn hj hlm hmo
      generalize W'.putObj (ag + 1) (.loop { rc with state := .exhausted }) = W7 at *
      obtain ⟨d1, a', n', c', z0, z1, z2, z3⟩ := hj7.fin
      have HZ := hidJ (And.intro d1 (And.intro z1 (And.intro z2 z3)))
      clear d1 z1 z2 z3 hj7
      gi_wp2
      refine ⟨by simp, .inl ⟨_, _, rfl, run_takeDeferred HZ.out.1, ?_⟩⟩
      refine ⟨_, results_tmp rfl _ _ _, ?_⟩
      exact ⟨.slice a' n' c', l, rfl, HZ.out.2.1.mono (by omega), HM.out, fun x hx => (HZ.out.2.2.1 x hx).mono (by omega), HZ.out.2.2.2⟩
    · refine .inr ⟨hj.rcd, ?_⟩
      have hj7 := hj.put (rc' := { rc with state := .exhausted, pending := some (.exit 0) })
      have HM : Hid (l.map (·.2) = TM) := by rw [Hid, HTM.out, if_neg hmo, hlm]
      clear has hbo hps htm hrd hpe hfn hj hlm hmo
      generalize W'.putObj (ag + 1) (.loop { rc with state := .exhausted, pending := some (.exit 0) }) = W7 at *
      obtain ⟨d1, a', n', c', z0, z1, z2, z3⟩ := hj7.fin
      have HZ := hidJ (And.intro d1 (And.intro z1 (And.intro z2 z3)))
      clear d1 z1 z2 z3 hj7
      gi_wp2
      refine ⟨by simp, .inl ⟨_, _, rfl, run_takeDeferred HZ.out.1, ?_⟩⟩
      refine ⟨_, results_tmp rfl _ _ _, ?_⟩
      exact ⟨.slice a' n' c', l, rfl, HZ.out.2.1.mono (by omega), HM.out, fun x hx => (HZ.out.2.2.1 x hx).mono (by omega), HZ.out.2.2.2⟩
/-- both, plainly -/
theorem allL_any (w : World) (pv : Value) (most : Nat) (M : List AlR) (hpv : ∃ a, pv = .pointer a) (h : PtrA w pv M) :
    Calls Tryd.prog 14 #[pv, .int .i64 (most : Int)] w fun e w' => ∃ v' l, e = .returned v' ∧ OwnX w' w.heap.size v' l ∧ l.map (·.2) = (if most = 0 then M else M.take most) ∧ (∀ x ∈ l, OwnL w' w.heap.size x.1 x.2.lbs) ∧ w.grownBy w' none := (callsIn_wide (n := 14)).1 (allL_in 14 (by omega) w pv most M hpv h)
theorem firing_any (w : World) (pv : Value) (now : Int) (M : List AlR) (hpv : ∃ a, pv = .pointer a) (h : PtrA w pv M) :
    Calls Tryd.prog 21 #[pv, .int .i64 now] w fun e w' => ∃ v' l, e = .returned v' ∧ OwnX w' w.heap.size v' l ∧ l.map (·.2) = fireM now M ∧ (∀ x ∈ l, OwnL w' w.heap.size x.1 x.2.lbs) ∧ w.grownBy w' none := (callsIn_wide (n := 14)).1 (firing_in 14 (by omega) w pv now M hpv h)
end Go.Proofs.YtmgbcmogdjhacaaDoor

/- Ali -/
namespace Go.Proofs.YtmgbcmogdjhacaaDoor
open Go.RowKit Go.Shelf Go.Sort Go.Maps Go.WideMaps

/-- a set whose blocks are told -/
def SetB (w : World) (S : Nat → Prop) (gx : Nat) (R most : Int) (M : List AlR) : Prop := PrjOK w S gx R most M ∧ ∀ k, S k → k < w.heap.size
theorem SetB.keep {w w' : World} {S : Nat → Prop} {gx : Nat} {R most : Int} {M : List AlR} (h : SetB w S gx R most M) (hg : w.grownBy w' none) : SetB w' S gx R most M := ⟨h.1.keep hg, fun k hk => Nat.lt_of_lt_of_le (h.2 k hk) hg.size⟩
theorem SetB.ptr {w : World} {S : Nat → Prop} {gx : Nat} {R most : Int} {M : List AlR} (h : SetB w S gx R most M) : PtrA w (.pointer (some ⟨gx, 0, none⟩)) M := .inr ⟨S, gx, R, most, rfl, h.1, h.2⟩
theorem SetB.gr {w w' : World} {S : Nat → Prop} {gx : Nat} {R most : Int} {M M' : List AlR} (h : SetB w S gx R most M) (h2 : PrjOK w' (Gr S w w') gx R most M') (hc : Ch w w' S) : SetB w' (Gr S w w') gx R most M' := ⟨h2, fun k hk => by
  rcases hk with hk | hk
  · exact Nat.lt_of_lt_of_le (h.2 k hk) hc.size
  · exact hk.2⟩
/-- PUT -/
theorem setB_put (w : World) (S : Nat → Prop) (gx : Nat) (R most now st en : Int) (M : List AlR) (u : Value) (ls : List LbT) (h : SetB w S gx R most M) (hu : RdL w u ls) (hl : LbIn ls) (hT : U8S w) :
    Calls Tryd.prog 17 #[.pointer (some ⟨gx, 0, none⟩), .int .i64 now, alV u st en] w fun e w' => e = .returned (.int .i64 (putE R most now ⟨ls, st, en⟩ M)) ∧ SetB w' (Gr S w w') gx R most (putM R most now ⟨ls, st, en⟩ M) ∧ Ch w w' S :=
  (setPut_any w S gx R most now st en M u ls h.1 hu hl hT).mono fun _ _ ⟨h1, h2, h3⟩ => ⟨h1, h.gr h2 h3, h3⟩
theorem setB_new (w : World) (R most : Int) (h : newOk R most) :
    Calls Tryd.prog 7 #[.int .i64 R, .int .i64 most] w fun e w' => ∃ gx, e = .returned (.pointer (some ⟨gx, 0, none⟩)) ∧ SetB w' (fun k => w.heap.size ≤ k ∧ k < w'.heap.size) gx R most [] ∧ w.grownBy w' none :=
  (newOK_any w R most h).mono fun _ _ ⟨gx, h1, h2, h3⟩ => ⟨gx, h1, ⟨h2, fun _ hk => hk.2⟩, h3⟩

def laK : List LbT := [([97], [49])]
theorem laK_in : LbIn laK := by
  refine ⟨by decide, fun j => ?_⟩
  match j with
  | 0 => exact ⟨by decide, by decide⟩
  | j + 1 => simp [laK]
theorem laK_right : (rightS laK).1 = 0 := by decide +kernel
theorem laK_put1 : putE 100 5 10 ⟨laK, 0, 0⟩ [] = 0 ∧ putM 100 5 10 ⟨laK, 0, 0⟩ [] = [⟨laK, 10, 110⟩] := by
  have hd : dateE 100 10 ⟨laK, 0, 0⟩ = 0 := by
    unfold dateE
    rw [if_neg (by unfold isT; omega), if_neg (by rw [laK_right]; simp [laK]), if_neg (by unfold isB; simp)]
    rfl
  have hE : putE 100 5 10 ⟨laK, 0, 0⟩ [] = 0 := by unfold putE; rw [if_neg (by simpa using hd), if_neg (by simp)]
  refine ⟨hE, ?_⟩
  unfold putM
  rw [if_pos hE]
  rfl
theorem laK_find (a : AlR) (h : a.lbs = laK) : findA [a] laK = some a := by
  unfold findA
  simp [h]
theorem laK_put2 : putE 100 5 50 ⟨laK, 20, 0⟩ [⟨laK, 10, 110⟩] = 0 ∧ putM 100 5 50 ⟨laK, 20, 0⟩ [⟨laK, 10, 110⟩] = [⟨laK, 10, 150⟩] := by
  have hd : dateE 100 50 ⟨laK, 20, 0⟩ = 0 := by
    unfold dateE
    rw [if_neg (by unfold isT; omega), if_neg (by rw [laK_right]; simp [laK]), if_neg (by unfold isB; simp)]
    rfl
  have hf := laK_find ⟨laK, 10, 110⟩ rfl
  have hE : putE 100 5 50 ⟨laK, 20, 0⟩ [⟨laK, 10, 110⟩] = 0 := by unfold putE; rw [if_neg (by simpa using hd), if_neg (by rw [hf]; simp)]
  refine ⟨hE, ?_⟩
  unfold putM
  rw [if_pos hE]
  have hn : newA 100 50 ⟨laK, 20, 0⟩ [⟨laK, 10, 110⟩] = ⟨laK, 10, 150⟩ := by
    unfold newA
    simp only [hf]
    rfl
  rw [hn]
  unfold addA ltA gtA
  have hz : cmpLs laK laK = 0 := (cmpLs_zero _ _).2 rfl
  simp [hz]
theorem laK_get : getA [⟨laK, 10, 150⟩] laK = ⟨laK, 10, 150⟩ ∧ (findA [⟨laK, 10, 150⟩] laK).isSome = true := by
  have hf := laK_find ⟨laK, 10, 150⟩ rfl
  unfold getA
  rw [hf]
  exact ⟨rfl, rfl⟩
theorem laK_f1 : fireM 149 [⟨laK, 10, 150⟩] = [⟨laK, 10, 150⟩] := rfl
theorem laK_f2 : fireM 150 [⟨laK, 10, 150⟩] = [] := rfl
theorem len_of_map {l : List AlX} {M : List AlR} (h : l.map (·.2) = M) : l.length = M.length := by rw [← h, List.length_map]

set_option maxRecDepth 8000 in
set_option maxHeartbeats 6400000 in
theorem known_any (w : World) (hT : U8S w) : Calls Tryd.prog 9 #[] w fun e w' => e = .returned (.bool true) ∧ w.grownBy w' none := by
  have HT := hidJ hT
  have HN := hidJ (setB_new w 100 5 ⟨⟨by omega, by omega⟩, by omega, by omega⟩)
  clear hT
  go_enter Tryd.func9, Tryd.ntmps9
  go_wp2_with fail
  refine HN.out.mono ?_
  rintro e w1 ⟨gx, rfl, q1, q2⟩
  have H1 := hidJ (And.intro q1 q2)
  clear HN q1 q2
  have HP1 : Hid (∀ C, C = (Obj.cells #[.string ⟨#[97]⟩, .string ⟨#[49]⟩] 63) → Calls Tryd.prog 17 #[.pointer (some ⟨gx, 0, none⟩), .int .i64 10, .agg #[.slice (some ⟨w1.heap.size, 0, none⟩) 1 1, .int .i64 0, .int .i64 0]] (w1.alloc C) fun e w' => e = .returned (.int .i64 0) ∧ Hid (∃ S, SetB w' S gx 100 5 [⟨laK, 10, 110⟩] ∧ RdL w' (.slice (some ⟨w1.heap.size, 0, none⟩) 1 1) laK ∧ ¬ S w1.heap.size ∧ (∀ k, S k → w.heap.size ≤ k) ∧ w.grownBy w' none)) := by
    rintro C rfl
    have k := World.grownBy_alloc w1 (.cells #[.string ⟨#[97]⟩, .string ⟨#[49]⟩] 63) none
    have hb := Go.heap_alloc_new w1 (.cells #[.string ⟨#[97]⟩, .string ⟨#[49]⟩] 63)
    have hrd : RdL (w1.alloc (.cells #[.string ⟨#[97]⟩, .string ⟨#[49]⟩] 63)) (.slice (some ⟨w1.heap.size, 0, none⟩) 1 1) laK := by
      refine ⟨some ⟨w1.heap.size, 0, none⟩, 1, rfl, by decide, by unfold maxLen; omega, fun j hj => ?_, fun h => by cases h⟩
      have hj0 : j = 0 := by simp [laK] at hj; exact hj
      subst hj0
      exact ⟨w1.heap.size, 0, rfl, by simp only [World.cell?, hb]; rfl, by simp only [World.cell?, hb]; rfl⟩
    have hp := setB_put _ _ gx 100 5 10 0 0 [] (.slice (some ⟨w1.heap.size, 0, none⟩) 1 1) laK (H1.out.1.keep k) hrd laK_in (HT.out.keep (gb_none H1.out.2 k))
    rw [laK_put1.1, laK_put1.2] at hp
    unfold alV at hp
    refine hp.mono ?_
    rintro e w' ⟨rfl, r1, r2⟩
    have hz := H1.out.2.size
    refine ⟨rfl, _, r1, hrd.ch r2 (fun x hx _ e => ?_), ?_, fun x hx => ?_, gb_ch (gb_none H1.out.2 k) r2 (fun x hx => hx.1)⟩
    · simp only [Value.ownBlock, Option.some.injEq] at hx
      omega
    · rintro (e | e)
      · omega
      · simp at e
        omega
    · rcases hx with hx | hx
      · exact hx.1
      · simp at hx
        omega
  go_wp2_with fail
  refine (HP1.out _ rfl).mono ?_
  rintro e w2 ⟨rfl, H2⟩
  clear HP1 H1
  have HP2 : Hid (Calls Tryd.prog 17 #[.pointer (some ⟨gx, 0, none⟩), .int .i64 50, .agg #[.slice (some ⟨w1.heap.size, 0, none⟩) 1 1, .int .i64 20, .int .i64 0]] w2 fun e w' => e = .returned (.int .i64 0) ∧ Hid (∃ S, SetB w' S gx 100 5 [⟨laK, 10, 150⟩] ∧ RdL w' (.slice (some ⟨w1.heap.size, 0, none⟩) 1 1) laK ∧ w.grownBy w' none)) := by
    obtain ⟨S, r1, r2, r3, r4, r5⟩ := H2.out
    have hp := setB_put w2 S gx 100 5 50 20 0 [⟨laK, 10, 110⟩] (.slice (some ⟨w1.heap.size, 0, none⟩) 1 1) laK r1 r2 laK_in (HT.out.keep r5)
    rw [laK_put2.1, laK_put2.2] at hp
    unfold alV at hp
    refine hp.mono ?_
    rintro e w' ⟨rfl, t1, t2⟩
    refine ⟨rfl, _, t1, r2.ch t2 (fun x hx _ e => ?_), gb_ch r5 t2 r4⟩
    simp only [Value.ownBlock, Option.some.injEq] at hx
    subst hx
    exact r3 e
  go_wp2_with fail
  refine HP2.out.mono ?_
  rintro e w3 ⟨rfl, H3⟩
  clear HP2 H2
  have HG : Hid (Calls Tryd.prog 16 #[.pointer (some ⟨gx, 0, none⟩), .slice (some ⟨w1.heap.size, 0, none⟩) 1 1] w3 fun e w' => ∃ a n c, e = .returned (.tuple #[.agg #[.slice a n c, .int .i64 10, .int .i64 150], .bool true]) ∧ Hid (∃ S, SetB w' S gx 100 5 [⟨laK, 10, 150⟩] ∧ w.grownBy w' none)) := by
    obtain ⟨S, r1, r2, r3⟩ := H3.out
    have hp := get_any w3 S gx 100 5 [⟨laK, 10, 150⟩] (.slice (some ⟨w1.heap.size, 0, none⟩) 1 1) laK r1.1 r2 laK_in (HT.out.keep r3)
    rw [laK_get.1, laK_get.2] at hp
    refine hp.mono ?_
    rintro e w' ⟨v', rfl, t1, t2⟩
    obtain ⟨a, c, rfl⟩ := t1.shape
    exact ⟨a, _, c, rfl, S, r1.keep t2, gb_none r3 t2⟩
  go_wp2_with fail
  refine HG.out.mono ?_
  rintro e w4 ⟨a4, n4, c4, rfl, H4⟩
  clear HG H3
  have HF1 : Hid (∀ C, Calls Tryd.prog 21 #[.pointer (some ⟨gx, 0, none⟩), .int .i64 149] (w4.alloc C) fun e w' => ∃ a c, e = .returned (.slice a 1 c) ∧ Hid (∃ S, SetB w' S gx 100 5 [⟨laK, 10, 150⟩] ∧ w.grownBy w' none)) := by
    intro C
    obtain ⟨S, r1, r3⟩ := H4.out
    have k := World.grownBy_alloc w4 C none
    refine (firing_any _ (.pointer (some ⟨gx, 0, none⟩)) 149 _ ⟨_, rfl⟩ (r1.keep k).ptr).mono ?_
    rintro e w' ⟨v', l, rfl, t1, t2, t3, t4⟩
    obtain ⟨a, c, rfl⟩ := t1.shape
    rw [laK_f1] at t2
    rw [len_of_map t2]
    exact ⟨a, c, rfl, S, (r1.keep k).keep t4, gb_none (gb_none r3 k) t4⟩
  have HF2 : Hid (∀ W, (∃ S, SetB W S gx 100 5 [⟨laK, 10, 150⟩] ∧ w.grownBy W none) → Calls Tryd.prog 21 #[.pointer (some ⟨gx, 0, none⟩), .int .i64 150] W fun e w' => ∃ a c, e = .returned (.slice a 0 c) ∧ Hid (w.grownBy w' none)) := by
    rintro W ⟨S, r1, r3⟩
    refine (firing_any _ (.pointer (some ⟨gx, 0, none⟩)) 150 _ ⟨_, rfl⟩ r1.ptr).mono ?_
    rintro e w' ⟨v', l, rfl, t1, t2, t3, t4⟩
    obtain ⟨a, c, rfl⟩ := t1.shape
    rw [laK_f2] at t2
    rw [len_of_map t2]
    exact ⟨a, c, rfl, gb_none r3 t4⟩
  go_wp2_with fail
  refine (HF1.out _).mono ?_
  rintro e w5 ⟨a5, c5, rfl, H5⟩
  clear HF1 H4
  go_wp2_with fail
  refine (HF2.out _ H5.out).mono ?_
  rintro e w6 ⟨a6, c6, rfl, H6⟩
  clear HF2 H5
  go_wp2
  go_ret
  exact ⟨rfl, H6.out⟩
end Go.Proofs.YtmgbcmogdjhacaaDoor
