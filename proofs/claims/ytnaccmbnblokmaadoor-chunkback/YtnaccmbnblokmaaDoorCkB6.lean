/-
  Split, of at most 2000 samples: the walk.
-/
import Derived.Test.YtnaccmbnblokmaaDoorCkB5
namespace Go.Proofs.YtnaccmbnblokmaaDoor
open Go.RowKit Go.Shelf

attribute [local go_sem] Oper.semAt_some

/-- rows of bytes that the call made -/
def OwnBs (w : World) (base : Nat) (v : Value) (K : Nat) (f : Nat → List UInt8) : Prop := ∃ vals, w.ownsRow base 36 1 v K vals ∧ ∀ j, j < K → ∃ x, vals[j]? = some x ∧ Own w base x (f j)
theorem rowB_mono {w : World} {base base' n : Nat} {v : Value} {xs : List Value} (h : w.ownsRow base 36 1 v n xs) (hb : base' ≤ base) : w.ownsRow base' 36 1 v n xs := by
  obtain ⟨h1, h2⟩ := h
  refine ⟨h1, ?_⟩
  rcases h2 with h2 | ⟨g, cap, cur, hv, hg, r⟩
  · exact .inl h2
  · exact .inr ⟨g, cap, cur, hv, by omega, r⟩
/-- what Split answers -/
def SpA (l : List SmpT) (w w' : World) (e : Ending) : Prop :=
  (RisOk l ∧ ∃ v' K, l.length ≤ 120 * K ∧ 120 * K < l.length + 120 ∧ e = .returned (.tuple #[v', .int .i64 0, .int .i64 0]) ∧ OwnBs w' w.heap.size v' K (fun j => ckB (pieceL l j))) ∨
  (∃ z, z < l.length ∧ risC l z ≠ 0 ∧ (∀ j, j < z → risC l j = 0) ∧ e = .returned (.tuple #[.slice none 0 0, .int .i64 (risC l z), .int .i64 (z : Int)]))

set_option maxRecDepth 100000 in
set_option maxHeartbeats 6400000 in
theorem ckSplit_in (n : Nat) (hn : 8 ≤ n) (w : World) (v : Value) (l : List SmpT) (hr : RdP w v l) (hin : SmIn l) (hT : Tk w) (hl : l.length ≤ 2000) :
    CallsIn Fence.wide n Tryd.prog 28 #[v] w fun e w' => SpA l w w' e ∧ w.grownBy w' none := by
  have h1 : 1 ≤ n := by omega
  have HV := hidJ (And.intro hr (And.intro hin hT))
  have HRi := hidJ (rising_any w v l hr)
  obtain ⟨a, c, rfl, hlc, hcm, hrd⟩ := hr
  obtain ⟨N, hN⟩ : ∃ N, l.length = N := ⟨_, rfl⟩
  have HN : Hid (l.length = N) := hN
  have ha : ∃ b o, 0 < N → a = some ⟨b, o, none⟩ := by
    by_cases h : 0 < N
    · obtain ⟨b, o, e, -⟩ := hrd 0 (by omega)
      exact ⟨b, o, fun _ => e⟩
    · exact ⟨0, 0, fun h' => absurd h' h⟩
  obtain ⟨b, o, ha⟩ := ha
  have HA := hidJ ha
  rw [hN] at hlc hl HRi
  rw [hN]
  clear hN hrd hT hin ha
  refine callsIn_of_wp_marks Tryd.func28 rfl trivial ?_ rfl
  simp only [Tryd.ntmps28, List.size_toArray, List.length_cons, List.length_nil, Nat.reduceAdd, Nat.reduceSub, Array.replicate_succ, Array.replicate_zero, List.push_toArray, List.append_toArray, List.nil_append, List.cons_append]
  gi_wp2_with fail
  refine ⟨trivial, ?_⟩
  gi_at_call 48
  refine (callsIn_wide.2 HRi.out).mono ?_
  rintro e w1 ⟨hri, hg1⟩
  have HG1 := hidJ hg1
  clear hg1 HRi
  rcases hri with ⟨hok, rfl⟩ | ⟨z, hz, hne, hfirst, rfl⟩
  · have HOK := hidJ hok
    clear hok
    gi_wp2_with fail
    refine ⟨trivial, ?_⟩
    gi_at_call 49
    refine (callsIn_wide.2 (slChunk_any a N c _)).mono ?_
    rintro e w2 ⟨rfl, rfl⟩
    have H2 : Hid (∀ W0, W0 = ((w1.alloc (.cells #[.slice none 0 0] 51)).alloc (.cells #[.slice a N c] 22)).alloc (.cells #[.int .i64 120] 3) → w.grownBy W0 none ∧ W0.heap.size = w1.heap.size + 3 ∧ w.heap.size ≤ w1.heap.size ∧ Boxed W0 w1.heap.size 51 (.slice none 0 0) ∧ Boxed W0 (w1.heap.size + 1) 22 (.slice a N c) ∧ Boxed W0 (w1.heap.size + 2) 3 (.int .i64 120)) := by
      rintro W0 rfl
      have k1 := alloc_gb w1 (.cells #[.slice none 0 0] 51)
      have k2 := alloc_gb (w1.alloc (.cells #[.slice none 0 0] 51)) (.cells #[.slice a N c] 22)
      have k3 := alloc_gb ((w1.alloc (.cells #[.slice none 0 0] 51)).alloc (.cells #[.slice a N c] 22)) (.cells #[.int .i64 120] 3)
      have y1 := ((Boxed.new w1 51 (.slice none 0 0)).alloc (.cells #[.slice a N c] 22)).alloc (.cells #[.int .i64 120] 3)
      have y2 := (Boxed.new (w1.alloc (.cells #[.slice none 0 0] 51)) 22 (.slice a N c)).alloc (.cells #[.int .i64 120] 3)
      have y3 := Boxed.new ((w1.alloc (.cells #[.slice none 0 0] 51)).alloc (.cells #[.slice a N c] 22)) 3 (.int .i64 120)
      simp only [World.size_alloc] at y2 y3
      exact ⟨gb_none HG1.out (gb_none (gb_none k1 k2) k3), by simp, HG1.out.size, y1, y2, y3⟩
    gi_wp2_with fail
    have H3 := H2.out _ rfl
    try rw [show w1.heap.size + 1 + 1 = w1.heap.size + 2 from rfl]
    generalize ((w1.alloc (.cells #[.slice none 0 0] 51)).alloc (.cells #[.slice a N c] 22)).alloc (.cells #[.int .i64 120] 3) = W0 at *
    clear H2 HG1
    generalize w1.heap.size = cb at *
    have H0 := hidJ H3
    clear H3
    refine range_ex rfl h1 (gf := 72) (lb := #[.pointer (some ⟨cb + 1, 0, none⟩), .pointer (some ⟨cb + 2, 0, none⟩)]) rfl trivial (enters_of Tryd.func72 (by kernel_rfl) rfl) ?_
    intro rc hfn hrd hpe hps htm has hbo
    rw [H0.out.2.1, show cb + 3 + 1 = cb + 4 from rfl]
    have HS : Hid (SpJ w cb rc l (.slice a N c) 0 ((W0.alloc (.deferred (some []))).alloc (.loop rc))) := by
      obtain ⟨q1, q2, q3, q4, q5, q6⟩ := H0.out
      have k1 := alloc_gb W0 (.deferred (some []))
      have k2 := alloc_gb (W0.alloc (.deferred (some []))) (.loop rc)
      have kk := gb_none k1 k2
      have e1 := World.alloc_heap_new W0 (.deferred (some []))
      have e2 := World.alloc_heap_new (W0.alloc (.deferred (some []))) (.loop rc)
      rw [World.size_alloc] at e2
      rw [q2] at e1 e2
      exact ⟨gb_none q1 kk, ⟨q3, by simp [q2]⟩, q5.kept kk (by simp), q6.kept kk (by simp), (k2.block _ (by simp [q2]) (by simp)).trans e1, e2, .slice none 0 0, [], q4.kept kk (by simp), World.ownsRow_nil _ _ _ _, fun j hj => by omega⟩
    generalize (W0.alloc (.deferred (some []))).alloc (.loop rc) = Ws at *
    refine CallsIn.mono (slChunk1_on (n - 1) (by omega) (cb + 4) (cb + 1) (cb + 2) b o N c a HA.out (SpJ w cb rc l (.slice a N c)) Ws (by omega) hlc hcm ?hJr ?hJd ?hY HS.out) ?post
    case hJr => exact fun k W hj => ⟨hj.bs.cell, hj.bn.cell⟩
    case hJd => exact fun k W hj => hj.keep (gb_drew _ _)
    case hY =>
      intro k W hk hj
      refine YieldAt.mono (yield_ex (R := SpJ w cb rc l (.slice a N c) (k + 1)) (Rx := fun _ => False) has hbo hps htm hj.rcd hrd rfl hfn ?_) ?_
      · clear has hbo hps htm
        have hkl : 120 * k < l.length := by rw [HN.out]; exact hk
        have hk1 : k ≤ 1000 := by omega
        have HK := hidJ hj.rcd
        have hB := hj.put (rc' := { rc with state := .busy })
        have hpk := piece_ok HV.out.2.1 HOK.out k hkl
        have hrp : RdP w (.slice (some ⟨b, o + 120 * k * 2, none⟩) (min 120 (N - 120 * k)) (min 120 (N - 120 * k))) (pieceL l k) := by
          have h0 := HV.out.1
          rw [HA.out (by omega)] at h0
          have h2 := h0.piece k hkl
          rw [HN.out] at h2
          exact h2
        have hinp : SmIn (pieceL l k) := fun y hy => HV.out.2.1 y (List.mem_of_mem_drop (List.mem_of_mem_take hy))
        have HEn : Hid (Calls Tryd.prog 20 #[.slice (some ⟨b, o + 120 * k * 2, none⟩) (min 120 (N - 120 * k)) (min 120 (N - 120 * k))] (W.putObj (cb + 4) (.loop { rc with state := .busy })) fun e W3 => ∃ ax nx cx, e = .returned (.tuple #[.slice ax nx cx, .int .i64 0, .int .i64 0]) ∧ Own W3 (cb + 5) (.slice ax nx cx) (ckB (pieceL l k)) ∧ SpJ w cb { rc with state := .busy } l (.slice a N c) k W3) := by
          refine (ckEncode_any _ _ (pieceL l k) (hrp.keep hB.old) hinp (HV.out.2.2.keep hB.old)).mono ?_
          rintro e W3 ⟨hA, hg⟩
          rcases hA with ⟨-, v', he, ho⟩ | ⟨z, hz, -, hne, -⟩
          · obtain ⟨ax, cx, rfl⟩ := ho.shape
            exact ⟨ax, _, cx, he, ho.mono hB.place.2, hB.keep hg⟩
          · exfalso
            have hsp := okL_app (st := startP) (l := (pieceL l k).take z) (r := (pieceL l k).drop z)
            rw [List.take_append_drop] at hsp
            have h3 := (hsp.1 hpk.1).2
            have hd : (pieceL l k).drop z = (pieceL l k).getD z smZ :: (pieceL l k).drop (z + 1) := by
              rw [List.drop_eq_getElem_cons hz]
              simp [List.getD, hz]
            rw [hd] at h3
            exact hne h3.1
        have HX := hidJ (And.intro hrd hpe)
        clear hB hpk hrp hinp hj hrd hpe hfn hkl hk
        generalize min 120 (N - 120 * k) = pn at *
        gi_wp2
        refine ⟨HK.out, ?_⟩
        generalize W.putObj (cb + 4) (.loop { rc with state := .busy }) = Wb at *
        clear HK
        gi_wp2_with fail
        refine ⟨trivial, fun _ => by omega, ?_⟩
        refine (CallsIn.inRound _ (callsIn_wide.2 HEn.out)).mono ?_
        rintro e W3 ⟨ax, nx, cx, rfl, ho3, hj3⟩
        obtain ⟨aL, cL, a2, c2, W4, r1, r2, r3, r4, r5⟩ := hj3.more ax nx cx ho3 hk1
        have H5 := hidJ r5
        clear r5 ho3 hj3 HEn
        gi_wp2_with (gi_at_builtin; refine wpIn_appRun rfl _ _ 51 rfl _ _ _ rfl rfl r2 ?_)
        have hfin := H5.out
        refine ⟨hfin.rcd, ?_⟩
        have := hfin.put (rc' := { rc with state := .ready, pending := none })
        rw [ready_same HX.out.1 HX.out.2] at this ⊢
        exact this
      · rintro e W' (⟨h1, h2⟩ | ⟨-, h⟩)
        · exact ⟨h1, h2⟩
        · exact h.elim
    case post =>
      rintro e W' ⟨⟨x, rfl⟩, K, hK1, hK2, hj⟩
      refine ⟨⟨x, rfl⟩, .inl ⟨hj.rcd, ?_⟩⟩
      have hj7 := hj.put (rc' := { rc with state := .exhausted })
      clear has hbo hps htm hrd hpe hfn hj
      generalize W'.putObj (cb + 4) (.loop { rc with state := .exhausted }) = W7 at *
      obtain ⟨vC, vals, c3, c4, c5⟩ := hj7.row
      obtain ⟨aL, cL, rfl⟩ : ∃ a c, vC = .slice a K c := by
        rcases c4.2 with ⟨e, e2⟩ | ⟨b, cap, cur, e, -⟩
        · exact ⟨none, 0, by rw [e, e2]⟩
        · exact ⟨_, _, e⟩
      have z0 := c3.cell
      have HE := hidJ (And.intro hj7 (And.intro c4 (And.intro c5 (And.intro hK1 hK2))))
      clear hj7 c3 c4 c5
      gi_wp2
      obtain ⟨q1, q2, q3, q4, q5⟩ := HE.out
      have hp := q1.place
      have hc := putRec_ch W7 (cb + 3) (.deferred none)
      refine ⟨by simp, .inl ⟨_, _, rfl, run_takeDeferred q1.df, ?_⟩⟩
      refine ⟨_, results_tmp3 rfl _ _ _, .inl ⟨HOK.out, _, K, by rw [HN.out]; exact q4, by rw [HN.out]; exact q5, rfl, vals, rowB_mono (rowB_ch q2 hc (fun q hq e => ?_)) (by omega : w.heap.size ≤ cb + 5), fun j hj => ?_⟩, gb_ch q1.old hc (fun q e => by omega)⟩
      · have := (World.ownsRow.lt q2 q hq).1
        omega
      · obtain ⟨x, x1, x2⟩ := q3 j hj
        refine ⟨x, x1, (own_ch x2 hc (fun q hq e => ?_)).mono (by omega)⟩
        have := (x2.lt q hq).1
        omega
  · have HF := hidJ (And.intro hz (And.intro hne hfirst))
    obtain ⟨q, hq⟩ : ∃ q, risC l z = q := ⟨_, rfl⟩
    rw [hq] at hne ⊢
    have HQ := hidJ hq
    have hqb : (q == 0) = false := by rw [beq_eq_false_iff_ne]; exact hne
    have hqn : (q != 0) = true := by simp [hne]
    clear hq hz hfirst
    gi_wp2
    refine ⟨_, results_tmp3 rfl _ _ _, .inr ⟨z, by rw [HN.out]; exact HF.out.1, HF.out.2.1, HF.out.2.2, ?_⟩, HG1.out⟩
    rw [HQ.out]
    rfl
theorem ckSplit_any (w : World) (v : Value) (l : List SmpT) (hr : RdP w v l) (hin : SmIn l) (hT : Tk w) (hl : l.length ≤ 2000) :
    Calls Tryd.prog 28 #[v] w fun e w' => SpA l w w' e ∧ w.grownBy w' none := (callsIn_wide (n := 8)).1 (ckSplit_in 8 (Nat.le_refl _) w v l hr hin hT hl)
end Go.Proofs.YtnaccmbnblokmaaDoor
