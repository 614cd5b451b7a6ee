/-
  CkB7, CkB8, CkJa, in one text.
-/
import Derived.Test.YtkiefmhampfhoaaDoorGG
/- CkB7 -/
namespace Go.Proofs.YtkiefmhampfhoaaDoor
open Go.RowKit

/-- rows of bytes that are read -/
def RdBs (w : World) (v : Value) (K : Nat) (f : Nat → List UInt8) : Prop := ∃ a c, v = .slice a K c ∧ K ≤ c ∧ c ≤ maxLen ∧ ∀ j, j < K → ∃ b o ax nx cx, a = some ⟨b, o, none⟩ ∧ w.cell? ⟨b, o + j, none⟩ = some (.slice ax nx cx) ∧ Rd w (.slice ax nx cx) (f j)
theorem OwnBs.rd {w : World} {base K : Nat} {v : Value} {f : Nat → List UInt8} (h : OwnBs w base v K f) : RdBs w v K f := by
  obtain ⟨vals, h1, h2⟩ := h
  have hl := h1.1
  rcases h1.2 with ⟨e, e2⟩ | ⟨b, cap, cur, e, q1, q2, q3, q4, -⟩
  · exact ⟨none, 0, by rw [e, e2], by omega, by simp [maxLen], fun j hj => by omega⟩
  · refine ⟨some ⟨b, 0, none⟩, cap, e, q3, q4, fun j hj => ?_⟩
    obtain ⟨x, x1, x2⟩ := h2 j hj
    obtain ⟨ax, cx, rfl⟩ := x2.shape
    subst e
    have := World.ownsRow.cells h1 rfl j _ x1
    rw [Go.WideShapes.add_plain] at this
    exact ⟨b, 0, ax, _, cx, rfl, this, x2.rd⟩
theorem RdBs.keep {w w' : World} {v : Value} {K : Nat} {f : Nat → List UInt8} (h : RdBs w v K f) (hg : w.grownBy w' none) : RdBs w' v K f := by
  obtain ⟨a, c, e, h1, h2, h3⟩ := h
  refine ⟨a, c, e, h1, h2, fun j hj => ?_⟩
  obtain ⟨b, o, ax, nx, cx, q1, q2, q3⟩ := h3 j hj
  exact ⟨b, o, ax, nx, cx, q1, (World.cell?_of_block (hg.block b (block_lt q2) (by simp))).trans q2, q3.keep hg⟩
theorem take_piece (l : List SmpT) (j : Nat) : l.take (120 * (j + 1)) = l.take (120 * j) ++ pieceL l j := by
  unfold pieceL
  rw [show 120 * (j + 1) = 120 * j + 120 by omega, List.take_add]
theorem smC_app (l m : List SmpT) : smC (l ++ m) = smC l ++ smC m := by
  induction l with
  | nil => rfl
  | cons x l ih => simp [smC, ih]
/-- samples as the cells of an append -/
theorem RdP.cells {w : World} {a : Option Addr} {n c : Nat} {l : List SmpT} (h : RdP w (.slice a n c) l) : n = l.length ∧ (smC l).length = n * 2 ∧ RdC w a (smC l) ∧ ∀ u ∈ smC l, u.oneCell' = true := by
  obtain ⟨a', c', e, h1, h2, h3⟩ := h
  simp only [Value.slice.injEq] at e
  obtain ⟨rfl, rfl, rfl⟩ := e
  refine ⟨rfl, smC_len l, fun j u hu => ?_, fun u hu => ?_⟩
  · have hj : j < (smC l).length := (List.getElem?_eq_some_iff.1 hu).1
    rw [smC_len] at hj
    obtain ⟨b, o, e, c0, c1⟩ := h3 (j / 2) (by omega)
    refine ⟨_, e, ?_⟩
    rw [Go.WideShapes.add_plain]
    have hs := smC_at l (j / 2) (by omega)
    by_cases hp : j % 2 = 0
    · rw [show j = j / 2 * 2 by omega, hs.1] at hu
      rw [show j = j / 2 * 2 by omega, c0]
      exact hu
    · rw [show j = j / 2 * 2 + 1 by omega, hs.2] at hu
      rw [show o + j = o + j / 2 * 2 + 1 by omega, c1]
      exact hu
  · induction l with
    | nil => cases hu
    | cons x l ih =>
      clear ih
      obtain ⟨j, hj⟩ := List.getElem?_of_mem hu
      have hjl : j < (smC (x :: l)).length := (List.getElem?_eq_some_iff.1 hj).1
      rw [smC_len] at hjl
      have hs := smC_at (x :: l) (j / 2) (by omega)
      by_cases hp : j % 2 = 0
      · rw [show j = j / 2 * 2 by omega, hs.1] at hj
        cases hj
        rfl
      · rw [show j = j / 2 * 2 + 1 by omega, hs.2] at hj
        cases hj
        rfl

set_option maxRecDepth 8000 in
set_option maxHeartbeats 3200000 in
theorem ckJoin_split (w : World) (v : Value) (K : Nat) (l : List SmpT) (hv : RdBs w v K (fun j => ckB (pieceL l j))) (hin : SmIn l) (hr : RisOk l) (hT : Tk w) (hK1 : l.length ≤ 120 * K) (hK2 : 120 * K < l.length + 120) (hl : l.length ≤ 2000) :
    Calls Tryd.prog 30 #[v] w fun e w' => ∃ v', e = .returned (.tuple #[v', .int .i64 0, .int .i64 0]) ∧ RdP w' v' l ∧ w.grownBy w' none := by
  have HV := hidJ (And.intro hv (And.intro hin (And.intro hr hT)))
  obtain ⟨a, c, rfl, hKc, hcm, -⟩ := hv
  have hcm' : c ≤ 9223372036854775807 := hcm
  obtain ⟨N, hN⟩ : ∃ N, l.length = N := ⟨_, rfl⟩
  have HN := hidJ hN
  rw [hN] at hK1 hK2 hl
  clear hN hin hr hT hcm
  go_enter Tryd.func30, Tryd.ntmps30
  go_wp2_with fail
  go_loopw [5, 12] (fun vA i wr => ∃ z : Nat, z ≤ K ∧ i = .int .i64 z ∧ ∃ aA cA nA, vA = .slice aA nA cA ∧ nA = min (120 * z) N ∧ Hid (wr.ownsRow w.heap.size 27 2 vA nA (smC (l.take (120 * z))) ∧ w.grownBy wr none)) (fun _ i _ => K - (intOf i).toNat)
  case atStart => exact ⟨0, by omega, rfl, none, 0, 0, rfl, by omega, World.ownsRow_nil _ _ _ _, gb_refl _ _⟩
  case round =>
    obtain ⟨z, hz, rfl, aA, cA, nA, rfl, hnA, hP⟩ := hrel
    by_cases hlt : z < K
    · have hzi : (z : Int) < (K : Int) := by omega
      have hzN : 120 * z < N := by omega
      have hnz : nA = 120 * z := by omega
      obtain ⟨a', c', he, -, -, hc⟩ := HV.out.1.keep hP.out.2
      simp only [Value.slice.injEq] at he
      obtain ⟨rfl, -, rfl⟩ := he
      obtain ⟨b, o, ax, nx, cx, rfl, y0, y1⟩ := hc z hlt
      have hzl : 120 * z < l.length := by rw [HN.out]; exact hzN
      have hpk := piece_ok HV.out.2.1 HV.out.2.2.1 z hzl
      have HDc := hidJ (decode_ok wr _ (pieceL l z) hpk.1 y1 (HV.out.2.2.2.keep hP.out.2))
      have HP := hidJ (And.intro hP.out.1 (And.intro hP.out.2 (And.intro hpk.2 hnA)))
      obtain ⟨i0, hi, hz0, hz1, hz2⟩ := info_parts infoSm
      have HI : Hid (Tryd.prog.info? 27 = some i0 ∧ i0.zero = some (.agg #[.int .i64 0, .float .f64 0]) ∧ i0.size = 2 ∧ i0.bytes = 16) := ⟨hi, hz0, hz1, hz2⟩
      clear hi hz0 hz1 hz2 hc y1 hpk hP
      go_wp2_with fail
      refine HDc.out.mono ?_
      rintro e w2 ⟨v2, rfl, hr2, hg2⟩
      obtain ⟨a2, c2, rfl, hc21, hc22, hr3⟩ := id hr2
      have hcel := hr2.cells
      obtain ⟨n2, hn2⟩ : ∃ n2, (pieceL l z).length = n2 := ⟨_, rfl⟩
      rw [hn2] at hr2 hr3 hcel hc21 ⊢
      have hn2v : n2 = min 120 (N - 120 * z) := by rw [← hn2, HP.out.2.2.1, HN.out]
      obtain ⟨b2, o2, rfl, t0, -⟩ := hr3 0 (by omega)
      rw [Nat.zero_mul, Nat.add_zero] at t0
      have et : ((pieceL l z).getD 0 smZ).1 = (l.getD (120 * z) smZ).1 := by unfold pieceL; rw [getD_take (by omega), getD_drop, Nat.add_zero]
      rw [et] at t0
      have H2 : Hid (w2.ownsRow w.heap.size 27 2 (.slice aA nA cA) nA (smC (l.take (120 * z))) ∧ wr.grownBy w2 none ∧ w.grownBy w2 none ∧ (n2 = min 120 (N - 120 * z) ∧ nA = 120 * z ∧ 120 * z < N ∧ N ≤ 2000) ∧ (smC (pieceL l z)).length = n2 * 2 ∧ RdC w2 (some ⟨b2, o2, none⟩) (smC (pieceL l z)) ∧ ∀ u ∈ smC (pieceL l z), u.oneCell' = true) := by
        refine ⟨?_, hg2, gb_none HP.out.2.1 hg2, ⟨hn2v, hnz, hzN, hl⟩, hcel.2.1, hcel.2.2.1, hcel.2.2.2⟩
        exact World.ownsRow.kept HP.out.1 hg2 (by cases h : (Value.slice aA nA cA).ownBlock with | none => exact .inl rfl | some q => exact .inr (by simp))
      have hc22' : c2 ≤ 9223372036854775807 := hc22
      have hn2p : 0 < n2 := by omega
      have hn2i : (0 : Int) < (n2 : Int) := by omega
      have hd2 : decide (0 < n2) = true := decide_eq_true hn2p
      clear hr2 hr3 hcel et hn2 hn2v hg2 HDc hc22
      by_cases hz0 : z = 0
      · as_aux_lemma =>
          have hnA0 : ¬ (0 : Int) < (nA : Int) := by omega
          have hdA : decide (0 < nA) = false := decide_eq_false (by omega)
          clear hnz hnA hz0
          go_wp2
          go_quiet (fail)
          go_wp2_with (at_builtin; refine wp_appG rfl _ _ 22 27 rfl i0 _ 2 16 w.heap.size Tryd.underlying22 HI.out.1 HI.out.2.1 HI.out.2.2.1 HI.out.2.2.2 rfl (by decide) (by decide) _ nA (smC (l.take (120 * z))) (some ⟨b2, o2, none⟩) n2 c2 (smC (pieceL l z)) rfl rfl (row_ch H2.out.1 (Ch.of_gb (S := fun _ => False) (gb_drewN _ _) (fun k hk => by cases hk)) (fun _ _ e => e)) ?a1A ?a2A ?a3A ?a4A ?a5A ?a6A ?_)
          case a1A => exact H2.out.2.2.2.2.1
          case a2A => exact fun j u hu => by obtain ⟨ad, e, q⟩ := H2.out.2.2.2.2.2.1 j u hu; exact ⟨ad, e, q⟩
          case a3A => intro h; cases h
          case a4A => exact H2.out.2.2.2.2.2.2
          case a5A => have := H2.out; omega
          case a6A => have := H2.out.2.2.1.size; simpa using this
          intro v3 w3 ho3 hf3
          have H3 : Hid (∃ a3 c3, v3 = .slice a3 (nA + n2) c3 ∧ w3.ownsRow w.heap.size 27 2 v3 (nA + n2) (smC (l.take (120 * (z + 1)))) ∧ w.grownBy w3 none) := by
            have hw3 : w.grownBy w3 none := hf3.new (gb_none H2.out.2.2.1 (gb_drewN _ _)) (fun k hk => (World.ownsRow.lt H2.out.1 k hk).1)
            rw [take_piece, smC_app]
            rcases ho3.2 with ⟨e, e2⟩ | ⟨b, cap, cur, e, -⟩
            · exact ⟨none, 0, by rw [e, e2], ho3, hw3⟩
            · exact ⟨_, _, e, ho3, hw3⟩
          obtain ⟨a3, c3, rfl, H3b⟩ := H3.out
          have H4 := hidJ H3b
          clear ho3 hf3 H3 H3b
          go_wp2
          go_roundw
          case rel => exact ⟨z + 1, by omega, by go_num, a3, c3, nA + n2, rfl, by have := H2.out; omega, H4.out⟩
          case measure => simp [intOf]; omega

      · as_aux_lemma =>
          have hnA0 : (0 : Int) < (nA : Int) := by omega
          have hdA : decide (0 < nA) = true := decide_eq_true (by omega)
          obtain ⟨bA, eA⟩ : ∃ bA, aA = some ⟨bA, 0, none⟩ := by
            rcases H2.out.1.2 with ⟨e, e2⟩ | ⟨bA, cap, cur, e, -⟩
            · omega
            · simp only [Value.slice.injEq] at e
              exact ⟨bA, e.1⟩
          subst eA
          obtain ⟨m, hm⟩ : ∃ m, nA = m + 1 := ⟨nA - 1, by omega⟩
          have hlast : w2.cell? ⟨bA, m * 2, none⟩ = some (.int .i64 (l.getD m smZ).1) := by
            have hmt : m < (l.take (120 * z)).length := by rw [List.length_take, HN.out]; omega
            have := World.ownsRow.cells H2.out.1 rfl (m * 2) _ (smC_at _ m hmt).1
            rw [Go.WideShapes.add_plain, Nat.zero_add, getD_take (by omega)] at this
            exact this
          have hris := (risC_ok (HV.out.2.2.1 (120 * z) hzl)).2
          rw [show 120 * z - 1 = m by omega] at hris
          have hgt : (l.getD m smZ).1 < (l.getD (120 * z) smZ).1 := by rcases hris with h | h; omega; exact h
          have hmi : (nA : Int) - 1 = (m : Int) := by omega
          have hmA : (m : Int) < (nA : Int) := by omega
          have hm0 : (0 : Int) ≤ (m : Int) := by omega
          have hwm : IntKind.i64.wrap (m : Int) = (m : Int) := by rw [i64wrap_eq, wrap64_id (by omega) (by omega)]
          clear hris hm hnz hnA hz0
          generalize (l.getD m smZ).1 = tl at *
          generalize (l.getD (120 * z) smZ).1 = tf at *
          have hnle : ¬ tf ≤ tl := by omega
          go_wp2
          go_quiet (fail)
          go_wp2_with (at_builtin; refine wp_appG rfl _ _ 22 27 rfl i0 _ 2 16 w.heap.size Tryd.underlying22 HI.out.1 HI.out.2.1 HI.out.2.2.1 HI.out.2.2.2 rfl (by decide) (by decide) _ nA (smC (l.take (120 * z))) (some ⟨b2, o2, none⟩) n2 c2 (smC (pieceL l z)) rfl rfl (row_ch H2.out.1 (Ch.of_gb (S := fun _ => False) (gb_drewN _ _) (fun k hk => by cases hk)) (fun _ _ e => e)) ?a1B ?a2B ?a3B ?a4B ?a5B ?a6B ?_)
          case a1B => exact H2.out.2.2.2.2.1
          case a2B => exact fun j u hu => by obtain ⟨ad, e, q⟩ := H2.out.2.2.2.2.2.1 j u hu; exact ⟨ad, e, q⟩
          case a3B => intro h; cases h
          case a4B => exact H2.out.2.2.2.2.2.2
          case a5B => have := H2.out; omega
          case a6B => have := H2.out.2.2.1.size; simpa using this
          intro v3 w3 ho3 hf3
          have H3 : Hid (∃ a3 c3, v3 = .slice a3 (nA + n2) c3 ∧ w3.ownsRow w.heap.size 27 2 v3 (nA + n2) (smC (l.take (120 * (z + 1)))) ∧ w.grownBy w3 none) := by
            have hw3 : w.grownBy w3 none := hf3.new (gb_none H2.out.2.2.1 (gb_drewN _ _)) (fun k hk => (World.ownsRow.lt H2.out.1 k hk).1)
            rw [take_piece, smC_app]
            rcases ho3.2 with ⟨e, e2⟩ | ⟨b, cap, cur, e, -⟩
            · exact ⟨none, 0, by rw [e, e2], ho3, hw3⟩
            · exact ⟨_, _, e, ho3, hw3⟩
          obtain ⟨a3, c3, rfl, H3b⟩ := H3.out
          have H4 := hidJ H3b
          clear ho3 hf3 H3 H3b
          go_wp2
          go_roundw
          case rel => exact ⟨z + 1, by omega, by go_num, a3, c3, nA + n2, rfl, by have := H2.out; omega, H4.out⟩
          case measure => simp [intOf]; omega

    · have hzi : ¬ (z : Int) < (K : Int) := by omega
      have hze : z = K := by omega
      subst hze
      have hnN : nA = N := by omega
      have HE : Hid (RdP wr (.slice aA nA cA) l ∧ w.grownBy wr none) := by
        have h := hP.out.1
        have e : l.take (120 * z) = l := List.take_of_length_le (by rw [HN.out]; omega)
        rw [e] at h
        refine ⟨RdP.of_row (B := w.heap.size) ?_, hP.out.2⟩
        rw [HN.out, ← hnN]
        exact h
      clear hP hnA hnN
      go_wp2
      go_ret3
      exact ⟨_, rfl, HE.out⟩
end Go.Proofs.YtkiefmhampfhoaaDoor

/- CkB8 -/
namespace Go.Proofs.YtkiefmhampfhoaaDoor
open Go.RowKit

theorem okL_in {k : List SmpT} (h : okL startP k) : SmIn k := by
  intro x hx
  obtain ⟨l1, l2, rfl⟩ := List.append_of_mem hx
  have h1 := okL_app.1 h
  have := wrongN_ok h1.2.1 (stA_ok startOk h1.1).most
  exact ⟨by omega, h1.2.2.1⟩
theorem RdP.begin {w : World} {a : Option Addr} {c : Nat} {l : List SmpT} (h : RdP w (.slice a l.length c) l) (n : Nat) (hn : n ≤ l.length) : RdP w (.slice a n c) (l.take n) := by
  obtain ⟨a', c', e, h1, h2, h3⟩ := h
  simp only [Value.slice.injEq, true_and] at e
  obtain ⟨rfl, rfl⟩ := e
  have hl : (l.take n).length = n := by rw [List.length_take]; omega
  refine ⟨a, c, by rw [hl], by omega, h2, fun j hj => ?_⟩
  rw [hl] at hj
  obtain ⟨b, o, q, c0, c1⟩ := h3 j (by omega)
  rw [getD_take hj]
  exact ⟨b, o, q, c0, c1⟩
/-- what Encode answers: bytes X and an error z -/
def EncU (l : List SmpT) (w : World) (x : Value) (z : Int) (X : List UInt8) : Prop := Rd w x X ∧ (z = 0 → okL startP l ∧ X = ckB l) ∧ (okL startP l → z = 0)
theorem EncU.keep {l : List SmpT} {w w' : World} {x : Value} {z : Int} {X : List UInt8} (h : EncU l w x z X) (hg : w.grownBy w' none) : EncU l w' x z X := ⟨h.1.keep hg, h.2⟩
theorem enc_uni (w : World) (v : Value) (l : List SmpT) (hv : RdP w v l) (hl : SmIn l) (hT : Tk w) :
    Calls Tryd.prog 20 #[v] w fun e w' => ∃ x z i X, e = .returned (.tuple #[x, .int .i64 z, .int .i64 i]) ∧ EncU l w' x z X ∧ w.grownBy w' none := by
  refine (ckEncode_any w v l hv hl hT).mono ?_
  rintro e w' ⟨⟨h1, v', rfl, ho⟩ | ⟨z, h1, h2, h3, rfl⟩, hg⟩
  · exact ⟨_, _, _, _, rfl, ⟨ho.rd, fun _ => ⟨h1, rfl⟩, fun _ => rfl⟩, hg⟩
  · refine ⟨_, _, _, [], rfl, ⟨Rd.nil _, fun h => absurd h h3, fun h => ?_⟩, hg⟩
    exfalso
    apply h3
    rw [← List.take_append_drop z l, okL_app] at h
    have hd : l.drop z = l.getD z smZ :: l.drop (z + 1) := by rw [List.drop_eq_getElem_cons h1]; simp [h1]
    rw [hd] at h
    exact h.2.1
/-- what Decode answers: samples k and an error z -/
def DecU (b : List UInt8) (w : World) (x : Value) (z : Int) (k : List SmpT) : Prop := z = 0 → okL startP k ∧ b = ckB k ∧ RdP w x k
theorem dec_uni (w : World) (v : Value) (b : List UInt8) (hv : Rd w v b) (hb : b.length < 281474976710656) (hT : Tk w) :
    Calls Tryd.prog 23 #[v] w fun e w' => ∃ x z k, e = .returned (.tuple #[x, .int .i64 z]) ∧ DecU b w' x z k ∧ w.grownBy w' none := by
  refine (decode_two w v b hv hb hT).mono ?_
  rintro e w' ⟨⟨l, v', rfl, h1, h2, h3⟩ | ⟨rfl, h⟩, hg⟩
  · exact ⟨_, _, l, rfl, fun _ => ⟨h1, h2, h3⟩, hg⟩
  · exact ⟨_, _, [], rfl, fun h => absurd h (by omega), hg⟩
end Go.Proofs.YtkiefmhampfhoaaDoor

/- CkJa -/
namespace Go.Proofs.YtkiefmhampfhoaaDoor
open Go.RowKit

open Classical in
/-- the samples of a chunk's bytes -/
noncomputable def decW (b : List UInt8) : Option (List SmpT) := if h : ∃ l, okL startP l ∧ b = ckB l then some h.choose else none
theorem decW_some {l : List SmpT} (h : okL startP l) : decW (ckB l) = some l := by
  unfold decW
  have hh : ∃ l', okL startP l' ∧ ckB l = ckB l' := ⟨l, h, rfl⟩
  rw [dif_pos hh]
  exact congrArg some (ckB_inj hh.choose_spec.1 h hh.choose_spec.2.symm)
theorem decW_none {b : List UInt8} (h : ∀ m, okL startP m → b ≠ ckB m) : decW b = none := by
  unfold decW
  rw [dif_neg]
  rintro ⟨l, h1, h2⟩
  exact h l h1 h2
/-- is what comes older? -/
def oldJ (out x : List SmpT) : Prop := 0 < x.length ∧ 0 < out.length ∧ (x.getD 0 smZ).1 ≤ (out.getD (out.length - 1) smZ).1
instance (out x : List SmpT) : Decidable (oldJ out x) := by unfold oldJ; exact inferInstance
noncomputable def joinR (f : Nat → List UInt8) : Nat → List SmpT × Int × Int
  | 0 => ([], 0, 0)
  | k + 1 => if (joinR f k).2.1 ≠ 0 then joinR f k else match decW (f k) with
    | none => ([], 3, (k : Int))
    | some x => if oldJ (joinR f k).1 x then ([], 90, (k : Int)) else ((joinR f k).1 ++ x, 0, 0)
section
variable {f : Nat → List UInt8} {z : Nat}
theorem joinR_none (h : (joinR f z).2.1 = 0) (hd : decW (f z) = none) : joinR f (z + 1) = ([], 3, (z : Int)) := by
  simp only [joinR, hd]
  rw [if_neg (by rw [h]; simp)]
theorem joinR_old (h : (joinR f z).2.1 = 0) {x : List SmpT} (hd : decW (f z) = some x) (ho : oldJ (joinR f z).1 x) : joinR f (z + 1) = ([], 90, (z : Int)) := by
  simp only [joinR, hd]
  rw [if_neg (by rw [h]; simp), if_pos ho]
theorem joinR_ok (h : (joinR f z).2.1 = 0) {x : List SmpT} (hd : decW (f z) = some x) (ho : ¬ oldJ (joinR f z).1 x) : joinR f (z + 1) = ((joinR f z).1 ++ x, 0, 0) := by
  simp only [joinR, hd]
  rw [if_neg (by rw [h]; simp), if_neg ho]
theorem joinR_fix (h : (joinR f z).2.1 ≠ 0) : ∀ k, joinR f (z + k) = joinR f z := by
  intro k
  induction k with
  | zero => rfl
  | succ k ih =>
    rw [← Nat.add_assoc]
    have e : joinR f (z + k + 1) = if (joinR f (z + k)).2.1 ≠ 0 then joinR f (z + k) else match decW (f (z + k)) with
      | none => ([], 3, ((z + k : Nat) : Int))
      | some x => if oldJ (joinR f (z + k)).1 x then ([], 90, ((z + k : Nat) : Int)) else ((joinR f (z + k)).1 ++ x, 0, 0) := rfl
    rw [e, ih, if_pos h]
theorem joinR_end {K : Nat} {q : Int} (hq : q ≠ 0) (h : joinR f (z + 1) = ([], q, (z : Int))) (hz : z < K) : joinR f K = ([], q, (z : Int)) := by
  have := joinR_fix (f := f) (z := z + 1) (by rw [h]; exact hq) (K - (z + 1))
  rw [show z + 1 + (K - (z + 1)) = K by omega] at this
  rw [this, h]
end
/-- what Join answers -/
def JnP (f : Nat → List UInt8) (K : Nat) (w w' : World) (e : Ending) : Prop := ∃ v', e = .returned (.tuple #[v', .int .i64 (joinR f K).2.1, .int .i64 (joinR f K).2.2]) ∧ RdP w' v' (joinR f K).1 ∧ w.grownBy w' none
theorem RdP.nil (w : World) : RdP w (.slice none 0 0) [] := ⟨none, 0, rfl, Nat.le_refl _, by simp [maxLen], fun j hj => absurd hj (by simp)⟩
theorem JnP.fail {f : Nat → List UInt8} {z K : Nat} {q : Int} {w w' : World} (hq : q ≠ 0) (h : joinR f (z + 1) = ([], q, (z : Int))) (hz : z < K) (hg : w.grownBy w' none) : JnP f K w w' (.returned (.tuple #[.slice none 0 0, .int .i64 q, .int .i64 (z : Int)])) := by
  have e := joinR_end hq h hz
  unfold JnP
  rw [e]
  exact ⟨_, rfl, RdP.nil _, hg⟩

/-- samples behind samples -/
theorem run_appP (w : World) (base n m : Nat) (v : Value) (out x : List SmpT) (hown : w.ownsRow base 27 2 v n (smC out)) (a : Option Addr) (c : Nat) (hx : RdP w (.slice a m c) x) (hsz : n + m ≤ 4194304) (hb : base ≤ w.heap.size) :
    ∃ a2 c2 w', (Builtin.append_ #[22, 22] 22 #[v, .slice a m c]).run Tryd.prog w = .ok (.slice a2 (n + m) c2) w' ∧ w'.ownsRow base 27 2 (.slice a2 (n + m) c2) (n + m) (smC (out ++ x)) ∧ Fr w w' v (.slice a2 (n + m) c2) := by
  obtain ⟨i0, hi, hz0, hz1, hz2⟩ := info_parts infoSm
  obtain ⟨e1, e2, e3, e4⟩ := hx.cells
  have key : ∃ v' w', (Builtin.append_ #[22, 22] 22 #[v, .slice a m c]).run Tryd.prog w = .ok v' w' ∧ w'.ownsRow base 27 2 v' (n + m) (smC out ++ smC x) ∧ Fr w w' v v' := by
    cases a with
    | some ad => exact run_appG w 22 22 27 i0 _ 2 16 base Tryd.underlying22 hi hz0 hz1 hz2 rfl (by decide) (by decide) v n (smC out) hown (some ad) m c (smC x) e2 e3 (fun h => by cases h) e4 hsz hb
    | none =>
      have hm : x = [] := by
        cases x with
        | nil => rfl
        | cons y x =>
          obtain ⟨a', c', e, -, -, h3⟩ := hx
          simp only [Value.slice.injEq] at e
          obtain ⟨b, o, q, -⟩ := h3 0 (by simp)
          rw [← e.1] at q
          cases q
      subst hm
      simp only [List.length_nil] at e1
      subst e1
      refine ⟨v, w, ?_, by simpa [smC] using hown, Fr.refl _ _⟩
      have ht : Tryd.prog.underlying 22 = some (.slice 27) := Tryd.underlying22
      rcases hown.2 with ⟨rfl, rfl⟩ | ⟨g, cap, cur, rfl, _, _, hnc, _⟩
      · simp [Builtin.append_, run_underlying ht, sizeOf, typeInfo, hi, Builtin.lenOf, Builtin.firstCells]
      · simp [Builtin.append_, run_underlying ht, sizeOf, typeInfo, hi, Builtin.lenOf, Builtin.firstCells, hnc, storeCells]
  obtain ⟨v', w', r1, r2, r3⟩ := key
  rw [← smC_app] at r2
  rcases r2.2 with ⟨e, e2⟩ | ⟨b, cap, cur, e, -⟩
  · refine ⟨none, 0, w', ?_, ?_, ?_⟩
    · rw [e2, ← e]; exact r1
    · rw [e2] at r2 ⊢; rw [← e]; exact r2
    · rw [e2, ← e]; exact r3
  · exact ⟨_, _, w', by rw [← e]; exact r1, by rw [← e]; exact r2, by rw [← e]; exact r3⟩
end Go.Proofs.YtkiefmhampfhoaaDoor
