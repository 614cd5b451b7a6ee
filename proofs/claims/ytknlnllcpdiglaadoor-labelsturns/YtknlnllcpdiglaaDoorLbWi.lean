/-
  A label set with another label, by the project: the walk.
-/
import Derived.Test.YtknlnllcpdiglaaDoorLbWf
import Derived.Deep.Slices
namespace Go.Proofs.YtknlnllcpdiglaaDoor
open Go.RowKit

theorem RdL.ahead {w : World} {a : Option Addr} {c : Nat} {ls : List LbT} (h : RdL w (.slice a ls.length c) ls) (p : Nat) : RdC w a (lbf (ls.take p)) := by
  have h1 := h.rdc
  intro j u hj
  refine h1 j u ?_
  rw [← List.take_append_drop p ls, lbf_append, List.getElem?_append_left (List.getElem?_eq_some_iff.1 hj).1]
  exact hj
/-- the names of one -/
theorem one_name (w : World) (nm : List UInt8) : RdN (w.alloc (.cells #[.string (ByteArray.mk ⟨nm⟩)] 9)) (.slice (some ⟨w.heap.size, 0, none⟩) 1 1) [nm] := by
  refine ⟨some ⟨w.heap.size, 0, none⟩, 1, rfl, by simp, by simp [maxLen], fun j hj => ⟨w.heap.size, 0, rfl, ?_⟩, fun h => by cases h⟩
  have hj0 : j = 0 := by simp at hj; exact hj
  subst hj0
  have ha := Go.heap_alloc_new w (.cells #[.string (ByteArray.mk ⟨nm⟩)] 9)
  rw [World.cell?, ha]
  rfl
/-- where a slice's end begins -/
def tailA (a : Option Addr) (c q : Nat) : Option Addr := if c = q then a else a.map (·.add (q * 2))
theorem RdL.behind {w : World} {a : Option Addr} {c : Nat} {ls : List LbT} (h : RdL w (.slice a ls.length c) ls) (q : Nat) (hq : q ≤ ls.length) : RdC w (tailA a c q) (lbf (ls.drop q)) := by
  have h1 := h.rdc
  intro j u hj
  have hjl := (List.getElem?_eq_some_iff.1 hj).1
  rw [lbf_len, List.length_drop] at hjl
  have hlen : (lbf (ls.take q)).length = q * 2 := by rw [lbf_len, List.length_take, Nat.min_eq_left hq]
  obtain ⟨ad, e, hc⟩ := h1 (q * 2 + j) u (by rw [← List.take_append_drop q ls, lbf_append, List.getElem?_append_right (by omega), hlen, Nat.add_sub_cancel_left]; exact hj)
  have hcq : ¬ c = q := by
    obtain ⟨a', c', he, hc1, -⟩ := h
    simp only [Value.slice.injEq] at he
    obtain ⟨-, -, rfl⟩ := he
    omega
  refine ⟨ad.add (q * 2), ?_, ?_⟩
  · unfold tailA
    rw [if_neg hcq, e]
    rfl
  · rw [Go.Deep.add_add]
    exact hc
theorem tail_nil {w : World} {a : Option Addr} {c : Nat} {ls : List LbT} (h : RdL w (.slice a ls.length c) ls) (q : Nat) (hq : q ≤ ls.length) : tailA a c q = none → ls.length - q = 0 ∧ c - q = 0 := by
  obtain ⟨a', c', he, hc1, -, -, hc5⟩ := h
  simp only [Value.slice.injEq] at he
  obtain ⟨rfl, -, rfl⟩ := he
  intro h
  have ha : a = none := by
    unfold tailA at h
    split at h
    · exact h
    · cases a with
      | none => rfl
      | some x => cases h
  have := hc5 ha
  omega
theorem run_headL (W : World) (a : Option Addr) (n c p : Nat) (hp : p ≤ n) (hc : n ≤ c) : (Instr.slice 22 (.slice a n c) none (some (.int .i64 (p : Int))) none).run Tryd.prog W = .ok (.slice a p c) W := by
  have ht' : Tryd.prog.underlying 22 = some (.slice (Tryd.prog.elem 22)) := by simp [Program.elem, Tryd.underlying22]
  have he : Tryd.prog.elem 22 = 56 := by simp [Program.elem, Tryd.underlying22]
  rw [run_slice_h W _ _ _ _ ht' .i64 _ (by omega) (by omega), he, Tryd.sizeOf56]
  have hm : (Option.map (fun x => Addr.add x (0 * 2)) a) = a := by cases a <;> simp [Addr.add]
  simp [Result.andThen, sliced]
  intro _
  simpa using hm
theorem run_tailL (W : World) (a : Option Addr) (n c q : Nat) (hq : q ≤ n) : (Instr.slice 22 (.slice a n c) (some (.int .i64 (q : Int))) none none).run Tryd.prog W = .ok (.slice (tailA a c q) (n - q) (c - q)) W := by
  have ht' : Tryd.prog.underlying 22 = some (.slice (Tryd.prog.elem 22)) := by simp [Program.elem, Tryd.underlying22]
  have he : Tryd.prog.elem 22 = 56 := by simp [Program.elem, Tryd.underlying22]
  rw [run_slice_l W _ _ _ _ ht' .i64 _ (by omega) (by omega), he, Tryd.sizeOf56]
  simp [Result.andThen, sliced, tailA]
/-- room made for labels -/
theorem made_own (W : World) (n base : Nat) (hn : n ≤ 1000) (hb : base ≤ W.heap.size) : OwnL (W.alloc (.cells (madeCells (Value.agg #[.string ⟨#[]⟩, .string ⟨#[]⟩]).cells (n * 2)) 56)) base (.slice (some ⟨W.heap.size, 0, none⟩) 0 n) [] := by
  refine ⟨rfl, .inr ⟨W.heap.size, n, _, rfl, hb, Go.heap_alloc_new W _, by simp, by unfold maxLen; omega, ?_, ?_⟩⟩
  · rw [size_madeCells]
  · simp [lbf]

set_option maxRecDepth 8000 in
set_option maxHeartbeats 6400000 in
theorem with_any (w : World) (v : Value) (ls : List LbT) (nm val : List UInt8) (hv : RdL w v ls) (hl : LbIn ls) (hll : ls.length ≤ 4398046511104) (hnm : nm.length ≤ 1000000000000000000) (hval : val.length ≤ 1000000000000000000) (hT : U8S w) :
    Calls Tryd.prog 24 #[v, .string (ByteArray.mk ⟨nm⟩), .string (ByteArray.mk ⟨val⟩)] w fun e w' => ∃ v', e = .returned (.tuple #[v', .int .i64 (withS ls nm val).2]) ∧ OwnL w' w.heap.size v' (withS ls nm val).1 ∧ w.grownBy w' none := by
  have HR : Hid (Calls Tryd.prog 10 #[v] w fun e w' => e = .returned (.tuple #[.int .i64 (rightS ls).1, .int .i64 ((rightS ls).2 : Int)]) ∧ w.grownBy w' none) := right_any w v ls hv hl hT
  have HN : Hid (∀ W, Calls Tryd.prog 12 #[.string (ByteArray.mk ⟨nm⟩)] W fun e w' => e = .returned (.bool (nameB nm)) ∧ W.grownBy w' none) := fun W => name_any W nm hnm
  have HWo : Hid (∀ W, w.grownBy W none → Calls Tryd.prog 26 #[v, .slice (some ⟨W.heap.size, 0, none⟩) 1 1] (W.alloc (.cells #[.string (ByteArray.mk ⟨nm⟩)] 9)) fun e w' => ∃ v', e = .returned (.tuple #[v', .int .i64 (chosS (p_Without [nm]) ls).2]) ∧ Hid (OwnL w' w.heap.size v' (chosS (p_Without [nm]) ls).1 ∧ w.grownBy w' none)) := fun W hW => by
    have hW2 := gb_none hW (World.grownBy_alloc W (.cells #[.string (ByteArray.mk ⟨nm⟩)] 9) none)
    exact (choice_Without _ v _ ls [nm] (hv.keep hW2) hl hll (hT.keep hW2) (one_name W nm)).mono fun e w' ⟨v', h1, h2, h3⟩ => ⟨v', h1, h2.mono hW2.size, gb_none hW2 h3⟩
  have HVE : Hid (∀ W, w.grownBy W none → Calls Tryd.prog 52 #[.string (ByteArray.mk ⟨val⟩)] W fun e w' => e = .returned (.int .i64 (valueE val)) ∧ W.grownBy w' none) := fun W hW => rightValue_any W val hval (hT.keep hW)
  have HBS : Hid ((rightS ls).1 = 0 → ∀ W, w.grownBy W none → Calls Tryd.prog 53 #[v, .string (ByteArray.mk ⟨nm⟩), .func (.func 54) #[] #[]] W fun e w' => ∃ p : Nat, e = .returned (.tuple #[.int .i64 (p : Int), .bool (decide (p < ls.length ∧ (ls.getD p ([], [])).1 = nm))]) ∧ AtN ls nm p ∧ W.grownBy w' none) := fun h W hW => bsearch_any W v ls nm (hv.keep hW) (right_ris h).1 (right_ris h).2
  have HS : Hid (withS ls nm val = if (rightS ls).1 ≠ 0 then ([], (rightS ls).1) else if nameB nm = false then ([], 40) else if val = [] then (pickL (p_Without [nm]) ls, 0) else if valueE val ≠ 0 then ([], valueE val) else if 16 < (sortN (pickL (p_Without [nm]) ls ++ [(nm, val)])).length then ([], 8) else (sortN (pickL (p_Without [nm]) ls ++ [(nm, val)]), 0)) := rfl
  have HC : Hid ((rightS ls).1 = 0 → chosS (p_Without [nm]) ls = (pickL (p_Without [nm]) ls, 0)) := fun h => by unfold chosS; rw [if_pos h]
  have HRS : Hid ((rightS ls).1 = 0 → ls.length ≤ 16 ∧ risN ls) := right_ris
  have HV : Hid (RdL w v ls) := hv
  obtain ⟨a, c, rfl, hc1, hc2, -, hc4⟩ := hv
  unfold maxLen at hc2
  clear hl hT
  generalize withS ls nm val = R at *
  generalize (rightS ls).1 = r1 at *
  generalize (rightS ls).2 = r2 at *
  generalize valueE val = vE at *
  by_cases hr1 : r1 = 0
  · subst hr1
    rw [if_neg (by simp)] at HS
    generalize hbn : nameB nm = bn at *
    cases bn with
    | false =>
      rw [if_pos rfl] at HS
      have hR := HS.out
      subst hR
      dsimp only
      generalize ByteArray.mk ⟨nm⟩ = sn at *
      generalize ByteArray.mk ⟨val⟩ = sv at *
      go_enter Tryd.func24, Tryd.ntmps24
      go_wp2_with fail
      refine HR.out.mono ?_
      rintro e w1 ⟨rfl, hg1⟩
      have H1 : Hid (w.grownBy w1 none) := hg1
      clear HR hg1
      go_wp2_with fail
      refine (HN.out _).mono ?_
      rintro e w2 ⟨rfl, hg2⟩
      have H2 : Hid (w.grownBy w2 none) := gb_none H1.out hg2
      clear HN hg2 H1
      go_wp2
      go_ret2
      exact ⟨_, rfl, OwnL.nil _ _, H2.out⟩
    | true =>
      rw [if_neg (by simp)] at HS
      by_cases hv0 : val = []
      · subst hv0
        rw [if_pos rfl] at HS
        have hR := HS.out
        subst hR
        rw [HC.out (by first | rfl | trivial)] at HWo
        dsimp only at HWo ⊢
        generalize ByteArray.mk ⟨nm⟩ = sn at *
        go_enter Tryd.func24, Tryd.ntmps24
        go_wp2_with fail
        refine HR.out.mono ?_
        rintro e w1 ⟨rfl, hg1⟩
        have H1 : Hid (w.grownBy w1 none) := hg1
        clear HR hg1
        go_wp2_with fail
        refine (HN.out _).mono ?_
        rintro e w2 ⟨rfl, hg2⟩
        have H2 : Hid (w.grownBy w2 none) := gb_none H1.out hg2
        clear HN hg2 H1
        go_wp2_with fail
        refine (HWo.out _ H2.out).mono ?_
        rintro e w3 ⟨v3, rfl, H3⟩
        clear HWo
        go_wp2
        go_ret2
        exact ⟨_, rfl, H3.out⟩
      · rw [if_neg hv0] at HS
        obtain ⟨e1, e2, e3⟩ := empty_facts hv0
        by_cases hvE : vE = 0
        · subst hvE
          rw [if_neg (by simp)] at HS
          generalize hpk : pickL (p_Without [nm]) ls = PK at *
          have HPK : Hid (pickL (p_Without [nm]) ls = PK) := hpk
          clear hpk
          obtain ⟨h16, hris⟩ := HRS.out (by first | rfl | trivial)
          have HRIS : Hid (risN ls) := hris
          clear hris
          obtain ⟨i0, hi, hz0, hz1, hz2⟩ := info_parts infoLb
          have HI : Hid (Tryd.prog.info? 56 = some i0 ∧ i0.zero = some (.agg #[.string ⟨#[]⟩, .string ⟨#[]⟩]) ∧ i0.size = 2 ∧ i0.bytes = 32) := ⟨hi, hz0, hz1, hz2⟩
          have HMK : Hid (∀ W : World, (Instr.makeSlice 22 (.int .i64 0) (.int .i64 ((ls.length : Int) + 1))).run Tryd.prog W = .ok (.slice (some ⟨W.heap.size, 0, none⟩) 0 (ls.length + 1)) (W.alloc (.cells (madeCells (Value.agg #[.string ⟨#[]⟩, .string ⟨#[]⟩]).cells ((ls.length + 1) * 2)) 56))) := fun W => by
            have hmk := run_make W 22 56 i0 _ Tryd.underlying22 hi hz0 .i64 .i64 0 ((ls.length : Int) + 1) (by omega) (by omega) (by rw [hz2]; omega) (by omega)
            rw [hz1] at hmk
            simpa using hmk
          clear hi hz0 hz1 hz2
          generalize hsn : ByteArray.mk ⟨nm⟩ = sn at *
          generalize hsv : ByteArray.mk ⟨val⟩ = sv at *
          have HSN : Hid (ByteArray.mk ⟨nm⟩ = sn ∧ ByteArray.mk ⟨val⟩ = sv) := ⟨hsn, hsv⟩
          clear hsn hsv
          go_enter Tryd.func24, Tryd.ntmps24
          go_wp2_with fail
          refine HR.out.mono ?_
          rintro e w1 ⟨rfl, hg1⟩
          have H1 : Hid (w.grownBy w1 none) := hg1
          clear HR hg1
          go_wp2_with fail
          refine (HN.out _).mono ?_
          rintro e w2 ⟨rfl, hg2⟩
          have H2 : Hid (w.grownBy w2 none) := gb_none H1.out hg2
          clear HN hg2 H1
          go_wp2_with fail
          refine (HVE.out _ H2.out).mono ?_
          rintro e w3 ⟨rfl, hg3⟩
          have H3 : Hid (w.grownBy w3 none) := gb_none H2.out hg3
          clear HVE hg3 H2
          go_wp2_with fail
          refine (HBS.out (by first | rfl | trivial) _ H3.out).mono ?_
          rintro e w4 ⟨p, rfl, hat, hg4⟩
          have H4 : Hid (w.grownBy w4 none ∧ AtN ls nm p) := ⟨gb_none H3.out hg4, hat⟩
          have hpl : p ≤ ls.length := hat.1
          have hsl1 : ∀ W, (Instr.slice 22 (.slice a ls.length c) none (some (.int .i64 (p : Int))) none).run Tryd.prog W = .ok (.slice a p c) W := fun W => run_headL W a ls.length c p hpl hc1
          have hmk := HMK.out w4
          have HWE : Hid (ls.take p ++ [(nm, val)] ++ ls.drop (behindN ls nm p) = sortN (PK ++ [(nm, val)])) := by rw [← HPK.out]; exact with_eq HRIS.out hat
          clear hg4 H3 HBS HWo HMK hat
          by_cases hth : p < ls.length ∧ (ls.getD p ([], [])).1 = nm
          · rw [decide_eq_true hth]
            have hbh : behindN ls nm p = p + 1 := by unfold behindN; rw [if_pos hth]
            obtain ⟨q, hq⟩ : ∃ q, q = p + 1 := ⟨_, rfl⟩
            have HWF : Hid (ls.take p ++ [(nm, val)] ++ ls.drop q = sortN (PK ++ [(nm, val)])) := by rw [hq, ← hbh]; exact HWE.out
            have hqi : (p : Int) + 1 = (q : Int) := by omega
            have hql : q ≤ ls.length := by omega
            have hsl2 : ∀ W, (Instr.slice 22 (.slice a ls.length c) (some (.int .i64 (q : Int))) none none).run Tryd.prog W = .ok (.slice (tailA a c q) (ls.length - q) (c - q)) W := fun W => run_tailL W a ls.length c q hql
            have HQ : Hid (q = p + 1) := hq
            clear hq hth hbh
            have hlen : (sortN (PK ++ [(nm, val)])).length = p + 1 + (ls.length - q) := by
              rw [← HWF.out]
              simp
              omega
            have hR : R = (sortN (PK ++ [(nm, val)]), 0) := by rw [HS.out, if_neg (by rw [hlen]; have := HQ.out; omega)]
            subst hR
            dsimp only
            clear hlen HS
            go_wp2_with (at_builtin; refine wp_appH rfl _ _ 22 56 rfl i0 _ 2 32 w.heap.size Tryd.underlying22 HI.out.1 HI.out.2.1 HI.out.2.2.1 HI.out.2.2.2 rfl (by decide) _ 0 (lbf []) a p c (lbf (ls.take p)) rfl rfl (made_own w4 (ls.length + 1) _ (by omega) H4.out.1.size) ?a1A ?a2A ?a3A (lbf_one _) ?a4A ?a5A ?a6A ?_)
            case a1A => rw [lbf_len, List.length_take, Nat.min_eq_left hpl]
            case a2A =>
              have hk := (HV.out.keep (gb_none H4.out.1 (World.grownBy_alloc w4 (.cells (madeCells (Value.agg #[.string ⟨#[]⟩, .string ⟨#[]⟩]).cells ((ls.length + 1) * 2)) 56) none))).ahead p
              exact hk
            case a3A => intro h; have := hc4 h; omega
            case a4A => omega
            case a5A => omega
            case a6A => have := H4.out.1.size; simp; omega
            intro v5 w5 ho5 hf5
            have H5 : Hid (OwnL w5 w.heap.size v5 (ls.take p) ∧ w.grownBy w5 none) := by
              refine ⟨?_, ?_⟩
              · unfold OwnL
                rw [List.length_take, Nat.min_eq_left hpl]
                simpa [lbf] using ho5
              · exact gb_new (gb_none H4.out.1 (World.grownBy_alloc w4 (.cells (madeCells (Value.agg #[.string ⟨#[]⟩, .string ⟨#[]⟩]).cells ((ls.length + 1) * 2)) 56) none)) hf5.1 (fun k hk => by simp [Value.ownBlock] at hk; have := H4.out.1.size; omega)
            clear ho5 hf5 hmk hsl1 H4
            go_wp2_with (at_builtin; refine wp_appH rfl _ _ 22 56 rfl i0 _ 2 32 w.heap.size Tryd.underlying22 HI.out.1 HI.out.2.1 HI.out.2.2.1 HI.out.2.2.2 rfl (by decide) _ (ls.take p).length (lbf (ls.take p)) (some ⟨w5.heap.size, 0, none⟩) 1 1 [.string sn, .string sv] rfl rfl (World.ownsRow.alloc H5.out.1 _) rfl (box_rdc w5 _ _) (fun h => by cases h) (two_one _ _) ?b4A ?b5A ?b6A ?_)
            case b4A => simp; omega
            case b5A => simp; omega
            case b6A => have := H5.out.2.size; simp; omega
            intro v6 w6 ho6 hf6
            have H6 : Hid (OwnL w6 w.heap.size v6 (ls.take p ++ [(nm, val)]) ∧ w.grownBy w6 none) := by
              refine ⟨?_, gb_new H5.out.2 (gb_trans (gb_any (World.grownBy_alloc w5 (.cells #[.string sn, .string sv] 56) none) _) hf6.1 (fun k hk _ => hk.symm)) (fun k hk => (H5.out.1.lt k hk).1)⟩
              refine OwnL.snoc ?_
              rw [HSN.out.1, HSN.out.2, List.length_take, Nat.min_eq_left hpl]
              exact ho6
            clear ho6 hf6 H5
            go_wp2_with (at_builtin; refine wp_appH rfl _ _ 22 56 rfl i0 _ 2 32 w.heap.size Tryd.underlying22 HI.out.1 HI.out.2.1 HI.out.2.2.1 HI.out.2.2.2 rfl (by decide) _ (ls.take p ++ [(nm, val)]).length (lbf (ls.take p ++ [(nm, val)])) (tailA a c q) (ls.length - q) (c - q) (lbf (ls.drop q)) rfl rfl H6.out.1 ?c1A ((HV.out.keep H6.out.2).behind q hql) (tail_nil HV.out q hql) (lbf_one _) ?c4A ?c5A H6.out.2.size ?_)
            case c1A => rw [lbf_len, List.length_drop]
            case c4A => simp; omega
            case c5A => simp; omega
            intro v7 w7 ho7 hf7
            have H7 : Hid (OwnL w7 w.heap.size v7 (sortN (PK ++ [(nm, val)])) ∧ w.grownBy w7 none) := by
              refine ⟨?_, gb_new H6.out.2 hf7.1 (fun k hk => (H6.out.1.lt k hk).1)⟩
              rw [← HWF.out]
              unfold OwnL
              rw [List.length_append, lbf_append, List.length_drop, show (ls.take p ++ [(nm, val)]).length = p + 1 by simp; omega]
              exact ho7
            clear ho7 hf7 H6 hsl2
            go_wp2
            go_ret2
            exact ⟨_, rfl, H7.out⟩
          · rw [decide_eq_false hth]
            have hbh : behindN ls nm p = p := by unfold behindN; rw [if_neg hth]
            rw [hbh] at HWE
            by_cases hfull : ls.length = 16
            · have hfi : ((ls.length : Int) == 16) = true := by rw [hfull]; rfl
              have hR : R = ([], 8) := by
                rw [HS.out, if_pos ?_]
                rw [← HWE.out]
                simp
                omega
              subst hR
              dsimp only
              clear HWE hsl1 hmk hth hbh
              go_wp2
              go_ret2
              exact ⟨_, rfl, OwnL.nil _ _, H4.out.1⟩
            · have hfi : ((ls.length : Int) == 16) = false := by rw [beq_eq_false_iff_ne]; omega
              obtain ⟨q, hq⟩ : ∃ q, q = p := ⟨_, rfl⟩
              have HWF : Hid (ls.take p ++ [(nm, val)] ++ ls.drop q = sortN (PK ++ [(nm, val)])) := by rw [hq]; exact HWE.out
              have hql : q ≤ ls.length := by omega
              have hsl2 : ∀ W, (Instr.slice 22 (.slice a ls.length c) (some (.int .i64 (p : Int))) none none).run Tryd.prog W = .ok (.slice (tailA a c q) (ls.length - q) (c - q)) W := fun W => by subst hq; exact run_tailL W a ls.length c q hql
              have HQ : Hid (q = p) := hq
              clear hq hth hbh
              have hlen : (sortN (PK ++ [(nm, val)])).length = p + 1 + (ls.length - q) := by
                rw [← HWF.out]
                simp
                omega
              have hR : R = (sortN (PK ++ [(nm, val)]), 0) := by rw [HS.out, if_neg (by rw [hlen]; have := HQ.out; omega)]
              subst hR
              dsimp only
              clear hlen HS
              go_wp2_with (at_builtin; refine wp_appH rfl _ _ 22 56 rfl i0 _ 2 32 w.heap.size Tryd.underlying22 HI.out.1 HI.out.2.1 HI.out.2.2.1 HI.out.2.2.2 rfl (by decide) _ 0 (lbf []) a p c (lbf (ls.take p)) rfl rfl (made_own w4 (ls.length + 1) _ (by omega) H4.out.1.size) ?a1B ?a2B ?a3B (lbf_one _) ?a4B ?a5B ?a6B ?_)
              case a1B => rw [lbf_len, List.length_take, Nat.min_eq_left hpl]
              case a2B =>
                have hk := (HV.out.keep (gb_none H4.out.1 (World.grownBy_alloc w4 (.cells (madeCells (Value.agg #[.string ⟨#[]⟩, .string ⟨#[]⟩]).cells ((ls.length + 1) * 2)) 56) none))).ahead p
                exact hk
              case a3B => intro h; have := hc4 h; omega
              case a4B => omega
              case a5B => omega
              case a6B => have := H4.out.1.size; simp; omega
              intro v5 w5 ho5 hf5
              have H5 : Hid (OwnL w5 w.heap.size v5 (ls.take p) ∧ w.grownBy w5 none) := by
                refine ⟨?_, ?_⟩
                · unfold OwnL
                  rw [List.length_take, Nat.min_eq_left hpl]
                  simpa [lbf] using ho5
                · exact gb_new (gb_none H4.out.1 (World.grownBy_alloc w4 (.cells (madeCells (Value.agg #[.string ⟨#[]⟩, .string ⟨#[]⟩]).cells ((ls.length + 1) * 2)) 56) none)) hf5.1 (fun k hk => by simp [Value.ownBlock] at hk; have := H4.out.1.size; omega)
              clear ho5 hf5 hmk hsl1 H4
              go_wp2_with (at_builtin; refine wp_appH rfl _ _ 22 56 rfl i0 _ 2 32 w.heap.size Tryd.underlying22 HI.out.1 HI.out.2.1 HI.out.2.2.1 HI.out.2.2.2 rfl (by decide) _ (ls.take p).length (lbf (ls.take p)) (some ⟨w5.heap.size, 0, none⟩) 1 1 [.string sn, .string sv] rfl rfl (World.ownsRow.alloc H5.out.1 _) rfl (box_rdc w5 _ _) (fun h => by cases h) (two_one _ _) ?b4B ?b5B ?b6B ?_)
              case b4B => simp; omega
              case b5B => simp; omega
              case b6B => have := H5.out.2.size; simp; omega
              intro v6 w6 ho6 hf6
              have H6 : Hid (OwnL w6 w.heap.size v6 (ls.take p ++ [(nm, val)]) ∧ w.grownBy w6 none) := by
                refine ⟨?_, gb_new H5.out.2 (gb_trans (gb_any (World.grownBy_alloc w5 (.cells #[.string sn, .string sv] 56) none) _) hf6.1 (fun k hk _ => hk.symm)) (fun k hk => (H5.out.1.lt k hk).1)⟩
                refine OwnL.snoc ?_
                rw [HSN.out.1, HSN.out.2, List.length_take, Nat.min_eq_left hpl]
                exact ho6
              clear ho6 hf6 H5
              go_wp2_with (at_builtin; refine wp_appH rfl _ _ 22 56 rfl i0 _ 2 32 w.heap.size Tryd.underlying22 HI.out.1 HI.out.2.1 HI.out.2.2.1 HI.out.2.2.2 rfl (by decide) _ (ls.take p ++ [(nm, val)]).length (lbf (ls.take p ++ [(nm, val)])) (tailA a c q) (ls.length - q) (c - q) (lbf (ls.drop q)) rfl rfl H6.out.1 ?c1B ((HV.out.keep H6.out.2).behind q hql) (tail_nil HV.out q hql) (lbf_one _) ?c4B ?c5B H6.out.2.size ?_)
              case c1B => rw [lbf_len, List.length_drop]
              case c4B => simp; omega
              case c5B => simp; omega
              intro v7 w7 ho7 hf7
              have H7 : Hid (OwnL w7 w.heap.size v7 (sortN (PK ++ [(nm, val)])) ∧ w.grownBy w7 none) := by
                refine ⟨?_, gb_new H6.out.2 hf7.1 (fun k hk => (H6.out.1.lt k hk).1)⟩
                rw [← HWF.out]
                unfold OwnL
                rw [List.length_append, lbf_append, List.length_drop, show (ls.take p ++ [(nm, val)]).length = p + 1 by simp; omega]
                exact ho7
              clear ho7 hf7 H6 hsl2
              go_wp2
              go_ret2
              exact ⟨_, rfl, H7.out⟩
        · rw [if_pos hvE] at HS
          have hR := HS.out
          subst hR
          dsimp only
          have hvb : (vE == 0) = false := by rw [beq_eq_false_iff_ne]; exact hvE
          generalize ByteArray.mk ⟨nm⟩ = sn at *
          generalize ByteArray.mk ⟨val⟩ = sv at *
          go_enter Tryd.func24, Tryd.ntmps24
          go_wp2_with fail
          refine HR.out.mono ?_
          rintro e w1 ⟨rfl, hg1⟩
          have H1 : Hid (w.grownBy w1 none) := hg1
          clear HR hg1
          go_wp2_with fail
          refine (HN.out _).mono ?_
          rintro e w2 ⟨rfl, hg2⟩
          have H2 : Hid (w.grownBy w2 none) := gb_none H1.out hg2
          clear HN hg2 H1
          go_wp2_with fail
          refine (HVE.out _ H2.out).mono ?_
          rintro e w3 ⟨rfl, hg3⟩
          have H3 : Hid (w.grownBy w3 none) := gb_none H2.out hg3
          clear HVE hg3 H2
          go_wp2
          go_ret2
          exact ⟨_, rfl, OwnL.nil _ _, H3.out⟩
  · rw [if_pos hr1] at HS
    have hR := HS.out
    subst hR
    dsimp only
    have hrb : (r1 == 0) = false := by rw [beq_eq_false_iff_ne]; exact hr1
    go_enter Tryd.func24, Tryd.ntmps24
    go_wp2_with fail
    refine HR.out.mono ?_
    rintro e w1 ⟨rfl, hg1⟩
    have H1 : Hid (w.grownBy w1 none) := hg1
    clear HR hg1
    go_wp2
    go_ret2
    exact ⟨_, rfl, OwnL.nil _ _, H1.out⟩
end Go.Proofs.YtknlnllcpdiglaaDoor
