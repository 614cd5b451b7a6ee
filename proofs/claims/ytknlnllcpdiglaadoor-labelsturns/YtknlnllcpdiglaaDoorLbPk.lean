/-
  Labels chosen by their names, by the document: the walks.
-/
import Derived.Test.YtknlnllcpdiglaaDoorLbCh
namespace Go.Proofs.YtknlnllcpdiglaaDoor
open Go.RowKit

/-- the document's predicate -/
def p_In (ns : List (List UInt8)) (b : Bool) (s : List UInt8) : Bool := hasN ns s == b
theorem p_In_false (ns : List (List UInt8)) : p_In ns false = p_Without ns := by funext s; unfold p_In p_Without; cases hasN ns s <;> rfl
theorem p_In_true (ns : List (List UInt8)) : p_In ns true = p_Keep ns := by funext s; unfold p_In p_Keep; cases hasN ns s <;> rfl

set_option maxRecDepth 8000 in
set_option maxHeartbeats 3200000 in
theorem refPick_any (w : World) (v u : Value) (B : Bool) (ls : List LbT) (ns : List (List UInt8)) (hv : RdL w v ls) (hll : ls.length ≤ 4398046511104) (hn : RdN w u ns) :
    Calls Tryd.prog 55 #[v, u, .bool B] w fun e w' => ∃ v', e = .returned v' ∧ OwnL w' w.heap.size v' (pickL (p_In ns B) ls) ∧ w.grownBy w' none := by
  have HV : Hid (RdL w v ls ∧ RdN w u ns) := ⟨hv, hn⟩
  obtain ⟨ua, uc, rfl⟩ : ∃ a c, u = .slice a ns.length c := by obtain ⟨a, c, h, _⟩ := hn; exact ⟨a, c, h⟩
  obtain ⟨a, c, rfl, hc1, hc2, hc3, hc4⟩ := hv
  unfold maxLen at hc2
  obtain ⟨i0, hi, hz0, hz1, hz2⟩ := info_parts infoLb
  have HI : Hid (Tryd.prog.info? 56 = some i0 ∧ i0.zero = some (.agg #[.string ⟨#[]⟩, .string ⟨#[]⟩]) ∧ i0.size = 2 ∧ i0.bytes = 32) := ⟨hi, hz0, hz1, hz2⟩
  clear hc3 hc4 hn hi hz0 hz1 hz2
  go_enter Tryd.func55, Tryd.ntmps55
  go_wp2
  go_loopw [7, 12] (fun u i wr => ∃ z : Nat, z ≤ ls.length ∧ i = .int .i64 z ∧ Hid (OwnL wr w.heap.size u (pickL (p_In ns B) (ls.take z)) ∧ w.grownBy wr none)) (fun _ i _ => ls.length - (intOf i).toNat)
  case atStart => exact ⟨0, by omega, rfl, OwnL.nil _ _, gb_refl _ _⟩
  case round =>
    obtain ⟨z, hzN, rfl, hr⟩ := hrel
    by_cases hzl : z < ls.length
    · obtain ⟨a', c', he, -, -, h3, -⟩ := HV.out.1.keep hr.out.2
      simp only [Value.slice.injEq] at he
      obtain ⟨rfl, -, rfl⟩ := he
      obtain ⟨b, o, rfl, c0, c1⟩ := h3 z hzl
      have hzi : (z : Int) < (ls.length : Int) := by omega
      have hbl : ¬ b = wr.heap.size := by have := block_lt c0; omega
      have hbl2 : ¬ wr.heap.size = b := by omega
      have hstep := pick_step (p := p_In ns B) hzl
      have hle : (pickL (p_In ns B) (ls.take z)).length ≤ 4398046511104 := by have := pick_len (p_In ns B) (ls.take z); simp at this; omega
      have HP : Hid (∀ W, w.grownBy W none → Calls Tryd.prog 90 #[.slice ua ns.length uc, .string (ByteArray.mk ⟨(ls.getD z ([], [])).1⟩)] W fun e w' => e = .returned (.bool (hasN ns (ls.getD z ([], [])).1)) ∧ w' = W) := fun W hW => refHas_any W _ ns _ (HV.out.2.keep hW)
      have HG : Hid (∀ C, w.grownBy (wr.alloc C) none) := fun C => gb_none hr.out.2 (World.grownBy_alloc _ _ none)
      have hpp : p_In ns B (ls.getD z ([], [])).1 = (hasN ns (ls.getD z ([], [])).1 == B) := rfl
      clear h3
      generalize hpv : p_In ns B (ls.getD z ([], [])).1 = pv at *
      generalize hasN ns (ls.getD z ([], [])).1 = hb at *
      cases pv with
      | false =>
        rw [if_neg (by simp), List.append_nil] at hstep
        have hq : (hb == B) = false := hpp.symm
        have hq2 : ¬ hb = B := by simpa using hq
        have HE : Hid (∀ C, OwnL (wr.alloc C) w.heap.size u7 (pickL (p_In ns B) (ls.take (z + 1))) ∧ w.grownBy (wr.alloc C) none) := fun C => ⟨by rw [hstep]; exact hr.out.1.keep (World.grownBy_alloc _ _ none), HG.out C⟩
        clear hr hstep hpv hpp
        generalize ByteArray.mk ⟨(ls.getD z ([], [])).1⟩ = sn at *
        generalize ByteArray.mk ⟨(ls.getD z ([], [])).2⟩ = sv at *
        go_wp2_with fail
        refine (HP.out _ (HG.out _)).mono ?_
        rintro e w2 ⟨rfl, rfl⟩
        go_wp2
        go_roundw
        case rel => exact ⟨z + 1, by omega, by simp, HE.out _⟩
        case measure => simp [intOf]; omega
      | true =>
        rw [if_pos rfl] at hstep
        have hq : hb = B := by simpa using hpp.symm
        subst hq
        have HE : Hid (OwnL wr w.heap.size u7 (pickL (p_In ns hb) (ls.take z)) ∧ w.grownBy wr none ∧ pickL (p_In ns hb) (ls.take (z + 1)) = pickL (p_In ns hb) (ls.take z) ++ [((ls.getD z ([], [])).1, (ls.getD z ([], [])).2)]) := ⟨hr.out.1, hr.out.2, hstep⟩
        clear hr hstep hpv hpp
        generalize (ls.getD z ([], [])).1 = tn at *
        generalize (ls.getD z ([], [])).2 = tv at *
        go_wp2_with fail
        refine (HP.out _ (HG.out _)).mono ?_
        rintro e w2 ⟨rfl, rfl⟩
        go_wp2_with (at_builtin; refine wp_appH rfl _ _ 22 56 rfl i0 _ 2 32 w.heap.size Tryd.underlying22 HI.out.1 HI.out.2.1 HI.out.2.2.1 HI.out.2.2.2 rfl (by decide) _ (pickL (p_In ns hb) (ls.take z)).length (lbf (pickL (p_In ns hb) (ls.take z))) (some ⟨wr.heap.size + 1, 0, none⟩) 1 1 [.string (ByteArray.mk ⟨tn⟩), .string (ByteArray.mk ⟨tv⟩)] rfl rfl (World.ownsRow.alloc (World.ownsRow.alloc HE.out.1 _) _) rfl (box_rdc1 wr _ _ _) (fun h => by cases h) (two_one _ _) (by omega) (by omega) (by have := HE.out.2.1.size; simp; omega) ?_)
        intro v1 w1' ho1 hf1
        have hg1 : wr.grownBy w1' u7.ownBlock := gb_trans (gb_any (gb_none (World.grownBy_alloc wr (.cells #[.string (ByteArray.mk ⟨tn⟩), .string (ByteArray.mk ⟨tv⟩)] 56) none) (World.grownBy_alloc _ (.cells #[.string (ByteArray.mk ⟨tn⟩), .string (ByteArray.mk ⟨tv⟩)] 56) none)) _) hf1.1 (fun k hk _ => hk.symm)
        have H2 : Hid (OwnL w1' w.heap.size v1 (pickL (p_In ns hb) (ls.take (z + 1))) ∧ w.grownBy w1' none) := ⟨by rw [HE.out.2.2]; exact OwnL.snoc ho1, gb_new HE.out.2.1 hg1 (fun k hk => (HE.out.1.lt k hk).1)⟩
        clear ho1 hf1 hg1 HE
        go_wp2
        go_roundw
        case rel => exact ⟨z + 1, by omega, by simp, H2.out⟩
        case measure => simp [intOf]; omega
    · have hzi : ¬ (z : Int) < (ls.length : Int) := by omega
      have HE : Hid (OwnL wr w.heap.size u7 (pickL (p_In ns B) ls) ∧ w.grownBy wr none) := ⟨by have := hr.out.1; rwa [List.take_of_length_le (by omega)] at this, hr.out.2⟩
      clear hr
      go_wp2
      go_ret
      exact ⟨_, rfl, HE.out⟩

set_option maxRecDepth 8000 in
set_option maxHeartbeats 3200000 in
theorem refKeep_any (w : World) (v u : Value) (B : Bool) (ls : List LbT) (ns : List (List UInt8)) (hv : RdL w v ls) (hl : LbIn ls) (hll : ls.length ≤ 4398046511104) (hn : RdN w u ns) :
    Calls Tryd.prog 27 #[v, u, .bool B] w fun e w' => ∃ v', e = .returned (.tuple #[v', .int .i64 (chosS (p_In ns B) ls).2]) ∧ OwnL w' w.heap.size v' (chosS (p_In ns B) ls).1 ∧ w.grownBy w' none := by
  have HR : Hid (Calls Tryd.prog 11 #[v] w fun e w' => e = .returned (.tuple #[.int .i64 (rightS ls).1, .int .i64 ((rightS ls).2 : Int)]) ∧ w.grownBy w' none) := refRight_any w v ls hv hl
  have HP : Hid (∀ W, w.grownBy W none → Calls Tryd.prog 55 #[v, u, .bool B] W fun e w' => ∃ v', e = .returned v' ∧ Hid (OwnL w' w.heap.size v' (pickL (p_In ns B) ls) ∧ w.grownBy w' none)) := fun W hW => (refPick_any W v u B ls ns (hv.keep hW) hll (hn.keep hW)).mono fun e w' ⟨v', h1, h2, h3⟩ => ⟨v', h1, h2.mono hW.size, gb_none hW h3⟩
  have HC : Hid (chosS (p_In ns B) ls = if (rightS ls).1 = 0 then (pickL (p_In ns B) ls, 0) else ([], (rightS ls).1)) := rfl
  clear hv hl hn
  generalize chosS (p_In ns B) ls = C at *
  generalize pickL (p_In ns B) ls = K at *
  generalize (rightS ls).1 = r1 at *
  generalize (rightS ls).2 = r2 at *
  by_cases hr1 : r1 = 0
  · subst hr1
    rw [if_pos rfl] at HC
    have hC := HC.out
    subst hC
    dsimp only
    go_enter Tryd.func27, Tryd.ntmps27
    go_wp2_with fail
    refine HR.out.mono ?_
    rintro e w1 ⟨rfl, hg1⟩
    have H1 : Hid (w.grownBy w1 none) := hg1
    clear HR hg1 HC
    go_wp2_with fail
    refine (HP.out _ H1.out).mono ?_
    rintro e w2 ⟨v2, rfl, H2⟩
    go_wp2
    go_ret2
    exact ⟨_, rfl, H2.out⟩
  · rw [if_neg hr1] at HC
    have hC := HC.out
    subst hC
    dsimp only
    have hrb : (r1 == 0) = false := by rw [beq_eq_false_iff_ne]; exact hr1
    go_enter Tryd.func27, Tryd.ntmps27
    go_wp2_with fail
    refine HR.out.mono ?_
    rintro e w1 ⟨rfl, hg1⟩
    have H1 : Hid (w.grownBy w1 none) := hg1
    clear HR hg1 HC
    go_wp2
    go_ret2
    exact ⟨_, rfl, OwnL.nil _ _, H1.out⟩
end Go.Proofs.YtknlnllcpdiglaaDoor
