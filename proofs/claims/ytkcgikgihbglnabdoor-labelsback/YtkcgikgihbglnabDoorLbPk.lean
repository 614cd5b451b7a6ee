/-
  Names among others; labels chosen by their names, by the project and by the document: the walks.
-/
import Derived.Test.YtkcgikgihbglnabDoorLbMd
import Derived.Test.YtkcgikgihbglnabDoorLbSame
import Derived.Test.YtkcgikgihbglnabDoorMgC
import Derived.Test.YtkcgikgihbglnabDoorLbP2
namespace Go.Proofs.YtkcgikgihbglnabDoor
open Go.RowKit

/-- the value is a slice that reads as these texts -/
def RdN (w : World) (v : Value) (ns : List (List UInt8)) : Prop :=
  ∃ a c, v = .slice a ns.length c ∧ ns.length ≤ c ∧ c ≤ maxLen ∧ (∀ j, j < ns.length → ∃ b o, a = some ⟨b, o, none⟩ ∧ w.cell? ⟨b, o + j, none⟩ = some (.string (ByteArray.mk ⟨ns.getD j []⟩))) ∧ (a = none → c = 0)
theorem RdN.keep {w w' : World} {v : Value} {ns : List (List UInt8)} (h : RdN w v ns) (hg : w.grownBy w' none) : RdN w' v ns := by
  obtain ⟨a, c, h1, h2, h3, h4, h5⟩ := h
  refine ⟨a, c, h1, h2, h3, fun j hj => ?_, h5⟩
  obtain ⟨b, o, e, c0⟩ := h4 j hj
  exact ⟨b, o, e, (World.cell?_of_block (hg.block b (block_lt c0) (by simp))).trans c0⟩
/-- is a name among them? -/
def hasN (ns : List (List UInt8)) (s : List UInt8) : Bool := decide (s ∈ ns)
theorem hasN_hit {ns : List (List UInt8)} {s : List UInt8} {z : Nat} (hz : z < ns.length) (h : ns.getD z [] = s) : hasN ns s = true := by
  have e : ns.getD z [] = ns[z] := by simp [List.getD, hz]
  rw [e] at h
  exact decide_eq_true (h ▸ List.getElem_mem hz)
theorem hasN_none {ns : List (List UInt8)} {s : List UInt8} (h : ∀ j, j < ns.length → ns.getD j [] ≠ s) : hasN ns s = false := by
  refine decide_eq_false fun hm => ?_
  obtain ⟨j, hj, e⟩ := List.getElem_of_mem hm
  refine h j hj ?_
  rw [← e]
  simp [List.getD, hj]
theorem str_ne {a b : List UInt8} (h : a ≠ b) : ((ByteArray.mk ⟨a⟩).toList == (ByteArray.mk ⟨b⟩).toList) = false ∧ ¬ (ByteArray.mk ⟨a⟩).toList = (ByteArray.mk ⟨b⟩).toList := by
  have h1 : ((ByteArray.mk ⟨a⟩).toList == (ByteArray.mk ⟨b⟩).toList) = false := by rw [strq]; exact decide_eq_false h
  exact ⟨h1, by simpa using h1⟩

set_option maxRecDepth 8000 in
set_option maxHeartbeats 3200000 in
theorem indexS_any (w : World) (v : Value) (ns : List (List UInt8)) (s : List UInt8) (hv : RdN w v ns) :
    Calls Tryd.prog 59 #[v, .string (ByteArray.mk ⟨s⟩)] w fun e w' => ∃ r : Int, e = .returned (.int .i64 r) ∧ decide (0 ≤ r) = hasN ns s ∧ w' = w := by
  have HV : Hid (RdN w v ns) := hv
  obtain ⟨a, c, rfl, hc1, hc2, hc3, hc4⟩ := hv
  unfold maxLen at hc2
  clear hc3 hc4
  have HH : Hid (∀ z, z < ns.length → ns.getD z [] = s → hasN ns s = true) := fun z hz h => hasN_hit hz h
  have HN : Hid ((∀ j, j < ns.length → ns.getD j [] ≠ s) → hasN ns s = false) := hasN_none
  generalize hasN ns s = B at *
  go_enter Tryd.func59, Tryd.ntmps59
  go_wp2
  go_loopw [8] (fun i wr => ∃ z : Nat, z ≤ ns.length ∧ i = .int .i64 z ∧ Hid (wr = w ∧ ∀ j, j < z → ns.getD j [] ≠ s)) (fun i _ => ns.length - (intOf i).toNat)
  case atStart => exact ⟨0, by omega, rfl, rfl, fun j hj => by omega⟩
  case round =>
    obtain ⟨z, hzN, rfl, hr⟩ := hrel
    have hw := hr.out.1
    subst hw
    by_cases hzl : z < ns.length
    · obtain ⟨a', c', he, -, -, h3, -⟩ := HV.out
      simp only [Value.slice.injEq] at he
      obtain ⟨rfl, -, rfl⟩ := he
      obtain ⟨b, o, rfl, c0⟩ := h3 z hzl
      have hzi : (z : Int) < (ns.length : Int) := by omega
      clear h3
      by_cases hn : ns.getD z [] = s
      · have hB : B = true := HH.out z hzl hn
        subst hB
        rw [hn] at c0
        clear hr HH HN hn
        generalize ByteArray.mk ⟨s⟩ = sn at *
        go_wp2_with fail
        try go_region
        go_wp2
        go_ret
        exact ⟨_, rfl, by simp, rfl⟩
      · obtain ⟨e1, e2⟩ := str_ne hn
        obtain ⟨e3, e4⟩ := str_ne (Ne.symm hn)
        have H2 : Hid (∀ j, j < z + 1 → ns.getD j [] ≠ s) := fun j hj => by
          by_cases e : j = z
          · rw [e]; exact hn
          · exact hr.out.2 j (by omega)
        clear hr HH HN hn
        generalize ByteArray.mk ⟨s⟩ = sn at *
        generalize ByteArray.mk ⟨ns.getD z []⟩ = sz at *
        go_wp2_with fail
        try go_region
        go_wp2
        go_roundw
        case rel => exact ⟨z + 1, by omega, by simp, by first | rfl | trivial, H2.out⟩
        case measure => simp [intOf]; omega
    · have hzi : ¬ (z : Int) < (ns.length : Int) := by omega
      have hB : B = false := HN.out (fun j hj => hr.out.2 j (by omega))
      subst hB
      clear hr HH HN
      go_wp2
      go_ret
      exact ⟨_, rfl, by simp, rfl⟩
set_option maxHeartbeats 1600000 in
theorem contains_any (w : World) (v : Value) (ns : List (List UInt8)) (s : List UInt8) (hv : RdN w v ns) :
    Calls Tryd.prog 34 #[v, .string (ByteArray.mk ⟨s⟩)] w fun e w' => e = .returned (.bool (hasN ns s)) ∧ w' = w := by
  have HI : Hid (Calls Tryd.prog 59 #[v, .string (ByteArray.mk ⟨s⟩)] w fun e w' => ∃ r : Int, e = .returned (.int .i64 r) ∧ decide (0 ≤ r) = hasN ns s ∧ w' = w) := indexS_any w v ns s hv
  generalize hasN ns s = B at *
  clear hv
  go_enter Tryd.func34, Tryd.ntmps34
  go_wp2_with fail
  refine HI.out.mono ?_
  rintro e w1 ⟨r, rfl, hd, rfl⟩
  clear HI
  have HD : Hid (decide (0 ≤ r) = B) := hd
  clear hd
  go_wp2
  go_ret
  exact ⟨by rw [← HD.out]; rfl, rfl⟩

/-! ### the project's two choices -/
/-- the names, as the choices have them -/
def NmB (w : World) (nb : Nat) (ns : List (List UInt8)) : Prop := ∃ v, w.cell? ⟨nb, 0, none⟩ = some v ∧ RdN w v ns
theorem NmB.keep {w w' : World} {nb : Nat} {ns : List (List UInt8)} (h : NmB w nb ns) (hg : w.grownBy w' none) : NmB w' nb ns := by
  obtain ⟨v, h1, h2⟩ := h
  exact ⟨v, (World.cell?_of_block (hg.block nb (block_lt h1) (by simp))).trans h1, h2.keep hg⟩
/-- the two choices' predicates -/
def p_Without (ns : List (List UInt8)) (s : List UInt8) : Bool := !hasN ns s
def p_Keep (ns : List (List UInt8)) (s : List UInt8) : Bool := hasN ns s
theorem c1_Without (w : World) (nb : Nat) (ns : List (List UInt8)) (s : List UInt8) (h : NmB w nb ns) :
    Calls Tryd.prog 35 #[.string (ByteArray.mk ⟨s⟩), .pointer (some ⟨nb, 0, none⟩)] w fun e w' => e = .returned (.bool (p_Without ns s)) ∧ w' = w := by
  unfold p_Without
  obtain ⟨v, h1, h2⟩ := h
  have HI : Hid (Calls Tryd.prog 34 #[v, .string (ByteArray.mk ⟨s⟩)] w fun e w' => e = .returned (.bool (hasN ns s)) ∧ w' = w) := contains_any w v ns s h2
  generalize hasN ns s = B at *
  clear h2
  go_enter Tryd.func35, Tryd.ntmps35
  go_wp2_with fail
  refine HI.out.mono ?_
  rintro e w1 ⟨rfl, rfl⟩
  clear HI
  go_wp2
  go_ret
  exact ⟨rfl, rfl⟩
theorem c1_Keep (w : World) (nb : Nat) (ns : List (List UInt8)) (s : List UInt8) (h : NmB w nb ns) :
    Calls Tryd.prog 33 #[.string (ByteArray.mk ⟨s⟩), .pointer (some ⟨nb, 0, none⟩)] w fun e w' => e = .returned (.bool (p_Keep ns s)) ∧ w' = w := by
  unfold p_Keep
  obtain ⟨v, h1, h2⟩ := h
  have HI : Hid (Calls Tryd.prog 34 #[v, .string (ByteArray.mk ⟨s⟩)] w fun e w' => e = .returned (.bool (hasN ns s)) ∧ w' = w) := contains_any w v ns s h2
  generalize hasN ns s = B at *
  clear h2
  go_enter Tryd.func33, Tryd.ntmps33
  go_wp2_with fail
  refine HI.out.mono ?_
  rintro e w1 ⟨rfl, rfl⟩
  clear HI
  go_wp2
  go_ret
  exact ⟨rfl, rfl⟩
end Go.Proofs.YtkcgikgihbglnabDoor

namespace Go.Proofs.YtkcgikgihbglnabDoor
open Go.RowKit

/-- the labels whose names are chosen -/
def pickL (p : List UInt8 → Bool) (ls : List LbT) : List LbT := ls.filter fun x => p x.1
def chosS (p : List UInt8 → Bool) (ls : List LbT) : List LbT × Int := if (rightS ls).1 = 0 then (pickL p ls, 0) else ([], (rightS ls).1)
theorem pick_step {p : List UInt8 → Bool} {ls : List LbT} {z : Nat} (hz : z < ls.length) : pickL p (ls.take (z + 1)) = pickL p (ls.take z) ++ (if p (ls.getD z ([], [])).1 = true then [ls.getD z ([], [])] else []) := by
  have e1 : ls.getD z ([], []) = ls[z] := by simp [List.getD, hz]
  rw [List.take_succ_eq_append_getElem hz, pickL, List.filter_append, e1]
  congr 1
  by_cases h : p ls[z].1 = true <;> simp [h]
theorem pick_len (p : List UInt8 → Bool) (ls : List LbT) : (pickL p ls).length ≤ ls.length := List.length_filter_le _ _

set_option maxRecDepth 8000 in
set_option maxHeartbeats 3200000 in
theorem chosen_Without (w : World) (v : Value) (ls : List LbT) (nb : Nat) (ns : List (List UInt8)) (hv : RdL w v ls) (hl : LbIn ls) (hll : ls.length ≤ 4398046511104) (hT : U8S w) (hn : NmB w nb ns) :
    Calls Tryd.prog 32 #[v, .func (.func 35) #[] #[.pointer (some ⟨nb, 0, none⟩)]] w fun e w' => ∃ v', e = .returned (.tuple #[v', .int .i64 (chosS (p_Without ns) ls).2]) ∧ OwnL w' w.heap.size v' (chosS (p_Without ns) ls).1 ∧ w.grownBy w' none := by
  have HV : Hid (RdL w v ls ∧ NmB w nb ns) := ⟨hv, hn⟩
  have HR : Hid (Calls Tryd.prog 5 #[v] w fun e w' => e = .returned (.tuple #[.int .i64 (rightS ls).1, .int .i64 ((rightS ls).2 : Int)]) ∧ w.grownBy w' none) := right_any w v ls hv hl hT
  have HC : Hid (chosS (p_Without ns) ls = if (rightS ls).1 = 0 then (pickL (p_Without ns) ls, 0) else ([], (rightS ls).1)) := rfl
  obtain ⟨a, c, rfl, hc1, hc2, hc3, hc4⟩ := hv
  unfold maxLen at hc2
  obtain ⟨i0, hi, hz0, hz1, hz2⟩ := info_parts infoLb
  have HI : Hid (Tryd.prog.info? 42 = some i0 ∧ i0.zero = some (.agg #[.string ⟨#[]⟩, .string ⟨#[]⟩]) ∧ i0.size = 2 ∧ i0.bytes = 32) := ⟨hi, hz0, hz1, hz2⟩
  clear hc3 hc4 hl hT hn hi hz0 hz1 hz2
  generalize chosS (p_Without ns) ls = C at *
  generalize (rightS ls).1 = r1 at *
  generalize (rightS ls).2 = r2 at *
  by_cases hr1 : r1 = 0
  · subst hr1
    rw [if_pos rfl] at HC
    have hC := HC.out
    subst hC
    dsimp only
    go_enter Tryd.func32, Tryd.ntmps32
    go_wp2_with fail
    refine HR.out.mono ?_
    rintro e w1 ⟨rfl, hg1⟩
    have H1 : Hid (w.grownBy w1 none) := hg1
    clear HR hg1 HC
    go_wp2
    go_loopw [8, 21] (fun u i wr => ∃ z : Nat, z ≤ ls.length ∧ i = .int .i64 z ∧ Hid (OwnL wr w.heap.size u (pickL (p_Without ns) (ls.take z)) ∧ w.grownBy wr none)) (fun _ i _ => ls.length - (intOf i).toNat)
    case atStart => exact ⟨0, by omega, rfl, OwnL.nil _ _, H1.out⟩
    case round =>
      obtain ⟨z, hzN, rfl, hr⟩ := hrel
      by_cases hzl : z < ls.length
      · obtain ⟨a', c', he, -, -, h3, -⟩ := HV.out.1.keep hr.out.2
        simp only [Value.slice.injEq] at he
        obtain ⟨rfl, -, rfl⟩ := he
        obtain ⟨b, o, rfl, c0, c1⟩ := h3 z hzl
        have hzi : (z : Int) < (ls.length : Int) := by omega
        have hbl : ¬ b = wr.heap.size := by have := block_lt c0; omega
        have hbl2 : ¬ wr.heap.size = b := by omega
        have hstep := pick_step (p := p_Without ns) hzl
        have hle : (pickL (p_Without ns) (ls.take z)).length ≤ 4398046511104 := by have := pick_len (p_Without ns) (ls.take z); simp at this; omega
        have HP : Hid (∀ W, w.grownBy W none → Calls Tryd.prog 35 #[.string (ByteArray.mk ⟨(ls.getD z ([], [])).1⟩), .pointer (some ⟨nb, 0, none⟩)] W fun e w' => e = .returned (.bool (p_Without ns (ls.getD z ([], [])).1)) ∧ w' = W) := fun W hW => c1_Without W nb ns _ (HV.out.2.keep hW)
        have HG : Hid (∀ C, w.grownBy (wr.alloc C) none) := fun C => gb_none hr.out.2 (World.grownBy_alloc _ _ none)
        clear h3
        generalize hpv : p_Without ns (ls.getD z ([], [])).1 = pv at *
        cases pv with
        | false =>
          rw [if_neg (by simp), List.append_nil] at hstep
          have HE : Hid (∀ C, OwnL (wr.alloc C) w.heap.size u8 (pickL (p_Without ns) (ls.take (z + 1))) ∧ w.grownBy (wr.alloc C) none) := fun C => ⟨by rw [hstep]; exact hr.out.1.keep (World.grownBy_alloc _ _ none), HG.out C⟩
          clear hr hstep hpv
          generalize ByteArray.mk ⟨(ls.getD z ([], [])).1⟩ = sn at *
          generalize ByteArray.mk ⟨(ls.getD z ([], [])).2⟩ = sv at *
          go_wp2_with fail
          refine (HP.out _ (HG.out _)).mono ?_
          rintro e w2 ⟨rfl, rfl⟩
          go_wp2
          go_roundw
          case rel => exact ⟨z + 1, by omega, by simp, HE.out _⟩
          case measure => simp [intOf]; omega
        | true =>
          rw [if_pos rfl] at hstep
          have HE : Hid (OwnL wr w.heap.size u8 (pickL (p_Without ns) (ls.take z)) ∧ w.grownBy wr none ∧ pickL (p_Without ns) (ls.take (z + 1)) = pickL (p_Without ns) (ls.take z) ++ [((ls.getD z ([], [])).1, (ls.getD z ([], [])).2)]) := ⟨hr.out.1, hr.out.2, hstep⟩
          clear hr hstep hpv
          generalize (ls.getD z ([], [])).1 = tn at *
          generalize (ls.getD z ([], [])).2 = tv at *
          go_wp2_with fail
          refine (HP.out _ (HG.out _)).mono ?_
          rintro e w2 ⟨rfl, rfl⟩
          go_wp2_with (at_builtin; refine wp_appH rfl _ _ 22 42 rfl i0 _ 2 32 w.heap.size Tryd.underlying22 HI.out.1 HI.out.2.1 HI.out.2.2.1 HI.out.2.2.2 rfl (by decide) _ (pickL (p_Without ns) (ls.take z)).length (lbf (pickL (p_Without ns) (ls.take z))) (some ⟨wr.heap.size + 1, 0, none⟩) 1 1 [.string (ByteArray.mk ⟨tn⟩), .string (ByteArray.mk ⟨tv⟩)] rfl rfl (World.ownsRow.alloc (World.ownsRow.alloc HE.out.1 _) _) rfl (box_rdc1 wr _ _ _) (fun h => by cases h) (two_one _ _) (by omega) (by omega) (by have := HE.out.2.1.size; simp; omega) ?_)
          intro v1 w1' ho1 hf1
          have hg1 : wr.grownBy w1' u8.ownBlock := gb_trans (gb_any (gb_none (World.grownBy_alloc wr (.cells #[.string (ByteArray.mk ⟨tn⟩), .string (ByteArray.mk ⟨tv⟩)] 42) none) (World.grownBy_alloc _ (.cells #[.string (ByteArray.mk ⟨tn⟩), .string (ByteArray.mk ⟨tv⟩)] 42) none)) _) hf1.1 (fun k hk _ => hk.symm)
          have H2 : Hid (OwnL w1' w.heap.size v1 (pickL (p_Without ns) (ls.take (z + 1))) ∧ w.grownBy w1' none) := ⟨by rw [HE.out.2.2]; exact OwnL.snoc ho1, gb_new HE.out.2.1 hg1 (fun k hk => (HE.out.1.lt k hk).1)⟩
          clear ho1 hf1 hg1 HE
          go_wp2
          go_roundw
          case rel => exact ⟨z + 1, by omega, by simp, H2.out⟩
          case measure => simp [intOf]; omega
      · have hzi : ¬ (z : Int) < (ls.length : Int) := by omega
        have HE : Hid (OwnL wr w.heap.size u8 (pickL (p_Without ns) ls) ∧ w.grownBy wr none) := ⟨by have := hr.out.1; rwa [List.take_of_length_le (by omega)] at this, hr.out.2⟩
        clear hr
        go_wp2
        go_ret2
        exact ⟨_, rfl, HE.out⟩
  · rw [if_neg hr1] at HC
    have hC := HC.out
    subst hC
    dsimp only
    have hrb : (r1 == 0) = false := by rw [beq_eq_false_iff_ne]; exact hr1
    go_enter Tryd.func32, Tryd.ntmps32
    go_wp2_with fail
    refine HR.out.mono ?_
    rintro e w1 ⟨rfl, hg1⟩
    have H1 : Hid (w.grownBy w1 none) := hg1
    clear HR hg1 HC
    go_wp2
    go_ret2
    exact ⟨_, rfl, OwnL.nil _ _, H1.out⟩

set_option maxRecDepth 8000 in
set_option maxHeartbeats 3200000 in
theorem choice_Without (w : World) (v u : Value) (ls : List LbT) (ns : List (List UInt8)) (hv : RdL w v ls) (hl : LbIn ls) (hll : ls.length ≤ 4398046511104) (hT : U8S w) (hn : RdN w u ns) :
    Calls Tryd.prog 16 #[v, u] w fun e w' => ∃ v', e = .returned (.tuple #[v', .int .i64 (chosS (p_Without ns) ls).2]) ∧ OwnL w' w.heap.size v' (chosS (p_Without ns) ls).1 ∧ w.grownBy w' none := by
  have hg := World.grownBy_alloc w (.cells #[u] 38) none
  have hb := Go.heap_alloc_new w (.cells #[u] 38)
  have HC : Hid (Calls Tryd.prog 32 #[v, .func (.func 35) #[] #[.pointer (some ⟨w.heap.size, 0, none⟩)]] (w.alloc (.cells #[u] 38)) fun e w' => ∃ v', e = .returned (.tuple #[v', .int .i64 (chosS (p_Without ns) ls).2]) ∧ Hid (OwnL w' w.heap.size v' (chosS (p_Without ns) ls).1 ∧ w.grownBy w' none)) :=
    (chosen_Without _ v ls w.heap.size ns (hv.keep hg) hl hll (hT.keep hg) ⟨u, by rw [World.cell?, hb]; rfl, hn.keep hg⟩).mono fun e w' ⟨v', h1, h2, h3⟩ => ⟨v', h1, h2.mono hg.size, gb_none hg h3⟩
  generalize chosS (p_Without ns) ls = C at *
  obtain ⟨C1, C2⟩ := C
  dsimp only at *
  obtain ⟨ua, uc, rfl⟩ : ∃ a c, u = .slice a ns.length c := by obtain ⟨a, c, h, _⟩ := hn; exact ⟨a, c, h⟩
  clear hv hl hT hn hb hg
  go_enter Tryd.func16, Tryd.ntmps16
  go_wp2_with fail
  refine HC.out.mono ?_
  rintro e w1 ⟨v1, rfl, H1⟩
  clear HC
  go_wp2
  go_ret2
  exact ⟨_, rfl, H1.out⟩

set_option maxRecDepth 8000 in
set_option maxHeartbeats 3200000 in
theorem chosen_Keep (w : World) (v : Value) (ls : List LbT) (nb : Nat) (ns : List (List UInt8)) (hv : RdL w v ls) (hl : LbIn ls) (hll : ls.length ≤ 4398046511104) (hT : U8S w) (hn : NmB w nb ns) :
    Calls Tryd.prog 32 #[v, .func (.func 33) #[] #[.pointer (some ⟨nb, 0, none⟩)]] w fun e w' => ∃ v', e = .returned (.tuple #[v', .int .i64 (chosS (p_Keep ns) ls).2]) ∧ OwnL w' w.heap.size v' (chosS (p_Keep ns) ls).1 ∧ w.grownBy w' none := by
  have HV : Hid (RdL w v ls ∧ NmB w nb ns) := ⟨hv, hn⟩
  have HR : Hid (Calls Tryd.prog 5 #[v] w fun e w' => e = .returned (.tuple #[.int .i64 (rightS ls).1, .int .i64 ((rightS ls).2 : Int)]) ∧ w.grownBy w' none) := right_any w v ls hv hl hT
  have HC : Hid (chosS (p_Keep ns) ls = if (rightS ls).1 = 0 then (pickL (p_Keep ns) ls, 0) else ([], (rightS ls).1)) := rfl
  obtain ⟨a, c, rfl, hc1, hc2, hc3, hc4⟩ := hv
  unfold maxLen at hc2
  obtain ⟨i0, hi, hz0, hz1, hz2⟩ := info_parts infoLb
  have HI : Hid (Tryd.prog.info? 42 = some i0 ∧ i0.zero = some (.agg #[.string ⟨#[]⟩, .string ⟨#[]⟩]) ∧ i0.size = 2 ∧ i0.bytes = 32) := ⟨hi, hz0, hz1, hz2⟩
  clear hc3 hc4 hl hT hn hi hz0 hz1 hz2
  generalize chosS (p_Keep ns) ls = C at *
  generalize (rightS ls).1 = r1 at *
  generalize (rightS ls).2 = r2 at *
  by_cases hr1 : r1 = 0
  · subst hr1
    rw [if_pos rfl] at HC
    have hC := HC.out
    subst hC
    dsimp only
    go_enter Tryd.func32, Tryd.ntmps32
    go_wp2_with fail
    refine HR.out.mono ?_
    rintro e w1 ⟨rfl, hg1⟩
    have H1 : Hid (w.grownBy w1 none) := hg1
    clear HR hg1 HC
    go_wp2
    go_loopw [8, 21] (fun u i wr => ∃ z : Nat, z ≤ ls.length ∧ i = .int .i64 z ∧ Hid (OwnL wr w.heap.size u (pickL (p_Keep ns) (ls.take z)) ∧ w.grownBy wr none)) (fun _ i _ => ls.length - (intOf i).toNat)
    case atStart => exact ⟨0, by omega, rfl, OwnL.nil _ _, H1.out⟩
    case round =>
      obtain ⟨z, hzN, rfl, hr⟩ := hrel
      by_cases hzl : z < ls.length
      · obtain ⟨a', c', he, -, -, h3, -⟩ := HV.out.1.keep hr.out.2
        simp only [Value.slice.injEq] at he
        obtain ⟨rfl, -, rfl⟩ := he
        obtain ⟨b, o, rfl, c0, c1⟩ := h3 z hzl
        have hzi : (z : Int) < (ls.length : Int) := by omega
        have hbl : ¬ b = wr.heap.size := by have := block_lt c0; omega
        have hbl2 : ¬ wr.heap.size = b := by omega
        have hstep := pick_step (p := p_Keep ns) hzl
        have hle : (pickL (p_Keep ns) (ls.take z)).length ≤ 4398046511104 := by have := pick_len (p_Keep ns) (ls.take z); simp at this; omega
        have HP : Hid (∀ W, w.grownBy W none → Calls Tryd.prog 33 #[.string (ByteArray.mk ⟨(ls.getD z ([], [])).1⟩), .pointer (some ⟨nb, 0, none⟩)] W fun e w' => e = .returned (.bool (p_Keep ns (ls.getD z ([], [])).1)) ∧ w' = W) := fun W hW => c1_Keep W nb ns _ (HV.out.2.keep hW)
        have HG : Hid (∀ C, w.grownBy (wr.alloc C) none) := fun C => gb_none hr.out.2 (World.grownBy_alloc _ _ none)
        clear h3
        generalize hpv : p_Keep ns (ls.getD z ([], [])).1 = pv at *
        cases pv with
        | false =>
          rw [if_neg (by simp), List.append_nil] at hstep
          have HE : Hid (∀ C, OwnL (wr.alloc C) w.heap.size u8 (pickL (p_Keep ns) (ls.take (z + 1))) ∧ w.grownBy (wr.alloc C) none) := fun C => ⟨by rw [hstep]; exact hr.out.1.keep (World.grownBy_alloc _ _ none), HG.out C⟩
          clear hr hstep hpv
          generalize ByteArray.mk ⟨(ls.getD z ([], [])).1⟩ = sn at *
          generalize ByteArray.mk ⟨(ls.getD z ([], [])).2⟩ = sv at *
          go_wp2_with fail
          refine (HP.out _ (HG.out _)).mono ?_
          rintro e w2 ⟨rfl, rfl⟩
          go_wp2
          go_roundw
          case rel => exact ⟨z + 1, by omega, by simp, HE.out _⟩
          case measure => simp [intOf]; omega
        | true =>
          rw [if_pos rfl] at hstep
          have HE : Hid (OwnL wr w.heap.size u8 (pickL (p_Keep ns) (ls.take z)) ∧ w.grownBy wr none ∧ pickL (p_Keep ns) (ls.take (z + 1)) = pickL (p_Keep ns) (ls.take z) ++ [((ls.getD z ([], [])).1, (ls.getD z ([], [])).2)]) := ⟨hr.out.1, hr.out.2, hstep⟩
          clear hr hstep hpv
          generalize (ls.getD z ([], [])).1 = tn at *
          generalize (ls.getD z ([], [])).2 = tv at *
          go_wp2_with fail
          refine (HP.out _ (HG.out _)).mono ?_
          rintro e w2 ⟨rfl, rfl⟩
          go_wp2_with (at_builtin; refine wp_appH rfl _ _ 22 42 rfl i0 _ 2 32 w.heap.size Tryd.underlying22 HI.out.1 HI.out.2.1 HI.out.2.2.1 HI.out.2.2.2 rfl (by decide) _ (pickL (p_Keep ns) (ls.take z)).length (lbf (pickL (p_Keep ns) (ls.take z))) (some ⟨wr.heap.size + 1, 0, none⟩) 1 1 [.string (ByteArray.mk ⟨tn⟩), .string (ByteArray.mk ⟨tv⟩)] rfl rfl (World.ownsRow.alloc (World.ownsRow.alloc HE.out.1 _) _) rfl (box_rdc1 wr _ _ _) (fun h => by cases h) (two_one _ _) (by omega) (by omega) (by have := HE.out.2.1.size; simp; omega) ?_)
          intro v1 w1' ho1 hf1
          have hg1 : wr.grownBy w1' u8.ownBlock := gb_trans (gb_any (gb_none (World.grownBy_alloc wr (.cells #[.string (ByteArray.mk ⟨tn⟩), .string (ByteArray.mk ⟨tv⟩)] 42) none) (World.grownBy_alloc _ (.cells #[.string (ByteArray.mk ⟨tn⟩), .string (ByteArray.mk ⟨tv⟩)] 42) none)) _) hf1.1 (fun k hk _ => hk.symm)
          have H2 : Hid (OwnL w1' w.heap.size v1 (pickL (p_Keep ns) (ls.take (z + 1))) ∧ w.grownBy w1' none) := ⟨by rw [HE.out.2.2]; exact OwnL.snoc ho1, gb_new HE.out.2.1 hg1 (fun k hk => (HE.out.1.lt k hk).1)⟩
          clear ho1 hf1 hg1 HE
          go_wp2
          go_roundw
          case rel => exact ⟨z + 1, by omega, by simp, H2.out⟩
          case measure => simp [intOf]; omega
      · have hzi : ¬ (z : Int) < (ls.length : Int) := by omega
        have HE : Hid (OwnL wr w.heap.size u8 (pickL (p_Keep ns) ls) ∧ w.grownBy wr none) := ⟨by have := hr.out.1; rwa [List.take_of_length_le (by omega)] at this, hr.out.2⟩
        clear hr
        go_wp2
        go_ret2
        exact ⟨_, rfl, HE.out⟩
  · rw [if_neg hr1] at HC
    have hC := HC.out
    subst hC
    dsimp only
    have hrb : (r1 == 0) = false := by rw [beq_eq_false_iff_ne]; exact hr1
    go_enter Tryd.func32, Tryd.ntmps32
    go_wp2_with fail
    refine HR.out.mono ?_
    rintro e w1 ⟨rfl, hg1⟩
    have H1 : Hid (w.grownBy w1 none) := hg1
    clear HR hg1 HC
    go_wp2
    go_ret2
    exact ⟨_, rfl, OwnL.nil _ _, H1.out⟩

set_option maxRecDepth 8000 in
set_option maxHeartbeats 3200000 in
theorem choice_Keep (w : World) (v u : Value) (ls : List LbT) (ns : List (List UInt8)) (hv : RdL w v ls) (hl : LbIn ls) (hll : ls.length ≤ 4398046511104) (hT : U8S w) (hn : RdN w u ns) :
    Calls Tryd.prog 15 #[v, u] w fun e w' => ∃ v', e = .returned (.tuple #[v', .int .i64 (chosS (p_Keep ns) ls).2]) ∧ OwnL w' w.heap.size v' (chosS (p_Keep ns) ls).1 ∧ w.grownBy w' none := by
  have hg := World.grownBy_alloc w (.cells #[u] 38) none
  have hb := Go.heap_alloc_new w (.cells #[u] 38)
  have HC : Hid (Calls Tryd.prog 32 #[v, .func (.func 33) #[] #[.pointer (some ⟨w.heap.size, 0, none⟩)]] (w.alloc (.cells #[u] 38)) fun e w' => ∃ v', e = .returned (.tuple #[v', .int .i64 (chosS (p_Keep ns) ls).2]) ∧ Hid (OwnL w' w.heap.size v' (chosS (p_Keep ns) ls).1 ∧ w.grownBy w' none)) :=
    (chosen_Keep _ v ls w.heap.size ns (hv.keep hg) hl hll (hT.keep hg) ⟨u, by rw [World.cell?, hb]; rfl, hn.keep hg⟩).mono fun e w' ⟨v', h1, h2, h3⟩ => ⟨v', h1, h2.mono hg.size, gb_none hg h3⟩
  generalize chosS (p_Keep ns) ls = C at *
  obtain ⟨C1, C2⟩ := C
  dsimp only at *
  obtain ⟨ua, uc, rfl⟩ : ∃ a c, u = .slice a ns.length c := by obtain ⟨a, c, h, _⟩ := hn; exact ⟨a, c, h⟩
  clear hv hl hT hn hb hg
  go_enter Tryd.func15, Tryd.ntmps15
  go_wp2_with fail
  refine HC.out.mono ?_
  rintro e w1 ⟨v1, rfl, H1⟩
  clear HC
  go_wp2
  go_ret2
  exact ⟨_, rfl, H1.out⟩

end Go.Proofs.YtkcgikgihbglnabDoor

namespace Go.Proofs.YtkcgikgihbglnabDoor
open Go.RowKit

/-- the document's predicate -/
def p_In (ns : List (List UInt8)) (b : Bool) (s : List UInt8) : Bool := hasN ns s == b
theorem p_In_false (ns : List (List UInt8)) : p_In ns false = p_Without ns := by funext s; unfold p_In p_Without; cases hasN ns s <;> rfl
theorem p_In_true (ns : List (List UInt8)) : p_In ns true = p_Keep ns := by funext s; unfold p_In p_Keep; cases hasN ns s <;> rfl

end Go.Proofs.YtkcgikgihbglnabDoor
