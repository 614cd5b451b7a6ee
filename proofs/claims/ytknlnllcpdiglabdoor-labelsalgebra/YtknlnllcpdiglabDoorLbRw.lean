/-
  A label set with another label: plain facts of lists; the walks of both sides.
-/
import Derived.Test.YtknlnllcpdiglabDoorLbBs
import Derived.Test.YtknlnllcpdiglabDoorLbPk
import Derived.Deep.Slices
import Derived.Test.YtknlnllcpdiglabDoorLbRs
namespace Go.Proofs.YtknlnllcpdiglabDoor

theorem firstAt_ok (ls : List LbT) : ∀ (f i : Nat), (firstAt ls f i).1 = 0 → ∀ j, i ≤ j → j < i + f → errAt ls j = 0
  | 0, i, _, j, h1, h2 => by omega
  | f + 1, i, h, j, h1, h2 => by
    rw [firstAt] at h
    by_cases he : errAt ls i = 0
    · rw [if_neg (by simpa using he)] at h
      by_cases hj : j = i
      · rw [hj]; exact he
      · exact firstAt_ok ls f (i + 1) h j (by omega) (by omega)
    · rw [if_pos he] at h
      exact absurd h he
theorem ris_of_adj : ∀ {a : List LbT}, (∀ j, 0 < j → j < a.length → (a.getD (j - 1) ([], [])).1 < (a.getD j ([], [])).1) → risN a
  | [], _ => List.Pairwise.nil
  | x :: a, h => by
    have ih : risN a := ris_of_adj (fun j h1 h2 => by
      have := h (j + 1) (by omega) (by simpa using h2)
      obtain ⟨k, rfl⟩ : ∃ k, j = k + 1 := ⟨j - 1, by omega⟩
      simpa using this)
    refine List.pairwise_cons.2 ⟨fun z hz => ?_, ih⟩
    cases a with
    | nil => cases hz
    | cons y a =>
      have h1 : x.1 < y.1 := by simpa using h 1 (by omega) (by simp)
      rcases List.mem_cons.1 hz with rfl | hz
      · exact h1
      · exact List.lt_trans h1 ((List.pairwise_cons.1 ih).1 z hz)
/-- a right label set rises, and has at most sixteen labels -/
theorem right_ris {ls : List LbT} (h : (rightS ls).1 = 0) : ls.length ≤ 16 ∧ risN ls := by
  unfold rightS at h
  by_cases h16 : 16 < ls.length
  · rw [if_pos h16] at h; cases h
  · rw [if_neg h16] at h
    refine ⟨by omega, ris_of_adj fun j h1 h2 => ?_⟩
    have he := firstAt_ok ls _ _ h j (by omega) (by omega)
    unfold errAt at he
    by_cases h3 : oneE (ls.getD j ([], [])).1 (ls.getD j ([], [])).2 = 0
    · rw [if_neg (by simpa using h3)] at he
      by_cases h4 : (ls.getD (j - 1) ([], [])).1 < (ls.getD j ([], [])).1
      · exact h4
      · rw [if_pos ⟨h1, h4⟩] at he; cases he
    · rw [if_pos h3] at he
      exact absurd he h3
theorem ris_srt {a : List LbT} (h : risN a) : srtN a := h.imp fun hab hba => List.lt_irrefl _ (List.lt_trans hab hba)
theorem ris_nd {a : List LbT} (h : risN a) : ndN a := h.imp fun hab e => by rw [e] at hab; exact List.lt_irrefl _ hab

theorem has_one (nm s : List UInt8) : hasN [nm] s = decide (s = nm) := by unfold hasN; simp
theorem pW_one (nm s : List UInt8) : p_Without [nm] s = !decide (s = nm) := by unfold p_Without; rw [has_one]
/-- what is behind the place of a name -/
def behindN (ls : List LbT) (nm : List UInt8) (p : Nat) : Nat := if p < ls.length ∧ (ls.getD p ([], [])).1 = nm then p + 1 else p
theorem behind_le {ls : List LbT} {nm : List UInt8} {p : Nat} (h : AtN ls nm p) : p ≤ behindN ls nm p ∧ behindN ls nm p ≤ ls.length := by
  unfold behindN
  have := h.1
  split <;> omega
theorem drop_gt {ls : List LbT} {nm : List UInt8} {p : Nat} (hs : risN ls) (h : AtN ls nm p) : ∀ x ∈ ls.drop (behindN ls nm p), nm < x.1 := by
  intro x hx
  obtain ⟨j, hj, rfl⟩ := List.getElem_of_mem hx
  rw [List.getElem_drop]
  have hjl : behindN ls nm p + j < ls.length := by simp at hj; omega
  have hge := h.2.2 (behindN ls nm p + j) (by have := (behind_le h).1; omega) hjl
  have e1 : ls.getD (behindN ls nm p + j) ([], []) = ls[behindN ls nm p + j] := by simp [List.getD, hjl]
  rw [e1] at hge
  rcases lt_tri ls[behindN ls nm p + j].1 nm with h1 | h1 | h1
  · exact absurd h1 hge
  · exfalso
    by_cases hth : p < ls.length ∧ (ls.getD p ([], [])).1 = nm
    · have hb : behindN ls nm p = p + 1 := by unfold behindN; rw [if_pos hth]
      have := ris_lt hs (show p < behindN ls nm p + j by omega) hjl
      rw [e1, h1, hth.2] at this
      exact List.lt_irrefl _ this
    · have hb : behindN ls nm p = p := by unfold behindN; rw [if_neg hth]
      by_cases hj0 : j = 0
      · subst hj0
        simp only [hb, Nat.add_zero] at h1 hjl
        refine hth ⟨hjl, ?_⟩
        have e2 : ls.getD p ([], []) = ls[p] := by simp [List.getD, hjl]
        rw [e2]; exact h1
      · have hpl : p < ls.length := by omega
        have h2 := ris_lt hs (show p < behindN ls nm p + j by omega) hjl
        rw [e1, h1] at h2
        exact h.2.2 p (Nat.le_refl _) hpl h2
  · exact h1
theorem take_lt {ls : List LbT} {nm : List UInt8} {p : Nat} (h : AtN ls nm p) : ∀ x ∈ ls.take p, x.1 < nm := by
  intro x hx
  obtain ⟨j, hj, rfl⟩ := List.getElem_of_mem hx
  have hj' : j < p ∧ j < ls.length := by simp at hj; omega
  rw [List.getElem_take]
  have := h.2.1 j hj'.1
  have e1 : ls.getD j ([], []) = ls[j] := by simp [List.getD, hj'.2]
  rwa [e1] at this
theorem pick_all {p : List UInt8 → Bool} {a : List LbT} (h : ∀ x ∈ a, p x.1 = true) : pickL p a = a := List.filter_eq_self.2 h
/-- without a name: what is ahead of its place, and what is behind -/
theorem pick_parts {ls : List LbT} {nm : List UInt8} {p : Nat} (hs : risN ls) (h : AtN ls nm p) : pickL (p_Without [nm]) ls = ls.take p ++ ls.drop (behindN ls nm p) := by
  have ht : pickL (p_Without [nm]) (ls.take p) = ls.take p := pick_all fun x hx => by
    rw [pW_one]
    have := take_lt h x hx
    have hne : x.1 ≠ nm := fun e => by rw [e] at this; exact List.lt_irrefl _ this
    simp [hne]
  have hd : pickL (p_Without [nm]) (ls.drop (behindN ls nm p)) = ls.drop (behindN ls nm p) := pick_all fun x hx => by
    rw [pW_one]
    have := drop_gt hs h x hx
    have hne : x.1 ≠ nm := fun e => by rw [e] at this; exact List.lt_irrefl _ this
    simp [hne]
  have hm : pickL (p_Without [nm]) (ls.drop p) = pickL (p_Without [nm]) (ls.drop (behindN ls nm p)) := by
    by_cases hth : p < ls.length ∧ (ls.getD p ([], [])).1 = nm
    · have hb : behindN ls nm p = p + 1 := by unfold behindN; rw [if_pos hth]
      rw [hb, List.drop_eq_getElem_cons hth.1]
      have e2 : ls.getD p ([], []) = ls[p]'hth.1 := by simp [List.getD, hth.1]
      have hpn : p_Without [nm] (ls[p]'hth.1).1 = false := by rw [pW_one, ← e2, hth.2]; simp
      unfold pickL
      rw [List.filter_cons, hpn]
      rfl
    · have hb : behindN ls nm p = p := by unfold behindN; rw [if_neg hth]
      rw [hb]
  have : pickL (p_Without [nm]) (ls.take p ++ ls.drop p) = pickL (p_Without [nm]) (ls.take p) ++ pickL (p_Without [nm]) (ls.drop p) := List.filter_append ..
  rw [List.take_append_drop] at this
  rw [this, ht, hm, hd]
/-- the set with the label in its place -/
theorem with_eq {ls : List LbT} {nm val : List UInt8} {p : Nat} (hs : risN ls) (h : AtN ls nm p) : ls.take p ++ [(nm, val)] ++ ls.drop (behindN ls nm p) = sortN (pickL (p_Without [nm]) ls ++ [(nm, val)]) := by
  have hr : risN (ls.take p ++ [(nm, val)] ++ ls.drop (behindN ls nm p)) := by
    rw [List.append_assoc]
    refine List.pairwise_append.2 ⟨List.Pairwise.sublist (List.take_sublist _ _) hs, List.pairwise_cons.2 ⟨fun x hx => drop_gt hs h x (by simpa using hx), by simpa using List.Pairwise.sublist (List.drop_sublist _ _) hs⟩, fun x hx y hy => ?_⟩
    have h1 := take_lt h x hx
    rcases List.mem_cons.1 hy with rfl | hy
    · exact h1
    · exact List.lt_trans h1 (drop_gt hs h y (by simpa using hy))
  have hp : (ls.take p ++ [(nm, val)] ++ ls.drop (behindN ls nm p)).Perm (pickL (p_Without [nm]) ls ++ [(nm, val)]) := by
    rw [pick_parts hs h, List.append_assoc, List.append_assoc]
    exact List.Perm.append_left _ List.perm_append_comm
  exact sort_uniq hp (ris_srt hr) ((ndN_perm hp).1 (ris_nd hr))
/-- what With answers -/
def withS (ls : List LbT) (nm val : List UInt8) : List LbT × Int :=
  if (rightS ls).1 ≠ 0 then ([], (rightS ls).1) else if nameB nm = false then ([], 40) else if val = [] then (pickL (p_Without [nm]) ls, 0)
  else if valueE val ≠ 0 then ([], valueE val) else if 16 < (sortN (pickL (p_Without [nm]) ls ++ [(nm, val)])).length then ([], 8) else (sortN (pickL (p_Without [nm]) ls ++ [(nm, val)]), 0)
theorem one_value {nm val : List UInt8} (h1 : nameB nm = true) (h2 : val ≠ []) : oneE nm val = valueE val := by
  unfold oneE valueE
  rw [if_neg (by rw [h1]; simp), if_neg h2]
end Go.Proofs.YtknlnllcpdiglabDoor

namespace Go.Proofs.YtknlnllcpdiglabDoor
open Go.RowKit

theorem RdL.ahead {w : World} {a : Option Addr} {c : Nat} {ls : List LbT} (h : RdL w (.slice a ls.length c) ls) (p : Nat) : RdC w a (lbf (ls.take p)) := by
  have h1 := h.rdc
  intro j u hj
  refine h1 j u ?_
  rw [← List.take_append_drop p ls, lbf_append, List.getElem?_append_left (List.getElem?_eq_some_iff.1 hj).1]
  exact hj
/-- the names of one -/
theorem one_name (w : World) (nm : List UInt8) : RdN (w.alloc (.cells #[.string (ByteArray.mk ⟨nm⟩)] 9)) (.slice (some ⟨w.heap.size, 0, none⟩) 1 1) [nm] := by
  refine ⟨some ⟨w.heap.size, 0, none⟩, 1, rfl, by simp, by simp [maxLen], fun j hj => ⟨w.heap.size, 0, rfl, ?_⟩, fun h => by cases h⟩
  have hj0 : j = 0 := by simp at hj; exact hj
  subst hj0
  have ha := Go.heap_alloc_new w (.cells #[.string (ByteArray.mk ⟨nm⟩)] 9)
  rw [World.cell?, ha]
  rfl
/-- where a slice's end begins -/
def tailA (a : Option Addr) (c q : Nat) : Option Addr := if c = q then a else a.map (·.add (q * 2))
theorem RdL.behind {w : World} {a : Option Addr} {c : Nat} {ls : List LbT} (h : RdL w (.slice a ls.length c) ls) (q : Nat) (hq : q ≤ ls.length) : RdC w (tailA a c q) (lbf (ls.drop q)) := by
  have h1 := h.rdc
  intro j u hj
  have hjl := (List.getElem?_eq_some_iff.1 hj).1
  rw [lbf_len, List.length_drop] at hjl
  have hlen : (lbf (ls.take q)).length = q * 2 := by rw [lbf_len, List.length_take, Nat.min_eq_left hq]
  obtain ⟨ad, e, hc⟩ := h1 (q * 2 + j) u (by rw [← List.take_append_drop q ls, lbf_append, List.getElem?_append_right (by omega), hlen, Nat.add_sub_cancel_left]; exact hj)
  have hcq : ¬ c = q := by
    obtain ⟨a', c', he, hc1, -⟩ := h
    simp only [Value.slice.injEq] at he
    obtain ⟨-, -, rfl⟩ := he
    omega
  refine ⟨ad.add (q * 2), ?_, ?_⟩
  · unfold tailA
    rw [if_neg hcq, e]
    rfl
  · rw [Go.Deep.add_add]
    exact hc
theorem tail_nil {w : World} {a : Option Addr} {c : Nat} {ls : List LbT} (h : RdL w (.slice a ls.length c) ls) (q : Nat) (hq : q ≤ ls.length) : tailA a c q = none → ls.length - q = 0 ∧ c - q = 0 := by
  obtain ⟨a', c', he, hc1, -, -, hc5⟩ := h
  simp only [Value.slice.injEq] at he
  obtain ⟨rfl, -, rfl⟩ := he
  intro h
  have ha : a = none := by
    unfold tailA at h
    split at h
    · exact h
    · cases a with
      | none => rfl
      | some x => cases h
  have := hc5 ha
  omega
theorem run_headL (W : World) (a : Option Addr) (n c p : Nat) (hp : p ≤ n) (hc : n ≤ c) : (Instr.slice 22 (.slice a n c) none (some (.int .i64 (p : Int))) none).run Tryd.prog W = .ok (.slice a p c) W := by
  have ht' : Tryd.prog.underlying 22 = some (.slice (Tryd.prog.elem 22)) := by simp [Program.elem, Tryd.underlying22]
  have he : Tryd.prog.elem 22 = 42 := by simp [Program.elem, Tryd.underlying22]
  rw [run_slice_h W _ _ _ _ ht' .i64 _ (by omega) (by omega), he, Tryd.sizeOf42]
  have hm : (Option.map (fun x => Addr.add x (0 * 2)) a) = a := by cases a <;> simp [Addr.add]
  simp [Result.andThen, sliced]
  intro _
  simpa using hm
theorem run_tailL (W : World) (a : Option Addr) (n c q : Nat) (hq : q ≤ n) : (Instr.slice 22 (.slice a n c) (some (.int .i64 (q : Int))) none none).run Tryd.prog W = .ok (.slice (tailA a c q) (n - q) (c - q)) W := by
  have ht' : Tryd.prog.underlying 22 = some (.slice (Tryd.prog.elem 22)) := by simp [Program.elem, Tryd.underlying22]
  have he : Tryd.prog.elem 22 = 42 := by simp [Program.elem, Tryd.underlying22]
  rw [run_slice_l W _ _ _ _ ht' .i64 _ (by omega) (by omega), he, Tryd.sizeOf42]
  simp [Result.andThen, sliced, tailA]
/-- room made for labels -/
theorem made_own (W : World) (n base : Nat) (hn : n ≤ 1000) (hb : base ≤ W.heap.size) : OwnL (W.alloc (.cells (madeCells (Value.agg #[.string ⟨#[]⟩, .string ⟨#[]⟩]).cells (n * 2)) 42)) base (.slice (some ⟨W.heap.size, 0, none⟩) 0 n) [] := by
  refine ⟨rfl, .inr ⟨W.heap.size, n, _, rfl, hb, Go.heap_alloc_new W _, by simp, by unfold maxLen; omega, ?_, ?_⟩⟩
  · rw [size_madeCells]
  · simp [lbf]

set_option maxRecDepth 8000 in
set_option maxHeartbeats 6400000 in
theorem with_any (w : World) (v : Value) (ls : List LbT) (nm val : List UInt8) (hv : RdL w v ls) (hl : LbIn ls) (hll : ls.length ≤ 4398046511104) (hnm : nm.length ≤ 1000000000000000000) (hval : val.length ≤ 1000000000000000000) (hT : U8S w) :
    Calls Tryd.prog 13 #[v, .string (ByteArray.mk ⟨nm⟩), .string (ByteArray.mk ⟨val⟩)] w fun e w' => ∃ v', e = .returned (.tuple #[v', .int .i64 (withS ls nm val).2]) ∧ OwnL w' w.heap.size v' (withS ls nm val).1 ∧ w.grownBy w' none := by
  have HR : Hid (Calls Tryd.prog 5 #[v] w fun e w' => e = .returned (.tuple #[.int .i64 (rightS ls).1, .int .i64 ((rightS ls).2 : Int)]) ∧ w.grownBy w' none) := right_any w v ls hv hl hT
  have HN : Hid (∀ W, Calls Tryd.prog 28 #[.string (ByteArray.mk ⟨nm⟩)] W fun e w' => e = .returned (.bool (nameB nm)) ∧ W.grownBy w' none) := fun W => name_any W nm hnm
  have HWo : Hid (∀ W, w.grownBy W none → Calls Tryd.prog 16 #[v, .slice (some ⟨W.heap.size, 0, none⟩) 1 1] (W.alloc (.cells #[.string (ByteArray.mk ⟨nm⟩)] 9)) fun e w' => ∃ v', e = .returned (.tuple #[v', .int .i64 (chosS (p_Without [nm]) ls).2]) ∧ Hid (OwnL w' w.heap.size v' (chosS (p_Without [nm]) ls).1 ∧ w.grownBy w' none)) := fun W hW => by
    have hW2 := gb_none hW (World.grownBy_alloc W (.cells #[.string (ByteArray.mk ⟨nm⟩)] 9) none)
    exact (choice_Without _ v _ ls [nm] (hv.keep hW2) hl hll (hT.keep hW2) (one_name W nm)).mono fun e w' ⟨v', h1, h2, h3⟩ => ⟨v', h1, h2.mono hW2.size, gb_none hW2 h3⟩
  have HVE : Hid (∀ W, w.grownBy W none → Calls Tryd.prog 29 #[.string (ByteArray.mk ⟨val⟩)] W fun e w' => e = .returned (.int .i64 (valueE val)) ∧ W.grownBy w' none) := fun W hW => rightValue_any W val hval (hT.keep hW)
  have HBS : Hid ((rightS ls).1 = 0 → ∀ W, w.grownBy W none → Calls Tryd.prog 30 #[v, .string (ByteArray.mk ⟨nm⟩), .func (.func 31) #[] #[]] W fun e w' => ∃ p : Nat, e = .returned (.tuple #[.int .i64 (p : Int), .bool (decide (p < ls.length ∧ (ls.getD p ([], [])).1 = nm))]) ∧ AtN ls nm p ∧ W.grownBy w' none) := fun h W hW => bsearch_any W v ls nm (hv.keep hW) (right_ris h).1 (right_ris h).2
  have HS : Hid (withS ls nm val = if (rightS ls).1 ≠ 0 then ([], (rightS ls).1) else if nameB nm = false then ([], 40) else if val = [] then (pickL (p_Without [nm]) ls, 0) else if valueE val ≠ 0 then ([], valueE val) else if 16 < (sortN (pickL (p_Without [nm]) ls ++ [(nm, val)])).length then ([], 8) else (sortN (pickL (p_Without [nm]) ls ++ [(nm, val)]), 0)) := rfl
  have HC : Hid ((rightS ls).1 = 0 → chosS (p_Without [nm]) ls = (pickL (p_Without [nm]) ls, 0)) := fun h => by unfold chosS; rw [if_pos h]
  have HRS : Hid ((rightS ls).1 = 0 → ls.length ≤ 16 ∧ risN ls) := right_ris
  have HV : Hid (RdL w v ls) := hv
  obtain ⟨a, c, rfl, hc1, hc2, -, hc4⟩ := hv
  unfold maxLen at hc2
  clear hl hT
  generalize withS ls nm val = R at *
  generalize (rightS ls).1 = r1 at *
  generalize (rightS ls).2 = r2 at *
  generalize valueE val = vE at *
  by_cases hr1 : r1 = 0
  · subst hr1
    rw [if_neg (by simp)] at HS
    generalize hbn : nameB nm = bn at *
    cases bn with
    | false =>
      rw [if_pos rfl] at HS
      have hR := HS.out
      subst hR
      dsimp only
      generalize ByteArray.mk ⟨nm⟩ = sn at *
      generalize ByteArray.mk ⟨val⟩ = sv at *
      go_enter Tryd.func13, Tryd.ntmps13
      go_wp2_with fail
      refine HR.out.mono ?_
      rintro e w1 ⟨rfl, hg1⟩
      have H1 : Hid (w.grownBy w1 none) := hg1
      clear HR hg1
      go_wp2_with fail
      refine (HN.out _).mono ?_
      rintro e w2 ⟨rfl, hg2⟩
      have H2 : Hid (w.grownBy w2 none) := gb_none H1.out hg2
      clear HN hg2 H1
      go_wp2
      go_ret2
      exact ⟨_, rfl, OwnL.nil _ _, H2.out⟩
    | true =>
      rw [if_neg (by simp)] at HS
      by_cases hv0 : val = []
      · subst hv0
        rw [if_pos rfl] at HS
        have hR := HS.out
        subst hR
        rw [HC.out (by first | rfl | trivial)] at HWo
        dsimp only at HWo ⊢
        generalize ByteArray.mk ⟨nm⟩ = sn at *
        go_enter Tryd.func13, Tryd.ntmps13
        go_wp2_with fail
        refine HR.out.mono ?_
        rintro e w1 ⟨rfl, hg1⟩
        have H1 : Hid (w.grownBy w1 none) := hg1
        clear HR hg1
        go_wp2_with fail
        refine (HN.out _).mono ?_
        rintro e w2 ⟨rfl, hg2⟩
        have H2 : Hid (w.grownBy w2 none) := gb_none H1.out hg2
        clear HN hg2 H1
        go_wp2_with fail
        refine (HWo.out _ H2.out).mono ?_
        rintro e w3 ⟨v3, rfl, H3⟩
        clear HWo
        go_wp2
        go_ret2
        exact ⟨_, rfl, H3.out⟩
      · rw [if_neg hv0] at HS
        obtain ⟨e1, e2, e3⟩ := empty_facts hv0
        by_cases hvE : vE = 0
        · subst hvE
          rw [if_neg (by simp)] at HS
          generalize hpk : pickL (p_Without [nm]) ls = PK at *
          have HPK : Hid (pickL (p_Without [nm]) ls = PK) := hpk
          clear hpk
          obtain ⟨h16, hris⟩ := HRS.out (by first | rfl | trivial)
          have HRIS : Hid (risN ls) := hris
          clear hris
          obtain ⟨i0, hi, hz0, hz1, hz2⟩ := info_parts infoLb
          have HI : Hid (Tryd.prog.info? 42 = some i0 ∧ i0.zero = some (.agg #[.string ⟨#[]⟩, .string ⟨#[]⟩]) ∧ i0.size = 2 ∧ i0.bytes = 32) := ⟨hi, hz0, hz1, hz2⟩
          have HMK : Hid (∀ W : World, (Instr.makeSlice 22 (.int .i64 0) (.int .i64 ((ls.length : Int) + 1))).run Tryd.prog W = .ok (.slice (some ⟨W.heap.size, 0, none⟩) 0 (ls.length + 1)) (W.alloc (.cells (madeCells (Value.agg #[.string ⟨#[]⟩, .string ⟨#[]⟩]).cells ((ls.length + 1) * 2)) 42))) := fun W => by
            have hmk := run_make W 22 42 i0 _ Tryd.underlying22 hi hz0 .i64 .i64 0 ((ls.length : Int) + 1) (by omega) (by omega) (by rw [hz2]; omega) (by omega)
            rw [hz1] at hmk
            simpa using hmk
          clear hi hz0 hz1 hz2
          generalize hsn : ByteArray.mk ⟨nm⟩ = sn at *
          generalize hsv : ByteArray.mk ⟨val⟩ = sv at *
          have HSN : Hid (ByteArray.mk ⟨nm⟩ = sn ∧ ByteArray.mk ⟨val⟩ = sv) := ⟨hsn, hsv⟩
          clear hsn hsv
          go_enter Tryd.func13, Tryd.ntmps13
          go_wp2_with fail
          refine HR.out.mono ?_
          rintro e w1 ⟨rfl, hg1⟩
          have H1 : Hid (w.grownBy w1 none) := hg1
          clear HR hg1
          go_wp2_with fail
          refine (HN.out _).mono ?_
          rintro e w2 ⟨rfl, hg2⟩
          have H2 : Hid (w.grownBy w2 none) := gb_none H1.out hg2
          clear HN hg2 H1
          go_wp2_with fail
          refine (HVE.out _ H2.out).mono ?_
          rintro e w3 ⟨rfl, hg3⟩
          have H3 : Hid (w.grownBy w3 none) := gb_none H2.out hg3
          clear HVE hg3 H2
          go_wp2_with fail
          refine (HBS.out (by first | rfl | trivial) _ H3.out).mono ?_
          rintro e w4 ⟨p, rfl, hat, hg4⟩
          have H4 : Hid (w.grownBy w4 none ∧ AtN ls nm p) := ⟨gb_none H3.out hg4, hat⟩
          have hpl : p ≤ ls.length := hat.1
          have hsl1 : ∀ W, (Instr.slice 22 (.slice a ls.length c) none (some (.int .i64 (p : Int))) none).run Tryd.prog W = .ok (.slice a p c) W := fun W => run_headL W a ls.length c p hpl hc1
          have hmk := HMK.out w4
          have HWE : Hid (ls.take p ++ [(nm, val)] ++ ls.drop (behindN ls nm p) = sortN (PK ++ [(nm, val)])) := by rw [← HPK.out]; exact with_eq HRIS.out hat
          clear hg4 H3 HBS HWo HMK hat
          by_cases hth : p < ls.length ∧ (ls.getD p ([], [])).1 = nm
          · rw [decide_eq_true hth]
            have hbh : behindN ls nm p = p + 1 := by unfold behindN; rw [if_pos hth]
            obtain ⟨q, hq⟩ : ∃ q, q = p + 1 := ⟨_, rfl⟩
            have HWF : Hid (ls.take p ++ [(nm, val)] ++ ls.drop q = sortN (PK ++ [(nm, val)])) := by rw [hq, ← hbh]; exact HWE.out
            have hqi : (p : Int) + 1 = (q : Int) := by omega
            have hql : q ≤ ls.length := by omega
            have hsl2 : ∀ W, (Instr.slice 22 (.slice a ls.length c) (some (.int .i64 (q : Int))) none none).run Tryd.prog W = .ok (.slice (tailA a c q) (ls.length - q) (c - q)) W := fun W => run_tailL W a ls.length c q hql
            have HQ : Hid (q = p + 1) := hq
            clear hq hth hbh
            have hlen : (sortN (PK ++ [(nm, val)])).length = p + 1 + (ls.length - q) := by
              rw [← HWF.out]
              simp
              omega
            have hR : R = (sortN (PK ++ [(nm, val)]), 0) := by rw [HS.out, if_neg (by rw [hlen]; have := HQ.out; omega)]
            subst hR
            dsimp only
            clear hlen HS
            go_wp2_with (at_builtin; refine wp_appH rfl _ _ 22 42 rfl i0 _ 2 32 w.heap.size Tryd.underlying22 HI.out.1 HI.out.2.1 HI.out.2.2.1 HI.out.2.2.2 rfl (by decide) _ 0 (lbf []) a p c (lbf (ls.take p)) rfl rfl (made_own w4 (ls.length + 1) _ (by omega) H4.out.1.size) ?a1A ?a2A ?a3A (lbf_one _) ?a4A ?a5A ?a6A ?_)
            case a1A => rw [lbf_len, List.length_take, Nat.min_eq_left hpl]
            case a2A =>
              have hk := (HV.out.keep (gb_none H4.out.1 (World.grownBy_alloc w4 (.cells (madeCells (Value.agg #[.string ⟨#[]⟩, .string ⟨#[]⟩]).cells ((ls.length + 1) * 2)) 42) none))).ahead p
              exact hk
            case a3A => intro h; have := hc4 h; omega
            case a4A => omega
            case a5A => omega
            case a6A => have := H4.out.1.size; simp; omega
            intro v5 w5 ho5 hf5
            have H5 : Hid (OwnL w5 w.heap.size v5 (ls.take p) ∧ w.grownBy w5 none) := by
              refine ⟨?_, ?_⟩
              · unfold OwnL
                rw [List.length_take, Nat.min_eq_left hpl]
                simpa [lbf] using ho5
              · exact gb_new (gb_none H4.out.1 (World.grownBy_alloc w4 (.cells (madeCells (Value.agg #[.string ⟨#[]⟩, .string ⟨#[]⟩]).cells ((ls.length + 1) * 2)) 42) none)) hf5.1 (fun k hk => by simp [Value.ownBlock] at hk; have := H4.out.1.size; omega)
            clear ho5 hf5 hmk hsl1 H4
            go_wp2_with (at_builtin; refine wp_appH rfl _ _ 22 42 rfl i0 _ 2 32 w.heap.size Tryd.underlying22 HI.out.1 HI.out.2.1 HI.out.2.2.1 HI.out.2.2.2 rfl (by decide) _ (ls.take p).length (lbf (ls.take p)) (some ⟨w5.heap.size, 0, none⟩) 1 1 [.string sn, .string sv] rfl rfl (World.ownsRow.alloc H5.out.1 _) rfl (box_rdc w5 _ _) (fun h => by cases h) (two_one _ _) ?b4A ?b5A ?b6A ?_)
            case b4A => simp; omega
            case b5A => simp; omega
            case b6A => have := H5.out.2.size; simp; omega
            intro v6 w6 ho6 hf6
            have H6 : Hid (OwnL w6 w.heap.size v6 (ls.take p ++ [(nm, val)]) ∧ w.grownBy w6 none) := by
              refine ⟨?_, gb_new H5.out.2 (gb_trans (gb_any (World.grownBy_alloc w5 (.cells #[.string sn, .string sv] 42) none) _) hf6.1 (fun k hk _ => hk.symm)) (fun k hk => (H5.out.1.lt k hk).1)⟩
              refine OwnL.snoc ?_
              rw [HSN.out.1, HSN.out.2, List.length_take, Nat.min_eq_left hpl]
              exact ho6
            clear ho6 hf6 H5
            go_wp2_with (at_builtin; refine wp_appH rfl _ _ 22 42 rfl i0 _ 2 32 w.heap.size Tryd.underlying22 HI.out.1 HI.out.2.1 HI.out.2.2.1 HI.out.2.2.2 rfl (by decide) _ (ls.take p ++ [(nm, val)]).length (lbf (ls.take p ++ [(nm, val)])) (tailA a c q) (ls.length - q) (c - q) (lbf (ls.drop q)) rfl rfl H6.out.1 ?c1A ((HV.out.keep H6.out.2).behind q hql) (tail_nil HV.out q hql) (lbf_one _) ?c4A ?c5A H6.out.2.size ?_)
            case c1A => rw [lbf_len, List.length_drop]
            case c4A => simp; omega
            case c5A => simp; omega
            intro v7 w7 ho7 hf7
            have H7 : Hid (OwnL w7 w.heap.size v7 (sortN (PK ++ [(nm, val)])) ∧ w.grownBy w7 none) := by
              refine ⟨?_, gb_new H6.out.2 hf7.1 (fun k hk => (H6.out.1.lt k hk).1)⟩
              rw [← HWF.out]
              unfold OwnL
              rw [List.length_append, lbf_append, List.length_drop, show (ls.take p ++ [(nm, val)]).length = p + 1 by simp; omega]
              exact ho7
            clear ho7 hf7 H6 hsl2
            go_wp2
            go_ret2
            exact ⟨_, rfl, H7.out⟩
          · rw [decide_eq_false hth]
            have hbh : behindN ls nm p = p := by unfold behindN; rw [if_neg hth]
            rw [hbh] at HWE
            by_cases hfull : ls.length = 16
            · have hfi : ((ls.length : Int) == 16) = true := by rw [hfull]; rfl
              have hR : R = ([], 8) := by
                rw [HS.out, if_pos ?_]
                rw [← HWE.out]
                simp
                omega
              subst hR
              dsimp only
              clear HWE hsl1 hmk hth hbh
              go_wp2
              go_ret2
              exact ⟨_, rfl, OwnL.nil _ _, H4.out.1⟩
            · have hfi : ((ls.length : Int) == 16) = false := by rw [beq_eq_false_iff_ne]; omega
              obtain ⟨q, hq⟩ : ∃ q, q = p := ⟨_, rfl⟩
              have HWF : Hid (ls.take p ++ [(nm, val)] ++ ls.drop q = sortN (PK ++ [(nm, val)])) := by rw [hq]; exact HWE.out
              have hql : q ≤ ls.length := by omega
              have hsl2 : ∀ W, (Instr.slice 22 (.slice a ls.length c) (some (.int .i64 (p : Int))) none none).run Tryd.prog W = .ok (.slice (tailA a c q) (ls.length - q) (c - q)) W := fun W => by subst hq; exact run_tailL W a ls.length c q hql
              have HQ : Hid (q = p) := hq
              clear hq hth hbh
              have hlen : (sortN (PK ++ [(nm, val)])).length = p + 1 + (ls.length - q) := by
                rw [← HWF.out]
                simp
                omega
              have hR : R = (sortN (PK ++ [(nm, val)]), 0) := by rw [HS.out, if_neg (by rw [hlen]; have := HQ.out; omega)]
              subst hR
              dsimp only
              clear hlen HS
              go_wp2_with (at_builtin; refine wp_appH rfl _ _ 22 42 rfl i0 _ 2 32 w.heap.size Tryd.underlying22 HI.out.1 HI.out.2.1 HI.out.2.2.1 HI.out.2.2.2 rfl (by decide) _ 0 (lbf []) a p c (lbf (ls.take p)) rfl rfl (made_own w4 (ls.length + 1) _ (by omega) H4.out.1.size) ?a1B ?a2B ?a3B (lbf_one _) ?a4B ?a5B ?a6B ?_)
              case a1B => rw [lbf_len, List.length_take, Nat.min_eq_left hpl]
              case a2B =>
                have hk := (HV.out.keep (gb_none H4.out.1 (World.grownBy_alloc w4 (.cells (madeCells (Value.agg #[.string ⟨#[]⟩, .string ⟨#[]⟩]).cells ((ls.length + 1) * 2)) 42) none))).ahead p
                exact hk
              case a3B => intro h; have := hc4 h; omega
              case a4B => omega
              case a5B => omega
              case a6B => have := H4.out.1.size; simp; omega
              intro v5 w5 ho5 hf5
              have H5 : Hid (OwnL w5 w.heap.size v5 (ls.take p) ∧ w.grownBy w5 none) := by
                refine ⟨?_, ?_⟩
                · unfold OwnL
                  rw [List.length_take, Nat.min_eq_left hpl]
                  simpa [lbf] using ho5
                · exact gb_new (gb_none H4.out.1 (World.grownBy_alloc w4 (.cells (madeCells (Value.agg #[.string ⟨#[]⟩, .string ⟨#[]⟩]).cells ((ls.length + 1) * 2)) 42) none)) hf5.1 (fun k hk => by simp [Value.ownBlock] at hk; have := H4.out.1.size; omega)
              clear ho5 hf5 hmk hsl1 H4
              go_wp2_with (at_builtin; refine wp_appH rfl _ _ 22 42 rfl i0 _ 2 32 w.heap.size Tryd.underlying22 HI.out.1 HI.out.2.1 HI.out.2.2.1 HI.out.2.2.2 rfl (by decide) _ (ls.take p).length (lbf (ls.take p)) (some ⟨w5.heap.size, 0, none⟩) 1 1 [.string sn, .string sv] rfl rfl (World.ownsRow.alloc H5.out.1 _) rfl (box_rdc w5 _ _) (fun h => by cases h) (two_one _ _) ?b4B ?b5B ?b6B ?_)
              case b4B => simp; omega
              case b5B => simp; omega
              case b6B => have := H5.out.2.size; simp; omega
              intro v6 w6 ho6 hf6
              have H6 : Hid (OwnL w6 w.heap.size v6 (ls.take p ++ [(nm, val)]) ∧ w.grownBy w6 none) := by
                refine ⟨?_, gb_new H5.out.2 (gb_trans (gb_any (World.grownBy_alloc w5 (.cells #[.string sn, .string sv] 42) none) _) hf6.1 (fun k hk _ => hk.symm)) (fun k hk => (H5.out.1.lt k hk).1)⟩
                refine OwnL.snoc ?_
                rw [HSN.out.1, HSN.out.2, List.length_take, Nat.min_eq_left hpl]
                exact ho6
              clear ho6 hf6 H5
              go_wp2_with (at_builtin; refine wp_appH rfl _ _ 22 42 rfl i0 _ 2 32 w.heap.size Tryd.underlying22 HI.out.1 HI.out.2.1 HI.out.2.2.1 HI.out.2.2.2 rfl (by decide) _ (ls.take p ++ [(nm, val)]).length (lbf (ls.take p ++ [(nm, val)])) (tailA a c q) (ls.length - q) (c - q) (lbf (ls.drop q)) rfl rfl H6.out.1 ?c1B ((HV.out.keep H6.out.2).behind q hql) (tail_nil HV.out q hql) (lbf_one _) ?c4B ?c5B H6.out.2.size ?_)
              case c1B => rw [lbf_len, List.length_drop]
              case c4B => simp; omega
              case c5B => simp; omega
              intro v7 w7 ho7 hf7
              have H7 : Hid (OwnL w7 w.heap.size v7 (sortN (PK ++ [(nm, val)])) ∧ w.grownBy w7 none) := by
                refine ⟨?_, gb_new H6.out.2 hf7.1 (fun k hk => (H6.out.1.lt k hk).1)⟩
                rw [← HWF.out]
                unfold OwnL
                rw [List.length_append, lbf_append, List.length_drop, show (ls.take p ++ [(nm, val)]).length = p + 1 by simp; omega]
                exact ho7
              clear ho7 hf7 H6 hsl2
              go_wp2
              go_ret2
              exact ⟨_, rfl, H7.out⟩
        · rw [if_pos hvE] at HS
          have hR := HS.out
          subst hR
          dsimp only
          have hvb : (vE == 0) = false := by rw [beq_eq_false_iff_ne]; exact hvE
          generalize ByteArray.mk ⟨nm⟩ = sn at *
          generalize ByteArray.mk ⟨val⟩ = sv at *
          go_enter Tryd.func13, Tryd.ntmps13
          go_wp2_with fail
          refine HR.out.mono ?_
          rintro e w1 ⟨rfl, hg1⟩
          have H1 : Hid (w.grownBy w1 none) := hg1
          clear HR hg1
          go_wp2_with fail
          refine (HN.out _).mono ?_
          rintro e w2 ⟨rfl, hg2⟩
          have H2 : Hid (w.grownBy w2 none) := gb_none H1.out hg2
          clear HN hg2 H1
          go_wp2_with fail
          refine (HVE.out _ H2.out).mono ?_
          rintro e w3 ⟨rfl, hg3⟩
          have H3 : Hid (w.grownBy w3 none) := gb_none H2.out hg3
          clear HVE hg3 H2
          go_wp2
          go_ret2
          exact ⟨_, rfl, OwnL.nil _ _, H3.out⟩
  · rw [if_pos hr1] at HS
    have hR := HS.out
    subst hR
    dsimp only
    have hrb : (r1 == 0) = false := by rw [beq_eq_false_iff_ne]; exact hr1
    go_enter Tryd.func13, Tryd.ntmps13
    go_wp2_with fail
    refine HR.out.mono ?_
    rintro e w1 ⟨rfl, hg1⟩
    have H1 : Hid (w.grownBy w1 none) := hg1
    clear HR hg1
    go_wp2
    go_ret2
    exact ⟨_, rfl, OwnL.nil _ _, H1.out⟩
end Go.Proofs.YtknlnllcpdiglabDoor

namespace Go.Proofs.YtknlnllcpdiglabDoor
open Go.RowKit

end Go.Proofs.YtknlnllcpdiglabDoor
