/-
  Names among others, by the project and by the document: the walks.
-/
import Derived.Test.YtknlnllcpdiglaaDoorLbMd
import Derived.Test.YtknlnllcpdiglaaDoorLbSame
namespace Go.Proofs.YtknlnllcpdiglaaDoor
open Go.RowKit

/-- the value is a slice that reads as these texts -/
def RdN (w : World) (v : Value) (ns : List (List UInt8)) : Prop :=
  ∃ a c, v = .slice a ns.length c ∧ ns.length ≤ c ∧ c ≤ maxLen ∧ (∀ j, j < ns.length → ∃ b o, a = some ⟨b, o, none⟩ ∧ w.cell? ⟨b, o + j, none⟩ = some (.string (ByteArray.mk ⟨ns.getD j []⟩))) ∧ (a = none → c = 0)
theorem RdN.keep {w w' : World} {v : Value} {ns : List (List UInt8)} (h : RdN w v ns) (hg : w.grownBy w' none) : RdN w' v ns := by
  obtain ⟨a, c, h1, h2, h3, h4, h5⟩ := h
  refine ⟨a, c, h1, h2, h3, fun j hj => ?_, h5⟩
  obtain ⟨b, o, e, c0⟩ := h4 j hj
  exact ⟨b, o, e, (World.cell?_of_block (hg.block b (block_lt c0) (by simp))).trans c0⟩
/-- is a name among them? -/
def hasN (ns : List (List UInt8)) (s : List UInt8) : Bool := decide (s ∈ ns)
theorem hasN_hit {ns : List (List UInt8)} {s : List UInt8} {z : Nat} (hz : z < ns.length) (h : ns.getD z [] = s) : hasN ns s = true := by
  have e : ns.getD z [] = ns[z] := by simp [List.getD, hz]
  rw [e] at h
  exact decide_eq_true (h ▸ List.getElem_mem hz)
theorem hasN_none {ns : List (List UInt8)} {s : List UInt8} (h : ∀ j, j < ns.length → ns.getD j [] ≠ s) : hasN ns s = false := by
  refine decide_eq_false fun hm => ?_
  obtain ⟨j, hj, e⟩ := List.getElem_of_mem hm
  refine h j hj ?_
  rw [← e]
  simp [List.getD, hj]
theorem str_ne {a b : List UInt8} (h : a ≠ b) : ((ByteArray.mk ⟨a⟩).toList == (ByteArray.mk ⟨b⟩).toList) = false ∧ ¬ (ByteArray.mk ⟨a⟩).toList = (ByteArray.mk ⟨b⟩).toList := by
  have h1 : ((ByteArray.mk ⟨a⟩).toList == (ByteArray.mk ⟨b⟩).toList) = false := by rw [strq]; exact decide_eq_false h
  exact ⟨h1, by simpa using h1⟩

set_option maxRecDepth 8000 in
set_option maxHeartbeats 3200000 in
theorem indexS_any (w : World) (v : Value) (ns : List (List UInt8)) (s : List UInt8) (hv : RdN w v ns) :
    Calls Tryd.prog 91 #[v, .string (ByteArray.mk ⟨s⟩)] w fun e w' => ∃ r : Int, e = .returned (.int .i64 r) ∧ decide (0 ≤ r) = hasN ns s ∧ w' = w := by
  have HV : Hid (RdN w v ns) := hv
  obtain ⟨a, c, rfl, hc1, hc2, hc3, hc4⟩ := hv
  unfold maxLen at hc2
  clear hc3 hc4
  have HH : Hid (∀ z, z < ns.length → ns.getD z [] = s → hasN ns s = true) := fun z hz h => hasN_hit hz h
  have HN : Hid ((∀ j, j < ns.length → ns.getD j [] ≠ s) → hasN ns s = false) := hasN_none
  generalize hasN ns s = B at *
  go_enter Tryd.func91, Tryd.ntmps91
  go_wp2
  go_loopw [8] (fun i wr => ∃ z : Nat, z ≤ ns.length ∧ i = .int .i64 z ∧ Hid (wr = w ∧ ∀ j, j < z → ns.getD j [] ≠ s)) (fun i _ => ns.length - (intOf i).toNat)
  case atStart => exact ⟨0, by omega, rfl, rfl, fun j hj => by omega⟩
  case round =>
    obtain ⟨z, hzN, rfl, hr⟩ := hrel
    have hw := hr.out.1
    subst hw
    by_cases hzl : z < ns.length
    · obtain ⟨a', c', he, -, -, h3, -⟩ := HV.out
      simp only [Value.slice.injEq] at he
      obtain ⟨rfl, -, rfl⟩ := he
      obtain ⟨b, o, rfl, c0⟩ := h3 z hzl
      have hzi : (z : Int) < (ns.length : Int) := by omega
      clear h3
      by_cases hn : ns.getD z [] = s
      · have hB : B = true := HH.out z hzl hn
        subst hB
        rw [hn] at c0
        clear hr HH HN hn
        generalize ByteArray.mk ⟨s⟩ = sn at *
        go_wp2_with fail
        try go_region
        go_wp2
        go_ret
        exact ⟨_, rfl, by simp, rfl⟩
      · obtain ⟨e1, e2⟩ := str_ne hn
        obtain ⟨e3, e4⟩ := str_ne (Ne.symm hn)
        have H2 : Hid (∀ j, j < z + 1 → ns.getD j [] ≠ s) := fun j hj => by
          by_cases e : j = z
          · rw [e]; exact hn
          · exact hr.out.2 j (by omega)
        clear hr HH HN hn
        generalize ByteArray.mk ⟨s⟩ = sn at *
        generalize ByteArray.mk ⟨ns.getD z []⟩ = sz at *
        go_wp2_with fail
        try go_region
        go_wp2
        go_roundw
        case rel => exact ⟨z + 1, by omega, by simp, by first | rfl | trivial, H2.out⟩
        case measure => simp [intOf]; omega
    · have hzi : ¬ (z : Int) < (ns.length : Int) := by omega
      have hB : B = false := HN.out (fun j hj => hr.out.2 j (by omega))
      subst hB
      clear hr HH HN
      go_wp2
      go_ret
      exact ⟨_, rfl, by simp, rfl⟩
set_option maxHeartbeats 1600000 in
theorem contains_any (w : World) (v : Value) (ns : List (List UInt8)) (s : List UInt8) (hv : RdN w v ns) :
    Calls Tryd.prog 58 #[v, .string (ByteArray.mk ⟨s⟩)] w fun e w' => e = .returned (.bool (hasN ns s)) ∧ w' = w := by
  have HI : Hid (Calls Tryd.prog 91 #[v, .string (ByteArray.mk ⟨s⟩)] w fun e w' => ∃ r : Int, e = .returned (.int .i64 r) ∧ decide (0 ≤ r) = hasN ns s ∧ w' = w) := indexS_any w v ns s hv
  generalize hasN ns s = B at *
  clear hv
  go_enter Tryd.func58, Tryd.ntmps58
  go_wp2_with fail
  refine HI.out.mono ?_
  rintro e w1 ⟨r, rfl, hd, rfl⟩
  clear HI
  have HD : Hid (decide (0 ≤ r) = B) := hd
  clear hd
  go_wp2
  go_ret
  exact ⟨by rw [← HD.out]; rfl, rfl⟩

set_option maxRecDepth 8000 in
set_option maxHeartbeats 3200000 in
theorem refHas_any (w : World) (v : Value) (ns : List (List UInt8)) (s : List UInt8) (hv : RdN w v ns) :
    Calls Tryd.prog 90 #[v, .string (ByteArray.mk ⟨s⟩)] w fun e w' => e = .returned (.bool (hasN ns s)) ∧ w' = w := by
  have HV : Hid (RdN w v ns) := hv
  obtain ⟨a, c, rfl, hc1, hc2, hc3, hc4⟩ := hv
  unfold maxLen at hc2
  clear hc3 hc4
  have HH : Hid (∀ z, z < ns.length → ns.getD z [] = s → hasN ns s = true) := fun z hz h => hasN_hit hz h
  have HN : Hid ((∀ j, j < ns.length → ns.getD j [] ≠ s) → hasN ns s = false) := hasN_none
  generalize hasN ns s = B at *
  go_enter Tryd.func90, Tryd.ntmps90
  go_wp2
  go_loopw [9] (fun i wr => ∃ z : Nat, z ≤ ns.length ∧ i = .int .i64 z ∧ Hid (wr = w ∧ ∀ j, j < z → ns.getD j [] ≠ s)) (fun i _ => ns.length - (intOf i).toNat)
  case atStart => exact ⟨0, by omega, rfl, rfl, fun j hj => by omega⟩
  case round =>
    obtain ⟨z, hzN, rfl, hr⟩ := hrel
    have hw := hr.out.1
    subst hw
    by_cases hzl : z < ns.length
    · obtain ⟨a', c', he, -, -, h3, -⟩ := HV.out
      simp only [Value.slice.injEq] at he
      obtain ⟨rfl, -, rfl⟩ := he
      obtain ⟨b, o, rfl, c0⟩ := h3 z hzl
      have hzi : (z : Int) < (ns.length : Int) := by omega
      clear h3
      by_cases hn : ns.getD z [] = s
      · have hB : B = true := HH.out z hzl hn
        subst hB
        rw [hn] at c0
        clear hr HH HN hn
        generalize ByteArray.mk ⟨s⟩ = sn at *
        go_wp2
        go_ret
        exact ⟨rfl, rfl⟩
      · obtain ⟨e1, e2⟩ := str_ne hn
        have H2 : Hid (∀ j, j < z + 1 → ns.getD j [] ≠ s) := fun j hj => by
          by_cases e : j = z
          · rw [e]; exact hn
          · exact hr.out.2 j (by omega)
        clear hr HH HN hn
        generalize ByteArray.mk ⟨s⟩ = sn at *
        generalize ByteArray.mk ⟨ns.getD z []⟩ = sz at *
        go_wp2
        go_roundw
        case rel => exact ⟨z + 1, by omega, by simp, by first | rfl | trivial, H2.out⟩
        case measure => simp [intOf]; omega
    · have hzi : ¬ (z : Int) < (ns.length : Int) := by omega
      have hB : B = false := HN.out (fun j hj => hr.out.2 j (by omega))
      subst hB
      clear hr HH HN
      go_wp2
      go_ret
      exact ⟨rfl, rfl⟩

/-! ### the project's two choices -/
/-- the names, as the choices have them -/
def NmB (w : World) (nb : Nat) (ns : List (List UInt8)) : Prop := ∃ v, w.cell? ⟨nb, 0, none⟩ = some v ∧ RdN w v ns
theorem NmB.keep {w w' : World} {nb : Nat} {ns : List (List UInt8)} (h : NmB w nb ns) (hg : w.grownBy w' none) : NmB w' nb ns := by
  obtain ⟨v, h1, h2⟩ := h
  exact ⟨v, (World.cell?_of_block (hg.block nb (block_lt h1) (by simp))).trans h1, h2.keep hg⟩
/-- the two choices' predicates -/
def p_Without (ns : List (List UInt8)) (s : List UInt8) : Bool := !hasN ns s
def p_Keep (ns : List (List UInt8)) (s : List UInt8) : Bool := hasN ns s
theorem c1_Without (w : World) (nb : Nat) (ns : List (List UInt8)) (s : List UInt8) (h : NmB w nb ns) :
    Calls Tryd.prog 57 #[.string (ByteArray.mk ⟨s⟩), .pointer (some ⟨nb, 0, none⟩)] w fun e w' => e = .returned (.bool (p_Without ns s)) ∧ w' = w := by
  unfold p_Without
  obtain ⟨v, h1, h2⟩ := h
  have HI : Hid (Calls Tryd.prog 58 #[v, .string (ByteArray.mk ⟨s⟩)] w fun e w' => e = .returned (.bool (hasN ns s)) ∧ w' = w) := contains_any w v ns s h2
  generalize hasN ns s = B at *
  clear h2
  go_enter Tryd.func57, Tryd.ntmps57
  go_wp2_with fail
  refine HI.out.mono ?_
  rintro e w1 ⟨rfl, rfl⟩
  clear HI
  go_wp2
  go_ret
  exact ⟨rfl, rfl⟩
theorem c1_Keep (w : World) (nb : Nat) (ns : List (List UInt8)) (s : List UInt8) (h : NmB w nb ns) :
    Calls Tryd.prog 59 #[.string (ByteArray.mk ⟨s⟩), .pointer (some ⟨nb, 0, none⟩)] w fun e w' => e = .returned (.bool (p_Keep ns s)) ∧ w' = w := by
  unfold p_Keep
  obtain ⟨v, h1, h2⟩ := h
  have HI : Hid (Calls Tryd.prog 58 #[v, .string (ByteArray.mk ⟨s⟩)] w fun e w' => e = .returned (.bool (hasN ns s)) ∧ w' = w) := contains_any w v ns s h2
  generalize hasN ns s = B at *
  clear h2
  go_enter Tryd.func59, Tryd.ntmps59
  go_wp2_with fail
  refine HI.out.mono ?_
  rintro e w1 ⟨rfl, rfl⟩
  clear HI
  go_wp2
  go_ret
  exact ⟨rfl, rfl⟩
end Go.Proofs.YtknlnllcpdiglaaDoor
