/-
  A reader that the call made: Int, whatever it answers: the walk; forms there and back.
-/
import Derived.Test.YtgbpnkamamafjabDoorBitsE5
namespace Go.Proofs.YtgbpnkamamafjabDoor
open Go.RowKit

/-- what Int answers: the number, the error, the place behind it -/
def riS (L : List UInt8) (p s : Nat) : Int × Int × Nat :=
  match rowS L p s 8 0 with
  | none => (0, 9, p)
  | some r => if s - p < hb r + wd r then (0, 9, p) else if rowN (numN (natOf (ubits L (p + hb r) (wd r))) (wd r)) < r then (0, 3, p) else (numN (natOf (ubits L (p + hb r) (wd r))) (wd r), 0, p + (hb r + wd r))

set_option maxHeartbeats 6400000 in
theorem rintN (w w0 : World) (g p s : Nat) (L : List UInt8) (h : RN w w0 g L p s) (hT : TabW w) :
    Calls Tryd.prog 22 #[.pointer (some ⟨g, 0, none⟩)] w0 fun e w' => e = .returned (.tuple #[.int .i64 (riS L p s).1, .int .i64 (riS L p s).2.1]) ∧ RN w w' g L (riS L p s).2.2 s ∧ w0.grownBy w' (some g) := by
  have HH : Hid (RN w w0 g L p s) := h
  have HT : Hid (TabW w) := hT
  have hpl := h.place
  have hmo := h.most
  have hby := h.bytes
  have HRow := rrow_any w w0 g p s L h
  cases hrow : rowS L p s 8 0 with
  | none =>
    have e : riS L p s = (0, 9, p) := by unfold riS; rw [hrow]
    rw [hrow] at HRow
    rw [e]
    have HC : Hid (Calls Tryd.prog 34 #[.pointer (some ⟨g, 0, none⟩)] w0 fun e w' => e = .returned (.tuple #[.int .i64 0, .int .i64 9]) ∧ w0.grownBy w' none) := HRow
    clear h HRow e hrow hpl hmo hby hT
    go_enter Tryd.func22, Tryd.ntmps22
    go_wp2_with fail
    refine HC.out.mono ?_
    rintro e w1 ⟨rfl, hg1⟩
    have H1 : Hid (RN w w1 g L p s ∧ w0.grownBy w1 (some g)) := ⟨HH.out.keep hg1, gb_any hg1 _⟩
    clear hg1
    go_wp2
    go_ret2
    exact ⟨rfl, H1.out.1, H1.out.2⟩
  | some r =>
    have hr8 := (rowS_le L p s 8 0 r hrow).2
    rw [Nat.zero_add] at hr8
    rw [hrow] at HRow
    have HC : Hid (Calls Tryd.prog 34 #[.pointer (some ⟨g, 0, none⟩)] w0 fun e w' => e = .returned (.tuple #[.int .i64 (r : Int), .int .i64 0]) ∧ w0.grownBy w' none) := HRow
    have HS : Hid (riS L p s = if s - p < hb r + wd r then (0, 9, p) else if rowN (numN (natOf (ubits L (p + hb r) (wd r))) (wd r)) < r then (0, 3, p) else (numN (natOf (ubits L (p + hb r) (wd r))) (wd r), 0, p + (hb r + wd r))) := by
      show riS L p s = _
      unfold riS
      rw [hrow]
    have HHB : Hid (∀ w', Calls Tryd.prog 35 #[.int .i64 (r : Int)] w' fun e w'' => e = .returned (.int .i64 (hb r : Int)) ∧ w'' = w') := fun w' => headBits_any r w' hr8
    have h1 := hb_le r
    have h2 := wd_le r
    have HTab : Hid (∀ w', w.grownBy w' none → w'.cell? ⟨0, r, none⟩ = some (.int .i64 (wd r : Int))) := fun w' hg => (hT.keep hg) r (by omega)
    have HNu : Hid (s - p ≥ hb r + wd r → ∀ w', RN w w' g L p s → Calls Tryd.prog 33 #[.pointer (some ⟨g, 0, none⟩), .int .i64 ((p : Int) + (hb r : Int)), .int .i64 (wd r : Int)] w' fun e w'' => e = .returned (.int .u64 (I64 (BitVec.ofNat 64 (natOf (ubits L (p + hb r) (wd r)))))) ∧ w'' = w') := fun hle w' hh => by
      obtain ⟨gb, c, g1, g2, g3⟩ := hh.here
      exact look_any g gb c p s L (p + hb r) (wd r) w' g2 g3 (by omega) h2 (by omega)
    have HNb : Hid (∀ w', Calls Tryd.prog 36 #[.int .u64 (I64 (BitVec.ofNat 64 (natOf (ubits L (p + hb r) (wd r))))), .int .i64 (wd r : Int)] w' fun e w'' => e = .returned (.int .i64 (numN (natOf (ubits L (p + hb r) (wd r))) (wd r))) ∧ w'' = w') := fun w' => number_any _ r hr8 (by have := natOf_lt (ubits L (p + hb r) (wd r)); rw [ubits_len] at this; exact this) w'
    generalize natOf (ubits L (p + hb r) (wd r)) = NV at *
    generalize numN NV (wd r) = NN at *
    have HRo : Hid (∀ w', w.grownBy w' none → Calls Tryd.prog 37 #[.int .i64 NN] w' fun e w'' => e = .returned (.int .i64 (rowN NN : Int)) ∧ w'' = w') := fun w' hg => rowOf_any NN w' (hT.keep hg)
    have hp2 : (p : Int) ≤ 8388608 := by omega
    have hr9 : (r : Int) ≤ 8 := by omega
    have HPL : Hid (p ≤ s ∧ s ≤ 8388608) := ⟨hpl, hmo⟩
    have hB : (hb r : Int) ≤ 8 := by omega
    have hK : (wd r : Int) ≤ 64 := by omega
    clear h HRow hrow hpl hmo hby hT h1 h2
    generalize hb r = B at *
    generalize wd r = K at *
    by_cases hle : s - p < B + K
    · rw [if_pos hle] at HS
      have hle2 : ((s - p : Nat) : Int) < (B : Int) + (K : Int) := by omega
      rw [HS.out]
      clear HS HNu HNb HRo hle
      have HLF : Hid (∀ w', RN w w' g L p s → Calls Tryd.prog 17 #[.pointer (some ⟨g, 0, none⟩)] w' fun e w'' => e = .returned (.int .i64 ((s - p : Nat) : Int)) ∧ w'.grownBy w'' none) := fun w' hh => leftN w w' g p s L hh
      generalize s - p = LF at *
      go_enter Tryd.func22, Tryd.ntmps22
      go_wp2_with fail
      refine HC.out.mono ?_
      rintro e w1 ⟨rfl, hg1⟩
      have H1 : Hid (RN w w1 g L p s ∧ w0.grownBy w1 none) := ⟨HH.out.keep hg1, hg1⟩
      clear hg1
      have hct := HTab.out w1 H1.out.1.kept
      go_wp2_with fail
      go_quiet ((go_at_call 35; exact Calls.quiet_of_same (HHB.out _)))
      generalize hW2 : w1.drewN nq = w2
      have H2 : Hid (RN w w2 g L p s ∧ w0.grownBy w2 none) := by
        have hgd : w1.grownBy w2 none := by rw [← hW2]; exact ⟨rfl, rfl, rfl, Nat.le_refl _, fun _ _ _ => rfl⟩
        exact ⟨H1.out.1.keep hgd, gb_none H1.out.2 hgd⟩
      clear hW2 H1 hct
      go_wp2_with fail
      refine (HLF.out _ H2.out.1).mono ?_
      rintro e w3 ⟨rfl, hg3⟩
      have H3 : Hid (RN w w3 g L p s ∧ w0.grownBy w3 (some g)) := ⟨H2.out.1.keep hg3, gb_any (gb_none H2.out.2 hg3) _⟩
      clear hg3 H2
      go_wp2
      go_ret2
      exact ⟨rfl, H3.out.1, H3.out.2⟩
    · rw [if_neg hle] at HS
      have hle2 : ¬ ((s - p : Nat) : Int) < (B : Int) + (K : Int) := by omega
      have HM : Hid (p + (B + K) ≤ s) := by show p + (B + K) ≤ s; have := HPL.out.1; omega
      have HLk := HNu.out (by omega)
      have HLK : Hid (∀ w', RN w w' g L p s → Calls Tryd.prog 33 #[.pointer (some ⟨g, 0, none⟩), .int .i64 ((p : Int) + (B : Int)), .int .i64 (K : Int)] w' fun e w'' => e = .returned (.int .u64 (I64 (BitVec.ofNat 64 NV))) ∧ w'' = w') := HLk
      clear HNu HLk hle
      have HLF : Hid (∀ w', RN w w' g L p s → Calls Tryd.prog 17 #[.pointer (some ⟨g, 0, none⟩)] w' fun e w'' => e = .returned (.int .i64 ((s - p : Nat) : Int)) ∧ w'.grownBy w'' none) := fun w' hh => leftN w w' g p s L hh
      generalize s - p = LF at *
      generalize BitVec.ofNat 64 NV = XV at *
      by_cases hro : rowN NN < r
      · rw [if_pos hro] at HS
        rw [HS.out]
        have hro2 : (rowN NN : Int) < (r : Int) := by omega
        clear HS hro
        generalize rowN NN = RR at *
        go_enter Tryd.func22, Tryd.ntmps22
        go_wp2_with fail
        refine HC.out.mono ?_
        rintro e w1 ⟨rfl, hg1⟩
        have H1 : Hid (RN w w1 g L p s ∧ w0.grownBy w1 none) := ⟨HH.out.keep hg1, hg1⟩
        clear hg1
        have hct := HTab.out w1 H1.out.1.kept
        go_wp2_with fail
        go_quiet ((go_at_call 35; exact Calls.quiet_of_same (HHB.out _)))
        generalize hW2 : w1.drewN nq = w2
        have H2 : Hid (RN w w2 g L p s ∧ w0.grownBy w2 none) := by
          have hgd : w1.grownBy w2 none := by rw [← hW2]; exact ⟨rfl, rfl, rfl, Nat.le_refl _, fun _ _ _ => rfl⟩
          exact ⟨H1.out.1.keep hgd, gb_none H1.out.2 hgd⟩
        clear hW2 H1 hct
        go_wp2_with fail
        refine (HLF.out _ H2.out.1).mono ?_
        rintro e w3 ⟨rfl, hg3⟩
        have H3 : Hid (RN w w3 g L p s ∧ w0.grownBy w3 none) := ⟨H2.out.1.keep hg3, gb_none H2.out.2 hg3⟩
        clear hg3 H2
        have hcs : w3.cell? ⟨g, 1, none⟩ = some (.int .i64 (p : Int)) := by
          obtain ⟨gb, c, g1, g2, g3⟩ := H3.out.1.here
          exact g2.cells.2.1
        go_wp2_with fail
        refine (HLK.out _ H3.out.1).mono ?_
        rintro e w4 ⟨rfl, rfl⟩
        go_wp2_with fail
        refine (HNb.out _).mono ?_
        rintro e w5 ⟨rfl, rfl⟩
        go_wp2_with fail
        refine (HRo.out _ H3.out.1.kept).mono ?_
        rintro e w6 ⟨rfl, rfl⟩
        go_wp2
        go_ret2
        exact ⟨rfl, H3.out.1, gb_any H3.out.2 _⟩
      · rw [if_neg hro] at HS
        rw [HS.out]
        have hro2 : ¬ (rowN NN : Int) < (r : Int) := by omega
        have HPM : Hid ((p : Int) + ((B : Int) + (K : Int)) = ((p + (B + K) : Nat) : Int)) := by show (p : Int) + ((B : Int) + (K : Int)) = ((p + (B + K) : Nat) : Int); omega
        clear HS hro
        generalize rowN NN = RR at *
        go_enter Tryd.func22, Tryd.ntmps22
        go_wp2_with fail
        refine HC.out.mono ?_
        rintro e w1 ⟨rfl, hg1⟩
        have H1 : Hid (RN w w1 g L p s ∧ w0.grownBy w1 none) := ⟨HH.out.keep hg1, hg1⟩
        clear hg1
        have hct := HTab.out w1 H1.out.1.kept
        go_wp2_with fail
        go_quiet ((go_at_call 35; exact Calls.quiet_of_same (HHB.out _)))
        generalize hW2 : w1.drewN nq = w2
        have H2 : Hid (RN w w2 g L p s ∧ w0.grownBy w2 none) := by
          have hgd : w1.grownBy w2 none := by rw [← hW2]; exact ⟨rfl, rfl, rfl, Nat.le_refl _, fun _ _ _ => rfl⟩
          exact ⟨H1.out.1.keep hgd, gb_none H1.out.2 hgd⟩
        clear hW2 H1 hct
        go_wp2_with fail
        refine (HLF.out _ H2.out.1).mono ?_
        rintro e w3 ⟨rfl, hg3⟩
        have H3 : Hid (RN w w3 g L p s ∧ w0.grownBy w3 none) := ⟨H2.out.1.keep hg3, gb_none H2.out.2 hg3⟩
        clear hg3 H2
        have hcs : w3.cell? ⟨g, 1, none⟩ = some (.int .i64 (p : Int)) ∧ w3.frozen? ⟨g, 1, none⟩ = false := by
          obtain ⟨gb, c, g1, g2, g3⟩ := H3.out.1.here
          exact ⟨g2.cells.2.1, g2.cells.2.2.2.1⟩
        have d1 := hcs.1
        have f1 := hcs.2
        clear hcs
        go_wp2_with fail
        refine (HLK.out _ H3.out.1).mono ?_
        rintro e w4 ⟨rfl, rfl⟩
        go_wp2_with fail
        refine (HNb.out _).mono ?_
        rintro e w5 ⟨rfl, rfl⟩
        go_wp2_with fail
        refine (HRo.out _ H3.out.1.kept).mono ?_
        rintro e w6 ⟨rfl, rfl⟩
        have H6 : Hid (RN w (w6.setCell ⟨g, 1, none⟩ (.int .i64 ((p + (B + K) : Nat) : Int))) g L (p + (B + K)) s ∧ w0.grownBy (w6.setCell ⟨g, 1, none⟩ (.int .i64 ((p + (B + K) : Nat) : Int))) (some g)) := ⟨H3.out.1.move (p + (B + K)) HM.out, gb_some H3.out.2 (gb_set _ _ _ _)⟩
        rw [← HPM.out] at H6
        clear H3 HLK HLF HRo HNb
        go_wp2
        go_ret2
        exact ⟨rfl, H6.out.1, H6.out.2⟩
end Go.Proofs.YtgbpnkamamafjabDoor
