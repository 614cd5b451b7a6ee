/-
  Names of labels and metrics, of the project and of the document: the walks, the second part.
-/
import Derived.Test.YtmgbcmogdjhacaaDoorLbN
namespace Go.Proofs.YtmgbcmogdjhacaaDoor
open Go.RowKit

/-- all signs are those of a name, and the first one is no digit -/
def isN (p : UInt8 → Bool) : List UInt8 → Bool
  | [] => false
  | c :: t => !(pDigit c) && decide (span p (c :: t) = t.length + 1)

set_option maxHeartbeats 1600000 in
theorem isName_inName (w : World) (l : List UInt8) (hl : l.length ≤ 1000000000000000000) :
    Calls Tryd.prog 82 #[.string (ByteArray.mk ⟨l⟩), .func (.func 83) #[] #[]] w fun e w' => e = .returned (.bool (isN pinName l)) ∧ w.grownBy w' none := by
  cases l with
  | nil =>
    have H : Hid (isN pinName [] = false) := rfl
    generalize isN pinName [] = b at *
    go_enter Tryd.func82, Tryd.ntmps82
    go_wp2
    go_ret
    exact ⟨by rw [H.out]; rfl, gb_refl _ _⟩
  | cons c t =>
    have HS : Hid (∀ W, Calls Tryd.prog 87 #[.string (ByteArray.mk ⟨c :: t⟩), .func (.func 83) #[] #[]] W fun e w' => e = .returned (.int .i64 ((span pinName (c :: t) : Nat) : Int)) ∧ W.grownBy w' none) := fun W => spanOf_inName W (c :: t) hl
    have HC : Hid (∀ W, Calls Tryd.prog 86 #[.int .u8 (c.toNat : Int)] W fun e w' => e = .returned (.bool (pDigit c)) ∧ w' = W) := fun W => isDigit_any _ W
    have hb0 : ∀ h, (ByteArray.mk ⟨c :: t⟩)[0]'h = c := fun h => rfl
    have hz : (ByteArray.mk ⟨c :: t⟩).size = t.length + 1 := rfl
    have H : Hid (isN pinName (c :: t) = (!(pDigit c) && decide (span pinName (c :: t) = t.length + 1))) := rfl
    generalize isN pinName (c :: t) = b at *
    generalize span pinName (c :: t) = n at *
    have hne : (ByteArray.mk ⟨c :: t⟩).toList.isEmpty = false := by rw [ByteArray.toList_eq]; rfl
    have hne2 : ¬ (ByteArray.mk ⟨c :: t⟩).toList = [] := by rw [ByteArray.toList_eq]; simp
    generalize ByteArray.mk ⟨c :: t⟩ = st at *
    cases hd : pDigit c with
    | true =>
      rw [hd] at HC H
      clear hd
      go_enter Tryd.func82, Tryd.ntmps82
      go_wp2_with (go_at_call 86; refine (HC.out _).mono ?_; rintro e w' ⟨rfl, rfl⟩)
      go_ret
      exact ⟨by rw [H.out]; rfl, gb_refl _ _⟩
    | false =>
      rw [hd] at HC H
      clear hd
      by_cases hn : n = t.length + 1
      · have hni : (n : Int) = (t.length : Int) + 1 := by omega
        have hb : b = true := by rw [H.out, decide_eq_true hn]; rfl
        subst hb
        clear H
        go_enter Tryd.func82, Tryd.ntmps82
        go_wp2_with (go_at_call 86; refine (HC.out _).mono ?_; rintro e w' ⟨rfl, rfl⟩)
        refine (HS.out _).mono ?_
        rintro e w2 ⟨rfl, hg2⟩
        have H2 : Hid (w'.grownBy w2 none) := hg2
        clear hg2 HS HC
        go_wp2
        go_ret
        exact ⟨rfl, H2.out⟩
      · have hni : ((n : Int) == (t.length : Int) + 1) = false := by rw [beq_eq_false_iff_ne]; omega
        have hb : b = false := by rw [H.out, decide_eq_false hn]; rfl
        subst hb
        clear H
        go_enter Tryd.func82, Tryd.ntmps82
        go_wp2_with (go_at_call 86; refine (HC.out _).mono ?_; rintro e w' ⟨rfl, rfl⟩)
        refine (HS.out _).mono ?_
        rintro e w2 ⟨rfl, hg2⟩
        have H2 : Hid (w'.grownBy w2 none) := hg2
        clear hg2 HS HC
        go_wp2
        go_ret
        exact ⟨rfl, H2.out⟩

/-- a label's name; a metric's name -/
def nameB (l : List UInt8) : Bool := decide (l.length ≤ 64) && isN pinName l
def metricB (l : List UInt8) : Bool := decide (l.length ≤ 256) && isN pinMetric l

theorem name_any (w : World) (l : List UInt8) (hl : l.length ≤ 1000000000000000000) :
    Calls Tryd.prog 74 #[.string (ByteArray.mk ⟨l⟩)] w fun e w' => e = .returned (.bool (nameB l)) ∧ w.grownBy w' none := by
  have HC : Hid (∀ W, Calls Tryd.prog 82 #[.string (ByteArray.mk ⟨l⟩), .func (.func 83) #[] #[]] W fun e w' => e = .returned (.bool (isN pinName l)) ∧ W.grownBy w' none) := fun W => isName_inName W l hl
  have hz : (ByteArray.mk ⟨l⟩).size = l.length := rfl
  have H : Hid (nameB l = (decide (l.length ≤ 64) && isN pinName l)) := rfl
  generalize isN pinName l = b at *
  generalize nameB l = B at *
  by_cases h : l.length ≤ 64
  · have h' : (l.length : Int) ≤ 64 := by omega
    have hB : B = b := by rw [H.out, decide_eq_true h]; rfl
    subst hB
    clear H
    go_enter Tryd.func74, Tryd.ntmps74
    go_wp2_with fail
    refine (HC.out _).mono ?_
    rintro e w2 ⟨rfl, hg2⟩
    have H2 : Hid (w.grownBy w2 none) := hg2
    clear hg2 HC
    go_wp2
    go_ret
    exact ⟨rfl, H2.out⟩
  · have h' : ¬ (l.length : Int) ≤ 64 := by omega
    have hB : B = false := by rw [H.out, decide_eq_false h]; rfl
    subst hB
    clear H HC
    go_enter Tryd.func74, Tryd.ntmps74
    go_wp2
    go_ret
    exact ⟨rfl, gb_refl _ _⟩
end Go.Proofs.YtmgbcmogdjhacaaDoor
