/-
  LbQa, LbQr, in one text.
-/
import Derived.Test.YtkcgikgihbglnabDoorLbV
import Derived.Test.YtkcgikgihbglnabDoorLaws
import Derived.Lib.ConvBytes
/- LbQa -/
namespace Go.Proofs.YtkcgikgihbglnabDoor
open Go.RowKit

/-- 'string(b)' of whatever bytes -/
theorem run_strB {w : World} {v : Value} {l : List UInt8} (h : Rd w v l) : (convert 23 9 v).run Tryd.prog w = .ok (.string (ByteArray.mk ⟨l⟩)) w := by
  obtain ⟨a, c, rfl, h1, h2, h3, h4⟩ := h
  cases a with
  | none =>
    have := h4 rfl
    have hl : l = [] := List.eq_nil_of_length_eq_zero (by omega)
    subst hl
    rw [run_convert_bytes_string w 23 9 5 none _ c Tryd.underlying23 Tryd.underlying5 Tryd.underlying9]
    simp [Conv.bytesToString]
    rfl
  | some ad =>
    refine run_convert_bytes_back w 23 9 5 ad c l Tryd.underlying23 Tryd.underlying5 Tryd.underlying9 (fun j hj => ?_)
    obtain ⟨b, o, hb, hc⟩ := h3 j hj
    cases hb
    rw [Go.WideShapes.add_plain, hc]
    simp [hj]
/-- how a sign stands in quotes -/
def escB (b : UInt8) : List UInt8 := if b.toNat = 92 ∨ b.toNat = 34 then [92, b] else if b.toNat = 10 then [92, 110] else [b]
def quoP (s : List UInt8) (j : Nat) : List UInt8 := 34 :: (s.take j).flatMap escB
def quoS (s : List UInt8) : List UInt8 := quoP s s.length ++ [34]
theorem escB_len (b : UInt8) : (escB b).length ≤ 2 := by
  unfold escB
  split
  · simp
  · split <;> simp
theorem quoP_step {s : List UInt8} {j : Nat} (h : j < s.length) : quoP s (j + 1) = quoP s j ++ escB (s.getD j 0) := by
  unfold quoP
  rw [List.take_succ_eq_append_getElem h, List.flatMap_append]
  have : s.getD j 0 = s[j] := by simp [h]
  rw [this]
  simp
theorem quoP_len (s : List UInt8) : ∀ j, j ≤ s.length → (quoP s j).length ≤ 1 + 2 * j
  | 0, _ => by simp [quoP]
  | j + 1, h => by
    have ih := quoP_len s j (by omega)
    rw [quoP_step (by omega), List.length_append]
    have := escB_len (s.getD j 0)
    omega
theorem bWriteString (w : World) (B b : Nat) (l m : List UInt8) (h : Bld w B b l) (hl : l.length + m.length ≤ 1000000000) (hB : B ≤ w.heap.size) :
    Calls Tryd.prog 39 #[.pointer (some ⟨b, 0, none⟩), .string (ByteArray.mk ⟨m⟩)] w fun e w' => e = .returned (.tuple #[.int .i64 (m.length : Int), .nilIface]) ∧ Bld w' B b (l ++ m) ∧ Below B w w' := by
  refine (Any.Builder_WriteString lays166 bextra B b (Lib.byteCells l) (ByteArray.mk ⟨m⟩) w h (by rw [Lib.byteCells_length]; show l.length + m.length ≤ _; omega) hB).mono ?_
  rintro e w' ⟨h1, h2, h3⟩
  refine ⟨h1, .inr ?_, h3⟩
  have e : Lib.byteCells (l ++ m) = Lib.byteCells l ++ Lib.strCells (ByteArray.mk ⟨m⟩) := by simp [Lib.byteCells, Lib.strCells]
  rw [e]
  exact h2

set_option maxRecDepth 8000 in
set_option maxHeartbeats 3200000 in
theorem quoted_any (w : World) (s : List UInt8) (hs : s.length ≤ 1000000) :
    Calls Tryd.prog 19 #[.string (ByteArray.mk ⟨s⟩)] w fun e w' => e = .returned (.string (ByteArray.mk ⟨quoS s⟩)) ∧ w.grownBy w' none := by
  have hz : (ByteArray.mk ⟨s⟩).size = s.length := rfl
  have HQ : Hid (quoS s = quoP s s.length ++ [34]) := rfl
  have HL : Hid (s.length ≤ 1000000) := hs
  generalize quoS s = R at *
  go_enter Tryd.func19, Tryd.ntmps19
  go_wp2_with fail
  have HB0 : Hid (Bld (w.alloc (.cells #[.pointer none, .slice none 0 0] 75)) w.heap.size w.heap.size [] ∧ w.grownBy (w.alloc (.cells #[.pointer none, .slice none 0 0] 75)) none) :=
    ⟨Lib.fresh_isBuilder 75 5 w, World.grownBy_alloc _ _ _⟩
  generalize w.alloc (.cells #[.pointer none, .slice none 0 0] 75) = W0 at *
  refine (bWriteByte W0 _ _ _ 34 HB0.out.1 (by simp) HB0.out.2.size).mono ?_
  rintro e w1 ⟨rfl, hb1, hl1⟩
  have H1 : Hid (Bld w1 w.heap.size w.heap.size [34] ∧ Below w.heap.size w w1) := ⟨hb1, (gb_below HB0.out.2).trans hl1⟩
  clear hb1 hl1 HB0
  go_wp2
  go_loopw [9] (fun i wr => ∃ j : Nat, j ≤ s.length ∧ i = .int .i64 j ∧ Hid (Bld wr w.heap.size w.heap.size (quoP s j) ∧ Below w.heap.size w wr)) (fun i _ => s.length - (intOf i).toNat)
  case atStart => exact ⟨0, by omega, rfl, by simpa [quoP] using H1.out.1, H1.out.2⟩
  case round =>
    obtain ⟨j, hj, rfl, hr⟩ := hrel
    by_cases hjl : j < s.length
    · have hbn := byte_at hjl
      have hji : (j : Int) < (s.length : Int) := by omega
      have HX : Hid (quoP s (j + 1) = quoP s j ++ escB (s.getD j 0)) := quoP_step hjl
      have HPL : Hid ((quoP s j).length ≤ 2000001) := by have := quoP_len s j hj; show (quoP s j).length ≤ 2000001; omega
      generalize s.getD j 0 = x at *
      by_cases c1 : x = 92
      · subst c1
        have HE : Hid (escB 92 = [92, 92]) := by show escB 92 = [92, 92]; decide
        rw [HE.out] at HX
        clear HE
        go_wp2_with fail
        refine (bWriteByte wr _ _ _ 92 hr.out.1 (by have := HPL.out; omega) hr.out.2.size).mono ?_
        rintro e w2 ⟨rfl, hb2, hl2⟩
        have H2 : Hid (Bld w2 w.heap.size w.heap.size (quoP s j ++ [92]) ∧ Below w.heap.size w w2) := ⟨hb2, hr.out.2.trans hl2⟩
        clear hb2 hl2
        go_wp2_with fail
        refine (bWriteByte w2 _ _ _ 92 H2.out.1 (by have := HPL.out; simp; omega) H2.out.2.size).mono ?_
        rintro e w3 ⟨rfl, hb3, hl3⟩
        have H3 : Hid (Bld w3 w.heap.size w.heap.size (quoP s (j + 1)) ∧ Below w.heap.size w w3) := ⟨by rw [HX.out]; simpa using hb3, H2.out.2.trans hl3⟩
        clear hb3 hl3 hr H2
        go_wp2
        go_roundw
        case rel => exact ⟨j + 1, by omega, by simp, H3.out⟩
        case measure => simp [intOf]; omega
      · have c1' : x.toNat ≠ 92 := fun h => c1 (UInt8.toNat_inj.1 h)
        have e1 : ((x.toNat : Int) == 92) = false := by rw [beq_eq_false_iff_ne]; omega
        have e1' : ¬ (x.toNat : Int) = 92 := by omega
        by_cases c2 : x = 34
        · subst c2
          clear e1 e1'
          have HE : Hid (escB 34 = [92, 34]) := by show escB 34 = [92, 34]; decide
          rw [HE.out] at HX
          clear HE
          go_wp2_with fail
          refine (bWriteByte wr _ _ _ 92 hr.out.1 (by have := HPL.out; omega) hr.out.2.size).mono ?_
          rintro e w2 ⟨rfl, hb2, hl2⟩
          have H2 : Hid (Bld w2 w.heap.size w.heap.size (quoP s j ++ [92]) ∧ Below w.heap.size w w2) := ⟨hb2, hr.out.2.trans hl2⟩
          clear hb2 hl2
          go_wp2_with fail
          refine (bWriteByte w2 _ _ _ 34 H2.out.1 (by have := HPL.out; simp; omega) H2.out.2.size).mono ?_
          rintro e w3 ⟨rfl, hb3, hl3⟩
          have H3 : Hid (Bld w3 w.heap.size w.heap.size (quoP s (j + 1)) ∧ Below w.heap.size w w3) := ⟨by rw [HX.out]; simpa using hb3, H2.out.2.trans hl3⟩
          clear hb3 hl3 hr H2
          go_wp2
          go_roundw
          case rel => exact ⟨j + 1, by omega, by simp, H3.out⟩
          case measure => simp [intOf]; omega
        · have c2' : x.toNat ≠ 34 := fun h => c2 (UInt8.toNat_inj.1 h)
          have e2 : ((x.toNat : Int) == 34) = false := by rw [beq_eq_false_iff_ne]; omega
          have e2' : ¬ (x.toNat : Int) = 34 := by omega
          have hno : ¬ (x.toNat = 92 ∨ x.toNat = 34) := by omega
          by_cases c3 : x = 10
          · subst c3
            clear e1 e1' e2 e2' c1' c2'
            have HE : Hid (escB 10 = [92, 110]) := by show escB 10 = [92, 110]; decide
            rw [HE.out] at HX
            clear HE hno
            go_wp2_with fail
            refine (bWriteString wr _ _ _ [92, 110] hr.out.1 (by have := HPL.out; simp; omega) hr.out.2.size).mono ?_
            rintro e w3 ⟨rfl, hb3, hl3⟩
            have H3 : Hid (Bld w3 w.heap.size w.heap.size (quoP s (j + 1)) ∧ Below w.heap.size w w3) := ⟨by rw [HX.out]; exact hb3, hr.out.2.trans hl3⟩
            clear hb3 hl3 hr
            go_wp2
            go_roundw
            case rel => exact ⟨j + 1, by omega, by simp, H3.out⟩
            case measure => simp [intOf]; omega
          · have c3' : x.toNat ≠ 10 := fun h => c3 (UInt8.toNat_inj.1 h)
            have e3 : ((x.toNat : Int) == 10) = false := by rw [beq_eq_false_iff_ne]; omega
            have e3' : ¬ (x.toNat : Int) = 10 := by omega
            have HE : Hid (escB x = [x]) := by show escB x = _; unfold escB; rw [if_neg hno, if_neg c3']
            rw [HE.out] at HX
            clear HE hno c1' c2' c3'
            go_wp2_with fail
            refine (bWriteByte wr _ _ _ x hr.out.1 (by have := HPL.out; omega) hr.out.2.size).mono ?_
            rintro e w3 ⟨rfl, hb3, hl3⟩
            have H3 : Hid (Bld w3 w.heap.size w.heap.size (quoP s (j + 1)) ∧ Below w.heap.size w w3) := ⟨by rw [HX.out]; exact hb3, hr.out.2.trans hl3⟩
            clear hb3 hl3 hr
            go_wp2
            go_roundw
            case rel => exact ⟨j + 1, by omega, by simp, H3.out⟩
            case measure => simp [intOf]; omega
    · have hji : ¬ (j : Int) < (s.length : Int) := by omega
      have hjs : j = s.length := by omega
      rw [hjs] at hr
      clear hjs
      have HPL : Hid ((quoP s s.length).length ≤ 2000001) := by have := quoP_len s s.length (Nat.le_refl _); show (quoP s s.length).length ≤ 2000001; omega
      go_wp2_with fail
      refine (bWriteByte wr _ _ _ 34 hr.out.1 (by have := HPL.out; omega) hr.out.2.size).mono ?_
      rintro e w2 ⟨rfl, hb2, hl2⟩
      have H2 : Hid (Bld w2 w.heap.size w.heap.size R ∧ Below w.heap.size w w2) := ⟨by rw [HQ.out]; exact hb2, hr.out.2.trans hl2⟩
      clear hb2 hl2 hr
      go_wp2_with fail
      refine (bString w2 _ _ _ H2.out.1 H2.out.2.size).mono ?_
      rintro e w3 ⟨rfl, hl3⟩
      have H3 : Hid (Below w.heap.size w w3) := H2.out.2.trans hl3
      clear H2 hl3
      go_wp2
      go_ret
      exact ⟨rfl, gb_of_below H3.out⟩
end Go.Proofs.YtkcgikgihbglnabDoor

/- LbQr -/
namespace Go.Proofs.YtkcgikgihbglnabDoor
open Go.RowKit

theorem litQ (w : World) : Own (w.alloc (.cells #[.int .u8 34] 5)) w.heap.size (.slice (some ⟨w.heap.size, 0, none⟩) 1 1) [34] :=
  World.ownsRow_lit (base := w.heap.size) (e := 5) (size := 1) w #[.int .u8 34] 1 (Nat.le_refl _) (by decide) rfl

end Go.Proofs.YtkcgikgihbglnabDoor
