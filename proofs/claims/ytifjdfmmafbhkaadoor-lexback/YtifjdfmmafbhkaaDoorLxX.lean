/-
  A text as a string: lex.quoteRune, lex.Quote: the walks.
-/
import Derived.Test.YtifjdfmmafbhkaaDoorLxW
namespace Go.Proofs.YtifjdfmmafbhkaaDoor
open Go.RowKit

def hexd (n : Nat) : UInt8 := UInt8.ofNat (if n < 10 then 48 + n else 87 + n)
/-- a byte within a string -/
def qcB (c : Nat) : LxS := if c = 10 then [92, 110] else if c = 9 then [92, 116] else if c = 13 then [92, 114] else if c < 32 ∨ c = 127 then [92, 120, hexd (c / 16), hexd (c % 16)] else if c = 92 ∨ c = 34 then [92, UInt8.ofNat c] else [UInt8.ofNat c]
def quB (l : LxS) : LxS := l.flatMap fun c => qcB c.toNat
/-- a text as a string, and the fault -/
def quW (l : LxS) : LxS × Int := if Lib.validD l = true then (34 :: (quB l ++ [34]), 0) else ([], 12)
theorem quB_app (a b : LxS) : quB (a ++ b) = quB a ++ quB b := List.flatMap_append
theorem qcB_len (c : Nat) : 1 ≤ (qcB c).length ∧ (qcB c).length ≤ 4 := by
  unfold qcB
  (repeat' split) <;> simp
theorem quB_len (l : LxS) : (quB l).length ≤ 4 * l.length := by
  induction l with
  | nil => exact Nat.le_refl _
  | cons c t ih =>
    show (qcB c.toNat ++ quB t).length ≤ 4 * (t.length + 1)
    have := (qcB_len c.toNat).2
    rw [List.length_append]
    omega
theorem qcB_hi (c : UInt8) (h : 128 ≤ c.toNat) : qcB c.toNat = [c] := by
  unfold qcB
  rw [if_neg (by omega), if_neg (by omega), if_neg (by omega), if_neg (by omega), if_neg (by omega)]
  simp
theorem quB_hi (l : LxS) (h : ∀ j, j < l.length → 128 ≤ byN l j) : quB l = l := by
  induction l with
  | nil => rfl
  | cons c t ih =>
    show qcB c.toNat ++ quB t = c :: t
    rw [qcB_hi c (h 0 (by simp)), ih (fun j hj => h (j + 1) (by simpa using hj))]
    rfl
/-- a rune within a string -/
def qrB (r : Nat) : LxS := if r < 128 then qcB r else Lib.encodeRune (r : Int)
theorem idx16 (q : Nat) (hq : q < 16) : ∀ h, (ByteArray.mk ⟨[48, 49, 50, 51, 52, 53, 54, 55, 56, 57, 97, 98, 99, 100, 101, 102]⟩)[q]'h = hexd q := by
  intro h
  have : q = 0 ∨ q = 1 ∨ q = 2 ∨ q = 3 ∨ q = 4 ∨ q = 5 ∨ q = 6 ∨ q = 7 ∨ q = 8 ∨ q = 9 ∨ q = 10 ∨ q = 11 ∨ q = 12 ∨ q = 13 ∨ q = 14 ∨ q = 15 := by omega
  rcases this with h | h | h | h | h | h | h | h | h | h | h | h | h | h | h | h <;> subst h <;> rfl
/-- a builder that has been written to, and what stays beside it -/
def Wrt (w W : World) (B b : Nat) (l : LxS) : Prop := Bdr W B b l ∧ Below B w W ∧ Oth b w W
theorem Wrt.trans {w w1 w2 : World} {B b : Nat} {l m : LxS} (h : Wrt w w1 B b l) (hb : Bdr w2 B b m) (hl : Below B w1 w2) (ho : Oth b w1 w2) : Wrt w w2 B b m :=
  ⟨hb, ⟨hl.os.trans h.2.1.os, hl.tape.trans h.2.1.tape, hl.output.trans h.2.1.output, Nat.le_trans h.2.1.size hl.size, fun k hk => (hl.block k hk).trans (h.2.1.block k hk)⟩, Lib.OthersKept.trans h.2.2 ho⟩
set_option maxRecDepth 8000 in
set_option maxHeartbeats 3200000 in
theorem quoteRune_any (w : World) (B b : Nat) (l : LxS) (r : Nat) (hr : r ≤ 1114111) (h : Bdr w B b l) (hl : l.length ≤ 1000000000) (hB : B ≤ w.heap.size) :
    Calls Tryd.prog 63 #[.pointer (some ⟨b, 0, none⟩), .int .i32 (r : Int)] w fun e w' => SomeV e ∧ Wrt w w' B b (l ++ qrB r) := by
  have HH := hidJ h
  have HBs := hidJ hB
  have HR : Hid (qrB r = if r < 128 then qcB r else Lib.encodeRune (r : Int)) := rfl
  have HQ : Hid (qcB r = if r = 10 then [92, 110] else if r = 9 then [92, 116] else if r = 13 then [92, 114] else if r < 32 ∨ r = 127 then [92, 120, hexd (r / 16), hexd (r % 16)] else if r = 92 ∨ r = 34 then [92, UInt8.ofNat r] else [UInt8.ofNat r]) := rfl
  generalize qrB r = R at *
  clear h hB
  by_cases c0 : r = 10 ∨ r = 9 ∨ r = 13
  · rcases c0 with rfl | rfl | rfl
    · obtain rfl : R = [92, 110] := HR.out
      clear HR HQ hr
      go_enter Tryd.func63, Tryd.ntmps63
      go_wp2_with fail
      refine (bWriteString w B b l [92, 110] HH.out (by simp only [List.length_cons, List.length_nil]; omega) HBs.out).mono ?_
      rintro e w1 ⟨⟨v, rfl⟩, h1, h2, h3⟩
      have H1 := hidJ (show Wrt w w1 B b (l ++ [92, 110]) from ⟨h1, h2, h3⟩)
      clear h1 h2 h3
      go_wp2
      go_end0
      exact ⟨⟨_, rfl⟩, H1.out⟩
    · obtain rfl : R = [92, 116] := HR.out
      clear HR HQ hr
      go_enter Tryd.func63, Tryd.ntmps63
      go_wp2_with fail
      refine (bWriteString w B b l [92, 116] HH.out (by simp only [List.length_cons, List.length_nil]; omega) HBs.out).mono ?_
      rintro e w1 ⟨⟨v, rfl⟩, h1, h2, h3⟩
      have H1 := hidJ (show Wrt w w1 B b (l ++ [92, 116]) from ⟨h1, h2, h3⟩)
      clear h1 h2 h3
      go_wp2
      go_end0
      exact ⟨⟨_, rfl⟩, H1.out⟩
    · obtain rfl : R = [92, 114] := HR.out
      clear HR HQ hr
      go_enter Tryd.func63, Tryd.ntmps63
      go_wp2_with fail
      refine (bWriteString w B b l [92, 114] HH.out (by simp only [List.length_cons, List.length_nil]; omega) HBs.out).mono ?_
      rintro e w1 ⟨⟨v, rfl⟩, h1, h2, h3⟩
      have H1 := hidJ (show Wrt w w1 B b (l ++ [92, 114]) from ⟨h1, h2, h3⟩)
      clear h1 h2 h3
      go_wp2
      go_end0
      exact ⟨⟨_, rfl⟩, H1.out⟩
  · have n1 : ¬ (r : Int) = 10 := by omega
    have n2 : ¬ (r : Int) = 9 := by omega
    have n3 : ¬ (r : Int) = 13 := by omega
    have hq : qcB r = if r < 32 ∨ r = 127 then [92, 120, hexd (r / 16), hexd (r % 16)] else if r = 92 ∨ r = 34 then [92, UInt8.ofNat r] else [UInt8.ofNat r] := by rw [HQ.out, if_neg (by omega), if_neg (by omega), if_neg (by omega)]
    clear HQ c0
    by_cases c1 : r < 32 ∨ r = 127
    · have hR : R = [92, 120, hexd (r / 16), hexd (r % 16)] := by rw [HR.out, if_pos (by omega), hq, if_pos c1]
      obtain ⟨q, hqd⟩ : ∃ q, r / 16 = q := ⟨_, rfl⟩
      obtain ⟨m, hmd⟩ : ∃ m, r % 16 = m := ⟨_, rfl⟩
      rw [hqd, hmd] at hR
      subst hR
      have hq2 : (r : Int) / 16 = (q : Int) := by omega
      have hm2 : (r : Int) % 16 = (m : Int) := by omega
      have hq3 : (r : Int).tdiv 16 = (q : Int) := by rw [Int.tdiv_eq_ediv_of_nonneg (by omega)]; exact hq2
      have hm3 : (r : Int).tmod 16 = (m : Int) := by rw [Int.tmod_eq_emod_of_nonneg (by omega)]; exact hm2
      have hq16 : q < 16 := by omega
      have hm16 : m < 16 := by omega
      have i1 := idx16 q hq16
      have i2 := idx16 m hm16
      have hzs : (ByteArray.mk ⟨[48, 49, 50, 51, 52, 53, 54, 55, 56, 57, 97, 98, 99, 100, 101, 102]⟩).size = 16 := rfl
      have j1 : (q : Int) < 16 := by omega
      have j2 : (m : Int) < 16 := by omega
      have key : (r : Int) < 32 ∨ (¬ (r : Int) < 32 ∧ (126 : Int) < (r : Int) ∧ (r : Int) < 128) := by omega
      clear HR hq c1 hqd hmd hr
      generalize hexd q = x1 at *
      generalize hexd m = x2 at *
      have hx1 := x1.toNat_lt
      have hx2 := x2.toNat_lt
      go_enter Tryd.func63, Tryd.ntmps63
      rcases key with key | ⟨key, key2, key3⟩
      all_goals
        go_wp2_with fail
        refine (bWriteString w B b l [92, 120] HH.out (by simp only [List.length_cons, List.length_nil]; omega) HBs.out).mono ?_
        rintro e w1 ⟨⟨v, rfl⟩, h1, h2, h3⟩
        have H1 := hidJ (show Wrt w w1 B b (l ++ [92, 120]) from ⟨h1, h2, h3⟩)
        clear h1 h2 h3
        go_wp2_with fail
        refine (bWriteByte w1 B b (l ++ [92, 120]) x1 H1.out.1 (by simp only [List.length_append, List.length_cons, List.length_nil]; omega) (Nat.le_trans HBs.out H1.out.2.1.size)).mono ?_
        rintro e w2 ⟨rfl, h1, h2, h3⟩
        have H2 := hidJ (H1.out.trans h1 h2 h3)
        clear h1 h2 h3 H1
        go_wp2_with fail
        refine (bWriteByte w2 B b _ x2 H2.out.1 (by simp only [List.length_append, List.length_cons, List.length_nil]; omega) (Nat.le_trans HBs.out H2.out.2.1.size)).mono ?_
        rintro e w3 ⟨rfl, h1, h2, h3⟩
        have H3 := hidJ (H2.out.trans h1 h2 h3)
        clear h1 h2 h3 H2
        go_wp2
        go_end0
        refine ⟨⟨_, rfl⟩, ?_⟩
        have h3 := H3.out
        simpa using h3
    · have m1 : ¬ (r : Int) < 32 := by omega
      have m2 : ¬ ((126 : Int) < (r : Int)) ∨ ((126 : Int) < (r : Int) ∧ ¬ (r : Int) < 128) := by omega
      rw [if_neg c1] at hq
      by_cases c2 : r = 92 ∨ r = 34
      · rw [if_pos c2] at hq
        have hR : R = [92, UInt8.ofNat r] := by rw [HR.out, if_pos (by omega), hq]
        have hen := hidJ (enc_ascii r (by omega))
        subst hR
        clear HR hq c1 m2
        rcases c2 with rfl | rfl
        · have htr : True := trivial
          go_enter Tryd.func63, Tryd.ntmps63
          go_wp2_with fail
          refine (bWriteByte w B b l 92 HH.out (by omega) HBs.out).mono ?_
          rintro e w1 ⟨rfl, h1, h2, h3⟩
          have H1 := hidJ (show Wrt w w1 B b (l ++ [92]) from ⟨h1, h2, h3⟩)
          clear h1 h2 h3
          go_wp2_with fail
          refine (bWriteRune w1 B b (l ++ [92]) 92 (by omega) (by omega) H1.out.1 (by simp only [List.length_append, List.length_cons, List.length_nil]; omega) (Nat.le_trans HBs.out H1.out.2.1.size)).mono ?_
          rintro e w2 ⟨⟨v, rfl⟩, h1, h2, h3⟩
          have H2 := hidJ (H1.out.trans h1 h2 h3)
          clear h1 h2 h3 H1
          go_wp2
          go_end0
          refine ⟨⟨_, rfl⟩, ?_⟩
          have h3 := H2.out
          rw [show Lib.encodeRune 92 = [UInt8.ofNat 92] from hen.out] at h3
          simpa using h3
        · have htr : True := trivial
          go_enter Tryd.func63, Tryd.ntmps63
          go_wp2_with fail
          refine (bWriteByte w B b l 92 HH.out (by omega) HBs.out).mono ?_
          rintro e w1 ⟨rfl, h1, h2, h3⟩
          have H1 := hidJ (show Wrt w w1 B b (l ++ [92]) from ⟨h1, h2, h3⟩)
          clear h1 h2 h3
          go_wp2_with fail
          refine (bWriteRune w1 B b (l ++ [92]) 34 (by omega) (by omega) H1.out.1 (by simp only [List.length_append, List.length_cons, List.length_nil]; omega) (Nat.le_trans HBs.out H1.out.2.1.size)).mono ?_
          rintro e w2 ⟨⟨v, rfl⟩, h1, h2, h3⟩
          have H2 := hidJ (H1.out.trans h1 h2 h3)
          clear h1 h2 h3 H1
          go_wp2
          go_end0
          refine ⟨⟨_, rfl⟩, ?_⟩
          have h3 := H2.out
          rw [show Lib.encodeRune 34 = [UInt8.ofNat 34] from hen.out] at h3
          simpa using h3
      · rw [if_neg c2] at hq
        have hR : R = Lib.encodeRune (r : Int) := by
          rw [HR.out]
          by_cases c3 : r < 128
          · rw [if_pos c3, hq, enc_ascii r c3]
          · rw [if_neg c3]
        subst hR
        have m3 : ¬ (r : Int) = 92 := by omega
        have m4 : ¬ (r : Int) = 34 := by omega
        clear HR hq c1 c2
        go_enter Tryd.func63, Tryd.ntmps63
        rcases m2 with m2 | ⟨m2, m5⟩
        all_goals
          go_wp2_with fail
          refine (bWriteRune w B b l (r : Int) (by omega) (by omega) HH.out (by omega) HBs.out).mono ?_
          rintro e w2 ⟨⟨v, rfl⟩, h1, h2, h3⟩
          have H2 := hidJ (show Wrt w w2 B b (l ++ Lib.encodeRune (r : Int)) from ⟨h1, h2, h3⟩)
          clear h1 h2 h3
          go_wp2
          go_end0
          exact ⟨⟨_, rfl⟩, H2.out⟩
end Go.Proofs.YtifjdfmmafbhkaaDoor
