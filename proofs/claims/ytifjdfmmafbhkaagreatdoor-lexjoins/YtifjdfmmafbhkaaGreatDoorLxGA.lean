/-
  LxX, LxY, in one text.
-/
import Derived.Test.YtifjdfmmafbhkaaGreatDoorLxW
/- LxX -/
namespace Go.Proofs.YtifjdfmmafbhkaaGreatDoor
open Go.RowKit

def hexd (n : Nat) : UInt8 := UInt8.ofNat (if n < 10 then 48 + n else 87 + n)
/-- a byte within a string -/
def qcB (c : Nat) : LxS := if c = 10 then [92, 110] else if c = 9 then [92, 116] else if c = 13 then [92, 114] else if c < 32 ∨ c = 127 then [92, 120, hexd (c / 16), hexd (c % 16)] else if c = 92 ∨ c = 34 then [92, UInt8.ofNat c] else [UInt8.ofNat c]
def quB (l : LxS) : LxS := l.flatMap fun c => qcB c.toNat
/-- a text as a string, and the fault -/
def quW (l : LxS) : LxS × Int := if Lib.validD l = true then (34 :: (quB l ++ [34]), 0) else ([], 12)
theorem quB_app (a b : LxS) : quB (a ++ b) = quB a ++ quB b := List.flatMap_append
theorem qcB_len (c : Nat) : 1 ≤ (qcB c).length ∧ (qcB c).length ≤ 4 := by
  unfold qcB
  (repeat' split) <;> simp
theorem quB_len (l : LxS) : (quB l).length ≤ 4 * l.length := by
  induction l with
  | nil => exact Nat.le_refl _
  | cons c t ih =>
    show (qcB c.toNat ++ quB t).length ≤ 4 * (t.length + 1)
    have := (qcB_len c.toNat).2
    rw [List.length_append]
    omega
theorem qcB_hi (c : UInt8) (h : 128 ≤ c.toNat) : qcB c.toNat = [c] := by
  unfold qcB
  rw [if_neg (by omega), if_neg (by omega), if_neg (by omega), if_neg (by omega), if_neg (by omega)]
  simp
theorem quB_hi (l : LxS) (h : ∀ j, j < l.length → 128 ≤ byN l j) : quB l = l := by
  induction l with
  | nil => rfl
  | cons c t ih =>
    show qcB c.toNat ++ quB t = c :: t
    rw [qcB_hi c (h 0 (by simp)), ih (fun j hj => h (j + 1) (by simpa using hj))]
    rfl
/-- a rune within a string -/
def qrB (r : Nat) : LxS := if r < 128 then qcB r else Lib.encodeRune (r : Int)
theorem idx16 (q : Nat) (hq : q < 16) : ∀ h, (ByteArray.mk ⟨[48, 49, 50, 51, 52, 53, 54, 55, 56, 57, 97, 98, 99, 100, 101, 102]⟩)[q]'h = hexd q := by
  intro h
  have : q = 0 ∨ q = 1 ∨ q = 2 ∨ q = 3 ∨ q = 4 ∨ q = 5 ∨ q = 6 ∨ q = 7 ∨ q = 8 ∨ q = 9 ∨ q = 10 ∨ q = 11 ∨ q = 12 ∨ q = 13 ∨ q = 14 ∨ q = 15 := by omega
  rcases this with h | h | h | h | h | h | h | h | h | h | h | h | h | h | h | h <;> subst h <;> rfl
/-- a builder that has been written to, and what stays beside it -/
def Wrt (w W : World) (B b : Nat) (l : LxS) : Prop := Bdr W B b l ∧ Below B w W ∧ Oth b w W
theorem Wrt.trans {w w1 w2 : World} {B b : Nat} {l m : LxS} (h : Wrt w w1 B b l) (hb : Bdr w2 B b m) (hl : Below B w1 w2) (ho : Oth b w1 w2) : Wrt w w2 B b m :=
  ⟨hb, ⟨hl.os.trans h.2.1.os, hl.tape.trans h.2.1.tape, hl.output.trans h.2.1.output, Nat.le_trans h.2.1.size hl.size, fun k hk => (hl.block k hk).trans (h.2.1.block k hk)⟩, Lib.OthersKept.trans h.2.2 ho⟩
set_option maxRecDepth 8000 in
set_option maxHeartbeats 3200000 in
theorem quoteRune_any (w : World) (B b : Nat) (l : LxS) (r : Nat) (hr : r ≤ 1114111) (h : Bdr w B b l) (hl : l.length ≤ 1000000000) (hB : B ≤ w.heap.size) :
    Calls Tryz.prog 17 #[.pointer (some ⟨b, 0, none⟩), .int .i32 (r : Int)] w fun e w' => SomeV e ∧ Wrt w w' B b (l ++ qrB r) := by
  have HH := hidJ h
  have HBs := hidJ hB
  have HR : Hid (qrB r = if r < 128 then qcB r else Lib.encodeRune (r : Int)) := rfl
  have HQ : Hid (qcB r = if r = 10 then [92, 110] else if r = 9 then [92, 116] else if r = 13 then [92, 114] else if r < 32 ∨ r = 127 then [92, 120, hexd (r / 16), hexd (r % 16)] else if r = 92 ∨ r = 34 then [92, UInt8.ofNat r] else [UInt8.ofNat r]) := rfl
  generalize qrB r = R at *
  clear h hB
  by_cases c0 : r = 10 ∨ r = 9 ∨ r = 13
  · rcases c0 with rfl | rfl | rfl
    · obtain rfl : R = [92, 110] := HR.out
      clear HR HQ hr
      go_enter Tryz.func17, Tryz.ntmps17
      go_wp2_with fail
      refine (bWriteString w B b l [92, 110] HH.out (by simp only [List.length_cons, List.length_nil]; omega) HBs.out).mono ?_
      rintro e w1 ⟨⟨v, rfl⟩, h1, h2, h3⟩
      have H1 := hidJ (show Wrt w w1 B b (l ++ [92, 110]) from ⟨h1, h2, h3⟩)
      clear h1 h2 h3
      go_wp2
      go_end0
      exact ⟨⟨_, rfl⟩, H1.out⟩
    · obtain rfl : R = [92, 116] := HR.out
      clear HR HQ hr
      go_enter Tryz.func17, Tryz.ntmps17
      go_wp2_with fail
      refine (bWriteString w B b l [92, 116] HH.out (by simp only [List.length_cons, List.length_nil]; omega) HBs.out).mono ?_
      rintro e w1 ⟨⟨v, rfl⟩, h1, h2, h3⟩
      have H1 := hidJ (show Wrt w w1 B b (l ++ [92, 116]) from ⟨h1, h2, h3⟩)
      clear h1 h2 h3
      go_wp2
      go_end0
      exact ⟨⟨_, rfl⟩, H1.out⟩
    · obtain rfl : R = [92, 114] := HR.out
      clear HR HQ hr
      go_enter Tryz.func17, Tryz.ntmps17
      go_wp2_with fail
      refine (bWriteString w B b l [92, 114] HH.out (by simp only [List.length_cons, List.length_nil]; omega) HBs.out).mono ?_
      rintro e w1 ⟨⟨v, rfl⟩, h1, h2, h3⟩
      have H1 := hidJ (show Wrt w w1 B b (l ++ [92, 114]) from ⟨h1, h2, h3⟩)
      clear h1 h2 h3
      go_wp2
      go_end0
      exact ⟨⟨_, rfl⟩, H1.out⟩
  · have n1 : ¬ (r : Int) = 10 := by omega
    have n2 : ¬ (r : Int) = 9 := by omega
    have n3 : ¬ (r : Int) = 13 := by omega
    have hq : qcB r = if r < 32 ∨ r = 127 then [92, 120, hexd (r / 16), hexd (r % 16)] else if r = 92 ∨ r = 34 then [92, UInt8.ofNat r] else [UInt8.ofNat r] := by rw [HQ.out, if_neg (by omega), if_neg (by omega), if_neg (by omega)]
    clear HQ c0
    by_cases c1 : r < 32 ∨ r = 127
    · have hR : R = [92, 120, hexd (r / 16), hexd (r % 16)] := by rw [HR.out, if_pos (by omega), hq, if_pos c1]
      obtain ⟨q, hqd⟩ : ∃ q, r / 16 = q := ⟨_, rfl⟩
      obtain ⟨m, hmd⟩ : ∃ m, r % 16 = m := ⟨_, rfl⟩
      rw [hqd, hmd] at hR
      subst hR
      have hq2 : (r : Int) / 16 = (q : Int) := by omega
      have hm2 : (r : Int) % 16 = (m : Int) := by omega
      have hq3 : (r : Int).tdiv 16 = (q : Int) := by rw [Int.tdiv_eq_ediv_of_nonneg (by omega)]; exact hq2
      have hm3 : (r : Int).tmod 16 = (m : Int) := by rw [Int.tmod_eq_emod_of_nonneg (by omega)]; exact hm2
      have hq16 : q < 16 := by omega
      have hm16 : m < 16 := by omega
      have i1 := idx16 q hq16
      have i2 := idx16 m hm16
      have hzs : (ByteArray.mk ⟨[48, 49, 50, 51, 52, 53, 54, 55, 56, 57, 97, 98, 99, 100, 101, 102]⟩).size = 16 := rfl
      have j1 : (q : Int) < 16 := by omega
      have j2 : (m : Int) < 16 := by omega
      have key : (r : Int) < 32 ∨ (¬ (r : Int) < 32 ∧ (126 : Int) < (r : Int) ∧ (r : Int) < 128) := by omega
      clear HR hq c1 hqd hmd hr
      generalize hexd q = x1 at *
      generalize hexd m = x2 at *
      have hx1 := x1.toNat_lt
      have hx2 := x2.toNat_lt
      go_enter Tryz.func17, Tryz.ntmps17
      rcases key with key | ⟨key, key2, key3⟩
      all_goals
        go_wp2_with fail
        refine (bWriteString w B b l [92, 120] HH.out (by simp only [List.length_cons, List.length_nil]; omega) HBs.out).mono ?_
        rintro e w1 ⟨⟨v, rfl⟩, h1, h2, h3⟩
        have H1 := hidJ (show Wrt w w1 B b (l ++ [92, 120]) from ⟨h1, h2, h3⟩)
        clear h1 h2 h3
        go_wp2_with fail
        refine (bWriteByte w1 B b (l ++ [92, 120]) x1 H1.out.1 (by simp only [List.length_append, List.length_cons, List.length_nil]; omega) (Nat.le_trans HBs.out H1.out.2.1.size)).mono ?_
        rintro e w2 ⟨rfl, h1, h2, h3⟩
        have H2 := hidJ (H1.out.trans h1 h2 h3)
        clear h1 h2 h3 H1
        go_wp2_with fail
        refine (bWriteByte w2 B b _ x2 H2.out.1 (by simp only [List.length_append, List.length_cons, List.length_nil]; omega) (Nat.le_trans HBs.out H2.out.2.1.size)).mono ?_
        rintro e w3 ⟨rfl, h1, h2, h3⟩
        have H3 := hidJ (H2.out.trans h1 h2 h3)
        clear h1 h2 h3 H2
        go_wp2
        go_end0
        refine ⟨⟨_, rfl⟩, ?_⟩
        have h3 := H3.out
        simpa using h3
    · have m1 : ¬ (r : Int) < 32 := by omega
      have m2 : ¬ ((126 : Int) < (r : Int)) ∨ ((126 : Int) < (r : Int) ∧ ¬ (r : Int) < 128) := by omega
      rw [if_neg c1] at hq
      by_cases c2 : r = 92 ∨ r = 34
      · rw [if_pos c2] at hq
        have hR : R = [92, UInt8.ofNat r] := by rw [HR.out, if_pos (by omega), hq]
        have hen := hidJ (enc_ascii r (by omega))
        subst hR
        clear HR hq c1 m2
        rcases c2 with rfl | rfl
        · have htr : True := trivial
          go_enter Tryz.func17, Tryz.ntmps17
          go_wp2_with fail
          refine (bWriteByte w B b l 92 HH.out (by omega) HBs.out).mono ?_
          rintro e w1 ⟨rfl, h1, h2, h3⟩
          have H1 := hidJ (show Wrt w w1 B b (l ++ [92]) from ⟨h1, h2, h3⟩)
          clear h1 h2 h3
          go_wp2_with fail
          refine (bWriteRune w1 B b (l ++ [92]) 92 (by omega) (by omega) H1.out.1 (by simp only [List.length_append, List.length_cons, List.length_nil]; omega) (Nat.le_trans HBs.out H1.out.2.1.size)).mono ?_
          rintro e w2 ⟨⟨v, rfl⟩, h1, h2, h3⟩
          have H2 := hidJ (H1.out.trans h1 h2 h3)
          clear h1 h2 h3 H1
          go_wp2
          go_end0
          refine ⟨⟨_, rfl⟩, ?_⟩
          have h3 := H2.out
          rw [show Lib.encodeRune 92 = [UInt8.ofNat 92] from hen.out] at h3
          simpa using h3
        · have htr : True := trivial
          go_enter Tryz.func17, Tryz.ntmps17
          go_wp2_with fail
          refine (bWriteByte w B b l 92 HH.out (by omega) HBs.out).mono ?_
          rintro e w1 ⟨rfl, h1, h2, h3⟩
          have H1 := hidJ (show Wrt w w1 B b (l ++ [92]) from ⟨h1, h2, h3⟩)
          clear h1 h2 h3
          go_wp2_with fail
          refine (bWriteRune w1 B b (l ++ [92]) 34 (by omega) (by omega) H1.out.1 (by simp only [List.length_append, List.length_cons, List.length_nil]; omega) (Nat.le_trans HBs.out H1.out.2.1.size)).mono ?_
          rintro e w2 ⟨⟨v, rfl⟩, h1, h2, h3⟩
          have H2 := hidJ (H1.out.trans h1 h2 h3)
          clear h1 h2 h3 H1
          go_wp2
          go_end0
          refine ⟨⟨_, rfl⟩, ?_⟩
          have h3 := H2.out
          rw [show Lib.encodeRune 34 = [UInt8.ofNat 34] from hen.out] at h3
          simpa using h3
      · rw [if_neg c2] at hq
        have hR : R = Lib.encodeRune (r : Int) := by
          rw [HR.out]
          by_cases c3 : r < 128
          · rw [if_pos c3, hq, enc_ascii r c3]
          · rw [if_neg c3]
        subst hR
        have m3 : ¬ (r : Int) = 92 := by omega
        have m4 : ¬ (r : Int) = 34 := by omega
        clear HR hq c1 c2
        go_enter Tryz.func17, Tryz.ntmps17
        rcases m2 with m2 | ⟨m2, m5⟩
        all_goals
          go_wp2_with fail
          refine (bWriteRune w B b l (r : Int) (by omega) (by omega) HH.out (by omega) HBs.out).mono ?_
          rintro e w2 ⟨⟨v, rfl⟩, h1, h2, h3⟩
          have H2 := hidJ (show Wrt w w2 B b (l ++ Lib.encodeRune (r : Int)) from ⟨h1, h2, h3⟩)
          clear h1 h2 h3
          go_wp2
          go_end0
          exact ⟨⟨_, rfl⟩, H2.out⟩
end Go.Proofs.YtifjdfmmafbhkaaGreatDoor

/- LxY -/
namespace Go.Proofs.YtifjdfmmafbhkaaGreatDoor
open Go.RowKit

theorem dec_dcG (l : LxS) (p : Nat) (hp : p < l.length) : Utf8.decode (ByteArray.mk ⟨l⟩) p = Lib.decodeL (l.drop p) := by
  have hne : l.drop p ≠ [] := by rw [← List.length_pos_iff, List.length_drop]; omega
  rw [Lib.decode_N, Lib.decodeL_N]
  show Lib.decodeN (l.length - p) (byN l p) (byN l (p + 1)) (byN l (p + 2)) (byN l (p + 3)) = Lib.decodeN (l.drop p).length (byN (l.drop p) 0) (byN (l.drop p) 1) (byN (l.drop p) 2) (byN (l.drop p) 3)
  rw [List.length_drop, byN_drop, byN_drop, byN_drop, byN_drop]
  rfl
/-- a rune of right UTF-8 within a string -/
theorem qr_step (l : LxS) (p : Nat) (hp : p < l.length) (hv : Lib.validD (l.drop p) = true) :
    Lib.validD (l.drop (p + (Utf8.decode (ByteArray.mk ⟨l⟩) p).2)) = true ∧ 1 ≤ (Utf8.decode (ByteArray.mk ⟨l⟩) p).2 ∧ p + (Utf8.decode (ByteArray.mk ⟨l⟩) p).2 ≤ l.length ∧ quB (l.take (p + (Utf8.decode (ByteArray.mk ⟨l⟩) p).2)) = quB (l.take p) ++ qrB (Utf8.decode (ByteArray.mk ⟨l⟩) p).1 := by
  have hne : l.drop p ≠ [] := by rw [← List.length_pos_iff, List.length_drop]; omega
  rw [Lib.validD_step _ hne, ← dec_dcG l p hp] at hv
  by_cases c : (Utf8.decode (ByteArray.mk ⟨l⟩) p).1 = 65533 ∧ (Utf8.decode (ByteArray.mk ⟨l⟩) p).2 = 1
  · rw [if_pos c] at hv; cases hv
  · rw [if_neg c, List.drop_drop] at hv
    have hen : Lib.encodeRune ((Utf8.decode (ByteArray.mk ⟨l⟩) p).1 : Int) = (l.drop p).take (Utf8.decode (ByteArray.mk ⟨l⟩) p).2 := by
      rw [dec_dcG l p hp] at c ⊢
      exact Lib.encode_decode (l.drop p) hne c
    have hq : ∀ m, quB (l.take (p + m)) = quB (l.take p) ++ quB ((l.drop p).take m) := fun m => by rw [List.take_add, quB_app]
    by_cases hc : byN l p < 128
    · rw [dec_lo hc] at hv ⊢
      refine ⟨hv, Nat.le_refl _, hp, ?_⟩
      rw [hq]
      congr 1
      show _ = if byN l p < 128 then qcB (byN l p) else _
      rw [if_pos hc]
      obtain ⟨x, t, ht⟩ := List.exists_cons_of_ne_nil hne
      have hx : byN l p = x.toNat := by
        have := byN_drop l p 0
        rw [ht] at this
        exact this.symm
      rw [ht, hx]
      simp [quB]
    · obtain ⟨h1, h2, h3, h4⟩ := dec_hi hp (Nat.le_of_not_lt hc)
      refine ⟨hv, h2, h3, ?_⟩
      rw [hq]
      congr 1
      have hqr : qrB (Utf8.decode (ByteArray.mk ⟨l⟩) p).1 = Lib.encodeRune ((Utf8.decode (ByteArray.mk ⟨l⟩) p).1 : Int) := if_neg (by omega)
      rw [hqr, hen]
      refine quB_hi _ (fun j hj => ?_)
      have hj2 : j < (Utf8.decode (ByteArray.mk ⟨l⟩) p).2 := by rw [List.length_take] at hj; omega
      rw [byN_take, if_pos hj2, byN_drop]
      exact h4 j hj2
theorem validString_any (w : World) (v : LxS) (hv : v.length ≤ 140737488351232) (hT : U8S w) :
    Calls Tryz.prog 15 #[.string (ByteArray.mk ⟨v⟩)] w fun e w' => e = .returned (.bool (Lib.validD v)) ∧ w.grownBy w' none :=
  (Any.utf8_ValidString Tryz.lays196 (ByteArray.mk ⟨v⟩) w (by show v.length ≤ 9223372036854775807; omega) hT).mono fun e w' ⟨h1, h2⟩ => ⟨h1, h2.os, h2.tape, h2.output, h2.size, fun k hk _ => h2.block k hk⟩
theorem gb_lowerB {w wr w1 : World} {g : Option Nat} {B : Nat} (hB : w.heap.size ≤ B) (h : w.grownBy wr g) (hb : Below B wr w1) : w.grownBy w1 g :=
  ⟨hb.os.trans h.os, hb.tape.trans h.tape, hb.output.trans h.output, Nat.le_trans h.size hb.size, fun k hk hne => (hb.block k (by omega)).trans (h.block k hk hne)⟩
/-- a builder and a range over a text between two rounds -/
def QuI (w wr : World) (z it : Nat) (l m : LxS) (p : Nat) : Prop := Bdr wr z z m ∧ w.grownBy wr none ∧ wr.heap[it]? = some (.stringIter (ByteArray.mk ⟨l⟩) p) ∧ w.heap.size ≤ z ∧ z < it ∧ z ≤ wr.heap.size
theorem QuI.next {w wr : World} {z it : Nat} {l m : LxS} {p : Nat} (h : QuI w wr z it l m p) (q : Nat) : QuI w (wr.iterAt it (ByteArray.mk ⟨l⟩) q) z it l m q :=
  ⟨h.1.iterAt h.2.2.1 q, ⟨h.2.1.os, h.2.1.tape, h.2.1.output, by rw [Lib.iterAt_size]; exact h.2.1.size, fun k hk hn => by rw [Lib.iterAt_other wr it k _ q (by have := h.2.2.2; omega)]; exact h.2.1.block k hk hn⟩, Lib.iterAt_heap wr it _ p q h.2.2.1, h.2.2.2.1, h.2.2.2.2.1, by rw [Lib.iterAt_size]; exact h.2.2.2.2.2⟩
theorem QuI.write {w wr w2 : World} {z it : Nat} {l m m' : LxS} {p : Nat} (h : QuI w wr z it l m p) (hw : Bdr w2 z z m' ∧ Below z wr w2 ∧ Oth z wr w2) : QuI w w2 z it l m' p :=
  ⟨hw.1, gb_lowerB h.2.2.2.1 h.2.1 hw.2.1, Lib.OthersKept.iter hw.2.2 h.2.2.1 (by have := h.2.2.2; omega), h.2.2.2.1, h.2.2.2.2.1, Nat.le_trans h.2.2.2.2.2 hw.2.1.size⟩
theorem QuI.start {w W : World} {z : Nat} {l m : LxS} (h : Bdr W z z m ∧ w.grownBy W none) (hz : w.heap.size ≤ z) (hz2 : z < W.heap.size) : QuI w (W.iter (ByteArray.mk ⟨l⟩) 0) z W.heap.size l m 0 :=
  ⟨h.1.alloc _, gb_none h.2 (World.grownBy_alloc _ _ _), World.iter_heap W _ 0, hz, hz2, Nat.le_trans (Nat.le_of_lt hz2) (World.grownBy_alloc W (.stringIter (ByteArray.mk ⟨l⟩) 0) none).size⟩
/-- what Quote answers -/
def quV (R : LxS × Int) : Value := .tuple #[.string (ByteArray.mk ⟨R.1⟩), .int .i64 R.2]
set_option maxRecDepth 8000 in
set_option maxHeartbeats 3200000 in
theorem quote_any (w : World) (l : LxS) (hl : l.length ≤ 200000000) (hT : U8S w) :
    Calls Tryz.prog 6 #[.string (ByteArray.mk ⟨l⟩)] w fun e w' => e = .returned (quV (quW l)) ∧ w.grownBy w' none := by
  have hz : (ByteArray.mk ⟨l⟩).size = l.length := rfl
  have HV := hidJ (validString_any w l (by omega) hT)
  have HW : Hid (quW l = if Lib.validD l = true then (34 :: (quB l ++ [34]), 0) else ([], 12)) := rfl
  have HVD := hidJ (fun p => qr_step l p)
  have hV0 : Lib.validD (l.drop 0) = Lib.validD l := by rw [List.drop_zero]
  have HLp : Hid (∀ p, (quB (l.take p)).length ≤ 4 * l.length) := fun p => Nat.le_trans (quB_len _) (by rw [List.length_take]; omega)
  have HTk : Hid (l.take l.length = l) := List.take_length
  have HQ0 : Hid (quB (l.take 0) = []) := rfl
  generalize quW l = R at *
  generalize hvd : Lib.validD l = B at *
  cases B with
  | false =>
    have hR := HW.out
    rw [if_neg (by simp)] at hR
    subst hR
    clear HW HVD HLp HTk hV0 hvd HQ0
    go_enter Tryz.func6, Tryz.ntmps6
    go_wp2_with fail
    refine HV.out.mono ?_
    rintro e w1 ⟨rfl, hg1⟩
    have H1 := hidJ hg1
    clear hg1 HV
    go_wp2
    go_ret2
    exact ⟨rfl, H1.out⟩
  | true =>
    have hR := HW.out
    rw [if_pos rfl] at hR
    subst hR
    have HV1 := hidJ hV0
    clear HW hV0 hvd
    go_enter Tryz.func6, Tryz.ntmps6
    go_wp2_with fail
    refine HV.out.mono ?_
    rintro e w1 ⟨rfl, hg1⟩
    have H1 := hidJ hg1
    clear hg1 HV
    go_wp2_with fail
    have H0 := hidJ (show Bdr (w1.alloc (.cells #[.pointer none, .slice none 0 0] 41)) w1.heap.size w1.heap.size [] ∧ w.grownBy (w1.alloc (.cells #[.pointer none, .slice none 0 0] 41)) none from ⟨Lib.IsBuilderF.of (Lib.fresh_isBuilder 41 5 w1), gb_none H1.out (World.grownBy_alloc _ _ _)⟩)
    have hz1 := hidJ H1.out.size
    have hz2 := hidJ (show w1.heap.size < (w1.alloc (.cells #[.pointer none, .slice none 0 0] 41)).heap.size from (Array.getElem?_eq_some_iff.1 (alloc_at w1 _)).1)
    generalize w1.alloc (.cells #[.pointer none, .slice none 0 0] 41) = W0 at *
    generalize w1.heap.size = z1 at *
    clear H1
    refine (bWriteByte W0 z1 z1 [] 34 H0.out.1 (by simp) (Nat.le_of_lt hz2.out)).mono ?_
    rintro e w2 ⟨rfl, h1, h2, h3⟩
    have H2 := hidJ (QuI.start (w := w) (l := l) ⟨h1, gb_lowerB hz1.out H0.out.2 h2⟩ hz1.out (Nat.lt_of_lt_of_le hz2.out h2.size))
    clear h1 h2 h3 H0 hz1 hz2
    go_wp2_with fail
    generalize w2.iter (ByteArray.mk ⟨l⟩) 0 = w3 at *
    generalize w2.heap.size = it at *
    go_loopg [6] (l.length + 1) (fun gk _ wr => ∃ p : Nat, l.length < p + gk ∧ p ≤ l.length ∧ Hid (QuI w wr z1 it l (34 :: quB (l.take p)) p ∧ Lib.validD (l.drop p) = true))
    case atStart => exact ⟨0, by omega, by omega, H2.out, HV1.out⟩
    case round =>
      obtain ⟨p, hg, hp, hr⟩ := hrel
      by_cases hlt : p < l.length
      · obtain ⟨k, rfl⟩ : ∃ k, gk = k + 1 := ⟨gk - 1, by omega⟩
        have hnx := fun ty => Lib.run_next_any_at (P := Tryz.prog) wr it (ByteArray.mk ⟨l⟩) p ty hr.out.1.2.2.1 hlt
        have HR := hidJ (hr.out.1.next (p + (Utf8.decode (ByteArray.mk ⟨l⟩) p).2))
        have hdl := decode_le (ByteArray.mk ⟨l⟩) p
        have HS := hidJ (HVD.out p hlt hr.out.2)
        have HLn := hidJ (HLp.out p)
        have hru : (Utf8.decode (ByteArray.mk ⟨l⟩) p).1 ≤ 1114111 := by
          rw [dec_dcG l p hlt]
          have hne : l.drop p ≠ [] := by rw [← List.length_pos_iff, List.length_drop]; omega
          have := dcG_rune (l.drop p)
          unfold dcG at this
          rwa [if_neg hne] at this
        clear hr
        generalize (Utf8.decode (ByteArray.mk ⟨l⟩) p).1 = c at *
        generalize (Utf8.decode (ByteArray.mk ⟨l⟩) p).2 = q0 at *
        obtain ⟨q, hqd⟩ : ∃ q, p + q0 = q := ⟨_, rfl⟩
        rw [hqd] at hnx HR HS
        have hpq : p < q ∧ q ≤ l.length := ⟨by have := HS.out.2.1; omega, HS.out.2.2.1⟩
        have HQ := hidJ HS.out.2.2.2
        have HD := hidJ HS.out.1
        clear HS hqd
        generalize wr.iterAt it (ByteArray.mk ⟨l⟩) q = w4 at *
        generalize quB (l.take p) = m at *
        go_wp2_with fail
        refine (quoteRune_any w4 z1 z1 (34 :: m) c hru HR.out.1 (by have := HLn.out; simp only [List.length_cons]; omega) HR.out.2.2.2.2.2).mono ?_
        rintro e w5 ⟨⟨v, rfl⟩, h5⟩
        have H5 := hidJ (show QuI w w5 z1 it l (34 :: quB (l.take q)) q from by rw [HQ.out]; exact HR.out.write h5)
        clear h5 HR
        go_wp2
        go_roundg k
        case measure => omega
        case rel => exact ⟨q, by omega, by omega, H5.out, HD.out⟩
      · obtain rfl : p = l.length := by omega
        have hnx := fun ty => Lib.run_next_end_at (P := Tryz.prog) wr it (ByteArray.mk ⟨l⟩) l.length ty hr.out.1.2.2.1 hlt
        have hr1 := hidJ hr.out.1
        rw [HTk.out] at hr1
        have HL := hidJ (quB_len l)
        clear hr
        go_wp2_with fail
        refine (bWriteByte wr z1 z1 (34 :: quB l) 34 hr1.out.1 (by have := HL.out; simp only [List.length_cons]; omega) hr1.out.2.2.2.2.2).mono ?_
        rintro e w2 ⟨rfl, h1, h2, h3⟩
        have H6 := hidJ (hr1.out.write ⟨h1, h2, h3⟩)
        clear h1 h2 h3 hr1
        go_wp2_with fail
        refine (bString w2 _ _ _ H6.out.1 H6.out.2.2.2.2.2).mono ?_
        rintro e w7 ⟨rfl, hb7⟩
        have H7 := hidJ (gb_lowerB H6.out.2.2.2.1 H6.out.2.1 hb7)
        clear H6 hb7
        go_wp2
        go_ret2
        exact ⟨rfl, H7.out⟩
end Go.Proofs.YtifjdfmmafbhkaaGreatDoor
