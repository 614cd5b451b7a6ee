/-
  Bits as a chunk's samples: plain facts; nothing of the program is in it.
-/
import Derived.Test.YtnaccmbnblokmaaDoorCkE
namespace Go.Proofs.YtnaccmbnblokmaaDoor
open Go.RowKit

/-- n bits from the place p on, of s -/
def tkO (L : List UInt8) (s p n : Nat) : Option (Nat × Nat) := if p + n ≤ s then some (natOf (ubits L p n), p + n) else none
theorem tkO_at {L : List UInt8} {p s : Nat} {bs : List Bool} (h : At L p s bs) : tkO L s p bs.length = some (natOf bs, p + bs.length) := by
  unfold tkO
  rw [if_pos h.1, h.ubits]
theorem tkO_of {L : List UInt8} {p s x n : Nat} (h : At L p s (bitsOf x n)) (hx : x < 2 ^ n) : tkO L s p n = some (x, p + n) := by
  have := tkO_at h
  rw [bitsOf_len, natOf_bitsOf, Nat.mod_eq_of_lt hx] at this
  exact this
theorem tkO_lt {L : List UInt8} {p s n x p1 : Nat} (h : tkO L s p n = some (x, p1)) : x < 2 ^ n ∧ p1 = p + n ∧ p + n ≤ s := by
  unfold tkO at h
  split at h
  · rename_i hp
    simp only [Option.some.injEq, Prod.mk.injEq] at h
    obtain ⟨rfl, rfl⟩ := h
    refine ⟨?_, rfl, hp⟩
    have := natOf_lt (ubits L p n)
    rwa [ubits_len] at this
  · cases h
/-- the bytes of a number -/
def numO (L : List UInt8) (s : Nat) : Nat → Nat → Option (List UInt8 × Nat)
  | 0, _ => none
  | k + 1, p => match tkO L s p 8 with
    | none => none
    | some (x, p1) => if x < 128 then some ([UInt8.ofNat x], p1) else match numO L s k p1 with
      | none => none
      | some (bs, p2) => some (UInt8.ofNat x :: bs, p2)
theorem At.nil {L : List UInt8} {p s : Nat} (h : p ≤ s) : At L p s [] := ⟨by simpa using h, fun j hj => by simp at hj⟩
theorem bytesBits_cons (b : UInt8) (l : List UInt8) : bytesBits (b :: l) = bitsOf b.toNat 8 ++ bytesBits l := rfl
theorem numO_at {L : List UInt8} {s : Nat} : ∀ (k n p : Nat), At L p s (bytesBits (uv n)) → (uv n).length ≤ k → numO L s k p = some (uv n, p + 8 * (uv n).length) := by
  intro k
  induction k with
  | zero => intro n p _ h; have := uv_pos n; omega
  | succ k ih =>
    intro n p h hk
    by_cases hn : n < 128
    · rw [uv_small hn] at h ⊢
      rw [bytesBits_cons] at h
      have e : (UInt8.ofNat n).toNat = n := by rw [UInt8.toNat_ofNat']; omega
      have h1 := tkO_of h.app.1 (by rw [e]; omega)
      rw [numO, h1]
      simp only [e]
      rw [if_pos hn]
      rfl
    · rw [uv_big hn] at h hk ⊢
      rw [bytesBits_cons] at h
      have h0 := lowB_nat n
      have h1 := tkO_of h.app.1 (by have := (lowB n).toNat_lt; omega)
      have h2 := h.app.2
      rw [bitsOf_len] at h2
      have h3 := ih (n / 128) (p + 8) h2 (by simpa using hk)
      rw [numO, h1]
      simp only [h3]
      rw [if_neg (by omega)]
      have e : UInt8.ofNat (lowB n).toNat = lowB n := by simp
      rw [e]
      simp only [List.length_cons, Option.some.injEq, Prod.mk.injEq, true_and]
      omega
/-- the form of a turn -/
def trnO (L : List UInt8) (s : Nat) : Nat → Nat → Option (Nat × Nat)
  | 0, p => some (0, p)
  | k + 1, p => match tkO L s p 1 with
    | none => none
    | some (x, p1) => if x = 1 then match trnO L s k p1 with
      | none => none
      | some (j, p2) => some (j + 1, p2) else some (0, p1)
theorem tkO_bit {L : List UInt8} {s p : Nat} {b : Bool} (h : At L p s [b]) : tkO L s p 1 = some (b2n b, p + 1) := by
  have e : tkO L s p 1 = some (natOf [b], p + 1) := tkO_at h
  rw [e]
  cases b <;> rfl
theorem trnO_at {L : List UInt8} {s : Nat} : ∀ (k j p : Nat), j ≤ k → p ≤ s → At L p s (List.replicate j true ++ (if j < k then [false] else [])) → trnO L s k p = some (j, p + (List.replicate j true ++ (if j < k then [false] else [])).length) := by
  intro k
  induction k with
  | zero =>
    intro j p hj _ _
    obtain rfl : j = 0 := by omega
    simp [trnO]
  | succ k ih =>
    intro j p hj hp h
    cases j with
    | zero =>
      simp only [List.replicate_zero, List.nil_append, Nat.zero_lt_succ, if_true] at h ⊢
      rw [trnO, tkO_bit h]
      simp [b2n]
    | succ j =>
      rw [List.replicate_succ, List.cons_append] at h ⊢
      have e : (true :: (List.replicate j true ++ if j + 1 < k + 1 then [false] else [])) = [true] ++ (List.replicate j true ++ if j < k then [false] else []) := by
        simp [Nat.succ_lt_succ_iff]
      rw [e] at h ⊢
      have h2 := ih j (p + 1) (by omega) (by have := h.app.1.1; simpa using this) (by simpa using h.app.2)
      rw [trnO, tkO_bit h.app.1]
      simp only [b2n, if_true, h2]
      simp only [List.length_append, List.length_cons, List.length_nil, Option.some.injEq, Prod.mk.injEq, true_and]
      omega
/-- the number of R(k) whose lowest bits these are -/
def ofRk (v k : Nat) : Int := if k = 64 then wrap64 (v : Int) else if 0 < k ∧ 2 ^ (k - 1) < v then (v : Int) - ((2 ^ k : Nat) : Int) else (v : Int)
theorem ofRk_form (d : Int) (h1 : -9223372036854775808 ≤ d) (h2 : d ≤ 9223372036854775807) : ofRk (U64 d % 2 ^ tw (formN d)) (tw (formN d)) = d := by
  unfold formN
  split
  · subst d
    decide
  · split
    · rename_i h0 h
      show ofRk (U64 d % 2 ^ 14) 14 = d
      unfold ofRk U64
      simp only [show (14 : Nat) = 64 ↔ False by decide, if_false, show (0 : Nat) < 14 by decide, true_and, show 2 ^ (14 - 1) = 8192 by decide, show 2 ^ 14 = 16384 by decide]
      split <;> omega
    · split
      · rename_i h0 h h'
        show ofRk (U64 d % 2 ^ 17) 17 = d
        unfold ofRk U64
        simp only [show (17 : Nat) = 64 ↔ False by decide, if_false, show (0 : Nat) < 17 by decide, true_and, show 2 ^ (17 - 1) = 65536 by decide, show 2 ^ 17 = 131072 by decide]
        split <;> omega
      · split
        · rename_i h0 h h' h''
          show ofRk (U64 d % 2 ^ 20) 20 = d
          unfold ofRk U64
          simp only [show (20 : Nat) = 64 ↔ False by decide, if_false, show (0 : Nat) < 20 by decide, true_and, show 2 ^ (20 - 1) = 524288 by decide, show 2 ^ 20 = 1048576 by decide]
          split <;> omega
        · show ofRk (U64 d % 2 ^ 64) 64 = d
          unfold ofRk U64
          rw [if_pos rfl]
          unfold wrap64
          simp only [show 2 ^ 64 = 18446744073709551616 by decide]
          omega
def turnO (L : List UInt8) (s p : Nat) : Option (Int × Nat) := match trnO L s 4 p with
  | none => none
  | some (k, p1) => match tkO L s p1 (tw k) with
    | none => none
    | some (v, p2) => some (ofRk v (tw k), p2)
theorem turnO_at {L : List UInt8} {s p : Nat} {d : Int} (h1 : -9223372036854775808 ≤ d) (h2 : d ≤ 9223372036854775807) (h : At L p s (turnB d)) : turnO L s p = some (d, p + (turnB d).length) := by
  unfold turnB at h ⊢
  have ha := h.app
  have hp : p ≤ s := by have := h.1; omega
  have e1 := trnO_at 4 (formN d) p (formN_le d) hp ha.1
  have e2 := tkO_of ha.2 (Nat.mod_lt _ (Nat.pow_pos (by decide)))
  unfold turnO
  rw [e1]
  simp only
  unfold headB at e2 ⊢
  rw [e2]
  simp only
  rw [ofRk_form d h1 h2]
  simp only [List.length_append, bitsOf_len, Option.some.injEq, Prod.mk.injEq, true_and]
  omega
/-- the window that a value's bits are in -/
def winO (st : Pst) (L : List UInt8) (s p : Nat) : Option ((Bool × Nat × Nat) × Nat) := match tkO L s p 1 with
  | none => none
  | some (x, p1) => if x = 1 then match tkO L s p1 5 with
    | none => none
    | some (l, p2) => match tkO L s p2 6 with
      | none => none
      | some (z, p3) => if 64 < l + (if z = 0 then 64 else z) then none else some ((true, l, 64 - l - (if z = 0 then 64 else z)), p3) else if st.th = true then some ((true, st.ld, st.tl), p1) else none
def turnedO (st : Pst) (L : List UInt8) (s p : Nat) : Option (Nat × (Bool × Nat × Nat) × Nat) := match winO st L s p with
  | none => none
  | some (w, p1) => match tkO L s p1 (64 - w.2.1 - w.2.2) with
    | none => none
    | some (v, p2) => some (v * 2 ^ w.2.2, w, p2)
def valO (st : Pst) (L : List UInt8) (s p : Nat) : Option (Nat × (Bool × Nat × Nat) × Nat) := match tkO L s p 1 with
  | none => none
  | some (x, p1) => if x = 1 then match turnedO st L s p1 with
    | none => none
    | some (v, w, p2) => some (st.f ^^^ v, w, p2) else some (st.f, (st.th, st.ld, st.tl), p1)
theorem shift_back {x k m : Nat} (h : x = 2 ^ k * m) : x / 2 ^ k * 2 ^ k = x := by
  subst h
  rw [Nat.mul_div_cancel_left _ (Nat.pow_pos (by decide)), Nat.mul_comm]
theorem pow_split {a b : Nat} (h : b ≤ a) : 2 ^ a = 2 ^ b * 2 ^ (a - b) := by rw [← Nat.pow_add]; congr 1; omega
theorem div_lt_pow {x a b : Nat} (h : x < 2 ^ a) (hb : b ≤ a) : x / 2 ^ b < 2 ^ (a - b) := by
  rw [Nat.div_lt_iff_lt_mul (Nat.pow_pos (by decide)), Nat.mul_comm, ← pow_split hb]
  exact h
theorem turnedO_at {st : Pst} {L : List UInt8} {s p x : Nat} (h0 : x ≠ 0) (hx : x < 18446744073709551616) (hw : st.ld ≤ 31 ∧ st.ld + st.tl < 64) (h : At L p s (turnedB st x)) :
    turnedO st L s p = some (x, (if fitsW st x = true then (st.th, st.ld, st.tl) else (true, leadN x, tailN x)), p + (turnedB st x).length) := by
  obtain ⟨m, hm, hk⟩ := tail_spec h0 hx
  obtain ⟨l1, l2, l3⟩ := lead_spec h0 hx
  unfold turnedB at h ⊢
  by_cases hf : fitsW st x = true
  · rw [if_pos hf] at h ⊢
    rw [if_pos hf]
    have hf' := hf
    unfold fitsW at hf'
    simp only [Bool.and_eq_true, decide_eq_true_eq] at hf'
    obtain ⟨⟨f1, f2⟩, f3⟩ := hf'
    have ha := (show At L p s ([false] ++ bitsOf (x / 2 ^ st.tl) (64 - st.ld - st.tl)) from h).app
    have e1 := tkO_bit ha.1
    have hlt : x < 2 ^ (64 - st.ld) := Nat.lt_of_lt_of_le l1 (Nat.pow_le_pow_right (by decide) (by omega))
    have e2 := tkO_of ha.2 (div_lt_pow hlt (by omega))
    have e3 : x / 2 ^ st.tl * 2 ^ st.tl = x := by
      refine shift_back (m := 2 ^ (tailN x - st.tl) * (2 * m + 1)) ?_
      rw [← Nat.mul_assoc, ← pow_split f3]
      exact hm
    unfold turnedO winO
    rw [e1]
    simp only [b2n, Bool.false_eq_true, if_false, show (0 : Nat) = 1 ↔ False by decide, f1, if_true]
    rw [show p + 1 = p + [false].length from rfl, e2]
    simp only [e3, List.length_cons, List.length_nil, bitsOf_len, Option.some.injEq, Prod.mk.injEq, true_and]
    omega
  · rw [if_neg hf] at h ⊢
    rw [if_neg hf]
    unfold ownB at h ⊢
    have ha := (show At L p s ([true] ++ (bitsOf (leadN x) 5 ++ (bitsOf ((64 - leadN x - tailN x) % 64) 6 ++ bitsOf (x / 2 ^ tailN x) (64 - leadN x - tailN x)))) from h).app
    have e1 := tkO_bit ha.1
    have hb := ha.2.app
    have e2 := tkO_of hb.1 (by omega)
    have hc := hb.2.app
    have e3 := tkO_of hc.1 (by omega)
    have e4 := tkO_of hc.2 (div_lt_pow l1 (by omega))
    simp only [bitsOf_len, List.length_cons, List.length_nil, Nat.zero_add] at e2 e3 e4
    have hz : (if (64 - leadN x - tailN x) % 64 = 0 then 64 else (64 - leadN x - tailN x) % 64) = 64 - leadN x - tailN x := by
      split <;> omega
    unfold turnedO winO
    rw [e1]
    simp only [b2n, if_true]
    rw [e2]
    simp only
    rw [e3]
    simp only
    rw [hz, if_neg (by omega)]
    simp only
    have hsz : 64 - leadN x - (64 - leadN x - (64 - leadN x - tailN x)) = 64 - leadN x - tailN x := by omega
    have htl : 64 - leadN x - (64 - leadN x - tailN x) = tailN x := by omega
    rw [hsz, htl, e4]
    simp only [shift_back hm, List.length_cons, List.length_append, bitsOf_len, Option.some.injEq, Prod.mk.injEq, true_and]
    omega
theorem xor_back (a b : Nat) : a ^^^ (a ^^^ b) = b := by rw [← Nat.xor_assoc, Nat.xor_self, Nat.zero_xor]
theorem valO_at {st : Pst} {L : List UInt8} {s p f' : Nat} (hs : OkP st) (hf : f' < 18446744073709551616) (h : At L p s (valB st f')) :
    valO st L s p = some (f', valW st f', p + (valB st f').length) := by
  unfold valB at h ⊢
  unfold valW
  by_cases h0 : st.f ^^^ f' = 0
  · rw [if_pos h0] at h ⊢
    rw [if_pos (.inl h0)]
    unfold valO
    rw [tkO_bit h]
    simp only [b2n, Bool.false_eq_true, if_false, show (0 : Nat) = 1 ↔ False by decide]
    have e : f' = st.f := by
      have := xor_back st.f f'
      rw [h0, Nat.xor_zero] at this
      exact this.symm
    rw [e]
    rfl
  · rw [if_neg h0] at h ⊢
    have ha := (show At L p s ([true] ++ turnedB st (st.f ^^^ f')) from h).app
    have e1 := tkO_bit ha.1
    have e2 := turnedO_at h0 (xor_lt hs.bits hf) hs.win ha.2
    unfold valO
    rw [e1]
    simp only [b2n, if_true]
    rw [show p + 1 = p + [true].length from rfl, e2]
    simp only [xor_back]
    have e3 : (if fitsW st (st.f ^^^ f') = true then (st.th, st.ld, st.tl) else (true, leadN (st.f ^^^ f'), tailN (st.f ^^^ f'))) = (if st.f ^^^ f' = 0 ∨ fitsW st (st.f ^^^ f') = true then (st.th, st.ld, st.tl) else (true, leadN (st.f ^^^ f'), tailN (st.f ^^^ f'))) := by
      simp [h0]
    rw [e3]
    simp only [List.length_cons, List.length_nil, Option.some.injEq, Prod.mk.injEq, true_and]
    omega
/-- the time of the next sample -/
def timO (st : Pst) (L : List UInt8) (s p : Nat) : Option (Int × Nat) :=
  if st.n = 0 then match numO L s (s / 8 + 1) p with
    | none => none
    | some (bs, p1) => if (uSpec bs 0).2.2 = 0 then some (uz (BitVec.ofNat 64 (uSpec bs 0).1).toNat, p1) else none
  else if st.n = 1 then match numO L s (s / 8 + 1) p with
    | none => none
    | some (bs, p1) => if (uSpec bs 0).2.2 = 0 then some (wrap64 (st.t + wrap64 (I64 (BitVec.ofNat 64 (uSpec bs 0).1))), p1) else none
  else match turnO L s p with
    | none => none
    | some (d, p1) => some (wrap64 (wrap64 (st.t + st.gap) + d), p1)
theorem uSpec_uv {n : Nat} (h : n < 18446744073709551616) : uSpec (uv n) 0 = (n, ((uv n).length : Int), 0) := by
  have h1 := rdU_uv (n + 1) n 0 0 [] (by omega) (by omega) (by simpa using h) (by omega)
  simp only [List.append_nil, Nat.pow_zero, Nat.mul_one, Nat.zero_add] at h1
  have h2 := uSpec_in (l := uv n) (a := 0) (Nat.zero_le _) (r := .ok (n, (uv n).length)) h1
  rw [show ((0 : Nat) : Int) = 0 from rfl] at h2
  rw [h2]
  simp [uRes]
theorem uz_zz {t : Int} (h : 0 ≤ t ∧ t ≤ 1125899906842624) : uz (zz t) = t := by
  have e : zz t = (2 * t).toNat := by unfold zz; rw [if_neg (by omega)]
  rw [e]
  unfold uz
  split <;> omega
theorem timO_at {st : Pst} {L : List UInt8} {s p : Nat} {t' : Int} (hs : OkP st) (ht : 0 ≤ t' ∧ t' ≤ 1125899906842624) (hr : st.n = 0 ∨ st.t < t') (h : At L p s (timB st t')) :
    timO st L s p = some (t', p + (timB st t').length) := by
  have hsz := h.1
  unfold timB at h hsz ⊢
  unfold timO
  by_cases h0 : st.n = 0
  · rw [if_pos h0] at h hsz ⊢
    rw [if_pos h0]
    rw [bytesBits_len] at hsz ⊢
    have hz : zz t' < 18446744073709551616 := by unfold zz; split <;> omega
    rw [numO_at (s / 8 + 1) (zz t') p h (by omega)]
    simp only [uSpec_uv hz, if_true]
    rw [BitVec.toNat_ofNat, Nat.mod_eq_of_lt hz, uz_zz ht]
  · rw [if_neg h0] at h hsz ⊢
    rw [if_neg h0]
    by_cases h1 : st.n = 1
    · rw [if_pos h1] at h hsz ⊢
      rw [if_pos h1]
      rw [bytesBits_len] at hsz ⊢
      have ht1 := hs.time
      have hz : (t' - st.t).toNat < 18446744073709551616 := by omega
      rw [numO_at (s / 8 + 1) _ p h (by omega)]
      simp only [uSpec_uv hz, if_true]
      have e : I64 (BitVec.ofNat 64 (t' - st.t).toNat) = t' - st.t := by
        unfold I64
        rw [BitVec.toNat_ofNat]
        omega
      rw [e]
      simp only [wrap64, Option.some.injEq, Prod.mk.injEq, and_true]
      omega
    · rw [if_neg h1] at h hsz ⊢
      rw [if_neg h1]
      have ht1 := hs.time
      have hg1 := hs.gap
      rw [turnO_at (by omega) (by omega) h]
      simp only [wrap64, Option.some.injEq, Prod.mk.injEq, and_true]
      omega
/-- the next sample -/
def nexO (st : Pst) (L : List UInt8) (s p : Nat) : Option (Int × Nat × (Bool × Nat × Nat) × Nat) := match timO st L s p with
  | none => none
  | some (t, p1) => if st.n = 0 then match tkO L s p1 64 with
      | none => none
      | some (f, p2) => some (t, f, (st.th, st.ld, st.tl), p2)
    else match valO st L s p1 with
      | none => none
      | some (f, w, p2) => some (t, f, w, p2)
theorem nexO_at {st : Pst} {L : List UInt8} {s p f' : Nat} {t' : Int} (hs : OkP st) (ht : 0 ≤ t' ∧ t' ≤ 1125899906842624) (hr : st.n = 0 ∨ st.t < t') (hf : f' < 18446744073709551616) (h : At L p s (smpB st t' f')) :
    nexO st L s p = some (t', f', smpW st f', p + (smpB st t' f').length) := by
  unfold smpB at h ⊢
  unfold smpW nexO
  have ha := h.app
  rw [timO_at hs ht hr ha.1]
  simp only [List.length_append]
  by_cases h0 : st.n = 0
  · simp only [h0, if_true] at ha ⊢
    rw [tkO_of ha.2 hf]
    simp only [bitsOf_len, Option.some.injEq, Prod.mk.injEq, true_and]
    omega
  · simp only [h0, if_false] at ha ⊢
    rw [valO_at hs hf ha.2]
    simp only [Option.some.injEq, Prod.mk.injEq, true_and]
    omega
/-- many samples are read as they were written, and in no other way -/
theorem enc_unique {L : List UInt8} {s : Nat} : ∀ (l m : List SmpT) (st : Pst) (p : Nat), OkP st → okL st l → okL st m → l.length = m.length → At L p s (encB st l) → At L p s (encB st m) → l = m := by
  intro l
  induction l with
  | nil => intro m st p _ _ _ hl _ _; exact (List.eq_nil_of_length_eq_zero hl.symm).symm
  | cons x l ih =>
    intro m st p hs h1 h2 hl a1 a2
    match m with
    | [] => simp at hl
    | y :: m =>
      obtain ⟨w1, b1, o1⟩ := h1
      obtain ⟨w2, b2, o2⟩ := h2
      have q1 := wrongN_ok w1 hs.most
      have q2 := wrongN_ok w2 hs.most
      rw [encB] at a1 a2
      have r1 := nexO_at hs q1.1 q1.2.1 b1 a1.app.1
      have r2 := nexO_at hs q2.1 q2.2.1 b2 a2.app.1
      rw [r1] at r2
      simp only [Option.some.injEq, Prod.mk.injEq] at r2
      obtain ⟨e1, e2, -, e3⟩ := r2
      have exy : x = y := Prod.ext e1 e2
      subst exy
      rw [ih m _ _ (nextOk hs q1.2.2 q1.1 b1) o1 o2 (by simpa using hl) a1.app.2 a2.app.2]
/-- a chunk's bytes -/
def ckB (l : List SmpT) : List UInt8 := [0, UInt8.ofNat l.length] ++ pack (encB startP l)
theorem packAt (bs : List Bool) : At (pack bs) 0 (8 * (pack bs).length) bs := by
  refine ⟨by rw [pack_len]; omega, fun j hj => ?_⟩
  rw [Nat.zero_add, ubit_pack _ _ hj]
theorem ubit_take {L : List UInt8} {k j : Nat} (h : j < 8 * k) : ubit (L.take k) j = ubit L j := by
  unfold ubit
  simp only [List.getD, List.getElem?_take]
  rw [if_pos (by omega)]
theorem ubit_app {L M : List UInt8} {j : Nat} (h : j < 8 * L.length) : ubit (L ++ M) j = ubit L j := by
  unfold ubit
  simp only [List.getD]
  rw [List.getElem?_append_left (by omega)]
theorem At.take {L : List UInt8} {k : Nat} {bs : List Bool} (h : At (L.take k) 0 (8 * (L.take k).length) bs) : At L 0 (8 * L.length) bs := by
  have hl : (L.take k).length ≤ L.length ∧ (L.take k).length ≤ k := by simp; omega
  refine ⟨by have := h.1; omega, fun j hj => ?_⟩
  rw [← h.2 j hj, Nat.zero_add, ubit_take]
  have := h.1
  omega
theorem At.more {L M : List UInt8} {bs : List Bool} (h : At L 0 (8 * L.length) bs) : At (L ++ M) 0 (8 * (L ++ M).length) bs := by
  refine ⟨by have := h.1; rw [List.length_append]; omega, fun j hj => ?_⟩
  rw [← h.2 j hj, Nat.zero_add, ubit_app]
  have := h.1
  omega
theorem ofNat_inj {a b : Nat} (ha : a < 256) (hb : b < 256) (h : UInt8.ofNat a = UInt8.ofNat b) : a = b := by
  have := congrArg UInt8.toNat h
  rw [UInt8.toNat_ofNat', UInt8.toNat_ofNat'] at this
  omega
/-- a chunk's beginning that is a chunk is the whole -/
theorem ckB_cut {l m : List SmpT} {M : List UInt8} (hl : okL startP l) (hm : okL startP m) (h : ckB l = ckB m ++ M) : M = [] := by
  have nl := (stA_ok startOk hl).most
  have nm := (stA_ok startOk hm).most
  rw [stA_n] at nl nm
  simp only [startP, Nat.zero_add] at nl nm
  unfold ckB at h
  simp only [List.cons_append, List.nil_append, List.cons.injEq, true_and] at h
  obtain ⟨h1, h2⟩ := h
  have e := ofNat_inj (by omega) (by omega) h1
  have a1 := packAt (encB startP l)
  have a2 := (packAt (encB startP m)).more (M := M)
  rw [← h2] at a2
  have := enc_unique l m startP 0 startOk hl hm e a1 a2
  subst this
  have := congrArg List.length h2
  rw [List.length_append] at this
  exact List.eq_nil_of_length_eq_zero (by omega)
end Go.Proofs.YtnaccmbnblokmaaDoor
