/-
  Torn, Nh1, U8Word, in one text.
-/
import Derived.Test.YtpglhdnepmcahaaGreatDoorVmB
import Derived.Test.YtpglhdnepmcahaaGreatDoorVmA
import Derived.Test.YtpglhdnepmcahaaGreatDoorVmD
import Derived.Test.YtpglhdnepmcahaaGreatDoorNmC
import Derived.Test.YtpglhdnepmcahaaGreatDoorMgB
import Derived.Test.YtpglhdnepmcahaaGreatDoorBsA
import Derived.Lib.Endian
import Derived.Lib.EndianBits
import Derived.Lib.ValidAsc
import Derived.Laws.BitsAllLaws
import Derived.Deep.Draws
import Derived.Deep.QuietTactic
import Derived.BigQuiet
/- Torn -/
namespace Go.Proofs.YtpglhdnepmcahaaGreatDoor

/-! ### a number's form is read as it was written -/
theorem rdU_uv : ∀ (N n i acc : Nat) (rest : List UInt8), n < N → i ≤ 9 → n * 128 ^ i < 18446744073709551616 → (0 < i → n ≠ 0) → rdU (uv n ++ rest) i acc = .ok (acc + n * 128 ^ i, i + (uv n).length) := by
  intro N
  induction N with
  | zero => intro n i acc rest h; omega
  | succ N ih =>
    intro n i acc rest hN hi hlt h0
    by_cases hn : n < 128
    · rw [uv_small hn]
      have hc : (UInt8.ofNat n).toNat = n := by rw [UInt8.toNat_ofNat']; omega
      simp only [List.cons_append, List.nil_append, List.length_cons, List.length_nil, rdU, hc]
      have h9 : ¬ (i = 9 ∧ 1 < n) := by
        rintro ⟨rfl, h1⟩
        have : (128 : Nat) ^ 9 = 9223372036854775808 := by decide
        rw [this] at hlt
        omega
      rw [if_neg h9, if_pos hn, if_neg (by intro h; exact h0 h.2 h.1)]
    · rw [uv_big hn]
      have hc : (lowB n).toNat = n % 128 + 128 := lowB_nat n
      have h9 : i ≠ 9 := by
        rintro rfl
        have : (128 : Nat) ^ 9 = 9223372036854775808 := by decide
        rw [this] at hlt
        omega
      simp only [List.cons_append, rdU, hc]
      rw [if_neg (fun h => h9 h.1), if_neg (by omega)]
      have e1 : n / 128 * 128 ^ (i + 1) ≤ n * 128 ^ i := by
        rw [Nat.pow_succ, Nat.mul_comm (128 ^ i) 128, ← Nat.mul_assoc]
        exact Nat.mul_le_mul_right _ (Nat.div_mul_le_self n 128)
      rw [ih (n / 128) (i + 1) _ rest (by omega) (by omega) (by omega) (fun _ => by omega)]
      have e2 : (n % 128 + 128) % 128 = n % 128 := by omega
      have e3 : n * 128 ^ i = n % 128 * 128 ^ i + n / 128 * 128 ^ (i + 1) := by
        rw [Nat.pow_succ, Nat.mul_comm (128 ^ i) 128, ← Nat.mul_assoc, ← Nat.add_mul]
        congr 1
        omega
      rw [e2, e3]
      simp only [List.length_cons, Except.ok.injEq, Prod.mk.injEq]
      omega
theorem rdU_cut : ∀ (N n i acc m : Nat), n < N → i ≤ 9 → n * 128 ^ i < 18446744073709551616 → m < (uv n).length → rdU ((uv n).take m) i acc = .error 9 := by
  intro N
  induction N with
  | zero => intro n i acc m h; omega
  | succ N ih =>
    intro n i acc m hN hi hlt hm
    by_cases hn : n < 128
    · rw [uv_small hn] at hm ⊢
      have : m = 0 := by simpa using hm
      subst this
      rfl
    · rw [uv_big hn] at hm ⊢
      cases m with
      | zero => rfl
      | succ m =>
        have hc : (lowB n).toNat = n % 128 + 128 := lowB_nat n
        have h9 : i ≠ 9 := by
          rintro rfl
          have : (128 : Nat) ^ 9 = 9223372036854775808 := by decide
          rw [this] at hlt
          omega
        simp only [List.take_succ_cons, rdU, hc]
        rw [if_neg (fun h => h9 h.1), if_neg (by omega)]
        have e1 : n / 128 * 128 ^ (i + 1) ≤ n * 128 ^ i := by
          rw [Nat.pow_succ, Nat.mul_comm (128 ^ i) 128, ← Nat.mul_assoc]
          exact Nat.mul_le_mul_right _ (Nat.div_mul_le_self n 128)
        exact ih (n / 128) (i + 1) _ m (by omega) (by omega) (by omega) (by simpa using hm)

theorem uSpec_uv (pre rest : List UInt8) (n : Nat) (hn : n < 18446744073709551616) : uSpec (pre ++ (uv n ++ rest)) (pre.length : Int) = (n, ((pre.length + (uv n).length : Nat) : Int), 0) := by
  have h := rdU_uv (n + 1) n 0 0 rest (by omega) (by omega) (by omega) (by omega)
  rw [uSpec_in (by simp) (r := .ok (n, (uv n).length)) (by rw [List.drop_left]; simpa using h)]
  simp [uRes]
theorem uSpec_cut (pre : List UInt8) (n m : Nat) (hn : n < 18446744073709551616) (hm : m < (uv n).length) : uSpec (pre ++ (uv n).take m) (pre.length : Int) = (0, 0, 9) := by
  have h := rdU_cut (n + 1) n 0 0 m (by omega) (by omega) (by omega) hm
  rw [uSpec_in (by simp) (r := .error 9) (by rw [List.drop_left]; exact h)]
  rfl

theorem s4_le4 (pre rest : List UInt8) (x : BitVec 32) : s4 (pre ++ (le4 x ++ rest)) pre.length = x.toNat := by
  have hx := x.isLt
  have g : ∀ j, (pre ++ (le4 x ++ rest)).getD (pre.length + j) 0 = (le4 x ++ rest).getD j 0 := fun j => by
    simp only [List.getD]
    rw [List.getElem?_append_right (by omega)]
    congr 2
    omega
  have g0 := g 0
  have g1 := g 1
  have g2 := g 2
  have g3 := g 3
  simp only [Nat.add_zero] at g0
  unfold s4
  rw [g0, g1, g2, g3]
  simp only [le4, List.cons_append, List.nil_append, List.getD_cons_zero, List.getD_cons_succ, UInt8.toNat_ofNat']
  omega
theorem le4_len (x : BitVec 32) : (le4 x).length = 4 := rfl
theorem frame_len (p : List UInt8) : (frame p).length = (uv p.length).length + (4 + p.length) := by
  unfold frame
  rw [List.length_append, List.length_append, le4_len]

/-- a frame's bytes with some content of its length in the place of its own -/
theorem fSpec_at (pre p q rest : List UInt8) (hp : p.length ≤ 65536) (hq : q.length = p.length) :
    (crc q = crc p → fSpec (pre ++ (uv p.length ++ (le4 (crc p) ++ (q ++ rest)))) (pre.length : Int) = .ok (q, pre.length + (frame p).length)) ∧
    (crc q ≠ crc p → fSpec (pre ++ (uv p.length ++ (le4 (crc p) ++ (q ++ rest)))) (pre.length : Int) = .error 11) := by
  have hu := uSpec_uv pre (le4 (crc p) ++ (q ++ rest)) p.length (by omega)
  have hs : s4 (pre ++ (uv p.length ++ (le4 (crc p) ++ (q ++ rest)))) (pre.length + (uv p.length).length) = (crc p).toNat := by
    have := s4_le4 (pre ++ uv p.length) (q ++ rest) (crc p)
    rw [List.length_append, List.append_assoc] at this
    exact this
  have hd : ((pre ++ (uv p.length ++ (le4 (crc p) ++ (q ++ rest)))).drop (pre.length + (uv p.length).length + 4)).take p.length = q := by
    have e : pre ++ (uv p.length ++ (le4 (crc p) ++ (q ++ rest))) = (pre ++ uv p.length ++ le4 (crc p)) ++ (q ++ rest) := by simp only [List.append_assoc]
    have e2 : pre.length + (uv p.length).length + 4 = (pre ++ uv p.length ++ le4 (crc p)).length := by simp only [List.length_append, le4_len]
    rw [e, e2, List.drop_left, ← hq, List.take_left]
  have hl : (pre ++ (uv p.length ++ (le4 (crc p) ++ (q ++ rest)))).length = pre.length + ((uv p.length).length + (4 + (p.length + rest.length))) := by simp only [List.length_append, le4_len, hq]
  have hb : BitVec.ofNat 32 (crc p).toNat = crc p := by simp
  constructor
  · intro h
    unfold fSpec
    simp only [hu, Int.toNat_natCast, hs, hd, hl]
    rw [if_neg (by simp), if_neg (by omega), if_neg (by omega), if_neg (by rw [hb]; simpa using h), frame_len]
    simp only [Except.ok.injEq, Prod.mk.injEq, true_and]
    omega
  · intro h
    unfold fSpec
    simp only [hu, Int.toNat_natCast, hs, hd, hl]
    rw [if_neg (by simp), if_neg (by omega), if_neg (by omega), if_pos (by rw [hb]; exact h)]
theorem fSpec_frame (pre p rest : List UInt8) (hp : p.length ≤ 65536) : fSpec (pre ++ (frame p ++ rest)) (pre.length : Int) = .ok (p, pre.length + (frame p).length) := by
  have h := (fSpec_at pre p p rest hp rfl).1 rfl
  have e : frame p ++ rest = uv p.length ++ (le4 (crc p) ++ (p ++ rest)) := by unfold frame; simp only [List.append_assoc]
  rw [e]
  exact h
theorem fSpec_torn (pre p : List UInt8) (m : Nat) (hp : p.length ≤ 65536) (hm : m < (frame p).length) : fSpec (pre ++ (frame p).take m) (pre.length : Int) = .error 9 := by
  by_cases h : m < (uv p.length).length
  · have e : (frame p).take m = (uv p.length).take m := by unfold frame; rw [List.take_append_of_le_length (by omega)]
    have hu := uSpec_cut pre p.length m (by omega) h
    rw [e]
    unfold fSpec
    simp only [hu]
    rw [if_pos (by decide)]
  · obtain ⟨j, rfl⟩ : ∃ j, m = (uv p.length).length + j := ⟨m - (uv p.length).length, by omega⟩
    have e : (frame p).take ((uv p.length).length + j) = uv p.length ++ (le4 (crc p) ++ p).take j := by unfold frame; rw [List.take_append, List.take_of_length_le (by omega)]; congr 2; omega
    have hu := uSpec_uv pre ((le4 (crc p) ++ p).take j) p.length (by omega)
    have hl : (pre ++ (uv p.length ++ (le4 (crc p) ++ p).take j)).length < pre.length + (uv p.length).length + (p.length + 4) := by
      rw [frame_len] at hm
      simp only [List.length_append, List.length_take, le4_len]
      omega
    rw [e]
    unfold fSpec
    simp only [hu, Int.toNat_natCast]
    rw [if_neg (by simp), if_neg (by omega), if_pos hl]

/-! ### many -/
def cat (ps : List (List UInt8)) : List UInt8 := ps.flatMap frame
theorem cat_append (a b : List (List UInt8)) : cat (a ++ b) = cat a ++ cat b := by simp [cat]
theorem cat_split {ps : List (List UInt8)} {j : Nat} (h : j < ps.length) : cat ps = cat (ps.take j) ++ (frame (ps.getD j []) ++ cat (ps.drop (j + 1))) := by
  have e : ps = ps.take j ++ (ps.getD j [] :: ps.drop (j + 1)) := by
    have h1 : ps.getD j [] = ps[j] := by simp [List.getD, h]
    rw [h1, ← List.drop_eq_getElem_cons h, List.take_append_drop]
  conv => lhs; rw [e]
  rw [cat_append]
  simp [cat]
theorem take_snoc {ps : List (List UInt8)} {j : Nat} (h : j < ps.length) : ps.take (j + 1) = ps.take j ++ [ps.getD j []] := by
  have h1 : ps.getD j [] = ps[j] := by simp [List.getD, h]
  rw [h1, List.take_succ_eq_append_getElem h]
theorem cat_take {ps : List (List UInt8)} {j : Nat} (h : j < ps.length) : cat (ps.take (j + 1)) = cat (ps.take j) ++ frame (ps.getD j []) := by
  rw [take_snoc h, cat_append]
  simp [cat]
theorem frame_pos (p : List UInt8) : 5 ≤ (frame p).length := by
  rw [frame_len]
  have := uv_pos p.length
  omega

theorem frs_cat (ps : List (List UInt8)) (hps : ∀ p ∈ ps, p.length ≤ 65536) (n W : Nat) (hn : n ≤ (cat ps).length) (hW : W ≤ ps.length) (h1 : (cat (ps.take W)).length ≤ n) (h2 : W < ps.length → n < (cat (ps.take (W + 1))).length) :
    ∀ d j f, j + d = W → n - (cat (ps.take j)).length < f → ∃ e : Int, frs ((cat ps).take n) f (cat (ps.take j)).length (ps.take j) = (ps.take W, (cat (ps.take W)).length, e) ∧ (e = 0 ↔ (cat (ps.take W)).length = n) := by
  have hmem : ∀ j, j < ps.length → (ps.getD j []).length ≤ 65536 := fun j hj => hps _ (by simp [List.getD, hj])
  have hlen : ((cat ps).take n).length = n := by rw [List.length_take]; omega
  have hmono : ∀ d j, j + d ≤ ps.length → (cat (ps.take j)).length ≤ (cat (ps.take (j + d))).length := by
    intro d
    induction d with
    | zero => intro j _; exact Nat.le_refl _
    | succ d ih =>
      intro j hj
      have := ih j (by omega)
      rw [show j + (d + 1) = (j + d) + 1 from rfl, cat_take (by omega), List.length_append]
      omega
  intro d
  induction d with
  | zero =>
    intro j f hj hf
    obtain rfl : j = W := by omega
    by_cases he : (cat (ps.take j)).length = n
    · exact ⟨0, frs_end (by rw [hlen]; omega), by simp [he]⟩
    · have hjl : j < ps.length := by
        by_cases hc : j < ps.length
        · exact hc
        · exfalso
          have : ps.take j = ps := List.take_of_length_le (by omega)
          rw [this] at he h1
          omega
      have h3 := h2 hjl
      rw [cat_take hjl, List.length_append] at h3
      have e : (cat ps).take n = cat (ps.take j) ++ (frame (ps.getD j [])).take (n - (cat (ps.take j)).length) := by
        rw [cat_split hjl, List.take_append, List.take_of_length_le h1, List.take_append_of_le_length (by omega)]
      have hf9 := fSpec_torn (cat (ps.take j)) (ps.getD j []) (n - (cat (ps.take j)).length) (hmem j hjl) (by omega)
      rw [← e] at hf9
      refine ⟨9, frs_err (by rw [hlen]; omega) (by rw [hlen]; omega) hf9, ?_⟩
      constructor
      · intro h; cases h
      · intro h; exact absurd h he
  | succ d ih =>
    intro j f hj hf
    have hjl : j < ps.length := by omega
    have hle : (cat (ps.take (j + 1))).length ≤ n := by
      have := hmono d (j + 1) (by omega)
      rw [show j + 1 + d = W by omega] at this
      omega
    have hle2 := hle
    rw [cat_take hjl, List.length_append] at hle2
    have e : (cat ps).take n = cat (ps.take j) ++ (frame (ps.getD j []) ++ (cat (ps.drop (j + 1))).take (n - (cat (ps.take j)).length - (frame (ps.getD j [])).length)) := by
      rw [cat_split hjl, List.take_append, List.take_of_length_le (l := cat (ps.take j)) (by omega), List.take_append, List.take_of_length_le (l := frame (ps.getD j [])) (by omega)]
    have hok := fSpec_frame (cat (ps.take j)) (ps.getD j []) ((cat (ps.drop (j + 1))).take (n - (cat (ps.take j)).length - (frame (ps.getD j [])).length)) (hmem j hjl)
    rw [← e] at hok
    have hpos := frame_pos (ps.getD j [])
    obtain ⟨f', hf', hfr⟩ := frs_ok (acc := ps.take j) (f := f) (by rw [hlen]; omega) (by rw [hlen]; omega) hok
    rw [hfr, ← take_snoc hjl]
    have hc : (cat (ps.take j)).length + (frame (ps.getD j [])).length = (cat (ps.take (j + 1))).length := by rw [cat_take hjl, List.length_append]
    rw [hc] at hf' ⊢
    exact ih (j + 1) f' (by omega) (by rw [hlen] at hf'; omega)
theorem frames_cat (ps : List (List UInt8)) (hps : ∀ p ∈ ps, p.length ≤ 65536) (n W : Nat) (hn : n ≤ (cat ps).length) (hW : W ≤ ps.length) (h1 : (cat (ps.take W)).length ≤ n) (h2 : W < ps.length → n < (cat (ps.take (W + 1))).length) :
    ∃ e : Int, frames ((cat ps).take n) = (ps.take W, (cat (ps.take W)).length, e) ∧ (e = 0 ↔ (cat (ps.take W)).length = n) := by
  have h := frs_cat ps hps n W hn hW h1 h2 W 0 (((cat ps).take n).length + 1) (by omega) (by rw [List.length_take]; omega)
  have e0 : (cat (ps.take 0)).length = 0 := by simp [cat]
  rw [e0, List.take_zero] at h
  exact h

/-! ### a turned bit -/
theorem bit1_inj {x y : BitVec 32} (h : bit1 x = bit1 y) : x = y := by
  rw [bit1_eq, bit1_eq] at h
  have h31 : ∀ z : BitVec 32, ((z >>> 1) ^^^ mk (z.getLsbD 0)).getLsbD 31 = z.getLsbD 0 := by
    intro z
    rw [BitVec.getLsbD_xor, BitVec.getLsbD_ushiftRight]
    have e : z.getLsbD (1 + 31) = false := BitVec.getLsbD_of_ge _ _ (by decide)
    rw [e]
    cases z.getLsbD 0 <;> decide
  have h0 : x.getLsbD 0 = y.getLsbD 0 := by rw [← h31 x, ← h31 y, h]
  have hs : x >>> 1 = y >>> 1 := by
    rw [h0] at h
    have := congrArg (fun z => z ^^^ mk (y.getLsbD 0)) h
    simpa [BitVec.xor_assoc] using this
  apply BitVec.eq_of_getLsbD_eq
  intro i hi
  cases i with
  | zero => exact h0
  | succ i =>
    have := congrArg (fun z => z.getLsbD i) hs
    simp only [BitVec.getLsbD_ushiftRight] at this
    rw [Nat.add_comm i 1]
    exact this
theorem bitN_inj : ∀ (k : Nat) {x y : BitVec 32}, bitN k x = bitN k y → x = y := by
  intro k
  induction k with
  | zero => intro x y h; exact h
  | succ k ih =>
    intro x y h
    first
      | exact bit1_inj (ih h)
      | exact ih (bit1_inj h)
theorem crcB_inj {x y : BitVec 32} {b : UInt8} (h : crcB x b = crcB y b) : x = y := by
  rw [← crcB_eq, ← crcB_eq] at h
  have := bitN_inj 8 h
  have := congrArg (fun z => z ^^^ ofB b) this
  simpa [BitVec.xor_assoc] using this
theorem ofB_inj {a b : UInt8} (h : ofB a = ofB b) : a = b := by
  have := congrArg BitVec.toNat h
  have ha := a.toNat_lt
  have hb := b.toNat_lt
  simp only [ofB, BitVec.toNat_ofNat] at this
  apply UInt8.toNat.inj
  omega
theorem crcB_inj2 {x : BitVec 32} {a b : UInt8} (h : crcB x a = crcB x b) : a = b := by
  rw [← crcB_eq, ← crcB_eq] at h
  have := bitN_inj 8 h
  have := congrArg (fun z => x ^^^ z) this
  simp only [← BitVec.xor_assoc, BitVec.xor_self, BitVec.zero_xor] at this
  exact ofB_inj this
theorem fold_inj : ∀ (l : List UInt8) {x y : BitVec 32}, l.foldl crcB x = l.foldl crcB y → x = y := by
  intro l
  induction l with
  | nil => intro x y h; exact h
  | cons b l ih => intro x y h; exact crcB_inj (ih h)
theorem crc_set (p : List UInt8) (j : Nat) (hj : j < p.length) (b : UInt8) (hb : b ≠ p.getD j 0) : crc (p.set j b) ≠ crc p := by
  have hp : p = p.take j ++ (p.getD j 0 :: p.drop (j + 1)) := by
    have h1 : p.getD j 0 = p[j] := by simp [List.getD, hj]
    rw [h1, ← List.drop_eq_getElem_cons hj, List.take_append_drop]
  have hq : p.set j b = p.take j ++ (b :: p.drop (j + 1)) := List.set_eq_take_append_cons_drop .. |>.trans (by rw [if_pos hj])
  intro h
  unfold crc crcOn at h
  rw [hq] at h
  conv at h => rhs; rw [hp]
  rw [List.foldl_append, List.foldl_append, List.foldl_cons, List.foldl_cons] at h
  have h2 := congrArg (fun z => ~~~ z) h
  simp only [BitVec.not_not] at h2
  exact hb (crcB_inj2 (fold_inj _ h2))
theorem frames_turned (p q rest : List UInt8) (hp : p.length ≤ 65536) (hq : q.length = p.length) (hc : crc q ≠ crc p) : frames (uv p.length ++ (le4 (crc p) ++ (q ++ rest))) = ([], 0, 11) := by
  have h := (fSpec_at [] p q rest hp hq).2 hc
  simp only [List.nil_append, List.length_nil] at h
  unfold frames
  refine frs_err (by omega) ?_ h
  have := uv_pos p.length
  simp only [List.length_append]
  omega
end Go.Proofs.YtpglhdnepmcahaaGreatDoor

/- Nh1 -/
namespace Go.Proofs.YtpglhdnepmcahaaGreatDoor
open Go.RowKit

theorem isN_all {p : UInt8 → Bool} {a : List UInt8} (h : isN p a = true) : a ≠ [] ∧ ∀ x ∈ a, p x = true := by
  cases a with
  | nil => cases h
  | cons c t =>
    refine ⟨by simp, fun x hx => ?_⟩
    simp only [isN, Bool.and_eq_true, decide_eq_true_eq] at h
    obtain ⟨j, hj, e⟩ := List.getElem_of_mem hx
    have h1 := span_in p (c :: t) j (by rw [h.2]; simpa using hj)
    rw [show (c :: t).getD j 0 = (c :: t)[j] from by rw [List.getD, List.getElem?_eq_getElem hj]; rfl, e] at h1
    exact h1
theorem inName_facts {c : UInt8} (h : pinName c = true) : pisBlank c = false ∧ c ≠ 125 ∧ c ≠ 44 ∧ c ≠ 123 ∧ c.toNat < 128 := by
  unfold pinName at h
  rw [decide_eq_true_eq] at h
  refine ⟨?_, ?_, ?_, ?_, by omega⟩
  · unfold pisBlank; exact decide_eq_false (by omega)
  · rintro rfl; revert h; decide
  · rintro rfl; revert h; decide
  · rintro rfl; revert h; decide
theorem firstAt_ok (ls : List LbT) : ∀ (f i : Nat), (firstAt ls f i).1 = 0 → ∀ j, i ≤ j → j < i + f → errAt ls j = 0
  | 0, i, _, j, h1, h2 => by omega
  | f + 1, i, h, j, h1, h2 => by
    rw [firstAt] at h
    by_cases he : errAt ls i = 0
    · rw [if_neg (by simpa using he)] at h
      by_cases hj : j = i
      · rw [hj]; exact he
      · exact firstAt_ok ls f (i + 1) h j (by omega) (by omega)
    · rw [if_pos he] at h
      exact absurd h he
theorem right_one {ls : List LbT} (h : (rightS ls).1 = 0) : ∀ x ∈ ls, oneE x.1 x.2 = 0 := by
  intro x hx
  unfold rightS at h
  by_cases h16 : 16 < ls.length
  · rw [if_pos h16] at h; cases h
  · rw [if_neg h16] at h
    obtain ⟨j, hj, rfl⟩ := List.getElem_of_mem hx
    have he := firstAt_ok ls _ _ h j (by omega) (by omega)
    have e1 : ls.getD j ([], []) = ls[j] := by simp [List.getD, hj]
    unfold errAt at he
    rw [e1] at he
    by_cases h3 : oneE ls[j].1 ls[j].2 = 0
    · exact h3
    · rw [if_pos h3] at he
      exact absurd he h3
theorem one_facts {n v : List UInt8} (h : oneE n v = 0) : nameB n = true ∧ v ≠ [] ∧ v.length ≤ 256 ∧ Go.Lib.validD v = true := by
  unfold oneE at h
  by_cases h1 : nameB n = false
  · rw [if_pos h1] at h; cases h
  · rw [if_neg h1] at h
    by_cases h2 : v = []
    · rw [if_pos h2] at h; cases h
    · rw [if_neg h2] at h
      by_cases h3 : 256 < v.length
      · rw [if_pos h3] at h; cases h
      · rw [if_neg h3] at h
        by_cases h4 : Go.Lib.validD v = false
        · rw [if_pos h4] at h; cases h
        · exact ⟨by simpa using h1, h2, by omega, by simpa using h4⟩
theorem name_valid {n : List UInt8} (h : nameB n = true) : Go.Lib.validD n = true := by
  unfold nameB at h
  rw [Bool.and_eq_true] at h
  have hA := (isN_all h.2).2
  have := Go.Lib.validD_ascii n.length n (fun b hb => (inName_facts (hA b (List.mem_of_mem_take hb))).2.2.2.2)
  rw [this, List.drop_length]
  rfl
theorem name_len {n : List UInt8} (h : nameB n = true) : n.length ≤ 64 := by
  unfold nameB at h
  rw [Bool.and_eq_true, decide_eq_true_eq] at h
  exact h.1
theorem tSpec_at (pre t rest : List UInt8) (m : Int) (hm : (t.length : Int) ≤ m) (ht : t.length ≤ 1000000) (hv : Go.Lib.validD t = true) : tSpec (pre ++ (uv t.length ++ t ++ rest)) (pre.length : Int) m = (t, (((pre ++ (uv t.length ++ t)).length : Nat) : Int), 0) := by
  have h := uSpec_uv pre (t ++ rest) t.length (by omega)
  rw [← List.append_assoc (uv t.length)] at h
  have e : ((pre ++ (uv t.length ++ t ++ rest)).drop (((pre.length + (uv t.length).length : Nat) : Int)).toNat).take t.length = t := by
    rw [Int.toNat_natCast, show pre ++ (uv t.length ++ t ++ rest) = (pre ++ uv t.length) ++ (t ++ rest) by simp, show pre.length + (uv t.length).length = (pre ++ uv t.length).length by simp, List.drop_left, List.take_left]
  unfold tSpec
  rw [h]
  simp only [e, hv]
  rw [if_neg (by simp only [List.length_append]; omega), if_neg (by simp), if_neg (by omega), if_neg (by simp only [List.length_append]; omega), if_neg (by simp)]
  simp
  omega
theorem one_back (pre rest : List UInt8) (x : LbT) (h : oneE x.1 x.2 = 0) : oneS (pre ++ (lbB x ++ rest)) (pre.length : Int) = (x.1, x.2, (((pre ++ lbB x).length : Nat) : Int), 0) := by
  obtain ⟨h1, h2, h3, h4⟩ := one_facts h
  have hl := name_len h1
  have t1 := tSpec_at pre x.1 (uv x.2.length ++ x.2 ++ rest) 64 (by omega) (by omega) (name_valid h1)
  have t2 := tSpec_at (pre ++ (uv x.1.length ++ x.1)) x.2 rest 256 (by omega) (by omega) h4
  have e1 : pre ++ (uv x.1.length ++ x.1 ++ (uv x.2.length ++ x.2 ++ rest)) = pre ++ (lbB x ++ rest) := by simp [lbB]
  have e2 : pre ++ (uv x.1.length ++ x.1) ++ (uv x.2.length ++ x.2 ++ rest) = pre ++ (lbB x ++ rest) := by simp [lbB]
  rw [e1] at t1
  rw [e2] at t2
  have e3 : pre ++ (uv x.1.length ++ x.1) ++ (uv x.2.length ++ x.2) = pre ++ lbB x := by simp [lbB]
  rw [e3] at t2
  unfold oneS
  rw [t1]
  dsimp only
  rw [if_neg (by simp), t2]
  simp
theorem readN_back (rest : List UInt8) : ∀ (ls : List LbT) (pre : List UInt8) (acc : List LbT), (∀ x ∈ ls, oneE x.1 x.2 = 0) → readN (pre ++ (ls.flatMap lbB ++ rest)) ls.length (pre.length : Int) acc = (acc ++ ls, (((pre ++ ls.flatMap lbB).length : Nat) : Int), 0)
  | [], pre, acc, _ => by simp [readN]
  | x :: t, pre, acc, h => by
    have h1 := one_back pre (t.flatMap lbB ++ rest) x (h x List.mem_cons_self)
    have ih := readN_back rest t (pre ++ lbB x) (acc ++ [x]) (fun y hy => h y (List.mem_cons_of_mem _ hy))
    have e1 : pre ++ ((x :: t).flatMap lbB ++ rest) = pre ++ (lbB x ++ (t.flatMap lbB ++ rest)) := by simp
    have e2 : pre ++ lbB x ++ (t.flatMap lbB ++ rest) = pre ++ (lbB x ++ (t.flatMap lbB ++ rest)) := by simp
    rw [e2] at ih
    rw [e1, List.length_cons, readN, h1]
    dsimp only
    rw [if_neg (by simp), ih]
    simp
/-- the mark that is none -/
def mZ0 : MkR := ⟨[], [], 0, [], []⟩

/-- the bytes of a label set, of several, of a mark -/
def setB (ls : List LbT) : List UInt8 := uv ls.length ++ ls.flatMap lbB
def setsB (lss : List (List LbT)) : List UInt8 := uv lss.length ++ lss.flatMap setB
def recB (m : MkR) : List UInt8 := uv m.rcv.length ++ m.rcv ++ (uv m.key.length ++ m.key) ++ uv (zz m.tim) ++ setsB m.fir ++ setsB m.res
/-- one part read, behind a fault or not: what it is, the place behind it, the fault -/
def textF (l : List UInt8) (p f m : Int) : List UInt8 × Int × Int := if f ≠ 0 then ([], p, f) else tSpec l p m
def intF (l : List UInt8) (p f : Int) : Int × Int × Int := if f ≠ 0 then (0, p, f) else (uz (uSpec l p).1, (uSpec l p).2.1, (uSpec l p).2.2)
def countF (l : List UInt8) (p f : Int) (m : Nat) : Nat × Int × Int := if f ≠ 0 then (0, p, f) else if (uSpec l p).2.2 = 0 ∧ m < (uSpec l p).1 then (0, (uSpec l p).2.1, 7) else uSpec l p
def labsF (l : List UInt8) (p f : Int) : List LbT × Int × Int := if f ≠ 0 then ([], p, f) else readS l p
def labsN (l : List UInt8) : Nat → Int → Int → List (List LbT) → List (List LbT) × Int × Int
  | 0, p, f, acc => (acc, p, f)
  | n + 1, p, f, acc => labsN l n (labsF l p f).2.1 (labsF l p f).2.2 (acc ++ [(labsF l p f).1])
def setsF (l : List UInt8) (p f : Int) : List (List LbT) × Int × Int := labsN l (countF l p f 500).1 (countF l p f 500).2.1 (countF l p f 500).2.2 []
/-- all of a record's parts, as they are read one after another -/
def partsM (l : List UInt8) : MkR × Int × Int :=
  let a := textF l 0 0 64
  let b := textF l a.2.1 a.2.2 65536
  let c := intF l b.2.1 b.2.2
  let d := setsF l c.2.1 c.2.2
  let e := setsF l d.2.1 d.2.2
  (⟨a.1, b.1, c.1, d.1, e.1⟩, e.2.1, e.2.2)
/-- what a record says -/
def readM (l : List UInt8) : MkR × Int := if (partsM l).2.2 = 0 ∧ (partsM l).2.1 = (l.length : Int) ∧ rightM (partsM l).1 = 0 then ((partsM l).1, 0) else (mZ0, 3)
theorem textF_f {l : List UInt8} {p f m : Int} (h : f ≠ 0) : (textF l p f m).2.2 ≠ 0 := by unfold textF; rw [if_pos h]; exact h
theorem intF_f {l : List UInt8} {p f : Int} (h : f ≠ 0) : (intF l p f).2.2 ≠ 0 := by unfold intF; rw [if_pos h]; exact h
theorem labsN_f (l : List UInt8) : ∀ (n : Nat) (p f : Int) (acc : List (List LbT)), f ≠ 0 → (labsN l n p f acc).2.2 ≠ 0
  | 0, _, _, _, h => h
  | n + 1, p, f, acc, h => by
    rw [labsN]
    exact labsN_f l n _ _ _ (by unfold labsF; rw [if_pos h]; exact h)
theorem setsF_f {l : List UInt8} {p f : Int} (h : f ≠ 0) : (setsF l p f).2.2 ≠ 0 := by
  unfold setsF
  refine labsN_f l _ _ _ _ ?_
  unfold countF
  rw [if_pos h]
  exact h
theorem labsN_len (l : List UInt8) : ∀ (n : Nat) (p f : Int) (acc : List (List LbT)), (labsN l n p f acc).1.length = acc.length + n
  | 0, _, _, _ => rfl
  | n + 1, p, f, acc => by rw [labsN, labsN_len l n]; simp; omega
theorem countF_le (l : List UInt8) (p f : Int) (m : Nat) : (countF l p f m).1 ≤ m := by
  unfold countF
  split
  · exact Nat.zero_le _
  · split
    · exact Nat.zero_le _
    · rename_i h
      by_cases h2 : (uSpec l p).2.2 = 0
      · have := fun h3 => h ⟨h2, h3⟩
        omega
      · have : (uSpec l p).1 = 0 := by
          unfold uSpec at h2 ⊢
          split
          · rfl
          · rename_i h4
            rw [if_neg h4] at h2
            unfold uRes at h2 ⊢
            split
            · rfl
            · rename_i h5
              rw [h5] at h2
              simp at h2
        omega
/-- what was written is read -/
theorem readS_at (pre rest : List UInt8) {ls : List LbT} (h : (rightS ls).1 = 0) : readS (pre ++ (setB ls ++ rest)) (pre.length : Int) = (ls, (((pre ++ setB ls).length : Nat) : Int), 0) := by
  have hl : ls.length ≤ 16 := by
    unfold rightS at h
    by_cases h16 : 16 < ls.length
    · rw [if_pos h16] at h
      cases h
    · omega
  have e0 : pre ++ (setB ls ++ rest) = pre ++ (uv ls.length ++ (ls.flatMap lbB ++ rest)) := by unfold setB; simp
  have hu := uSpec_uv pre (ls.flatMap lbB ++ rest) ls.length (by omega)
  have hr := readN_back rest ls (pre ++ uv ls.length) [] (right_one h)
  rw [List.nil_append, List.append_assoc, List.length_append] at hr
  unfold readS
  rw [e0, hu]
  dsimp only
  rw [if_neg (by simp), if_neg (by omega), hr]
  dsimp only
  rw [if_neg (by simp), if_neg (by simpa using h)]
  unfold setB
  simp
theorem labsN_at (rest : List UInt8) : ∀ (lss : List (List LbT)) (pre : List UInt8) (acc : List (List LbT)), (∀ ls ∈ lss, (rightS ls).1 = 0) → labsN (pre ++ (lss.flatMap setB ++ rest)) lss.length (pre.length : Int) 0 acc = (acc ++ lss, (((pre ++ lss.flatMap setB).length : Nat) : Int), 0)
  | [], pre, acc, _ => by simp [labsN]
  | x :: t, pre, acc, h => by
    have h1 := readS_at pre (t.flatMap setB ++ rest) (h x List.mem_cons_self)
    have ih := labsN_at rest t (pre ++ setB x) (acc ++ [x]) (fun y hy => h y (List.mem_cons_of_mem _ hy))
    have e1 : pre ++ ((x :: t).flatMap setB ++ rest) = pre ++ (setB x ++ (t.flatMap setB ++ rest)) := by simp
    have e2 : pre ++ setB x ++ (t.flatMap setB ++ rest) = pre ++ (setB x ++ (t.flatMap setB ++ rest)) := by simp
    rw [e2] at ih
    have e3 : labsF (pre ++ (setB x ++ (t.flatMap setB ++ rest))) (pre.length : Int) 0 = (x, (((pre ++ setB x).length : Nat) : Int), 0) := by
      unfold labsF
      rw [if_neg (by simp), h1]
    rw [e1, List.length_cons, labsN, e3]
    dsimp only
    rw [ih]
    simp
theorem setsF_at (pre rest : List UInt8) {lss : List (List LbT)} (hl : lss.length ≤ 500) (h : ∀ ls ∈ lss, (rightS ls).1 = 0) : setsF (pre ++ (setsB lss ++ rest)) (pre.length : Int) 0 = (lss, (((pre ++ setsB lss).length : Nat) : Int), 0) := by
  have e0 : pre ++ (setsB lss ++ rest) = pre ++ (uv lss.length ++ (lss.flatMap setB ++ rest)) := by unfold setsB; simp
  have hu := uSpec_uv pre (lss.flatMap setB ++ rest) lss.length (by omega)
  have hr := labsN_at rest lss (pre ++ uv lss.length) [] h
  rw [List.nil_append, List.append_assoc, List.length_append] at hr
  have hc : countF (pre ++ (uv lss.length ++ (lss.flatMap setB ++ rest))) (pre.length : Int) 0 500 = (lss.length, ((pre.length + (uv lss.length).length : Nat) : Int), 0) := by
    unfold countF
    rw [if_neg (by simp), hu]
    dsimp only
    rw [if_neg (by omega)]
  unfold setsF
  rw [e0, hc]
  dsimp only
  rw [hr]
  unfold setsB
  simp

theorem uz_zz {n : Int} (hl : -9223372036854775808 ≤ n) (hh : n ≤ 9223372036854775807) : uz (zz n) = n ∧ zz n < 18446744073709551616 := by
  unfold uz zz
  split
  · constructor
    · split <;> omega
    · omega
  · constructor
    · split <;> omega
    · omega
theorem intF_at (pre rest : List UInt8) {n : Int} (hl : -9223372036854775808 ≤ n) (hh : n ≤ 9223372036854775807) : intF (pre ++ (uv (zz n) ++ rest)) (pre.length : Int) 0 = (n, (((pre ++ uv (zz n)).length : Nat) : Int), 0) := by
  have h := uz_zz hl hh
  have hu := uSpec_uv pre rest (zz n) h.2
  unfold intF
  rw [if_neg (by simp), hu]
  dsimp only
  rw [h.1]
  simp
theorem textF_at (pre t rest : List UInt8) (m : Int) (hm : (t.length : Int) ≤ m) (ht : t.length ≤ 1000000) (hv : Go.Lib.validD t = true) : textF (pre ++ (uv t.length ++ t ++ rest)) (pre.length : Int) 0 m = (t, (((pre ++ (uv t.length ++ t)).length : Nat) : Int), 0) := by
  unfold textF
  rw [if_neg (by simp)]
  exact tSpec_at pre t rest m hm ht hv
theorem readM_back {m : MkR} (h : rightM m = 0) (hr : m.rcv.length ≤ 64 ∧ Go.Lib.validD m.rcv = true) (hk : m.key.length ≤ 65536 ∧ Go.Lib.validD m.key = true) (ht : 0 ≤ m.tim ∧ m.tim ≤ 1125899906842624) (hf : m.fir.length ≤ 500 ∧ ∀ ls ∈ m.fir, (rightS ls).1 = 0) (hs : m.res.length ≤ 500 ∧ ∀ ls ∈ m.res, (rightS ls).1 = 0) : readM (recB m) = (m, 0) := by
  have t1 := textF_at [] m.rcv (uv m.key.length ++ m.key ++ uv (zz m.tim) ++ setsB m.fir ++ setsB m.res) 64 (by omega) (by omega) hr.2
  have t2 := textF_at (uv m.rcv.length ++ m.rcv) m.key (uv (zz m.tim) ++ setsB m.fir ++ setsB m.res) 65536 (by omega) (by omega) hk.2
  have t3 := intF_at (uv m.rcv.length ++ m.rcv ++ (uv m.key.length ++ m.key)) (setsB m.fir ++ setsB m.res) (n := m.tim) (by omega) (by omega)
  have t4 := setsF_at (uv m.rcv.length ++ m.rcv ++ (uv m.key.length ++ m.key) ++ uv (zz m.tim)) (setsB m.res) hf.1 hf.2
  have t5 := setsF_at (uv m.rcv.length ++ m.rcv ++ (uv m.key.length ++ m.key) ++ uv (zz m.tim) ++ setsB m.fir) [] hs.1 hs.2
  have e1 : [] ++ (uv m.rcv.length ++ m.rcv ++ (uv m.key.length ++ m.key ++ uv (zz m.tim) ++ setsB m.fir ++ setsB m.res)) = recB m := by simp [recB]
  have e2 : uv m.rcv.length ++ m.rcv ++ (uv m.key.length ++ m.key ++ (uv (zz m.tim) ++ setsB m.fir ++ setsB m.res)) = recB m := by simp [recB]
  have e3 : uv m.rcv.length ++ m.rcv ++ (uv m.key.length ++ m.key) ++ (uv (zz m.tim) ++ (setsB m.fir ++ setsB m.res)) = recB m := by simp [recB]
  have e4 : uv m.rcv.length ++ m.rcv ++ (uv m.key.length ++ m.key) ++ uv (zz m.tim) ++ (setsB m.fir ++ setsB m.res) = recB m := by simp [recB]
  have e5 : uv m.rcv.length ++ m.rcv ++ (uv m.key.length ++ m.key) ++ uv (zz m.tim) ++ setsB m.fir ++ (setsB m.res ++ []) = recB m := by simp [recB]
  rw [e1] at t1
  rw [e2] at t2
  rw [e3] at t3
  rw [e4] at t4
  rw [e5] at t5
  rw [List.length_nil, List.nil_append] at t1
  have hp : partsM (recB m) = (m, ((recB m).length : Int), 0) := by
    unfold partsM
    simp only [Int.natCast_zero] at t1
    simp only [t1, t2, t3, t4, t5]
    rfl
  unfold readM
  rw [hp]
  dsimp only
  rw [if_pos ⟨rfl, rfl, h⟩]
end Go.Proofs.YtpglhdnepmcahaaGreatDoor

/- U8Word -/
namespace Go.Proofs.YtpglhdnepmcahaaGreatDoor
open Go.RowKit

set_option maxHeartbeats 8000000 in
set_option maxRecDepth 100000 in
theorem word_any (b o n : Nat) (x0 x1 x2 x3 x4 x5 x6 x7 : UInt8) (w : World) (hn : 8 ≤ n) (c0 : w.cell? ⟨b, o, none⟩ = some (.int .u8 (x0.toNat : Int))) (c1 : w.cell? ⟨b, o + 1, none⟩ = some (.int .u8 (x1.toNat : Int))) (c2 : w.cell? ⟨b, o + 2, none⟩ = some (.int .u8 (x2.toNat : Int))) (c3 : w.cell? ⟨b, o + 3, none⟩ = some (.int .u8 (x3.toNat : Int))) (c4 : w.cell? ⟨b, o + 4, none⟩ = some (.int .u8 (x4.toNat : Int))) (c5 : w.cell? ⟨b, o + 5, none⟩ = some (.int .u8 (x5.toNat : Int))) (c6 : w.cell? ⟨b, o + 6, none⟩ = some (.int .u8 (x6.toNat : Int))) (c7 : w.cell? ⟨b, o + 7, none⟩ = some (.int .u8 (x7.toNat : Int))) :
    Calls Tryz.prog 118 #[.slice (some ⟨b, o, none⟩) n n] w fun e w' => e = .returned (.int .u64 (Lib.leNat [x0, x1, x2, x3, x4, x5, x6, x7] : Int)) ∧ ∃ q, w' = w.drewN q := by
  have h0 := x0.toNat_lt
  have h1 := x1.toNat_lt
  have h2 := x2.toNat_lt
  have h3 := x3.toNat_lt
  have h4 := x4.toNat_lt
  have h5 := x5.toNat_lt
  have h6 := x6.toNat_lt
  have h7 := x7.toNat_lt
  have hv : ((Lib.leNat [x0, x1, x2, x3, x4, x5, x6, x7] : Nat) : Int) = (x0.toNat : Int) + (x1.toNat : Int) * 256 + (x2.toNat : Int) * 65536 + (x3.toNat : Int) * 16777216 + (x4.toNat : Int) * 4294967296 + (x5.toNat : Int) * 1099511627776 + (x6.toNat : Int) * 281474976710656 + (x7.toNat : Int) * 72057594037927936 := by
    simp only [Lib.leNat]
    push_cast
    omega
  have q0 : (0 : Int) < (n : Int) := by omega
  have q1 : (1 : Int) < (n : Int) := by omega
  have q2 : (2 : Int) < (n : Int) := by omega
  have q3 : (3 : Int) < (n : Int) := by omega
  have q4 : (4 : Int) < (n : Int) := by omega
  have q5 : (5 : Int) < (n : Int) := by omega
  have q6 : (6 : Int) < (n : Int) := by omega
  have q7 : (7 : Int) < (n : Int) := by omega
  go_enter Tryz.func118, Tryz.ntmps118
  go_wp2
  go_quiet (fail)
  go_wp2
  go_ret
  refine ⟨?_, nq, rfl⟩
  simp (disch := omega) only [u64_or8, u64_or16, u64_or24, u64_or32, u64_or40, u64_or48, u64_or56]
  rw [hv]
  rfl
end Go.Proofs.YtpglhdnepmcahaaGreatDoor
