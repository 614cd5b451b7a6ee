/-
  CRC-32C by half bytes and bit by bit are one: plain facts about 32 bits; nothing of the program is in it.
-/
import Derived.Test.YtfggcmkoihemoaaDoorBase
namespace Go.Proofs.YtfggcmkoihemoaaDoor

/-- the table of half bytes -/
def tab : List (BitVec 32) := [0#32, 274646895#32, 549293790#32, 820201905#32, 1098587580#32, 1361435347#32, 1640403810#32, 1905808397#32, 2197175160#32, 2460548119#32, 2722870694#32, 2987750089#32, 3280807620#32, 3553878443#32, 3811616794#32, 4084100981#32]
def nib (x : BitVec 32) : BitVec 32 := tab.getD (x.toNat % 16) 0#32 ^^^ (x >>> 4)
def ofB (b : UInt8) : BitVec 32 := BitVec.ofNat 32 b.toNat
def crcB (x : BitVec 32) (b : UInt8) : BitVec 32 := nib (nib (x ^^^ ofB b))
def crcOn (s : BitVec 32) (l : List UInt8) : BitVec 32 := ~~~ (l.foldl crcB (~~~ s))
def crc (l : List UInt8) : BitVec 32 := crcOn 0#32 l

/-- one bit -/
def bit1 (x : BitVec 32) : BitVec 32 := if x &&& 1#32 = 1#32 then (x >>> 1) ^^^ 2197175160#32 else x >>> 1
def bitN : Nat → BitVec 32 → BitVec 32
  | 0, x => x
  | k + 1, x => bit1 (bitN k x)

def mk (b : Bool) : BitVec 32 := if b then 2197175160#32 else 0#32
theorem mk_xor (a b : Bool) : mk (a ^^ b) = mk a ^^^ mk b := by cases a <;> cases b <;> decide
theorem bit1_eq (x : BitVec 32) : bit1 x = (x >>> 1) ^^^ mk (x.getLsbD 0) := by
  have h : (x &&& 1#32 = 1#32) ↔ x.getLsbD 0 = true := by
    constructor
    · intro h
      have := congrArg (fun y => BitVec.getLsbD y 0) h
      simpa using this
    · intro h
      apply BitVec.eq_of_getLsbD_eq
      intro i hi
      by_cases e : i = 0
      · subst e; simpa using h
      · simp [BitVec.getLsbD_one, e]
  unfold bit1 mk
  by_cases hb : x.getLsbD 0 = true
  · rw [if_pos (h.2 hb), hb]; rfl
  · have hf : x.getLsbD 0 = false := Bool.eq_false_iff.2 hb
    rw [if_neg (fun e => hb (h.1 e)), hf]
    simp only [Bool.false_eq_true, if_false, BitVec.xor_zero]
theorem bit1_xor (x y : BitVec 32) : bit1 (x ^^^ y) = bit1 x ^^^ bit1 y := by
  rw [bit1_eq, bit1_eq, bit1_eq, BitVec.getLsbD_xor, mk_xor]
  have : (x ^^^ y) >>> 1 = (x >>> 1) ^^^ (y >>> 1) := by
    apply BitVec.eq_of_getLsbD_eq
    intro i hi
    simp [BitVec.getLsbD_ushiftRight]
  rw [this]
  ac_rfl
theorem bitN_xor (k : Nat) (x y : BitVec 32) : bitN k (x ^^^ y) = bitN k x ^^^ bitN k y := by
  induction k with
  | zero => rfl
  | succ k ih => simp only [bitN, ih, bit1_xor]
theorem bit1_shl (y : BitVec 32) (k : Nat) (hk : k ≤ 3) (hy : y.toNat < 268435456) : bit1 (y <<< (k + 1)) = y <<< k := by
  rw [bit1_eq]
  have h0 : (y <<< (k + 1)).getLsbD 0 = false := by simp
  rw [h0]
  simp only [mk, Bool.false_eq_true, if_false, BitVec.xor_zero]
  apply BitVec.eq_of_toNat_eq
  simp only [BitVec.toNat_ushiftRight, BitVec.toNat_shiftLeft, Nat.shiftLeft_eq, Nat.shiftRight_eq_div_pow]
  match k, hk with
  | 0, _ => omega
  | 1, _ => omega
  | 2, _ => omega
  | 3, _ => omega
theorem bit4_shl (y : BitVec 32) (hy : y.toNat < 268435456) : bitN 4 (y <<< 4) = y := by
  show bit1 (bit1 (bit1 (bit1 (y <<< 4)))) = y
  rw [bit1_shl y 3 (by omega) hy, bit1_shl y 2 (by omega) hy, bit1_shl y 1 (by omega) hy, bit1_shl y 0 (by omega) hy]
  simp
theorem bit4_low : ∀ k : Fin 16, bitN 4 (BitVec.ofNat 32 k.val) = tab.getD k.val 0#32 := by decide
theorem split4 (x : BitVec 32) : x = ((x >>> 4) <<< 4) ^^^ BitVec.ofNat 32 (x.toNat % 16) := by
  have e : BitVec.ofNat 32 (x.toNat % 16) = x &&& 15#32 := by
    apply BitVec.eq_of_toNat_eq
    have := Nat.and_two_pow_sub_one_eq_mod x.toNat 4
    simp only [BitVec.toNat_ofNat, BitVec.toNat_and]
    have h15 : (2 : Nat) ^ 4 - 1 = 15 := by decide
    have h32 : 15 % 2 ^ 32 = 15 := by decide
    rw [h15] at this
    rw [h32, this]
    have : x.toNat % 16 < 16 := Nat.mod_lt _ (by decide)
    omega
  rw [e]
  apply BitVec.eq_of_getLsbD_eq
  intro i hi
  have h15 : (15#32).getLsbD i = decide (i < 4) := by
    match i, hi with
    | 0, _ => decide
    | 1, _ => decide
    | 2, _ => decide
    | 3, _ => decide
    | i + 4, hi =>
      have : (15#32).getLsbD (i + 4) = Nat.testBit 15 (i + 4) := by simp [BitVec.getLsbD]
      rw [this, Nat.testBit_lt_two_pow]
      · simp
      · exact Nat.lt_of_lt_of_le (by decide : 15 < 2 ^ 4) (Nat.pow_le_pow_right (by decide) (by omega))
  simp only [BitVec.getLsbD_xor, BitVec.getLsbD_shiftLeft, BitVec.getLsbD_ushiftRight, BitVec.getLsbD_and, h15]
  by_cases h4 : i < 4
  · simp [h4]
  · simp [h4, hi]
    have e4 : 4 + (i - 4) = i := by omega
    simp [e4, BitVec.getLsbD_eq_getElem hi]
theorem nib_eq (x : BitVec 32) : nib x = bitN 4 x := by
  have hx := x.isLt
  have hy : (x >>> 4).toNat < 268435456 := by
    simp only [BitVec.toNat_ushiftRight, Nat.shiftRight_eq_div_pow]
    omega
  have hk : x.toNat % 16 < 16 := Nat.mod_lt _ (by decide)
  have h := bit4_low ⟨x.toNat % 16, hk⟩
  simp only at h
  unfold nib
  conv => rhs; rw [split4 x, bitN_xor, bit4_shl _ hy, h]
  exact BitVec.xor_comm _ _
theorem bitN_add (a b : Nat) (x : BitVec 32) : bitN (a + b) x = bitN a (bitN b x) := by
  induction a with
  | zero => simp [bitN]
  | succ a ih => rw [Nat.succ_add]; simp only [bitN, ih]
theorem crcB_eq (x : BitVec 32) (b : UInt8) : bitN 8 (x ^^^ ofB b) = crcB x b := by
  unfold crcB
  rw [nib_eq, nib_eq, ← bitN_add]
theorem crcOn_append (s : BitVec 32) (a b : List UInt8) : crcOn (crcOn s a) b = crcOn s (a ++ b) := by
  simp [crcOn, List.foldl_append]
theorem foldl_take {l : List UInt8} {k : Nat} (h : k < l.length) (f : BitVec 32 → UInt8 → BitVec 32) (x : BitVec 32) : (l.take (k + 1)).foldl f x = f ((l.take k).foldl f x) (l.getD k 0) := by
  rw [List.take_succ_eq_append_getElem h, List.foldl_append]
  simp [h]
end Go.Proofs.YtfggcmkoihemoaaDoor
