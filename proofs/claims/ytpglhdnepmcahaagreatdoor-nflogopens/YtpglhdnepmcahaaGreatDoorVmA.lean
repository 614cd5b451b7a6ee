/-
  Crc, Sums, Puts, Reads, ReadU, Same, Frame1, Known, in one text.
-/
import Derived.Test.YtpglhdnepmcahaaGreatDoorBsA
import Derived.Test.YtpglhdnepmcahaaGreatDoorProg
import Derived.Lib.SlBytesConst
/- Crc -/
namespace Go.Proofs.YtpglhdnepmcahaaGreatDoor

/-- the table of half bytes -/
def tab : List (BitVec 32) := [0#32, 274646895#32, 549293790#32, 820201905#32, 1098587580#32, 1361435347#32, 1640403810#32, 1905808397#32, 2197175160#32, 2460548119#32, 2722870694#32, 2987750089#32, 3280807620#32, 3553878443#32, 3811616794#32, 4084100981#32]
def nib (x : BitVec 32) : BitVec 32 := tab.getD (x.toNat % 16) 0#32 ^^^ (x >>> 4)
def ofB (b : UInt8) : BitVec 32 := BitVec.ofNat 32 b.toNat
def crcB (x : BitVec 32) (b : UInt8) : BitVec 32 := nib (nib (x ^^^ ofB b))
def crcOn (s : BitVec 32) (l : List UInt8) : BitVec 32 := ~~~ (l.foldl crcB (~~~ s))
def crc (l : List UInt8) : BitVec 32 := crcOn 0#32 l

/-- one bit -/
def bit1 (x : BitVec 32) : BitVec 32 := if x &&& 1#32 = 1#32 then (x >>> 1) ^^^ 2197175160#32 else x >>> 1
def bitN : Nat → BitVec 32 → BitVec 32
  | 0, x => x
  | k + 1, x => bit1 (bitN k x)

def mk (b : Bool) : BitVec 32 := if b then 2197175160#32 else 0#32
theorem mk_xor (a b : Bool) : mk (a ^^ b) = mk a ^^^ mk b := by cases a <;> cases b <;> decide
theorem bit1_eq (x : BitVec 32) : bit1 x = (x >>> 1) ^^^ mk (x.getLsbD 0) := by
  have h : (x &&& 1#32 = 1#32) ↔ x.getLsbD 0 = true := by
    constructor
    · intro h
      have := congrArg (fun y => BitVec.getLsbD y 0) h
      simpa using this
    · intro h
      apply BitVec.eq_of_getLsbD_eq
      intro i hi
      by_cases e : i = 0
      · subst e; simpa using h
      · simp [BitVec.getLsbD_one, e]
  unfold bit1 mk
  by_cases hb : x.getLsbD 0 = true
  · rw [if_pos (h.2 hb), hb]; rfl
  · have hf : x.getLsbD 0 = false := Bool.eq_false_iff.2 hb
    rw [if_neg (fun e => hb (h.1 e)), hf]
    simp only [Bool.false_eq_true, if_false, BitVec.xor_zero]
theorem bit1_xor (x y : BitVec 32) : bit1 (x ^^^ y) = bit1 x ^^^ bit1 y := by
  rw [bit1_eq, bit1_eq, bit1_eq, BitVec.getLsbD_xor, mk_xor]
  have : (x ^^^ y) >>> 1 = (x >>> 1) ^^^ (y >>> 1) := by
    apply BitVec.eq_of_getLsbD_eq
    intro i hi
    simp [BitVec.getLsbD_ushiftRight]
  rw [this]
  ac_rfl
theorem bitN_xor (k : Nat) (x y : BitVec 32) : bitN k (x ^^^ y) = bitN k x ^^^ bitN k y := by
  induction k with
  | zero => rfl
  | succ k ih => simp only [bitN, ih, bit1_xor]
theorem bit1_shl (y : BitVec 32) (k : Nat) (hk : k ≤ 3) (hy : y.toNat < 268435456) : bit1 (y <<< (k + 1)) = y <<< k := by
  rw [bit1_eq]
  have h0 : (y <<< (k + 1)).getLsbD 0 = false := by simp
  rw [h0]
  simp only [mk, Bool.false_eq_true, if_false, BitVec.xor_zero]
  apply BitVec.eq_of_toNat_eq
  simp only [BitVec.toNat_ushiftRight, BitVec.toNat_shiftLeft, Nat.shiftLeft_eq, Nat.shiftRight_eq_div_pow]
  match k, hk with
  | 0, _ => omega
  | 1, _ => omega
  | 2, _ => omega
  | 3, _ => omega
theorem bit4_shl (y : BitVec 32) (hy : y.toNat < 268435456) : bitN 4 (y <<< 4) = y := by
  show bit1 (bit1 (bit1 (bit1 (y <<< 4)))) = y
  rw [bit1_shl y 3 (by omega) hy, bit1_shl y 2 (by omega) hy, bit1_shl y 1 (by omega) hy, bit1_shl y 0 (by omega) hy]
  simp
theorem bit4_low : ∀ k : Fin 16, bitN 4 (BitVec.ofNat 32 k.val) = tab.getD k.val 0#32 := by decide
theorem split4 (x : BitVec 32) : x = ((x >>> 4) <<< 4) ^^^ BitVec.ofNat 32 (x.toNat % 16) := by
  have e : BitVec.ofNat 32 (x.toNat % 16) = x &&& 15#32 := by
    apply BitVec.eq_of_toNat_eq
    have := Nat.and_two_pow_sub_one_eq_mod x.toNat 4
    simp only [BitVec.toNat_ofNat, BitVec.toNat_and]
    have h15 : (2 : Nat) ^ 4 - 1 = 15 := by decide
    have h32 : 15 % 2 ^ 32 = 15 := by decide
    rw [h15] at this
    rw [h32, this]
    have : x.toNat % 16 < 16 := Nat.mod_lt _ (by decide)
    omega
  rw [e]
  apply BitVec.eq_of_getLsbD_eq
  intro i hi
  have h15 : (15#32).getLsbD i = decide (i < 4) := by
    match i, hi with
    | 0, _ => decide
    | 1, _ => decide
    | 2, _ => decide
    | 3, _ => decide
    | i + 4, hi =>
      have : (15#32).getLsbD (i + 4) = Nat.testBit 15 (i + 4) := by simp [BitVec.getLsbD]
      rw [this, Nat.testBit_lt_two_pow]
      · simp
      · exact Nat.lt_of_lt_of_le (by decide : 15 < 2 ^ 4) (Nat.pow_le_pow_right (by decide) (by omega))
  simp only [BitVec.getLsbD_xor, BitVec.getLsbD_shiftLeft, BitVec.getLsbD_ushiftRight, BitVec.getLsbD_and, h15]
  by_cases h4 : i < 4
  · simp [h4]
  · simp [h4, hi]
    have e4 : 4 + (i - 4) = i := by omega
    simp [e4, BitVec.getLsbD_eq_getElem hi]
theorem nib_eq (x : BitVec 32) : nib x = bitN 4 x := by
  have hx := x.isLt
  have hy : (x >>> 4).toNat < 268435456 := by
    simp only [BitVec.toNat_ushiftRight, Nat.shiftRight_eq_div_pow]
    omega
  have hk : x.toNat % 16 < 16 := Nat.mod_lt _ (by decide)
  have h := bit4_low ⟨x.toNat % 16, hk⟩
  simp only at h
  unfold nib
  conv => rhs; rw [split4 x, bitN_xor, bit4_shl _ hy, h]
  exact BitVec.xor_comm _ _
theorem bitN_add (a b : Nat) (x : BitVec 32) : bitN (a + b) x = bitN a (bitN b x) := by
  induction a with
  | zero => simp [bitN]
  | succ a ih => rw [Nat.succ_add]; simp only [bitN, ih]
theorem crcB_eq (x : BitVec 32) (b : UInt8) : bitN 8 (x ^^^ ofB b) = crcB x b := by
  unfold crcB
  rw [nib_eq, nib_eq, ← bitN_add]
theorem crcOn_append (s : BitVec 32) (a b : List UInt8) : crcOn (crcOn s a) b = crcOn s (a ++ b) := by
  simp [crcOn, List.foldl_append]
theorem foldl_take {l : List UInt8} {k : Nat} (h : k < l.length) (f : BitVec 32 → UInt8 → BitVec 32) (x : BitVec 32) : (l.take (k + 1)).foldl f x = f ((l.take k).foldl f x) (l.getD k 0) := by
  rw [List.take_succ_eq_append_getElem h, List.foldl_append]
  simp [h]
end Go.Proofs.YtpglhdnepmcahaaGreatDoor

/- Sums -/
namespace Go.Proofs.YtpglhdnepmcahaaGreatDoor
open Go.RowKit

theorem nib_def (z : BitVec 32) : tab.getD (z.toNat % 16) 0#32 ^^^ (z >>> 4) = nib z := rfl

end Go.Proofs.YtpglhdnepmcahaaGreatDoor

/- Puts -/
namespace Go.Proofs.YtpglhdnepmcahaaGreatDoor
open Go.RowKit

/-! ### 64 bits -/
def I64 (x : BitVec 64) : Int := x.toNat
theorem I64_lt (x : BitVec 64) : I64 x < 18446744073709551616 := by have := x.isLt; simp only [I64]; omega
theorem I64_nonneg (x : BitVec 64) : 0 ≤ I64 x := by simp only [I64]; omega
theorem I64_inj {x y : BitVec 64} (h : I64 x = I64 y) : x = y := by
  apply BitVec.eq_of_toNat_eq
  simp only [I64] at h
  omega
theorem I64_shr7 (x : BitVec 64) : I64 x / (128 : Int) = I64 (x >>> 7) := by
  simp only [I64, BitVec.toNat_ushiftRight, Nat.shiftRight_eq_div_pow]
  omega
/-- its lowest seven bits, with the eighth set -/
def lowB (n : Nat) : UInt8 := UInt8.ofNat (n % 128 + 128)
theorem lowB_nat (n : Nat) : (lowB n).toNat = n % 128 + 128 := by
  unfold lowB
  rw [UInt8.toNat_ofNat']
  omega
theorem or128 (x : BitVec 64) : bits .or .u8 (I64 x % (256 : Int)) 128 = ((lowB x.toNat).toNat : Int) := by
  rw [lowB_nat]
  have h := u8_or_nat (x.toNat % 256) 128 (by omega) (by omega)
  have e1 : ((x.toNat % 256 : Nat) : Int) = I64 x % (256 : Int) := by simp only [I64]; omega
  rw [e1] at h
  refine Eq.trans h ?_
  congr 1
  have h2 : x.toNat % 256 ||| 128 = x.toNat % 128 + 128 := by
    have h3 : ∀ k : Fin 256, k.val ||| 128 = k.val % 128 + 128 := by decide +kernel
    have := h3 ⟨x.toNat % 256, Nat.mod_lt _ (by decide)⟩
    simp only at this
    rw [this]
    omega
  exact h2
theorem small256 (x : BitVec 64) : I64 x % (256 : Int) = ((UInt8.ofNat x.toNat).toNat : Int) := by
  rw [UInt8.toNat_ofNat']
  simp only [I64]
  omega

/-! ### the form of a number -/
def uv (n : Nat) : List UInt8 := if n < 128 then [UInt8.ofNat n] else lowB n :: uv (n / 128)
termination_by n
decreasing_by omega
theorem uv_small {n : Nat} (h : n < 128) : uv n = [UInt8.ofNat n] := by rw [uv, if_pos h]
theorem uv_big {n : Nat} (h : ¬ n < 128) : uv n = lowB n :: uv (n / 128) := by rw [uv, if_neg h]
theorem uv_len (k : Nat) : ∀ n, n < 128 ^ k * 128 → (uv n).length ≤ k + 1 := by
  induction k with
  | zero => intro n h; rw [uv_small (by omega)]; simp
  | succ k ih =>
    intro n h
    by_cases hn : n < 128
    · rw [uv_small hn]; simp
    · rw [uv_big hn]
      have : n / 128 < 128 ^ k * 128 := by
        rw [Nat.div_lt_iff_lt_mul (by decide)]
        rw [Nat.pow_succ] at h
        exact h
      have := ih _ this
      simp only [List.length_cons]
      omega
theorem uv_len64 (x : BitVec 64) : (uv x.toNat).length ≤ 10 := by
  have := x.isLt
  refine uv_len 9 _ (Nat.lt_of_lt_of_le this ?_)
  decide
theorem uv_pos (n : Nat) : 1 ≤ (uv n).length := by
  by_cases h : n < 128
  · rw [uv_small h]; simp
  · rw [uv_big h]; simp

theorem rd_one {wr : World} {b : UInt8} : Rd (wr.alloc (.cells #[Value.int .u8 (b.toNat : Int)] 5)) (.slice (some ⟨wr.heap.size, 0, none⟩) 1 1) [b] := Rd_lit _ [b] 1 rfl (by simp) _ rfl

theorem alloc_gb (w : World) (o : Obj) : w.grownBy (w.alloc o) none := World.grownBy_alloc w o none

set_option maxHeartbeats 800000 in
theorem addU_any (base : Nat) (v : Value) (l : List UInt8) (x : BitVec 64) (w : World) (hv : Own w base v l) (hb : base ≤ w.heap.size) (hsz : l.length ≤ 175921860000000) :
    Calls Tryz.prog 94 #[v, .int .u64 (I64 x)] w fun e w' => ∃ v', e = .returned v' ∧ Own w' base v' (l ++ uv x.toNat) ∧ Fr w w' v v' := by
  have hlen := uv_len64 x
  go_enter Tryz.func94, Tryz.ntmps94
  go_wp2
  go_loopw [0, 1] (fun s n wr => ∃ (d : List UInt8) (y : BitVec 64), n = .int .u64 (I64 y) ∧ Hid (Own wr base s (l ++ d)) ∧ Hid (uv x.toNat = d ++ uv y.toNat) ∧ Hid (Fr w wr v s)) (fun _ n _ => (intOf n).toNat)
  case atStart => exact ⟨[], x, rfl, show Own w base v (l ++ []) by simpa using hv, rfl, Fr.refl _ _⟩
  case round =>
    obtain ⟨d, y, rfl, ho, hu, hf⟩ := hrel
    have hdl : d.length + 1 ≤ 10 := by
      have h1 := congrArg List.length hu.out
      have := uv_pos y.toNat
      simp only [List.length_append] at h1
      omega
    by_cases h : 128 ≤ I64 y
    · have e1 := or128 y
      have e2 := I64_shr7 y
      have hy : ¬ y.toNat < 128 := by simp only [I64] at h; omega
      have hst : Hid (uv x.toNat = (d ++ [lowB y.toNat]) ++ uv (y >>> 7).toNat) := by
        have := hu.out
        rw [uv_big hy] at this
        show uv x.toNat = _
        rw [this]
        simp [BitVec.toNat_ushiftRight, Nat.shiftRight_eq_div_pow]
      have hms : Hid ((I64 (y >>> 7)).toNat < (I64 y).toNat) := by
        show (I64 (y >>> 7)).toNat < (I64 y).toNat
        rw [← e2]; omega
      clear hu hy
      generalize y >>> 7 = y1 at *
      generalize lowB y.toNat = b1 at *
      go_wp2_with (at_builtin; refine wp_app rfl _ _ rfl base _ _ (l ++ d) [b1] rfl rfl (ho.out.keep (alloc_gb _ _)) rd_one ?c1 ?c2 ?_)
      case c1 => first | omega | (simp; omega)
      case c2 => have := hf.out.1.size; first | omega | (simp; omega)
      intro v' w' ho' hf'
      have hf2 : Hid (Fr w w' v v') := hf.out.trans (Fr.pre (alloc_gb _ _) hf')
      have ho2 : Hid (Own w' base v' (l ++ (d ++ [b1]))) := show Own w' base v' (l ++ (d ++ [b1])) by simpa using ho'
      clear hf' ho' ho hf
      go_wp2
      go_roundw
      case rel => exact ⟨d ++ [b1], y1, rfl, ho2, hst, hf2⟩
      case measure => simp only [intOf]; exact hms.out
    · have hy : y.toNat < 128 := by simp only [I64] at h; omega
      have e1 := small256 y
      have hst : Hid (uv x.toNat = d ++ [UInt8.ofNat y.toNat]) := by
        have := hu.out
        rw [uv_small hy] at this
        exact this
      clear hu hy
      generalize UInt8.ofNat y.toNat = b1 at *
      go_wp2_with (at_builtin; refine wp_app rfl _ _ rfl base _ _ (l ++ d) [b1] rfl rfl (ho.out.keep (alloc_gb _ _)) rd_one ?c3 ?c4 ?_)
      case c3 => first | omega | (simp; omega)
      case c4 => have := hf.out.1.size; first | omega | (simp; omega)
      intro v' w' ho' hf'
      have hf2 : Hid (Fr w w' v v') := hf.out.trans (Fr.pre (alloc_gb _ _) hf')
      have ho2 : Hid (Own w' base v' (l ++ uv x.toNat)) := show Own w' base v' (l ++ uv x.toNat) by rw [hst.out]; simpa using ho'
      clear hf' ho' ho hf
      go_wp2
      go_ret
      exact ⟨_, rfl, ho2, hf2⟩

set_option maxHeartbeats 800000 in
theorem withRoom_any (v : Value) (l : List UInt8) (m : Nat) (M : Int) (hM : M = (m : Int)) (w : World) (hv : Rd w v l) (hsz : l.length + m ≤ 175921860444160) :
    Calls Tryz.prog 95 #[v, .int .i64 M] w fun e w' => ∃ v', e = .returned v' ∧ Own w' w.heap.size v' l ∧ w.grownBy w' none ∧ v'.ownBlock = some w.heap.size := by
  subst hM
  obtain ⟨a, c, hv', hn, hm, hb, hz⟩ := hv
  have hv2 : Hid (Rd w v l) := ⟨a, c, hv', hn, hm, hb, hz⟩
  subst hv'
  unfold maxLen at hm
  clear hb hz
  go_enter Tryz.func95, Tryz.ntmps95
  go_wp2_with (at_make; refine wp_make rfl _ _ rfl w.heap.size _ _ _ _ l.length (l.length + m) rfl rfl rfl ?c1 ?c2 ?c3 ?c4 ?_)
  case c1 => omega
  case c2 => omega
  case c3 => omega
  case c4 => omega
  intro w1 ho1 hg1 _
  have H1 : Hid (Own w1 w.heap.size (.slice (some ⟨w.heap.size, 0, none⟩) l.length (l.length + m)) (List.replicate l.length 0) ∧ w.grownBy w1 none) := ⟨ho1, hg1⟩
  clear ho1 hg1
  go_wp2_with (refine wp_copy rfl _ _ rfl w.heap.size _ _ (List.replicate l.length 0) l rfl rfl H1.out.1 (hv2.out.keep H1.out.2) (by simp) ?_)
  intro w2 ho2 hg2
  have H2 : Hid (Own w2 w.heap.size (.slice (some ⟨w.heap.size, 0, none⟩) l.length (l.length + m)) l ∧ w.grownBy w2 none) := ⟨ho2, gb_new H1.out.2 hg2 (fun k hk => by simp [Value.ownBlock] at hk; omega)⟩
  clear ho2 hg2 H1 hv2
  go_wp2
  go_ret
  exact ⟨_, rfl, H2.out.1, H2.out.2, rfl⟩

/-- the four bytes of a sum -/
def le4 (x : BitVec 32) : List UInt8 := [UInt8.ofNat x.toNat, UInt8.ofNat (x.toNat / 256), UInt8.ofNat (x.toNat / 65536), UInt8.ofNat (x.toNat / 16777216)]
theorem le4_0 (x : BitVec 32) : I32 x % (256 : Int) = ((UInt8.ofNat x.toNat).toNat : Int) := by
  rw [UInt8.toNat_ofNat']; simp only [I32]; omega
theorem le4_1 (x : BitVec 32) : I32 x / (256 : Int) % (256 : Int) = ((UInt8.ofNat (x.toNat / 256)).toNat : Int) := by
  rw [UInt8.toNat_ofNat']; simp only [I32]; omega
theorem le4_2 (x : BitVec 32) : I32 x / (65536 : Int) % (256 : Int) = ((UInt8.ofNat (x.toNat / 65536)).toNat : Int) := by
  rw [UInt8.toNat_ofNat']; simp only [I32]; omega
theorem le4_3 (x : BitVec 32) : I32 x / (16777216 : Int) % (256 : Int) = ((UInt8.ofNat (x.toNat / 16777216)).toNat : Int) := by
  rw [UInt8.toNat_ofNat']; simp only [I32]; omega
theorem rd_four {wr : World} {b1 b2 b3 b4 : UInt8} : Rd (wr.alloc (.cells #[Value.int .u8 (b1.toNat : Int), Value.int .u8 (b2.toNat : Int), Value.int .u8 (b3.toNat : Int), Value.int .u8 (b4.toNat : Int)] 5)) (.slice (some ⟨wr.heap.size, 0, none⟩) 4 4) [b1, b2, b3, b4] := Rd_lit _ [b1, b2, b3, b4] 4 rfl (by simp) _ rfl

set_option maxHeartbeats 800000 in
theorem putU_any (v : Value) (l : List UInt8) (x : BitVec 64) (w : World) (hv : Rd w v l) (hsz : l.length ≤ 175921850000000) :
    Calls Tryz.prog 96 #[v, .int .u64 (I64 x)] w fun e w' => ∃ v', e = .returned v' ∧ Own w' w.heap.size v' (l ++ uv x.toNat) ∧ w.grownBy w' none := by
  have hv2 : Hid (Rd w v l) := hv
  clear hv
  go_enter Tryz.func96, Tryz.ntmps96
  go_wp2_with fail
  refine (withRoom_any v l 10 _ rfl _ hv2.out (by omega)).mono ?_
  rintro e w1 ⟨v1, rfl, ho1, hg1, hb1⟩
  have H1 : Hid (Own w1 w.heap.size v1 l ∧ w.grownBy w1 none ∧ v1.ownBlock = some w.heap.size) := ⟨ho1, hg1, hb1⟩
  clear ho1 hg1 hb1
  go_wp2_with fail
  refine (addU_any w.heap.size v1 l x _ H1.out.1 H1.out.2.1.size (by omega)).mono ?_
  rintro e w2 ⟨v2, rfl, ho2, hf2⟩
  have H2 : Hid (Own w2 w.heap.size v2 (l ++ uv x.toNat) ∧ w.grownBy w2 none) := ⟨ho2, Fr.new H1.out.2.1 hf2 (fun k hk => by rw [H1.out.2.2] at hk; simp at hk; omega)⟩
  clear ho2 hf2
  go_wp2
  go_ret
  exact ⟨_, rfl, H2.out.1, H2.out.2⟩
end Go.Proofs.YtpglhdnepmcahaaGreatDoor

/- Reads -/
namespace Go.Proofs.YtpglhdnepmcahaaGreatDoor
open Go.RowKit

/-- a number that is read: the rest of the bytes, how many were read, what they gave -/
def rdU : List UInt8 → Nat → Nat → Except Int (Nat × Nat)
  | [], _, _ => .error 9
  | c :: t, i, acc =>
    if i = 9 ∧ 1 < c.toNat then .error 7
    else if c.toNat < 128 then (if c.toNat = 0 ∧ 0 < i then .error 3 else .ok (acc + c.toNat * 128 ^ i, i + 1))
    else rdU t (i + 1) (acc + (c.toNat % 128) * 128 ^ i)

def uRes : Except Int (Nat × Nat) → Int → Nat × Int × Int
  | .error e, _ => (0, 0, e)
  | .ok (n, k), a => (n, a + (k : Int), 0)
def uSpec (l : List UInt8) (a : Int) : Nat × Int × Int := if a < 0 ∨ (l.length : Int) < a then (0, 0, 1) else uRes (rdU (l.drop a.toNat) 0 0) a
def tup3 (r : Nat × Int × Int) : Value := .tuple #[.int .u64 (I64 (BitVec.ofNat 64 r.1)), .int .i64 r.2.1, .int .i64 r.2.2]

theorem ret3 {k1 k2 k3 : IntKind} {a b c a' b' c' : Int} (h1 : a = a') (h2 : b = b') (h3 : c = c') : Ending.returned (.tuple #[.int k1 a, .int k2 b, .int k3 c]) = .returned (.tuple #[.int k1 a', .int k2 b', .int k3 c']) := by rw [h1, h2, h3]
theorem I64_0 : I64 (BitVec.ofNat 64 0) = 0 := by decide

theorem drop_step {l : List UInt8} {k : Nat} (h : k < l.length) : l.drop k = l.getD k 0 :: l.drop (k + 1) := by
  rw [List.drop_eq_getElem_cons h]
  simp [h]

theorem pow7 (k : Nat) : (128 : Nat) ^ k = 2 ^ (7 * k) := by rw [Nat.pow_mul]

theorem I64_of {n : Nat} (h : n < 18446744073709551616) : I64 (BitVec.ofNat 64 n) = (n : Int) := by
  simp only [I64, BitVec.toNat_ofNat]
  omega

theorem or_step {acc y k : Nat} (hk : k ≤ 9) (ha : acc < 128 ^ k) (hy : y * 128 ^ k < 18446744073709551616) : bits .or .u64 (I64 (BitVec.ofNat 64 acc)) ((y * 128 ^ k : Nat) : Int) = I64 (BitVec.ofNat 64 (acc + y * 128 ^ k)) := by
  have hp : (128 : Nat) ^ k ≤ 128 ^ 9 := Nat.pow_le_pow_right (by decide) hk
  have h9 : (128 : Nat) ^ 9 = 9223372036854775808 := by decide
  have e : acc ||| y * 128 ^ k = acc + y * 128 ^ k := by
    rw [pow7] at ha ⊢
    rw [Nat.or_comm, Nat.mul_comm, ← Nat.two_pow_add_eq_or_of_lt ha]
    omega
  have hsum : acc + y * 128 ^ k < 18446744073709551616 := by
    rw [← e]
    exact Nat.or_lt_two_pow (n := 64) (by omega) hy
  rw [I64_of (by omega), I64_of hsum, u64_or_nat _ _ (by omega) hy, e]

theorem wrap_shl {y k : Nat} (hy : y * 128 ^ k < 18446744073709551616) : IntKind.u64.wrap (((y : Nat) : Int) * 2 ^ (7 * k)) = ((y * 128 ^ k : Nat) : Int) := by
  rw [IntKind.wrap_u64, pow7]
  have e : ((y : Nat) : Int) * 2 ^ (7 * k) = ((y * 2 ^ (7 * k) : Nat) : Int) := by
    rw [Int.natCast_mul, Int.natCast_pow]; rfl
  rw [e]
  rw [pow7] at hy
  omega
theorem wrap_byte {y : Nat} (hy : y < 256) : IntKind.u64.wrap ((y : Nat) : Int) = (y : Int) := by
  rw [IntKind.wrap_u64]
  omega
theorem and127 {y : Nat} (hy : y < 256) : bits .and .u8 (y : Int) 127 = ((y % 128 : Nat) : Int) := by
  have h := u8_and_nat y 127 hy (by decide)
  rw [Nat.and_two_pow_sub_one_eq_mod y 7] at h
  exact h
theorem mul_lt {y k : Nat} (hk : k ≤ 9) (hy : y < 128) (h9 : k = 9 → y ≤ 1) : y * 128 ^ k < 18446744073709551616 := by
  by_cases h : k = 9
  · subst h
    have := h9 rfl
    have e : (128 : Nat) ^ 9 = 9223372036854775808 := by decide
    rw [e]
    omega
  · have h1 : (128 : Nat) ^ k ≤ 128 ^ 8 := Nat.pow_le_pow_right (by decide) (by omega)
    have e : (128 : Nat) ^ 8 = 72057594037927936 := by decide
    have : y * 128 ^ k ≤ 127 * 128 ^ 8 := Nat.mul_le_mul (by omega) h1
    rw [e] at this
    omega
theorem acc_lt {acc y k : Nat} (ha : acc < 128 ^ k) (hy : y < 128) : acc + y * 128 ^ k < 128 ^ (k + 1) := by
  rw [Nat.pow_succ]
  have : y * 128 ^ k ≤ 127 * 128 ^ k := Nat.mul_le_mul_right _ (by omega)
  omega

/-- the round's two sums, as the walk writes them -/
theorem step_more {acc y k : Nat} (hk : k < 9) (ha : acc < 128 ^ k) (hy : y < 256) :
    bits .or .u64 (I64 (BitVec.ofNat 64 acc)) (IntKind.u64.wrap (IntKind.u64.wrap (bits .and .u8 (y : Int) 127) * 2 ^ (7 * k))) = I64 (BitVec.ofNat 64 (acc + y % 128 * 128 ^ k)) := by
  have hl := mul_lt (y := y % 128) (k := k) (by omega) (by omega) (by omega)
  rw [and127 hy, wrap_byte (by omega), wrap_shl hl, or_step (by omega) ha hl]
theorem step_last {acc y k : Nat} (hk : k ≤ 9) (ha : acc < 128 ^ k) (hy : y < 128) (h9 : k = 9 → y ≤ 1) :
    bits .or .u64 (I64 (BitVec.ofNat 64 acc)) (IntKind.u64.wrap ((y : Int) * 2 ^ (7 * k))) = I64 (BitVec.ofNat 64 (acc + y * 128 ^ k)) := by
  have hl := mul_lt hk hy h9
  rw [wrap_shl hl, or_step hk ha hl]

theorem uSpec_in {l : List UInt8} {a : Nat} (h : a ≤ l.length) {r : Except Int (Nat × Nat)} (hr : rdU (l.drop a) 0 0 = r) : uSpec l (a : Int) = uRes r a := by
  unfold uSpec
  rw [if_neg (by omega), Int.toNat_natCast, hr]

theorem rd_end {l : List UInt8} {k acc : Nat} (i : Nat) (h : l.length ≤ k) : rdU (l.drop k) i acc = .error 9 := by
  rw [List.drop_of_length_le h]; rfl
theorem rd_large {l : List UInt8} {k acc i : Nat} (h : k < l.length) (hi : i = 9) (hy : 1 < (l.getD k 0).toNat) : rdU (l.drop k) i acc = .error 7 := by
  rw [drop_step h, rdU, if_pos ⟨hi, hy⟩]
theorem rd_form {l : List UInt8} {k acc i : Nat} (h : k < l.length) (hi : 0 < i) (hy : (l.getD k 0).toNat = 0) : rdU (l.drop k) i acc = .error 3 := by
  rw [drop_step h, rdU, if_neg (by omega), if_pos (by omega), if_pos ⟨hy, hi⟩]
theorem rd_ok {l : List UInt8} {k acc i : Nat} (h : k < l.length) (h9 : i = 9 → (l.getD k 0).toNat ≤ 1) (hy : (l.getD k 0).toNat < 128) (h0 : 0 < i → (l.getD k 0).toNat ≠ 0) : rdU (l.drop k) i acc = .ok (acc + (l.getD k 0).toNat * 128 ^ i, i + 1) := by
  rw [drop_step h, rdU, if_neg (by omega), if_pos hy, if_neg (by omega)]
theorem rd_more {l : List UInt8} {k acc i : Nat} (h : k < l.length) (h9 : i ≠ 9) (hy : ¬ (l.getD k 0).toNat < 128) : rdU (l.drop k) i acc = rdU (l.drop (k + 1)) (i + 1) (acc + (l.getD k 0).toNat % 128 * 128 ^ i) := by
  rw [drop_step h, rdU, if_neg (by omega), if_neg hy]

end Go.Proofs.YtpglhdnepmcahaaGreatDoor

/- ReadU -/
namespace Go.Proofs.YtpglhdnepmcahaaGreatDoor
open Go.RowKit

set_option maxRecDepth 4000 in
set_option maxHeartbeats 3200000 in
theorem u_in (v : Value) (l : List UInt8) (p : Nat) (w : World) (hv : Rd w v l) (hp : p ≤ l.length) :
    Calls Tryz.prog 99 #[v, .int .i64 p] w fun e w' => e = .returned (tup3 (uSpec l p)) ∧ w' = w := by
  have Hp : Hid (∀ r, rdU (l.drop p) 0 0 = r → uSpec l (p : Int) = uRes r p) := fun r hr => uSpec_in hp hr
  obtain ⟨a, c, rfl, hn, hm, hb, hz⟩ := hv
  unfold maxLen at hm
  unfold RdA at hb
  have hlt' : l.length ≤ 9223372036854775807 := by omega
  clear hm hn hz
  generalize hN : l.length = n at *
  have HN : Hid (l.length = n) := hN
  clear hN
  have t0 : ¬ (p : Int) < 0 := by omega
  have t1 : ¬ (n : Int) < (p : Int) := by omega
  go_enter Tryz.func99, Tryz.ntmps99
  go_wp2
  go_loop [7, 8] (fun r i => ∃ k : Nat, k ≤ 9 ∧ p + k ≤ n ∧ i = .int .i64 k ∧ ∃ acc : Nat, r = .int .u64 (I64 (BitVec.ofNat 64 acc)) ∧ Hid (acc < 128 ^ k ∧ rdU (l.drop p) 0 0 = rdU (l.drop (p + k)) k acc)) (fun _ i => 10 - (intOf i).toNat)
  case atStart => exact ⟨0, by omega, by omega, rfl, 0, rfl, by decide, rfl⟩
  case round =>
    obtain ⟨k, hk, hkn, rfl, acc, rfl, hacc⟩ := hrel
    by_cases hlt : p + k < n
    · obtain ⟨b, o, rfl, hc⟩ := hb (p + k) hlt
      have hlen : Hid (p + k < l.length) := by show p + k < l.length; rw [HN.out]; exact hlt
      have hc8 : (l.getD (p + k) 0).toNat < 256 := (l.getD (p + k) 0).toNat_lt
      have r1 : Hid (k = 9 → 1 < (l.getD (p + k) 0).toNat → uSpec l (p : Int) = (0, 0, 7)) := fun h1 h2 => Hp.out _ (hacc.out.2.trans (rd_large hlen.out h1 h2))
      have r2 : Hid (0 < k → (l.getD (p + k) 0).toNat = 0 → uSpec l (p : Int) = (0, 0, 3)) := fun h1 h2 => Hp.out _ (hacc.out.2.trans (rd_form hlen.out h1 h2))
      have r3 : Hid ((k = 9 → (l.getD (p + k) 0).toNat ≤ 1) → (l.getD (p + k) 0).toNat < 128 → (0 < k → (l.getD (p + k) 0).toNat ≠ 0) → uSpec l (p : Int) = (acc + (l.getD (p + k) 0).toNat * 128 ^ k, (p : Int) + ((k + 1 : Nat) : Int), 0)) :=
        fun h1 h2 h3 => Hp.out _ (hacc.out.2.trans (rd_ok hlen.out h1 h2 h3))
      have r4 : Hid (k ≠ 9 → ¬ (l.getD (p + k) 0).toNat < 128 → rdU (l.drop p) 0 0 = rdU (l.drop (p + k + 1)) (k + 1) (acc + (l.getD (p + k) 0).toNat % 128 * 128 ^ k)) := fun h1 h2 => hacc.out.2.trans (rd_more hlen.out h1 h2)
      have hacc1 : Hid (acc < 128 ^ k) := hacc.out.1
      clear hacc Hp
      generalize (l.getD (p + k) 0).toNat = y at *
      clear hb
      by_cases hk9 : k = 9
      · have K9 : Hid (k = 9) := hk9
        have hk9' : ((k : Int) == 9) = true := by simp; omega
        clear hk9
        by_cases hy1 : 1 < (y : Int)
        · have HY : Hid (1 < y) := by show 1 < y; omega
          go_wp2
          go_ret3
          exact ⟨by rw [r1.out K9.out HY.out]; exact ret3 I64_0.symm rfl rfl, rfl⟩
        · by_cases hy0 : y = 0
          · have Y0 : Hid (y = 0) := hy0
            have hy0' : ((y : Int) == 0) = true := by simp; omega
            have hkp : (0 : Int) < (k : Int) := by have := K9.out; omega
            clear hy0
            go_wp2
            go_ret3
            exact ⟨by rw [r2.out (by have := K9.out; omega) Y0.out]; exact ret3 I64_0.symm rfl rfl, rfl⟩
          · have hy0' : ((y : Int) == 0) = false := by simp; omega
            have hst : Hid (bits .or .u64 (I64 (BitVec.ofNat 64 acc)) (IntKind.u64.wrap ((y : Int) * 2 ^ (7 * k))) = I64 (BitVec.ofNat 64 (acc + y * 128 ^ k))) := step_last (by omega) hacc1.out (by omega) (by omega)
            go_wp2
            go_ret3
            exact ⟨by rw [r3.out (by omega) (by omega) (by omega)]; exact ret3 hst.out (show _ = (p : Int) + ((k + 1 : Nat) : Int) by omega) rfl, rfl⟩
      · have hk9' : ((k : Int) == 9) = false := by simp; omega
        by_cases hy8 : (y : Int) < 128
        · have hst : Hid (bits .or .u64 (I64 (BitVec.ofNat 64 acc)) (IntKind.u64.wrap ((y : Int) * 2 ^ (7 * k))) = I64 (BitVec.ofNat 64 (acc + y * 128 ^ k))) := step_last (by omega) hacc1.out (by omega) (by omega)
          by_cases hy0 : y = 0
          · have Y0 : Hid (y = 0) := hy0
            have hy0' : ((y : Int) == 0) = true := by simp; omega
            by_cases hk0 : k = 0
            · have K0 : Hid (k = 0) := hk0
              have hkp : ¬ (0 : Int) < (k : Int) := by omega
              clear hy0 hk0
              go_wp2
              go_ret3
              exact ⟨by rw [r3.out (by omega) (by omega) (fun h => by have := K0.out; omega)]; exact ret3 hst.out (show _ = (p : Int) + ((k + 1 : Nat) : Int) by omega) rfl, rfl⟩
            · have hkp : (0 : Int) < (k : Int) := by omega
              clear hy0
              go_wp2
              go_ret3
              exact ⟨by rw [r2.out (by omega) Y0.out]; exact ret3 I64_0.symm rfl rfl, rfl⟩
          · have hy0' : ((y : Int) == 0) = false := by simp; omega
            go_wp2
            go_ret3
            exact ⟨by rw [r3.out (by omega) (by omega) (by omega)]; exact ret3 hst.out (show _ = (p : Int) + ((k + 1 : Nat) : Int) by omega) rfl, rfl⟩
        · have hst := step_more (acc := acc) (y := y) (k := k) (by omega) hacc1.out hc8
          have HST : Hid (bits .or .u64 (I64 (BitVec.ofNat 64 acc)) (IntKind.u64.wrap (IntKind.u64.wrap (bits .and .u8 (y : Int) 127) * 2 ^ (7 * k))) = I64 (BitVec.ofNat 64 (acc + y % 128 * 128 ^ k))) := hst
          clear hst
          go_wp2
          go_round
          case rel => exact ⟨k + 1, by omega, by omega, by go_num, acc + y % 128 * 128 ^ k, by rw [HST.out], acc_lt hacc1.out (by omega), r4.out hk9 (by omega)⟩
          case measure => simp [intOf]; omega
    · have hend : Hid (uSpec l (p : Int) = (0, 0, 9)) := Hp.out _ (hacc.out.2.trans (rd_end _ (by rw [HN.out]; omega)))
      clear hb
      go_wp2
      go_ret3
      exact ⟨by rw [hend.out]; exact ret3 I64_0.symm rfl rfl, rfl⟩

set_option maxHeartbeats 800000 in
theorem u_out (v : Value) (l : List UInt8) (p : Int) (w : World) (hv : Rd w v l) (hp : p < 0 ∨ (l.length : Int) < p) :
    Calls Tryz.prog 99 #[v, .int .i64 p] w fun e w' => e = .returned (tup3 (uSpec l p)) ∧ w' = w := by
  have Hs : Hid (uSpec l p = (0, 0, 1)) := if_pos hp
  obtain ⟨a, c, rfl, -, -, -, -⟩ := hv
  by_cases h : p < 0
  · clear hp
    go_enter Tryz.func99, Tryz.ntmps99
    go_wp2
    go_ret3
    exact ⟨by rw [Hs.out]; exact ret3 I64_0.symm rfl rfl, rfl⟩
  · have h1 : (l.length : Int) < p := by omega
    clear hp
    go_enter Tryz.func99, Tryz.ntmps99
    go_wp2
    go_ret3
    exact ⟨by rw [Hs.out]; exact ret3 I64_0.symm rfl rfl, rfl⟩

theorem u_any (v : Value) (l : List UInt8) (p : Int) (w : World) (hv : Rd w v l) :
    Calls Tryz.prog 99 #[v, .int .i64 p] w fun e w' => e = .returned (tup3 (uSpec l p)) ∧ w' = w := by
  by_cases hp : p < 0 ∨ (l.length : Int) < p
  · exact u_out v l p w hv hp
  · obtain ⟨q, rfl⟩ := Int.eq_ofNat_of_zero_le (show 0 ≤ p by omega)
    exact u_in v l q w hv (by omega)
end Go.Proofs.YtpglhdnepmcahaaGreatDoor

/- Same -/
namespace Go.Proofs.YtpglhdnepmcahaaGreatDoor
open Go.RowKit

theorem ret_bool {a b : Bool} (h : a = b) : Ending.returned (.bool a) = .returned (.bool b) := by rw [h]
theorem beq_take {a b : List UInt8} {k : Nat} (ha : k < a.length) (hb : k < b.length) (h : a.take k = b.take k) (he : a.getD k 0 = b.getD k 0) : a.take (k + 1) = b.take (k + 1) := by
  rw [List.take_succ_eq_append_getElem ha, List.take_succ_eq_append_getElem hb, h]
  simp [ha, hb] at he
  rw [he]

theorem gb_drewN (w : World) (m : Nat) (g : Option Nat) : w.grownBy (w.drewN m) g := ⟨rfl, rfl, rfl, Nat.le_refl _, fun _ _ _ => rfl⟩
end Go.Proofs.YtpglhdnepmcahaaGreatDoor

/- Frame1 -/
namespace Go.Proofs.YtpglhdnepmcahaaGreatDoor
open Go.RowKit

theorem addU_eq (base : Nat) (v : Value) (l : List UInt8) (x : BitVec 64) (X : Int) (hX : X = I64 x) (w : World) (hv : Own w base v l) (hb : base ≤ w.heap.size) (hsz : l.length ≤ 175921860000000) :
    Calls Tryz.prog 94 #[v, .int .u64 X] w fun e w' => ∃ v', e = .returned v' ∧ Own w' base v' (l ++ uv x.toNat) ∧ Fr w w' v v' := by
  subst hX
  exact addU_any base v l x w hv hb hsz

def frame (p : List UInt8) : List UInt8 := uv p.length ++ (le4 (crc p) ++ p)
theorem ret_tup2 {v : Value} {k : IntKind} {a b : Int} (h : a = b) : Ending.returned (.tuple #[v, .int k a]) = .returned (.tuple #[v, .int k b]) := by rw [h]

theorem ofNat_len {n : Nat} (h : n ≤ 175921860444160) : (BitVec.ofNat 64 n).toNat = n := by
  simp only [BitVec.toNat_ofNat]
  omega

end Go.Proofs.YtpglhdnepmcahaaGreatDoor

/- Known -/
namespace Go.Proofs.YtpglhdnepmcahaaGreatDoor
open Go.RowKit

theorem uv300 : uv 300 = [172, 2] := by
  rw [uv_big (by decide), uv_small (by decide)]
  decide
theorem uv1 : uv 1 = [1] := by
  rw [uv_small (by decide)]
  decide
theorem frame_a : frame [97] = [1, 48, 67, 208, 193, 97] := by
  unfold frame
  rw [show ([97] : List UInt8).length = 1 from rfl, uv1, show le4 (crc [97]) = [48, 67, 208, 193] from by decide +kernel]
  rfl
theorem crc_nine : I32 (crc [49, 50, 51, 52, 53, 54, 55, 56, 57]) = 3808858755 := by decide +kernel
theorem u300 : tup3 (uSpec [172, 2] 0) = .tuple #[.int .u64 300, .int .i64 2, .int .i64 0] := by
  have h : uSpec [172, 2] 0 = (300, 2, 0) := by decide +kernel
  rw [h]
  have e : I64 (BitVec.ofNat 64 300) = 300 := by decide
  simp only [tup3, e]
theorem I64_300 : (300 : Int) = I64 (300#64) := by decide
theorem nat300 : (300#64).toNat = 300 := by decide

theorem putU_eq (v : Value) (l : List UInt8) (x : BitVec 64) (X : Int) (hX : X = I64 x) (w : World) (hv : Rd w v l) (hsz : l.length ≤ 175921850000000) :
    Calls Tryz.prog 96 #[v, .int .u64 X] w fun e w' => ∃ v', e = .returned v' ∧ Own w' w.heap.size v' (l ++ uv x.toNat) ∧ w.grownBy w' none := by
  subst hX
  exact putU_any v l x w hv hsz

theorem cell_keep {w w' : World} {g j : Nat} {u : Value} (h : w.cell? ⟨g, j, none⟩ = some u) (hg : w.grownBy w' none) : w'.cell? ⟨g, j, none⟩ = some u := by
  rw [← h]
  exact World.cell?_of_block (hg.block g (block_lt h) (by simp))

theorem conv_const (w : World) (C : Array Value) (n c : Nat) : (convert 42 42 (.slice (some ⟨w.heap.size, 0, none⟩) n c)).run Tryz.prog (w.alloc (.cells C 5)) = .ok (.slice (some ⟨w.heap.size, 0, none⟩) n c) (w.alloc (.cells C 5 (C.size, C.size + 1))) :=
  Go.Lib.run_convert_bytes_const w 42 5 C n c Tryz.underlying42 Tryz.underlying5

end Go.Proofs.YtpglhdnepmcahaaGreatDoor
