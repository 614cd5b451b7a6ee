/-
  Numbers of any length, written: what vint.withRoom, addU, PutU, zigzag, PutI come to: the walks.
-/
import Derived.Test.YtmgbcmogdjhacaaDoorLaws
namespace Go.Proofs.YtmgbcmogdjhacaaDoor
open Go.RowKit

def I64 (x : BitVec 64) : Int := x.toNat
theorem I64_lt (x : BitVec 64) : I64 x < 18446744073709551616 := by have := x.isLt; simp only [I64]; omega
theorem I64_nonneg (x : BitVec 64) : 0 ≤ I64 x := by simp only [I64]; omega
theorem I64_inj {x y : BitVec 64} (h : I64 x = I64 y) : x = y := by
  apply BitVec.eq_of_toNat_eq
  simp only [I64] at h
  omega
theorem I64_shr7 (x : BitVec 64) : I64 x / (128 : Int) = I64 (x >>> 7) := by
  simp only [I64, BitVec.toNat_ushiftRight, Nat.shiftRight_eq_div_pow]
  omega
/-- its lowest seven bits, with the eighth set -/
def lowB (n : Nat) : UInt8 := UInt8.ofNat (n % 128 + 128)
theorem lowB_nat (n : Nat) : (lowB n).toNat = n % 128 + 128 := by
  unfold lowB
  rw [UInt8.toNat_ofNat']
  omega
theorem or128 (x : BitVec 64) : bits .or .u8 (I64 x % (256 : Int)) 128 = ((lowB x.toNat).toNat : Int) := by
  rw [lowB_nat]
  have h := u8_or_nat (x.toNat % 256) 128 (by omega) (by omega)
  have e1 : ((x.toNat % 256 : Nat) : Int) = I64 x % (256 : Int) := by simp only [I64]; omega
  rw [e1] at h
  refine Eq.trans h ?_
  congr 1
  have h2 : x.toNat % 256 ||| 128 = x.toNat % 128 + 128 := by
    have h3 : ∀ k : Fin 256, k.val ||| 128 = k.val % 128 + 128 := by decide +kernel
    have := h3 ⟨x.toNat % 256, Nat.mod_lt _ (by decide)⟩
    simp only at this
    rw [this]
    omega
  exact h2
theorem small256 (x : BitVec 64) : I64 x % (256 : Int) = ((UInt8.ofNat x.toNat).toNat : Int) := by
  rw [UInt8.toNat_ofNat']
  simp only [I64]
  omega
def uv (n : Nat) : List UInt8 := if n < 128 then [UInt8.ofNat n] else lowB n :: uv (n / 128)
termination_by n
decreasing_by omega
theorem uv_small {n : Nat} (h : n < 128) : uv n = [UInt8.ofNat n] := by rw [uv, if_pos h]
theorem uv_big {n : Nat} (h : ¬ n < 128) : uv n = lowB n :: uv (n / 128) := by rw [uv, if_neg h]
theorem uv_len (k : Nat) : ∀ n, n < 128 ^ k * 128 → (uv n).length ≤ k + 1 := by
  induction k with
  | zero => intro n h; rw [uv_small (by omega)]; simp
  | succ k ih =>
    intro n h
    by_cases hn : n < 128
    · rw [uv_small hn]; simp
    · rw [uv_big hn]
      have : n / 128 < 128 ^ k * 128 := by
        rw [Nat.div_lt_iff_lt_mul (by decide)]
        rw [Nat.pow_succ] at h
        exact h
      have := ih _ this
      simp only [List.length_cons]
      omega
theorem uv_len64 (x : BitVec 64) : (uv x.toNat).length ≤ 10 := by
  have := x.isLt
  refine uv_len 9 _ (Nat.lt_of_lt_of_le this ?_)
  decide
theorem uv_pos (n : Nat) : 1 ≤ (uv n).length := by
  by_cases h : n < 128
  · rw [uv_small h]; simp
  · rw [uv_big h]; simp
theorem rd_one {wr : World} {b : UInt8} : Rd (wr.alloc (.cells #[Value.int .u8 (b.toNat : Int)] 5)) (.slice (some ⟨wr.heap.size, 0, none⟩) 1 1) [b] := Rd_lit _ [b] 1 rfl (by simp) _ rfl
theorem alloc_gb (w : World) (o : Obj) : w.grownBy (w.alloc o) none := World.grownBy_alloc w o none
set_option maxHeartbeats 800000 in
theorem addU_any (base : Nat) (v : Value) (l : List UInt8) (x : BitVec 64) (w : World) (hv : Own w base v l) (hb : base ≤ w.heap.size) (hsz : l.length ≤ 175921860000000) :
    Calls Tryd.prog 72 #[v, .int .u64 (I64 x)] w fun e w' => ∃ v', e = .returned v' ∧ Own w' base v' (l ++ uv x.toNat) ∧ Fr w w' v v' := by
  have hlen := uv_len64 x
  go_enter Tryd.func72, Tryd.ntmps72
  go_wp2
  go_loopw [0, 1] (fun s n wr => ∃ (d : List UInt8) (y : BitVec 64), n = .int .u64 (I64 y) ∧ Hid (Own wr base s (l ++ d)) ∧ Hid (uv x.toNat = d ++ uv y.toNat) ∧ Hid (Fr w wr v s)) (fun _ n _ => (intOf n).toNat)
  case atStart => exact ⟨[], x, rfl, show Own w base v (l ++ []) by simpa using hv, rfl, Fr.refl _ _⟩
  case round =>
    obtain ⟨d, y, rfl, ho, hu, hf⟩ := hrel
    have hdl : d.length + 1 ≤ 10 := by
      have h1 := congrArg List.length hu.out
      have := uv_pos y.toNat
      simp only [List.length_append] at h1
      omega
    by_cases h : 128 ≤ I64 y
    · have e1 := or128 y
      have e2 := I64_shr7 y
      have hy : ¬ y.toNat < 128 := by simp only [I64] at h; omega
      have hst : Hid (uv x.toNat = (d ++ [lowB y.toNat]) ++ uv (y >>> 7).toNat) := by
        have := hu.out
        rw [uv_big hy] at this
        show uv x.toNat = _
        rw [this]
        simp [BitVec.toNat_ushiftRight, Nat.shiftRight_eq_div_pow]
      have hms : Hid ((I64 (y >>> 7)).toNat < (I64 y).toNat) := by
        show (I64 (y >>> 7)).toNat < (I64 y).toNat
        rw [← e2]; omega
      clear hu hy
      generalize y >>> 7 = y1 at *
      generalize lowB y.toNat = b1 at *
      go_wp2_with (at_builtin; refine wp_app rfl _ _ rfl base _ _ (l ++ d) [b1] rfl rfl (ho.out.keep (alloc_gb _ _)) rd_one ?c1 ?c2 ?_)
      case c1 => first | omega | (simp; omega)
      case c2 => have := hf.out.1.size; first | omega | (simp; omega)
      intro v' w' ho' hf'
      have hf2 : Hid (Fr w w' v v') := hf.out.trans (Fr.pre (alloc_gb _ _) hf')
      have ho2 : Hid (Own w' base v' (l ++ (d ++ [b1]))) := show Own w' base v' (l ++ (d ++ [b1])) by simpa using ho'
      clear hf' ho' ho hf
      go_wp2
      go_roundw
      case rel => exact ⟨d ++ [b1], y1, rfl, ho2, hst, hf2⟩
      case measure => simp only [intOf]; exact hms.out
    · have hy : y.toNat < 128 := by simp only [I64] at h; omega
      have e1 := small256 y
      have hst : Hid (uv x.toNat = d ++ [UInt8.ofNat y.toNat]) := by
        have := hu.out
        rw [uv_small hy] at this
        exact this
      clear hu hy
      generalize UInt8.ofNat y.toNat = b1 at *
      go_wp2_with (at_builtin; refine wp_app rfl _ _ rfl base _ _ (l ++ d) [b1] rfl rfl (ho.out.keep (alloc_gb _ _)) rd_one ?c3 ?c4 ?_)
      case c3 => first | omega | (simp; omega)
      case c4 => have := hf.out.1.size; first | omega | (simp; omega)
      intro v' w' ho' hf'
      have hf2 : Hid (Fr w w' v v') := hf.out.trans (Fr.pre (alloc_gb _ _) hf')
      have ho2 : Hid (Own w' base v' (l ++ uv x.toNat)) := show Own w' base v' (l ++ uv x.toNat) by rw [hst.out]; simpa using ho'
      clear hf' ho' ho hf
      go_wp2
      go_ret
      exact ⟨_, rfl, ho2, hf2⟩
set_option maxHeartbeats 800000 in
theorem withRoom_any (v : Value) (l : List UInt8) (m : Nat) (M : Int) (hM : M = (m : Int)) (w : World) (hv : Rd w v l) (hsz : l.length + m ≤ 175921860444160) :
    Calls Tryd.prog 73 #[v, .int .i64 M] w fun e w' => ∃ v', e = .returned v' ∧ Own w' w.heap.size v' l ∧ w.grownBy w' none ∧ v'.ownBlock = some w.heap.size := by
  subst hM
  obtain ⟨a, c, hv', hn, hm, hb, hz⟩ := hv
  have hv2 : Hid (Rd w v l) := ⟨a, c, hv', hn, hm, hb, hz⟩
  subst hv'
  unfold maxLen at hm
  clear hb hz
  go_enter Tryd.func73, Tryd.ntmps73
  go_wp2_with (at_make; refine wp_make rfl _ _ rfl w.heap.size _ _ _ _ l.length (l.length + m) rfl rfl rfl ?c1 ?c2 ?c3 ?c4 ?_)
  case c1 => omega
  case c2 => omega
  case c3 => omega
  case c4 => omega
  intro w1 ho1 hg1 _
  have H1 : Hid (Own w1 w.heap.size (.slice (some ⟨w.heap.size, 0, none⟩) l.length (l.length + m)) (List.replicate l.length 0) ∧ w.grownBy w1 none) := ⟨ho1, hg1⟩
  clear ho1 hg1
  go_wp2_with (refine wp_copy rfl _ _ rfl w.heap.size _ _ (List.replicate l.length 0) l rfl rfl H1.out.1 (hv2.out.keep H1.out.2) (by simp) ?_)
  intro w2 ho2 hg2
  have H2 : Hid (Own w2 w.heap.size (.slice (some ⟨w.heap.size, 0, none⟩) l.length (l.length + m)) l ∧ w.grownBy w2 none) := ⟨ho2, gb_new H1.out.2 hg2 (fun k hk => by simp [Value.ownBlock] at hk; omega)⟩
  clear ho2 hg2 H1 hv2
  go_wp2
  go_ret
  exact ⟨_, rfl, H2.out.1, H2.out.2, rfl⟩
set_option maxHeartbeats 800000 in
theorem putU_any (v : Value) (l : List UInt8) (x : BitVec 64) (w : World) (hv : Rd w v l) (hsz : l.length ≤ 175921850000000) :
    Calls Tryd.prog 55 #[v, .int .u64 (I64 x)] w fun e w' => ∃ v', e = .returned v' ∧ Own w' w.heap.size v' (l ++ uv x.toNat) ∧ w.grownBy w' none := by
  have hv2 : Hid (Rd w v l) := hv
  clear hv
  go_enter Tryd.func55, Tryd.ntmps55
  go_wp2_with fail
  refine (withRoom_any v l 10 _ rfl _ hv2.out (by omega)).mono ?_
  rintro e w1 ⟨v1, rfl, ho1, hg1, hb1⟩
  have H1 : Hid (Own w1 w.heap.size v1 l ∧ w.grownBy w1 none ∧ v1.ownBlock = some w.heap.size) := ⟨ho1, hg1, hb1⟩
  clear ho1 hg1 hb1
  go_wp2_with fail
  refine (addU_any w.heap.size v1 l x _ H1.out.1 H1.out.2.1.size (by omega)).mono ?_
  rintro e w2 ⟨v2, rfl, ho2, hf2⟩
  have H2 : Hid (Own w2 w.heap.size v2 (l ++ uv x.toNat) ∧ w.grownBy w2 none) := ⟨ho2, Fr.new H1.out.2.1 hf2 (fun k hk => by rw [H1.out.2.2] at hk; simp at hk; omega)⟩
  clear ho2 hf2
  go_wp2
  go_ret
  exact ⟨_, rfl, H2.out.1, H2.out.2⟩
theorem I64_of {n : Nat} (h : n < 18446744073709551616) : I64 (BitVec.ofNat 64 n) = (n : Int) := by
  simp only [I64, BitVec.toNat_ofNat]
  omega
def zz (n : Int) : Nat := if n < 0 then (2 * (-(n + 1)) + 1).toNat else (2 * n).toNat
theorem I64_xor (x y : BitVec 64) : bits .xor .u64 (I64 x) (I64 y) = I64 (x ^^^ y) := by
  have hx := x.isLt
  have hy := y.isLt
  simp only [I64]
  rw [u64_xor_nat _ _ hx hy, BitVec.toNat_xor]
theorem I64_not (x : BitVec 64) : bits .xor .u64 IntKind.u64.max (I64 x) = I64 (~~~ x) := by
  have h := I64_xor (BitVec.allOnes 64) x
  have e : I64 (BitVec.allOnes 64) = IntKind.u64.max := by decide
  rw [e, BitVec.allOnes_xor] at h
  exact h
theorem zz_neg_eq {n : Int} (h : n < 0) (hl : -9223372036854775808 ≤ n) : bits .xor .u64 IntKind.u64.max (IntKind.u64.wrap (IntKind.u64.wrap n * 2)) = I64 (BitVec.ofNat 64 (zz n)) := by
  have e : IntKind.u64.wrap (IntKind.u64.wrap n * 2) = I64 (BitVec.ofNat 64 (18446744073709551616 + 2 * n).toNat) := by
    rw [IntKind.wrap_u64, IntKind.wrap_u64, I64_of (by omega)]
    omega
  rw [e, I64_not]
  unfold zz
  rw [if_pos h]
  simp only [I64, BitVec.toNat_not, BitVec.toNat_ofNat]
  omega
theorem zz_pos_eq {n : Int} (h : ¬ n < 0) (hl : n ≤ 9223372036854775807) : n * 2 = I64 (BitVec.ofNat 64 (zz n)) := by
  unfold zz
  rw [if_neg h, I64_of (by omega)]
  omega
theorem ofNat_zz {n : Int} (hl : -9223372036854775808 ≤ n) (hh : n ≤ 9223372036854775807) : (BitVec.ofNat 64 (zz n)).toNat = zz n := by
  simp only [BitVec.toNat_ofNat]
  unfold zz
  split <;> omega
end Go.Proofs.YtmgbcmogdjhacaaDoor
