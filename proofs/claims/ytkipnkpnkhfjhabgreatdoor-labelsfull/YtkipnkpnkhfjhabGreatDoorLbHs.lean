/-
  The hash of labels, by the project and by the document: the walks.
-/
import Derived.Test.YtkipnkpnkhfjhabGreatDoorLbSame
import Derived.Deep.RegionHeld3
import Derived.Laws.BitsAllLaws
namespace Go.Proofs.YtkipnkpnkhfjhabGreatDoor
open Go.RowKit

/-! ### 64 bits -/
def I64 (x : BitVec 64) : Int := x.toNat
theorem I64_lt (x : BitVec 64) : I64 x < 18446744073709551616 := by have := x.isLt; simp only [I64]; omega
theorem I64_nonneg (x : BitVec 64) : 0 ≤ I64 x := by simp only [I64]; omega
theorem I64_xor (x y : BitVec 64) : bits .xor .u64 (I64 x) (I64 y) = I64 (x ^^^ y) := by
  have hx := x.isLt
  have hy := y.isLt
  simp only [I64]
  rw [u64_xor_nat _ _ hx hy, BitVec.toNat_xor]
/-- one byte more -/
def fnv1 (h : BitVec 64) (b : UInt8) : BitVec 64 := (h ^^^ BitVec.ofNat 64 b.toNat) * 1099511628211#64
def fnvS (h : BitVec 64) (s : List UInt8) : BitVec 64 := s.foldl fnv1 h
/-- a label set's -/
def hashB (h : BitVec 64) (ls : List LbT) : BitVec 64 := ls.foldl (fun h x => fnvS (fnvS h (x.1 ++ [255])) (x.2 ++ [255])) h
theorem byte64 (b : UInt8) : (b.toNat : Int) = I64 (BitVec.ofNat 64 b.toNat) := by
  have := b.toNat_lt
  simp only [I64, BitVec.toNat_ofNat]
  omega
theorem xor_byte (h : BitVec 64) (b : UInt8) : bits .xor .u64 (I64 h) (b.toNat : Int) = I64 (h ^^^ BitVec.ofNat 64 b.toNat) := by rw [byte64 b, I64_xor]
theorem xor_255 (h : BitVec 64) : bits .xor .u64 (I64 h) 255 = I64 (h ^^^ 255#64) := by
  have := xor_byte h 255
  exact this
theorem wrapu_nat (n : Nat) : IntKind.u64.wrap (n : Int) = ((n % 18446744073709551616 : Nat) : Int) := by
  rw [IntKind.wrap_u64]
  omega
theorem mul_prime (x : BitVec 64) : IntKind.u64.wrap (I64 x * 1099511628211) = I64 (x * 1099511628211#64) := by
  have h := wrapu_nat (x.toNat * 1099511628211)
  have e : (x * 1099511628211#64).toNat = x.toNat * 1099511628211 % 18446744073709551616 := BitVec.toNat_mul ..
  unfold I64
  rw [e, ← h, Int.natCast_mul]
  rfl
theorem wrapu_byte (b : UInt8) : IntKind.u64.wrap (b.toNat : Int) = (b.toNat : Int) := by
  rw [wrapu_nat, Nat.mod_eq_of_lt (by have := b.toNat_lt; omega)]
/-- a round of the hash, as the walk leaves it -/
theorem fnv_round (x : BitVec 64) (b : UInt8) : IntKind.u64.wrap (bits .xor .u64 (I64 x) (IntKind.u64.wrap (b.toNat : Int)) * 1099511628211) = I64 (fnv1 x b) := by
  rw [wrapu_byte, xor_byte, mul_prime]
  rfl
theorem fnv_last (x : BitVec 64) : IntKind.u64.wrap (bits .xor .u64 (I64 x) 255 * 1099511628211) = I64 (fnv1 x 255) := by
  have := fnv_round x 255
  rw [wrapu_byte] at this
  exact this
theorem fnv_step (h : BitVec 64) (s : List UInt8) (z : Nat) (hz : z < s.length) : fnvS h (s.take (z + 1)) = fnv1 (fnvS h (s.take z)) (s.getD z 0) := by
  have e : s.getD z 0 = s[z] := by simp [List.getD, hz]
  rw [List.take_succ_eq_append_getElem hz, fnvS, List.foldl_append, e]
  rfl

set_option maxHeartbeats 3200000 in
theorem hashOn_any (w : World) (h : BitVec 64) (s : List UInt8) (hs : s.length ≤ 1000000000000000000) :
    Calls Tryz.prog 44 #[.int .u64 (I64 h), .string (ByteArray.mk ⟨s⟩)] w fun e w' => e = .returned (.int .u64 (I64 (fnvS h (s ++ [255])))) ∧ w' = w := by
  have HR : Hid (fnvS h (s ++ [255]) = (fnvS h s ^^^ 255#64) * 1099511628211#64) := by
    show fnvS h (s ++ [255]) = _
    rw [fnvS, List.foldl_append]
    rfl
  generalize fnvS h (s ++ [255]) = R at *
  have hz : (ByteArray.mk ⟨s⟩).size = s.length := rfl
  go_enter Tryz.func44, Tryz.ntmps44
  go_wp2
  go_loopw [0, 8] (fun uh i wr => ∃ z : Nat, z ≤ s.length ∧ i = .int .i64 z ∧ ∃ x, uh = .int .u64 (I64 x) ∧ Hid (wr = w ∧ x = fnvS h (s.take z))) (fun _ i _ => s.length - (intOf i).toNat)
  case atStart => exact ⟨0, by omega, rfl, h, rfl, rfl, rfl⟩
  case round =>
    obtain ⟨z, hzN, rfl, x, rfl, hr⟩ := hrel
    obtain ⟨hw, hx⟩ := hr.out
    subst hw
    have HX : Hid (x = fnvS h (s.take z)) := hx
    clear hr hx
    by_cases hzl : z < s.length
    · have hzi : (z : Int) < (s.length : Int) := by omega
      have hix : ∀ hh, (ByteArray.mk ⟨s⟩)[z]'hh = s.getD z 0 := fun hh => by simp [List.getD, hzl]; rfl
      have HF := fnv_round x (s.getD z 0)
      have HF2 : Hid (IntKind.u64.wrap (bits .xor .u64 (I64 x) (IntKind.u64.wrap ((s.getD z 0).toNat : Int)) * 1099511628211) = I64 (fnv1 x (s.getD z 0))) := HF
      have HS : Hid (fnv1 x (s.getD z 0) = fnvS h (s.take (z + 1))) := by
        show _ = _
        rw [fnv_step h s z hzl, ← HX.out]
      clear HF
      generalize s.getD z 0 = bz at *
      generalize fnv1 x bz = y at *
      go_wp2
      go_roundw
      case rel => exact ⟨z + 1, by omega, by simp, y, by rw [← HF2.out], by first | rfl | trivial, HS.out⟩
      case measure => simp [intOf]; omega
    · have hzi : ¬ (z : Int) < (s.length : Int) := by omega
      have HF2 : Hid (IntKind.u64.wrap (bits .xor .u64 (I64 x) 255 * 1099511628211) = I64 R) := by
        show _ = _
        rw [fnv_last, HR.out, HX.out, List.take_of_length_le (by omega)]
        rfl
      go_wp2
      go_ret
      exact ⟨by rw [← HF2.out]; rfl, rfl⟩

theorem hash_step (h : BitVec 64) (ls : List LbT) (z : Nat) (hz : z < ls.length) : hashB h (ls.take (z + 1)) = fnvS (fnvS (hashB h (ls.take z)) ((ls.getD z ([], [])).1 ++ [255])) ((ls.getD z ([], [])).2 ++ [255]) := by
  have e : ls.getD z ([], []) = ls[z] := by simp [List.getD, hz]
  rw [List.take_succ_eq_append_getElem hz, hashB, List.foldl_append, e]
  rfl
def fnv0 : BitVec 64 := 14695981039346656037#64
theorem I64_fnv0 : (14695981039346656037 : Int) = I64 fnv0 := by decide

set_option maxRecDepth 8000 in
set_option maxHeartbeats 3200000 in
theorem hash_any (w : World) (v : Value) (ls : List LbT) (hv : RdL w v ls) (hl : LbIn ls) :
    Calls Tryz.prog 28 #[v] w fun e w' => e = .returned (.int .u64 (I64 (hashB fnv0 ls))) ∧ w.grownBy w' none := by
  have HV : Hid (RdL w v ls ∧ LbIn ls) := ⟨hv, hl⟩
  obtain ⟨a, c, rfl, hc1, hc2, hc3, hc4⟩ := hv
  unfold maxLen at hc2
  clear hc3 hc4 hl
  have HR : Hid (hashB fnv0 ls = hashB fnv0 (ls.take ls.length)) := (by simp : hashB fnv0 ls = hashB fnv0 (ls.take ls.length))
  generalize hashB fnv0 ls = R at *
  go_enter Tryz.func28, Tryz.ntmps28
  go_wp2
  go_loopw [3, 8] (fun uh i wr => ∃ z : Nat, z ≤ ls.length ∧ i = .int .i64 z ∧ ∃ x, uh = .int .u64 (I64 x) ∧ Hid (w.grownBy wr none ∧ x = hashB fnv0 (ls.take z))) (fun _ i _ => ls.length - (intOf i).toNat)
  case atStart => exact ⟨0, by omega, rfl, fnv0, by rw [← I64_fnv0], gb_refl _ _, rfl⟩
  case round =>
    obtain ⟨z, hzN, rfl, x, rfl, hr⟩ := hrel
    by_cases hzl : z < ls.length
    · obtain ⟨a', c', he, -, -, h3, -⟩ := HV.out.1.keep hr.out.1
      simp only [Value.slice.injEq] at he
      obtain ⟨rfl, -, rfl⟩ := he
      obtain ⟨b, o, rfl, c0, c1⟩ := h3 z hzl
      have hzi : (z : Int) < (ls.length : Int) := by omega
      have hbl : ¬ b = wr.heap.size := by have := block_lt c0; omega
      have hbl2 : ¬ wr.heap.size = b := by omega
      have HA : Hid (∀ W, Calls Tryz.prog 44 #[.int .u64 (I64 x), .string (ByteArray.mk ⟨(ls.getD z ([], [])).1⟩)] W fun e w' => e = .returned (.int .u64 (I64 (fnvS x ((ls.getD z ([], [])).1 ++ [255])))) ∧ w' = W) := fun W => hashOn_any W x _ (HV.out.2.2 z).1
      have HB : Hid (∀ W, Calls Tryz.prog 44 #[.int .u64 (I64 (fnvS x ((ls.getD z ([], [])).1 ++ [255]))), .string (ByteArray.mk ⟨(ls.getD z ([], [])).2⟩)] W fun e w' => e = .returned (.int .u64 (I64 (fnvS (fnvS x ((ls.getD z ([], [])).1 ++ [255])) ((ls.getD z ([], [])).2 ++ [255])))) ∧ w' = W) := fun W => hashOn_any W _ _ (HV.out.2.2 z).2
      have HS : Hid (fnvS (fnvS x ((ls.getD z ([], [])).1 ++ [255])) ((ls.getD z ([], [])).2 ++ [255]) = hashB fnv0 (ls.take (z + 1))) := by
        show _ = _
        rw [hash_step fnv0 ls z hzl, ← hr.out.2]
      have HG : Hid (w.grownBy wr none) := hr.out.1
      clear h3 hr
      generalize fnvS (fnvS x ((ls.getD z ([], [])).1 ++ [255])) ((ls.getD z ([], [])).2 ++ [255]) = y2 at *
      generalize fnvS x ((ls.getD z ([], [])).1 ++ [255]) = y1 at *
      generalize ByteArray.mk ⟨(ls.getD z ([], [])).1⟩ = sn at *
      generalize ByteArray.mk ⟨(ls.getD z ([], [])).2⟩ = sv at *
      generalize hi1 : I64 x = ix at *
      generalize hi2 : I64 y1 = iy at *
      clear hi1 hi2
      go_wp2_with fail
      have hb0 := Go.heap_alloc_new wr (.cells #[.string sn, .string sv] 70)
      have HG1 : Hid (w.grownBy (wr.alloc (.cells #[.string sn, .string sv] 70)) none) := gb_none HG.out (World.grownBy_alloc _ _ none)
      have q0 : (wr.alloc (.cells #[.string sn, .string sv] 70)).cell? ⟨wr.heap.size, 0, none⟩ = some (.string sn) := by rw [World.cell?, hb0]; rfl
      have q1 : (wr.alloc (.cells #[.string sn, .string sv] 70)).cell? ⟨wr.heap.size, 1, none⟩ = some (.string sv) := by rw [World.cell?, hb0]; rfl
      clear hb0 c0 c1 hbl hbl2 HG
      generalize wr.alloc (.cells #[.string sn, .string sv] 70) = W1 at *
      generalize wr.heap.size = b0 at *
      go_region_held3 (fun w' => w'.cell? ⟨b0, 0, none⟩ = some (.string sn) ∧ w'.cell? ⟨b0, 1, none⟩ = some (.string sv)) (go_keep)
        (first
          | (go_at_call_of 44 sn; with_reducible refine (HA.out _).mono ?_; rintro e w' ⟨rfl, rfl⟩)
          | (go_at_call_of 44 sv; with_reducible refine (HB.out _).mono ?_; rintro e w' ⟨rfl, rfl⟩))
      clear HA HB
      go_wp2
      go_roundw
      case rel => exact ⟨z + 1, by omega, by simp, y2, rfl, gb_none HG1.out (gb_drew _ none), HS.out⟩
      case measure => simp [intOf]; omega
    · have hzi : ¬ (z : Int) < (ls.length : Int) := by omega
      have HS : Hid (R = x) := by
        show _ = _
        rw [HR.out, hr.out.2, show z = ls.length by omega]
      have HG : Hid (w.grownBy wr none) := hr.out.1
      clear hr
      go_wp2
      go_ret
      exact ⟨by rw [HS.out]; rfl, HG.out⟩
end Go.Proofs.YtkipnkpnkhfjhabGreatDoor
