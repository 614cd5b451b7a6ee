/-
  The hash of labels, by the document: the walk.
-/
import Derived.Test.YtknlnllcpdiglaaDoorLbHs
namespace Go.Proofs.YtknlnllcpdiglaaDoor
open Go.RowKit

theorem mk_append (a b : List UInt8) : ByteArray.mk ⟨a⟩ ++ ByteArray.mk ⟨b⟩ = ByteArray.mk ⟨a ++ b⟩ := by
  apply ByteArray.ext
  apply Array.toList_inj.1
  simp
theorem fnv_app (h : BitVec 64) (a b : List UInt8) : fnvS (fnvS h a) b = fnvS h (a ++ b) := by simp [fnvS, List.foldl_append]
/-- a round of the hash, in two steps -/
theorem fnv_xor (x : BitVec 64) (b : UInt8) : bits .xor .u64 (I64 x) (IntKind.u64.wrap (b.toNat : Int)) = I64 (x ^^^ BitVec.ofNat 64 b.toNat) := by rw [wrapu_byte, xor_byte]
theorem fnv_mul (x : BitVec 64) (b : UInt8) : IntKind.u64.wrap (I64 (x ^^^ BitVec.ofNat 64 b.toNat) * 1099511628211) = I64 (fnv1 x b) := by rw [mul_prime]; rfl

set_option maxRecDepth 8000 in
set_option maxHeartbeats 3200000 in
theorem refHash_any (w : World) (v : Value) (ls : List LbT) (hv : RdL w v ls) (hl : LbIn ls) :
    Calls Tryd.prog 32 #[v] w fun e w' => e = .returned (.int .u64 (I64 (hashB fnv0 ls))) ∧ w.grownBy w' none := by
  have HV : Hid (RdL w v ls ∧ LbIn ls) := ⟨hv, hl⟩
  obtain ⟨a, c, rfl, hc1, hc2, hc3, hc4⟩ := hv
  unfold maxLen at hc2
  clear hc3 hc4 hl
  have HR : Hid (hashB fnv0 ls = hashB fnv0 (ls.take ls.length)) := (by simp : hashB fnv0 ls = hashB fnv0 (ls.take ls.length))
  generalize hashB fnv0 ls = R at *
  go_enter Tryd.func32, Tryd.ntmps32
  go_wp2
  go_loopw [3, 10] (fun uh i wr => ∃ z : Nat, z ≤ ls.length ∧ i = .int .i64 z ∧ ∃ x, uh = .int .u64 (I64 x) ∧ Hid (w.grownBy wr none ∧ x = hashB fnv0 (ls.take z))) (fun _ i _ => ls.length - (intOf i).toNat)
  case atStart => exact ⟨0, by omega, rfl, fnv0, by rw [← I64_fnv0], gb_refl _ _, rfl⟩
  case round =>
    obtain ⟨z, hzN, rfl, x, rfl, hr⟩ := hrel
    by_cases hzl : z < ls.length
    · obtain ⟨a', c', he, -, -, h3, -⟩ := HV.out.1.keep hr.out.1
      simp only [Value.slice.injEq] at he
      obtain ⟨rfl, -, rfl⟩ := he
      obtain ⟨b, o, rfl, c0, c1⟩ := h3 z hzl
      have hzi : (z : Int) < (ls.length : Int) := by omega
      have hbl : ¬ b = wr.heap.size := by have := block_lt c0; omega
      have hbl2 : ¬ wr.heap.size = b := by omega
      have HS : Hid (fnvS x ((ls.getD z ([], [])).1 ++ [255] ++ (ls.getD z ([], [])).2 ++ [255]) = hashB fnv0 (ls.take (z + 1))) := by
        show _ = _
        rw [hash_step fnv0 ls z hzl, ← hr.out.2, fnv_app]
        simp
      have HG : Hid (w.grownBy wr none) := hr.out.1
      have hn1 := (HV.out.2.2 z).1
      have hn2 := (HV.out.2.2 z).2
      clear h3 hr
      generalize (ls.getD z ([], [])).1 = tn at *
      generalize (ls.getD z ([], [])).2 = tv at *
      have p1 : ByteArray.mk ⟨tn⟩ ++ ByteArray.mk #[255] = ByteArray.mk ⟨tn ++ [255]⟩ := mk_append tn [255]
      have p2 : ByteArray.mk ⟨tn ++ [255]⟩ ++ ByteArray.mk ⟨tv⟩ = ByteArray.mk ⟨tn ++ [255] ++ tv⟩ := mk_append _ _
      have p3 : ByteArray.mk ⟨tn ++ [255] ++ tv⟩ ++ ByteArray.mk #[255] = ByteArray.mk ⟨tn ++ [255] ++ tv ++ [255]⟩ := mk_append _ [255]
      have l1 : (ByteArray.mk ⟨tn⟩).size = tn.length := rfl
      have l2 : (ByteArray.mk ⟨tn ++ [255]⟩).size = tn.length + 1 := by show (tn ++ [255]).length = _; simp
      have l3 : (ByteArray.mk ⟨tv⟩).size = tv.length := rfl
      have l4 : (ByteArray.mk ⟨tn ++ [255] ++ tv⟩).size = tn.length + 1 + tv.length := by show (tn ++ [255] ++ tv).length = _; simp; omega
      have l5 : (ByteArray.mk ⟨tn ++ [255] ++ tv ++ [255]⟩).size = tn.length + 1 + tv.length + 1 := by show (tn ++ [255] ++ tv ++ [255]).length = _; simp; omega
      have l6 : (ByteArray.mk #[255]).size = 1 := rfl
      have HT : Hid (∃ T : List UInt8, T = tn ++ [255] ++ tv ++ [255] ∧ T.length = tn.length + 1 + tv.length + 1) := ⟨_, rfl, by simp; omega⟩
      obtain ⟨T, hT, hTl⟩ := HT.out
      rw [← hT] at p3 l5 HS
      have HTL : Hid (T.length = tn.length + 1 + tv.length + 1) := hTl
      clear hT HT hTl
      generalize ByteArray.mk ⟨tn ++ [255] ++ tv⟩ = s2 at *
      generalize ByteArray.mk ⟨tn ++ [255]⟩ = s1 at *
      generalize ByteArray.mk ⟨tn⟩ = sn at *
      generalize ByteArray.mk ⟨tv⟩ = sv at *
      go_wp2
      have HB : Hid (w.grownBy (wr.alloc (.cells #[.string sn, .string sv] 56)) none) := gb_none HG.out (World.grownBy_alloc _ _ none)
      generalize wr.alloc (.cells #[.string sn, .string sv] 56) = W1 at *
      clear c0 c1 hbl hbl2 HG p1 p2 p3
      go_loopw [3, 23] (fun uh i wr => ∃ k : Nat, k ≤ T.length ∧ i = .int .i64 k ∧ ∃ y, uh = .int .u64 (I64 y) ∧ Hid (wr = W1 ∧ y = fnvS x (T.take k))) (fun _ i _ => T.length - (intOf i).toNat)
      case atStart => exact ⟨0, by omega, rfl, x, rfl, rfl, rfl⟩
      case round =>
        obtain ⟨k, hkN, rfl, y, rfl, hr⟩ := hrel
        obtain ⟨hw, hy⟩ := hr.out
        subst hw
        have HY : Hid (y = fnvS x (T.take k)) := hy
        clear hr hy
        have hTl := HTL.out
        by_cases hkl : k < T.length
        · have hki : (k : Int) < (tn.length : Int) + 1 + (tv.length : Int) + 1 := by omega
          have hix : ∀ hh, (ByteArray.mk ⟨T⟩)[k]'hh = T.getD k 0 := fun hh => by simp [List.getD, hkl]; rfl
          have HF2 : Hid (IntKind.u64.wrap (bits .xor .u64 (I64 y) (IntKind.u64.wrap ((T.getD k 0).toNat : Int)) * 1099511628211) = I64 (fnv1 y (T.getD k 0))) := fnv_round y _
          have HS2 : Hid (fnv1 y (T.getD k 0) = fnvS x (T.take (k + 1))) := by
            show _ = _
            rw [fnv_step x T k hkl, ← HY.out]
          clear hTl
          generalize T.getD k 0 = bz at *
          generalize fnv1 y bz = y2 at *
          go_wp2
          go_roundw
          case rel => exact ⟨k + 1, by omega, by simp, y2, by rw [← HF2.out], by first | rfl | trivial, HS2.out⟩
          case measure => simp [intOf]; omega
        · have hki : ¬ (k : Int) < (tn.length : Int) + 1 + (tv.length : Int) + 1 := by omega
          have HS2 : Hid (y = hashB fnv0 (ls.take (z + 1))) := by
            show _ = _
            rw [← HS.out, HY.out, List.take_of_length_le (by omega)]
          clear hTl
          go_wp2
          go_roundw
          case rel => exact ⟨z + 1, by omega, by simp, y, rfl, HB.out, HS2.out⟩
          case measure => simp [intOf]; omega
    · have hzi : ¬ (z : Int) < (ls.length : Int) := by omega
      have HS : Hid (R = x) := by
        show _ = _
        rw [HR.out, hr.out.2, show z = ls.length by omega]
      have HG : Hid (w.grownBy wr none) := hr.out.1
      clear hr
      go_wp2
      go_ret
      exact ⟨by rw [HS.out]; rfl, HG.out⟩
end Go.Proofs.YtknlnllcpdiglaaDoor
