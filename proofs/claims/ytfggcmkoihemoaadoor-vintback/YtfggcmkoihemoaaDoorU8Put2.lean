/-
  A text behind bytes: the document's PutText: the walk.
-/
import Derived.Test.YtfggcmkoihemoaaDoorU8Put
import Derived.Test.YtfggcmkoihemoaaDoorNums2
import Derived.Lib.ConvBytes
namespace Go.Proofs.YtfggcmkoihemoaaDoor
open Go.RowKit Go.Lib

/-- '[]byte(s)' -/
theorem conv_str (W : World) (s : List UInt8) (hs : s.length ≤ 100000000000000) : ∃ u W', (convert 9 22 (.string (ByteArray.mk ⟨s⟩))).run Tryd.prog W = .ok u W' ∧ Rd W' u s ∧ W.grownBy W' none := by
  refine ⟨_, _, Go.Lib.run_convert_string_bytes (P := Tryd.prog) W 9 22 5 _ Tryd.underlying9 Tryd.underlying22 Tryd.underlying5, ?_, ?_⟩
  · have hsz : (ByteArray.mk ⟨s⟩).size = s.length := rfl
    rw [hsz]
    refine ⟨_, _, rfl, grownCap_ge W s.length 0 _, grownCap_le_maxLen W s.length 0 _ (by unfold maxLen; omega), fun j hj => ⟨W.heap.size, 0, rfl, ?_⟩, fun h => by cases h⟩
    rw [Nat.zero_add]
    exact Go.Lib.bytesWorld_cell W 5 (ByteArray.mk ⟨s⟩) j hj
  · exact ⟨rfl, rfl, rfl, by rw [Go.Lib.bytesWorld_size]; omega, fun k hk _ => Go.Lib.bytesWorld_at_old W _ _ k hk⟩
set_option maxHeartbeats 3200000 in
/-- PUTTEXT, the document's -/
theorem refPutText_any (v : Value) (l s : List UInt8) (w : World) (hv : Rd w v l) (hsz : l.length + s.length ≤ 100000000000000) :
    Calls Tryd.prog 23 #[v, .string (ByteArray.mk ⟨s⟩)] w fun e w' => ∃ v', e = .returned v' ∧ Own w' w.heap.size v' (l ++ uv s.length ++ s) ∧ w.grownBy w' none := by
  have HV : Hid (Rd w v l) := hv
  clear hv
  have hz : (ByteArray.mk ⟨s⟩).size = s.length := rfl
  obtain ⟨SL, hSL⟩ : ∃ SL, s.length = SL := ⟨_, rfl⟩
  have HSL : Hid (s.length = SL) := hSL
  have hI : (SL : Int) = I64 (BitVec.ofNat 64 SL) := by rw [I64_of (by omega)]
  have hN : (BitVec.ofNat 64 SL).toNat = SL := by simp; omega
  have H2 : Hid (∀ W, w.grownBy W none → Calls Tryd.prog 13 #[v, .int .u64 (SL : Int)] W fun e w' => ∃ v', e = .returned v' ∧ Hid (Own w' W.heap.size v' (l ++ uv SL) ∧ W.grownBy w' none)) := fun W hg => by
    rw [hI]
    refine (refPutU_any v l (BitVec.ofNat 64 SL) W (HV.out.keep hg) (by omega)).mono ?_
    rintro e w' ⟨v', he, ho, hf⟩
    rw [hN] at ho
    exact ⟨v', he, ho, hf⟩
  clear hI hN
  rw [hSL] at hz hsz ⊢
  clear hSL
  go_enter Tryd.func23, Tryd.ntmps23
  go_wp2_with fail
  refine (H2.out _ (gb_refl _ _)).mono ?_
  rintro e w1 ⟨v1, rfl, R1⟩
  obtain ⟨u2, w2, hcv, hu2, hg2⟩ := conv_str w1 s (by have := HSL.out; omega)
  have R2 : Hid (Rd w2 u2 s ∧ w1.grownBy w2 none) := ⟨hu2, hg2⟩
  clear hu2 hg2
  have HJ : Hid (Calls Tryd.prog 42 #[v1, u2] w2 fun e w' => ∃ v', e = .returned v' ∧ Own w' w2.heap.size v' (l ++ uv SL ++ s) ∧ w2.grownBy w' none) := by
    refine joined_any v1 u2 (l ++ uv SL) s w2 (R1.out.1.rd.keep R2.out.2) R2.out.1 ?_
    have hul := uv_len64 (BitVec.ofNat 64 SL)
    have e : (BitVec.ofNat 64 SL).toNat = SL := by simp; omega
    rw [e] at hul
    rw [List.length_append, HSL.out]
    omega
  go_wp2_with fail
  refine HJ.out.mono ?_
  rintro e w3 ⟨v3, rfl, ho3, hg3⟩
  have H3 : Hid (Own w3 w.heap.size v3 (l ++ uv SL ++ s) ∧ w.grownBy w3 none) := ⟨ho3.mono (by have := R1.out.2.size; have := R2.out.2.size; omega), gb_none (gb_none R1.out.2 R2.out.2) hg3⟩
  clear ho3 hg3 hcv
  go_wp2
  go_ret
  exact ⟨_, rfl, H3.out⟩
end Go.Proofs.YtfggcmkoihemoaaDoor
