/-
  What the document's On and Sum come to: the walks.
-/
import Derived.Test.YtfggcmkoihemoaaDoorSums
namespace Go.Proofs.YtfggcmkoihemoaaDoor
open Go.RowKit

theorem and1_t (x : BitVec 32) (h : x &&& 1#32 = 1#32) : bits .and .u32 (I32 x) 1 = 1 := by
  have e := I32_and x 1#32
  have e1 : I32 1#32 = 1 := by decide
  rw [h, e1] at e
  exact e
theorem and1_f (x : BitVec 32) (h : ¬ x &&& 1#32 = 1#32) : (bits .and .u32 (I32 x) 1 == 1) = false := by
  have e := I32_and x 1#32
  have e1 : I32 1#32 = 1 := by decide
  rw [e1] at e
  rw [e]
  apply beq_eq_false_iff_ne.2
  intro hh
  rw [← e1] at hh
  exact h (I32_inj hh)
theorem I32_poly (x : BitVec 32) : bits .xor .u32 (I32 x) 2197175160 = I32 (x ^^^ 2197175160#32) := by
  have e := I32_xor x 2197175160#32
  have e1 : I32 2197175160#32 = 2197175160 := by decide
  rw [e1] at e
  exact e

set_option maxHeartbeats 1600000 in
theorem refOn_any (s : BitVec 32) (v : Value) (l : List UInt8) (w : World) (hv : Rd w v l) :
    Calls Tryd.prog 29 #[.int .u32 (I32 s), v] w fun e w' => e = .returned (.int .u32 (I32 (crcOn s l))) ∧ w' = w := by
  obtain ⟨a, c, rfl, hn, hm, hb, -⟩ := hv
  unfold maxLen at hm
  unfold RdA at hb
  have Hfin : Hid (∀ x : BitVec 32, x = l.foldl crcB (~~~ s) → I32 (~~~ x) = I32 (crcOn s l)) := fun x hx => by rw [hx]; rfl
  have hlt' : l.length ≤ 9223372036854775807 := by omega
  clear hm hn
  generalize hN : l.length = n at *
  have HN : Hid (l.length = n) := hN
  clear hN
  have h0 := I32_not s
  go_enter Tryd.func29, Tryd.ntmps29
  go_wp2
  clear h0
  go_loop [5, 6] (fun r i => ∃ k : Nat, k ≤ n ∧ i = .int .i64 k ∧ r = .int .u32 (I32 ((l.take k).foldl crcB (~~~ s)))) (fun _ i => n - (intOf i).toNat)
  case atStart => exact ⟨0, by omega, rfl, rfl⟩
  case round =>
    obtain ⟨k, hk, rfl, rfl⟩ := hrel
    by_cases hlt : k < n
    · obtain ⟨b, o, rfl, hc⟩ := hb k hlt
      have hst : Hid ((l.take (k + 1)).foldl crcB (~~~ s) = crcB ((l.take k).foldl crcB (~~~ s)) (l.getD k 0)) := foldl_take (by rw [HN.out]; exact hlt) _ _
      generalize (l.take k).foldl crcB (~~~ s) = x at *
      rw [I32_byte] at hc
      have hst' : Hid ((l.take (k + 1)).foldl crcB (~~~ s) = bitN 8 (x ^^^ ofB (l.getD k 0))) := by
        have := hst.out
        rw [← crcB_eq] at this
        exact this
      clear hst
      change w.cell? _ = some (.int .u8 (I32 (ofB (l.getD k 0)))) at hc
      generalize ofB (l.getD k 0) = y at *
      have e0 := I32_mod y
      have e1 := I32_xor x y
      generalize x ^^^ y = z at *
      clear hb Hfin
      go_wp2
      clear e0 e1
      go_loop [5, 7] (fun r i => ∃ j : Nat, j ≤ 8 ∧ i = .int .i64 j ∧ r = .int .u32 (I32 (bitN j z))) (fun _ i => 8 - (intOf i).toNat)
      case atStart => exact ⟨0, by omega, rfl, rfl⟩
      case round =>
        obtain ⟨j, hj, rfl, rfl⟩ := hrel
        by_cases hj8 : j < 8
        · have hbit : Hid (bitN (j + 1) z = bit1 (bitN j z)) := rfl
          generalize bitN j z = x1 at *
          have g1 := I32_shr1 x1
          have g2 := I32_poly (x1 >>> 1)
          by_cases h1 : x1 &&& 1#32 = 1#32
          · have t1 := and1_t x1 h1
            have hb1 : Hid (bit1 x1 = (x1 >>> 1) ^^^ 2197175160#32) := if_pos h1
            clear h1
            generalize (x1 >>> 1) ^^^ 2197175160#32 = x3 at *
            generalize x1 >>> 1 = x2 at *
            go_wp2
            go_round
            case rel => exact ⟨j + 1, by omega, by go_num, by rw [hbit.out, hb1.out]⟩
            case measure => simp [intOf]; omega
          · have t1 := and1_f x1 h1
            have hb1 : Hid (bit1 x1 = (x1 >>> 1)) := if_neg h1
            clear h1 g2
            generalize x1 >>> 1 = x2 at *
            go_wp2
            go_round
            case rel => exact ⟨j + 1, by omega, by go_num, by rw [hbit.out, hb1.out]⟩
            case measure => simp [intOf]; omega
        · have hj9 : j = 8 := by omega
          subst hj9
          generalize bitN 8 z = x1 at *
          go_wp2
          go_round
          case rel => exact ⟨k + 1, by omega, by go_num, by rw [hst'.out]⟩
          case measure => simp [intOf]; omega
    · have hx := Hfin.out ((l.take k).foldl crcB (~~~ s)) (by rw [List.take_of_length_le (by rw [HN.out]; omega)])
      have Hx : Hid (I32 (~~~ (l.take k).foldl crcB (~~~ s)) = I32 (crcOn s l)) := hx
      clear hx
      generalize (l.take k).foldl crcB (~~~ s) = x at *
      have hf := I32_not x
      clear hb Hfin
      go_wp2
      go_ret
      exact ⟨ret_int Hx.out, rfl⟩

theorem refSum_any (v : Value) (l : List UInt8) (w : World) (hv : Rd w v l) :
    Calls Tryd.prog 27 #[v] w fun e w' => e = .returned (.int .u32 (I32 (crc l))) ∧ w' = w := by
  have h0 : (0 : Int) = I32 0#32 := by decide
  have h := refOn_any 0#32 v l w hv
  rw [← h0] at h
  have H : Hid (Calls Tryd.prog 29 #[.int .u32 0, v] w fun e w' => e = .returned (.int .u32 (I32 (crcOn 0#32 l))) ∧ w' = w) := h
  clear h h0 hv
  go_enter Tryd.func27, Tryd.ntmps27
  go_wp2_with (go_at_call 29; refine H.out.mono ?_; rintro e w' ⟨rfl, rfl⟩)
  go_ret
  exact ⟨rfl, rfl⟩
end Go.Proofs.YtfggcmkoihemoaaDoor
