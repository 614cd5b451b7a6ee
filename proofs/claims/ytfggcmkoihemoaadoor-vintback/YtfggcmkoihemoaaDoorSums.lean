/-
  What vint.On, vint.Sum and the document's On, Sum come to: the walks.
-/
import Derived.Test.YtfggcmkoihemoaaDoorProg
import Derived.Test.YtfggcmkoihemoaaDoorCrc
namespace Go.Proofs.YtfggcmkoihemoaaDoor
open Go.RowKit

/-- the table of half bytes lies in its variable -/
def TabIn (w : World) : Prop := ∀ j, j < 16 → w.cell? ⟨0, j, none⟩ = some (.int .u32 (I32 (tab.getD j 0#32)))
theorem TabIn.keep {w w' : World} {g : Option Nat} (h : TabIn w) (hg : w.grownBy w' g) (hne : g ≠ some 0) : TabIn w' := fun j hj => by
  rw [← h j hj]
  exact World.cell?_of_block (hg.block _ (block_lt (h j hj)) (fun e => hne e.symm))

theorem nib_def (z : BitVec 32) : tab.getD (z.toNat % 16) 0#32 ^^^ (z >>> 4) = nib z := rfl

set_option maxHeartbeats 800000 in
theorem on_any (s : BitVec 32) (v : Value) (l : List UInt8) (w : World) (hv : Rd w v l) (hT : TabIn w) :
    Calls Tryd.prog 28 #[.int .u32 (I32 s), v] w fun e w' => e = .returned (.int .u32 (I32 (crcOn s l))) ∧ w' = w := by
  obtain ⟨a, c, rfl, hn, hm, hb, -⟩ := hv
  unfold maxLen at hm
  unfold RdA at hb
  have hfin : ∀ x : BitVec 32, x = l.foldl crcB (~~~ s) → I32 (~~~ x) = I32 (crcOn s l) := fun x hx => by rw [hx]; rfl
  have Hfin : Hid (∀ x : BitVec 32, x = l.foldl crcB (~~~ s) → I32 (~~~ x) = I32 (crcOn s l)) := hfin
  clear hfin
  have hlt' : l.length ≤ 9223372036854775807 := by omega
  clear hm hn
  generalize hN : l.length = n at *
  have HN : Hid (l.length = n) := hN
  clear hN
  have h0 := I32_not s
  go_enter Tryd.func28, Tryd.ntmps28
  go_wp2
  clear h0
  go_loop [5, 12] (fun r i => ∃ k : Nat, k ≤ n ∧ i = .int .i64 k ∧ r = .int .u32 (I32 ((l.take k).foldl crcB (~~~ s)))) (fun _ i => n - (intOf i).toNat)
  case atStart => exact ⟨0, by omega, rfl, rfl⟩
  case round =>
    obtain ⟨k, hk, rfl, rfl⟩ := hrel
    by_cases hlt : k < n
    · obtain ⟨b, o, rfl, hc⟩ := hb k hlt
      have hst : Hid ((l.take (k + 1)).foldl crcB (~~~ s) = crcB ((l.take k).foldl crcB (~~~ s)) (l.getD k 0)) := foldl_take (by rw [HN.out]; exact hlt) _ _
      generalize (l.take k).foldl crcB (~~~ s) = x at *
      rw [I32_byte] at hc
      have hst' : Hid ((l.take (k + 1)).foldl crcB (~~~ s) = nib (nib (x ^^^ ofB (l.getD k 0)))) := hst.out
      clear hst
      change w.cell? _ = some (.int .u8 (I32 (ofB (l.getD k 0)))) at hc
      generalize ofB (l.getD k 0) = y at *
      have e0 := I32_mod y
      have e1 := I32_xor x y
      generalize x ^^^ y = z at *
      have e2 := I32_and15 z
      have t2 := hT (z.toNat % 16) (by omega)
      have e3 := I32_shr4 z
      have e4 := I32_xor (tab.getD (z.toNat % 16) 0#32) (z >>> 4)
      rw [nib_def] at e4
      have i2 : z.toNat % 16 < 16 := by omega
      generalize tab.getD (z.toNat % 16) 0#32 = q at *
      generalize nib z = z1 at *
      generalize z >>> 4 = zs at *
      generalize z.toNat % 16 = iz at *
      have f2 := I32_and15 z1
      have s2 := hT (z1.toNat % 16) (by omega)
      have f3 := I32_shr4 z1
      have f4 := I32_xor (tab.getD (z1.toNat % 16) 0#32) (z1 >>> 4)
      rw [nib_def] at f4
      have j2 : z1.toNat % 16 < 16 := by omega
      generalize tab.getD (z1.toNat % 16) 0#32 = q1 at *
      generalize z1 >>> 4 = zs1 at *
      generalize z1.toNat % 16 = iz1 at *
      clear hT hb Hfin
      go_wp2
      go_round
      case rel => exact ⟨k + 1, by omega, by go_num, by rw [hst'.out]⟩
      case measure => simp [intOf]; omega
    · have hkn : k = n := by omega
      have hx := Hfin.out ((l.take k).foldl crcB (~~~ s)) (by rw [List.take_of_length_le (by rw [HN.out]; omega)])
      have Hx : Hid (I32 (~~~ (l.take k).foldl crcB (~~~ s)) = I32 (crcOn s l)) := hx
      clear hx hkn
      generalize (l.take k).foldl crcB (~~~ s) = x at *
      have hf := I32_not x
      clear hb hT Hfin
      go_wp2
      go_ret
      exact ⟨ret_int Hx.out, rfl⟩

theorem sum_any (v : Value) (l : List UInt8) (w : World) (hv : Rd w v l) (hT : TabIn w) :
    Calls Tryd.prog 26 #[v] w fun e w' => e = .returned (.int .u32 (I32 (crc l))) ∧ w' = w := by
  have h0 : (0 : Int) = I32 0#32 := by decide
  have h := on_any 0#32 v l w hv hT
  rw [← h0] at h
  have H : Hid (Calls Tryd.prog 28 #[.int .u32 0, v] w fun e w' => e = .returned (.int .u32 (I32 (crcOn 0#32 l))) ∧ w' = w) := h
  clear h h0 hv hT
  go_enter Tryd.func26, Tryd.ntmps26
  go_wp2_with (go_at_call 28; refine H.out.mono ?_; rintro e w' ⟨rfl, rfl⟩)
  go_ret
  exact ⟨rfl, rfl⟩
end Go.Proofs.YtfggcmkoihemoaaDoor
