/-
  A value of a text that is read: what (*text).value comes to where no sign is escaped: the walk.
-/
import Derived.Test.YtkipnkpnkhfjhabGreatDoorMgD
import Derived.Test.YtkipnkpnkhfjhabGreatDoorLbBld
namespace Go.Proofs.YtkipnkpnkhfjhabGreatDoor
open Go.RowKit

/-- what stays below stays -/
theorem gb_lower {w wr w1 : World} {g : Nat} (h : w.grownBy wr (some g)) (hb : Below w.heap.size wr w1) : w.grownBy w1 (some g) :=
  ⟨hb.os.trans h.os, hb.tape.trans h.tape, hb.output.trans h.output, Nat.le_trans h.size hb.size, fun k hk hne => (hb.block k hk).trans (h.block k hk hne)⟩
/-- the place that is told in memory -/
def atW (w : World) (g : Nat) : Nat := match w.cell? ⟨g, 1, none⟩ with | some (.int _ z) => z.toNat | _ => 0
theorem Tx.at {w : World} {g : Nat} {s : List UInt8} {k : Nat} (h : Tx w g s k) : atW w g = k := by
  unfold atW
  rw [h.cells.2.1]
  simp
theorem Bld.kept {w w' : World} {B b g : Nat} {l : List UInt8} (h : Bld w B b l) (hg : w.grownBy w' (some g)) (hlt : g < B) : Bld w' B b l := by
  have one : ∀ p, Lib.BuilderAt 104 5 B b p (Lib.byteCells l) w → Lib.BuilderAt 104 5 B b p (Lib.byteCells l) w' := fun p h => by
    obtain ⟨h1, v, h2, h3, h4⟩ := h
    refine ⟨h1, v, (hg.block b (Array.getElem?_eq_some_iff.1 h2).1 (by simp; omega)).trans h2, World.ownsRow.kept h3 hg ?_, h4⟩
    cases hv : v.ownBlock with
    | none => exact .inl rfl
    | some j => right; have := World.ownsRow.lt h3 j hv; simp; omega
  rcases h with h | h
  · exact .inl (one _ h)
  · exact .inr (one _ h)

set_option maxRecDepth 8000 in
set_option maxHeartbeats 3200000 in
/-- n plain signs, and the sign that closes -/
theorem value_plain (w : World) (g : Nat) (s : List UInt8) (k n : Nat) (h : Tx w g s k) (hk : k + n < s.length) (hs : s.length ≤ 1000000) (hp : ∀ j, j < n → (s.getD (k + j) 0).toNat ≠ 34 ∧ (s.getD (k + j) 0).toNat ≠ 92) (hq : (s.getD (k + n) 0).toNat = 34) :
    Calls Tryz.prog 100 #[.pointer (some ⟨g, 0, none⟩)] w fun e w' => e = .returned (.tuple #[.string (ByteArray.mk ⟨(s.drop k).take n⟩), .bool true]) ∧ Tx w' g s (k + n + 1) ∧ w.grownBy w' (some g) := by
  have H0 : Hid (Tx w g s k) := h
  have hz : (ByteArray.mk ⟨s⟩).size = s.length := rfl
  clear h
  go_enter Tryz.func100, Tryz.ntmps100
  go_wp2
  have hgl : g < w.heap.size := (Array.getElem?_eq_some_iff.1 H0.out).1
  have HB0 : Hid (Bld (w.alloc (.cells #[.pointer none, .slice none 0 0] 104)) w.heap.size w.heap.size [] ∧ Tx (w.alloc (.cells #[.pointer none, .slice none 0 0] 104)) g s k ∧ w.grownBy (w.alloc (.cells #[.pointer none, .slice none 0 0] 104)) (some g)) :=
    ⟨Lib.fresh_isBuilder 104 5 w, H0.out.keep (World.grownBy_alloc _ _ none), World.grownBy_alloc _ _ _⟩
  generalize w.alloc (.cells #[.pointer none, .slice none 0 0] 104) = W0 at *
  go_loopw [5] (fun _ wr => ∃ j : Nat, j ≤ n ∧ Hid (Tx wr g s (k + j) ∧ Bld wr w.heap.size w.heap.size ((s.drop k).take j) ∧ w.grownBy wr (some g))) (fun _ wr => s.length - atW wr g)
  case atStart => exact ⟨0, by omega, HB0.out.2.1, by simpa using HB0.out.1, HB0.out.2.2⟩
  case round =>
    obtain ⟨j, hj, hr⟩ := hrel
    obtain ⟨c0, c1, f1⟩ := hr.out.1.cells
    have hkl : k + j < s.length := by omega
    have hbn := byte_at hkl
    obtain ⟨K, hK⟩ : ∃ K, k + j = K := ⟨_, rfl⟩
    rw [hK] at c1 hbn hkl
    have hki : (K : Int) < (s.length : Int) := by omega
    by_cases hjn : j < n
    · have hc := hp j hjn
      rw [hK] at hc
      have e1 : (((s.getD K 0).toNat : Int) == 34) = false := by rw [beq_eq_false_iff_ne]; omega
      have e2 : (((s.getD K 0).toNat : Int) == 92) = false := by rw [beq_eq_false_iff_ne]; omega
      have e1' : ¬ ((s.getD K 0).toNat : Int) = 34 := by omega
      have e2' : ¬ ((s.getD K 0).toNat : Int) = 92 := by omega
      have HX0 : Hid (((s.drop k).take j) ++ [s.getD K 0] = (s.drop k).take (j + 1)) := by
        show ((s.drop k).take j) ++ [s.getD K 0] = (s.drop k).take (j + 1)
        rw [List.take_succ_eq_append_getElem (by rw [List.length_drop]; omega), List.getElem_drop]
        have : s.getD K 0 = s[k + j]'(by omega) := by subst hK; simp [show k + j < s.length by omega]
        rw [this]
      have HK2 : Hid (atW wr g = K) := by have := hr.out.1.at; rw [hK] at this; exact this
      generalize s.getD K 0 = x at *
      go_wp2_with fail
      go_region
      go_wp2_with fail
      go_region
      go_wp2_with fail
      have HD : Hid (Bld wr.drew.drew w.heap.size w.heap.size ((s.drop k).take j) ∧ Tx wr.drew.drew g s K ∧ w.grownBy wr.drew.drew (some g)) := by
        have hd : wr.grownBy wr.drew.drew none := gb_none (gb_drew _ none) (gb_drew _ none)
        refine ⟨hr.out.2.1.kept (gb_any hd (some g)) hgl, ?_, gb_none hr.out.2.2 hd⟩
        rw [← hK]
        exact hr.out.1.keep hd
      have HX : Hid (((s.drop k).take j) ++ [x] = (s.drop k).take (j + 1)) := HX0.out
      clear hr c0 c1 f1
      generalize wr.drew.drew = wd at *
      refine (bWriteByte wd _ _ _ x HD.out.1 (by rw [List.length_take]; omega) HD.out.2.2.size).mono ?_
      rintro e w1 ⟨rfl, hb1, hl1⟩
      rw [HX.out] at hb1
      have H1 : Hid (Bld w1 w.heap.size w.heap.size ((s.drop k).take (j + 1)) ∧ Tx w1 g s K ∧ w.grownBy w1 (some g)) := ⟨hb1, (hl1.block g hgl).trans HD.out.2.1, gb_lower HD.out.2.2 hl1⟩
      obtain ⟨d0, d1, d2⟩ := H1.out.2.1.cells
      clear hb1 hl1 HD
      go_wp2
      go_roundw
      case rel =>
        have hp1 := H1.out.2.1.put (K + 1) ((K : Int) + 1) (by omega)
        refine ⟨j + 1, by omega, ?_, H1.out.1.kept hp1.2 hgl, gb_trans H1.out.2.2 hp1.2 (fun _ h _ => h.symm)⟩
        rw [show k + (j + 1) = K + 1 by omega]
        exact hp1.1
      case measure =>
        have hp1 := (H1.out.2.1.put (K + 1) ((K : Int) + 1) (by omega)).1.at
        have := HK2.out
        rw [hp1, this]
        omega
    · obtain rfl : j = n := by omega
      rw [hK] at hq
      have e1 : (((s.getD K 0).toNat : Int) == 34) = true := by rw [hq]; rfl
      have e1' : ((s.getD K 0).toNat : Int) = 34 := by omega
      generalize s.getD K 0 = x at *
      go_wp2_with fail
      go_region
      go_wp2_with fail
      go_region
      go_wp2_with fail
      have HD : Hid (Bld (wr.setCell ⟨g, 1, none⟩ (.int .i64 ((K : Int) + 1))).drew.drew w.heap.size w.heap.size ((s.drop k).take j) ∧ Tx (wr.setCell ⟨g, 1, none⟩ (.int .i64 ((K : Int) + 1))).drew.drew g s (K + 1) ∧ w.grownBy (wr.setCell ⟨g, 1, none⟩ (.int .i64 ((K : Int) + 1))).drew.drew (some g)) := by
        have hx : Tx wr g s K := by rw [← hK]; exact hr.out.1
        have hp1 := hx.put (K + 1) ((K : Int) + 1) (by omega)
        have hd : (wr.setCell ⟨g, 1, none⟩ (.int .i64 ((K : Int) + 1))).grownBy (wr.setCell ⟨g, 1, none⟩ (.int .i64 ((K : Int) + 1))).drew.drew none := gb_none (gb_drew _ none) (gb_drew _ none)
        exact ⟨(hr.out.2.1.kept hp1.2 hgl).kept (gb_any hd (some g)) hgl, hp1.1.keep hd, gb_none (gb_trans hr.out.2.2 hp1.2 (fun _ h _ => h.symm)) hd⟩
      have HKK : Hid (k + j = K) := hK
      clear hr c0 c1 f1 hK
      generalize (wr.setCell ⟨g, 1, none⟩ (.int .i64 ((K : Int) + 1))).drew.drew = wd at *
      refine (bString wd _ _ _ HD.out.1 HD.out.2.2.size).mono ?_
      rintro e w1 ⟨rfl, hl1⟩
      have H1 : Hid (Tx w1 g s (k + j + 1) ∧ w.grownBy w1 (some g)) := by
        rw [HKK.out]
        exact ⟨(hl1.block g hgl).trans HD.out.2.1, gb_lower HD.out.2.2 hl1⟩
      clear hl1 HD
      go_wp2
      go_ret2
      exact ⟨rfl, H1.out⟩
end Go.Proofs.YtkipnkpnkhfjhabGreatDoor
