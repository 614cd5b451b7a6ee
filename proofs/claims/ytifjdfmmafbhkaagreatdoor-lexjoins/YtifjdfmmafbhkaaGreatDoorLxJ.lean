/-
  Durations: digits times a unit; the table of units; the longest duration: the walks.
-/
import Derived.Test.YtifjdfmmafbhkaaGreatDoorLxI
namespace Go.Proofs.YtifjdfmmafbhkaaGreatDoor
open Go.RowKit

def AllDg (t : LxS) : Prop := ∀ j, j < t.length → dgB (byN t j) = true
theorem timA_step (t : LxS) (p : Nat) (n : Int) (hp : p < t.length) : timA (t.drop p) n = timA (t.drop (p + 1)) (min (10 * n + ((byN t p : Int) - 48)) tooL) := by
  have e : t.drop p = t[p] :: t.drop (p + 1) := List.drop_eq_getElem_cons hp
  have eb : byN t p = (t[p]).toNat := by unfold byN; rw [List.getD_eq_getElem?_getD, List.getElem?_eq_getElem hp]; rfl
  rw [e, eb]
  rfl
theorem min_if (a b : Int) : min a b = if a ≤ b then a else b := by omega
set_option maxHeartbeats 1600000 in
theorem times_any (w : World) (t : LxS) (each : Int) (ht : t.length ≤ 1000000000000000000) (hd : AllDg t) (h1 : 1 ≤ each) (h2 : each ≤ 31536000000) :
    Calls Tryz.prog 54 #[.string (ByteArray.mk ⟨t⟩), .int .i64 each] w fun e w' => e = .returned (.int .i64 (timW t each)) ∧ w.grownBy w' none := by
  have hz : (ByteArray.mk ⟨t⟩).size = t.length := rfl
  have HD := hidJ hd
  obtain ⟨A, hA⟩ : ∃ A, timA t 0 = A := ⟨_, rfl⟩
  have HA := hidJ hA
  have HW := hidJ (show timW t each = if timA t 0 > 1099511627776 / each then tooL else timA t 0 * each from rfl)
  rw [hA] at HW
  generalize timW t each = R at *
  clear hd hA
  go_enter Tryz.func54, Tryz.ntmps54
  go_wp2_with fail
  have H0 := hidJ (ItW.start w (ByteArray.mk ⟨t⟩))
  generalize w.iter (ByteArray.mk ⟨t⟩) 0 = w1 at *
  generalize w.heap.size = it at *
  go_loopg [5] (t.length + 1) (fun gk v wr => ∃ (p : Nat) (n : Int), v = .int .i64 n ∧ t.length < p + gk ∧ p ≤ t.length ∧ 0 ≤ n ∧ n ≤ 1099511627777 ∧ Hid (ItW w wr it (ByteArray.mk ⟨t⟩) p ∧ timA (t.drop p) n = A))
  case atStart => exact ⟨0, 0, rfl, by omega, by omega, by omega, by omega, H0.out, HA.out⟩
  case round =>
    obtain ⟨p, n, rfl, hg, hp, hn0, hn1, hr⟩ := hrel
    by_cases hlt : p < t.length
    · obtain ⟨k, rfl⟩ : ∃ k, gk = k + 1 := ⟨gk - 1, by omega⟩
      have hnx := fun ty => Lib.run_next_any_at (P := Tryz.prog) wr it (ByteArray.mk ⟨t⟩) p ty hr.out.1.2.1 hlt
      have HR := hidJ (hr.out.1.next (p + (Utf8.decode (ByteArray.mk ⟨t⟩) p).2))
      have hb := dgB_iff.1 (HD.out p hlt)
      have hc : byN t p < 128 := by omega
      have HT := hidJ (hr.out.2.symm.trans (timA_step t p n hlt))
      rw [dec_lo hc] at hnx HR
      dsimp only at hnx HR
      clear hr hc
      generalize byN t p = c at *
      generalize wr.iterAt it (ByteArray.mk ⟨t⟩) (p + 1) = w2 at *
      by_cases hm : (1099511627777 : Int) < 10 * n + ((c : Int) - 48)
      · have e : min (10 * n + ((c : Int) - 48)) tooL = 1099511627777 := by unfold tooL; omega
        rw [e] at HT
        go_wp2
        go_roundg k
        case measure => omega
        case rel => exact ⟨p + 1, _, rfl, by omega, by omega, by omega, by omega, HR.out, HT.out.symm⟩
      · have e : min (10 * n + ((c : Int) - 48)) tooL = 10 * n + ((c : Int) - 48) := by unfold tooL; omega
        rw [e] at HT
        go_wp2
        go_roundg k
        case measure => omega
        case rel => exact ⟨p + 1, _, rfl, by omega, by omega, by omega, by omega, HR.out, HT.out.symm⟩
    · have hpl : p = t.length := by omega
      have hnx := fun ty => Lib.run_next_end_at (P := Tryz.prog) wr it (ByteArray.mk ⟨t⟩) p ty hr.out.1.2.1 hlt
      have HR := hidJ hr.out.1.1
      have hAn : n = A := by have := hr.out.2; rw [List.drop_eq_nil_of_le (by omega)] at this; exact this
      subst hAn
      clear hr
      have hq : (1099511627776 : Int) / each ≤ 1099511627776 := Int.ediv_le_self _ (by omega)
      have hq0 : (0 : Int) ≤ 1099511627776 / each := Int.ediv_nonneg (by omega) (by omega)
      have hmul : ¬ n > 1099511627776 / each → n * each ≤ 1099511627776 := fun h => by
        have h3 : n ≤ 1099511627776 / each := by omega
        have h4 := Int.mul_le_mul_of_nonneg_right h3 (show (0 : Int) ≤ each by omega)
        have h5 := Int.ediv_mul_le (1099511627776 : Int) (show each ≠ 0 by omega)
        omega
      have hmul0 : 0 ≤ n * each := Int.mul_nonneg hn0 (by omega)
      have hne : ¬ each = 0 := by omega
      by_cases cq : n > 1099511627776 / each
      · have hR := HW.out
        rw [if_pos cq] at hR
        subst hR
        have cq' : (1099511627776 : Int) / each < n := cq
        clear hmul hmul0 HW
        go_wp2
        go_ret
        exact ⟨rfl, HR.out⟩
      · have hR := HW.out
        rw [if_neg cq] at hR
        have h6 := hmul cq
        have cq' : ¬ (1099511627776 : Int) / each < n := cq
        subst hR
        clear hmul HW
        go_wp2
        go_ret
        exact ⟨rfl, HR.out⟩
end Go.Proofs.YtifjdfmmafbhkaaGreatDoor
