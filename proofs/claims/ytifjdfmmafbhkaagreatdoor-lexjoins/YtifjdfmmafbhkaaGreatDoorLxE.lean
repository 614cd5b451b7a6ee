/-
  Counting the signs of a word, the digits, the blanks and remarks ahead of a token: the walks.
-/
import Derived.Test.YtifjdfmmafbhkaaGreatDoorLaws
import Derived.Test.YtifjdfmmafbhkaaGreatDoorLxD
import Derived.WalkMore
import Derived.Deep.LoopGhost
import Derived.Lib.OthersKept
import Derived.Laws.RangeAny
namespace Go.Proofs.YtifjdfmmafbhkaaGreatDoor
open Go.RowKit

theorem hidJ {p : Prop} (h : p) : Hid p := h
theorem ret_bool {a b : Bool} (h : a = b) : Ending.returned (.bool a) = .returned (.bool b) := by rw [h]
/-- a range over a text between two rounds: the world, the iterator's block, the place -/
def ItW (w wr : World) (it : Nat) (s : ByteArray) (p : Nat) : Prop := w.grownBy wr none ∧ wr.heap[it]? = some (.stringIter s p) ∧ w.heap.size ≤ it
theorem ItW.start (w : World) (s : ByteArray) : ItW w (w.iter s 0) w.heap.size s 0 := ⟨World.grownBy_alloc _ _ _, World.iter_heap w s 0, Nat.le_refl _⟩
theorem ItW.next {w wr : World} {it : Nat} {s : ByteArray} {p : Nat} (h : ItW w wr it s p) (q : Nat) : ItW w (wr.iterAt it s q) it s q :=
  ⟨⟨h.1.os, h.1.tape, h.1.output, by rw [Lib.iterAt_size]; exact h.1.size, fun k hk hn => by rw [Lib.iterAt_other wr it k s q (by have := h.2.2; omega)]; exact h.1.block k hk hn⟩, Lib.iterAt_heap wr it s p q h.2.1, h.2.2⟩
theorem ItW.keep {w wr w2 : World} {it : Nat} {s : ByteArray} {p : Nat} (h : ItW w wr it s p) (hg : wr.grownBy w2 none) : ItW w w2 it s p :=
  ⟨gb_none h.1 hg, (hg.block it (Array.getElem?_eq_some_iff.1 h.2.1).1 (by simp)).trans h.2.1, h.2.2⟩
theorem size_mk (l : LxS) : (ByteArray.mk ⟨l⟩).size = l.length := rfl

theorem isDigit_any (c : Nat) (hc : c ≤ 2147483647) (w : World) : Calls Tryz.prog 47 #[.int .i32 (c : Int)] w fun e w' => e = .returned (.bool (dgB c)) ∧ w' = w := by
  obtain ⟨B, hB⟩ : ∃ B, dgB c = B := ⟨_, rfl⟩
  rw [hB]
  have HB : Hid (dgB c = B) := hB
  clear hB
  go_enter Tryz.func47, Tryz.ntmps47
  go_wp2
  all_goals go_ret
  all_goals refine ⟨ret_bool ?_, rfl⟩
  all_goals (rw [← HB.out, Bool.eq_iff_iff, dgB_iff]; first | (simp; omega) | (simp; done))
theorem inWord_any (c : Nat) (hc : c ≤ 2147483647) (w : World) : Calls Tryz.prog 46 #[.int .i32 (c : Int)] w fun e w' => e = .returned (.bool (wdB c)) ∧ w' = w := by
  have HD : Hid (Calls Tryz.prog 47 #[.int .i32 (c : Int)] w fun e w' => e = .returned (.bool (dgB c)) ∧ w' = w) := isDigit_any c hc w
  obtain ⟨B, hB⟩ : ∃ B, wdB c = B := ⟨_, rfl⟩
  rw [hB]
  have HB : Hid (wdB c = B) := hB
  obtain ⟨E, hE⟩ : ∃ E, dgB c = E := ⟨_, rfl⟩
  rw [hE] at HD
  have HE : Hid (dgB c = E) := hE
  clear hB hE
  cases E with
  | true =>
    have hp := dgB_iff.1 HE.out
    go_enter Tryz.func46, Tryz.ntmps46
    go_wp2_with (go_at_call 47; refine HD.out.mono ?_; rintro e w' ⟨rfl, rfl⟩)
    all_goals go_ret
    all_goals refine ⟨ret_bool ?_, rfl⟩
    all_goals (rw [← HB.out, Bool.eq_iff_iff, wdB_iff]; first | (simp; omega) | (simp; done))
  | false =>
    have hp : ¬ (48 ≤ c ∧ c ≤ 57) := fun h => by have := HE.out; rw [dgB_iff.2 h] at this; cases this
    go_enter Tryz.func46, Tryz.ntmps46
    go_wp2_with (go_at_call 47; refine HD.out.mono ?_; rintro e w' ⟨rfl, rfl⟩)
    all_goals go_ret
    all_goals refine ⟨ret_bool ?_, rfl⟩
    all_goals (rw [← HB.out, Bool.eq_iff_iff, wdB_iff]; first | (simp; omega) | (simp; done))
set_option maxHeartbeats 1600000 in
theorem wordWidth_any (w : World) (l : LxS) (_hl : l.length ≤ 1000000000000000000) :
    Calls Tryz.prog 48 #[.string (ByteArray.mk ⟨l⟩)] w fun e w' => e = .returned (.int .i64 ((tkN wdB l : Nat) : Int)) ∧ w.grownBy w' none := by
  have hz : (ByteArray.mk ⟨l⟩).size = l.length := rfl
  have hle := tkN_le wdB l
  have hIn := hidJ (tkN_in wdB l)
  have hOut := hidJ (tkN_out wdB wdB_zero l)
  obtain ⟨N, hN⟩ : ∃ N, tkN wdB l = N := ⟨_, rfl⟩
  rw [hN] at hle hIn hOut ⊢
  clear hN
  go_enter Tryz.func48, Tryz.ntmps48
  go_wp2_with fail
  have H0 := hidJ (ItW.start w (ByteArray.mk ⟨l⟩))
  generalize w.iter (ByteArray.mk ⟨l⟩) 0 = w1 at *
  generalize w.heap.size = it at *
  go_loopg [3] (l.length + 1) (fun gk _ wr => ∃ p : Nat, l.length < p + gk ∧ p ≤ N ∧ Hid (ItW w wr it (ByteArray.mk ⟨l⟩) p))
  case atStart => exact ⟨0, by omega, by omega, H0⟩
  case round =>
    obtain ⟨p, hg, hp, hr⟩ := hrel
    by_cases hlt : p < l.length
    · obtain ⟨k, rfl⟩ : ∃ k, gk = k + 1 := ⟨gk - 1, by omega⟩
      have hnx := fun ty => Lib.run_next_any_at (P := Tryz.prog) wr it (ByteArray.mk ⟨l⟩) p ty hr.out.2.1 hlt
      have HR := hidJ (hr.out.next (p + (Utf8.decode (ByteArray.mk ⟨l⟩) p).2))
      have hdl := decode_le (ByteArray.mk ⟨l⟩) p
      clear hr
      by_cases hpN : p < N
      · have hb : wdB (byN l p) = true := hIn.out p hpN
        have hc : byN l p < 128 := by rw [wdB_iff] at hb; omega
        rw [dec_lo hc] at hnx HR
        have HC := hidJ (fun W => inWord_any (byN l p) (by omega) W)
        rw [hb] at HC
        dsimp only at hnx HR
        clear hdl
        generalize byN l p = c at *
        generalize wr.iterAt it (ByteArray.mk ⟨l⟩) (p + 1) = w2 at *
        go_wp2_with (go_at_call 46; refine (HC.out _).mono ?_; rintro e w' ⟨rfl, rfl⟩)
        go_roundg k
        case measure => omega
        case rel => exact ⟨p + 1, by omega, by omega, HR⟩
      · obtain rfl : p = N := by omega
        have hb : wdB (Utf8.decode (ByteArray.mk ⟨l⟩) p).1 = false := by
          by_cases hc : byN l p < 128
          · rw [dec_lo hc]; exact hOut.out
          · have := (dec_hi hlt (by omega)).1
            cases h : wdB (Utf8.decode (ByteArray.mk ⟨l⟩) p).1 with
            | false => rfl
            | true => rw [wdB_iff] at h; omega
        have HC := hidJ (fun W => inWord_any (Utf8.decode (ByteArray.mk ⟨l⟩) p).1 hdl W)
        rw [hb] at HC
        clear hdl hb hIn hOut
        generalize (Utf8.decode (ByteArray.mk ⟨l⟩) p).1 = c at *
        generalize p + (Utf8.decode (ByteArray.mk ⟨l⟩) p).2 = q at *
        generalize wr.iterAt it (ByteArray.mk ⟨l⟩) q = w2 at *
        go_wp2_with (go_at_call 46; refine (HC.out _).mono ?_; rintro e w' ⟨rfl, rfl⟩)
        go_ret
        exact ⟨rfl, HR.out.1⟩
    · obtain rfl : p = N := by omega
      have hnx := fun ty => Lib.run_next_end_at (P := Tryz.prog) wr it (ByteArray.mk ⟨l⟩) p ty hr.out.2.1 hlt
      have hpl : (l.length : Int) = (p : Int) := by omega
      have HR := hidJ hr.out.1
      clear hr hIn hOut
      go_wp2_with fail
      go_ret
      exact ⟨rfl, HR.out⟩
set_option maxHeartbeats 1600000 in
theorem digitsWidth_any (w : World) (l : LxS) (_hl : l.length ≤ 1000000000000000000) :
    Calls Tryz.prog 52 #[.string (ByteArray.mk ⟨l⟩)] w fun e w' => e = .returned (.int .i64 ((tkN dgB l : Nat) : Int)) ∧ w.grownBy w' none := by
  have hz : (ByteArray.mk ⟨l⟩).size = l.length := rfl
  have hle := tkN_le dgB l
  have hIn := hidJ (tkN_in dgB l)
  have hOut := hidJ (tkN_out dgB dgB_zero l)
  obtain ⟨N, hN⟩ : ∃ N, tkN dgB l = N := ⟨_, rfl⟩
  rw [hN] at hle hIn hOut ⊢
  clear hN
  go_enter Tryz.func52, Tryz.ntmps52
  go_wp2_with fail
  have H0 := hidJ (ItW.start w (ByteArray.mk ⟨l⟩))
  generalize w.iter (ByteArray.mk ⟨l⟩) 0 = w1 at *
  generalize w.heap.size = it at *
  go_loopg [3] (l.length + 1) (fun gk _ wr => ∃ p : Nat, l.length < p + gk ∧ p ≤ N ∧ Hid (ItW w wr it (ByteArray.mk ⟨l⟩) p))
  case atStart => exact ⟨0, by omega, by omega, H0⟩
  case round =>
    obtain ⟨p, hg, hp, hr⟩ := hrel
    by_cases hlt : p < l.length
    · obtain ⟨k, rfl⟩ : ∃ k, gk = k + 1 := ⟨gk - 1, by omega⟩
      have hnx := fun ty => Lib.run_next_any_at (P := Tryz.prog) wr it (ByteArray.mk ⟨l⟩) p ty hr.out.2.1 hlt
      have HR := hidJ (hr.out.next (p + (Utf8.decode (ByteArray.mk ⟨l⟩) p).2))
      have hdl := decode_le (ByteArray.mk ⟨l⟩) p
      clear hr
      by_cases hpN : p < N
      · have hb : dgB (byN l p) = true := hIn.out p hpN
        have hc : byN l p < 128 := by rw [dgB_iff] at hb; omega
        rw [dec_lo hc] at hnx HR
        have HC := hidJ (fun W => isDigit_any (byN l p) (by omega) W)
        rw [hb] at HC
        dsimp only at hnx HR
        clear hdl
        generalize byN l p = c at *
        generalize wr.iterAt it (ByteArray.mk ⟨l⟩) (p + 1) = w2 at *
        go_wp2_with (go_at_call 47; refine (HC.out _).mono ?_; rintro e w' ⟨rfl, rfl⟩)
        go_roundg k
        case measure => omega
        case rel => exact ⟨p + 1, by omega, by omega, HR⟩
      · obtain rfl : p = N := by omega
        have hb : dgB (Utf8.decode (ByteArray.mk ⟨l⟩) p).1 = false := by
          by_cases hc : byN l p < 128
          · rw [dec_lo hc]; exact hOut.out
          · have := (dec_hi hlt (by omega)).1
            cases h : dgB (Utf8.decode (ByteArray.mk ⟨l⟩) p).1 with
            | false => rfl
            | true => rw [dgB_iff] at h; omega
        have HC := hidJ (fun W => isDigit_any (Utf8.decode (ByteArray.mk ⟨l⟩) p).1 hdl W)
        rw [hb] at HC
        clear hdl hb hIn hOut
        generalize (Utf8.decode (ByteArray.mk ⟨l⟩) p).1 = c at *
        generalize p + (Utf8.decode (ByteArray.mk ⟨l⟩) p).2 = q at *
        generalize wr.iterAt it (ByteArray.mk ⟨l⟩) q = w2 at *
        go_wp2_with (go_at_call 47; refine (HC.out _).mono ?_; rintro e w' ⟨rfl, rfl⟩)
        go_ret
        exact ⟨rfl, HR.out.1⟩
    · obtain rfl : p = N := by omega
      have hnx := fun ty => Lib.run_next_end_at (P := Tryz.prog) wr it (ByteArray.mk ⟨l⟩) p ty hr.out.2.1 hlt
      have hpl : (l.length : Int) = (p : Int) := by omega
      have HR := hidJ hr.out.1
      clear hr hIn hOut
      go_wp2_with fail
      go_ret
      exact ⟨rfl, HR.out⟩
end Go.Proofs.YtifjdfmmafbhkaaGreatDoor
