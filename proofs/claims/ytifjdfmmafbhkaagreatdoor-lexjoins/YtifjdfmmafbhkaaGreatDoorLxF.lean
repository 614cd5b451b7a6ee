/-
  The blanks and remarks ahead of a token: the walk.
-/
import Derived.Test.YtifjdfmmafbhkaaGreatDoorLxE
namespace Go.Proofs.YtifjdfmmafbhkaaGreatDoor
open Go.RowKit

theorem blN_drop (r : Bool) (l : LxS) (p : Nat) (hp : p < l.length) : blN r (l.drop p) = (if byN l p = 10 then 1 + blN false (l.drop (p + 1)) else if r = true then 1 + blN r (l.drop (p + 1)) else if byN l p = 32 ∨ byN l p = 9 ∨ byN l p = 13 then 1 + blN false (l.drop (p + 1)) else if byN l p = 35 then 1 + blN true (l.drop (p + 1)) else 0) := by
  have e : l.drop p = l[p] :: l.drop (p + 1) := List.drop_eq_getElem_cons hp
  have eb : byN l p = (l[p]).toNat := by unfold byN; rw [List.getD_eq_getElem?_getD, List.getElem?_eq_getElem hp]; rfl
  rw [e, eb]
  have h1 : ∀ n : Nat, n < 256 → (l[p] = UInt8.ofNat n ↔ (l[p]).toNat = n) := fun n hn => u8_eq hn
  have a1 := h1 10 (by decide)
  have a2 := h1 32 (by decide)
  have a3 := h1 9 (by decide)
  have a4 := h1 13 (by decide)
  have a5 := h1 35 (by decide)
  show (if l[p] = 10 then 1 + blN false (l.drop (p + 1)) else if r = true then 1 + blN r (l.drop (p + 1)) else if l[p] = 32 ∨ l[p] = 9 ∨ l[p] = 13 then 1 + blN false (l.drop (p + 1)) else if l[p] = 35 then 1 + blN true (l.drop (p + 1)) else 0) = _
  simp only [show (10 : UInt8) = UInt8.ofNat 10 from rfl, show (32 : UInt8) = UInt8.ofNat 32 from rfl, show (9 : UInt8) = UInt8.ofNat 9 from rfl, show (13 : UInt8) = UInt8.ofNat 13 from rfl, show (35 : UInt8) = UInt8.ofNat 35 from rfl, a1, a2, a3, a4, a5]
theorem nei {c n : Nat} (h : ¬ c = n) : ((c : Int) == (n : Int)) = false := by rw [beq_eq_false_iff_ne]; omega

set_option maxHeartbeats 1600000 in
theorem blanksWidth_any (w : World) (l : LxS) (hl : l.length ≤ 1000000000000000000) :
    Calls Tryz.prog 32 #[.string (ByteArray.mk ⟨l⟩)] w fun e w' => e = .returned (.int .i64 ((blN false l : Nat) : Int)) ∧ w.grownBy w' none := by
  have hz : (ByteArray.mk ⟨l⟩).size = l.length := rfl
  obtain ⟨N, hN⟩ : ∃ N, blN false l = N := ⟨_, rfl⟩
  have HN0 := hidJ (show 0 + blN false (l.drop 0) = N by rw [List.drop_zero, hN, Nat.zero_add])
  rw [hN]
  clear hN
  go_enter Tryz.func32, Tryz.ntmps32
  go_wp2_with fail
  have H0 := hidJ (ItW.start w (ByteArray.mk ⟨l⟩))
  generalize w.iter (ByteArray.mk ⟨l⟩) 0 = w1 at *
  generalize w.heap.size = it at *
  go_loopg [3] (l.length + 1) (fun gk b wr => ∃ (p : Nat) (rem : Bool), b = .bool rem ∧ l.length < p + gk ∧ p ≤ l.length ∧ Hid (ItW w wr it (ByteArray.mk ⟨l⟩) p ∧ p + blN rem (l.drop p) = N))
  case atStart => exact ⟨0, false, rfl, by omega, by omega, H0, HN0⟩
  case round =>
    obtain ⟨p, rem, rfl, hg, hp, hr⟩ := hrel
    clear HN0
    by_cases hlt : p < l.length
    · obtain ⟨k, rfl⟩ : ∃ k, gk = k + 1 := ⟨gk - 1, by omega⟩
      have hnx := fun ty => Lib.run_next_any_at (P := Tryz.prog) wr it (ByteArray.mk ⟨l⟩) p ty hr.out.1.2.1 hlt
      have HR := hidJ (hr.out.1.next (p + (Utf8.decode (ByteArray.mk ⟨l⟩) p).2))
      have HE := hidJ hr.out.2
      have hd := hidJ (blN_drop rem l p hlt)
      clear hr
      by_cases hc : byN l p < 128
      · rw [dec_lo hc] at hnx HR
        dsimp only at hnx HR
        generalize wr.iterAt it (ByteArray.mk ⟨l⟩) (p + 1) = w2 at *
        by_cases c1 : byN l p = 10
        · have hF := hidJ (show p + 1 + blN false (l.drop (p + 1)) = N by have := HE.out; rw [hd.out, if_pos c1] at this; omega)
          rw [c1] at hnx
          clear HE hd hc c1
          go_wp2_with fail
          go_roundg k
          case measure => omega
          case rel => exact ⟨p + 1, false, rfl, by omega, by omega, HR.out, hF.out⟩
        · have d1 := nei c1
          have d1' : ¬ (byN l p : Int) = 10 := by omega
          cases rem with
          | true =>
            have hF := hidJ (show p + 1 + blN true (l.drop (p + 1)) = N by have := HE.out; rw [hd.out, if_neg c1, if_pos rfl] at this; omega)
            clear HE hd
            generalize byN l p = c at *
            go_wp2_with fail
            go_roundg k
            case measure => omega
            case rel => exact ⟨p + 1, true, rfl, by omega, by omega, HR.out, hF.out⟩
          | false =>
            by_cases c2 : byN l p = 32 ∨ byN l p = 9 ∨ byN l p = 13
            · have hF := hidJ (show p + 1 + blN false (l.drop (p + 1)) = N by have := HE.out; rw [hd.out, if_neg c1, if_neg (by decide), if_pos c2] at this; omega)
              clear HE hd
              rcases c2 with c2 | c2 | c2
              all_goals
                rw [c2] at hnx
                clear c1 d1 d1' hc c2
                go_wp2_with fail
                go_roundg k
                case measure => omega
                case rel => exact ⟨p + 1, false, rfl, by omega, by omega, HR.out, hF.out⟩
            · by_cases c3 : byN l p = 35
              · have hF := hidJ (show p + 1 + blN true (l.drop (p + 1)) = N by have := HE.out; rw [hd.out, if_neg c1, if_neg (by decide), if_neg c2, if_pos c3] at this; omega)
                rw [c3] at hnx
                clear HE hd c1 d1 d1' hc c2 c3
                go_wp2_with fail
                go_roundg k
                case measure => omega
                case rel => exact ⟨p + 1, true, rfl, by omega, by omega, HR.out, hF.out⟩
              · have hF : p = N := by have := HE.out; rw [hd.out, if_neg c1, if_neg (by decide), if_neg c2, if_neg c3] at this; omega
                subst hF
                have d2 : ¬ (byN l p : Int) = 32 := by omega
                have d3 : ¬ (byN l p : Int) = 9 := by omega
                have d4 : ¬ (byN l p : Int) = 13 := by omega
                have d5 : ¬ (byN l p : Int) = 35 := by omega
                clear HE hd c1 c2 c3 d1
                generalize byN l p = c at *
                go_wp2_with fail
                go_ret
                exact ⟨rfl, HR.out.1⟩
      · have hh := dec_hi hlt (by omega)
        have d0 : (128 : Int) ≤ ((Utf8.decode (ByteArray.mk ⟨l⟩) p).1 : Int) := by have := hh.1; omega
        cases rem with
        | true =>
          have hF := hidJ (show p + (Utf8.decode (ByteArray.mk ⟨l⟩) p).2 + blN true (l.drop (p + (Utf8.decode (ByteArray.mk ⟨l⟩) p).2)) = N by
            have := HE.out
            rw [blN_high (l.drop p) (Utf8.decode (ByteArray.mk ⟨l⟩) p).2 (by rw [List.length_drop]; have := hh.2.2.1; omega) (fun j hj => by rw [byN_drop]; exact hh.2.2.2 j hj), List.drop_drop] at this
            omega)
          obtain ⟨-, h1, h2, -⟩ := hh
          clear HE hd hc
          generalize (Utf8.decode (ByteArray.mk ⟨l⟩) p).1 = c at *
          generalize (Utf8.decode (ByteArray.mk ⟨l⟩) p).2 = q at *
          have d1 : ¬ (c : Int) = 10 := by omega
          generalize wr.iterAt it (ByteArray.mk ⟨l⟩) (p + q) = w2 at *
          go_wp2_with fail
          go_roundg k
          case measure => omega
          case rel => exact ⟨p + q, true, rfl, by omega, by omega, HR.out, hF.out⟩
        | false =>
          have hF : p = N := by
            have := HE.out
            rw [hd.out, if_neg (by omega), if_neg (by decide), if_neg (by omega), if_neg (by omega)] at this
            omega
          subst hF
          clear HE hd hc hh
          generalize (Utf8.decode (ByteArray.mk ⟨l⟩) p).1 = c at *
          generalize p + (Utf8.decode (ByteArray.mk ⟨l⟩) p).2 = q at *
          have d1 : ¬ (c : Int) = 10 := by omega
          have d2 : ¬ (c : Int) = 32 := by omega
          have d3 : ¬ (c : Int) = 9 := by omega
          have d4 : ¬ (c : Int) = 13 := by omega
          have d5 : ¬ (c : Int) = 35 := by omega
          generalize wr.iterAt it (ByteArray.mk ⟨l⟩) q = w2 at *
          go_wp2_with fail
          go_ret
          exact ⟨rfl, HR.out.1⟩
    · obtain rfl : p = N := by
        have := hr.out.2
        rw [List.drop_eq_nil_of_le (by omega)] at this
        have h0 : blN rem [] = 0 := rfl
        omega
      have hnx := fun ty => Lib.run_next_end_at (P := Tryz.prog) wr it (ByteArray.mk ⟨l⟩) p ty hr.out.1.2.1 hlt
      have hpl : (l.length : Int) = (p : Int) := by omega
      have HR := hidJ hr.out.1.1
      clear hr
      go_wp2_with fail
      go_ret
      exact ⟨rfl, HR.out⟩
end Go.Proofs.YtifjdfmmafbhkaaGreatDoor
