/-
  How many bytes a number has: the walk.
-/
import Derived.Test.YtifjdfmmafbhkaaGreatDoorLxH
namespace Go.Proofs.YtifjdfmmafbhkaaGreatDoor
open Go.RowKit

set_option maxHeartbeats 3200000 in
theorem numberWidth_any (w : World) (l : LxS) (hl : l.length ≤ 1000000000000000000) :
    Calls Tryz.prog 65 #[.string (ByteArray.mk ⟨l⟩)] w fun e w' => e = .returned (.int .i64 ((numW l : Nat) : Int)) ∧ w.grownBy w' none := by
  have hz : (ByteArray.mk ⟨l⟩).size = l.length := rfl
  have HX := hidJ (fun W => hexWidth_any W l hl)
  have HE := hidJ (show numW l = if hexW l ≠ 0 then hexW l else if decW l = 0 then 0 else decW l + expW (l.drop (decW l)) from rfl)
  by_cases c : hexW l = 0
  · have hE1 := HE.out
    rw [c, if_neg (by decide)] at hE1
    rw [c] at HX
    have HE := hidJ hE1
    clear hE1 c
    have HD1 := hidJ (fun W => digitsWidth_any W l hl)
    have hdw := hidJ (show decW l = (if byN l (tkN dgB l) = 46 then (if tkN dgB l + tkN dgB (l.drop (tkN dgB l + 1)) = 0 then 0 else tkN dgB l + 1 + tkN dgB (l.drop (tkN dgB l + 1))) else tkN dgB l) from rfl)
    have hle := tkN_le dgB l
    have h0 : l.length ≤ tkN dgB l → byN l (tkN dgB l) = 0 := byN_out l _
    obtain ⟨a, ha⟩ : ∃ a, tkN dgB l = a := ⟨_, rfl⟩
    rw [ha] at HD1 hdw hle h0
    clear ha
    have hxa := ext_drop l a
    have hla : (l.drop a).length ≤ l.length := by rw [List.length_drop]; omega
    have hba : byN (l.drop a) 0 = byN l a := byN_drop l a 0
    have HP : Hid (∀ W, Calls Tryz.prog 53 #[.string (ByteArray.mk ⟨l.drop a⟩), .string (ByteArray.mk ⟨[46]⟩)] W fun e w' => e = .returned (.bool (decide (byN l a = 46))) ∧ w' = W) := fun W => by rw [← hba]; exact prefix1 (l.drop a) (by omega) 46 (by decide) (by decide) W
    clear hba
    generalize l.drop a = ta at *
    by_cases p : byN l a = 46
    · have hal : a < l.length := Nat.lt_of_not_le fun e => by rw [h0 e] at p; cases p
      have hxb := ext_drop l (a + 1)
      have hlb : (l.drop (a + 1)).length = l.length - (a + 1) := List.length_drop
      have hb := tkN_le dgB (l.drop (a + 1))
      have HD2 := hidJ (fun W => digitsWidth_any W (l.drop (a + 1)) (by omega))
      have hd1 := hdw.out
      rw [if_pos p] at hd1
      have hpd : decide (byN l a = 46) = true := decide_eq_true p
      rw [hpd] at HP
      clear hpd h0 hdw p
      generalize l.drop (a + 1) = tb at *
      generalize tkN dgB tb = b at *
      have hai : (a : Int) + 1 ≤ (l.length : Int) := by omega
      by_cases z : a + b = 0
      · obtain ⟨rfl, rfl⟩ : a = 0 ∧ b = 0 := by omega
        rw [if_pos rfl] at hd1
        have hR := HE.out
        rw [hd1, if_pos rfl] at hR
        rw [hR]
        clear HE hR hd1
        go_enter Tryz.func65, Tryz.ntmps65
        go_wp2_with fail
        refine (HX.out _).mono ?_
        rintro e w1 ⟨rfl, hg1⟩
        have H1 := hidJ hg1
        clear hg1 HX
        go_wp2_with fail
        refine (HD1.out _).mono ?_
        rintro e w2 ⟨rfl, hg2⟩
        have H2 := hidJ (gb_none H1.out hg2)
        clear hg2 HD1 H1
        go_wp2_with (go_at_call 53; refine (HP.out _).mono ?_; rintro e w' ⟨rfl, rfl⟩)
        refine (HD2.out _).mono ?_
        rintro e w3 ⟨rfl, hg3⟩
        have H3 := hidJ (gb_none H2.out hg3)
        clear hg3 HD2 H2
        go_wp2
        go_ret
        exact ⟨rfl, H3.out⟩
      · rw [if_neg z] at hd1
        have zi : ¬ (a : Int) + (b : Int) = 0 := by omega
        have hR := HE.out
        rw [hd1, if_neg (by omega)] at hR
        have HR := hidJ hR
        have hxw := ext_drop l (a + 1 + b)
        have hlw : (l.drop (a + 1 + b)).length ≤ l.length := by rw [List.length_drop]; omega
        have HEx := hidJ (fun W => exponentWidth_any W (l.drop (a + 1 + b)) (by omega))
        have hew := expW_le (l.drop (a + 1 + b))
        clear HE hR hd1 z
        generalize l.drop (a + 1 + b) = tw at *
        generalize expW tw = ex at *
        have haw : (a : Int) + 1 + (b : Int) ≤ (l.length : Int) := by omega
        have hab : (a : Int) + (1 + (b : Int)) = ((a + 1 + b : Nat) : Int) := by omega
        generalize hW : a + 1 + b = wd at *
        have HW := hidJ hW
        clear hW
        have hwl : (wd : Int) ≤ (l.length : Int) := by have := HW.out; omega
        generalize numW l = R at *
        go_enter Tryz.func65, Tryz.ntmps65
        go_wp2_with fail
        refine (HX.out _).mono ?_
        rintro e w1 ⟨rfl, hg1⟩
        have H1 := hidJ hg1
        clear hg1 HX
        go_wp2_with fail
        refine (HD1.out _).mono ?_
        rintro e w2 ⟨rfl, hg2⟩
        have H2 := hidJ (gb_none H1.out hg2)
        clear hg2 HD1 H1
        go_wp2_with (go_at_call 53; refine (HP.out _).mono ?_; rintro e w' ⟨rfl, rfl⟩)
        refine (HD2.out _).mono ?_
        rintro e w3 ⟨rfl, hg3⟩
        have H3 := hidJ (gb_none H2.out hg3)
        clear hg3 HD2 H2
        go_wp2_with fail
        refine (HEx.out _).mono ?_
        rintro e w4 ⟨rfl, hg4⟩
        have H4 := hidJ (gb_none H3.out hg4)
        clear hg4 HEx H3
        go_wp2
        go_ret
        exact ⟨ret_int (by rw [HR.out]; omega), H4.out⟩
    · have hd1 := hdw.out
      rw [if_neg p] at hd1
      have hpd : decide (byN l a = 46) = false := decide_eq_false p
      rw [hpd] at HP
      clear hpd h0 hdw p
      rw [hd1] at HE
      by_cases z : a = 0
      · subst z
        have hR := HE.out
        rw [if_pos rfl] at hR
        rw [hR]
        clear HE hR hd1
        go_enter Tryz.func65, Tryz.ntmps65
        go_wp2_with fail
        refine (HX.out _).mono ?_
        rintro e w1 ⟨rfl, hg1⟩
        have H1 := hidJ hg1
        clear hg1 HX
        go_wp2_with fail
        refine (HD1.out _).mono ?_
        rintro e w2 ⟨rfl, hg2⟩
        have H2 := hidJ (gb_none H1.out hg2)
        clear hg2 HD1 H1
        go_wp2_with (go_at_call 53; refine (HP.out _).mono ?_; rintro e w' ⟨rfl, rfl⟩)
        go_ret
        exact ⟨rfl, H2.out⟩
      · have hR := HE.out
        rw [if_neg z] at hR
        have HR := hidJ hR
        have zi : ¬ (a : Int) = 0 := by omega
        have hxw : (ByteArray.mk ⟨l⟩).extract a l.length = ByteArray.mk ⟨l.drop a⟩ := ext_drop l a
        have hta : ByteArray.mk ⟨ta⟩ = ByteArray.mk ⟨l.drop a⟩ := hxa.symm.trans hxw
        have hta2 : ta = l.drop a := by injection hta with h; injection h
        rw [← hta2] at HR
        have HEx := hidJ (fun W => exponentWidth_any W ta (by omega))
        have hew := expW_le ta
        clear HE hR hd1 z hxw hta hta2
        generalize expW ta = ex at *
        generalize numW l = R at *
        go_enter Tryz.func65, Tryz.ntmps65
        go_wp2_with fail
        refine (HX.out _).mono ?_
        rintro e w1 ⟨rfl, hg1⟩
        have H1 := hidJ hg1
        clear hg1 HX
        go_wp2_with fail
        refine (HD1.out _).mono ?_
        rintro e w2 ⟨rfl, hg2⟩
        have H2 := hidJ (gb_none H1.out hg2)
        clear hg2 HD1 H1
        go_wp2_with (go_at_call 53; refine (HP.out _).mono ?_; rintro e w' ⟨rfl, rfl⟩)
        refine (HEx.out _).mono ?_
        rintro e w4 ⟨rfl, hg4⟩
        have H4 := hidJ (gb_none H2.out hg4)
        clear hg4 HEx H2
        go_wp2
        go_ret
        exact ⟨ret_int (by rw [HR.out]; omega), H4.out⟩
  · have hR : numW l = hexW l := by rw [HE.out, if_pos c]
    rw [hR]
    have ci : (0 : Int) < (hexW l : Int) := by omega
    clear HE hR
    generalize hexW l = h at *
    go_enter Tryz.func65, Tryz.ntmps65
    go_wp2_with fail
    refine (HX.out _).mono ?_
    rintro e w1 ⟨rfl, hg1⟩
    have H1 := hidJ hg1
    clear hg1 HX
    go_wp2
    go_ret
    exact ⟨rfl, H1.out⟩
end Go.Proofs.YtifjdfmmafbhkaaGreatDoor
