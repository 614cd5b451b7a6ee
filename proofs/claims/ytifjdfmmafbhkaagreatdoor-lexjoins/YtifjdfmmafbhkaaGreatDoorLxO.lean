/-
  What stands behind a \ in a string: the walk.
-/
import Derived.Test.YtifjdfmmafbhkaaGreatDoorLxM
namespace Go.Proofs.YtifjdfmmafbhkaaGreatDoor
open Go.RowKit

theorem escW_rune (l : LxS) : escW l = if (dcG l).1 = 120 then twoW l else if (dcG l).1 = 110 then (10, 1) else if (dcG l).1 = 116 then (9, 1) else if (dcG l).1 = 114 then (13, 1) else if (dcG l).1 = 92 ∨ (dcG l).1 = 34 ∨ (dcG l).1 = 39 then ((dcG l).1, 1) else (0, 0) := by
  by_cases c : (dcG l).1 < 128
  · obtain ⟨e, -, -⟩ := dcG_byte l c
    rw [e]
    by_cases d : byN l 0 = 120
    · rw [if_pos d, twoW_esc l d]
    · unfold escW
      rw [if_neg d, if_neg d]
  · have hb : l = [] ∨ 128 ≤ byN l 0 := by
      by_cases h : l = []
      · exact Or.inl h
      · refine Or.inr (Nat.le_of_not_lt fun e => c ?_)
        rw [dcG_lo h e]
        exact e
    have h0 : byN l 0 = 0 ∨ 128 ≤ byN l 0 := hb.imp (fun h => by subst h; rfl) id
    unfold escW
    rw [if_neg (by omega), if_neg (by omega), if_neg (by omega), if_neg (by omega), if_neg (by omega), if_neg (by omega), if_neg (by omega), if_neg (by omega), if_neg (by omega), if_neg (by omega)]
set_option maxHeartbeats 1600000 in
theorem escaped_any (w : World) (l : LxS) (hl : l.length ≤ 1000000000000000000) (hT : U8S w) :
    Calls Tryz.prog 67 #[.string (ByteArray.mk ⟨l⟩)] w fun e w' => e = .returned (.tuple #[.int .i32 ((escW l).1 : Int), .int .i64 ((escW l).2 : Int)]) ∧ w.grownBy w' none := by
  have HD := hidJ (decodeRune_any w l hT)
  have HT := hidJ (fun W => twoDigits_any W l hl)
  have hw := hidJ (dcG_byte l)
  have hru := dcG_rune l
  rw [escW_rune l]
  generalize twoW l = tw at *
  generalize hd : dcG l = d at *
  obtain ⟨r, wd⟩ := d
  dsimp only at *
  clear hd
  by_cases c1 : r = 120
  · subst c1
    rw [if_pos rfl]
    go_enter Tryz.func67, Tryz.ntmps67
    go_wp2_with fail
    refine HD.out.mono ?_
    rintro e w1 ⟨rfl, hg1⟩
    have H1 := hidJ hg1
    clear hg1 HD hw
    go_wp2_with (go_at_call 78; refine (HT.out _).mono ?_; rintro e w' ⟨rfl, rfl⟩)
    go_ret2
    exact ⟨rfl, H1.out⟩
  · rw [if_neg c1]
    clear HT
    by_cases c2 : r = 110 ∨ r = 116 ∨ r = 114
    · rcases c2 with c2 | c2 | c2
      all_goals
        subst c2
        obtain ⟨-, hw1, -⟩ := hw.out (by decide)
        subst hw1
        clear hw c1 hru
        go_enter Tryz.func67, Tryz.ntmps67
        go_wp2_with fail
        refine HD.out.mono ?_
        rintro e w1 ⟨rfl, hg1⟩
        have H1 := hidJ hg1
        clear hg1 HD
        go_wp2
        go_ret2
        exact ⟨rfl, H1.out⟩
    · rw [if_neg (by omega), if_neg (by omega), if_neg (by omega)]
      by_cases c3 : r = 92 ∨ r = 34 ∨ r = 39
      · rw [if_pos c3]
        rcases c3 with c3 | c3 | c3
        all_goals
          subst c3
          obtain ⟨-, hw1, -⟩ := hw.out (by decide)
          subst hw1
          clear hw c1 c2 hru
          go_enter Tryz.func67, Tryz.ntmps67
          go_wp2_with fail
          refine HD.out.mono ?_
          rintro e w1 ⟨rfl, hg1⟩
          have H1 := hidJ hg1
          clear hg1 HD
          go_wp2
          go_ret2
          exact ⟨rfl, H1.out⟩
      · rw [if_neg c3]
        have d1 : ¬ (r : Int) = 120 := by omega
        have d2 : ¬ (r : Int) = 110 := by omega
        have d3 : ¬ (r : Int) = 116 := by omega
        have d4 : ¬ (r : Int) = 114 := by omega
        have d5 : ¬ (r : Int) = 92 := by omega
        have d6 : ¬ (r : Int) = 34 := by omega
        have d7 : ¬ (r : Int) = 39 := by omega
        clear hw c1 c2 c3
        go_enter Tryz.func67, Tryz.ntmps67
        go_wp2_with fail
        refine HD.out.mono ?_
        rintro e w1 ⟨rfl, hg1⟩
        have H1 := hidJ hg1
        clear hg1 HD
        go_wp2
        go_ret2
        exact ⟨rfl, H1.out⟩
end Go.Proofs.YtifjdfmmafbhkaaGreatDoor
