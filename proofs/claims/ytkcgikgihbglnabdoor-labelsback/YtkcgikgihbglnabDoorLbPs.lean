/-
  A text that is read whole: what Parse comes to: the walk.
-/
import Derived.Test.YtkcgikgihbglnabDoorLbSe
import Derived.Test.YtkcgikgihbglnabDoorLbMk
namespace Go.Proofs.YtkcgikgihbglnabDoor
open Go.RowKit

/-- what Parse answers -/
noncomputable def parseS (s : List UInt8) : List LbT × Int × Nat :=
  if 65536 < s.length then ([], 4, 0) else if (setS s 0).2.1 = false then ([], 3, (setS s 0).2.2) else madeS (setS s 0).1
theorem valS_len (s : List UInt8) : ∀ f k acc, k ≤ s.length → acc.length ≤ k → (valS f s k acc).1.length ≤ s.length
  | 0, k, acc, hk, ha => by rw [valS]; simp
  | f + 1, k, acc, hk, ha => by
    rw [valS]
    by_cases h1 : k < s.length
    · rw [if_neg (by simpa using h1)]
      by_cases h2 : s.getD k 0 = 34
      · rw [if_pos h2]; show acc.length ≤ _; omega
      · rw [if_neg h2]
        by_cases h3 : s.getD k 0 = 92
        · rw [if_pos h3]
          by_cases h4 : (escS s k).2.1 = true
          · rw [if_pos h4]
            have h5 := (escS_ok h1 h4).2
            exact valS_len s f (k + 2) _ (by omega) (by simp; omega)
          · rw [if_neg h4]; simp
        · rw [if_neg h3]
          exact valS_len s f (k + 1) _ (by omega) (by simp; omega)
    · rw [if_pos h1]; simp
theorem labS_len (s : List UInt8) (k : Nat) (hk : k ≤ s.length) : (labS s k).1.length ≤ s.length ∧ (labS s k).2.1.length ≤ s.length := by
  have h0 := nmS_le s k hk
  have h1 := tkK_le s (k + (nmS s k).length) 61 h0
  have h3 := tkK_le s (tkK s (k + (nmS s k).length) 61) 34 h1
  have h5 := valS_len s (s.length + 1) (tkK s (tkK s (k + (nmS s k).length) 61) 34) [] h3 (by simp)
  unfold labS
  split
  · simp
  · split
    · simp
    · split
      · simp
      · exact ⟨by show (nmS s k).length ≤ _; omega, h5⟩
theorem labsS_in (s : List UInt8) : ∀ f k acc, k ≤ s.length → (∀ x ∈ acc, x.1.length ≤ s.length ∧ x.2.length ≤ s.length) → ∀ x ∈ (labsS f s k acc).1, x.1.length ≤ s.length ∧ x.2.length ≤ s.length
  | 0, k, acc, hk, ha => by rw [labsS]; intro x hx; cases hx
  | f + 1, k, acc, hk, ha => by
    rw [labsS]
    have h0 := tkK_le s k 125 hk
    obtain ⟨h2, h3, h4⟩ := labS_bd h0
    have h5 := tkK_le s (labS s (tkK s k 125)).2.2.2 44 h3
    have h7 := labS_len s (tkK s k 125) h0
    have h8 : ∀ x ∈ acc ++ [((labS s (tkK s k 125)).1, (labS s (tkK s k 125)).2.1)], x.1.length ≤ s.length ∧ x.2.length ≤ s.length := by
      intro x hx
      rcases List.mem_append.1 hx with h | h
      · exact ha x h
      · simp only [List.mem_cons, List.not_mem_nil, or_false] at h
        subst h
        exact h7
    by_cases a1 : tkB s k 125 = true
    · rw [if_pos a1]; exact ha
    · rw [if_neg a1]
      by_cases a2 : (labS s (tkK s k 125)).2.2.1 = false
      · rw [if_pos a2]; intro x hx; cases hx
      · rw [if_neg a2]
        by_cases a3 : tkB s (labS s (tkK s k 125)).2.2.2 44 = false
        · rw [if_pos a3]; exact h8
        · rw [if_neg a3]; exact labsS_in s f _ _ h5 h8
theorem mtS_le (s : List UInt8) (k : Nat) (hk : k ≤ s.length) : k + (mtS s k).length ≤ s.length := by
  unfold mtS
  rw [List.length_take, List.length_drop]
  omega
theorem braS_in {s : List UInt8} {k : Nat} {ac : List LbT} (hk : k ≤ s.length) (hl : ac.length ≤ 1) (ha : ∀ x ∈ ac, x.1.length ≤ s.length + 8 ∧ x.2.length ≤ s.length) : (braS s k ac).1.length ≤ s.length + 1 ∧ ∀ x ∈ (braS s k ac).1, x.1.length ≤ s.length + 8 ∧ x.2.length ≤ s.length := by
  have h1 := tkK_le s k 123 hk
  have h2 := labsS_bd s (s.length + 1) (tkK s k 123) [] h1 (by simp)
  have h3 := labsS_in s (s.length + 1) (tkK s k 123) [] h1 (fun x hx => by cases hx)
  unfold braS
  split
  · exact ⟨by simp, fun x hx => by cases hx⟩
  · refine ⟨by show (ac ++ _).length ≤ _; rw [List.length_append]; omega, fun x hx => ?_⟩
    rcases List.mem_append.1 hx with h | h
    · exact ha x h
    · have := h3 x h; exact ⟨by omega, this.2⟩
theorem setS_in {s : List UInt8} {k : Nat} (hk : k ≤ s.length) : (setS s k).1.length ≤ s.length + 1 ∧ ∀ x ∈ (setS s k).1, x.1.length ≤ s.length + 8 ∧ x.2.length ≤ s.length := by
  have h0 := skp_le s k hk
  have h1 := mtS_le s (skp s k) h0
  have h2 : ∀ x ∈ [(mnB, mtS s (skp s k))], x.1.length ≤ s.length + 8 ∧ x.2.length ≤ s.length := by
    intro x hx
    simp only [List.mem_cons, List.not_mem_nil, or_false] at hx
    subst hx
    exact ⟨by show mnB.length ≤ _; simp [mnB], by show (mtS s (skp s k)).length ≤ _; omega⟩
  unfold setS
  split
  · split
    · exact braS_in h0 (by simp) (fun x hx => by cases hx)
    · exact ⟨by simp, fun x hx => by cases hx⟩
  · split
    · exact ⟨by simp, fun x hx => by cases hx⟩
    · split
      · exact braS_in h1 (by simp) h2
      · exact ⟨by simp, h2⟩

set_option maxRecDepth 8000 in
set_option maxHeartbeats 3200000 in
theorem parse_any (w : World) (s : List UInt8) (hT : U8S w) :
    Calls Tryd.prog 9 #[.string (ByteArray.mk ⟨s⟩)] w fun e w' => ∃ v, e = .returned (.tuple #[v, .int .i64 (parseS s).2.1, .int .i64 ((parseS s).2.2 : Int)]) ∧ OwnL w' w.heap.size v (parseS s).1 ∧ w.grownBy w' none := by
  have HT : Hid (U8S w) := hT
  have hz : (ByteArray.mk ⟨s⟩).size = s.length := rfl
  have HP : Hid (parseS s = if 65536 < s.length then ([], 4, 0) else if (setS s 0).2.1 = false then ([], 3, (setS s 0).2.2) else madeS (setS s 0).1) := rfl
  clear hT
  generalize parseS s = R at *
  by_cases hl : 65536 < s.length
  · rw [if_pos hl] at HP
    have hli : (65536 : Int) < (s.length : Int) := by omega
    have hR := HP.out
    subst hR
    dsimp only
    generalize s.length = n at *
    generalize ByteArray.mk ⟨s⟩ = st at *
    go_enter Tryd.func9, Tryd.ntmps9
    go_wp2
    go_ret3
    exact ⟨_, rfl, OwnL.nil _ _, gb_refl _ _⟩
  · rw [if_neg hl] at HP
    have hli : ¬ (65536 : Int) < (s.length : Int) := by omega
    have HS : Hid (∀ W g, Tx W g s 0 → Calls Tryd.prog 24 #[.pointer (some ⟨g, 0, none⟩)] W fun e w' => ∃ v, e = .returned (.tuple #[v, .bool (setS s 0).2.1]) ∧ OwnL w' W.heap.size v (setS s 0).1 ∧ Tx w' g s (setS s 0).2.2 ∧ W.grownBy w' (some g)) := fun W g h => set_any W g s 0 h (Nat.zero_le _) (by omega)
    have hin := setS_in (Nat.zero_le s.length) (k := 0)
    have HM : Hid (∀ W v, RdL W v (setS s 0).1 → U8S W → Calls Tryd.prog 25 #[v] W fun e w' => ∃ v', e = .returned (.tuple #[v', .int .i64 (madeS (setS s 0).1).2.1, .int .i64 ((madeS (setS s 0).1).2.2 : Int)]) ∧ OwnL w' W.heap.size v' (madeS (setS s 0).1).1 ∧ W.grownBy w' none) := fun W v h hT => made_any W v _ h (.of (by omega) (fun x hx => by have := hin.2 x hx; exact ⟨by omega, by omega⟩)) (by omega) hT
    clear hin
    have HTx : Hid (∀ W : World, Tx (W.alloc (.cells #[.string (ByteArray.mk ⟨s⟩), .int .i64 0] 57)) W.heap.size s 0) := fun W => Go.heap_alloc_new W _
    generalize setS s 0 = SS at *
    obtain ⟨SL, so, sk⟩ := SS
    dsimp only at *
    generalize hst : ByteArray.mk ⟨s⟩ = st at *
    clear hst
    cases so with
    | false =>
      rw [if_pos rfl] at HP
      have hR := HP.out
      subst hR
      dsimp only
      go_enter Tryd.func9, Tryd.ntmps9
      go_wp2_with fail
      refine (HS.out _ _ (HTx.out w)).mono ?_
      rintro e w1 ⟨v1, rfl, ho1, ht1, hg1⟩
      have hg2 : w.grownBy w1 none := by
        have ha := World.grownBy_alloc w (.cells #[.string st, .int .i64 0] 57) none
        exact ⟨hg1.os.trans ha.os, hg1.tape.trans ha.tape, hg1.output.trans ha.output, Nat.le_trans ha.size hg1.size, fun k hk hne => (hg1.block k (by have := ha.size; omega) (by intro e; injection e with e; omega)).trans (ha.block k hk hne)⟩
      have H1 : Hid (w.grownBy w1 none) := hg2
      obtain ⟨c0, c1, f1⟩ := ht1.cells
      clear HS HTx ho1 hg1 hg2 ht1 HM
      go_wp2_with fail
      go_region
      go_wp2
      go_ret3
      exact ⟨_, rfl, OwnL.nil _ _, gb_none H1.out (gb_drew _ none)⟩
    | true =>
      rw [if_neg (by simp)] at HP
      have hR := HP.out
      subst hR
      generalize madeS SL = MS at *
      obtain ⟨M1, M2, M3⟩ := MS
      dsimp only at *
      go_enter Tryd.func9, Tryd.ntmps9
      go_wp2_with fail
      refine (HS.out _ _ (HTx.out w)).mono ?_
      rintro e w1 ⟨v1, rfl, ho1, ht1, hg1⟩
      have hg2 : w.grownBy w1 none := by
        have ha := World.grownBy_alloc w (.cells #[.string st, .int .i64 0] 57) none
        exact ⟨hg1.os.trans ha.os, hg1.tape.trans ha.tape, hg1.output.trans ha.output, Nat.le_trans ha.size hg1.size, fun k hk hne => (hg1.block k (by have := ha.size; omega) (by intro e; injection e with e; omega)).trans (ha.block k hk hne)⟩
      have H1 : Hid (RdL w1 v1 SL ∧ w.grownBy w1 none) := ⟨ho1.rd, hg2⟩
      clear HS HTx ho1 hg1 hg2 ht1
      go_wp2_with fail
      refine (HM.out _ _ H1.out.1 (HT.out.keep H1.out.2)).mono ?_
      rintro e w2 ⟨v2, rfl, hr2, hg2⟩
      have H2 : Hid (OwnL w2 w.heap.size v2 M1 ∧ w.grownBy w2 none) := ⟨hr2.mono H1.out.2.size, gb_none H1.out.2 hg2⟩
      clear HM H1 hr2 hg2
      go_wp2
      go_ret3
      exact ⟨_, rfl, H2.out⟩
end Go.Proofs.YtkcgikgihbglnabDoor
