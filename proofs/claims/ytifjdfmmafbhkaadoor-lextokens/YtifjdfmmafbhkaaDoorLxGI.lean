/-
  LxDt, LawLxTk, in one text.
-/
import Derived.Test.YtifjdfmmafbhkaaDoorLxDs
import Derived.Test.YtifjdfmmafbhkaaDoorLxDj
/- LxDt -/
namespace Go.Proofs.YtifjdfmmafbhkaaDoor
open Go.RowKit

/-- a blank is gone over -/
theorem bl_blank (l : LxS) (p : Nat) (hp : p < l.length) (h : bkB (byN l p) = true) : p + blN false (l.drop p) = p + 1 + blN false (l.drop (p + 1)) := by
  rw [blN_drop false l p hp]
  rw [bkB_iff] at h
  by_cases c : byN l p = 10
  · rw [if_pos c]; omega
  · rw [if_neg c, if_neg (by decide), if_pos (by omega)]; omega
/-- a remark begins -/
theorem bl_rem (l : LxS) (p : Nat) (hp : p < l.length) (h : byN l p = 35) : blN false (l.drop p) = blN true (l.drop p) := by
  rw [blN_drop false l p hp, blN_drop true l p hp, if_neg (by omega), if_neg (by decide), if_neg (by omega), if_pos h, if_neg (by omega), if_pos rfl]
/-- in a remark -/
theorem bl_in (l : LxS) (p : Nat) (hp : p < l.length) (h : ¬ byN l p = 10) : p + blN true (l.drop p) = p + 1 + blN true (l.drop (p + 1)) := by
  rw [blN_drop true l p hp, if_neg h, if_pos rfl]
  omega
/-- a remark ends -/
theorem bl_end (l : LxS) (p : Nat) (h : p < l.length → byN l p = 10) : blN true (l.drop p) = blN false (l.drop p) := by
  by_cases hp : p < l.length
  · rw [blN_drop true l p hp, blN_drop false l p hp, if_pos (h hp), if_pos (h hp)]
  · rw [List.drop_eq_nil_of_le (by omega)]
    rfl
/-- neither blank nor remark -/
theorem bl_none (l : LxS) (p : Nat) (hp : p < l.length) (h : bkB (byN l p) = false) (h2 : ¬ byN l p = 35) : blN false (l.drop p) = 0 := by
  have h3 : ¬ (byN l p = 32 ∨ byN l p = 9 ∨ byN l p = 10 ∨ byN l p = 13) := fun e => by rw [bkB_iff.2 e] at h; cases h
  rw [blN_drop false l p hp, if_neg (by omega), if_neg (by decide), if_neg (by omega), if_neg h2]
/-- the tokens from p on, blanks ahead -/
def TkS (l : LxS) (p f : Nat) (acc : List Tok) (T : Option Nat × List Tok) : Prop := tokG f (l.drop (p + blN false (l.drop p))) (p + blN false (l.drop p)) acc = T
theorem TkS.at {l : LxS} {p p' f : Nat} {acc : List Tok} {T : Option Nat × List Tok} (h : TkS l p f acc T) (e : p + blN false (l.drop p) = p' + blN false (l.drop p')) : TkS l p' f acc T := by
  unfold TkS at h ⊢
  rw [← e]
  exact h
theorem TkS.end {l : LxS} {p f : Nat} {acc : List Tok} {T : Option Nat × List Tok} (h : TkS l p (f + 1) acc T) (hp : p = l.length) : (none, acc ++ [((0 : Int), ([] : LxS), (l.length : Int))]) = T := by
  unfold TkS at h
  subst hp
  rw [List.drop_length] at h
  rw [show blN false ([] : LxS) = 0 from rfl] at h
  simp only [Nat.add_zero] at h
  rw [List.drop_length, tokG, if_pos rfl] at h
  exact h
theorem TkS.bad {l : LxS} {p f : Nat} {acc : List Tok} {T : Option Nat × List Tok} (h : TkS l p (f + 1) acc T) (hp : p < l.length) (hb : blN false (l.drop p) = 0) (hc : (cutW (l.drop p)).2.2 = 0) : T = (some p, []) := by
  unfold TkS at h
  have hne : l.drop p ≠ [] := fun e => by have := congrArg List.length e; rw [List.length_drop] at this; simp only [List.length_nil] at this; omega
  rw [hb] at h
  simp only [Nat.add_zero] at h
  rw [tokG_step _ _ _ _ hne, if_pos hc] at h
  exact h.symm
theorem TkS.step {l : LxS} {p f : Nat} {acc : List Tok} {T : Option Nat × List Tok} (h : TkS l p (f + 1) acc T) (hp : p < l.length) (hb : blN false (l.drop p) = 0) (hc : (cutW (l.drop p)).2.2 ≠ 0) : TkS l (p + (cutW (l.drop p)).2.2) f (acc ++ [((cutW (l.drop p)).1, (cutW (l.drop p)).2.1, (p : Int))]) T := by
  unfold TkS at h ⊢
  have hne : l.drop p ≠ [] := fun e => by have := congrArg List.length e; rw [List.length_drop] at this; simp only [List.length_nil] at this; omega
  rw [hb] at h
  simp only [Nat.add_zero] at h
  rw [tokG_step _ _ _ _ hne, if_neg hc, List.drop_drop, List.drop_drop] at h
  rw [Nat.add_assoc]
  exact h
set_option maxRecDepth 8000 in
set_option maxHeartbeats 6400000 in
theorem refTokens_any (w : World) (l : LxS) (hl : l.length ≤ 140737488351232) :
    Calls Tryd.prog 8 #[.string (ByteArray.mk ⟨l⟩)] w fun e w' => ∃ v, e = .returned (.tuple #[v, .int .i64 (tokW l).2.1, .int .i64 (tokW l).2.2]) ∧ OwnT w' w.heap.size v (tokW l).1 ∧ w.grownBy w' none := by
  have hz : (ByteArray.mk ⟨l⟩).size = l.length := rfl
  have HR := hidJ (tokW_eq l)
  generalize tokW l = R at *
  by_cases c1 : 65536 < l.length
  · have ci : (65536 : Int) < (l.length : Int) := by omega
    have hR := HR.out
    rw [if_pos c1] at hR
    subst hR
    go_enter Tryd.func8, Tryd.ntmps8
    go_wp2
    refine bodyPost_ret (v := .tuple #[.slice none 0 0, .int .i64 4, .int .i64 0]) ?_ rfl ?_
    · simp [results, Tryd.f8, go_sem]
    · exact ⟨_, rfl, OwnT.nil _ _, gb_refl _ _⟩
  · have ci : ¬ (65536 : Int) < (l.length : Int) := by omega
    have HR2 := hidJ (HR.out.trans (if_neg c1))
    clear HR
    obtain ⟨T, hT⟩ : ∃ T, T = tokG (l.length + 1) (l.drop (blN false l)) (blN false l) [] := ⟨_, rfl⟩
    rw [← hT] at HR2
    have HTk : Hid (TkS l 0 (l.length + 1) [] T) := by
      show tokG _ (l.drop (0 + blN false (l.drop 0))) (0 + blN false (l.drop 0)) [] = T
      rw [List.drop_zero, Nat.zero_add, hT]
    clear hT
    go_enter Tryd.func8, Tryd.ntmps8
    go_wp2_with fail
    go_loopg [5, 6] (l.length + 2) (fun gk v5 v6 wr => ∃ (p f : Nat) (acc : List Tok) (v : Value), v5 = v ∧ v6 = .int .i64 (p : Int) ∧ p ≤ l.length ∧ l.length < p + gk ∧ l.length < p + f ∧ acc.length ≤ p ∧ Hid (TkS l p f acc T ∧ OwnT wr w.heap.size v acc ∧ w.grownBy wr none))
    case atStart => exact ⟨0, l.length + 1, [], _, rfl, rfl, by omega, by omega, by omega, by simp, HTk.out, OwnT.nil _ _, gb_refl _ _⟩
    case round =>
      obtain ⟨p, f, acc, v, rfl, rfl, hp, hg, hf, hac, hr⟩ := hrel
      obtain ⟨f, rfl⟩ : ∃ g, f = g + 1 := ⟨f - 1, by omega⟩
      clear HTk
      by_cases hlt : p < l.length
      · obtain ⟨k, rfl⟩ : ∃ k, gk = k + 1 := ⟨gk - 1, by omega⟩
        have hpi : (p : Int) < (l.length : Int) := by omega
        obtain ⟨x, hx, hxi⟩ := byte_at l p hlt
        have HTS := hidJ hr.out.1
        have HO := hidJ hr.out.2
        clear hr
        cases hbk : bkB (byN l p) with
        | true =>
          have HB := hidJ (fun W => refBlank_any x.toNat (by have := x.toNat_lt; omega) W)
          rw [show bkB x.toNat = true by rw [hx]; exact hbk] at HB
          have HN := hidJ (HTS.out.at (bl_blank l p hlt hbk))
          clear hx hbk HTS HR2
          as_aux_lemma =>
            go_wp2_with fail
            refine (HB.out _).mono ?_
            rintro e w2 ⟨rfl, hw⟩
            have hw := hw.symm
            subst hw
            go_wp2
            go_roundg k
            case measure => omega
            case rel => exact ⟨p + 1, f + 1, acc, _, rfl, by go_num, by omega, by omega, by omega, by omega, HN.out, HO.out⟩
        | false =>
          by_cases h35 : byN l p = 35
          · have HB := hidJ (fun W => show Calls Tryd.prog 17 #[.int .u8 (35 : Int)] W fun e w' => e = .returned (.bool false) ∧ w' = W from refBlank_any 35 (by decide) W)
            have hxj : (x.toNat : Int) = 35 := by omega
            have HX := hidJ (bl_rem l p hlt h35)
            have h10 : ¬ byN l p = 10 := by omega
            have HX1 := hidJ (bl_in l p hlt h10)
            clear hx hbk h35 HR2 h10
            as_aux_lemma =>
              go_wp2_with fail
              refine (HB.out _).mono ?_
              rintro e w2 ⟨rfl, hw⟩
              have hw := hw.symm
              subst hw
              go_wp2_with fail
              go_loopg [6] (l.length + 1) (fun gk2 v6 wx => ∃ j : Nat, v6 = .int .i64 (j : Int) ∧ l.length < j + gk2 ∧ p ≤ j ∧ j ≤ l.length ∧ Hid (p + blN false (l.drop p) = j + blN true (l.drop j) ∧ (j = p ∨ p < j)) ∧ wx = wr)
              case atStart => exact ⟨p, rfl, by omega, Nat.le_refl _, by omega, ⟨by rw [HX.out], .inl rfl⟩, rfl⟩
              case round =>
                obtain ⟨j, rfl, hg2, hpj, hjl, HJ, hwx⟩ := hrel
                have hwx := hwx.symm
                subst hwx
                by_cases hjlt : j < l.length
                · have hji : (j : Int) < (l.length : Int) := by omega
                  obtain ⟨y, hy, hyi⟩ := byte_at l j hjlt
                  by_cases hy10 : y.toNat = 10
                  · have hyj : (y.toNat : Int) = 10 := by omega
                    have HN := hidJ (HTS.out.at (HJ.out.1.trans (by rw [bl_end l j (fun _ => by rw [← hy, hy10])])))
                    have hjp : p < j := by
                      rcases HJ.out.2 with e | e
                      · subst e
                        have : x = y := (hxi (by rw [hz]; omega)).symm.trans (hyi (by rw [hz]; omega))
                        rw [this] at hxj
                        omega
                      · exact e
                    clear hy hy10 HJ HTS HX HX1
                    go_wp2
                    go_roundg k
                    case measure => omega
                    case rel => exact ⟨j, f + 1, acc, _, rfl, rfl, by omega, by omega, by omega, by omega, HN.out, HO.out⟩
                  · obtain ⟨k2, rfl⟩ : ∃ k2, gk = k2 + 1 := ⟨gk - 1, by omega⟩
                    have hyj : ¬ (y.toNat : Int) = 10 := by omega
                    have hyk : ((y.toNat : Int) == 10) = false := by rw [beq_eq_false_iff_ne]; exact hyj
                    have HJ2 := hidJ (HJ.out.1.trans (bl_in l j hjlt (by rw [← hy]; exact hy10)))
                    clear hy hy10 HJ
                    go_wp2
                    go_roundg k2
                    case measure => omega
                    case rel => exact ⟨j + 1, by go_num, by omega, by omega, by omega, ⟨HJ2.out, .inr (by omega)⟩, rfl⟩
                · obtain rfl : j = l.length := by omega
                  have hji : ¬ (l.length : Int) < (l.length : Int) := by omega
                  have HN := hidJ (HTS.out.at (HJ.out.1.trans (by rw [bl_end l l.length (fun h => absurd h (Nat.lt_irrefl _))])))
                  clear HJ HTS HX HX1
                  go_wp2
                  go_roundg k
                  case measure => omega
                  case rel => exact ⟨l.length, f + 1, acc, _, rfl, rfl, by omega, by omega, by omega, by omega, HN.out, HO.out⟩
          · have HB := hidJ (fun W => refBlank_any x.toNat (by have := x.toNat_lt; omega) W)
            rw [show bkB x.toNat = false by rw [hx]; exact hbk] at HB
            have hb0 := bl_none l p hlt hbk h35
            have hxj : ¬ (x.toNat : Int) = 35 := by omega
            have hxk : ((x.toNat : Int) == 35) = false := by rw [beq_eq_false_iff_ne]; exact hxj
            have HC := hidJ (fun W => refOne_any W l p (by omega) hlt)
            have HBad := hidJ (fun h => HTS.out.bad hlt hb0 h)
            have HStep := hidJ (fun h => HTS.out.step hlt hb0 h)
            have hcl := cutW_le (l.drop p)
            rw [List.length_drop] at hcl
            clear hx hbk h35 HTS hb0
            generalize hcw : cutW (l.drop p) = C at *
            clear hcw
            obtain ⟨K, tt, N⟩ := C
            dsimp only at *
            by_cases hz0 : N = 0
            · have hT := HBad.out hz0
              subst hT
              have hR : R = ([], 130, (p : Int)) := HR2.out
              subst hR
              subst hz0
              clear HBad HStep HR2 hcl
              as_aux_lemma =>
                go_wp2_with fail
                refine (HB.out _).mono ?_
                rintro e w2 ⟨rfl, hw⟩
                have hw := hw.symm
                subst hw
                go_wp2_with fail
                refine (HC.out _).mono ?_
                rintro e w2 ⟨⟨Tk, kk, rfl, -⟩, hg2⟩
                have hd0 : decide ((0 : Nat) ≠ 0) = false := rfl
                have H2 := hidJ (gb_none HO.out.2 hg2)
                have H3 := hidJ (gb_none H2.out (World.grownBy_alloc w2 (.cells #[.int .i64 Tk.1, .string (ByteArray.mk ⟨Tk.2.1⟩), .int .i64 Tk.2.2] 28) none))
                obtain ⟨ka, ta, na⟩ := Tk
                dsimp only [tkV] at *
                clear hg2 HC
                go_wp2
                refine bodyPost_ret (v := .tuple #[.slice none 0 0, .int .i64 130, .int .i64 (p : Int)]) ?_ rfl ?_
                · simp [results, Tryd.f8, go_sem]
                · exact ⟨_, rfl, OwnT.nil _ _, H3.out⟩
            · have HN := hidJ (HStep.out hz0)
              have Hz0 := hidJ hz0
              have hNp : 1 ≤ N := by omega
              clear HBad HStep hz0 HR2
              as_aux_lemma =>
                go_wp2_with fail
                refine (HB.out _).mono ?_
                rintro e w2 ⟨rfl, hw⟩
                have hw := hw.symm
                subst hw
                go_wp2_with fail
                refine (HC.out _).mono ?_
                rintro e w2 ⟨⟨Tk, kk, rfl, hTk⟩, hg2⟩
                obtain ⟨hTk1, hTk2⟩ := hTk Hz0.out
                have hd0 : decide (N ≠ 0) = true := decide_eq_true Hz0.out
                simp only [hd0]
                subst hTk1
                subst hTk2
                dsimp only [tkV]
                have HO2 := hidJ (show OwnT w2 w.heap.size u5 acc ∧ w.grownBy w2 none from ⟨HO.out.1.keep hg2, gb_none HO.out.2 hg2⟩)
                have hal : w2.grownBy ((w2.alloc (.cells #[.int .i64 K, .string (ByteArray.mk ⟨tt⟩), .int .i64 (p : Int)] 28)).alloc (.cells #[.int .i64 K, .string (ByteArray.mk ⟨tt⟩), .int .i64 (p : Int)] 28)) none := gb_none (World.grownBy_alloc _ _ _) (World.grownBy_alloc _ _ _)
                have hk3 := hidJ (heap_alloc2_new w2 (.cells #[.int .i64 K, .string (ByteArray.mk ⟨tt⟩), .int .i64 (p : Int)] 28) (.cells #[.int .i64 K, .string (ByteArray.mk ⟨tt⟩), .int .i64 (p : Int)] 28))
                have HO3 := hidJ (show OwnT ((w2.alloc (.cells #[.int .i64 K, .string (ByteArray.mk ⟨tt⟩), .int .i64 (p : Int)] 28)).alloc (.cells #[.int .i64 K, .string (ByteArray.mk ⟨tt⟩), .int .i64 (p : Int)] 28)) w.heap.size u5 acc ∧ w.grownBy ((w2.alloc (.cells #[.int .i64 K, .string (ByteArray.mk ⟨tt⟩), .int .i64 (p : Int)] 28)).alloc (.cells #[.int .i64 K, .string (ByteArray.mk ⟨tt⟩), .int .i64 (p : Int)] 28)) none from ⟨HO2.out.1.keep hal, gb_none HO2.out.2 hal⟩)
                have hbs := hidJ HO3.out.2.size
                clear hg2 HC HO hal HO2 hTk
                go_wp2_with (at_builtin; refine wp_appT rfl _ _ rfl w.heap.size u5 acc (K, tt, (p : Int)) (w2.heap.size + 1) rfl rfl HO3.out.1 hk3.out (by omega) hbs.out ?_; intro v4 w4 ho4 hg4)
                have H4 := hidJ (show OwnT w4 w.heap.size v4 (acc ++ [(K, tt, (p : Int))]) ∧ w.grownBy w4 none from ⟨ho4, gb_new HO3.out.2 hg4 (fun k hk => (HO3.out.1.lt k hk).1)⟩)
                clear ho4 hg4 hbs hk3 HO3
                generalize (w2.alloc (.cells #[.int .i64 K, .string (ByteArray.mk ⟨tt⟩), .int .i64 (p : Int)] 28)).alloc (.cells #[.int .i64 K, .string (ByteArray.mk ⟨tt⟩), .int .i64 (p : Int)] 28) = w3 at *
                go_wp2
                go_roundg k
                case measure => omega
                case rel => exact ⟨p + N, f, acc ++ [(K, tt, (p : Int))], v4, rfl, by go_num, by omega, by omega, by omega, by rw [List.length_append]; simp only [List.length_cons, List.length_nil]; omega, HN.out, H4.out.1, H4.out.2⟩
      · obtain rfl : p = l.length := by omega
        have hT := hr.out.1.end rfl
        have hO := hr.out.2
        subst hT
        have HR3 := hidJ (show R = if 4096 < (acc ++ [((0 : Int), ([] : LxS), (l.length : Int))]).length then ([], 7, 0) else (acc ++ [((0 : Int), ([] : LxS), (l.length : Int))], 0, 0) from HR2.out)
        have hk3 := hidJ (alloc_at wr (.cells #[.int .i64 0, .string ⟨#[]⟩, .int .i64 (l.length : Int)] 28))
        have HO3 := hidJ (show OwnT (wr.alloc (.cells #[.int .i64 0, .string ⟨#[]⟩, .int .i64 (l.length : Int)] 28)) w.heap.size u5 acc ∧ w.grownBy (wr.alloc (.cells #[.int .i64 0, .string ⟨#[]⟩, .int .i64 (l.length : Int)] 28)) none from ⟨hO.1.keep (World.grownBy_alloc _ _ _), gb_none hO.2 (World.grownBy_alloc _ _ _)⟩)
        have hbs := hidJ HO3.out.2.size
        clear hr hO HR2
        go_wp2_with (at_builtin; refine wp_appT rfl _ _ rfl w.heap.size u5 acc (0, [], (l.length : Int)) wr.heap.size rfl rfl HO3.out.1 hk3.out (by omega) hbs.out ?_; intro v4 w4 ho4 hg4)
        have H4 := hidJ (show OwnT w4 w.heap.size v4 (acc ++ [((0 : Int), ([] : LxS), (l.length : Int))]) ∧ w.grownBy w4 none from ⟨ho4, gb_new HO3.out.2 hg4 (fun k hk => (HO3.out.1.lt k hk).1)⟩)
        obtain ⟨a4, cp4, rfl⟩ := ho4.shape
        clear ho4 hg4 hbs hk3 HO3
        generalize wr.alloc (.cells #[.int .i64 0, .string ⟨#[]⟩, .int .i64 (l.length : Int)] 28) = w3 at *
        generalize acc ++ [((0 : Int), ([] : LxS), (l.length : Int))] = RS at *
        obtain ⟨NR, hNR⟩ : ∃ n, RS.length = n := ⟨_, rfl⟩
        rw [hNR] at H4 HR3
        simp only [hNR]
        clear hNR
        have hlen := fun W ty => len_tokens W ty a4 NR cp4
        by_cases c4 : 4096 < NR
        · have c4i : (4096 : Int) < (NR : Int) := by omega
          have hR := HR3.out
          rw [if_pos c4] at hR
          subst hR
          clear HR3
          go_wp2
          (first | (simp only [hlen, Result.andThen]; go_wp2) | skip)
          refine bodyPost_ret (v := .tuple #[.slice none 0 0, .int .i64 7, .int .i64 0]) ?_ rfl ?_
          · simp [results, Tryd.f8, go_sem]
          · exact ⟨_, rfl, OwnT.nil _ _, H4.out.2⟩
        · have c4i : ¬ (4096 : Int) < (NR : Int) := by omega
          have hR := HR3.out
          rw [if_neg c4] at hR
          subst hR
          clear HR3
          go_wp2
          (first | (simp only [hlen, Result.andThen]; go_wp2) | skip)
          refine bodyPost_ret (v := .tuple #[.slice a4 NR cp4, .int .i64 0, .int .i64 0]) ?_ rfl ?_
          · simp [results, Tryd.f8, go_sem]
          · exact ⟨_, rfl, H4.out.1, H4.out.2⟩
end Go.Proofs.YtifjdfmmafbhkaaDoor

/- LawLxTk -/
namespace Go.Proofs.YtifjdfmmafbhkaaDoor
open Go.RowKit

theorem tkf_set (l : List Tok) : ∀ (j : Nat) (x : Tok), tkf (l.set j x) = (((tkf l).set (j * 3) (.int .i64 x.1)).set (j * 3 + 1) (.string (ByteArray.mk ⟨x.2.1⟩))).set (j * 3 + 2) (.int .i64 x.2.2) := by
  induction l with
  | nil => intro j x; rfl
  | cons y t ih =>
    intro j x
    have e : ∀ z : Tok, ∀ u : List Tok, tkf (z :: u) = .int .i64 z.1 :: .string (ByteArray.mk ⟨z.2.1⟩) :: .int .i64 z.2.2 :: tkf u := fun _ _ => rfl
    cases j with
    | zero => rw [List.set_cons_zero, e, e]; simp
    | succ j => rw [List.set_cons_succ, e, e, ih, show (j + 1) * 3 = j * 3 + 1 + 1 + 1 by omega]; simp
/-- a token stored -/
theorem OwnT.set {w : World} {base g n cap : Nat} {l : List Tok} (h : OwnT w base (.slice (some ⟨g, 0, none⟩) n cap) l) (j : Nat) (x : Tok) :
    OwnT (((w.setCell ⟨g, j * 3, none⟩ (.int .i64 x.1)).setCell ⟨g, j * 3 + 1, none⟩ (.string (ByteArray.mk ⟨x.2.1⟩))).setCell ⟨g, j * 3 + 2, none⟩ (.int .i64 x.2.2)) base (.slice (some ⟨g, 0, none⟩) n cap) (l.set j x) ∧
    w.grownBy (((w.setCell ⟨g, j * 3, none⟩ (.int .i64 x.1)).setCell ⟨g, j * 3 + 1, none⟩ (.string (ByteArray.mk ⟨x.2.1⟩))).setCell ⟨g, j * 3 + 2, none⟩ (.int .i64 x.2.2)) (some g) := by
  have hn : n = l.length := by
    obtain ⟨a, c, e⟩ := h.shape
    injection e
  subst hn
  obtain ⟨h1, g1⟩ := World.ownsRow.stored h (j * 3) (.int .i64 x.1)
  obtain ⟨h2, g2⟩ := World.ownsRow.stored h1 (j * 3 + 1) (.string (ByteArray.mk ⟨x.2.1⟩))
  obtain ⟨h3, g3⟩ := World.ownsRow.stored h2 (j * 3 + 2) (.int .i64 x.2.2)
  refine ⟨?_, gb_trans (gb_trans g1 g2 (fun k hk _ => hk.symm)) g3 (fun k hk _ => hk.symm)⟩
  unfold OwnT
  rw [List.length_set, tkf_set]
  exact h3
theorem OwnT.frozen {w : World} {base g n cap : Nat} {l : List Tok} (h : OwnT w base (.slice (some ⟨g, 0, none⟩) n cap) l) (j : Nat) : w.frozen? ⟨g, j, none⟩ = false := by
  have hn : n = l.length := by
    obtain ⟨a, c, e⟩ := h.shape
    injection e
  subst hn
  exact World.ownsRow.frozenAt h j
theorem OwnT.apart {w w' : World} {base : Nat} {v : Value} {l : List Tok} {g : Option Nat} (h : OwnT w base v l) (hg : w.grownBy w' g) (hb : ∀ k, g = some k → k < base) : OwnT w' base v l := by
  refine World.ownsRow.kept h hg ?_
  cases hv : v.ownBlock with
  | none => exact .inl rfl
  | some k =>
    refine .inr (fun e => ?_)
    have h1 := (h.lt k hv).1
    have h2 := hb k e.symm
    omega
set_option maxRecDepth 8000 in
set_option maxHeartbeats 12800000 in
theorem lxTokens_walk (w : World) (l : LxS) (hl : l.length ≤ 140737488351232) (hT : U8S w) (hU : UnT w) (hP : P10 w) :
    Calls Tryd.prog 3 #[.string (ByteArray.mk ⟨l⟩)] w fun e w' => e = .returned (.bool true) ∧ Below w.heap.size w w' := by
  have hz : (ByteArray.mk ⟨l⟩).size = l.length := rfl
  have HTk := hidJ (fun W (h : w.grownBy W none) => tokens_any W l hl (hT.keep h) (hU.keep h))
  have HRf := hidJ (fun W => refTokens_any W l hl)
  have HK : Hid (∀ W, w.grownBy W none → Calls Tryd.prog 10 #[] W fun e w' => e = .returned (.bool true) ∧ W.grownBy w' none) := fun W h => known_any W (hT.keep h) (hU.keep h) (hP.keep h)
  have HWh := hidJ (fun W va vb A (h1 : RdT W va A) (h2 : RdT W vb A) => by
    have := whole_any W va vb A A h1 h2
    rwa [decide_eq_true rfl] at this)
  clear hT hU hP
  generalize tokW l = T at *
  obtain ⟨A, er, ar⟩ := T
  dsimp only at *
  go_enter Tryd.func3, Tryd.ntmps3
  go_wp2_with fail
  refine (HTk.out _ (gb_refl _ _)).mono ?_
  rintro e w1 ⟨v1, rfl, ho1, hg1⟩
  have HO1 := hidJ ho1
  have G1 := hidJ hg1
  clear ho1 hg1
  go_wp2_with fail
  refine (HTk.out _ G1.out).mono ?_
  rintro e w2 ⟨v2, rfl, ho2, hg2⟩
  have HO2 := hidJ ho2
  have G12 := hidJ hg2
  have G2 := hidJ (gb_none G1.out hg2)
  clear ho2 hg2 HTk
  go_wp2_with fail
  refine (HRf.out _).mono ?_
  rintro e w3 ⟨v3, rfl, ho3, hg3⟩
  have HO3 := hidJ ho3
  have G23 := hidJ hg3
  have G3 := hidJ (gb_none G2.out hg3)
  clear ho3 hg3 HRf
  go_wp2_with fail
  refine (HWh.out _ _ _ _ ((HO1.out.keep G12.out).keep G23.out).rd HO3.out.rd).mono ?_
  rintro e w4 ⟨rfl, hg4⟩
  have G4 := hidJ (gb_none G3.out hg4)
  have HA1 := hidJ (((HO1.out.keep G12.out).keep G23.out).keep hg4)
  have HA2 := hidJ ((HO2.out.keep G23.out).keep hg4)
  have HA3 := hidJ (HO3.out.keep hg4)
  have HL1 := hidJ (show ∀ k, v1.ownBlock = some k → w.heap.size ≤ k ∧ k < w1.heap.size from HO1.out.lt)
  have HSz := hidJ (show w1.heap.size ≤ w2.heap.size from G12.out.size)
  clear hg4 HO1 HO2 HO3 G12 G23 G1 G2 G3
  obtain ⟨a1, c1, hv1⟩ := HA1.out.shape
  subst hv1
  obtain ⟨n, hn⟩ : ∃ n, A.length = n := ⟨_, rfl⟩
  have HN := hidJ hn
  rw [hn] at HL1 HA1
  simp only [hn]
  have hlen := fun W ty => len_tokens W ty a1 n c1
  have hnm : n ≤ 9223372036854775807 := by
    obtain ⟨a', c', e, q1, q2, -⟩ := HA1.out.rd
    unfold maxLen at q2
    omega
  clear hn
  go_wp2_with fail
  go_loopg [12] (n + 1) (fun gk v12 wr => ∃ i : Nat, v12 = .int .i64 (i : Int) ∧ n < i + gk ∧ i ≤ n ∧ Hid (∃ m : List Tok, m.length = n ∧ OwnT wr w.heap.size (.slice a1 n c1) m ∧ w4.grownBy wr (Value.ownBlock (.slice a1 n c1))))
  case atStart => exact ⟨0, rfl, by omega, by omega, A, HN.out, HA1.out, gb_refl _ _⟩
  case round =>
    obtain ⟨i, rfl, hg, hin, hr⟩ := hrel
    obtain ⟨m, hm, ho, hgr⟩ := hr.out
    have H := hidJ (show m.length = n ∧ OwnT wr w.heap.size (.slice a1 n c1) m ∧ w4.grownBy wr (Value.ownBlock (.slice a1 n c1)) from ⟨hm, ho, hgr⟩)
    clear hr ho hgr HA1
    by_cases hlt : i < n
    · obtain ⟨k, rfl⟩ : ∃ k, gk = k + 1 := ⟨gk - 1, by omega⟩
      obtain ⟨g, cap, he, hg0, hg1, hcap, hcell⟩ := H.out.2.1.form (by intro e; rw [e] at hm; simp only [List.length_nil] at hm; omega)
      simp only [Value.slice.injEq] at he
      obtain ⟨rfl, -, rfl⟩ := he
      obtain ⟨x0, x1, x2⟩ := hcell i (by rw [hm]; exact hlt)
      have f0 := H.out.2.1.frozen (i * 3)
      have f1 := H.out.2.1.frozen (i * 3 + 1)
      have f2 := H.out.2.1.frozen (i * 3 + 2)
      have hli : (i : Int) < (n : Int) := by omega
      have hst := hidJ (show ∃ m' : List Tok, m'.length = n ∧ OwnT (((wr.setCell ⟨g, i * 3, none⟩ (.int .i64 99)).setCell ⟨g, i * 3 + 1, none⟩ (.string ⟨#[]⟩)).setCell ⟨g, i * 3 + 2, none⟩ (.int .i64 0)) w.heap.size (.slice (some ⟨g, 0, none⟩) n c1) m' ∧ w4.grownBy (((wr.setCell ⟨g, i * 3, none⟩ (.int .i64 99)).setCell ⟨g, i * 3 + 1, none⟩ (.string ⟨#[]⟩)).setCell ⟨g, i * 3 + 2, none⟩ (.int .i64 0)) (Value.ownBlock (.slice (some ⟨g, 0, none⟩) n c1)) from by
        obtain ⟨h1, h2⟩ := H.out.2.1.set i (99, [], 0)
        exact ⟨m.set i (99, [], 0), by rw [List.length_set]; exact H.out.1, h1, gb_trans H.out.2.2 h2 (fun k' hk' _ => hk'.symm)⟩)
      clear hcell H hg0 hg1 hm hcap
      generalize ByteArray.mk ⟨(m.getD i tkD).2.1⟩ = o1 at *
      generalize (m.getD i tkD).1 = o0 at *
      generalize (m.getD i tkD).2.2 = o2 at *
      go_wp2
      go_roundg k
      case measure => omega
      case rel => exact ⟨i + 1, by go_num, by omega, by omega, hst.out⟩
    · have hli : ¬ (i : Int) < (n : Int) := by omega
      have HB2 := hidJ (HA2.out.apart H.out.2.2 (fun k hk => (HL1.out k hk).2))
      have HB3 := hidJ (HA3.out.apart H.out.2.2 (fun k hk => Nat.lt_of_lt_of_le (HL1.out k hk).2 HSz.out))
      have G5 := hidJ (gb_new G4.out H.out.2.2 (fun k hk => (HL1.out k hk).1))
      clear H HA2 HA3 G4 HL1 HSz hlen hm
      go_wp2_with fail
      refine (HWh.out _ _ _ _ HB2.out.rd HB3.out.rd).mono ?_
      rintro e w6 ⟨rfl, hg6⟩
      have G6 := hidJ (gb_none G5.out hg6)
      clear hg6 HB2 HB3 HWh
      go_wp2_with fail
      refine (HK.out _ G6.out).mono ?_
      rintro e w7 ⟨rfl, hg7⟩
      have G7 := hidJ (gb_below (gb_none G6.out hg7))
      clear hg7 HK
      go_wp2
      go_ret
      exact ⟨rfl, G7.out⟩
end Go.Proofs.YtifjdfmmafbhkaaDoor
