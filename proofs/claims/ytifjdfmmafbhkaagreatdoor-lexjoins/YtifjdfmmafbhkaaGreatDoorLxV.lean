/-
  One token and nothing more, lex.Span, the law's fixed calls: the walks.
-/
import Derived.Test.YtifjdfmmafbhkaaGreatDoorLxU
namespace Go.Proofs.YtifjdfmmafbhkaaGreatDoor
open Go.RowKit

/-- is it one token of that kind, and nothing more? -/
def jusB (kind : Int) (l : LxS) : Bool := decide (0 < (cutW l).2.2) && decide ((cutW l).2.2 = l.length) && decide ((cutW l).1 = kind)
set_option maxRecDepth 8000 in
set_option maxHeartbeats 1600000 in
theorem isJust_any (w : World) (kind : Int) (l : LxS) (hl : l.length ≤ 140737488351232) (hT : U8S w) (hU : UnT w) :
    Calls Tryz.prog 25 #[.int .i64 kind, .string (ByteArray.mk ⟨l⟩)] w fun e w' => e = .returned (.bool (jusB kind l)) ∧ w.grownBy w' none := by
  have hz : (ByteArray.mk ⟨l⟩).size = l.length := rfl
  have HC := hidJ (cut_any w l hl hT hU)
  have HJ := hidJ (show jusB kind l = (decide (0 < (cutW l).2.2) && decide ((cutW l).2.2 = l.length) && decide ((cutW l).1 = kind)) from rfl)
  generalize jusB kind l = J at *
  generalize cutW l = C at *
  obtain ⟨K, tt, N⟩ := C
  dsimp only [cuV, tkV] at *
  go_enter Tryz.func25, Tryz.ntmps25
  go_wp2_with fail
  refine HC.out.mono ?_
  rintro e w1 ⟨rfl, hg1⟩
  have H1 := hidJ hg1
  have q0 := alloc_at w1 (.cells #[.int .i64 K, .string (ByteArray.mk ⟨tt⟩), .int .i64 0] 24)
  have q1 := (blk_cells q0).1
  have H2 := hidJ (gb_none H1.out (World.grownBy_alloc w1 (.cells #[.int .i64 K, .string (ByteArray.mk ⟨tt⟩), .int .i64 0] 24) none))
  clear hg1 HC q0 H1
  by_cases c1 : 0 < N
  · have c1i : (0 : Int) < (N : Int) := by omega
    by_cases c2 : N = l.length
    · have c2i : (N : Int) = (l.length : Int) := by omega
      have hJ : J = decide (K = kind) := by rw [HJ.out, decide_eq_true c1, decide_eq_true c2]; simp
      subst hJ
      clear HJ
      go_wp2
      go_ret
      exact ⟨by first | rfl | (simp [beq_eq_decide]; done) | (congr 2), H2.out⟩
    · have c2i : ¬ (N : Int) = (l.length : Int) := by omega
      have c2j : ((N : Int) == (l.length : Int)) = false := by rw [beq_eq_false_iff_ne]; omega
      have hJ : J = false := by rw [HJ.out, decide_eq_true c1, decide_eq_false c2]; rfl
      subst hJ
      clear HJ
      go_wp2
      go_ret
      exact ⟨rfl, H2.out⟩
  · have c1i : ¬ (0 : Int) < (N : Int) := by omega
    have hJ : J = false := by rw [HJ.out, decide_eq_false c1]; rfl
    subst hJ
    clear HJ
    go_wp2
    go_ret
    exact ⟨rfl, H2.out⟩
/-- a duration's milliseconds, and the fault -/
def spV (l : LxS) : Int × Int := if jusB 3 l = true then (if 1099511627776 < (spW l).1 then (0, 7) else ((spW l).1, 0)) else (0, 130)
set_option maxHeartbeats 1600000 in
theorem span_any (w : World) (l : LxS) (hl : l.length ≤ 140737488351232) (hT : U8S w) (hU : UnT w) :
    Calls Tryz.prog 23 #[.string (ByteArray.mk ⟨l⟩)] w fun e w' => e = .returned (.tuple #[.int .i64 (spV l).1, .int .i64 (spV l).2]) ∧ w.grownBy w' none := by
  have HJ := hidJ (isJust_any w 3 l hl hT hU)
  have HS := hidJ (fun W (h : w.grownBy W none) => cutSpan_any W l (by omega) (hU.keep h))
  have HR := hidJ (show spV l = if jusB 3 l = true then (if 1099511627776 < (spW l).1 then (0, 7) else ((spW l).1, 0)) else (0, 130) from rfl)
  generalize spV l = R at *
  generalize spW l = S at *
  generalize jusB 3 l = J at *
  cases J with
  | false =>
    have hR := HR.out
    rw [if_neg (by decide)] at hR
    subst hR
    clear HR
    go_enter Tryz.func23, Tryz.ntmps23
    go_wp2_with fail
    refine HJ.out.mono ?_
    rintro e w1 ⟨rfl, hg1⟩
    have H1 := hidJ hg1
    clear hg1 HJ
    go_wp2
    go_ret2
    exact ⟨rfl, H1.out⟩
  | true =>
    have HR2 := hidJ (HR.out.trans (if_pos rfl))
    clear HR
    go_enter Tryz.func23, Tryz.ntmps23
    go_wp2_with fail
    refine HJ.out.mono ?_
    rintro e w1 ⟨rfl, hg1⟩
    have H1 := hidJ hg1
    clear hg1 HJ
    go_wp2_with fail
    refine (HS.out _ H1.out).mono ?_
    rintro e w2 ⟨rfl, hg2⟩
    have H2 := hidJ (gb_none H1.out hg2)
    clear hg2 HS H1
    by_cases c : 1099511627776 < S.1
    · have hR := HR2.out
      rw [if_pos c] at hR
      subst hR
      go_wp2
      go_ret2
      exact ⟨rfl, H2.out⟩
    · have hR := HR2.out
      rw [if_neg c] at hR
      subst hR
      go_wp2
      go_ret2
      exact ⟨rfl, H2.out⟩
/-- a row of tokens in memory -/
theorem OwnT.form {w : World} {base : Nat} {v : Value} {l : List Tok} (h : OwnT w base v l) (hl : l ≠ []) : ∃ g cap, v = .slice (some ⟨g, 0, none⟩) l.length cap ∧ base ≤ g ∧ g < w.heap.size ∧ l.length ≤ cap ∧
    ∀ i, i < l.length → w.cell? ⟨g, i * 3, none⟩ = some (.int .i64 (l.getD i tkD).1) ∧ w.cell? ⟨g, i * 3 + 1, none⟩ = some (.string (ByteArray.mk ⟨(l.getD i tkD).2.1⟩)) ∧ w.cell? ⟨g, i * 3 + 2, none⟩ = some (.int .i64 (l.getD i tkD).2.2) := by
  have h0 := h
  rcases h.2 with ⟨rfl, hn⟩ | ⟨g, cap, cur, rfl, hg, hh, hnc, hcm, hcs, ht⟩
  · exact absurd (List.eq_nil_of_length_eq_zero hn) hl
  · refine ⟨g, cap, rfl, hg, (Array.getElem?_eq_some_iff.1 hh).1, hnc, fun i hi => ?_⟩
    have key : ∀ j, j < l.length * 3 → w.cell? ⟨g, j, none⟩ = (tkf l)[j]? := fun j hj => World.ownsRow.cellAt h0 j hj
    rw [key _ (by omega), key _ (by omega), key _ (by omega)]
    have hat : ∀ (l : List Tok) (i : Nat), i < l.length → (tkf l)[i * 3]? = some (.int .i64 (l.getD i tkD).1) ∧ (tkf l)[i * 3 + 1]? = some (.string (ByteArray.mk ⟨(l.getD i tkD).2.1⟩)) ∧ (tkf l)[i * 3 + 2]? = some (.int .i64 (l.getD i tkD).2.2) := by
      intro l
      induction l with
      | nil => intro i hi; simp at hi
      | cons t l ih =>
        intro i hi
        cases i with
        | zero => exact ⟨rfl, rfl, rfl⟩
        | succ i =>
          have := ih i (by simpa using hi)
          rw [show (i + 1) * 3 = i * 3 + 1 + 1 + 1 by omega]
          exact this
    exact hat l i hi
/-- the law's fixed text -/
def knS : LxS := [97, 58, 98, 123, 120, 61, 126, 34, 99, 46, 42, 34, 125, 91, 53, 109, 93, 32, 62, 32, 49, 46, 53, 101, 51, 32, 35, 32, 101, 110, 100]
def knT : List Tok := [(1, [97, 58, 98], 0), (5, [123], 3), (1, [120], 4), (5, [61, 126], 5), (4, [99, 46, 42], 7), (5, [125], 12), (5, [91], 13), (3, [53, 109], 14), (5, [93], 16), (5, [62], 18), (2, [49, 46, 53, 101, 51], 20), (0, [], 31)]
theorem kn_tok : tokW knS = (knT, 0, 0) := by decide +kernel
theorem kn_span : spV [49, 104, 51, 48, 109] = (5400000, 0) := by decide +kernel
theorem kn_text : spT 1500 = ([49, 115, 53, 48, 48, 109, 115], 0) := by
  have h1 : Lib.itoa ((1 : Nat) : Int) = [49] := by rw [Lib.itoa_nonneg, Lib.decDigits_one (by omega)]; rfl
  have h2 : Lib.itoa ((500 : Nat) : Int) = [53, 48, 48] := by
    rw [Lib.itoa_nonneg, Lib.decDigits, dif_neg (by omega), Lib.decDigits_two (by omega) (by omega)]
    rfl
  show (if (1500 : Int) < 0 ∨ (1099511627776 : Int) < 1500 then (([], 1) : LxS × Int) else if (1500 : Int) = 0 then ([48, 115], 0) else (spS 7 0 (1500 : Int).toNat [], 0)) = _
  rw [if_neg (by decide), if_neg (by decide)]
  have h : spS 7 0 (1500 : Int).toNat [] = (([] : LxS) ++ (Lib.itoa ((1 : Nat) : Int) ++ [115])) ++ (Lib.itoa ((500 : Nat) : Int) ++ [109, 115]) := rfl
  rw [h, h1, h2]
  rfl
set_option maxRecDepth 8000 in
set_option maxHeartbeats 3200000 in
theorem known_any (w : World) (hT : U8S w) (hU : UnT w) (hP : P10 w) :
    Calls Tryz.prog 11 #[] w fun e w' => e = .returned (.bool true) ∧ w.grownBy w' none := by
  have H1 := hidJ (tokens_any w knS (by decide) hT hU)
  rw [kn_tok] at H1
  have H2 : Hid (∀ W, w.grownBy W none → Calls Tryz.prog 23 #[.string (ByteArray.mk ⟨[49, 104, 51, 48, 109]⟩)] W fun e w' => e = .returned (.tuple #[.int .i64 5400000, .int .i64 0]) ∧ W.grownBy w' none) := fun W h => by
    have := span_any W [49, 104, 51, 48, 109] (by decide) (hT.keep h) (hU.keep h)
    rw [kn_span] at this
    exact this
  have H3 : Hid (∀ W, w.grownBy W none → Calls Tryz.prog 24 #[.int .i64 1500] W fun e w' => e = .returned (.tuple #[.string (ByteArray.mk ⟨[49, 115, 53, 48, 48, 109, 115]⟩), .int .i64 0]) ∧ W.grownBy w' none) := fun W h => by
    have := spanText_any W 1500 (hU.keep h) (hP.keep h)
    rw [kn_text] at this
    exact this
  clear hT hU hP
  go_enter Tryz.func11, Tryz.ntmps11
  go_wp2_with fail
  refine H1.out.mono ?_
  rintro e w1 ⟨v, rfl, ho, hg1⟩
  obtain ⟨g, cap, rfl, hbg, hgs, hcap, hcl⟩ := ho.form (by decide)
  have HG := hidJ hg1
  have c4 := (hcl 4 (by decide)).2.1
  have c7 := (hcl 7 (by decide)).1
  have k4 := hidJ (show w1.heap.size ≤ w1.heap.size ∧ g < w1.heap.size from ⟨Nat.le_refl _, hgs⟩)
  have e4 : (knT.getD 4 tkD).2.1 = [99, 46, 42] := rfl
  have e7 : (knT.getD 7 tkD).1 = 3 := rfl
  have hn : knT.length = 12 := rfl
  rw [e4] at c4
  rw [e7] at c7
  rw [hn]
  clear hg1 H1 hcl hcap hbg hgs ho e4 e7 hn
  go_wp2_with fail
  refine (H2.out _ HG.out).mono ?_
  rintro e w2 ⟨rfl, hg2⟩
  have HG2 := hidJ (gb_none HG.out hg2)
  have d4 : w2.cell? ⟨g, 4 * 3 + 1, none⟩ = _ := (World.cell?_of_block (hg2.block g k4.out.2 (by simp))).trans c4
  have d7 : w2.cell? ⟨g, 7 * 3, none⟩ = _ := (World.cell?_of_block (hg2.block g k4.out.2 (by simp))).trans c7
  have k5 := hidJ (show g < w2.heap.size from Nat.lt_of_lt_of_le k4.out.2 hg2.size)
  clear hg2 H2 HG c4 c7 k4
  go_wp2_with fail
  refine (H3.out _ HG2.out).mono ?_
  rintro e w3 ⟨rfl, hg3⟩
  have HG3 := hidJ (gb_none HG2.out hg3)
  have f4 : w3.cell? ⟨g, 13, none⟩ = _ := (World.cell?_of_block (hg3.block g k5.out (by simp))).trans d4
  have f7 : w3.cell? ⟨g, 21, none⟩ = _ := (World.cell?_of_block (hg3.block g k5.out (by simp))).trans d7
  clear hg3 H3 HG2 d4 d7 k5
  go_wp2
  go_ret
  exact ⟨rfl, HG3.out⟩
end Go.Proofs.YtifjdfmmafbhkaaGreatDoor
