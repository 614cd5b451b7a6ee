/-
  A string at the head of a text: the walk.
-/
import Derived.Test.YtifjdfmmafbhkaaGreatDoorLxO
namespace Go.Proofs.YtifjdfmmafbhkaaGreatDoor
open Go.RowKit

theorem enc_ascii (s : Nat) (h : s < 128) : Lib.encodeRune (s : Int) = [UInt8.ofNat s] := by
  unfold Lib.encodeRune
  rw [Lib.encodeRuneZ_one (by omega) (by omega)]
  simp
theorem enc_take (l : LxS) (hne : l ≠ []) (hv : ¬ ((dcG l).1 = 65533 ∧ (dcG l).2 < 3)) : Lib.encodeRune ((dcG l).1 : Int) = l.take (dcG l).2 := by
  unfold dcG at *
  rw [if_neg hne] at *
  exact Lib.encode_decode l hne (fun e => hv ⟨e.1, by omega⟩)
theorem runeLen_bad (w : World) : Calls Tryz.prog 66 #[.int .i32 65533] w fun e w' => e = .returned (.int .i64 3) ∧ w' = w := by
  go_enter Tryz.func66, Tryz.ntmps66
  go_wp2
  go_ret
  exact ⟨rfl, rfl⟩
/-- a string's bytes between two rounds -/
theorem strG_next (q f : Nat) (l acc : LxS) (p : Nat) (r wd : Nat) (hd : dcG (l.drop p) = (r, wd)) :
    ((strG q (f + 1) (l.drop p)).map fun x => (acc ++ x.1, p + x.2)) = if r = q then some (acc, p + wd) else if r = 10 ∨ (r = 65533 ∧ wd < 3) then none else if r = 92 then (if (escW (l.drop (p + wd))).2 = 0 then none else (strG q f (l.drop (p + (wd + (escW (l.drop (p + wd))).2)))).map fun x => ((acc ++ [UInt8.ofNat (escW (l.drop (p + wd))).1]) ++ x.1, p + (wd + (escW (l.drop (p + wd))).2) + x.2)) else (strG q f (l.drop (p + wd))).map fun x => ((acc ++ (l.drop p).take wd) ++ x.1, p + wd + x.2) := by
  rw [strG, hd]
  dsimp only
  rw [List.drop_drop, List.drop_drop]
  by_cases c1 : r = q
  · rw [if_pos c1, if_pos c1]
    simp
  · rw [if_neg c1, if_neg c1]
    by_cases c2 : r = 10 ∨ (r = 65533 ∧ wd < 3)
    · rw [if_pos c2, if_pos c2]
      rfl
    · rw [if_neg c2, if_neg c2]
      by_cases c3 : r = 92
      · rw [if_pos c3, if_pos c3]
        by_cases c4 : (escW (l.drop (p + wd))).2 = 0
        · rw [if_pos c4, if_pos c4]
          rfl
        · rw [if_neg c4, if_neg c4, Option.map_map]
          congr 1
          funext x
          simp only [Function.comp, List.append_assoc, List.cons_append, List.nil_append]
          congr 1
          omega
      · rw [if_neg c3, if_neg c3, Option.map_map]
        congr 1
        funext x
        simp only [Function.comp, List.append_assoc]
        congr 1
        omega
/-- what a string says and its bytes, as the project answers -/
def stV (R : Option (LxS × Nat)) : Value := .tuple #[.string (ByteArray.mk ⟨(R.map (·.1)).getD []⟩), .int .i64 ((((R.map (·.2)).getD 0 : Nat)) : Int)]
theorem Bdr.keep {w w' : World} {B b : Nat} {l : LxS} (h : Bdr w B b l) (hg : w.grownBy w' none) : Bdr w' B b l := by
  have key : ∀ p, Lib.BuilderAtF 41 5 B b p (Lib.byteCells l) w → Lib.BuilderAtF 41 5 B b p (Lib.byteCells l) w' := by
    rintro p ⟨h1, v, h2, h3, h4⟩
    refine ⟨h1, v, blk_keep h2 hg, World.ownsRowF.kept h3 hg ?_, h4⟩
    cases v.ownBlock with
    | none => exact Or.inl rfl
    | some k => exact Or.inr (by simp)
  exact h.imp (key _) (key _)
/-- what stays below stays -/
theorem gb_lower {w wr w1 : World} {g : Option Nat} (h : w.grownBy wr g) (hb : Below w.heap.size wr w1) : w.grownBy w1 g :=
  ⟨hb.os.trans h.os, hb.tape.trans h.tape, hb.output.trans h.output, Nat.le_trans h.size hb.size, fun k hk hne => (hb.block k hk).trans (h.block k hk hne)⟩
set_option maxRecDepth 8000 in
set_option maxHeartbeats 6400000 in
theorem cutString_any (w : World) (l : LxS) (hl : l.length ≤ 140737488351232) (hq : byN l 0 = 34 ∨ byN l 0 = 39) (hT : U8S w) :
    Calls Tryz.prog 50 #[.string (ByteArray.mk ⟨l⟩)] w fun e w' => e = .returned (stV (strW l)) ∧ w.grownBy w' none := by
  have hz : (ByteArray.mk ⟨l⟩).size = l.length := rfl
  have hne : l ≠ [] := by rintro rfl; exact absurd hq (by decide)
  have hlen : 1 ≤ l.length := List.length_pos_iff.2 hne
  have hd0 := dcG_lo hne (show byN l 0 < 128 by omega)
  have HS : Hid (((strG (byN l 0) (l.length + 1) (l.drop 1)).map fun x => (([] : LxS) ++ x.1, 1 + x.2)) = strW l) := rfl
  have HT := hidJ hT
  generalize strW l = R at *
  have HD0 : Hid (∀ W, U8S W → Calls Tryz.prog 45 #[.string (ByteArray.mk ⟨l⟩)] W fun e w' => e = .returned (.tuple #[.int .i32 (byN l 0 : Int), .int .i64 ((1 : Nat) : Int)]) ∧ W.grownBy w' none) := fun W h => by
    have := decodeRune_any W l h
    rw [hd0] at this
    exact this
  have hq' : byN l 0 < 128 := by omega
  have hq2 : byN l 0 ≠ 10 ∧ byN l 0 ≠ 92 := by omega
  generalize byN l 0 = q at *
  clear hd0 hq hT
  go_enter Tryz.func50, Tryz.ntmps50
  go_wp2_with fail
  have H0 := hidJ (show Bdr (w.alloc (.cells #[.pointer none, .slice none 0 0] 41)) w.heap.size w.heap.size [] ∧ w.grownBy (w.alloc (.cells #[.pointer none, .slice none 0 0] 41)) none from ⟨Lib.IsBuilderF.of (Lib.fresh_isBuilder 41 5 w), World.grownBy_alloc _ _ _⟩)
  go_step3
  go_wp2_with fail
  generalize w.alloc (.cells #[.pointer none, .slice none 0 0] 41) = W0 at *
  refine (HD0.out _ (HT.out.keep H0.out.2)).mono ?_
  rintro e w1 ⟨rfl, hg1⟩
  have H1 := hidJ (show Bdr w1 w.heap.size w.heap.size [] ∧ w.grownBy w1 none from ⟨H0.out.1.keep hg1, gb_none H0.out.2 hg1⟩)
  clear hg1 H0 HD0
  have h11 : ((1 : Nat) : Int) = 1 := rfl
  rw [h11]
  go_wp2
  go_step3
  go_wp2
  go_loopg [6] (l.length + 2) (fun gk v6 wr => ∃ (p f : Nat) (acc : LxS), v6 = .int .i64 (p : Int) ∧ l.length < p + gk ∧ l.length < p + f ∧ 1 ≤ p ∧ p ≤ l.length ∧ acc.length ≤ p ∧ Hid (((strG q f (l.drop p)).map fun x => (acc ++ x.1, p + x.2)) = R ∧ Bdr wr w.heap.size w.heap.size acc ∧ w.grownBy wr none))
  case atStart => exact ⟨1, l.length + 1, [], rfl, by omega, by omega, by omega, by omega, by simp, HS.out, H1.out.1, H1.out.2⟩
  case round =>
    obtain ⟨p, f, acc, rfl, hg, hf, hp1, hpl, hacc, hr⟩ := hrel
    obtain ⟨k, rfl⟩ : ∃ k, gk = k + 1 := ⟨gk - 1, by omega⟩
    obtain ⟨f, rfl⟩ : ∃ g, f = g + 1 := ⟨f - 1, by omega⟩
    have hx1 := ext_drop l p
    have hlp : (l.drop p).length = l.length - p := List.length_drop
    have HD := hidJ (decodeRune_any wr (l.drop p) (HT.out.keep hr.out.2.2))
    have hbd := hidJ (dcG_bounds (l.drop p))
    have hru := dcG_rune (l.drop p)
    have hby := hidJ (dcG_byte (l.drop p))
    have henc := hidJ (enc_take (l.drop p))
    have hnil : l.drop p = [] → (dcG (l.drop p)).1 = 65533 ∧ (dcG (l.drop p)).2 < 3 := fun h => by rw [h]; exact ⟨rfl, by decide⟩
    have hnil := hidJ hnil
    have hE0 := hidJ hr.out.1
    have hBd := hidJ hr.out.2
    have hst := hidJ (strG_next q f l acc p (dcG (l.drop p)).1 (dcG (l.drop p)).2 rfl)
    clear hr HS H1
    generalize hd : dcG (l.drop p) = d at *
    obtain ⟨r, wd⟩ := d
    dsimp only at *
    have HE := hidJ (hE0.out.symm.trans hst.out)
    clear hE0 hst hd
    by_cases c1 : r = q
    · subst c1
      have hne2 : l.drop p ≠ [] := fun h => by have := (hnil.out h).1; omega
      have hw1 := hbd.out hne2
      have hR := HE.out
      rw [if_pos rfl] at hR
      subst hR
      clear HE hnil henc hby hbd
      generalize l.drop p = t1 at *
      go_wp2_with fail
      refine HD.out.mono ?_
      rintro e w2 ⟨rfl, hg2⟩
      have H2 := hidJ (show Bdr w2 w.heap.size w.heap.size acc ∧ w.grownBy w2 none from ⟨hBd.out.1.keep hg2, gb_none hBd.out.2 hg2⟩)
      clear hg2 HD hBd
      go_wp2_with fail
      refine (bString w2 _ _ _ H2.out.1 H2.out.2.size).mono ?_
      rintro e w3 ⟨rfl, hb3⟩
      have H3 := hidJ (gb_lower H2.out.2 hb3)
      clear hb3 H2
      go_wp2
      try rw [Exit.noGoto_ret]
      go_ret2
      exact ⟨rfl, H3.out⟩
    · have n1 : ¬ (r : Int) = (q : Int) := by omega
      have HR := hidJ (HE.out.trans (if_neg c1))
      clear HE
      by_cases c2 : r = 10 ∨ (r = 65533 ∧ wd < 3)
      · have hR := HR.out
        rw [if_pos c2] at hR
        subst hR
        clear HR hnil henc hby hbd
        generalize l.drop p = t1 at *
        have key : (r : Int) = 10 ∨ (¬ (r : Int) = 10 ∧ (r : Int) = 65533 ∧ (wd : Int) < 3) := by omega
        clear c2 c1
        rcases key with e1 | ⟨e0, e1, e2⟩
        · obtain rfl : r = 10 := by omega
          clear e1
          go_wp2_with fail
          refine HD.out.mono ?_
          rintro e w2 ⟨rfl, hg2⟩
          have H2 := hidJ (gb_none hBd.out.2 hg2)
          clear hg2 HD hBd
          go_wp2
          try rw [Exit.noGoto_ret]
          go_ret2
          exact ⟨rfl, H2.out⟩
        · obtain rfl : r = 65533 := by omega
          clear e0 e1
          go_wp2_with fail
          refine HD.out.mono ?_
          rintro e w2 ⟨rfl, hg2⟩
          have H2 := hidJ (gb_none hBd.out.2 hg2)
          clear hg2 HD hBd
          go_wp2
          try rw [Exit.noGoto_ret]
          go_ret2
          exact ⟨rfl, H2.out⟩
      · have HR2 := hidJ (HR.out.trans (if_neg c2))
        have hne2 : l.drop p ≠ [] := fun h => c2 (Or.inr (hnil.out h))
        have hw1 := hbd.out hne2
        clear HR hnil hbd
        by_cases c4 : r = 92
        · subst c4
          obtain ⟨-, hwd, -⟩ := hby.out (by decide)
          subst hwd
          have HR3 := hidJ (HR2.out.trans (if_pos rfl))
          have hx2 := ext_drop l (p + 1)
          have hl2 : (l.drop (p + 1)).length = l.length - (p + 1) := List.length_drop
          have HEs := hidJ (fun W h => escaped_any W (l.drop (p + 1)) (by omega) h)
          have hes := escW_le (l.drop (p + 1))
          clear HR2 henc hby c1 c2
          generalize l.drop (p + 1) = t2 at *
          generalize escW t2 = es at *
          obtain ⟨sc, bh⟩ := es
          dsimp only at *
          generalize l.drop p = t1 at *
          by_cases z : bh = 0
          · subst z
            have hR := HR3.out
            rw [if_pos rfl] at hR
            subst hR
            clear HR3
            go_wp2_with fail
            refine HD.out.mono ?_
            rintro e w2 ⟨rfl, hg2⟩
            have H2 := hidJ (gb_none hBd.out.2 hg2)
            clear hg2 HD hBd
            go_wp2_with fail
            refine (HEs.out _ (HT.out.keep H2.out)).mono ?_
            rintro e w3 ⟨rfl, hg3⟩
            have H3 := hidJ (gb_none H2.out hg3)
            clear hg3 H2 HEs
            go_wp2
            try rw [Exit.noGoto_ret]
            go_ret2
            exact ⟨rfl, H3.out⟩
          · have zi : ¬ (bh : Int) = 0 := by omega
            have HR4 := hidJ (HR3.out.trans (if_neg z)).symm
            have hsc : sc < 128 := hes.2.2 z
            have hen := hidJ (enc_ascii sc hsc)
            clear HR3
            go_wp2_with fail
            refine HD.out.mono ?_
            rintro e w2 ⟨rfl, hg2⟩
            have H2 := hidJ (show Bdr w2 w.heap.size w.heap.size acc ∧ w.grownBy w2 none from ⟨hBd.out.1.keep hg2, gb_none hBd.out.2 hg2⟩)
            clear hg2 HD hBd
            go_wp2_with fail
            refine (HEs.out _ (HT.out.keep H2.out.2)).mono ?_
            rintro e w3 ⟨rfl, hg3⟩
            have H3 := hidJ (show Bdr w3 w.heap.size w.heap.size acc ∧ w.grownBy w3 none from ⟨H2.out.1.keep hg3, gb_none H2.out.2 hg3⟩)
            clear hg3 H2 HEs
            go_wp2_with fail
            refine (bWriteRune w3 _ _ acc (sc : Int) (by omega) (by omega) H3.out.1 (by omega) H3.out.2.size).mono ?_
            rintro e w4 ⟨⟨v, rfl⟩, hb4, hl4, -⟩
            rw [hen.out] at hb4
            have H4 := hidJ (show Bdr w4 w.heap.size w.heap.size (acc ++ [UInt8.ofNat sc]) ∧ w.grownBy w4 none from ⟨hb4, gb_lower H3.out.2 hl4⟩)
            clear hb4 hl4 H3
            go_wp2
            go_roundg k
            case measure => omega
            case rel => exact ⟨p + (1 + bh), f, acc ++ [UInt8.ofNat sc], by go_num, by omega, by omega, by omega, by omega, by rw [List.length_append]; simp only [List.length_cons, List.length_nil]; omega, HR4.out, H4.out.1, H4.out.2⟩
        · have n4 : ¬ (r : Int) = 92 := by omega
          have HR3 := hidJ (HR2.out.trans (if_neg c4)).symm
          have hen := hidJ (henc.out hne2 (fun e => c2 (Or.inr e)))
          have htk : ((l.drop p).take wd).length ≤ wd := by rw [List.length_take]; omega
          have n2 : ¬ (r : Int) = 10 := by omega
          have n3 : ¬ (r : Int) = 65533 ∨ ((r : Int) = 65533 ∧ ¬ (wd : Int) < 3) := by omega
          clear HR2 henc hby c1 c2 c4 hne2
          generalize (l.drop p).take wd = tk at *
          generalize l.drop p = t1 at *
          rcases n3 with n3 | ⟨n3, n5⟩
          · go_wp2_with fail
            refine HD.out.mono ?_
            rintro e w2 ⟨rfl, hg2⟩
            have H2 := hidJ (show Bdr w2 w.heap.size w.heap.size acc ∧ w.grownBy w2 none from ⟨hBd.out.1.keep hg2, gb_none hBd.out.2 hg2⟩)
            clear hg2 HD hBd
            go_wp2_with fail
            refine (bWriteRune w2 _ _ acc (r : Int) (by omega) (by omega) H2.out.1 (by omega) H2.out.2.size).mono ?_
            rintro e w4 ⟨⟨v, rfl⟩, hb4, hl4, -⟩
            rw [hen.out] at hb4
            have H4 := hidJ (show Bdr w4 w.heap.size w.heap.size (acc ++ tk) ∧ w.grownBy w4 none from ⟨hb4, gb_lower H2.out.2 hl4⟩)
            clear hb4 hl4 H2
            go_wp2
            go_roundg k
            case measure => omega
            case rel => exact ⟨p + wd, f, acc ++ tk, by go_num, by omega, by omega, by omega, by omega, by rw [List.length_append]; omega, HR3.out, H4.out.1, H4.out.2⟩
          · obtain rfl : r = 65533 := by omega
            clear n1 n2 n3 n4
            have h655 : ((65533 : Nat) : Int) = 65533 := rfl
            rw [h655] at hen
            go_wp2_with fail
            refine HD.out.mono ?_
            rintro e w2 ⟨rfl, hg2⟩
            have H2 := hidJ (show Bdr w2 w.heap.size w.heap.size acc ∧ w.grownBy w2 none from ⟨hBd.out.1.keep hg2, gb_none hBd.out.2 hg2⟩)
            clear hg2 HD hBd
            go_wp2_with (go_at_call 66; refine (runeLen_bad _).mono ?_; rintro e w' ⟨rfl, rfl⟩)
            refine (bWriteRune w' _ _ acc 65533 (by omega) (by omega) H2.out.1 (by omega) H2.out.2.size).mono ?_
            rintro e w4 ⟨⟨v, rfl⟩, hb4, hl4, -⟩
            rw [hen.out] at hb4
            have H4 := hidJ (show Bdr w4 w.heap.size w.heap.size (acc ++ tk) ∧ w.grownBy w4 none from ⟨hb4, gb_lower H2.out.2 hl4⟩)
            clear hb4 hl4 H2
            go_wp2
            go_roundg k
            case measure => omega
            case rel => exact ⟨p + wd, f, acc ++ tk, by go_num, by omega, by omega, by omega, by omega, by rw [List.length_append]; omega, HR3.out, H4.out.1, H4.out.2⟩
end Go.Proofs.YtifjdfmmafbhkaaGreatDoor
