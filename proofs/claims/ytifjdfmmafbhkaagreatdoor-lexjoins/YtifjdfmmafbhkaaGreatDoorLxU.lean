/-
  A duration as text: the library's decimal digits, lex.SpanText: the walks.
-/
import Derived.Test.YtifjdfmmafbhkaaGreatDoorLxT
import Derived.Test.YtifjdfmmafbhkaaGreatDoorShelfF
import Derived.Lib.ItoaLen
import Derived.Deep.RegionHeld3
namespace Go.Proofs.YtifjdfmmafbhkaaGreatDoor
open Go.RowKit

/-- the table of powers of ten holds what its initialiser lays -/
def P10 (w : World) : Prop := Lib.TabIs Tryz.prog w "internal/strconv.uint64pow10" .u64 Lib.pow10Tab
theorem gP10 : Tryz.prog.globalNamed "internal/strconv.uint64pow10" = some 4 := by kernel_rfl
theorem P10.keep {w w' : World} (h : P10 w) (hg : w.grownBy w' none) : P10 w' := by
  unfold P10 Lib.TabIs World.var? at h ⊢
  rw [gP10] at h ⊢
  simp only [Option.bind_some] at h ⊢
  have hlt : 4 < w.heap.size := by
    rcases Nat.lt_or_ge 4 w.heap.size with h' | h'
    · exact h'
    · rw [Array.getElem?_eq_none h'] at h; cases h
  rw [hg.block _ hlt (by simp)]
  exact h
theorem grow_gb (w : World) (os : Array Obj) : w.grownBy (Go.Sort.grow w os) none :=
  ⟨rfl, rfl, rfl, by unfold Go.Sort.grow; simp, fun k hk _ => by unfold Go.Sort.grow; exact Array.getElem?_append_left hk⟩
theorem formatInt_any (w : World) (n : Nat) (hn : n ≤ 9223372036854775807) (hP : P10 w) :
    Calls Tryz.prog 35 #[.int .i64 (n : Int), .int .i64 10] w fun e w' => e = .returned (.string (ByteArray.mk ⟨Lib.itoa (n : Int)⟩)) ∧ w.grownBy w' none := by
  refine (Any.strconv_FormatInt_10 Tryz.lays173 (n : Int) (by omega) (by omega) w hP).mono ?_
  rintro e w' ⟨h1, k, os, rfl⟩
  exact ⟨h1, gb_none (show w.grownBy (w.drewN k) none from ⟨rfl, rfl, rfl, Nat.le_refl _, fun _ _ _ => rfl⟩) (grow_gb _ _)⟩
def SomeV (e : Ending) : Prop := ∃ v, e = .returned v
/-- a builder, and a unit beside it -/
def StW (w W : World) (b6 : Nat) (us : LxS) (m : Int) (acc : LxS) : Prop := Bdr W w.heap.size w.heap.size acc ∧ w.grownBy W none ∧ W.heap[b6]? = some (.cells #[.string (ByteArray.mk ⟨us⟩), .int .i64 m] 74 (0, 0)) ∧ w.heap.size < b6
theorem StW.keep {w W W' : World} {b6 : Nat} {us acc : LxS} {m : Int} (h : StW w W b6 us m acc) (hg : W.grownBy W' none) : StW w W' b6 us m acc :=
  ⟨h.1.keep hg, gb_none h.2.1 hg, blk_keep h.2.2.1 hg, h.2.2.2⟩
theorem StW.drew {w W : World} {b6 : Nat} {us acc : LxS} {m : Int} (h : StW w W b6 us m acc) : StW w W.drew b6 us m acc := h.keep (gb_drew _ _)
theorem StW.wrote {w W W' : World} {b6 : Nat} {us acc acc' : LxS} {m : Int} (h : StW w W b6 us m acc) (hb : Bdr W' w.heap.size w.heap.size acc') (hl : Below w.heap.size W W') (ho : Oth w.heap.size W W') : StW w W' b6 us m acc' :=
  ⟨hb, gb_lower h.2.1 hl, ho b6 _ h.2.2.1 (fun e => by have := h.2.2.2; simp only [Option.some.injEq] at e; omega) (fun c fz e => by injection e with e1 e2; exact absurd e2 (by decide)), h.2.2.2⟩
theorem StW.cells {w W : World} {b6 : Nat} {us acc : LxS} {m : Int} (h : StW w W b6 us m acc) : W.cell? ⟨b6, 0, none⟩ = some (.string (ByteArray.mk ⟨us⟩)) ∧ W.cell? ⟨b6, 1, none⟩ = some (.int .i64 m) :=
  ⟨by rw [Lib.cell_of_heap h.2.2.1]; rfl, by rw [Lib.cell_of_heap h.2.2.1]; rfl⟩
theorem mk_app (a b : LxS) : ByteArray.mk ⟨a⟩ ++ ByteArray.mk ⟨b⟩ = ByteArray.mk ⟨a ++ b⟩ := by
  apply ByteArray.ext
  apply Array.toList_inj.1
  simp
/-- the units from i on: what is written behind acc -/
def spS : Nat → Nat → Nat → LxS → LxS
  | 0, _, _, acc => acc
  | f + 1, i, m, acc => if 0 < m / unM i then spS f (i + 1) (m - m / unM i * unM i) (acc ++ (Lib.itoa ((m / unM i : Nat) : Int) ++ unS i)) else spS f (i + 1) m acc
/-- a duration's text, and the fault -/
def spT (n : Int) : LxS × Int := if n < 0 ∨ 1099511627776 < n then ([], 1) else if n = 0 then ([48, 115], 0) else (spS 7 0 n.toNat [], 0)
theorem idx_unit0 (W : World) (v0 v1 v2 v3 v4 v5 v6 v7 v8 v9 v10 v11 v12 v13 : Value) : (Instr.index 75 (.agg #[v0, v1, v2, v3, v4, v5, v6, v7, v8, v9, v10, v11, v12, v13]) (.int .i64 0)).run Tryz.prog W = .ok (.agg #[v0, v1]) W := by
  simp [Instr.index, run_underlying Tryz.underlying75, asIntOf, go_sem, Tryz.sizeOf74, Tryz.isAgg74]
theorem idx_unit1 (W : World) (v0 v1 v2 v3 v4 v5 v6 v7 v8 v9 v10 v11 v12 v13 : Value) : (Instr.index 75 (.agg #[v0, v1, v2, v3, v4, v5, v6, v7, v8, v9, v10, v11, v12, v13]) (.int .i64 1)).run Tryz.prog W = .ok (.agg #[v2, v3]) W := by
  simp [Instr.index, run_underlying Tryz.underlying75, asIntOf, go_sem, Tryz.sizeOf74, Tryz.isAgg74]
theorem idx_unit2 (W : World) (v0 v1 v2 v3 v4 v5 v6 v7 v8 v9 v10 v11 v12 v13 : Value) : (Instr.index 75 (.agg #[v0, v1, v2, v3, v4, v5, v6, v7, v8, v9, v10, v11, v12, v13]) (.int .i64 2)).run Tryz.prog W = .ok (.agg #[v4, v5]) W := by
  simp [Instr.index, run_underlying Tryz.underlying75, asIntOf, go_sem, Tryz.sizeOf74, Tryz.isAgg74]
theorem idx_unit3 (W : World) (v0 v1 v2 v3 v4 v5 v6 v7 v8 v9 v10 v11 v12 v13 : Value) : (Instr.index 75 (.agg #[v0, v1, v2, v3, v4, v5, v6, v7, v8, v9, v10, v11, v12, v13]) (.int .i64 3)).run Tryz.prog W = .ok (.agg #[v6, v7]) W := by
  simp [Instr.index, run_underlying Tryz.underlying75, asIntOf, go_sem, Tryz.sizeOf74, Tryz.isAgg74]
theorem idx_unit4 (W : World) (v0 v1 v2 v3 v4 v5 v6 v7 v8 v9 v10 v11 v12 v13 : Value) : (Instr.index 75 (.agg #[v0, v1, v2, v3, v4, v5, v6, v7, v8, v9, v10, v11, v12, v13]) (.int .i64 4)).run Tryz.prog W = .ok (.agg #[v8, v9]) W := by
  simp [Instr.index, run_underlying Tryz.underlying75, asIntOf, go_sem, Tryz.sizeOf74, Tryz.isAgg74]
theorem idx_unit5 (W : World) (v0 v1 v2 v3 v4 v5 v6 v7 v8 v9 v10 v11 v12 v13 : Value) : (Instr.index 75 (.agg #[v0, v1, v2, v3, v4, v5, v6, v7, v8, v9, v10, v11, v12, v13]) (.int .i64 5)).run Tryz.prog W = .ok (.agg #[v10, v11]) W := by
  simp [Instr.index, run_underlying Tryz.underlying75, asIntOf, go_sem, Tryz.sizeOf74, Tryz.isAgg74]
theorem idx_unit6 (W : World) (v0 v1 v2 v3 v4 v5 v6 v7 v8 v9 v10 v11 v12 v13 : Value) : (Instr.index 75 (.agg #[v0, v1, v2, v3, v4, v5, v6, v7, v8, v9, v10, v11, v12, v13]) (.int .i64 6)).run Tryz.prog W = .ok (.agg #[v12, v13]) W := by
  simp [Instr.index, run_underlying Tryz.underlying75, asIntOf, go_sem, Tryz.sizeOf74, Tryz.isAgg74]
set_option maxRecDepth 8000 in
set_option maxHeartbeats 6400000 in
theorem spanText_any (w : World) (n : Int) (hU : UnT w) (hP : P10 w) :
    Calls Tryz.prog 24 #[.int .i64 n] w fun e w' => e = .returned (.tuple #[.string (ByteArray.mk ⟨(spT n).1⟩), .int .i64 (spT n).2]) ∧ w.grownBy w' none := by
  have HR := hidJ (show spT n = if n < 0 ∨ 1099511627776 < n then ([], 1) else if n = 0 then ([48, 115], 0) else (spS 7 0 n.toNat [], 0) from rfl)
  generalize spT n = R at *
  by_cases c1 : n < 0 ∨ 1099511627776 < n
  · have hR := HR.out
    rw [if_pos c1] at hR
    subst hR
    have c2 : n < 0 ∨ (¬ n < 0 ∧ 1099511627776 < n) := by omega
    clear HR c1
    rcases c2 with c2 | ⟨c3, c2⟩
    all_goals
      go_enter Tryz.func24, Tryz.ntmps24
      go_wp2
      go_ret2
      exact ⟨rfl, gb_refl _ _⟩
  · have d1 : ¬ n < 0 := by omega
    have d2 : ¬ 1099511627776 < n := by omega
    have HR2 := hidJ (HR.out.trans (if_neg c1))
    clear HR c1
    by_cases c2 : n = 0
    · have hR := HR2.out
      rw [if_pos c2] at hR
      subst hR
      subst c2
      clear HR2
      go_enter Tryz.func24, Tryz.ntmps24
      go_wp2
      go_ret2
      exact ⟨rfl, gb_refl _ _⟩
    · have hR := HR2.out
      rw [if_neg c2] at hR
      obtain ⟨m0, rfl⟩ : ∃ m : Nat, n = (m : Int) := ⟨n.toNat, by omega⟩
      rw [Int.toNat_natCast] at hR
      obtain ⟨S, hS⟩ : ∃ S, spS 7 0 m0 [] = S := ⟨_, rfl⟩
      rw [hS] at hR
      subst hR
      have HS := hidJ hS
      have HU := hidJ hU
      have HP := hidJ hP
      clear HR2 hS hU hP
      have H0 := hidJ (show Bdr (w.alloc (.cells #[.pointer none, .slice none 0 0] 41)) w.heap.size w.heap.size [] ∧ w.grownBy (w.alloc (.cells #[.pointer none, .slice none 0 0] 41)) none from ⟨Lib.IsBuilderF.of (Lib.fresh_isBuilder 41 5 w), World.grownBy_alloc _ _ _⟩)
      have hUa := HU.out.keep H0.out.2
      have U0 := hUa 0 (by decide)
      have U1 := hUa 1 (by decide)
      have U2 := hUa 2 (by decide)
      have U3 := hUa 3 (by decide)
      have U4 := hUa 4 (by decide)
      have U5 := hUa 5 (by decide)
      have U6 := hUa 6 (by decide)
      simp only [Nat.reduceMul, Nat.reduceAdd, Nat.zero_mul, Nat.zero_add, Nat.one_mul] at U0 U1 U2 U3 U4 U5 U6
      clear hUa
      obtain ⟨ua0, ub0⟩ := U0
      obtain ⟨ua1, ub1⟩ := U1
      obtain ⟨ua2, ub2⟩ := U2
      obtain ⟨ua3, ub3⟩ := U3
      obtain ⟨ua4, ub4⟩ := U4
      obtain ⟨ua5, ub5⟩ := U5
      obtain ⟨ua6, ub6⟩ := U6
      go_enter Tryz.func24, Tryz.ntmps24
      go_wp2_with fail
      clear ua0 ub0 ua1 ub1 ua2 ub2 ua3 ub3 ua4 ub4 ua5 ub5 ua6 ub6
      generalize w.alloc (.cells #[.pointer none, .slice none 0 0] 41) = W0 at *
      go_loopg [0, 17] 8 (fun gk v0 v17 wr => ∃ (i m : Nat) (acc : LxS), v0 = .int .i64 (m : Int) ∧ v17 = .int .i64 (i : Int) ∧ i ≤ 7 ∧ 7 < i + gk ∧ m ≤ 1099511627776 ∧ acc.length ≤ 30 * i ∧ Hid (spS (7 - i) i m acc = S ∧ Bdr wr w.heap.size w.heap.size acc ∧ w.grownBy wr none))
      case atStart => exact ⟨0, m0, [], rfl, rfl, by omega, by omega, by omega, by simp, HS.out, H0.out.1, H0.out.2⟩
      case round =>
        obtain ⟨i, m, acc, rfl, rfl, hi, hg, hm, hac, hr⟩ := hrel
        clear HS H0
        by_cases c7 : i = 7
        · subst c7
          have hS : acc = S := hr.out.1
          subst hS
          have HB := hidJ hr.out.2
          clear hr
          go_wp2_with fail
          refine (bString wr _ _ _ HB.out.1 HB.out.2.size).mono ?_
          rintro e w3 ⟨rfl, hb3⟩
          have H3 := hidJ (gb_lower HB.out.2 hb3)
          clear hb3 HB
          go_wp2
          go_ret2
          exact ⟨rfl, H3.out⟩
        · obtain ⟨k, rfl⟩ : ∃ k, gk = k + 1 := ⟨gk - 1, by omega⟩
          have hi7 : i = 0 ∨ i = 1 ∨ i = 2 ∨ i = 3 ∨ i = 4 ∨ i = 5 ∨ i = 6 := by omega
          clear hi c7
          rcases hi7 with rfl | rfl | rfl | rfl | rfl | rfl | rfl
          · have htr : True := trivial
            have HE := hidJ (show (if 0 < m / 31536000000 then spS (7 - 1) 1 (m - m / 31536000000 * 31536000000) (acc ++ (Lib.itoa ((m / 31536000000 : Nat) : Int) ++ unS 0)) else spS (7 - 1) 1 m acc) = S from hr.out.1)
            have HB := hidJ hr.out.2
            clear hr htr
            obtain ⟨q, hqd⟩ : ∃ q, m / 31536000000 = q := ⟨_, rfl⟩
            rw [hqd] at HE
            have hq2 : (m : Int) / ((unM 0 : Nat) : Int) = (q : Int) := by rw [← hqd]; exact (Int.natCast_ediv m 31536000000).symm
            have hqm : q * 31536000000 ≤ m := by rw [← hqd]; exact Nat.div_mul_le_self m 31536000000
            have hqm2 : q ≤ m := by rw [← hqd]; exact Nat.div_le_self m 31536000000
            clear hqd
            have q0 : (wr.alloc (.cells #[.string (ByteArray.mk ⟨unS 0⟩), .int .i64 ((unM 0 : Nat) : Int)] 74)).cell? ⟨wr.heap.size, 0, none⟩ = some (.string (ByteArray.mk ⟨unS 0⟩)) := cell_two_new wr _ _ _ 0 _ rfl
            have q1 : (wr.alloc (.cells #[.string (ByteArray.mk ⟨unS 0⟩), .int .i64 ((unM 0 : Nat) : Int)] 74)).cell? ⟨wr.heap.size, 1, none⟩ = some (.int .i64 ((unM 0 : Nat) : Int)) := by simp
            have H2 := hidJ (show Bdr (wr.alloc (.cells #[.string (ByteArray.mk ⟨unS 0⟩), .int .i64 ((unM 0 : Nat) : Int)] 74)) w.heap.size w.heap.size acc ∧ w.grownBy (wr.alloc (.cells #[.string (ByteArray.mk ⟨unS 0⟩), .int .i64 ((unM 0 : Nat) : Int)] 74)) none from ⟨HB.out.1.keep (World.grownBy_alloc _ _ _), gb_none HB.out.2 (World.grownBy_alloc _ _ _)⟩)
            have hnz : ¬ ((unM 0 : Nat) : Int) = 0 := by decide
            have hix := fun W => idx_unit0 W (.string (ByteArray.mk ⟨unS 0⟩)) (.int .i64 ((unM 0 : Nat) : Int)) (.string (ByteArray.mk ⟨unS 1⟩)) (.int .i64 ((unM 1 : Nat) : Int)) (.string (ByteArray.mk ⟨unS 2⟩)) (.int .i64 ((unM 2 : Nat) : Int)) (.string (ByteArray.mk ⟨unS 3⟩)) (.int .i64 ((unM 3 : Nat) : Int)) (.string (ByteArray.mk ⟨unS 4⟩)) (.int .i64 ((unM 4 : Nat) : Int)) (.string (ByteArray.mk ⟨unS 5⟩)) (.int .i64 ((unM 5 : Nat) : Int)) (.string (ByteArray.mk ⟨unS 6⟩)) (.int .i64 ((unM 6 : Nat) : Int))
            by_cases z : 0 < q
            · have zi : (0 : Int) < (q : Int) := by omega
              have hE := HE.out
              rw [if_pos z] at hE
              have HE2 := hidJ hE
              clear hE HE
              have hbd : Hid (StW w (wr.alloc (.cells #[.string (ByteArray.mk ⟨unS 0⟩), .int .i64 ((unM 0 : Nat) : Int)] 74)) wr.heap.size (unS 0) ((unM 0 : Nat) : Int) acc) := ⟨H2.out.1, H2.out.2, alloc_at _ _, Nat.lt_of_lt_of_le (show w.heap.size < wr.heap.size by rcases HB.out.1 with h | h <;> exact (Lib.BuilderAtF.lt h)) (Nat.le_refl _)⟩
              have hil : (Lib.itoa (q : Int)).length ≤ 21 := Lib.itoa_length_le _ (by omega) (by omega)
              have hul : (unS 0).length ≤ 2 := by decide
              go_wp2_with fail
              clear H2 HB q0 q1 hix
              generalize wr.alloc (.cells #[.string (ByteArray.mk ⟨unS 0⟩), .int .i64 ((unM 0 : Nat) : Int)] 74) = W2 at *
              generalize wr.heap.size = b6 at *
              have hcat := mk_app (Lib.itoa (q : Int)) (unS 0)
              have hzi : (ByteArray.mk ⟨Lib.itoa (q : Int)⟩).size = (Lib.itoa (q : Int)).length := rfl
              have hzu : (ByteArray.mk ⟨unS 0⟩).size = (unS 0).length := rfl
              have HF : Hid (∀ W, StW w W b6 (unS 0) ((unM 0 : Nat) : Int) acc → Calls Tryz.prog 35 #[.int .i64 (q : Int), .int .i64 10] W fun e w' => e = .returned (.string (ByteArray.mk ⟨Lib.itoa (q : Int)⟩)) ∧ Hid (StW w w' b6 (unS 0) ((unM 0 : Nat) : Int) acc) ∧ w'.cell? ⟨b6, 0, none⟩ = some (.string (ByteArray.mk ⟨unS 0⟩))) := fun W h => (formatInt_any W q (by omega) (HP.out.keep h.2.1)).mono fun e w' ⟨h1, h2⟩ => ⟨h1, h.keep h2, (h.keep h2).cells.1⟩
              have HWs : Hid (∀ W, StW w W b6 (unS 0) ((unM 0 : Nat) : Int) acc → Calls Tryz.prog 27 #[.pointer (some ⟨w.heap.size, 0, none⟩), .string (ByteArray.mk ⟨Lib.itoa (q : Int) ++ unS 0⟩)] W fun e w' => SomeV e ∧ Hid (StW w w' b6 (unS 0) ((unM 0 : Nat) : Int) (acc ++ (Lib.itoa (q : Int) ++ (unS 0)))) ∧ w'.cell? ⟨b6, 0, none⟩ = some (.string (ByteArray.mk ⟨unS 0⟩))) := fun W h => (bWriteString W _ _ acc (Lib.itoa (q : Int) ++ (unS 0)) h.1 (by rw [List.length_append]; omega) h.2.1.size).mono fun e w' ⟨h1, h2, h3, h4⟩ => ⟨h1, h.wrote h2 h3 h4, (h.wrote h2 h3 h4).cells.1⟩
              have hacl : (acc ++ (Lib.itoa (q : Int) ++ (unS 0))).length ≤ acc.length + 23 := by rw [List.length_append, List.length_append]; omega
              have c0 := hbd.out.cells.1
              generalize Lib.itoa (q : Int) = it at *
              generalize acc ++ (it ++ (unS 0)) = acc2 at *
              have hno : ¬ 9223372036854775807 < it.length + (unS 0).length := by omega
              obtain ⟨PR, hPR⟩ : ∃ x, q * 31536000000 = x := ⟨_, rfl⟩
              rw [hPR] at HE2 hqm
              have hmul : (q : Int) * ((unM 0 : Nat) : Int) = (PR : Int) := by rw [← hPR]; exact (Int.natCast_mul q 31536000000).symm
              clear hPR HU
              go_region_held3 (fun w' => w'.cell? ⟨b6, 0, none⟩ = some (.string (ByteArray.mk ⟨unS 0⟩))) (go_keep)
                (first
                  | (go_at_call 35; refine (HF.out _ ?_).mono ?_; (first | exact hbd.out | exact hbd.out.drew); rintro e w2 ⟨rfl, H2, c22⟩)
                  | (go_at_call 27; refine (HWs.out _ ?_).mono ?_; (first | exact H2.out | exact H2.out.drew); rintro e w3 ⟨⟨v, rfl⟩, H3, c33⟩))
              have c1 := H3.out.cells.2
              have hmp : ((m - PR : Nat) : Int) = (m : Int) - (PR : Int) := by omega
              go_wp2
              go_roundg k
              case measure => omega
              case rel => exact ⟨1, m - PR, acc2, by rw [hmp], by go_num, by omega, by omega, by omega, by omega, HE2.out, H3.out.1, H3.out.2.1⟩
            · have zi : ¬ (0 : Int) < (q : Int) := by omega
              have hE := HE.out
              rw [if_neg z] at hE
              have HE2 := hidJ hE
              clear hE HE
              go_wp2
              go_roundg k
              case measure => omega
              case rel => exact ⟨1, m, acc, rfl, by go_num, by omega, by omega, by omega, by omega, HE2.out, H2.out.1, H2.out.2⟩
          · have htr : True := trivial
            have HE := hidJ (show (if 0 < m / 604800000 then spS (7 - 2) 2 (m - m / 604800000 * 604800000) (acc ++ (Lib.itoa ((m / 604800000 : Nat) : Int) ++ unS 1)) else spS (7 - 2) 2 m acc) = S from hr.out.1)
            have HB := hidJ hr.out.2
            clear hr htr
            obtain ⟨q, hqd⟩ : ∃ q, m / 604800000 = q := ⟨_, rfl⟩
            rw [hqd] at HE
            have hq2 : (m : Int) / ((unM 1 : Nat) : Int) = (q : Int) := by rw [← hqd]; exact (Int.natCast_ediv m 604800000).symm
            have hqm : q * 604800000 ≤ m := by rw [← hqd]; exact Nat.div_mul_le_self m 604800000
            have hqm2 : q ≤ m := by rw [← hqd]; exact Nat.div_le_self m 604800000
            clear hqd
            have q0 : (wr.alloc (.cells #[.string (ByteArray.mk ⟨unS 1⟩), .int .i64 ((unM 1 : Nat) : Int)] 74)).cell? ⟨wr.heap.size, 0, none⟩ = some (.string (ByteArray.mk ⟨unS 1⟩)) := cell_two_new wr _ _ _ 0 _ rfl
            have q1 : (wr.alloc (.cells #[.string (ByteArray.mk ⟨unS 1⟩), .int .i64 ((unM 1 : Nat) : Int)] 74)).cell? ⟨wr.heap.size, 1, none⟩ = some (.int .i64 ((unM 1 : Nat) : Int)) := by simp
            have H2 := hidJ (show Bdr (wr.alloc (.cells #[.string (ByteArray.mk ⟨unS 1⟩), .int .i64 ((unM 1 : Nat) : Int)] 74)) w.heap.size w.heap.size acc ∧ w.grownBy (wr.alloc (.cells #[.string (ByteArray.mk ⟨unS 1⟩), .int .i64 ((unM 1 : Nat) : Int)] 74)) none from ⟨HB.out.1.keep (World.grownBy_alloc _ _ _), gb_none HB.out.2 (World.grownBy_alloc _ _ _)⟩)
            have hnz : ¬ ((unM 1 : Nat) : Int) = 0 := by decide
            have hix := fun W => idx_unit1 W (.string (ByteArray.mk ⟨unS 0⟩)) (.int .i64 ((unM 0 : Nat) : Int)) (.string (ByteArray.mk ⟨unS 1⟩)) (.int .i64 ((unM 1 : Nat) : Int)) (.string (ByteArray.mk ⟨unS 2⟩)) (.int .i64 ((unM 2 : Nat) : Int)) (.string (ByteArray.mk ⟨unS 3⟩)) (.int .i64 ((unM 3 : Nat) : Int)) (.string (ByteArray.mk ⟨unS 4⟩)) (.int .i64 ((unM 4 : Nat) : Int)) (.string (ByteArray.mk ⟨unS 5⟩)) (.int .i64 ((unM 5 : Nat) : Int)) (.string (ByteArray.mk ⟨unS 6⟩)) (.int .i64 ((unM 6 : Nat) : Int))
            by_cases z : 0 < q
            · have zi : (0 : Int) < (q : Int) := by omega
              have hE := HE.out
              rw [if_pos z] at hE
              have HE2 := hidJ hE
              clear hE HE
              have hbd : Hid (StW w (wr.alloc (.cells #[.string (ByteArray.mk ⟨unS 1⟩), .int .i64 ((unM 1 : Nat) : Int)] 74)) wr.heap.size (unS 1) ((unM 1 : Nat) : Int) acc) := ⟨H2.out.1, H2.out.2, alloc_at _ _, Nat.lt_of_lt_of_le (show w.heap.size < wr.heap.size by rcases HB.out.1 with h | h <;> exact (Lib.BuilderAtF.lt h)) (Nat.le_refl _)⟩
              have hil : (Lib.itoa (q : Int)).length ≤ 21 := Lib.itoa_length_le _ (by omega) (by omega)
              have hul : (unS 1).length ≤ 2 := by decide
              go_wp2_with fail
              clear H2 HB q0 q1 hix
              generalize wr.alloc (.cells #[.string (ByteArray.mk ⟨unS 1⟩), .int .i64 ((unM 1 : Nat) : Int)] 74) = W2 at *
              generalize wr.heap.size = b6 at *
              have hcat := mk_app (Lib.itoa (q : Int)) (unS 1)
              have hzi : (ByteArray.mk ⟨Lib.itoa (q : Int)⟩).size = (Lib.itoa (q : Int)).length := rfl
              have hzu : (ByteArray.mk ⟨unS 1⟩).size = (unS 1).length := rfl
              have HF : Hid (∀ W, StW w W b6 (unS 1) ((unM 1 : Nat) : Int) acc → Calls Tryz.prog 35 #[.int .i64 (q : Int), .int .i64 10] W fun e w' => e = .returned (.string (ByteArray.mk ⟨Lib.itoa (q : Int)⟩)) ∧ Hid (StW w w' b6 (unS 1) ((unM 1 : Nat) : Int) acc) ∧ w'.cell? ⟨b6, 0, none⟩ = some (.string (ByteArray.mk ⟨unS 1⟩))) := fun W h => (formatInt_any W q (by omega) (HP.out.keep h.2.1)).mono fun e w' ⟨h1, h2⟩ => ⟨h1, h.keep h2, (h.keep h2).cells.1⟩
              have HWs : Hid (∀ W, StW w W b6 (unS 1) ((unM 1 : Nat) : Int) acc → Calls Tryz.prog 27 #[.pointer (some ⟨w.heap.size, 0, none⟩), .string (ByteArray.mk ⟨Lib.itoa (q : Int) ++ unS 1⟩)] W fun e w' => SomeV e ∧ Hid (StW w w' b6 (unS 1) ((unM 1 : Nat) : Int) (acc ++ (Lib.itoa (q : Int) ++ (unS 1)))) ∧ w'.cell? ⟨b6, 0, none⟩ = some (.string (ByteArray.mk ⟨unS 1⟩))) := fun W h => (bWriteString W _ _ acc (Lib.itoa (q : Int) ++ (unS 1)) h.1 (by rw [List.length_append]; omega) h.2.1.size).mono fun e w' ⟨h1, h2, h3, h4⟩ => ⟨h1, h.wrote h2 h3 h4, (h.wrote h2 h3 h4).cells.1⟩
              have hacl : (acc ++ (Lib.itoa (q : Int) ++ (unS 1))).length ≤ acc.length + 23 := by rw [List.length_append, List.length_append]; omega
              have c0 := hbd.out.cells.1
              generalize Lib.itoa (q : Int) = it at *
              generalize acc ++ (it ++ (unS 1)) = acc2 at *
              have hno : ¬ 9223372036854775807 < it.length + (unS 1).length := by omega
              obtain ⟨PR, hPR⟩ : ∃ x, q * 604800000 = x := ⟨_, rfl⟩
              rw [hPR] at HE2 hqm
              have hmul : (q : Int) * ((unM 1 : Nat) : Int) = (PR : Int) := by rw [← hPR]; exact (Int.natCast_mul q 604800000).symm
              clear hPR HU
              go_region_held3 (fun w' => w'.cell? ⟨b6, 0, none⟩ = some (.string (ByteArray.mk ⟨unS 1⟩))) (go_keep)
                (first
                  | (go_at_call 35; refine (HF.out _ ?_).mono ?_; (first | exact hbd.out | exact hbd.out.drew); rintro e w2 ⟨rfl, H2, c22⟩)
                  | (go_at_call 27; refine (HWs.out _ ?_).mono ?_; (first | exact H2.out | exact H2.out.drew); rintro e w3 ⟨⟨v, rfl⟩, H3, c33⟩))
              have c1 := H3.out.cells.2
              have hmp : ((m - PR : Nat) : Int) = (m : Int) - (PR : Int) := by omega
              go_wp2
              go_roundg k
              case measure => omega
              case rel => exact ⟨2, m - PR, acc2, by rw [hmp], by go_num, by omega, by omega, by omega, by omega, HE2.out, H3.out.1, H3.out.2.1⟩
            · have zi : ¬ (0 : Int) < (q : Int) := by omega
              have hE := HE.out
              rw [if_neg z] at hE
              have HE2 := hidJ hE
              clear hE HE
              go_wp2
              go_roundg k
              case measure => omega
              case rel => exact ⟨2, m, acc, rfl, by go_num, by omega, by omega, by omega, by omega, HE2.out, H2.out.1, H2.out.2⟩
          · have htr : True := trivial
            have HE := hidJ (show (if 0 < m / 86400000 then spS (7 - 3) 3 (m - m / 86400000 * 86400000) (acc ++ (Lib.itoa ((m / 86400000 : Nat) : Int) ++ unS 2)) else spS (7 - 3) 3 m acc) = S from hr.out.1)
            have HB := hidJ hr.out.2
            clear hr htr
            obtain ⟨q, hqd⟩ : ∃ q, m / 86400000 = q := ⟨_, rfl⟩
            rw [hqd] at HE
            have hq2 : (m : Int) / ((unM 2 : Nat) : Int) = (q : Int) := by rw [← hqd]; exact (Int.natCast_ediv m 86400000).symm
            have hqm : q * 86400000 ≤ m := by rw [← hqd]; exact Nat.div_mul_le_self m 86400000
            have hqm2 : q ≤ m := by rw [← hqd]; exact Nat.div_le_self m 86400000
            clear hqd
            have q0 : (wr.alloc (.cells #[.string (ByteArray.mk ⟨unS 2⟩), .int .i64 ((unM 2 : Nat) : Int)] 74)).cell? ⟨wr.heap.size, 0, none⟩ = some (.string (ByteArray.mk ⟨unS 2⟩)) := cell_two_new wr _ _ _ 0 _ rfl
            have q1 : (wr.alloc (.cells #[.string (ByteArray.mk ⟨unS 2⟩), .int .i64 ((unM 2 : Nat) : Int)] 74)).cell? ⟨wr.heap.size, 1, none⟩ = some (.int .i64 ((unM 2 : Nat) : Int)) := by simp
            have H2 := hidJ (show Bdr (wr.alloc (.cells #[.string (ByteArray.mk ⟨unS 2⟩), .int .i64 ((unM 2 : Nat) : Int)] 74)) w.heap.size w.heap.size acc ∧ w.grownBy (wr.alloc (.cells #[.string (ByteArray.mk ⟨unS 2⟩), .int .i64 ((unM 2 : Nat) : Int)] 74)) none from ⟨HB.out.1.keep (World.grownBy_alloc _ _ _), gb_none HB.out.2 (World.grownBy_alloc _ _ _)⟩)
            have hnz : ¬ ((unM 2 : Nat) : Int) = 0 := by decide
            have hix := fun W => idx_unit2 W (.string (ByteArray.mk ⟨unS 0⟩)) (.int .i64 ((unM 0 : Nat) : Int)) (.string (ByteArray.mk ⟨unS 1⟩)) (.int .i64 ((unM 1 : Nat) : Int)) (.string (ByteArray.mk ⟨unS 2⟩)) (.int .i64 ((unM 2 : Nat) : Int)) (.string (ByteArray.mk ⟨unS 3⟩)) (.int .i64 ((unM 3 : Nat) : Int)) (.string (ByteArray.mk ⟨unS 4⟩)) (.int .i64 ((unM 4 : Nat) : Int)) (.string (ByteArray.mk ⟨unS 5⟩)) (.int .i64 ((unM 5 : Nat) : Int)) (.string (ByteArray.mk ⟨unS 6⟩)) (.int .i64 ((unM 6 : Nat) : Int))
            by_cases z : 0 < q
            · have zi : (0 : Int) < (q : Int) := by omega
              have hE := HE.out
              rw [if_pos z] at hE
              have HE2 := hidJ hE
              clear hE HE
              have hbd : Hid (StW w (wr.alloc (.cells #[.string (ByteArray.mk ⟨unS 2⟩), .int .i64 ((unM 2 : Nat) : Int)] 74)) wr.heap.size (unS 2) ((unM 2 : Nat) : Int) acc) := ⟨H2.out.1, H2.out.2, alloc_at _ _, Nat.lt_of_lt_of_le (show w.heap.size < wr.heap.size by rcases HB.out.1 with h | h <;> exact (Lib.BuilderAtF.lt h)) (Nat.le_refl _)⟩
              have hil : (Lib.itoa (q : Int)).length ≤ 21 := Lib.itoa_length_le _ (by omega) (by omega)
              have hul : (unS 2).length ≤ 2 := by decide
              go_wp2_with fail
              clear H2 HB q0 q1 hix
              generalize wr.alloc (.cells #[.string (ByteArray.mk ⟨unS 2⟩), .int .i64 ((unM 2 : Nat) : Int)] 74) = W2 at *
              generalize wr.heap.size = b6 at *
              have hcat := mk_app (Lib.itoa (q : Int)) (unS 2)
              have hzi : (ByteArray.mk ⟨Lib.itoa (q : Int)⟩).size = (Lib.itoa (q : Int)).length := rfl
              have hzu : (ByteArray.mk ⟨unS 2⟩).size = (unS 2).length := rfl
              have HF : Hid (∀ W, StW w W b6 (unS 2) ((unM 2 : Nat) : Int) acc → Calls Tryz.prog 35 #[.int .i64 (q : Int), .int .i64 10] W fun e w' => e = .returned (.string (ByteArray.mk ⟨Lib.itoa (q : Int)⟩)) ∧ Hid (StW w w' b6 (unS 2) ((unM 2 : Nat) : Int) acc) ∧ w'.cell? ⟨b6, 0, none⟩ = some (.string (ByteArray.mk ⟨unS 2⟩))) := fun W h => (formatInt_any W q (by omega) (HP.out.keep h.2.1)).mono fun e w' ⟨h1, h2⟩ => ⟨h1, h.keep h2, (h.keep h2).cells.1⟩
              have HWs : Hid (∀ W, StW w W b6 (unS 2) ((unM 2 : Nat) : Int) acc → Calls Tryz.prog 27 #[.pointer (some ⟨w.heap.size, 0, none⟩), .string (ByteArray.mk ⟨Lib.itoa (q : Int) ++ unS 2⟩)] W fun e w' => SomeV e ∧ Hid (StW w w' b6 (unS 2) ((unM 2 : Nat) : Int) (acc ++ (Lib.itoa (q : Int) ++ (unS 2)))) ∧ w'.cell? ⟨b6, 0, none⟩ = some (.string (ByteArray.mk ⟨unS 2⟩))) := fun W h => (bWriteString W _ _ acc (Lib.itoa (q : Int) ++ (unS 2)) h.1 (by rw [List.length_append]; omega) h.2.1.size).mono fun e w' ⟨h1, h2, h3, h4⟩ => ⟨h1, h.wrote h2 h3 h4, (h.wrote h2 h3 h4).cells.1⟩
              have hacl : (acc ++ (Lib.itoa (q : Int) ++ (unS 2))).length ≤ acc.length + 23 := by rw [List.length_append, List.length_append]; omega
              have c0 := hbd.out.cells.1
              generalize Lib.itoa (q : Int) = it at *
              generalize acc ++ (it ++ (unS 2)) = acc2 at *
              have hno : ¬ 9223372036854775807 < it.length + (unS 2).length := by omega
              obtain ⟨PR, hPR⟩ : ∃ x, q * 86400000 = x := ⟨_, rfl⟩
              rw [hPR] at HE2 hqm
              have hmul : (q : Int) * ((unM 2 : Nat) : Int) = (PR : Int) := by rw [← hPR]; exact (Int.natCast_mul q 86400000).symm
              clear hPR HU
              go_region_held3 (fun w' => w'.cell? ⟨b6, 0, none⟩ = some (.string (ByteArray.mk ⟨unS 2⟩))) (go_keep)
                (first
                  | (go_at_call 35; refine (HF.out _ ?_).mono ?_; (first | exact hbd.out | exact hbd.out.drew); rintro e w2 ⟨rfl, H2, c22⟩)
                  | (go_at_call 27; refine (HWs.out _ ?_).mono ?_; (first | exact H2.out | exact H2.out.drew); rintro e w3 ⟨⟨v, rfl⟩, H3, c33⟩))
              have c1 := H3.out.cells.2
              have hmp : ((m - PR : Nat) : Int) = (m : Int) - (PR : Int) := by omega
              go_wp2
              go_roundg k
              case measure => omega
              case rel => exact ⟨3, m - PR, acc2, by rw [hmp], by go_num, by omega, by omega, by omega, by omega, HE2.out, H3.out.1, H3.out.2.1⟩
            · have zi : ¬ (0 : Int) < (q : Int) := by omega
              have hE := HE.out
              rw [if_neg z] at hE
              have HE2 := hidJ hE
              clear hE HE
              go_wp2
              go_roundg k
              case measure => omega
              case rel => exact ⟨3, m, acc, rfl, by go_num, by omega, by omega, by omega, by omega, HE2.out, H2.out.1, H2.out.2⟩
          · have htr : True := trivial
            have HE := hidJ (show (if 0 < m / 3600000 then spS (7 - 4) 4 (m - m / 3600000 * 3600000) (acc ++ (Lib.itoa ((m / 3600000 : Nat) : Int) ++ unS 3)) else spS (7 - 4) 4 m acc) = S from hr.out.1)
            have HB := hidJ hr.out.2
            clear hr htr
            obtain ⟨q, hqd⟩ : ∃ q, m / 3600000 = q := ⟨_, rfl⟩
            rw [hqd] at HE
            have hq2 : (m : Int) / ((unM 3 : Nat) : Int) = (q : Int) := by rw [← hqd]; exact (Int.natCast_ediv m 3600000).symm
            have hqm : q * 3600000 ≤ m := by rw [← hqd]; exact Nat.div_mul_le_self m 3600000
            have hqm2 : q ≤ m := by rw [← hqd]; exact Nat.div_le_self m 3600000
            clear hqd
            have q0 : (wr.alloc (.cells #[.string (ByteArray.mk ⟨unS 3⟩), .int .i64 ((unM 3 : Nat) : Int)] 74)).cell? ⟨wr.heap.size, 0, none⟩ = some (.string (ByteArray.mk ⟨unS 3⟩)) := cell_two_new wr _ _ _ 0 _ rfl
            have q1 : (wr.alloc (.cells #[.string (ByteArray.mk ⟨unS 3⟩), .int .i64 ((unM 3 : Nat) : Int)] 74)).cell? ⟨wr.heap.size, 1, none⟩ = some (.int .i64 ((unM 3 : Nat) : Int)) := by simp
            have H2 := hidJ (show Bdr (wr.alloc (.cells #[.string (ByteArray.mk ⟨unS 3⟩), .int .i64 ((unM 3 : Nat) : Int)] 74)) w.heap.size w.heap.size acc ∧ w.grownBy (wr.alloc (.cells #[.string (ByteArray.mk ⟨unS 3⟩), .int .i64 ((unM 3 : Nat) : Int)] 74)) none from ⟨HB.out.1.keep (World.grownBy_alloc _ _ _), gb_none HB.out.2 (World.grownBy_alloc _ _ _)⟩)
            have hnz : ¬ ((unM 3 : Nat) : Int) = 0 := by decide
            have hix := fun W => idx_unit3 W (.string (ByteArray.mk ⟨unS 0⟩)) (.int .i64 ((unM 0 : Nat) : Int)) (.string (ByteArray.mk ⟨unS 1⟩)) (.int .i64 ((unM 1 : Nat) : Int)) (.string (ByteArray.mk ⟨unS 2⟩)) (.int .i64 ((unM 2 : Nat) : Int)) (.string (ByteArray.mk ⟨unS 3⟩)) (.int .i64 ((unM 3 : Nat) : Int)) (.string (ByteArray.mk ⟨unS 4⟩)) (.int .i64 ((unM 4 : Nat) : Int)) (.string (ByteArray.mk ⟨unS 5⟩)) (.int .i64 ((unM 5 : Nat) : Int)) (.string (ByteArray.mk ⟨unS 6⟩)) (.int .i64 ((unM 6 : Nat) : Int))
            by_cases z : 0 < q
            · have zi : (0 : Int) < (q : Int) := by omega
              have hE := HE.out
              rw [if_pos z] at hE
              have HE2 := hidJ hE
              clear hE HE
              have hbd : Hid (StW w (wr.alloc (.cells #[.string (ByteArray.mk ⟨unS 3⟩), .int .i64 ((unM 3 : Nat) : Int)] 74)) wr.heap.size (unS 3) ((unM 3 : Nat) : Int) acc) := ⟨H2.out.1, H2.out.2, alloc_at _ _, Nat.lt_of_lt_of_le (show w.heap.size < wr.heap.size by rcases HB.out.1 with h | h <;> exact (Lib.BuilderAtF.lt h)) (Nat.le_refl _)⟩
              have hil : (Lib.itoa (q : Int)).length ≤ 21 := Lib.itoa_length_le _ (by omega) (by omega)
              have hul : (unS 3).length ≤ 2 := by decide
              go_wp2_with fail
              clear H2 HB q0 q1 hix
              generalize wr.alloc (.cells #[.string (ByteArray.mk ⟨unS 3⟩), .int .i64 ((unM 3 : Nat) : Int)] 74) = W2 at *
              generalize wr.heap.size = b6 at *
              have hcat := mk_app (Lib.itoa (q : Int)) (unS 3)
              have hzi : (ByteArray.mk ⟨Lib.itoa (q : Int)⟩).size = (Lib.itoa (q : Int)).length := rfl
              have hzu : (ByteArray.mk ⟨unS 3⟩).size = (unS 3).length := rfl
              have HF : Hid (∀ W, StW w W b6 (unS 3) ((unM 3 : Nat) : Int) acc → Calls Tryz.prog 35 #[.int .i64 (q : Int), .int .i64 10] W fun e w' => e = .returned (.string (ByteArray.mk ⟨Lib.itoa (q : Int)⟩)) ∧ Hid (StW w w' b6 (unS 3) ((unM 3 : Nat) : Int) acc) ∧ w'.cell? ⟨b6, 0, none⟩ = some (.string (ByteArray.mk ⟨unS 3⟩))) := fun W h => (formatInt_any W q (by omega) (HP.out.keep h.2.1)).mono fun e w' ⟨h1, h2⟩ => ⟨h1, h.keep h2, (h.keep h2).cells.1⟩
              have HWs : Hid (∀ W, StW w W b6 (unS 3) ((unM 3 : Nat) : Int) acc → Calls Tryz.prog 27 #[.pointer (some ⟨w.heap.size, 0, none⟩), .string (ByteArray.mk ⟨Lib.itoa (q : Int) ++ unS 3⟩)] W fun e w' => SomeV e ∧ Hid (StW w w' b6 (unS 3) ((unM 3 : Nat) : Int) (acc ++ (Lib.itoa (q : Int) ++ (unS 3)))) ∧ w'.cell? ⟨b6, 0, none⟩ = some (.string (ByteArray.mk ⟨unS 3⟩))) := fun W h => (bWriteString W _ _ acc (Lib.itoa (q : Int) ++ (unS 3)) h.1 (by rw [List.length_append]; omega) h.2.1.size).mono fun e w' ⟨h1, h2, h3, h4⟩ => ⟨h1, h.wrote h2 h3 h4, (h.wrote h2 h3 h4).cells.1⟩
              have hacl : (acc ++ (Lib.itoa (q : Int) ++ (unS 3))).length ≤ acc.length + 23 := by rw [List.length_append, List.length_append]; omega
              have c0 := hbd.out.cells.1
              generalize Lib.itoa (q : Int) = it at *
              generalize acc ++ (it ++ (unS 3)) = acc2 at *
              have hno : ¬ 9223372036854775807 < it.length + (unS 3).length := by omega
              obtain ⟨PR, hPR⟩ : ∃ x, q * 3600000 = x := ⟨_, rfl⟩
              rw [hPR] at HE2 hqm
              have hmul : (q : Int) * ((unM 3 : Nat) : Int) = (PR : Int) := by rw [← hPR]; exact (Int.natCast_mul q 3600000).symm
              clear hPR HU
              go_region_held3 (fun w' => w'.cell? ⟨b6, 0, none⟩ = some (.string (ByteArray.mk ⟨unS 3⟩))) (go_keep)
                (first
                  | (go_at_call 35; refine (HF.out _ ?_).mono ?_; (first | exact hbd.out | exact hbd.out.drew); rintro e w2 ⟨rfl, H2, c22⟩)
                  | (go_at_call 27; refine (HWs.out _ ?_).mono ?_; (first | exact H2.out | exact H2.out.drew); rintro e w3 ⟨⟨v, rfl⟩, H3, c33⟩))
              have c1 := H3.out.cells.2
              have hmp : ((m - PR : Nat) : Int) = (m : Int) - (PR : Int) := by omega
              go_wp2
              go_roundg k
              case measure => omega
              case rel => exact ⟨4, m - PR, acc2, by rw [hmp], by go_num, by omega, by omega, by omega, by omega, HE2.out, H3.out.1, H3.out.2.1⟩
            · have zi : ¬ (0 : Int) < (q : Int) := by omega
              have hE := HE.out
              rw [if_neg z] at hE
              have HE2 := hidJ hE
              clear hE HE
              go_wp2
              go_roundg k
              case measure => omega
              case rel => exact ⟨4, m, acc, rfl, by go_num, by omega, by omega, by omega, by omega, HE2.out, H2.out.1, H2.out.2⟩
          · have htr : True := trivial
            have HE := hidJ (show (if 0 < m / 60000 then spS (7 - 5) 5 (m - m / 60000 * 60000) (acc ++ (Lib.itoa ((m / 60000 : Nat) : Int) ++ unS 4)) else spS (7 - 5) 5 m acc) = S from hr.out.1)
            have HB := hidJ hr.out.2
            clear hr htr
            obtain ⟨q, hqd⟩ : ∃ q, m / 60000 = q := ⟨_, rfl⟩
            rw [hqd] at HE
            have hq2 : (m : Int) / ((unM 4 : Nat) : Int) = (q : Int) := by rw [← hqd]; exact (Int.natCast_ediv m 60000).symm
            have hqm : q * 60000 ≤ m := by rw [← hqd]; exact Nat.div_mul_le_self m 60000
            have hqm2 : q ≤ m := by rw [← hqd]; exact Nat.div_le_self m 60000
            clear hqd
            have q0 : (wr.alloc (.cells #[.string (ByteArray.mk ⟨unS 4⟩), .int .i64 ((unM 4 : Nat) : Int)] 74)).cell? ⟨wr.heap.size, 0, none⟩ = some (.string (ByteArray.mk ⟨unS 4⟩)) := cell_two_new wr _ _ _ 0 _ rfl
            have q1 : (wr.alloc (.cells #[.string (ByteArray.mk ⟨unS 4⟩), .int .i64 ((unM 4 : Nat) : Int)] 74)).cell? ⟨wr.heap.size, 1, none⟩ = some (.int .i64 ((unM 4 : Nat) : Int)) := by simp
            have H2 := hidJ (show Bdr (wr.alloc (.cells #[.string (ByteArray.mk ⟨unS 4⟩), .int .i64 ((unM 4 : Nat) : Int)] 74)) w.heap.size w.heap.size acc ∧ w.grownBy (wr.alloc (.cells #[.string (ByteArray.mk ⟨unS 4⟩), .int .i64 ((unM 4 : Nat) : Int)] 74)) none from ⟨HB.out.1.keep (World.grownBy_alloc _ _ _), gb_none HB.out.2 (World.grownBy_alloc _ _ _)⟩)
            have hnz : ¬ ((unM 4 : Nat) : Int) = 0 := by decide
            have hix := fun W => idx_unit4 W (.string (ByteArray.mk ⟨unS 0⟩)) (.int .i64 ((unM 0 : Nat) : Int)) (.string (ByteArray.mk ⟨unS 1⟩)) (.int .i64 ((unM 1 : Nat) : Int)) (.string (ByteArray.mk ⟨unS 2⟩)) (.int .i64 ((unM 2 : Nat) : Int)) (.string (ByteArray.mk ⟨unS 3⟩)) (.int .i64 ((unM 3 : Nat) : Int)) (.string (ByteArray.mk ⟨unS 4⟩)) (.int .i64 ((unM 4 : Nat) : Int)) (.string (ByteArray.mk ⟨unS 5⟩)) (.int .i64 ((unM 5 : Nat) : Int)) (.string (ByteArray.mk ⟨unS 6⟩)) (.int .i64 ((unM 6 : Nat) : Int))
            by_cases z : 0 < q
            · have zi : (0 : Int) < (q : Int) := by omega
              have hE := HE.out
              rw [if_pos z] at hE
              have HE2 := hidJ hE
              clear hE HE
              have hbd : Hid (StW w (wr.alloc (.cells #[.string (ByteArray.mk ⟨unS 4⟩), .int .i64 ((unM 4 : Nat) : Int)] 74)) wr.heap.size (unS 4) ((unM 4 : Nat) : Int) acc) := ⟨H2.out.1, H2.out.2, alloc_at _ _, Nat.lt_of_lt_of_le (show w.heap.size < wr.heap.size by rcases HB.out.1 with h | h <;> exact (Lib.BuilderAtF.lt h)) (Nat.le_refl _)⟩
              have hil : (Lib.itoa (q : Int)).length ≤ 21 := Lib.itoa_length_le _ (by omega) (by omega)
              have hul : (unS 4).length ≤ 2 := by decide
              go_wp2_with fail
              clear H2 HB q0 q1 hix
              generalize wr.alloc (.cells #[.string (ByteArray.mk ⟨unS 4⟩), .int .i64 ((unM 4 : Nat) : Int)] 74) = W2 at *
              generalize wr.heap.size = b6 at *
              have hcat := mk_app (Lib.itoa (q : Int)) (unS 4)
              have hzi : (ByteArray.mk ⟨Lib.itoa (q : Int)⟩).size = (Lib.itoa (q : Int)).length := rfl
              have hzu : (ByteArray.mk ⟨unS 4⟩).size = (unS 4).length := rfl
              have HF : Hid (∀ W, StW w W b6 (unS 4) ((unM 4 : Nat) : Int) acc → Calls Tryz.prog 35 #[.int .i64 (q : Int), .int .i64 10] W fun e w' => e = .returned (.string (ByteArray.mk ⟨Lib.itoa (q : Int)⟩)) ∧ Hid (StW w w' b6 (unS 4) ((unM 4 : Nat) : Int) acc) ∧ w'.cell? ⟨b6, 0, none⟩ = some (.string (ByteArray.mk ⟨unS 4⟩))) := fun W h => (formatInt_any W q (by omega) (HP.out.keep h.2.1)).mono fun e w' ⟨h1, h2⟩ => ⟨h1, h.keep h2, (h.keep h2).cells.1⟩
              have HWs : Hid (∀ W, StW w W b6 (unS 4) ((unM 4 : Nat) : Int) acc → Calls Tryz.prog 27 #[.pointer (some ⟨w.heap.size, 0, none⟩), .string (ByteArray.mk ⟨Lib.itoa (q : Int) ++ unS 4⟩)] W fun e w' => SomeV e ∧ Hid (StW w w' b6 (unS 4) ((unM 4 : Nat) : Int) (acc ++ (Lib.itoa (q : Int) ++ (unS 4)))) ∧ w'.cell? ⟨b6, 0, none⟩ = some (.string (ByteArray.mk ⟨unS 4⟩))) := fun W h => (bWriteString W _ _ acc (Lib.itoa (q : Int) ++ (unS 4)) h.1 (by rw [List.length_append]; omega) h.2.1.size).mono fun e w' ⟨h1, h2, h3, h4⟩ => ⟨h1, h.wrote h2 h3 h4, (h.wrote h2 h3 h4).cells.1⟩
              have hacl : (acc ++ (Lib.itoa (q : Int) ++ (unS 4))).length ≤ acc.length + 23 := by rw [List.length_append, List.length_append]; omega
              have c0 := hbd.out.cells.1
              generalize Lib.itoa (q : Int) = it at *
              generalize acc ++ (it ++ (unS 4)) = acc2 at *
              have hno : ¬ 9223372036854775807 < it.length + (unS 4).length := by omega
              obtain ⟨PR, hPR⟩ : ∃ x, q * 60000 = x := ⟨_, rfl⟩
              rw [hPR] at HE2 hqm
              have hmul : (q : Int) * ((unM 4 : Nat) : Int) = (PR : Int) := by rw [← hPR]; exact (Int.natCast_mul q 60000).symm
              clear hPR HU
              go_region_held3 (fun w' => w'.cell? ⟨b6, 0, none⟩ = some (.string (ByteArray.mk ⟨unS 4⟩))) (go_keep)
                (first
                  | (go_at_call 35; refine (HF.out _ ?_).mono ?_; (first | exact hbd.out | exact hbd.out.drew); rintro e w2 ⟨rfl, H2, c22⟩)
                  | (go_at_call 27; refine (HWs.out _ ?_).mono ?_; (first | exact H2.out | exact H2.out.drew); rintro e w3 ⟨⟨v, rfl⟩, H3, c33⟩))
              have c1 := H3.out.cells.2
              have hmp : ((m - PR : Nat) : Int) = (m : Int) - (PR : Int) := by omega
              go_wp2
              go_roundg k
              case measure => omega
              case rel => exact ⟨5, m - PR, acc2, by rw [hmp], by go_num, by omega, by omega, by omega, by omega, HE2.out, H3.out.1, H3.out.2.1⟩
            · have zi : ¬ (0 : Int) < (q : Int) := by omega
              have hE := HE.out
              rw [if_neg z] at hE
              have HE2 := hidJ hE
              clear hE HE
              go_wp2
              go_roundg k
              case measure => omega
              case rel => exact ⟨5, m, acc, rfl, by go_num, by omega, by omega, by omega, by omega, HE2.out, H2.out.1, H2.out.2⟩
          · have htr : True := trivial
            have HE := hidJ (show (if 0 < m / 1000 then spS (7 - 6) 6 (m - m / 1000 * 1000) (acc ++ (Lib.itoa ((m / 1000 : Nat) : Int) ++ unS 5)) else spS (7 - 6) 6 m acc) = S from hr.out.1)
            have HB := hidJ hr.out.2
            clear hr htr
            obtain ⟨q, hqd⟩ : ∃ q, m / 1000 = q := ⟨_, rfl⟩
            rw [hqd] at HE
            have hq2 : (m : Int) / ((unM 5 : Nat) : Int) = (q : Int) := by rw [← hqd]; exact (Int.natCast_ediv m 1000).symm
            have hqm : q * 1000 ≤ m := by rw [← hqd]; exact Nat.div_mul_le_self m 1000
            have hqm2 : q ≤ m := by rw [← hqd]; exact Nat.div_le_self m 1000
            clear hqd
            have q0 : (wr.alloc (.cells #[.string (ByteArray.mk ⟨unS 5⟩), .int .i64 ((unM 5 : Nat) : Int)] 74)).cell? ⟨wr.heap.size, 0, none⟩ = some (.string (ByteArray.mk ⟨unS 5⟩)) := cell_two_new wr _ _ _ 0 _ rfl
            have q1 : (wr.alloc (.cells #[.string (ByteArray.mk ⟨unS 5⟩), .int .i64 ((unM 5 : Nat) : Int)] 74)).cell? ⟨wr.heap.size, 1, none⟩ = some (.int .i64 ((unM 5 : Nat) : Int)) := by simp
            have H2 := hidJ (show Bdr (wr.alloc (.cells #[.string (ByteArray.mk ⟨unS 5⟩), .int .i64 ((unM 5 : Nat) : Int)] 74)) w.heap.size w.heap.size acc ∧ w.grownBy (wr.alloc (.cells #[.string (ByteArray.mk ⟨unS 5⟩), .int .i64 ((unM 5 : Nat) : Int)] 74)) none from ⟨HB.out.1.keep (World.grownBy_alloc _ _ _), gb_none HB.out.2 (World.grownBy_alloc _ _ _)⟩)
            have hnz : ¬ ((unM 5 : Nat) : Int) = 0 := by decide
            have hix := fun W => idx_unit5 W (.string (ByteArray.mk ⟨unS 0⟩)) (.int .i64 ((unM 0 : Nat) : Int)) (.string (ByteArray.mk ⟨unS 1⟩)) (.int .i64 ((unM 1 : Nat) : Int)) (.string (ByteArray.mk ⟨unS 2⟩)) (.int .i64 ((unM 2 : Nat) : Int)) (.string (ByteArray.mk ⟨unS 3⟩)) (.int .i64 ((unM 3 : Nat) : Int)) (.string (ByteArray.mk ⟨unS 4⟩)) (.int .i64 ((unM 4 : Nat) : Int)) (.string (ByteArray.mk ⟨unS 5⟩)) (.int .i64 ((unM 5 : Nat) : Int)) (.string (ByteArray.mk ⟨unS 6⟩)) (.int .i64 ((unM 6 : Nat) : Int))
            by_cases z : 0 < q
            · have zi : (0 : Int) < (q : Int) := by omega
              have hE := HE.out
              rw [if_pos z] at hE
              have HE2 := hidJ hE
              clear hE HE
              have hbd : Hid (StW w (wr.alloc (.cells #[.string (ByteArray.mk ⟨unS 5⟩), .int .i64 ((unM 5 : Nat) : Int)] 74)) wr.heap.size (unS 5) ((unM 5 : Nat) : Int) acc) := ⟨H2.out.1, H2.out.2, alloc_at _ _, Nat.lt_of_lt_of_le (show w.heap.size < wr.heap.size by rcases HB.out.1 with h | h <;> exact (Lib.BuilderAtF.lt h)) (Nat.le_refl _)⟩
              have hil : (Lib.itoa (q : Int)).length ≤ 21 := Lib.itoa_length_le _ (by omega) (by omega)
              have hul : (unS 5).length ≤ 2 := by decide
              go_wp2_with fail
              clear H2 HB q0 q1 hix
              generalize wr.alloc (.cells #[.string (ByteArray.mk ⟨unS 5⟩), .int .i64 ((unM 5 : Nat) : Int)] 74) = W2 at *
              generalize wr.heap.size = b6 at *
              have hcat := mk_app (Lib.itoa (q : Int)) (unS 5)
              have hzi : (ByteArray.mk ⟨Lib.itoa (q : Int)⟩).size = (Lib.itoa (q : Int)).length := rfl
              have hzu : (ByteArray.mk ⟨unS 5⟩).size = (unS 5).length := rfl
              have HF : Hid (∀ W, StW w W b6 (unS 5) ((unM 5 : Nat) : Int) acc → Calls Tryz.prog 35 #[.int .i64 (q : Int), .int .i64 10] W fun e w' => e = .returned (.string (ByteArray.mk ⟨Lib.itoa (q : Int)⟩)) ∧ Hid (StW w w' b6 (unS 5) ((unM 5 : Nat) : Int) acc) ∧ w'.cell? ⟨b6, 0, none⟩ = some (.string (ByteArray.mk ⟨unS 5⟩))) := fun W h => (formatInt_any W q (by omega) (HP.out.keep h.2.1)).mono fun e w' ⟨h1, h2⟩ => ⟨h1, h.keep h2, (h.keep h2).cells.1⟩
              have HWs : Hid (∀ W, StW w W b6 (unS 5) ((unM 5 : Nat) : Int) acc → Calls Tryz.prog 27 #[.pointer (some ⟨w.heap.size, 0, none⟩), .string (ByteArray.mk ⟨Lib.itoa (q : Int) ++ unS 5⟩)] W fun e w' => SomeV e ∧ Hid (StW w w' b6 (unS 5) ((unM 5 : Nat) : Int) (acc ++ (Lib.itoa (q : Int) ++ (unS 5)))) ∧ w'.cell? ⟨b6, 0, none⟩ = some (.string (ByteArray.mk ⟨unS 5⟩))) := fun W h => (bWriteString W _ _ acc (Lib.itoa (q : Int) ++ (unS 5)) h.1 (by rw [List.length_append]; omega) h.2.1.size).mono fun e w' ⟨h1, h2, h3, h4⟩ => ⟨h1, h.wrote h2 h3 h4, (h.wrote h2 h3 h4).cells.1⟩
              have hacl : (acc ++ (Lib.itoa (q : Int) ++ (unS 5))).length ≤ acc.length + 23 := by rw [List.length_append, List.length_append]; omega
              have c0 := hbd.out.cells.1
              generalize Lib.itoa (q : Int) = it at *
              generalize acc ++ (it ++ (unS 5)) = acc2 at *
              have hno : ¬ 9223372036854775807 < it.length + (unS 5).length := by omega
              obtain ⟨PR, hPR⟩ : ∃ x, q * 1000 = x := ⟨_, rfl⟩
              rw [hPR] at HE2 hqm
              have hmul : (q : Int) * ((unM 5 : Nat) : Int) = (PR : Int) := by rw [← hPR]; exact (Int.natCast_mul q 1000).symm
              clear hPR HU
              go_region_held3 (fun w' => w'.cell? ⟨b6, 0, none⟩ = some (.string (ByteArray.mk ⟨unS 5⟩))) (go_keep)
                (first
                  | (go_at_call 35; refine (HF.out _ ?_).mono ?_; (first | exact hbd.out | exact hbd.out.drew); rintro e w2 ⟨rfl, H2, c22⟩)
                  | (go_at_call 27; refine (HWs.out _ ?_).mono ?_; (first | exact H2.out | exact H2.out.drew); rintro e w3 ⟨⟨v, rfl⟩, H3, c33⟩))
              have c1 := H3.out.cells.2
              have hmp : ((m - PR : Nat) : Int) = (m : Int) - (PR : Int) := by omega
              go_wp2
              go_roundg k
              case measure => omega
              case rel => exact ⟨6, m - PR, acc2, by rw [hmp], by go_num, by omega, by omega, by omega, by omega, HE2.out, H3.out.1, H3.out.2.1⟩
            · have zi : ¬ (0 : Int) < (q : Int) := by omega
              have hE := HE.out
              rw [if_neg z] at hE
              have HE2 := hidJ hE
              clear hE HE
              go_wp2
              go_roundg k
              case measure => omega
              case rel => exact ⟨6, m, acc, rfl, by go_num, by omega, by omega, by omega, by omega, HE2.out, H2.out.1, H2.out.2⟩
          · have htr : True := trivial
            have HE := hidJ (show (if 0 < m / 1 then spS (7 - 7) 7 (m - m / 1 * 1) (acc ++ (Lib.itoa ((m / 1 : Nat) : Int) ++ unS 6)) else spS (7 - 7) 7 m acc) = S from hr.out.1)
            have HB := hidJ hr.out.2
            clear hr htr
            obtain ⟨q, hqd⟩ : ∃ q, m / 1 = q := ⟨_, rfl⟩
            rw [hqd] at HE
            have hq2 : (m : Int) / ((unM 6 : Nat) : Int) = (q : Int) := by rw [← hqd]; exact (Int.natCast_ediv m 1).symm
            have hqm : q * 1 ≤ m := by rw [← hqd]; exact Nat.div_mul_le_self m 1
            have hqm2 : q ≤ m := by rw [← hqd]; exact Nat.div_le_self m 1
            clear hqd
            have q0 : (wr.alloc (.cells #[.string (ByteArray.mk ⟨unS 6⟩), .int .i64 ((unM 6 : Nat) : Int)] 74)).cell? ⟨wr.heap.size, 0, none⟩ = some (.string (ByteArray.mk ⟨unS 6⟩)) := cell_two_new wr _ _ _ 0 _ rfl
            have q1 : (wr.alloc (.cells #[.string (ByteArray.mk ⟨unS 6⟩), .int .i64 ((unM 6 : Nat) : Int)] 74)).cell? ⟨wr.heap.size, 1, none⟩ = some (.int .i64 ((unM 6 : Nat) : Int)) := by simp
            have H2 := hidJ (show Bdr (wr.alloc (.cells #[.string (ByteArray.mk ⟨unS 6⟩), .int .i64 ((unM 6 : Nat) : Int)] 74)) w.heap.size w.heap.size acc ∧ w.grownBy (wr.alloc (.cells #[.string (ByteArray.mk ⟨unS 6⟩), .int .i64 ((unM 6 : Nat) : Int)] 74)) none from ⟨HB.out.1.keep (World.grownBy_alloc _ _ _), gb_none HB.out.2 (World.grownBy_alloc _ _ _)⟩)
            have hnz : ¬ ((unM 6 : Nat) : Int) = 0 := by decide
            have hix := fun W => idx_unit6 W (.string (ByteArray.mk ⟨unS 0⟩)) (.int .i64 ((unM 0 : Nat) : Int)) (.string (ByteArray.mk ⟨unS 1⟩)) (.int .i64 ((unM 1 : Nat) : Int)) (.string (ByteArray.mk ⟨unS 2⟩)) (.int .i64 ((unM 2 : Nat) : Int)) (.string (ByteArray.mk ⟨unS 3⟩)) (.int .i64 ((unM 3 : Nat) : Int)) (.string (ByteArray.mk ⟨unS 4⟩)) (.int .i64 ((unM 4 : Nat) : Int)) (.string (ByteArray.mk ⟨unS 5⟩)) (.int .i64 ((unM 5 : Nat) : Int)) (.string (ByteArray.mk ⟨unS 6⟩)) (.int .i64 ((unM 6 : Nat) : Int))
            by_cases z : 0 < q
            · have zi : (0 : Int) < (q : Int) := by omega
              have hE := HE.out
              rw [if_pos z] at hE
              have HE2 := hidJ hE
              clear hE HE
              have hbd : Hid (StW w (wr.alloc (.cells #[.string (ByteArray.mk ⟨unS 6⟩), .int .i64 ((unM 6 : Nat) : Int)] 74)) wr.heap.size (unS 6) ((unM 6 : Nat) : Int) acc) := ⟨H2.out.1, H2.out.2, alloc_at _ _, Nat.lt_of_lt_of_le (show w.heap.size < wr.heap.size by rcases HB.out.1 with h | h <;> exact (Lib.BuilderAtF.lt h)) (Nat.le_refl _)⟩
              have hil : (Lib.itoa (q : Int)).length ≤ 21 := Lib.itoa_length_le _ (by omega) (by omega)
              have hul : (unS 6).length ≤ 2 := by decide
              go_wp2_with fail
              clear H2 HB q0 q1 hix
              generalize wr.alloc (.cells #[.string (ByteArray.mk ⟨unS 6⟩), .int .i64 ((unM 6 : Nat) : Int)] 74) = W2 at *
              generalize wr.heap.size = b6 at *
              have hcat := mk_app (Lib.itoa (q : Int)) (unS 6)
              have hzi : (ByteArray.mk ⟨Lib.itoa (q : Int)⟩).size = (Lib.itoa (q : Int)).length := rfl
              have hzu : (ByteArray.mk ⟨unS 6⟩).size = (unS 6).length := rfl
              have HF : Hid (∀ W, StW w W b6 (unS 6) ((unM 6 : Nat) : Int) acc → Calls Tryz.prog 35 #[.int .i64 (q : Int), .int .i64 10] W fun e w' => e = .returned (.string (ByteArray.mk ⟨Lib.itoa (q : Int)⟩)) ∧ Hid (StW w w' b6 (unS 6) ((unM 6 : Nat) : Int) acc) ∧ w'.cell? ⟨b6, 0, none⟩ = some (.string (ByteArray.mk ⟨unS 6⟩))) := fun W h => (formatInt_any W q (by omega) (HP.out.keep h.2.1)).mono fun e w' ⟨h1, h2⟩ => ⟨h1, h.keep h2, (h.keep h2).cells.1⟩
              have HWs : Hid (∀ W, StW w W b6 (unS 6) ((unM 6 : Nat) : Int) acc → Calls Tryz.prog 27 #[.pointer (some ⟨w.heap.size, 0, none⟩), .string (ByteArray.mk ⟨Lib.itoa (q : Int) ++ unS 6⟩)] W fun e w' => SomeV e ∧ Hid (StW w w' b6 (unS 6) ((unM 6 : Nat) : Int) (acc ++ (Lib.itoa (q : Int) ++ (unS 6)))) ∧ w'.cell? ⟨b6, 0, none⟩ = some (.string (ByteArray.mk ⟨unS 6⟩))) := fun W h => (bWriteString W _ _ acc (Lib.itoa (q : Int) ++ (unS 6)) h.1 (by rw [List.length_append]; omega) h.2.1.size).mono fun e w' ⟨h1, h2, h3, h4⟩ => ⟨h1, h.wrote h2 h3 h4, (h.wrote h2 h3 h4).cells.1⟩
              have hacl : (acc ++ (Lib.itoa (q : Int) ++ (unS 6))).length ≤ acc.length + 23 := by rw [List.length_append, List.length_append]; omega
              have c0 := hbd.out.cells.1
              generalize Lib.itoa (q : Int) = it at *
              generalize acc ++ (it ++ (unS 6)) = acc2 at *
              have hno : ¬ 9223372036854775807 < it.length + (unS 6).length := by omega
              obtain ⟨PR, hPR⟩ : ∃ x, q * 1 = x := ⟨_, rfl⟩
              rw [hPR] at HE2 hqm
              have hmul : (q : Int) * ((unM 6 : Nat) : Int) = (PR : Int) := by rw [← hPR]; exact (Int.natCast_mul q 1).symm
              clear hPR HU
              go_region_held3 (fun w' => w'.cell? ⟨b6, 0, none⟩ = some (.string (ByteArray.mk ⟨unS 6⟩))) (go_keep)
                (first
                  | (go_at_call 35; refine (HF.out _ ?_).mono ?_; (first | exact hbd.out | exact hbd.out.drew); rintro e w2 ⟨rfl, H2, c22⟩)
                  | (go_at_call 27; refine (HWs.out _ ?_).mono ?_; (first | exact H2.out | exact H2.out.drew); rintro e w3 ⟨⟨v, rfl⟩, H3, c33⟩))
              have c1 := H3.out.cells.2
              have hmp : ((m - PR : Nat) : Int) = (m : Int) - (PR : Int) := by omega
              go_wp2
              go_roundg k
              case measure => omega
              case rel => exact ⟨7, m - PR, acc2, by rw [hmp], by go_num, by omega, by omega, by omega, by omega, HE2.out, H3.out.1, H3.out.2.1⟩
            · have zi : ¬ (0 : Int) < (q : Int) := by omega
              have hE := HE.out
              rw [if_neg z] at hE
              have HE2 := hidJ hE
              clear hE HE
              go_wp2
              go_roundg k
              case measure => omega
              case rel => exact ⟨7, m, acc, rfl, by go_num, by omega, by omega, by omega, by omega, HE2.out, H2.out.1, H2.out.2⟩
end Go.Proofs.YtifjdfmmafbhkaaGreatDoor
