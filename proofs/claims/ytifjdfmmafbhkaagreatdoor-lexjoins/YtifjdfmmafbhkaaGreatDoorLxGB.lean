/-
  LxYa, LxYb, in one text.
-/
import Derived.Test.YtifjdfmmafbhkaaGreatDoorLxJn
/- LxYa -/
namespace Go.Proofs.YtifjdfmmafbhkaaGreatDoor
open Go.RowKit

/-- a token as it is written, and whether there is such a text -/
def wrtW (t : Tok) : LxS × Bool := if t.1 = 4 then ((quW t.2.1).1, decide ((quW t.2.1).2 = 0)) else (t.2.1, jusB t.1 t.2.1)
set_option maxRecDepth 8000 in
set_option maxHeartbeats 1600000 in
theorem written_any (w : World) (t : Tok) (hl : t.2.1.length ≤ 200000000) (hT : U8S w) (hU : UnT w) :
    Calls Tryz.prog 12 #[.agg #[.int .i64 t.1, .string (ByteArray.mk ⟨t.2.1⟩), .int .i64 t.2.2]] w fun e w' => e = .returned (.tuple #[.string (ByteArray.mk ⟨(wrtW t).1⟩), .bool (wrtW t).2]) ∧ w.grownBy w' none := by
  obtain ⟨K, tx, p⟩ := t
  dsimp only at hl ⊢
  have HR : Hid (wrtW (K, tx, p) = if K = 4 then ((quW tx).1, decide ((quW tx).2 = 0)) else (tx, jusB K tx)) := rfl
  generalize wrtW (K, tx, p) = R at *
  have q0 := alloc_at w (.cells #[.int .i64 K, .string (ByteArray.mk ⟨tx⟩), .int .i64 p] 24)
  obtain ⟨c0, c1, -⟩ := blk_cells q0
  have HG := hidJ (World.grownBy_alloc w (.cells #[.int .i64 K, .string (ByteArray.mk ⟨tx⟩), .int .i64 p] 24) none)
  have HT := hidJ (hT.keep HG.out)
  have HU := hidJ (hU.keep HG.out)
  clear q0 hT hU
  by_cases c : K = 4
  · subst c
    have hR := HR.out
    rw [if_pos rfl] at hR
    subst hR
    have HQ := hidJ (fun W h => quote_any W tx hl h)
    clear HR
    generalize quW tx = Q at *
    obtain ⟨qt, qe⟩ := Q
    dsimp only [quV] at *
    go_enter Tryz.func12, Tryz.ntmps12
    go_wp2_with fail
    refine (HQ.out _ HT.out).mono ?_
    rintro e w1 ⟨rfl, hg1⟩
    have H1 := hidJ (gb_none HG.out hg1)
    clear hg1 HG
    go_wp2
    go_ret2
    exact ⟨by first | rfl | (simp [beq_eq_decide]; done), H1.out⟩
  · have hR := HR.out
    rw [if_neg c] at hR
    subst hR
    have n1 : (K == 4) = false := by rw [beq_eq_false_iff_ne]; exact c
    generalize hb0 : w.heap.size = b0 at *
    have HJ : Hid (∀ W, (w.alloc (.cells #[.int .i64 K, .string (ByteArray.mk ⟨tx⟩), .int .i64 p] 24)).grownBy W none → Calls Tryz.prog 25 #[.int .i64 K, .string (ByteArray.mk ⟨tx⟩)] W fun e w' => e = .returned (.bool (jusB K tx)) ∧ Hid (w.grownBy w' none) ∧ w'.cell? ⟨b0, 0, none⟩ = some (.int .i64 K) ∧ w'.cell? ⟨b0, 1, none⟩ = some (.string (ByteArray.mk ⟨tx⟩))) := fun W hW => (isJust_any W K tx (by omega) (HT.out.keep hW) (HU.out.keep hW)).mono fun e w' ⟨h1, h2⟩ => ⟨h1, gb_none HG.out (gb_none hW h2), cell_keep (gb_none hW h2) c0, cell_keep (gb_none hW h2) c1⟩
    have HG0 := hidJ (gb_refl (w.alloc (.cells #[.int .i64 K, .string (ByteArray.mk ⟨tx⟩), .int .i64 p] 24)) none)
    clear HR HG HT HU
    generalize jusB K tx = J at *
    go_enter Tryz.func12, Tryz.ntmps12
    go_wp2_with fail
    try simp only [hb0]
    generalize w.alloc (.cells #[.int .i64 K, .string (ByteArray.mk ⟨tx⟩), .int .i64 p] 24) = W1 at *
    go_region_held3 (fun w' => w'.cell? ⟨b0, 0, none⟩ = some (.int .i64 K) ∧ w'.cell? ⟨b0, 1, none⟩ = some (.string (ByteArray.mk ⟨tx⟩))) (go_keep)
      (first | (go_at_call 25; refine (HJ.out _ ?_).mono ?_; (first | exact HG0.out | exact (gb_none HG0.out (gb_drew _ _))); rintro e w2 ⟨rfl, H2, c22⟩))
    go_wp2
    go_ret2
    exact ⟨rfl, H2.out⟩
end Go.Proofs.YtifjdfmmafbhkaaGreatDoor

/- LxYb -/
namespace Go.Proofs.YtifjdfmmafbhkaaGreatDoor
open Go.RowKit

/-- tokens without their end -/
def dropE (l : List Tok) : List Tok := if (l.getLast?.map fun t => decide (t.1 = 0) && t.2.1.isEmpty) = some true then l.dropLast else l
def wrtAll (l : List Tok) : Bool := l.all fun t => (wrtW t).2
def wrtL (l : List Tok) : List LxS := l.map fun t => (wrtW t).1
/-- of tokens without their end: the text, and the fault -/
def joinD (l : List Tok) : LxS × Int := if wrtAll l = true then (if 65536 < (Lib.join (wrtL l) [32]).length then ([], 4) else if 4096 < l.length + 1 then ([], 7) else (Lib.join (wrtL l) [32], 0)) else ([], 130)
def joinW (l : List Tok) : LxS × Int := joinD (dropE l)
theorem dropE_nil : dropE [] = [] := rfl
theorem dropE_get (l : List Tok) (m : Nat) (h : l.length = m + 1) : dropE l = if (l.getD m tkD).1 = 0 ∧ (l.getD m tkD).2.1 = [] then l.take m else l := by
  unfold dropE
  have hm : m < l.length := by omega
  have e : l.getLast? = some (l.getD m tkD) := by
    rw [List.getLast?_eq_getElem?, h]
    simp [List.getD, List.getElem?_eq_getElem hm]
  rw [e]
  by_cases c : (l.getD m tkD).1 = 0 ∧ (l.getD m tkD).2.1 = []
  · rw [if_pos c, if_pos (by simp only [Option.map_some, c.1, c.2]; rfl), List.dropLast_eq_take, h]
    rfl
  · rw [if_neg c, if_neg]
    intro e
    apply c
    simp only [Option.map_some, Option.some.injEq, Bool.and_eq_true, decide_eq_true_eq, List.isEmpty_iff] at e
    exact e
theorem infoS : (Tryz.prog.info? 9).map (fun i => (i.zero, i.size, i.bytes)) = some (some (.string ⟨#[]⟩), 1, 16) := by kernel_rfl
theorem run_makeS (n : Nat) (h : n ≤ 1000000000) (W : World) : (Instr.makeSlice 32 (.int .i64 (n : Int)) (.int .i64 (n : Int))).run Tryz.prog W = .ok (.slice (some ⟨W.heap.size, 0, none⟩) n n) (W.alloc (.cells (madeCells #[.string ⟨#[]⟩] n) 9)) := by
  obtain ⟨i0, hi, hz0, hz1, hz2⟩ := info_parts infoS
  have hrun := run_make (P := Tryz.prog) W 32 9 i0 (.string ⟨#[]⟩) Tryz.underlying32 hi hz0 .i64 .i64 (n : Int) (n : Int) (by omega) (by omega) (by rw [hz2]; omega) (by omega)
  rw [hz1] at hrun
  simp only [Int.toNat_natCast, Nat.mul_one] at hrun
  exact hrun
/-- the written texts between two rounds -/
def JoI (w wr : World) (g n i : Nat) (xs : List LxS) : Prop := w.grownBy wr none ∧ w.heap.size ≤ g ∧ ∃ cur : Array Value, wr.heap[g]? = some (.cells cur 9 (0, 0)) ∧ cur.size = n ∧ xs.length = i ∧ ∀ (j : Nat) (x : LxS), xs[j]? = some x → cur[j]? = some (Value.string (ByteArray.mk ⟨x⟩))
theorem JoI.start {w W : World} (n : Nat) (h : w.grownBy W none) : JoI w (W.alloc (.cells (madeCells #[.string ⟨#[]⟩] n) 9)) W.heap.size n 0 [] :=
  ⟨gb_none h (World.grownBy_alloc _ _ _), h.size, _, alloc_at _ _, by rw [size_madeCells], rfl, fun j x hx => absurd hx (by simp)⟩
theorem JoI.keep {w wr W : World} {g n i : Nat} {xs : List LxS} (h : JoI w wr g n i xs) (hg : wr.grownBy W none) : JoI w W g n i xs := by
  obtain ⟨h1, h2, cur, h3, h4⟩ := h
  exact ⟨gb_none h1 hg, h2, cur, blk_keep h3 hg, h4⟩
theorem JoI.cell {w wr : World} {g n i : Nat} {xs : List LxS} (h : JoI w wr g n i xs) (hi : i < n) : ∃ v, wr.cell? ⟨g, i, none⟩ = some v ∧ wr.frozen? ⟨g, i, none⟩ = false := by
  obtain ⟨h1, h2, cur, h3, h4, -⟩ := h
  exact ⟨cur[i]'(by omega), by rw [Lib.cell_of_heap h3]; simp [show i < cur.size by omega], Lib.frozen_of_heap h3 i⟩
theorem JoI.set {w wr : World} {g n i : Nat} {xs : List LxS} (h : JoI w wr g n i xs) (hi : i < n) (x : LxS) : JoI w (wr.setCell ⟨g, i, none⟩ (.string (ByteArray.mk ⟨x⟩))) g n (i + 1) (xs ++ [x]) := by
  obtain ⟨h1, h2, cur, h3, h4, h5, h6⟩ := h
  have h7 := heap_setCell_same wr g i _ _ (.string (ByteArray.mk ⟨x⟩)) h3
  refine ⟨⟨h1.os, h1.tape, h1.output, by have := h1.size; simpa using this, fun k hk hn => (Below.heap_setCell _ _ _ _ (by show k ≠ g; omega)).trans (h1.block k hk hn)⟩, h2, _, h7, by simpa using h4, by simp [h5], ?_⟩
  intro j y hy
  rw [List.getElem?_append] at hy
  split at hy
  · rename_i hj
    rw [Array.getElem?_setIfInBounds_ne (by omega)]
    exact h6 j y hy
  · rename_i hj
    have hji : j = i := by
      have : j - xs.length < 1 := by
        apply Decidable.byContradiction
        intro hc
        rw [List.getElem?_eq_none (by simp only [List.length_cons, List.length_nil]; omega)] at hy
        cases hy
      omega
    subst hji
    rw [h5, Nat.sub_self] at hy
    simp only [List.getElem?_cons_zero, Option.some.injEq] at hy
    subst hy
    simp [show j < cur.size by omega]
theorem JoI.cells {w wr : World} {g n : Nat} {xs : List LxS} (h : JoI w wr g n n xs) : ∀ (j : Nat) x, (xs.map fun zz : LxS => ByteArray.mk ⟨zz⟩)[j]? = some x → wr.cell? ⟨g, 0 + j, none⟩ = some (.string x) := by
  obtain ⟨h1, h2, cur, h3, h4, h5, h6⟩ := h
  intro j x hx
  rw [List.getElem?_map] at hx
  cases hj : xs[j]? with
  | none => rw [hj] at hx; cases hx
  | some y =>
    rw [hj] at hx
    cases hx
    rw [Nat.zero_add, Lib.cell_of_heap h3]
    exact h6 j y hj
theorem wrt_len (t : Tok) (h : t.2.1.length ≤ 2000000) : (wrtW t).1.length ≤ 8000002 := by
  unfold wrtW
  split
  · show (quW t.2.1).1.length ≤ _
    unfold quW
    split
    · have := quB_len t.2.1
      simp only [List.length_cons, List.length_append, List.length_nil]
      omega
    · simp
  · show t.2.1.length ≤ _
    omega
theorem join_len (l : List LxS) (h : ∀ x ∈ l, x.length ≤ 8000002) : (Lib.join l [32]).length ≤ 8000003 * l.length := by
  cases l with
  | nil => simp [Lib.join_nil]
  | cons x l =>
    rw [Lib.join_cons, List.length_append]
    have hx := h x (by simp)
    have : ∀ m : List LxS, (∀ x ∈ m, x.length ≤ 8000002) → (Lib.joinTail [32] m).length ≤ 8000003 * m.length := by
      intro m
      induction m with
      | nil => intro _; exact Nat.le_refl _
      | cons y m ih =>
        intro hm
        have h1 := hm y (by simp)
        have h2 := ih (fun z hz => hm z (by simp [hz]))
        show ((32 :: y) ++ Lib.joinTail [32] m).length ≤ 8000003 * (m.length + 1)
        rw [List.length_append, List.length_cons]
        omega
    have h2 := this l (fun z hz => h z (by simp [hz]))
    rw [List.length_cons]
    omega
/-- what Join answers -/
def joV (R : LxS × Int) : Value := .tuple #[.string (ByteArray.mk ⟨R.1⟩), .int .i64 R.2]
theorem wrtL_take (l : List Tok) (i : Nat) (h : i < l.length) : wrtL (l.take (i + 1)) = wrtL (l.take i) ++ [(wrtW (l.getD i tkD)).1] := by
  unfold wrtL
  rw [List.take_succ_eq_append_getElem h, List.map_append]
  simp [List.getD, List.getElem?_eq_getElem h]
theorem wrtAll_from (l : List Tok) (i : Nat) (h : i < l.length) : wrtAll (l.drop i) = ((wrtW (l.getD i tkD)).2 && wrtAll (l.drop (i + 1))) := by
  unfold wrtAll
  rw [List.drop_eq_getElem_cons h, List.all_cons]
  simp [List.getD, List.getElem?_eq_getElem h]
set_option maxRecDepth 8000 in
set_option maxHeartbeats 6400000 in
theorem join_any (w : World) (v : Value) (l : List Tok) (hv : RdT w v l) (hn : l.length ≤ 2000000) (hl : ∀ t ∈ l, t.2.1.length ≤ 2000000) (hT : U8S w) (hU : UnT w) :
    Calls Tryz.prog 4 #[v] w fun e w' => e = .returned (joV (joinW l)) ∧ w.grownBy w' none := by
  obtain ⟨aa, c, rfl, h1, h2, h3⟩ := hv
  unfold maxLen at h2
  have hT := hidJ hT
  have hU := hidJ hU
  have hla := fun W ty m => len_tokens W ty aa m c
  obtain ⟨n, hnn⟩ : ∃ n, l.length = n := ⟨_, rfl⟩
  rw [hnn] at hn h1 h3
  have HW : Hid (joinW l = joinD (dropE l)) := rfl
  have HLl0 : Hid (∀ i, (l.getD i tkD).2.1.length ≤ 2000000) := fun i => by
    by_cases hi : i < l.length
    · rw [List.getD, List.getElem?_eq_getElem hi]; exact hl _ (List.getElem_mem hi)
    · rw [List.getD, List.getElem?_eq_none (by omega)]; exact Nat.zero_le _
  rw [hnn]
  generalize joinW l = R at *
  obtain rfl | ⟨m, hm⟩ : n = 0 ∨ ∃ m, n = m + 1 := by cases n with | zero => exact .inl rfl | succ m => exact .inr ⟨m, rfl⟩
  · obtain ⟨L, hL⟩ : ∃ L, l = L := ⟨_, rfl⟩
    subst hL
    have hl0 : dropE l = l := by rw [List.eq_nil_of_length_eq_zero hnn]; rfl
    have HRr : Hid (R = joinD l) := by have := HW.out; rwa [hl0] at this
    have HLn := hidJ hnn
    have HLm := hidJ hl
    have HLl := HLl0
    obtain ⟨N, hN⟩ : ∃ N : Nat, N = 0 := ⟨_, rfl⟩
    have HC : Hid (∀ i, i < N → ∃ b o, aa = some ⟨b, o, none⟩ ∧ w.cell? ⟨b, o + i * 3, none⟩ = some (.int .i64 (l.getD i tkD).1) ∧ w.cell? ⟨b, o + i * 3 + 1, none⟩ = some (.string (ByteArray.mk ⟨(l.getD i tkD).2.1⟩)) ∧ w.cell? ⟨b, o + i * 3 + 2, none⟩ = some (.int .i64 (l.getD i tkD).2.2)) := fun i hi => absurd hi (by omega)
    rw [← hN] at HLn hn h1 ⊢
    have hNi : ¬ (0 : Int) ≤ (N : Int) - 1 := by omega
    have hN9 : N ≤ 1000000000 := by omega
    have hN0 := hidJ hN
    clear hN hl0 HW h3 hl HLl0 hnn
    go_enter Tryz.func4, Tryz.ntmps4
    have hMK := run_makeS N hN9
    have HJ0 := fun W => JoI.start (w := w) (W := W) N
    have hg0 := hidJ (JoI.start (w := w) (W := w) N (gb_refl _ _))
    have hkw := hidJ (gb_refl w none)
    go_wp2_with fail
    generalize w.alloc (.cells (madeCells #[.string ⟨#[]⟩] N) 9) = W0 at *
    generalize w.heap.size = g at *
    go_loopg [40] (N + 1) (fun gk v40 wr => ∃ i : Nat, v40 = .int .i64 (i : Int) ∧ N < i + gk ∧ i ≤ N ∧ Hid (JoI w wr g N i (wrtL (l.take i)) ∧ wrtAll (l.drop i) = wrtAll l))
    case atStart => exact ⟨0, rfl, by omega, by omega, hg0.out, by rw [List.drop_zero]⟩
    case round =>
      obtain ⟨i, rfl, hg, hin, hr⟩ := hrel
      have HJ := hidJ hr.out.1
      have HA := hidJ hr.out.2
      clear hr hg0 HJ0
      by_cases hlt : i < N
      · obtain ⟨k, rfl⟩ : ∃ k, gk = k + 1 := ⟨gk - 1, by omega⟩
        have hli2 : (i : Int) < (N : Int) := by omega
        exact absurd hlt (by have := hN0.out; omega)
      · obtain rfl : i = N := by omega
        have HAt : Hid (wrtAll l = true) := by rw [← show wrtAll (l.drop i) = wrtAll l from HA.out, List.drop_eq_nil_of_le (by rw [HLn.out]; exact Nat.le_refl _)]; exact rfl
        have HJ5 := HJ
        rw [List.take_of_length_le (by rw [HLn.out]; exact Nat.le_refl _)] at HJ5
        have HSl := hidJ (join_len (wrtL l) (fun x hx => by
          obtain ⟨t, ht, rfl⟩ := List.mem_map.1 hx
          exact wrt_len t (HLm.out t ht)))
        have hwl : (wrtL l).length = i := by unfold wrtL; rw [List.length_map]; exact HLn.out
        have HJn : Hid (Calls Tryz.prog 13 #[.slice (some ⟨g, 0, none⟩) i i, .string (ByteArray.mk ⟨[32]⟩)] wr fun e w' => e = .returned (.string (ByteArray.mk ⟨Lib.join (wrtL l) [32]⟩)) ∧ w.grownBy w' none) := by
          have hm : ((wrtL l).map fun zz : LxS => ByteArray.mk ⟨zz⟩).map (·.data.toList) = wrtL l := by rw [List.map_map]; exact List.map_id _
          have h := joinS_any wr g 0 i ((wrtL l).map fun zz : LxS => ByteArray.mk ⟨zz⟩) (ByteArray.mk ⟨[32]⟩) HJ5.out.cells (by obtain ⟨_, _, cur, h3, _⟩ := HJ5.out; exact (Array.getElem?_eq_some_iff.1 h3).1) (by rw [List.length_map, hwl]; omega) (by rw [List.length_map, hwl]; exact Nat.le_refl _) (by rw [hm]; have := HSl.out; rw [hwl] at this; show (Lib.join (wrtL l) [32]).length ≤ _; omega)
          rw [hm, List.length_map, hwl] at h
          exact h.mono fun e w' ⟨h1, h2⟩ => ⟨h1, gb_none HJ5.out.1 ⟨h2.os, h2.tape, h2.output, h2.size, fun k hk _ => h2.block k hk⟩⟩
        have hSz : (ByteArray.mk ⟨Lib.join (wrtL l) [32]⟩).size = (Lib.join (wrtL l) [32]).length := rfl
        have hR := HRr.out
        unfold joinD at hR
        rw [if_pos HAt.out, HLn.out] at hR
        have HRs := hidJ hR
        clear HJ HA HJ5 HAt HSl hwl hR HRr
        generalize Lib.join (wrtL l) [32] = S at *
        go_wp2_with fail
        refine HJn.out.mono ?_
        rintro e w6 ⟨rfl, hg6⟩
        have H6 := hidJ hg6
        clear hg6 HJn
        by_cases s1 : 65536 < S.length
        · have s1i : (65536 : Int) < (S.length : Int) := by omega
          have hR := HRs.out
          rw [if_pos s1] at hR
          subst hR
          clear HRs
          go_wp2
          go_ret2
          exact ⟨rfl, H6.out⟩
        · have s1i : ¬ (65536 : Int) < (S.length : Int) := by omega
          have hR := HRs.out
          rw [if_neg s1] at hR
          by_cases s2 : 4096 < i + 1
          · have s2i : (4096 : Int) < (i : Int) + 1 := by omega
            exact absurd s2 (by have := hN0.out; omega)
          · obtain ⟨i1, hi1⟩ : ∃ i1 : Int, (i : Int) + 1 = i1 := ⟨_, rfl⟩
            have s2i : ¬ (4096 : Int) < i1 := by omega
            have s2j : (0 : Int) ≤ i1 := by omega
            have s2k : i1 ≤ 4096 := by omega
            rw [if_neg s2] at hR
            subst hR
            clear HRs s2 hn hg hin
            go_wp2
            go_ret2
            exact ⟨rfl, H6.out⟩
  · have hD := dropE_get l m (hnn.trans hm)
    obtain ⟨b, o, rfl, -⟩ := h3 m (by omega)
    have hca : ∀ i, i < n → w.cell? ⟨b, o + i * 3, none⟩ = some (.int .i64 (l.getD i tkD).1) ∧ w.cell? ⟨b, o + i * 3 + 1, none⟩ = some (.string (ByteArray.mk ⟨(l.getD i tkD).2.1⟩)) ∧ w.cell? ⟨b, o + i * 3 + 2, none⟩ = some (.int .i64 (l.getD i tkD).2.2) := fun i hi => by
      obtain ⟨b', o', e, h⟩ := h3 i hi
      cases e
      exact h
    obtain ⟨x0, x1, -⟩ := hca m (by omega)
    have HC0 := hidJ hca
    generalize ht : l.getD m tkD = t at *
    obtain ⟨K, tx, p⟩ := t
    dsimp only at x0 x1 hD
    clear hca h3
    have hmc : m < c := by omega
    have hmn : m < n := by omega
    have hmni : (m : Int) < (n : Int) := by omega
    have hmi : (n : Int) - 1 = (m : Int) := by omega
    have hmz : (0 : Int) ≤ (m : Int) := by omega
    have HM := hidJ hm
    clear hm ht
    by_cases cK : K = 0
    · subst cK
      by_cases ct : tx = []
      · subst ct
        rw [if_pos ⟨rfl, rfl⟩] at hD
        have HLn : Hid ((l.take m).length = m) := by show (l.take m).length = m; rw [List.length_take]; omega
        have HLm : Hid (∀ t ∈ l.take m, t.2.1.length ≤ 2000000) := fun t ht => hl t (List.mem_of_mem_take ht)
        have hge : ∀ i, i < m → (l.take m).getD i tkD = l.getD i tkD := fun i hi => by simp [List.getD, hi]
        have HLl : Hid (∀ i, ((l.take m).getD i tkD).2.1.length ≤ 2000000) := fun i => by
          by_cases hi : i < m
          · rw [hge i hi]; exact HLl0.out i
          · rw [List.getD, List.getElem?_eq_none (by rw [HLn.out]; omega)]; exact Nat.zero_le _
        have HC : Hid (∀ i, i < m → ∃ b' o', some (⟨b, o, none⟩ : Addr) = some ⟨b', o', none⟩ ∧ w.cell? ⟨b', o' + i * 3, none⟩ = some (.int .i64 ((l.take m).getD i tkD).1) ∧ w.cell? ⟨b', o' + i * 3 + 1, none⟩ = some (.string (ByteArray.mk ⟨((l.take m).getD i tkD).2.1⟩)) ∧ w.cell? ⟨b', o' + i * 3 + 2, none⟩ = some (.int .i64 ((l.take m).getD i tkD).2.2)) := fun i hi => ⟨b, o, rfl, by rw [hge i hi]; exact HC0.out i (by omega)⟩
        rw [hD] at HW
        have HRr := HW
        generalize l.take m = L at *
        obtain ⟨N, hN⟩ : ∃ N, m = N := ⟨_, rfl⟩
        subst hN
        have hN9 : m ≤ 1000000000 := by omega
        clear hD HW HLl0 HC0 HM hl hnn hge
        go_enter Tryz.func4, Tryz.ntmps4
        have hMK := run_makeS m hN9
        have HJ0 := fun W => JoI.start (w := w) (W := W) m
        have hg0 := hidJ (JoI.start (w := w) (W := w) m (gb_refl _ _))
        have hkw := hidJ (gb_refl w none)
        go_wp2_with fail
        generalize w.alloc (.cells (madeCells #[.string ⟨#[]⟩] m) 9) = W0 at *
        generalize w.heap.size = g at *
        go_loopg [40] (m + 1) (fun gk v40 wr => ∃ i : Nat, v40 = .int .i64 (i : Int) ∧ m < i + gk ∧ i ≤ m ∧ Hid (JoI w wr g m i (wrtL (L.take i)) ∧ wrtAll (L.drop i) = wrtAll L))
        case atStart => exact ⟨0, rfl, by omega, by omega, hg0.out, by rw [List.drop_zero]⟩
        case round =>
          obtain ⟨i, rfl, hg, hin, hr⟩ := hrel
          have HJ := hidJ hr.out.1
          have HA := hidJ hr.out.2
          clear hr hg0 HJ0
          by_cases hlt : i < m
          · obtain ⟨k, rfl⟩ : ∃ k, gk = k + 1 := ⟨gk - 1, by omega⟩
            have hli2 : (i : Int) < (m : Int) := by omega
            obtain ⟨b0, o0, ea, x0, x1, x2⟩ := HC.out i hlt
            cases ea
            have HTk := hidJ (wrtL_take L i (by rw [HLn.out]; exact hlt))
            have HFr := hidJ (wrtAll_from L i (by rw [HLn.out]; exact hlt))
            have HWr := hidJ (fun W => written_any W (L.getD i tkD) (by have := HLl.out i; omega))
            generalize L.getD i tkD = t at *
            obtain ⟨K, tt, p⟩ := t
            dsimp only at *
            have y0 := cell_keep HJ.out.1 x0
            have y1 := cell_keep HJ.out.1 x1
            have y2 := cell_keep HJ.out.1 x2
            have q1 := alloc_at wr (.cells #[.int .i64 K, .string (ByteArray.mk ⟨tt⟩), .int .i64 p] 24)
            obtain ⟨c0, c1, c2, -⟩ := blk_cells q1
            have HJ1 := hidJ (HJ.out.keep (World.grownBy_alloc wr (.cells #[.int .i64 K, .string (ByteArray.mk ⟨tt⟩), .int .i64 p] 24) none))
            clear q1 x0 x1 x2 HJ
            go_wp2_with fail
            refine (HWr.out _ (hT.out.keep HJ1.out.1) (hU.out.keep HJ1.out.1)).mono ?_
            rintro e w3 ⟨rfl, hg3⟩
            have HJ3 := hidJ (HJ1.out.keep hg3)
            clear hg3 HJ1 HWr y0 y1 y2 c0 c1 c2
            generalize wrtW (K, tt, p) = wt at *
            obtain ⟨tx2, B⟩ := wt
            dsimp only at *
            cases B with
            | false =>
              have hR := HRr.out
              unfold joinD at hR
              rw [if_neg (by rw [← HA.out, HFr.out]; simp)] at hR
              subst hR
              clear HRr HA HFr HTk
              go_wp2
              go_ret2
              exact ⟨rfl, HJ3.out.1⟩
            | true =>
              obtain ⟨vv, d0, d1⟩ := HJ3.out.cell hlt
              have HJ4 := hidJ (HJ3.out.set hlt tx2)
              rw [← HTk.out] at HJ4
              have HA4 := hidJ (HFr.out.symm.trans HA.out)
              clear HJ3 HTk HA HFr
              go_wp2
              go_roundg k
              case measure => omega
              case rel => exact ⟨i + 1, by go_num, by omega, by omega, HJ4.out, by have := HA4.out; rwa [Bool.true_and] at this⟩
          · obtain rfl : i = m := by omega
            have HAt : Hid (wrtAll L = true) := by rw [← show wrtAll (L.drop i) = wrtAll L from HA.out, List.drop_eq_nil_of_le (by rw [HLn.out]; exact Nat.le_refl _)]; exact rfl
            have HJ5 := HJ
            rw [List.take_of_length_le (by rw [HLn.out]; exact Nat.le_refl _)] at HJ5
            have HSl := hidJ (join_len (wrtL L) (fun x hx => by
              obtain ⟨t, ht, rfl⟩ := List.mem_map.1 hx
              exact wrt_len t (HLm.out t ht)))
            have hwl : (wrtL L).length = i := by unfold wrtL; rw [List.length_map]; exact HLn.out
            have HJn : Hid (Calls Tryz.prog 13 #[.slice (some ⟨g, 0, none⟩) i i, .string (ByteArray.mk ⟨[32]⟩)] wr fun e w' => e = .returned (.string (ByteArray.mk ⟨Lib.join (wrtL L) [32]⟩)) ∧ w.grownBy w' none) := by
              have hm : ((wrtL L).map fun zz : LxS => ByteArray.mk ⟨zz⟩).map (·.data.toList) = wrtL L := by rw [List.map_map]; exact List.map_id _
              have h := joinS_any wr g 0 i ((wrtL L).map fun zz : LxS => ByteArray.mk ⟨zz⟩) (ByteArray.mk ⟨[32]⟩) HJ5.out.cells (by obtain ⟨_, _, cur, h3, _⟩ := HJ5.out; exact (Array.getElem?_eq_some_iff.1 h3).1) (by rw [List.length_map, hwl]; omega) (by rw [List.length_map, hwl]; exact Nat.le_refl _) (by rw [hm]; have := HSl.out; rw [hwl] at this; show (Lib.join (wrtL L) [32]).length ≤ _; omega)
              rw [hm, List.length_map, hwl] at h
              exact h.mono fun e w' ⟨h1, h2⟩ => ⟨h1, gb_none HJ5.out.1 ⟨h2.os, h2.tape, h2.output, h2.size, fun k hk _ => h2.block k hk⟩⟩
            have hSz : (ByteArray.mk ⟨Lib.join (wrtL L) [32]⟩).size = (Lib.join (wrtL L) [32]).length := rfl
            have hR := HRr.out
            unfold joinD at hR
            rw [if_pos HAt.out, HLn.out] at hR
            have HRs := hidJ hR
            clear HJ HA HJ5 HAt HSl hwl hR HRr
            generalize Lib.join (wrtL L) [32] = S at *
            go_wp2_with fail
            refine HJn.out.mono ?_
            rintro e w6 ⟨rfl, hg6⟩
            have H6 := hidJ hg6
            clear hg6 HJn
            by_cases s1 : 65536 < S.length
            · have s1i : (65536 : Int) < (S.length : Int) := by omega
              have hR := HRs.out
              rw [if_pos s1] at hR
              subst hR
              clear HRs
              go_wp2
              go_ret2
              exact ⟨rfl, H6.out⟩
            · have s1i : ¬ (65536 : Int) < (S.length : Int) := by omega
              have hR := HRs.out
              rw [if_neg s1] at hR
              by_cases s2 : 4096 < i + 1
              · have s2i : (4096 : Int) < (i : Int) + 1 := by omega
                rw [if_pos s2] at hR
                subst hR
                clear HRs
                go_wp2
                go_ret2
                exact ⟨rfl, H6.out⟩
              · obtain ⟨i1, hi1⟩ : ∃ i1 : Int, (i : Int) + 1 = i1 := ⟨_, rfl⟩
                have s2i : ¬ (4096 : Int) < i1 := by omega
                have s2j : (0 : Int) ≤ i1 := by omega
                have s2k : i1 ≤ 4096 := by omega
                rw [if_neg s2] at hR
                subst hR
                clear HRs s2 hn hg hin
                go_wp2
                go_ret2
                exact ⟨rfl, H6.out⟩
      · rw [if_neg (fun h => ct h.2)] at hD
        have hte : List.isEmpty tx = false := by cases tx with | nil => exact absurd rfl ct | cons a b => rfl
        have hte2 : ¬ tx = [] := ct
        have HRr : Hid (R = joinD l) := by have := HW.out; rwa [hD] at this
        have HLn := hidJ hnn
        have HLm := hidJ hl
        have HLl := HLl0
        have HC : Hid (∀ i, i < n → ∃ b' o', some (⟨b, o, none⟩ : Addr) = some ⟨b', o', none⟩ ∧ w.cell? ⟨b', o' + i * 3, none⟩ = some (.int .i64 (l.getD i tkD).1) ∧ w.cell? ⟨b', o' + i * 3 + 1, none⟩ = some (.string (ByteArray.mk ⟨(l.getD i tkD).2.1⟩)) ∧ w.cell? ⟨b', o' + i * 3 + 2, none⟩ = some (.int .i64 (l.getD i tkD).2.2)) := fun i hi => ⟨b, o, rfl, HC0.out i hi⟩
        obtain ⟨N, hN⟩ : ∃ N, n = N := ⟨_, rfl⟩
        subst hN
        have hN9 : n ≤ 1000000000 := by omega
        clear hD HW HLl0 HC0 HM hl hnn
        go_enter Tryz.func4, Tryz.ntmps4
        have hMK := run_makeS n hN9
        have HJ0 := fun W => JoI.start (w := w) (W := W) n
        have hg0 := hidJ (JoI.start (w := w) (W := w) n (gb_refl _ _))
        have hkw := hidJ (gb_refl w none)
        go_wp2_with fail
        generalize w.alloc (.cells (madeCells #[.string ⟨#[]⟩] n) 9) = W0 at *
        generalize w.heap.size = g at *
        go_loopg [40] (n + 1) (fun gk v40 wr => ∃ i : Nat, v40 = .int .i64 (i : Int) ∧ n < i + gk ∧ i ≤ n ∧ Hid (JoI w wr g n i (wrtL (l.take i)) ∧ wrtAll (l.drop i) = wrtAll l))
        case atStart => exact ⟨0, rfl, by omega, by omega, hg0.out, by rw [List.drop_zero]⟩
        case round =>
          obtain ⟨i, rfl, hg, hin, hr⟩ := hrel
          have HJ := hidJ hr.out.1
          have HA := hidJ hr.out.2
          clear hr hg0 HJ0
          by_cases hlt : i < n
          · obtain ⟨k, rfl⟩ : ∃ k, gk = k + 1 := ⟨gk - 1, by omega⟩
            have hli2 : (i : Int) < (n : Int) := by omega
            obtain ⟨b0, o0, ea, x0, x1, x2⟩ := HC.out i hlt
            cases ea
            have HTk := hidJ (wrtL_take l i (by rw [HLn.out]; exact hlt))
            have HFr := hidJ (wrtAll_from l i (by rw [HLn.out]; exact hlt))
            have HWr := hidJ (fun W => written_any W (l.getD i tkD) (by have := HLl.out i; omega))
            generalize l.getD i tkD = t at *
            obtain ⟨K, tt, p⟩ := t
            dsimp only at *
            have y0 := cell_keep HJ.out.1 x0
            have y1 := cell_keep HJ.out.1 x1
            have y2 := cell_keep HJ.out.1 x2
            have q1 := alloc_at wr (.cells #[.int .i64 K, .string (ByteArray.mk ⟨tt⟩), .int .i64 p] 24)
            obtain ⟨c0, c1, c2, -⟩ := blk_cells q1
            have HJ1 := hidJ (HJ.out.keep (World.grownBy_alloc wr (.cells #[.int .i64 K, .string (ByteArray.mk ⟨tt⟩), .int .i64 p] 24) none))
            clear q1 x0 x1 x2 HJ
            go_wp2_with fail
            refine (HWr.out _ (hT.out.keep HJ1.out.1) (hU.out.keep HJ1.out.1)).mono ?_
            rintro e w3 ⟨rfl, hg3⟩
            have HJ3 := hidJ (HJ1.out.keep hg3)
            clear hg3 HJ1 HWr y0 y1 y2 c0 c1 c2
            generalize wrtW (K, tt, p) = wt at *
            obtain ⟨tx2, B⟩ := wt
            dsimp only at *
            cases B with
            | false =>
              have hR := HRr.out
              unfold joinD at hR
              rw [if_neg (by rw [← HA.out, HFr.out]; simp)] at hR
              subst hR
              clear HRr HA HFr HTk
              go_wp2
              go_ret2
              exact ⟨rfl, HJ3.out.1⟩
            | true =>
              obtain ⟨vv, d0, d1⟩ := HJ3.out.cell hlt
              have HJ4 := hidJ (HJ3.out.set hlt tx2)
              rw [← HTk.out] at HJ4
              have HA4 := hidJ (HFr.out.symm.trans HA.out)
              clear HJ3 HTk HA HFr
              go_wp2
              go_roundg k
              case measure => omega
              case rel => exact ⟨i + 1, by go_num, by omega, by omega, HJ4.out, by have := HA4.out; rwa [Bool.true_and] at this⟩
          · obtain rfl : i = n := by omega
            have HAt : Hid (wrtAll l = true) := by rw [← show wrtAll (l.drop i) = wrtAll l from HA.out, List.drop_eq_nil_of_le (by rw [HLn.out]; exact Nat.le_refl _)]; exact rfl
            have HJ5 := HJ
            rw [List.take_of_length_le (by rw [HLn.out]; exact Nat.le_refl _)] at HJ5
            have HSl := hidJ (join_len (wrtL l) (fun x hx => by
              obtain ⟨t, ht, rfl⟩ := List.mem_map.1 hx
              exact wrt_len t (HLm.out t ht)))
            have hwl : (wrtL l).length = i := by unfold wrtL; rw [List.length_map]; exact HLn.out
            have HJn : Hid (Calls Tryz.prog 13 #[.slice (some ⟨g, 0, none⟩) i i, .string (ByteArray.mk ⟨[32]⟩)] wr fun e w' => e = .returned (.string (ByteArray.mk ⟨Lib.join (wrtL l) [32]⟩)) ∧ w.grownBy w' none) := by
              have hm : ((wrtL l).map fun zz : LxS => ByteArray.mk ⟨zz⟩).map (·.data.toList) = wrtL l := by rw [List.map_map]; exact List.map_id _
              have h := joinS_any wr g 0 i ((wrtL l).map fun zz : LxS => ByteArray.mk ⟨zz⟩) (ByteArray.mk ⟨[32]⟩) HJ5.out.cells (by obtain ⟨_, _, cur, h3, _⟩ := HJ5.out; exact (Array.getElem?_eq_some_iff.1 h3).1) (by rw [List.length_map, hwl]; omega) (by rw [List.length_map, hwl]; exact Nat.le_refl _) (by rw [hm]; have := HSl.out; rw [hwl] at this; show (Lib.join (wrtL l) [32]).length ≤ _; omega)
              rw [hm, List.length_map, hwl] at h
              exact h.mono fun e w' ⟨h1, h2⟩ => ⟨h1, gb_none HJ5.out.1 ⟨h2.os, h2.tape, h2.output, h2.size, fun k hk _ => h2.block k hk⟩⟩
            have hSz : (ByteArray.mk ⟨Lib.join (wrtL l) [32]⟩).size = (Lib.join (wrtL l) [32]).length := rfl
            have hR := HRr.out
            unfold joinD at hR
            rw [if_pos HAt.out, HLn.out] at hR
            have HRs := hidJ hR
            clear HJ HA HJ5 HAt HSl hwl hR HRr
            generalize Lib.join (wrtL l) [32] = S at *
            go_wp2_with fail
            refine HJn.out.mono ?_
            rintro e w6 ⟨rfl, hg6⟩
            have H6 := hidJ hg6
            clear hg6 HJn
            by_cases s1 : 65536 < S.length
            · have s1i : (65536 : Int) < (S.length : Int) := by omega
              have hR := HRs.out
              rw [if_pos s1] at hR
              subst hR
              clear HRs
              go_wp2
              go_ret2
              exact ⟨rfl, H6.out⟩
            · have s1i : ¬ (65536 : Int) < (S.length : Int) := by omega
              have hR := HRs.out
              rw [if_neg s1] at hR
              by_cases s2 : 4096 < i + 1
              · have s2i : (4096 : Int) < (i : Int) + 1 := by omega
                rw [if_pos s2] at hR
                subst hR
                clear HRs
                go_wp2
                go_ret2
                exact ⟨rfl, H6.out⟩
              · obtain ⟨i1, hi1⟩ : ∃ i1 : Int, (i : Int) + 1 = i1 := ⟨_, rfl⟩
                have s2i : ¬ (4096 : Int) < i1 := by omega
                have s2j : (0 : Int) ≤ i1 := by omega
                have s2k : i1 ≤ 4096 := by omega
                rw [if_neg s2] at hR
                subst hR
                clear HRs s2 hn hg hin
                go_wp2
                go_ret2
                exact ⟨rfl, H6.out⟩
    · rw [if_neg (fun h => cK h.1)] at hD
      have hK : (K == 0) = false := by rw [beq_eq_false_iff_ne]; exact cK
      have HRr : Hid (R = joinD l) := by have := HW.out; rwa [hD] at this
      have HLn := hidJ hnn
      have HLm := hidJ hl
      have HLl := HLl0
      have HC : Hid (∀ i, i < n → ∃ b' o', some (⟨b, o, none⟩ : Addr) = some ⟨b', o', none⟩ ∧ w.cell? ⟨b', o' + i * 3, none⟩ = some (.int .i64 (l.getD i tkD).1) ∧ w.cell? ⟨b', o' + i * 3 + 1, none⟩ = some (.string (ByteArray.mk ⟨(l.getD i tkD).2.1⟩)) ∧ w.cell? ⟨b', o' + i * 3 + 2, none⟩ = some (.int .i64 (l.getD i tkD).2.2)) := fun i hi => ⟨b, o, rfl, HC0.out i hi⟩
      obtain ⟨N, hN⟩ : ∃ N, n = N := ⟨_, rfl⟩
      subst hN
      have hN9 : n ≤ 1000000000 := by omega
      clear hD HW HLl0 HC0 HM hl hnn
      go_enter Tryz.func4, Tryz.ntmps4
      have hMK := run_makeS n hN9
      have HJ0 := fun W => JoI.start (w := w) (W := W) n
      have hg0 := hidJ (JoI.start (w := w) (W := w) n (gb_refl _ _))
      have hkw := hidJ (gb_refl w none)
      go_wp2_with fail
      generalize w.alloc (.cells (madeCells #[.string ⟨#[]⟩] n) 9) = W0 at *
      generalize w.heap.size = g at *
      go_loopg [40] (n + 1) (fun gk v40 wr => ∃ i : Nat, v40 = .int .i64 (i : Int) ∧ n < i + gk ∧ i ≤ n ∧ Hid (JoI w wr g n i (wrtL (l.take i)) ∧ wrtAll (l.drop i) = wrtAll l))
      case atStart => exact ⟨0, rfl, by omega, by omega, hg0.out, by rw [List.drop_zero]⟩
      case round =>
        obtain ⟨i, rfl, hg, hin, hr⟩ := hrel
        have HJ := hidJ hr.out.1
        have HA := hidJ hr.out.2
        clear hr hg0 HJ0
        by_cases hlt : i < n
        · obtain ⟨k, rfl⟩ : ∃ k, gk = k + 1 := ⟨gk - 1, by omega⟩
          have hli2 : (i : Int) < (n : Int) := by omega
          obtain ⟨b0, o0, ea, x0, x1, x2⟩ := HC.out i hlt
          cases ea
          have HTk := hidJ (wrtL_take l i (by rw [HLn.out]; exact hlt))
          have HFr := hidJ (wrtAll_from l i (by rw [HLn.out]; exact hlt))
          have HWr := hidJ (fun W => written_any W (l.getD i tkD) (by have := HLl.out i; omega))
          generalize l.getD i tkD = t at *
          obtain ⟨K, tt, p⟩ := t
          dsimp only at *
          have y0 := cell_keep HJ.out.1 x0
          have y1 := cell_keep HJ.out.1 x1
          have y2 := cell_keep HJ.out.1 x2
          have q1 := alloc_at wr (.cells #[.int .i64 K, .string (ByteArray.mk ⟨tt⟩), .int .i64 p] 24)
          obtain ⟨c0, c1, c2, -⟩ := blk_cells q1
          have HJ1 := hidJ (HJ.out.keep (World.grownBy_alloc wr (.cells #[.int .i64 K, .string (ByteArray.mk ⟨tt⟩), .int .i64 p] 24) none))
          clear q1 x0 x1 x2 HJ
          go_wp2_with fail
          refine (HWr.out _ (hT.out.keep HJ1.out.1) (hU.out.keep HJ1.out.1)).mono ?_
          rintro e w3 ⟨rfl, hg3⟩
          have HJ3 := hidJ (HJ1.out.keep hg3)
          clear hg3 HJ1 HWr y0 y1 y2 c0 c1 c2
          generalize wrtW (K, tt, p) = wt at *
          obtain ⟨tx2, B⟩ := wt
          dsimp only at *
          cases B with
          | false =>
            have hR := HRr.out
            unfold joinD at hR
            rw [if_neg (by rw [← HA.out, HFr.out]; simp)] at hR
            subst hR
            clear HRr HA HFr HTk
            go_wp2
            go_ret2
            exact ⟨rfl, HJ3.out.1⟩
          | true =>
            obtain ⟨vv, d0, d1⟩ := HJ3.out.cell hlt
            have HJ4 := hidJ (HJ3.out.set hlt tx2)
            rw [← HTk.out] at HJ4
            have HA4 := hidJ (HFr.out.symm.trans HA.out)
            clear HJ3 HTk HA HFr
            go_wp2
            go_roundg k
            case measure => omega
            case rel => exact ⟨i + 1, by go_num, by omega, by omega, HJ4.out, by have := HA4.out; rwa [Bool.true_and] at this⟩
        · obtain rfl : i = n := by omega
          have HAt : Hid (wrtAll l = true) := by rw [← show wrtAll (l.drop i) = wrtAll l from HA.out, List.drop_eq_nil_of_le (by rw [HLn.out]; exact Nat.le_refl _)]; exact rfl
          have HJ5 := HJ
          rw [List.take_of_length_le (by rw [HLn.out]; exact Nat.le_refl _)] at HJ5
          have HSl := hidJ (join_len (wrtL l) (fun x hx => by
            obtain ⟨t, ht, rfl⟩ := List.mem_map.1 hx
            exact wrt_len t (HLm.out t ht)))
          have hwl : (wrtL l).length = i := by unfold wrtL; rw [List.length_map]; exact HLn.out
          have HJn : Hid (Calls Tryz.prog 13 #[.slice (some ⟨g, 0, none⟩) i i, .string (ByteArray.mk ⟨[32]⟩)] wr fun e w' => e = .returned (.string (ByteArray.mk ⟨Lib.join (wrtL l) [32]⟩)) ∧ w.grownBy w' none) := by
            have hm : ((wrtL l).map fun zz : LxS => ByteArray.mk ⟨zz⟩).map (·.data.toList) = wrtL l := by rw [List.map_map]; exact List.map_id _
            have h := joinS_any wr g 0 i ((wrtL l).map fun zz : LxS => ByteArray.mk ⟨zz⟩) (ByteArray.mk ⟨[32]⟩) HJ5.out.cells (by obtain ⟨_, _, cur, h3, _⟩ := HJ5.out; exact (Array.getElem?_eq_some_iff.1 h3).1) (by rw [List.length_map, hwl]; omega) (by rw [List.length_map, hwl]; exact Nat.le_refl _) (by rw [hm]; have := HSl.out; rw [hwl] at this; show (Lib.join (wrtL l) [32]).length ≤ _; omega)
            rw [hm, List.length_map, hwl] at h
            exact h.mono fun e w' ⟨h1, h2⟩ => ⟨h1, gb_none HJ5.out.1 ⟨h2.os, h2.tape, h2.output, h2.size, fun k hk _ => h2.block k hk⟩⟩
          have hSz : (ByteArray.mk ⟨Lib.join (wrtL l) [32]⟩).size = (Lib.join (wrtL l) [32]).length := rfl
          have hR := HRr.out
          unfold joinD at hR
          rw [if_pos HAt.out, HLn.out] at hR
          have HRs := hidJ hR
          clear HJ HA HJ5 HAt HSl hwl hR HRr
          generalize Lib.join (wrtL l) [32] = S at *
          go_wp2_with fail
          refine HJn.out.mono ?_
          rintro e w6 ⟨rfl, hg6⟩
          have H6 := hidJ hg6
          clear hg6 HJn
          by_cases s1 : 65536 < S.length
          · have s1i : (65536 : Int) < (S.length : Int) := by omega
            have hR := HRs.out
            rw [if_pos s1] at hR
            subst hR
            clear HRs
            go_wp2
            go_ret2
            exact ⟨rfl, H6.out⟩
          · have s1i : ¬ (65536 : Int) < (S.length : Int) := by omega
            have hR := HRs.out
            rw [if_neg s1] at hR
            by_cases s2 : 4096 < i + 1
            · have s2i : (4096 : Int) < (i : Int) + 1 := by omega
              rw [if_pos s2] at hR
              subst hR
              clear HRs
              go_wp2
              go_ret2
              exact ⟨rfl, H6.out⟩
            · obtain ⟨i1, hi1⟩ : ∃ i1 : Int, (i : Int) + 1 = i1 := ⟨_, rfl⟩
              have s2i : ¬ (4096 : Int) < i1 := by omega
              have s2j : (0 : Int) ≤ i1 := by omega
              have s2k : i1 ≤ 4096 := by omega
              rw [if_neg s2] at hR
              subst hR
              clear HRs s2 hn hg hin
              go_wp2
              go_ret2
              exact ⟨rfl, H6.out⟩
end Go.Proofs.YtifjdfmmafbhkaaGreatDoor
