/-
  A label set made of any labels: what made, Make come to: the walks.
-/
import Derived.Test.YtkcgikgihbglnabDoorLbM
import Derived.Test.YtkcgikgihbglnabDoorLbDf
import Derived.Test.YtkcgikgihbglnabDoorLbP2
import Derived.Test.YtkcgikgihbglnabDoorMgC
namespace Go.Proofs.YtkcgikgihbglnabDoor
open Go.RowKit Go.Shelf Go.Sort

theorem ownL_of_rd {w : World} {base g : Nat} {cur : Array Value} {ls : List LbT} (h : w.heap[g]? = some (.cells cur 42 (0, 0))) (hs : cur.size = ls.length * 2) (hr : RdL w (.slice (some ⟨g, 0, none⟩) ls.length ls.length) ls) (hb : base ≤ g) : OwnL w base (.slice (some ⟨g, 0, none⟩) ls.length ls.length) ls := by
  have hm : ls.length ≤ maxLen := by obtain ⟨a, c, he, h1, h2, -⟩ := hr; omega
  have hc : cur.toList = lbf ls := by
    apply List.ext_getElem?
    intro j
    by_cases hj : j < (lbf ls).length
    · have h1 : (lbf ls)[j]? = some (lbf ls)[j] := List.getElem?_eq_getElem hj
      obtain ⟨ad, e, hcc⟩ := hr.rdc j _ h1
      cases e
      rw [Go.WideShapes.add_plain] at hcc
      simp only [World.cell?, h, Nat.zero_add] at hcc
      rw [h1, ← hcc]
      simp
    · rw [lbf_len] at hj
      have e1 : cur.toList[j]? = none := List.getElem?_eq_none (by rw [Array.length_toList, hs]; omega)
      have e2 : (lbf ls)[j]? = none := List.getElem?_eq_none (by rw [lbf_len]; omega)
      rw [e1, e2]
  refine ⟨lbf_len ls, .inr ⟨g, ls.length, cur, rfl, hb, h, Nat.le_refl _, hm, hs, ?_⟩⟩
  rw [← hc]
  exact List.take_of_length_le (by rw [Array.length_toList, hs]; omega)
theorem sortW_block {w : World} {g n : Nat} {cur : Array Value} {d' : Array LbT} {os : Array Obj} (h : w.heap[g]? = some (.cells cur 42 (0, 0))) : ∃ cur', (sortWorldK encL 2 w g 0 n d' os).heap[g]? = some (.cells cur' 42 (0, 0)) ∧ cur'.size = cur.size := by
  have hlt : g < w.heap.size := (Array.getElem?_eq_some_iff.1 h).1
  have e : (sortWorldK encL 2 w g 0 n d' os).heap[g]? = (w.heap[g]?).map (onCells (putCells id 0 (flatK encL 2 d'))) := by
    simp only [sortWorldK, putRowK, putRow, mapBlock, grow]
    rw [Array.getElem?_append_left (by simpa [Sort.ahead] using hlt), Array.getElem?_modify, if_pos rfl]
    rfl
  rw [e, h]
  refine ⟨_, rfl, ?_⟩
  simp [putCells]
/-- the sorted row, as a list -/
theorem sorted_list {ls : List LbT} {d' : Array LbT} (hp : PermIn 0 ls.toArray.size ls.toArray d') (hs : SortedIn (ltOf cmpL) 0 ls.toArray.size d') : d'.toList.Perm ls ∧ srtN d'.toList ∧ d'.size = ls.length := by
  obtain ⟨h1, -, h3⟩ := hp
  have h1 : d'.size = ls.length := by simpa using h1
  have h4 : d'.toList.Perm ls := by
    have h5 : (List.take ls.length d'.toList).Perm ls := by simpa [h1] using h3
    rwa [List.take_of_length_le (by simp [h1])] at h5
  refine ⟨h4, ?_, h1⟩
  refine List.pairwise_iff_getElem.2 fun i j hi hj hij hlt => ?_
  have hi' : i < d'.size := by simpa using hi
  have hj' : j < d'.size := by simpa using hj
  have h5 := hs i j (Nat.zero_le _) hij (by simpa [h1] using hj')
  rw [getElem!_pos d' i hi', getElem!_pos d' j hj', ltL, decide_eq_false_iff_not] at h5
  simp only [Array.getElem_toList] at hlt
  exact h5 (.inl hlt)

set_option maxRecDepth 8000 in
set_option maxHeartbeats 6400000 in
theorem made_any (w : World) (v : Value) (ls : List LbT) (hv : RdL w v ls) (hl : LbIn ls) (hll : ls.length ≤ 4398046511104) (hT : U8S w) :
    Calls Tryd.prog 25 #[v] w fun e w' => ∃ v', e = .returned (.tuple #[v', .int .i64 (madeS ls).2.1, .int .i64 ((madeS ls).2.2 : Int)]) ∧ OwnL w' w.heap.size v' (madeS ls).1 ∧ w.grownBy w' none := by
  have HC : Hid (Calls Tryd.prog 50 #[v] w fun e w' => e = .returned (.slice (some ⟨w.heap.size, 0, none⟩) ls.length ls.length) ∧ Hid (w'.heap[w.heap.size]? = some (.cells (lbf ls).toArray 42 (0, 0)) ∧ w.grownBy w' none)) := copyOf_any w v ls hv hll
  have HS : Hid (∀ W, W.heap[w.heap.size]? = some (.cells (lbf ls).toArray 42 (0, 0)) → w.grownBy W none → Calls Tryd.prog 51 #[.slice (some ⟨w.heap.size, 0, none⟩) ls.length ls.length, .func (.func 52) #[] #[]] W fun e w' => e = .returned (.tuple #[]) ∧ Hid (∃ P : List LbT, OwnL w' w.heap.size (.slice (some ⟨w.heap.size, 0, none⟩) ls.length ls.length) P ∧ P.Perm ls ∧ srtN P ∧ P.length = ls.length ∧ w.grownBy w' none)) := fun W hW hg => by
    have hH := holds_of_block hW
    have hb : w.heap.size < W.heap.size := (Array.getElem?_eq_some_iff.1 hW).1
    have hs1 := sortL_any w.heap.size 0 ls.length ls.toArray W hH hb (by simp; omega)
    simp only [List.size_toArray] at hs1
    refine hs1.mono ?_
    rintro e w' ⟨rfl, d', n, os, hp, hs, rfl⟩
    obtain ⟨p1, p2, p3⟩ := sorted_list (ls := ls) (d' := d') (by simpa using hp) (by simpa using hs)
    have p4 : d'.toList.length = ls.length := by simpa using p3
    refine ⟨rfl, d'.toList, ?_, p1, p2, p4, ?_⟩
    · have hr := rd_of_holds (cap := ls.length) (sortW_holds (n := n) (os := os) hH (by simpa using p3) hb) (by omega) (by unfold maxLen; omega)
      obtain ⟨cur', hc1, hc2⟩ := sortW_block (n := n) (d' := d') (os := os) hW
      rw [← p4]
      refine ownL_of_rd hc1 (by rw [hc2, p4]; simp [lbf_len]) ?_ (Nat.le_refl _)
      rw [p4]
      rw [p3] at hr
      exact hr
    · have hg2 := sortW_grown W w.heap.size n d' os
      exact ⟨hg2.os.trans hg.os, hg2.tape.trans hg.tape, hg2.output.trans hg.output, Nat.le_trans hg.size hg2.size, fun k hk hne => (hg2.block k (by have := hg.size; omega) (by intro e; injection e with e; omega)).trans (hg.block k hk hne)⟩
  have HL : Hid (LbIn ls ∧ U8S w) := ⟨hl, hT⟩
  have HM1 : Hid (¬ ndN ls → madeS ls = ([], 6, 0)) := madeS_dup
  have HM2 : Hid (ndN ls → madeS ls = if (rightS (sortN (fullL ls))).1 = 0 then (sortN (fullL ls), 0, 0) else ([], (rightS (sortN (fullL ls))).1, (rightS (sortN (fullL ls))).2)) := madeS_nd
  generalize madeS ls = M at *
  clear hv hl hT
  go_enter Tryd.func25, Tryd.ntmps25
  go_wp2_with fail
  refine HC.out.mono ?_
  rintro e w1 ⟨rfl, H1⟩
  clear HC
  go_wp2_with fail
  refine (HS.out _ H1.out.1 H1.out.2).mono ?_
  rintro e w2 ⟨rfl, H2⟩
  clear HS H1
  obtain ⟨P, hP1, hP2, hP3, hP4, hP5⟩ := H2.out
  have HP : Hid (OwnL w2 w.heap.size (.slice (some ⟨w.heap.size, 0, none⟩) ls.length ls.length) P ∧ P.Perm ls ∧ srtN P ∧ P.length = ls.length ∧ w.grownBy w2 none) := ⟨hP1, hP2, hP3, hP4, hP5⟩
  clear H2 hP1 hP2 hP3 hP4 hP5
  generalize hb0 : w.heap.size = b0 at *
  have HB0 : Hid (w.heap.size = b0) := hb0
  clear hb0
  go_wp2
  go_loopw [6] (fun i wr => ∃ z : Nat, 1 ≤ z ∧ i = .int .i64 z ∧ Hid (w2.grownBy wr none ∧ ∀ j, 1 ≤ j → j < z → j < ls.length → (P.getD j ([], [])).1 ≠ (P.getD (j - 1) ([], [])).1)) (fun i _ => ls.length - (intOf i).toNat)
  case atStart => exact ⟨1, by omega, rfl, gb_refl _ _, fun j h1 h2 => by omega⟩
  case round =>
    obtain ⟨z, hz1, rfl, hr⟩ := hrel
    by_cases hzl : z < ls.length
    · have hcell : ∀ j, j < ls.length → wr.cell? ⟨b0, j * 2, none⟩ = some (.string (ByteArray.mk ⟨(P.getD j ([], [])).1⟩)) := by
        obtain ⟨g', cap', he, -, -, -, -, h⟩ := OwnL.form (HP.out.1.keep hr.out.1) (by rw [HP.out.2.2.2.1]; omega)
        rw [HP.out.2.2.2.1] at h
        simp only [Value.slice.injEq, Option.some.injEq, Addr.mk.injEq] at he
        obtain ⟨⟨rfl, -, -⟩, -, -⟩ := he
        exact fun j hj => (h j hj).1
      obtain ⟨y, hy⟩ : ∃ y, z = y + 1 := ⟨z - 1, by omega⟩
      have hyi : (z : Int) - 1 = (y : Int) := by omega
      have hzi : (z : Int) < (ls.length : Int) := by omega
      have hyl : (y : Int) < (ls.length : Int) := by omega
      have c0 := hcell z hzl
      have c1 := hcell y (by omega)
      have hy' : z - 1 = y := by omega
      clear hcell hy
      by_cases hn : (P.getD z ([], [])).1 = (P.getD y ([], [])).1
      · have hnd : ¬ ndN ls := fun h => adj_not_nd hz1 (by rw [HP.out.2.2.2.1]; exact hzl) (by rw [hy']; exact hn) ((ndN_perm HP.out.2.1).2 h)
        have hM := HM1.out hnd
        subst hM
        rw [← hn] at c1
        have HE : Hid (w.grownBy wr none) := gb_none HP.out.2.2.2.2 hr.out.1
        clear hr HM1 HM2 HP hn hnd hy'
        generalize ByteArray.mk ⟨(P.getD z ([], [])).1⟩ = sz at *
        go_wp2_with fail
        go_region
        go_wp2
        go_ret3
        exact ⟨_, rfl, OwnL.nil _ _, gb_none HE.out (gb_drew _ none)⟩
      · have hes : ((ByteArray.mk ⟨(P.getD z ([], [])).1⟩).toList == (ByteArray.mk ⟨(P.getD y ([], [])).1⟩).toList) = false := by
          rw [ByteArray.toList_eq, ByteArray.toList_eq, beq_eq_false_iff_ne]
          exact hn
        have hes2 : ¬ (ByteArray.mk ⟨(P.getD z ([], [])).1⟩).toList = (ByteArray.mk ⟨(P.getD y ([], [])).1⟩).toList := by simpa using hes
        have HE : Hid (w2.grownBy wr none ∧ ∀ j, 1 ≤ j → j < z + 1 → j < ls.length → (P.getD j ([], [])).1 ≠ (P.getD (j - 1) ([], [])).1) := ⟨hr.out.1, fun j h1 h2 h3 => by
          by_cases e : j = z
          · subst e; rw [hy']; exact hn
          · exact hr.out.2 j h1 (by omega) h3⟩
        clear hr HM1 HM2 HP hn hy'
        generalize ByteArray.mk ⟨(P.getD z ([], [])).1⟩ = sz at *
        generalize ByteArray.mk ⟨(P.getD y ([], [])).1⟩ = sy at *
        go_wp2_with fail
        go_region
        go_wp2
        go_roundw
        case rel => exact ⟨z + 1, by omega, by simp, gb_none HE.out.1 (gb_drew _ none), HE.out.2⟩
        case measure => simp [intOf]; omega
    · have hzi : ¬ (z : Int) < (ls.length : Int) := by omega
      have hnd : ndN ls := (ndN_perm HP.out.2.1).1 (nd_of_adj HP.out.2.2.1 (fun j h1 h2 => by rw [HP.out.2.2.2.1] at h2; exact hr.out.2 j h1 (by omega) h2))
      have hM := HM2.out hnd
      have hfu := made_uniq HP.out.2.1 HP.out.2.2.1 hnd
      have HD : Hid (Calls Tryd.prog 53 #[.slice (some ⟨b0, 0, none⟩) ls.length ls.length, .func (.func 54) #[] #[]] wr fun e w' => e = .returned (.slice (some ⟨b0, 0, none⟩) (sortN (fullL ls)).length ls.length) ∧ Hid (OwnL w' b0 (.slice (some ⟨b0, 0, none⟩) (sortN (fullL ls)).length ls.length) (sortN (fullL ls)) ∧ w.grownBy w' none)) := by
        refine (deleteFunc_any wr b0 b0 ls.length ls.length P (HP.out.1.keep hr.out.1) HP.out.2.2.2.1.symm (by omega)).mono ?_
        rintro e w' ⟨rfl, h1, h2⟩
        rw [hfu] at h1 ⊢
        exact ⟨rfl, h1, gb_new (gb_none HP.out.2.2.2.2 hr.out.1) h2 (fun k hk => by cases hk; exact Nat.le_of_eq HB0.out)⟩
      have HR : Hid (∀ W, RdL W (.slice (some ⟨b0, 0, none⟩) (sortN (fullL ls)).length ls.length) (sortN (fullL ls)) → w.grownBy W none → Calls Tryd.prog 5 #[.slice (some ⟨b0, 0, none⟩) (sortN (fullL ls)).length ls.length] W fun e w' => e = .returned (.tuple #[.int .i64 (rightS (sortN (fullL ls))).1, .int .i64 ((rightS (sortN (fullL ls))).2 : Int)]) ∧ W.grownBy w' none) := fun W h hW => right_any W _ _ h HL.out.1.made (HL.out.2.keep hW)
      have hSl := sort_len ls
      clear hr HM1 HM2 HP hnd hfu
      generalize sortN (fullL ls) = S at *
      generalize (rightS S).1 = r1 at *
      generalize (rightS S).2 = r2 at *
      by_cases hr : r1 = 0
      · subst hr
        rw [if_pos rfl] at hM
        subst hM
        go_wp2_with fail
        refine HD.out.mono ?_
        rintro e w3 ⟨rfl, H3⟩
        clear HD
        go_wp2_with fail
        refine (HR.out _ H3.out.1.rd H3.out.2).mono ?_
        rintro e w4 ⟨rfl, hg4⟩
        have H4 : Hid (OwnL w4 b0 (.slice (some ⟨b0, 0, none⟩) S.length ls.length) S ∧ w.grownBy w4 none) := ⟨H3.out.1.keep hg4, gb_none H3.out.2 hg4⟩
        clear HR H3 hg4
        go_wp2
        go_ret3
        exact ⟨_, rfl, by rw [HB0.out]; exact H4.out.1, H4.out.2⟩
      · rw [if_neg hr] at hM
        subst hM
        have hrb : (r1 == 0) = false := by rw [beq_eq_false_iff_ne]; exact hr
        go_wp2_with fail
        refine HD.out.mono ?_
        rintro e w3 ⟨rfl, H3⟩
        clear HD
        go_wp2_with fail
        refine (HR.out _ H3.out.1.rd H3.out.2).mono ?_
        rintro e w4 ⟨rfl, hg4⟩
        have H4 : Hid (w.grownBy w4 none) := gb_none H3.out.2 hg4
        clear HR H3 hg4
        go_wp2
        go_ret3
        exact ⟨_, rfl, OwnL.nil _ _, H4.out⟩

set_option maxRecDepth 8000 in
theorem make_any (w : World) (v : Value) (ls : List LbT) (hv : RdL w v ls) (hl : LbIn ls) (hll : ls.length ≤ 4398046511104) (hT : U8S w) :
    Calls Tryd.prog 12 #[v] w fun e w' => ∃ v', e = .returned (.tuple #[v', .int .i64 (madeS ls).2.1]) ∧ OwnL w' w.heap.size v' (madeS ls).1 ∧ w.grownBy w' none := by
  have HM : Hid (Calls Tryd.prog 25 #[v] w fun e w' => ∃ v', e = .returned (.tuple #[v', .int .i64 (madeS ls).2.1, .int .i64 ((madeS ls).2.2 : Int)]) ∧ OwnL w' w.heap.size v' (madeS ls).1 ∧ w.grownBy w' none) := made_any w v ls hv hl hll hT
  generalize madeS ls = M at *
  obtain ⟨M1, M2, M3⟩ := M
  dsimp only at *
  clear hv hl hT
  go_enter Tryd.func12, Tryd.ntmps12
  go_wp2_with fail
  refine HM.out.mono ?_
  rintro e w1 ⟨v1, rfl, ho1, hg1⟩
  have H1 : Hid (OwnL w1 w.heap.size v1 M1 ∧ w.grownBy w1 none) := ⟨ho1, hg1⟩
  clear HM ho1 hg1
  go_wp2
  go_ret2
  exact ⟨_, rfl, H1.out⟩
end Go.Proofs.YtkcgikgihbglnabDoor
