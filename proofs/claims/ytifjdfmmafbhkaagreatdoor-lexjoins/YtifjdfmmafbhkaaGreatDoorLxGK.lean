/-
  LxHd, LxHc, LxBf, LawLxJo, in one text.
-/
import Derived.Test.YtifjdfmmafbhkaaGreatDoorLxHa
import Derived.Test.YtifjdfmmafbhkaaGreatDoorLxHb
import Derived.Test.YtifjdfmmafbhkaaGreatDoorLxGB
import Derived.Test.YtifjdfmmafbhkaaGreatDoorLxDj
import Derived.BigQuiet
import Derived.Test.YtifjdfmmafbhkaaGreatDoorLxGC
import Derived.Test.YtifjdfmmafbhkaaGreatDoorLxW
import Derived.Laws.OwnMore
/- LxHd -/
namespace Go.Proofs.YtifjdfmmafbhkaaGreatDoor
open Go.RowKit

theorem joinTail_more (r : List LxS) (x : LxS) : Lib.joinTail [32] (r ++ [x]) = Lib.joinTail [32] r ++ (32 :: x) := by
  induction r with
  | nil => show (32 :: x) ++ Lib.joinTail [32] [] = Lib.joinTail [32] [] ++ (32 :: x); simp [Lib.joinTail]
  | cons y r ih =>
    show (32 :: y) ++ Lib.joinTail [32] (r ++ [x]) = ((32 :: y) ++ Lib.joinTail [32] r) ++ (32 :: x)
    rw [ih, List.append_assoc]
theorem join_more (xs : List LxS) (x : LxS) : Lib.join (xs ++ [x]) [32] = if xs = [] then x else (Lib.join xs [32] ++ [32]) ++ x := by
  cases xs with
  | nil => rw [if_pos rfl, List.nil_append, Lib.join_one]
  | cons y r =>
    rw [if_neg (by simp), List.cons_append, Lib.join_cons, Lib.join_cons, joinTail_more]
    simp
/-- ahead of place i: n texts are written, all are right; or the end has been gone over too -/
def JnS (l : List Tok) (i n : Nat) (acc : LxS) : Prop := acc = Lib.join (wrtL (l.take n)) [32] ∧ wrtAll (l.take n) = true ∧ (i = n ∨ (i = n + 1 ∧ i = l.length ∧ (l.getD n tkD).1 = 0 ∧ (l.getD n tkD).2.1 = []))
theorem JnS.start (l : List Tok) : JnS l 0 0 [] := ⟨rfl, rfl, .inl rfl⟩
theorem JnS.same {l : List Tok} {i n : Nat} {acc : LxS} (h : JnS l i n acc) (hi : i < l.length) : n = i := by
  rcases h.2.2 with e | ⟨-, e, -⟩
  · exact e.symm
  · omega
theorem JnS.over {l : List Tok} {n : Nat} {acc : LxS} (h : JnS l n n acc) (hn : n + 1 = l.length) (h0 : (l.getD n tkD).1 = 0) (h1 : (l.getD n tkD).2.1 = []) : JnS l (n + 1) n acc := ⟨h.1, h.2.1, .inr ⟨rfl, hn, h0, h1⟩⟩
theorem JnS.step {l : List Tok} {n : Nat} {acc : LxS} (h : JnS l n n acc) (hn : n < l.length) (hw : (wrtW (l.getD n tkD)).2 = true) : JnS l (n + 1) (n + 1) (if n = 0 then acc ++ (wrtW (l.getD n tkD)).1 else (acc ++ [32]) ++ (wrtW (l.getD n tkD)).1) := by
  refine ⟨?_, ?_, .inl rfl⟩
  · rw [wrtL_take l n hn, join_more, h.1]
    by_cases c : n = 0
    · subst c
      rw [if_pos rfl, List.take_zero, show wrtL [] = [] from rfl, if_pos rfl, Lib.join_nil, List.nil_append]
    · rw [if_neg c, if_neg]
      intro e
      have := congrArg List.length e
      unfold wrtL at this
      rw [List.length_map, List.length_take] at this
      simp only [List.length_nil] at this
      omega
  · have h2 := h.2.1
    unfold wrtAll at h2 ⊢
    rw [List.take_succ_eq_append_getElem hn, List.all_append, h2]
    have e : l.getD n tkD = l[n] := by simp [List.getD, List.getElem?_eq_getElem hn]
    rw [e] at hw
    simp [hw]
theorem jusB_end (tx : LxS) : jusB 0 tx = false := by
  unfold jusB
  by_cases c : (cutW tx).2.2 = 0
  · rw [c]; rfl
  · have := (cutW_form tx c).1
    rw [decide_eq_false (show ¬ (cutW tx).1 = 0 by omega), Bool.and_false]
theorem join_bad (l : List Tok) (n : Nat) (hn : n < l.length) (hw : (wrtW (l.getD n tkD)).2 = false) (he : ¬ (n + 1 = l.length ∧ (l.getD n tkD).1 = 0 ∧ (l.getD n tkD).2.1 = [])) : joinW l = ([], 130) := by
  have hmem : l.getD n tkD ∈ dropE l := by
    obtain ⟨m, hm⟩ : ∃ m, l.length = m + 1 := ⟨l.length - 1, by omega⟩
    have e : l.getD n tkD = l[n] := by simp [List.getD, List.getElem?_eq_getElem hn]
    rw [dropE_get l m hm]
    by_cases c : (l.getD m tkD).1 = 0 ∧ (l.getD m tkD).2.1 = []
    · rw [if_pos c]
      have hnm : n < m := by
        refine Nat.lt_of_le_of_ne (by omega) (fun e => he ?_)
        subst e
        exact ⟨by omega, c.1, c.2⟩
      rw [e]
      exact List.mem_take_iff_getElem.2 ⟨n, by omega, rfl⟩
    · rw [if_neg c, e]
      exact List.getElem_mem hn
  have hA : wrtAll (dropE l) = false := by
    rw [Bool.eq_false_iff]
    intro h
    have := List.all_eq_true.1 h _ hmem
    rw [hw] at this
    cases this
  unfold joinW joinD
  rw [hA]
  rfl
theorem JnS.fin {l : List Tok} {n : Nat} {acc : LxS} (h : JnS l l.length n acc) : joinW l = (if 65536 < acc.length then ([], 4) else if 4096 < n + 1 then ([], 7) else (acc, 0)) := by
  have hD : dropE l = l.take n := by
    rcases h.2.2 with e | ⟨e1, -, e3, e4⟩
    · subst e
      rw [List.take_length]
      cases hl : l.length with
      | zero => rw [List.eq_nil_of_length_eq_zero hl]; rfl
      | succ m =>
        rw [dropE_get l m hl, if_neg]
        rintro ⟨c1, c2⟩
        have h2 := h.2.1
        rw [List.take_length] at h2
        have hm : m < l.length := by omega
        have := List.all_eq_true.1 h2 (l.getD m tkD) (by simp [List.getD, List.getElem?_eq_getElem hm])
        unfold wrtW at this
        rw [if_neg (by rw [c1]; decide), c1, jusB_end] at this
        cases this
    · rw [dropE_get l n e1, if_pos ⟨e3, e4⟩]
  have hn : (l.take n).length = n := by
    rw [List.length_take]
    rcases h.2.2 with e | ⟨e, -⟩ <;> omega
  unfold joinW joinD
  rw [hD, h.2.1, if_pos rfl, ← h.1, hn]
theorem JnS.len {l : List Tok} {i n : Nat} {acc : LxS} (h : JnS l i n acc) (hl : ∀ t ∈ l, t.2.1.length ≤ 2000000) : acc.length ≤ 8000003 * n := by
  rw [h.1]
  refine Nat.le_trans (join_len _ ?_) ?_
  · intro x hx
    unfold wrtL at hx
    obtain ⟨t, ht, rfl⟩ := List.mem_map.1 hx
    exact wrt_len t (hl t (List.mem_of_mem_take ht))
  · unfold wrtL
    rw [List.length_map, List.length_take]
    exact Nat.mul_le_mul_left _ (Nat.min_le_left _ _)
set_option maxRecDepth 8000 in
set_option maxHeartbeats 12800000 in
theorem refJoin_any (w : World) (v : Value) (l : List Tok) (hv : RdT w v l) (hn : l.length ≤ 2000000) (hl : ∀ t ∈ l, t.2.1.length ≤ 2000000) :
    Calls Tryz.prog 5 #[v] w fun e w' => e = .returned (joV (joinW l)) ∧ w.grownBy w' none := by
  obtain ⟨aa, c, rfl, h1, h2, h3⟩ := hv
  unfold maxLen at h2
  have HBad := hidJ (join_bad l)
  have HFin := hidJ (fun n acc h => JnS.fin (l := l) (n := n) (acc := acc) h)
  have HLn := hidJ (fun i n acc h => JnS.len (l := l) (i := i) (n := n) (acc := acc) h hl)
  have HTl := hidJ (fun i (h : i < l.length) => hl (l.getD i tkD) (by simp [List.getD, List.getElem?_eq_getElem h]))
  generalize joinW l = R at *
  obtain ⟨N, hN⟩ : ∃ N, l.length = N := ⟨_, rfl⟩
  have HN := hidJ hN
  rw [hN] at h1 h3 hn HBad HFin HTl ⊢
  have hlen := fun W ty => len_tokens W ty aa N c
  clear hN hl
  go_enter Tryz.func5, Tryz.ntmps5
  go_wp2_with fail
  go_loopg [4, 5, 6] (N + 1) (fun gk v4 v5 v6 wr => ∃ (i n : Nat) (acc : LxS) (v : Value), v4 = v ∧ v5 = .int .i64 (n : Int) ∧ v6 = .int .i64 (i : Int) ∧ i ≤ N ∧ n ≤ i ∧ N < i + gk ∧ Hid (JnS l i n acc ∧ Own wr w.heap.size v acc ∧ w.grownBy wr none))
  case atStart => exact ⟨0, 0, [], _, rfl, rfl, rfl, by omega, by omega, by omega, JnS.start l, Own.nil _ _, gb_refl _ _⟩
  case round =>
    obtain ⟨i, n, acc, v, rfl, rfl, rfl, hiN, hni, hg, hr⟩ := hrel
    have HO := hidJ hr.out.2
    by_cases hlt : i < N
    · obtain ⟨k, rfl⟩ : ∃ k, gk = k + 1 := ⟨gk - 1, by omega⟩
      have hli : (i : Int) < (N : Int) := by omega
      have hltl : i < l.length := by rw [HN.out]; exact hlt
      obtain rfl : n = i := hr.out.1.same hltl
      have hac := HLn.out _ _ _ hr.out.1
      obtain ⟨ba, oa, ea, xa0, xa1, -⟩ := h3 n hlt
      subst ea
      have y0 := cell_keep HO.out.2 xa0
      have y1 := cell_keep HO.out.2 xa1
      have htl := HTl.out n hlt
      have HB := hidJ (fun h2 h3 => HBad.out n hlt h2 h3)
      have HS := hidJ (fun h => hr.out.1.step hltl h)
      have HOv := hidJ (fun h1 h2 h3 => hr.out.1.over (h1 : n + 1 = l.length) h2 h3)
      rw [HN.out] at HOv
      have HWd : Hid (∀ t : Tok, wrtW t = if t.1 = 4 then ((quW t.2.1).1, decide ((quW t.2.1).2 = 0)) else (t.2.1, jusB t.1 t.2.1)) := fun t => rfl
      have HSW := hidJ (HWd.out (l.getD n tkD))
      clear hr h3 xa0 xa1 HBad HFin HLn HTl hltl HWd
      generalize wrtW (l.getD n tkD) = WW at *
      generalize l.getD n tkD = t at *
      obtain ⟨K, tx, ps⟩ := t
      dsimp only at *
      have hztx : (ByteArray.mk ⟨tx⟩).size = tx.length := rfl
      by_cases k0 : K = 0
      · subst k0
        have hWf : WW.2 = false := by rw [HSW.out, if_neg (by decide)]; exact jusB_end tx
        by_cases ht : tx = []
        · subst ht
          by_cases hend : n + 1 = N
          · have HN1 := hidJ (HOv.out hend rfl rfl)
            have hgi : ¬ (n : Int) < (N : Int) - 1 := by omega
            clear HB HS HOv HSW
            as_aux_lemma =>
              go_wp2
              go_roundg k
              case measure => omega
              case rel => exact ⟨n + 1, n, acc, _, rfl, rfl, by go_num, by omega, by omega, by omega, HN1.out, HO.out⟩
          · obtain rfl : R = ([], 130) := HB.out hWf (fun e => hend e.1)
            have hgi : (n : Int) < (N : Int) - 1 := by omega
            clear HB HS HOv HSW
            as_aux_lemma =>
              go_wp2
              go_ret2
              exact ⟨rfl, HO.out.2⟩
        · obtain rfl : R = ([], 130) := HB.out hWf (fun e => ht e.2.2)
          have hn2 : (tx == []) = false := by rw [beq_eq_false_iff_ne]; exact ht
          have hn3 : ((ByteArray.mk ⟨tx⟩).toList == []) = false := by rw [mk_toList]; exact hn2
          have hn4 : ¬ (ByteArray.mk ⟨tx⟩ = ByteArray.mk #[]) := fun e => ht (by injection e with e; injection e)
          clear HB HS HOv HSW
          as_aux_lemma =>
            go_wp2
            go_ret2
            exact ⟨rfl, HO.out.2⟩
      · have k0j : (K == 0) = false := by rw [beq_eq_false_iff_ne]; exact k0
        by_cases k4 : K = 4
        · subst k4
          have HQ := hidJ (fun W => refQuote_any W tx (by omega))
          rw [if_pos rfl] at HSW
          have hql : (quW tx).1.length ≤ 8000002 := by
            have := wrt_len ((4 : Int), tx, ps) htl
            unfold wrtW at this
            rwa [if_pos rfl] at this
          generalize quW tx = QW at *
          obtain ⟨qt, qe⟩ := QW
          dsimp only [quV] at *
          by_cases hqe : qe = 0
          · subst hqe
            have hWt : WW.2 = true := by rw [HSW.out]; rfl
            have HJ := hidJ (HS.out hWt)
            rw [show WW.1 = qt by rw [HSW.out]] at HJ
            clear HB HS HOv HSW hWt
            as_aux_lemma =>
              go_wp2_with fail
              refine (HQ.out _).mono ?_
              rintro e w2 ⟨rfl, hg2⟩
              have HO2 := hidJ (show Own w2 w.heap.size u4 acc ∧ w.grownBy w2 none from ⟨HO.out.1.keep hg2, gb_none HO.out.2 hg2⟩)
              clear hg2 HQ HO y0 y1
              obtain ⟨T, hT⟩ : ∃ T, T = qt := ⟨_, rfl⟩
              rw [← hT] at HJ
              have hTl : T.length ≤ 8000002 := by rw [hT]; exact hql
              subst hT
              by_cases hn0 : n = 0
              · subst hn0
                rw [if_pos rfl] at HJ
                go_wp2_with (at_builtin; refine wp_appT8 rfl _ _ rfl w.heap.size u4 acc (ByteArray.mk ⟨T⟩) rfl rfl HO2.out.1 (by show acc.length + T.length ≤ 140737488355328; omega) HO2.out.2.size ?_; intro v5 w5 ho5 hg5)
                have H5 := hidJ (show Own w5 w.heap.size v5 (acc ++ T) ∧ w.grownBy w5 none from ⟨ho5, gb_new HO2.out.2 hg5 (fun k hk => (HO2.out.1.lt k hk).1)⟩)
                clear ho5 hg5 HO2
                go_wp2
                go_roundg k
                case measure => omega
                case rel => exact ⟨1, 1, acc ++ T, v5, rfl, rfl, rfl, by omega, by omega, by omega, HJ.out, H5.out.1, H5.out.2⟩
              · rw [if_neg hn0] at HJ
                have hn0i : (0 : Int) < (n : Int) := by omega
                clear hn0
                go_wp2_with (at_builtin; refine wp_app rfl _ _ rfl w.heap.size _ _ acc [32] rfl rfl (HO2.out.1.keep (World.grownBy_alloc _ _ _)) (Rd_lit _ [32] 1 rfl (by simp) _ rfl) ?c1a ?c2a ?_)
                case c1a => first | omega | (simp; omega)
                case c2a => have := HO2.out.2.size; first | omega | (simp; omega)
                intro v3 w3 ho3 hf3
                have H3 := hidJ (show Own w3 w.heap.size v3 (acc ++ [32]) ∧ w.grownBy w3 none from ⟨ho3, Fr.new (gb_none HO2.out.2 (World.grownBy_alloc _ _ _)) hf3 (fun k hk => (HO2.out.1.lt k hk).1)⟩)
                obtain ⟨ac2, hac2⟩ : ∃ a, acc ++ [32] = a := ⟨_, rfl⟩
                have hal2 : ac2.length ≤ 8000003 * n + 1 := by rw [← hac2, List.length_append]; simp only [List.length_cons, List.length_nil]; omega
                rw [hac2] at H3 HJ
                clear ho3 hf3 HO2 hac2
                go_wp2_with (at_builtin; refine wp_appT8 rfl _ _ rfl w.heap.size v3 ac2 (ByteArray.mk ⟨T⟩) rfl rfl H3.out.1 (by show ac2.length + T.length ≤ 140737488355328; omega) H3.out.2.size ?_; intro v5 w5 ho5 hg5)
                have H5 := hidJ (show Own w5 w.heap.size v5 (ac2 ++ T) ∧ w.grownBy w5 none from ⟨ho5, gb_new H3.out.2 hg5 (fun k hk => (H3.out.1.lt k hk).1)⟩)
                clear ho5 hg5 H3
                go_wp2
                go_roundg k
                case measure => omega
                case rel => exact ⟨n + 1, n + 1, ac2 ++ T, v5, rfl, by go_num, by go_num, by omega, by omega, by omega, HJ.out, H5.out.1, H5.out.2⟩
          · have hWf : WW.2 = false := by rw [HSW.out]; exact decide_eq_false hqe
            obtain rfl : R = ([], 130) := HB.out hWf (fun e => absurd e.2.1 (by decide))
            have hqj : (qe == 0) = false := by rw [beq_eq_false_iff_ne]; exact hqe
            clear HB HS HOv HSW
            as_aux_lemma =>
              go_wp2_with fail
              refine (HQ.out _).mono ?_
              rintro e w2 ⟨rfl, hg2⟩
              have H2 := hidJ (gb_none HO.out.2 hg2)
              clear hg2
              go_wp2
              go_ret2
              exact ⟨rfl, H2.out⟩
        · have k4j : (K == 4) = false := by rw [beq_eq_false_iff_ne]; exact k4
          have HA := hidJ (fun W => refAlone_any W tx K (by omega))
          rw [if_neg k4] at HSW
          cases hj : jusB K tx with
          | true =>
            rw [hj] at HA HSW
            have HJ := hidJ (HS.out (by rw [HSW.out]))
            rw [show WW.1 = tx by rw [HSW.out]] at HJ
            have hTl : tx.length ≤ 8000002 := by omega
            clear HB HS HOv HSW hj
            as_aux_lemma =>
              go_wp2_with fail
              refine (HA.out _).mono ?_
              rintro e w2 ⟨rfl, hg2⟩
              have HO2 := hidJ (show Own w2 w.heap.size u4 acc ∧ w.grownBy w2 none from ⟨HO.out.1.keep hg2, gb_none HO.out.2 hg2⟩)
              clear hg2 HA HO y0 y1
              obtain ⟨T, hT⟩ : ∃ T, tx = T := ⟨_, rfl⟩
              subst hT
              by_cases hn0 : n = 0
              · subst hn0
                rw [if_pos rfl] at HJ
                go_wp2_with (at_builtin; refine wp_appT8 rfl _ _ rfl w.heap.size u4 acc (ByteArray.mk ⟨tx⟩) rfl rfl HO2.out.1 (by show acc.length + tx.length ≤ 140737488355328; omega) HO2.out.2.size ?_; intro v5 w5 ho5 hg5)
                have H5 := hidJ (show Own w5 w.heap.size v5 (acc ++ tx) ∧ w.grownBy w5 none from ⟨ho5, gb_new HO2.out.2 hg5 (fun k hk => (HO2.out.1.lt k hk).1)⟩)
                clear ho5 hg5 HO2
                go_wp2
                go_roundg k
                case measure => omega
                case rel => exact ⟨1, 1, acc ++ tx, v5, rfl, rfl, rfl, by omega, by omega, by omega, HJ.out, H5.out.1, H5.out.2⟩
              · rw [if_neg hn0] at HJ
                have hn0i : (0 : Int) < (n : Int) := by omega
                clear hn0
                go_wp2_with (at_builtin; refine wp_app rfl _ _ rfl w.heap.size _ _ acc [32] rfl rfl (HO2.out.1.keep (World.grownBy_alloc _ _ _)) (Rd_lit _ [32] 1 rfl (by simp) _ rfl) ?c1b ?c2b ?_)
                case c1b => first | omega | (simp; omega)
                case c2b => have := HO2.out.2.size; first | omega | (simp; omega)
                intro v3 w3 ho3 hf3
                have H3 := hidJ (show Own w3 w.heap.size v3 (acc ++ [32]) ∧ w.grownBy w3 none from ⟨ho3, Fr.new (gb_none HO2.out.2 (World.grownBy_alloc _ _ _)) hf3 (fun k hk => (HO2.out.1.lt k hk).1)⟩)
                obtain ⟨ac2, hac2⟩ : ∃ a, acc ++ [32] = a := ⟨_, rfl⟩
                have hal2 : ac2.length ≤ 8000003 * n + 1 := by rw [← hac2, List.length_append]; simp only [List.length_cons, List.length_nil]; omega
                rw [hac2] at H3 HJ
                clear ho3 hf3 HO2 hac2
                go_wp2_with (at_builtin; refine wp_appT8 rfl _ _ rfl w.heap.size v3 ac2 (ByteArray.mk ⟨tx⟩) rfl rfl H3.out.1 (by show ac2.length + tx.length ≤ 140737488355328; omega) H3.out.2.size ?_; intro v5 w5 ho5 hg5)
                have H5 := hidJ (show Own w5 w.heap.size v5 (ac2 ++ tx) ∧ w.grownBy w5 none from ⟨ho5, gb_new H3.out.2 hg5 (fun k hk => (H3.out.1.lt k hk).1)⟩)
                clear ho5 hg5 H3
                go_wp2
                go_roundg k
                case measure => omega
                case rel => exact ⟨n + 1, n + 1, ac2 ++ tx, v5, rfl, by go_num, by go_num, by omega, by omega, by omega, HJ.out, H5.out.1, H5.out.2⟩
          | false =>
            rw [hj] at HA HSW
            obtain rfl : R = ([], 130) := HB.out (by rw [HSW.out]) (fun e => k0 e.2.1)
            clear HB HS HOv HSW hj
            as_aux_lemma =>
              go_wp2_with fail
              refine (HA.out _).mono ?_
              rintro e w2 ⟨rfl, hg2⟩
              have H2 := hidJ (gb_none HO.out.2 hg2)
              clear hg2
              go_wp2
              go_ret2
              exact ⟨rfl, H2.out⟩
    · obtain rfl : i = N := by omega
      have hli : ¬ (i : Int) < (i : Int) := by omega
      have hF := HFin.out n acc hr.out.1
      have hac := HLn.out _ _ _ hr.out.1
      clear hr HBad HFin HLn HTl h3
      obtain ⟨a4, c4, e4⟩ := HO.out.1.shape
      subst e4
      obtain ⟨M, hM⟩ : ∃ M, acc.length = M := ⟨_, rfl⟩
      have hcv := run_strB8 HO.out.1.rd
      rw [hM] at hF HO hac hcv
      simp only [hM]
      clear hM
      have hlenB := fun W ty => run_len_slice (P := Tryz.prog) W 36 ty a4 M c4 (by simp [Program.elem, Tryz.underlying36])
      have HG := hidJ HO.out.2
      clear HO
      by_cases c5 : 65536 < M
      · rw [if_pos c5] at hF
        subst hF
        have c5i : (65536 : Int) < (M : Int) := by omega
        go_wp2
        go_ret2
        exact ⟨rfl, HG.out⟩
      · rw [if_neg c5] at hF
        have c5i : ¬ (65536 : Int) < (M : Int) := by omega
        by_cases c6 : 4096 < n + 1
        · rw [if_pos c6] at hF
          subst hF
          have c6i : (4096 : Int) < (n : Int) + 1 := by omega
          go_wp2
          go_ret2
          exact ⟨rfl, HG.out⟩
        · rw [if_neg c6] at hF
          subst hF
          have c6i : ¬ (4096 : Int) < (n : Int) + 1 := by omega
          go_wp2
          go_ret2
          exact ⟨rfl, HG.out⟩
end Go.Proofs.YtifjdfmmafbhkaaGreatDoor

/- LxHc -/
namespace Go.Proofs.YtifjdfmmafbhkaaGreatDoor
open Go.RowKit

set_option maxRecDepth 8000 in
set_option maxHeartbeats 3200000 in
theorem refSame_any (w : World) (va vb : Value) (a b : List Tok) (ha : RdT w va a) (hb : RdT w vb b) :
    Calls Tryz.prog 9 #[va, vb] w fun e w' => e = .returned (.bool (sameB a b)) ∧ w.grownBy w' none := by
  obtain ⟨aa, ca, rfl, ha1, ha2, ha3⟩ := ha
  obtain ⟨ab, cb, rfl, hb1, hb2, hb3⟩ := hb
  unfold maxLen at ha2 hb2
  have hla := fun W ty => len_tokens W ty aa a.length ca
  have hlb := fun W ty => len_tokens W ty ab b.length cb
  by_cases hl : a.length = b.length
  · have HF := hidJ (fun i h => sameB_from a b hl i h)
    obtain ⟨R, hR⟩ : ∃ R, sameB a b = R := ⟨_, rfl⟩
    have HR0 := hidJ (show sameB (a.drop 0) (b.drop 0) = R by rw [List.drop_zero, List.drop_zero]; exact hR)
    rw [hR]
    clear hR
    obtain ⟨n, hn⟩ : ∃ n, a.length = n := ⟨_, rfl⟩
    have hnb : b.length = n := by omega
    have HN := hidJ (And.intro hn hnb)
    rw [hn] at hla ha1 ha3
    rw [hnb] at hlb hb1 hb3
    rw [hn, hnb]
    clear hn hnb hl
    go_enter Tryz.func9, Tryz.ntmps9
    go_wp2_with fail
    go_loopg [5] (n + 1) (fun gk v5 wr => ∃ i : Nat, v5 = .int .i64 (i : Int) ∧ n < i + gk ∧ i ≤ n ∧ Hid (sameB (a.drop i) (b.drop i) = R ∧ w.grownBy wr none))
    case atStart => exact ⟨0, rfl, by omega, by omega, HR0.out, gb_refl _ _⟩
    case round =>
      obtain ⟨i, rfl, hg, hin, hr⟩ := hrel
      clear HR0
      by_cases hlt : i < n
      · obtain ⟨k, rfl⟩ : ∃ k, gk = k + 1 := ⟨gk - 1, by omega⟩
        have hli2 : (i : Int) < (n : Int) := by omega
        obtain ⟨ba, oa, ea, xa0, xa1, xa2⟩ := ha3 i hlt
        obtain ⟨bb, ob, eb, xb0, xb1, xb2⟩ := hb3 i hlt
        subst ea eb
        have HG := hidJ hr.out.2
        have HE := hidJ (hr.out.1.symm.trans (HF.out i (by rw [HN.out.1]; exact hlt)))
        have ya0 := cell_keep HG.out xa0
        have ya1 := cell_keep HG.out xa1
        have yb0 := cell_keep HG.out xb0
        have yb1 := cell_keep HG.out xb1
        clear hr ha3 hb3 xa0 xa1 xa2 xb0 xb1 xb2 HF
        generalize a.getD i tkD = ta at *
        generalize b.getD i tkD = tb at *
        obtain ⟨k1, t1, a1⟩ := ta
        obtain ⟨k2, t2, a2⟩ := tb
        have HQ : Hid (tkEq (k1, t1, a1) (k2, t2, a2) = (decide (k1 = k2) && decide (t1 = t2))) := by
          unfold tkEq
          first | rfl | (rw [Bool.eq_iff_iff]; simp)
        dsimp only at *
        by_cases e1 : k1 = k2
        · subst e1
          by_cases e2 : t1 = t2
          · subst e2
            have hR := HE.out
            rw [HQ.out, decide_eq_true rfl, decide_eq_true rfl, Bool.true_and, Bool.true_and] at hR
            have HR3 := hidJ hR.symm
            have heq : ((ByteArray.mk ⟨t1⟩).toList == (ByteArray.mk ⟨t1⟩).toList) = true := by simp
            clear hR HE HQ
            go_wp2_with fail
            go_quiet (fail)
            have hgd : wr.grownBy (wr.drewN nq) none := ⟨rfl, rfl, rfl, Nat.le_refl _, fun _ _ _ => rfl⟩
            have HR2 := hidJ (gb_none HG.out hgd)
            clear hgd ya0 ya1 yb0 yb1
            generalize wr.drewN nq = W3 at *
            go_wp2
            go_roundg k
            case measure => omega
            case rel => exact ⟨i + 1, by go_num, by omega, by omega, HR3.out, HR2.out⟩
          · have hR : R = false := by rw [HE.out, HQ.out, decide_eq_false e2, Bool.and_false, Bool.false_and]
            subst hR
            have e2b : (t1 == t2) = false := by rw [beq_eq_false_iff_ne]; exact e2
            have e2c : ((ByteArray.mk ⟨t1⟩).toList == (ByteArray.mk ⟨t2⟩).toList) = false := by rw [mk_toList, mk_toList]; exact e2b
            have e2d : ¬ (ByteArray.mk ⟨t1⟩ = ByteArray.mk ⟨t2⟩) := fun h => e2 (by injection h with h; injection h)
            clear HE HQ
            go_wp2_with fail
            go_quiet (fail)
            have hgd : wr.grownBy (wr.drewN nq) none := ⟨rfl, rfl, rfl, Nat.le_refl _, fun _ _ _ => rfl⟩
            have HR2 := hidJ (gb_none HG.out hgd)
            clear hgd ya0 ya1 yb0 yb1
            generalize wr.drewN nq = W3 at *
            go_wp2
            go_ret
            exact ⟨rfl, HR2.out⟩
        · have hR : R = false := by rw [HE.out, HQ.out, decide_eq_false e1, Bool.false_and, Bool.false_and]
          subst hR
          have e1b : (k1 == k2) = false := by rw [beq_eq_false_iff_ne]; exact e1
          have e1c : (k1 != k2) = true := by rw [bne, e1b]; rfl
          clear HE HQ
          go_wp2_with fail
          go_quiet (fail)
          have hgd : wr.grownBy (wr.drewN nq) none := ⟨rfl, rfl, rfl, Nat.le_refl _, fun _ _ _ => rfl⟩
          have HR2 := hidJ (gb_none HG.out hgd)
          clear hgd ya0 ya1 yb0 yb1
          generalize wr.drewN nq = W3 at *
          go_wp2
          go_ret
          exact ⟨rfl, HR2.out⟩
      · obtain rfl : i = n := by omega
        have hR : R = true := by
          rw [← hr.out.1, List.drop_eq_nil_of_le (by rw [HN.out.1]; exact Nat.le_refl _), List.drop_eq_nil_of_le (by rw [HN.out.2]; exact Nat.le_refl _)]
          rfl
        subst hR
        have HG := hidJ hr.out.2
        clear hr
        go_wp2
        go_ret
        exact ⟨rfl, HG.out⟩
  · have hli : ((a.length : Int) == (b.length : Int)) = false := by rw [beq_eq_false_iff_ne]; omega
    have hli2 : ¬ (a.length : Int) = (b.length : Int) := by omega
    rw [sameB_len a b hl]
    go_enter Tryz.func9, Tryz.ntmps9
    go_wp2
    go_ret
    exact ⟨rfl, gb_refl _ _⟩
end Go.Proofs.YtifjdfmmafbhkaaGreatDoor

/- LxBf -/
namespace Go.Proofs.YtifjdfmmafbhkaaGreatDoor
open Go.RowKit

theorem tkf_at (l : List Tok) : ∀ i, i < l.length → (tkf l)[i * 3]? = some (.int .i64 (l.getD i tkD).1) ∧ (tkf l)[i * 3 + 1]? = some (.string (ByteArray.mk ⟨(l.getD i tkD).2.1⟩)) ∧ (tkf l)[i * 3 + 2]? = some (.int .i64 (l.getD i tkD).2.2) := by
  induction l with
  | nil => intro i hi; simp at hi
  | cons t l ih =>
    intro i hi
    cases i with
    | zero => exact ⟨rfl, rfl, rfl⟩
    | succ i =>
      have := ih i (by simpa using hi)
      rw [show (i + 1) * 3 = i * 3 + 1 + 1 + 1 by omega]
      exact this
/-- nil slices have no room -/
def NilZ (v : Value) : Prop := ∀ n c, v = .slice none n c → c = 0
theorem OwnT.nilz {w : World} {base : Nat} {v : Value} {l : List Tok} (h : OwnT w base v l) : NilZ v := fun n c e => by
  rcases h.2 with ⟨rfl, hn⟩ | ⟨g, cap, cur, rfl, _⟩
  · cases e; rfl
  · cases e
theorem run_appT (w : World) (ty : TypeId) (base : Nat) (v : Value) (l : List Tok) (hown : OwnT w base v l) (x : Value) (m : List Tok) (hx : RdT w x m) (hx0 : NilZ x)
    (hsz : l.length + m.length ≤ 1000000000) (hbase : base ≤ w.heap.size) :
    ∃ v' w', (Builtin.append_ #[22, 22] ty #[v, x]).run Tryz.prog w = .ok v' w' ∧ OwnT w' base v' (l ++ m) ∧ w.grownBy w' v.ownBlock := by
  obtain ⟨i0, hi, hz0, hz1, hz2⟩ := info_parts infoT
  obtain ⟨a, c, rfl, hmc, hcm, hra⟩ := hx
  cases a with
  | none =>
    have hc := hx0 _ _ rfl
    subst hc
    have hm0 : m = [] := List.eq_nil_of_length_eq_zero (by omega)
    subst hm0
    exact ⟨v, w, run_append_owned_none w base 22 ty 24 i0 3 Tryz.underlying22 hi v l.length _ hown, by simpa using hown, gb_refl _ _⟩
  | some ad =>
    have hnews : ∀ j u, (tkf m)[j]? = some u → w.cell? (ad.add j) = some u := by
      intro j u hj
      have hjl : j < (tkf m).length := by
        apply Decidable.byContradiction
        intro hc
        rw [List.getElem?_eq_none (by omega)] at hj
        cases hj
      rw [tkf_len] at hjl
      obtain ⟨b, o, e, c0, c1, c2⟩ := hra (j / 3) (by omega)
      cases e
      obtain ⟨t0, t1, t2⟩ := tkf_at m (j / 3) (by omega)
      rw [Go.WideShapes.add_plain]
      have hj3 : j = j / 3 * 3 ∨ j = j / 3 * 3 + 1 ∨ j = j / 3 * 3 + 2 := by omega
      generalize j / 3 = i at *
      rcases hj3 with rfl | rfl | rfl
      · rw [t0] at hj; cases hj; exact c0
      · rw [t1] at hj; cases hj; exact c1
      · rw [t2] at hj; cases hj; exact c2
    have hone : ∀ u ∈ tkf m, u.oneCell' = true := by
      intro u hu
      obtain ⟨t, -, ht⟩ := List.mem_flatMap.1 hu
      simp only [List.mem_cons, List.not_mem_nil, or_false] at ht
      rcases ht with rfl | rfl | rfl <;> rfl
    obtain ⟨v', w', hr, ho, hg, _⟩ := run_append_own (P := Tryz.prog) w base 22 ty 24 i0 _ 3 32 Tryz.underlying22 hi hz0 hz1 hz2 rfl (by decide) v l.length (tkf l) hown
      ad m.length c (tkf m) (tkf_len m) hnews hone (by unfold maxLen; omega) (by omega) hbase
    refine ⟨v', w', hr, ?_, hg⟩
    show w'.ownsRow base 24 3 v' (l ++ m).length (tkf (l ++ m))
    rw [tkf_app, List.length_append]
    exact ho
/-- APPEND of a list, for the walk. -/
theorem wp_appTs {w : World} {ops : Array Oper} {rest : List Oper} {o : Oper} {a : Act} {Q : Exit → Act → World → Prop} (hgd : o.guard = none) (s x : Operand)
    (ho : o.op = .call { callee := .builtin .append, args := #[s, x], argTypes := #[22, 22] })
    (base : Nat) (v xv : Value) (l m : List Tok) (hs : a.eval s = v) (hx : a.eval x = xv) (hown : OwnT w base v l) (hr : RdT w xv m) (hr0 : NilZ xv) (hsz : l.length + m.length ≤ 1000000000) (hbase : base ≤ w.heap.size)
    (h : ∀ v' w', OwnT w' base v' (l ++ m) → w.grownBy w' v.ownBlock → wpList Tryz.prog ops Q rest (a.put o.dst v') w') : wpList Tryz.prog ops Q (o :: rest) a w := by
  refine wpList_plain hgd fun K hK => ?_
  obtain ⟨v', w', hrun, h2, h3⟩ := run_appT w o.type base v l hown xv m hr hr0 hsz hbase
  unfold Oper.wp execOp
  simp only [ho, resolve, invoke, builtin, Sem.run_bind, Sem.run_pure, Result.andThen_ok, List.map_toArray, List.map_cons, List.map_nil, hs, hx, hrun]
  exact hK _ _ (h v' w' h2 h3)
end Go.Proofs.YtifjdfmmafbhkaaGreatDoor

/- LawLxJo -/
namespace Go.Proofs.YtifjdfmmafbhkaaGreatDoor
open Go.RowKit

theorem run_headJ (W : World) (a : Option Addr) (n c p : Nat) (hp : p ≤ n) (hc : n ≤ c) : (Instr.slice 22 (.slice a n c) none (some (.int .i64 (p : Int))) none).run Tryz.prog W = .ok (.slice a p c) W := by
  have ht' : Tryz.prog.underlying 22 = some (.slice (Tryz.prog.elem 22)) := by simp [Program.elem, Tryz.underlying22]
  have he : Tryz.prog.elem 22 = 24 := by simp [Program.elem, Tryz.underlying22]
  rw [run_slice_h W _ _ _ _ ht' .i64 _ (by omega) (by omega), he, Tryz.sizeOf24]
  have hm : (Option.map (fun x => Addr.add x (0 * 3)) a) = a := by cases a <;> simp [Addr.add]
  simp [Result.andThen, sliced]
  intro _
  simpa using hm
set_option maxRecDepth 8000 in
set_option maxHeartbeats 12800000 in
theorem lxJoins_walk (w : World) (s : LxS) (v u : Value) (l m : List Tok) (hs : s.length ≤ 200000000) (hv : RdT w v l) (hv0 : NilZ v) (hu : RdT w u m) (hn : l.length ≤ 2000000) (hl : ∀ t ∈ l, t.2.1.length ≤ 2000000) (hT : U8S w) (hU : UnT w) (hP : P10 w) :
    Calls Tryz.prog 3 #[.string (ByteArray.mk ⟨s⟩), v, u] w fun e w' => e = .returned (.bool true) ∧ Below w.heap.size w w' := by
  have hz : (ByteArray.mk ⟨s⟩).size = s.length := rfl
  have HJ1 := hidJ (fun W x (h : w.grownBy W none) (hx : RdT W x l) => join_any W x l hx hn hl (hT.keep h) (hU.keep h))
  have HJ2 := hidJ (fun W x (hx : RdT W x l) => refJoin_any W x l hx hn hl)
  have HQ1 := hidJ (fun W (h : w.grownBy W none) => quote_any W s hs (hT.keep h))
  have HQ2 := hidJ (fun W => refQuote_any W s hs)
  have HK : Hid (∀ W, w.grownBy W none → Calls Tryz.prog 11 #[] W fun e w' => e = .returned (.bool true) ∧ W.grownBy w' none) := fun W h => known_any W (hT.keep h) (hU.keep h) (hP.keep h)
  have HWh := hidJ (fun W va vb A (h1 : RdT W va A) (h2 : RdT W vb A) => by
    have := whole_any W va vb A A h1 h2
    rwa [decide_eq_true rfl] at this)
  have HS1 := hidJ (fun W va vb a b h1 h2 => same_any W va vb a b h1 h2)
  have HS2 := hidJ (fun W va vb a b h1 h2 => refSame_any W va vb a b h1 h2)
  have HV := hidJ hv
  have HV0 := hidJ hv0
  have HUm := hidJ hu
  obtain ⟨va, vc, rfl, hvc, -, -⟩ := hv
  have HRf := hidJ (sameB_refl l)
  clear hT hU hP hv0 hu hl
  obtain ⟨N, hN⟩ : ∃ N, l.length = N := ⟨_, rfl⟩
  have HN := hidJ hN
  rw [hN] at hn hvc HV HV0 ⊢
  have hlen := fun W ty => len_tokens W ty va N vc
  clear hN
  generalize joinW l = JW at *
  generalize quW s = QW at *
  obtain ⟨jt, je⟩ := JW
  obtain ⟨qt, qe⟩ := QW
  dsimp only [joV, quV] at *
  go_enter Tryz.func3, Tryz.ntmps3
  go_wp2_with (at_builtin; refine wp_appTs rfl _ _ rfl w.heap.size (.slice none 0 0) _ [] l rfl rfl (OwnT.nil _ _) HV.out HV0.out ?c1 ?c2 ?_)
  case c1 => have := HN.out; simp only [List.length_nil]; omega
  case c2 => exact Nat.le_refl _
  intro v1 w1 ho1 hg1
  have HO1 := hidJ (show OwnT w1 w.heap.size v1 l ∧ w.grownBy w1 none from ⟨ho1, hg1⟩)
  clear ho1 hg1
  have hk2 := hidJ (alloc_at w1 (.cells #[.int .i64 77, .string ⟨#[]⟩, .int .i64 0] 24))
  have HO2 := hidJ (show OwnT (w1.alloc (.cells #[.int .i64 77, .string ⟨#[]⟩, .int .i64 0] 24)) w.heap.size v1 l ∧ w.grownBy (w1.alloc (.cells #[.int .i64 77, .string ⟨#[]⟩, .int .i64 0] 24)) none from ⟨HO1.out.1.keep (World.grownBy_alloc _ _ _), gb_none HO1.out.2 (World.grownBy_alloc _ _ _)⟩)
  have hbs := hidJ HO2.out.2.size
  clear HO1
  go_wp2_with (at_builtin; refine wp_appT rfl _ _ rfl w.heap.size v1 l (77, [], 0) w1.heap.size rfl rfl HO2.out.1 hk2.out (by have := HN.out; omega) hbs.out ?_; intro v2 w2 ho2 hg2)
  have HO3 := hidJ (show OwnT w2 w.heap.size v2 (l ++ [((77 : Int), ([] : LxS), (0 : Int))]) ∧ w.grownBy w2 none from ⟨ho2, gb_new HO2.out.2 hg2 (fun k hk => (HO2.out.1.lt k hk).1)⟩)
  clear ho2 hg2 hk2 hbs HO2
  generalize w1.alloc (.cells #[.int .i64 77, .string ⟨#[]⟩, .int .i64 0] 24) = w1a at *
  have hLn : (l ++ [((77 : Int), ([] : LxS), (0 : Int))]).length = N + 1 := by rw [List.length_append, HN.out]; rfl
  have hLt : (l ++ [((77 : Int), ([] : LxS), (0 : Int))]).take N = l := by rw [← HN.out]; exact List.take_left
  have hLg : (l ++ [((77 : Int), ([] : LxS), (0 : Int))]).getD N tkD = ((77 : Int), ([] : LxS), (0 : Int)) := by rw [← HN.out]; simp [List.getD]
  obtain ⟨g, cap, e2, hg0, hg1, hcap, hcell⟩ := HO3.out.1.form (by simp)
  have HRt := hidJ (show RdT w2 (.slice (some ⟨g, 0, none⟩) N cap) l from by
    have h := HO3.out.1.rd
    rw [e2] at h
    have := h.take N (by rw [hLn]; omega)
    rwa [hLt] at this)
  have x77 := (hcell N (by rw [hLn]; omega)).1
  rw [hLg] at x77
  rw [hLn] at e2 hcap
  subst e2
  have G2 := hidJ HO3.out.2
  have hsl := fun W => run_headJ W (some ⟨g, 0, none⟩) (N + 1) cap N (by omega) hcap
  clear hLn hLt hLg hcell HO3 hg0 hg1
  go_wp2_with fail
  refine (HJ1.out _ _ G2.out HRt.out).mono ?_
  rintro e w3 ⟨rfl, hg3⟩
  have G3 := hidJ (gb_none G2.out hg3)
  have HR3 := hidJ (HRt.out.keep hg3)
  have y77 := cell_keep hg3 x77
  clear hg3 HRt x77 HJ1
  go_wp2_with fail
  refine (HJ2.out _ _ (HV.out.keep G3.out)).mono ?_
  rintro e w4 ⟨rfl, hg4⟩
  have G4 := hidJ (gb_none G3.out hg4)
  have HR4 := hidJ (HR3.out.keep hg4)
  have z77 := cell_keep hg4 y77
  clear hg4 HR3 y77 HJ2 G2 G3
  go_wp2_with fail
  refine (HQ1.out _ G4.out).mono ?_
  rintro e w5 ⟨rfl, hg5⟩
  have G5 := hidJ (gb_none G4.out hg5)
  have HR5 := hidJ (HR4.out.keep hg5)
  have a77 := cell_keep hg5 z77
  clear hg5 HR4 z77 HQ1 G4
  go_wp2_with fail
  refine (HQ2.out _).mono ?_
  rintro e w6 ⟨rfl, hg6⟩
  have G6 := hidJ (gb_none G5.out hg6)
  have HR6 := hidJ (HR5.out.keep hg6)
  have b77 := cell_keep hg6 a77
  clear hg6 HR5 a77 HQ2 G5
  go_wp2_with fail
  refine (HS1.out _ _ _ _ _ (HV.out.keep G6.out) (HUm.out.keep G6.out)).mono ?_
  rintro e w7 ⟨rfl, hg7⟩
  have G7 := hidJ (gb_none G6.out hg7)
  have HR7 := hidJ (HR6.out.keep hg7)
  have c77 := cell_keep hg7 b77
  clear hg7 HR6 b77 G6
  go_wp2_with fail
  refine (HS2.out _ _ _ _ _ (HV.out.keep G7.out) (HUm.out.keep G7.out)).mono ?_
  rintro e w8 ⟨rfl, hg8⟩
  have G8 := hidJ (gb_none G7.out hg8)
  have HR8 := hidJ (HR7.out.keep hg8)
  have d77 := cell_keep hg8 c77
  clear hg8 HR7 c77 G7 HS2
  generalize sameB l m = SB at *
  go_wp2_with fail
  refine (HS1.out _ _ _ _ _ (HV.out.keep G8.out) (HV.out.keep G8.out)).mono ?_
  rintro e w9 ⟨rfl, hg9⟩
  have G9 := hidJ (gb_none G8.out hg9)
  have HR9 := hidJ (HR8.out.keep hg9)
  have e77 := cell_keep hg9 d77
  have hrf := HRf.out
  simp only [hrf]
  clear hg9 HR8 d77 G8 HS1 hrf
  go_wp2_with fail
  refine (HWh.out _ _ _ _ HR9.out (HV.out.keep G9.out)).mono ?_
  rintro e w10 ⟨rfl, hg10⟩
  have G10 := hidJ (gb_none G9.out hg10)
  have f77 := cell_keep hg10 e77
  clear hg10 HR9 e77 G9 HWh
  go_wp2_with fail
  refine (HK.out _ G10.out).mono ?_
  rintro e w11 ⟨rfl, hg11⟩
  have G11 := hidJ (gb_below (gb_none G10.out hg11))
  clear hg11 HK
  go_wp2
  go_ret
  exact ⟨rfl, G11.out⟩
end Go.Proofs.YtifjdfmmafbhkaaGreatDoor
