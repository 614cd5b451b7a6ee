/-
  The document's numbering: what Put comes to: the walk.
-/
import Derived.Test.YtkipnkpnkhfjhabGreatDoorKmA
namespace Go.Proofs.YtkipnkpnkhfjhabGreatDoor
open Go.RowKit

theorem infoId : (Tryz.prog.info? 41).map (fun i => (i.zero, i.size, i.bytes)) = some (some (.agg #[.int .i64 0, .slice none 0 0]), 2, 32) := by kernel_rfl
theorem gb_setI (w : World) (g j : Nat) (u : Value) : w.grownBy (w.setCell ⟨g, j, none⟩ u) (some g) :=
  ⟨rfl, rfl, rfl, by simp, fun k _ hk => Below.heap_setCell _ _ _ _ (fun e => hk (by rw [e]))⟩
theorem hid' {p : Prop} (h : p) : Hid p := h
theorem alloc_atI (w : World) (o : Obj) : (w.alloc o).heap[w.heap.size]? = some o := Go.heap_alloc_new w o
theorem step_appI {w : World} {ops : Array Oper} {o : Oper} {a : Act} {K : Act → World → Prop} {Q : Exit → Act → World → Prop} {E : Prop} (hgd : o.guard = none) (s x : Operand)
    (ho : o.op = .call { callee := .builtin .append, args := #[s, x], argTypes := #[26, 26] })
    (v : Value) (n : Nat) (xs : List Value) (ad : Addr) (news : List Value) (hs : a.eval s = v) (hx : a.eval x = .slice (some ad) 1 1) (hown : w.ownsRow 0 41 2 v n xs) (hl : news.length = 2) (hra : RdC w (some ad) news) (h1 : ∀ u ∈ news, u.oneCell' = true) (hsz : n ≤ 1000)
    (h : ∀ a1 n1 c1 w', w'.ownsRow 0 41 2 (.slice a1 n1 c1) (n + 1) (xs ++ news) → Fr w w' v (.slice a1 n1 c1) → K (a.put o.dst (.slice a1 n1 c1)) w') :
    if Region.wanted o (yielded ops a.tmps) = true then Oper.wp Tryz.prog o a w K Q else E := by
  have hw : Region.wanted o (yielded ops a.tmps) = true := by simp [Region.wanted, hgd]
  rw [if_pos hw]
  obtain ⟨i0, hi, hz0, hz1, hz2⟩ := info_parts infoId
  obtain ⟨v', w', hrun, h2, h3⟩ := run_appH w o.type 26 41 i0 _ 2 32 0 Tryz.underlying26 hi hz0 hz1 hz2 rfl (by decide) v n xs hown (some ad) 1 1 news hl hra (fun h => by cases h) h1 (by omega) (by omega) (Nat.zero_le _)
  obtain ⟨a1, n1, c1, rfl⟩ : ∃ a n c, v' = .slice a n c := by
    rcases h2.2 with ⟨h, _⟩ | ⟨_, _, _, h, _⟩
    · exact ⟨_, _, _, h⟩
    · exact ⟨_, _, _, h⟩
  unfold Oper.wp execOp
  simp only [ho, resolve, invoke, builtin, Sem.run_bind, Sem.run_pure, Result.andThen_ok, List.map_toArray, List.map_cons, List.map_nil, hs, hx, hrun]
  exact h a1 n1 c1 w' h2 h3
theorem lit2 (w : World) (x y : Value) : RdC ((w.alloc (.cells #[x, y] 41)).drew) (some ⟨w.heap.size, 0, none⟩) [x, y] := by
  intro j v hj
  refine ⟨_, rfl, ?_⟩
  rw [Go.WideShapes.add_plain]
  have ha : ((w.alloc (.cells #[x, y] 41)).drew).heap[w.heap.size]? = _ := alloc_atI w (.cells #[x, y] 41)
  simp only [World.cell?, ha]
  simpa using hj

/-- a set more -/
theorem putI_end {w w3 w5 : World} {S : Nat → Prop} {gr last : Nat} {v own v5 : Value} {rs : List IdR} {ls : List LbT} (HW : RefI w S gr v rs last) (hg3 : w.grownBy w3 none) (hown : OwnL w3 w.heap.size own ls) (hlt : rs.length < 1000)
    {C : Obj} (ho5 : w5.ownsRow 0 41 2 v5 (rs.length + 1) (idf rs ++ [.int .i64 ((last + 1 : Nat) : Int), own])) (hf5 : Fr (((w3.setCell ⟨gr, 1, none⟩ (.int .i64 ((last + 1 : Nat) : Int))).alloc C).drew) w5 v v5) :
    RefI (w5.setCell ⟨gr, 0, none⟩ v5) (Gr S w (w5.setCell ⟨gr, 0, none⟩ v5)) gr v5 (rs ++ [⟨last + 1, own, ls⟩]) (last + 1) ∧ Ch w (w5.setCell ⟨gr, 0, none⟩ v5) S := by
  have hgr : gr < w.heap.size := some_lt HW.box
  have hvl : ∀ k, v.ownBlock = some k → k < w.heap.size := fun k hk => (HW.row.lt k hk).2
  have hs3 := hg3.size
  have hs5 := hf5.1.size
  have hs5' : w3.heap.size + 1 ≤ w5.heap.size := by simpa using hs5
  have b4 : ∀ k, k < w3.heap.size → k ≠ gr → v.ownBlock ≠ some k → w5.heap[k]? = w3.heap[k]? := fun k hk h1 h2 => by
    rw [hf5.1.block k (by simp; omega) (fun e => h2 e.symm)]
    show ((w3.setCell ⟨gr, 1, none⟩ (.int .i64 ((last + 1 : Nat) : Int))).alloc C).heap[k]? = _
    rw [(World.grownBy_alloc _ C none).block k (by simpa using hk) (by simp)]
    exact Below.heap_setCell _ _ _ _ h1
  have b6 : ∀ k, k < w3.heap.size → k ≠ gr → v.ownBlock ≠ some k → (w5.setCell ⟨gr, 0, none⟩ v5).heap[k]? = w3.heap[k]? := fun k hk h1 h2 => (Below.heap_setCell _ _ _ _ h1).trans (b4 k hk h1 h2)
  have hch : Ch w (w5.setCell ⟨gr, 0, none⟩ v5) (fun k => k = gr ∨ v.ownBlock = some k) := by
    refine ⟨?_, ?_, ?_, ?_, fun k hk hn => ?_⟩
    · exact hf5.1.os.trans hg3.os
    · exact hf5.1.tape.trans hg3.tape
    · exact hf5.1.output.trans hg3.output
    · simp; omega
    · rw [b6 k (by omega) (fun e => hn (.inl e)) (fun e => hn (.inr e))]
      exact hg3.block k hk (by simp)
  have hbox5 : w5.heap[gr]? = some (.cells #[v, .int .i64 ((last + 1 : Nat) : Int)] 28) := by
    rw [hf5.1.block gr (by simp; omega) (fun e => HW.ne_row e.symm)]
    show ((w3.setCell ⟨gr, 1, none⟩ (.int .i64 ((last + 1 : Nat) : Int))).alloc C).heap[gr]? = _
    rw [(World.grownBy_alloc _ C none).block gr (by simp; omega) (by simp)]
    have h3 : w3.heap[gr]? = _ := (hg3.block gr hgr (by simp)).trans HW.box
    have := heap_setCell_same w3 gr 1 _ _ (.int .i64 ((last + 1 : Nat) : Int)) h3
    rw [this]
    rfl
  have hv5 : ∀ k, v5.ownBlock = some k → k ≠ gr := fun k hk e => by
    rcases hf5.2 k hk with h | h
    · exact HW.ne_row (by rw [← h, e])
    · have : w3.heap.size + 1 ≤ k := by simpa using h
      omega
  refine ⟨⟨?_, ?_, .inl HW.inB, ?_, ?_, ?_, ?_, ?_⟩, hch.mono (fun k _ hk => ?_)⟩
  · have := heap_setCell_same w5 gr 0 _ _ v5 hbox5
    rw [this]
    rfl
  · rw [List.length_append, idf_append]
    exact row_via ho5 (fun k hk => Below.heap_setCell _ _ _ _ (hv5 k hk))
  · intro k hk
    rcases hf5.2 k hk with h | h
    · exact .inl (HW.inR k h.symm)
    · right
      have h' : w3.heap.size + 1 ≤ k := by simpa using h
      have := (ho5.lt k hk).2
      exact ⟨by omega, by simpa using this⟩
  · intro r hr
    rcases List.mem_append.1 hr with hr | hr
    · have hRl := HW.each r hr
      have hnv := HW.ne_val hr
      have hno : ∀ k, r.val.ownBlock = some k → ¬ (k = gr ∨ v.ownBlock = some k) := fun k hk h => by
        rcases h with h | h
        · exact hnv.1 (by rw [hk, h])
        · exact hnv.2 k h hk
      refine ⟨hRl.1.ch hch (fun k hk _ => hno k hk), fun k hk => ?_⟩
      obtain ⟨h1, cur, fr, h2⟩ := hRl.2 k hk
      exact ⟨.inl h1, cur, fr, by rw [hch.block (some_lt h2) (hno k hk)]; exact h2⟩
    · simp only [List.mem_cons, List.not_mem_nil, or_false] at hr
      subst hr
      have hlt' := hown.lt
      have hk6 : ∀ k, own.ownBlock = some k → (w5.setCell ⟨gr, 0, none⟩ v5).heap[k]? = w3.heap[k]? := fun k hk => by
        have := hlt' k hk
        exact b6 k this.2 (by omega) (fun e => by have := hvl k e; omega)
      refine ⟨hown.rd.via (fun k hk _ => hk6 k hk), fun k hk => ?_⟩
      have := hlt' k hk
      obtain ⟨cur, hc⟩ := row_objE hown hk
      exact ⟨.inr ⟨this.1, by simp; omega⟩, cur, _, by rw [hk6 k hk]; exact hc⟩
  · refine List.pairwise_append.2 ⟨HW.rise, List.pairwise_singleton _ _, fun p hp q hq => ?_⟩
    simp only [List.mem_cons, List.not_mem_nil, or_false] at hq
    subst hq
    have := (HW.upto p hp).2
    show p.num < last + 1
    omega
  · intro r hr
    rcases List.mem_append.1 hr with hr | hr
    · have := HW.upto r hr
      exact ⟨this.1, by omega⟩
    · simp only [List.mem_cons, List.not_mem_nil, or_false] at hr
      subst hr
      exact ⟨by show 0 < last + 1; omega, Nat.le_refl _⟩
  · rw [List.length_append]
    simp
    omega
  · rcases hk with rfl | hk
    · exact HW.inB
    · exact HW.inR k hk

/-- what Put answers, and the sets behind it -/
def putI (rs : List IdR) (last : Nat) (own : Value) (ls : List LbT) : Int × Int × List IdR × Nat :=
  if (rightS ls).1 ≠ 0 then (0, (rightS ls).1, rs, last) else if (numI rs ls).2 = true then ((numI rs ls).1, 0, rs, last) else if 1000 ≤ rs.length then (0, 8, rs, last) else (((last + 1 : Nat) : Int), 0, rs ++ [⟨last + 1, own, ls⟩], last + 1)

set_option maxRecDepth 8000 in
set_option maxHeartbeats 6400000 in
theorem refPut_ids (w : World) (S : Nat → Prop) (gr last : Nat) (v u : Value) (rs : List IdR) (ls : List LbT) (h : RefI w S gr v rs last) (hu : RdL w u ls) (hl : LbIn ls) (hla : last ≤ 1000000000000000000) :
    Calls Tryz.prog 12 #[.pointer (some ⟨gr, 0, none⟩), u] w fun e w' => ∃ own, e = .returned (.tuple #[.int .i64 (putI rs last own ls).1, .int .i64 (putI rs last own ls).2.1]) ∧ (∃ v', RefI w' (Gr S w w') gr v' (putI rs last own ls).2.2.1 (putI rs last own ls).2.2.2) ∧ Ch w w' S := by
  have HR := refRight_any w u ls hu hl
  have HPo : Hid (∀ W, w.grownBy W none → Calls Tryz.prog 32 #[.pointer (some ⟨gr, 0, none⟩), u] W fun e w' => e = .returned (.int .i64 (posI rs ls)) ∧ W.grownBy w' none) := fun W hW => refPos_any W S gr last v u rs ls (h.keep hW) (hu.keep hW)
  have HW : Hid (RefI w S gr v rs last ∧ RdL w u ls) := ⟨h, hu⟩
  have hsame : ∀ w', w.grownBy w' none → (∃ v', RefI w' (Gr S w w') gr v' rs last) ∧ Ch w w' S := fun w' hg => ⟨⟨v, (h.keep hg).mono (fun _ _ => .inl)⟩, Ch.of_gb hg (fun k hk => by cases hk)⟩
  have HSM : Hid (∀ w', w.grownBy w' none → (∃ v', RefI w' (Gr S w w') gr v' rs last) ∧ Ch w w' S) := hsame
  have hm := h.most
  obtain ⟨ua, uc, rfl⟩ : ∃ a c, u = .slice a ls.length c := by obtain ⟨a, c, h, _⟩ := hu; exact ⟨a, c, h⟩
  obtain ⟨a0, c0, rfl, -, -⟩ := h.shape
  clear h hu hsame
  by_cases hr : (rightS ls).1 = 0
  · rw [hr] at HR
    have HR : Hid (Calls Tryz.prog 31 #[.slice ua ls.length uc] w fun e w' => e = .returned (.tuple #[.int .i64 0, .int .i64 ((rightS ls).2 : Int)]) ∧ w.grownBy w' none) := HR
    have hlen : ls.length ≤ 16 := by
      unfold rightS at hr
      by_cases h16 : 16 < ls.length
      · rw [if_pos h16] at hr; cases hr
      · omega
    have HPI : Hid (∀ own, putI rs last own ls = if (numI rs ls).2 = true then ((numI rs ls).1, 0, rs, last) else if 1000 ≤ rs.length then (0, 8, rs, last) else (((last + 1 : Nat) : Int), 0, rs ++ [⟨last + 1, own, ls⟩], last + 1)) := fun own => by
      unfold putI
      rw [if_neg (by simpa using hr)]
    clear hr
    generalize (rightS ls).2 = ri at *
    rcases posI_cases rs ls with ⟨hp, hno⟩ | ⟨k, hp, hk, he, hno⟩
    · rw [hp] at HPo
      have hni := numI_none hno
      rw [hni] at HPI
      clear hni hp hno
      by_cases hfull : 1000 ≤ rs.length
      · have hfi : (1000 : Int) ≤ (rs.length : Int) := by omega
        have HPJ : Hid (∀ own, putI rs last own ls = (0, 8, rs, last)) := fun own => by rw [HPI.out own, if_neg (by simp), if_pos hfull]
        clear HPI
        have hc : ∀ W, w.grownBy W none → W.cell? ⟨gr, 0, none⟩ = some (.slice a0 rs.length c0) := fun W hW => (HW.out.1.keep hW).boxes.1
        have HCC : Hid (∀ W, w.grownBy W none → W.cell? ⟨gr, 0, none⟩ = some (.slice a0 rs.length c0)) := hc
        clear hc hfull
        generalize rs.length = L at *
        go_enter Tryz.func12, Tryz.ntmps12
        go_wp2_with fail
        refine HR.out.mono ?_
        rintro e w1 ⟨rfl, hg1⟩
        have H1 : Hid (w.grownBy w1 none) := hg1
        clear HR hg1
        go_wp2_with fail
        refine (HPo.out _ H1.out).mono ?_
        rintro e w2 ⟨rfl, hg2⟩
        have H2 : Hid (w.grownBy w2 none) := gb_none H1.out hg2
        have cB := HCC.out w2 H2.out
        clear HPo hg2 H1 HCC
        go_wp2
        go_ret2
        exact ⟨.slice none 0 0, by (rw [HPJ.out]; first | done | rfl), by rw [HPJ.out]; exact (HSM.out _ H2.out).1, (HSM.out _ H2.out).2⟩
      · have hfi : ¬ (1000 : Int) ≤ (rs.length : Int) := by omega
        have HPJ : Hid (∀ own, putI rs last own ls = (((last + 1 : Nat) : Int), 0, rs ++ [⟨last + 1, own, ls⟩], last + 1)) := fun own => by rw [HPI.out own, if_neg (by simp), if_neg hfull]
        clear HPI
        have HCC : Hid (∀ W, w.grownBy W none → W.cell? ⟨gr, 0, none⟩ = some (.slice a0 rs.length c0) ∧ W.cell? ⟨gr, 1, none⟩ = some (.int .i64 (last : Int)) ∧ W.frozen? ⟨gr, 0, none⟩ = false ∧ W.frozen? ⟨gr, 1, none⟩ = false) := fun W hW => (HW.out.1.keep hW).boxes
        have HLT : Hid (rs.length < 1000) := by show rs.length < 1000; omega
        obtain ⟨i0, hi, hz0, hz1, hz2⟩ := info_parts infoLb
        have HI : Hid (Tryz.prog.info? 70 = some i0 ∧ i0.zero = some (.agg #[.string ⟨#[]⟩, .string ⟨#[]⟩]) ∧ i0.size = 2 ∧ i0.bytes = 32) := ⟨hi, hz0, hz1, hz2⟩
        obtain ⟨la1, hla1⟩ : ∃ la1 : Nat, la1 = last + 1 := ⟨_, rfl⟩
        have hlai : (last : Int) + 1 = (la1 : Int) := by omega
        have HLA : Hid (la1 = last + 1) := hla1
        have hla2 : la1 ≤ 1000000000000000001 := by omega
        clear hi hz0 hz1 hz2 hfull hla1
        have hgrl : gr < w.heap.size := some_lt HW.out.1.box
        go_enter Tryz.func12, Tryz.ntmps12
        go_wp2_with fail
        refine HR.out.mono ?_
        rintro e w1 ⟨rfl, hg1⟩
        have H1 : Hid (w.grownBy w1 none) := hg1
        clear HR hg1
        go_wp2_with fail
        refine (HPo.out _ H1.out).mono ?_
        rintro e w2 ⟨rfl, hg2⟩
        have H2 : Hid (w.grownBy w2 none) := gb_none H1.out hg2
        obtain ⟨cB, -, -, -⟩ := HCC.out w2 H2.out
        have HRU := HW.out.2.keep H2.out
        obtain ⟨ua', uc', heq, hq1, hq2, -, hq4⟩ := id HRU
        simp only [Value.slice.injEq] at heq
        obtain ⟨rfl, -, rfl⟩ := heq
        have HRC : Hid (RdC w2 ua (lbf ls)) := RdL.rdc HRU
        have HC : Hid (ua = none → ls.length = 0 ∧ uc = 0) := fun h => ⟨by have := hq4 h; omega, hq4 h⟩
        have HLL : Hid ((lbf ls).length = ls.length * 2) := lbf_len ls
        have HON : Hid (∀ u ∈ lbf ls, u.oneCell' = true) := lbf_one ls
        clear HPo hg2 H1 hq4 HRU hq1 hq2
        go_wp2_with (at_builtin; refine wp_appH rfl _ _ 29 70 rfl i0 _ 2 32 w.heap.size Tryz.underlying29 HI.out.1 HI.out.2.1 HI.out.2.2.1 HI.out.2.2.2 rfl (by decide) _ 0 [] ua ls.length uc (lbf ls) rfl rfl (World.ownsRow_nil _ _ _ _) HLL.out HRC.out HC.out HON.out (by omega) (by omega) H2.out.size ?_)
        intro own w3 ho3 hf3
        have hown : OwnL w3 w.heap.size own ls := by
          unfold OwnL
          simpa using ho3
        have hg3 : w.grownBy w3 none := gb_none H2.out hf3.1
        obtain ⟨oa, oc, rfl⟩ := hown.shape
        have H3 : Hid (OwnL w3 w.heap.size (.slice oa ls.length oc) ls ∧ w.grownBy w3 none) := ⟨hown, hg3⟩
        obtain ⟨k0, k1, f0, f1⟩ := HCC.out w3 hg3
        have HBX : Hid (w3.heap[gr]? = some (.cells #[.slice a0 rs.length c0, .int .i64 (last : Int)] 28)) := (hg3.block gr hgrl (by simp)).trans HW.out.1.box
        clear ho3 hf3 hown hg3 HRC HC HLL HON H2 cB
        have HRW : Hid ((w3.setCell ⟨gr, 1, none⟩ (.int .i64 (la1 : Int))).ownsRow 0 41 2 (.slice a0 rs.length c0) rs.length (idf rs)) :=
          row_via HW.out.1.row (fun k hk => (Below.heap_setCell _ _ _ _ (fun e => HW.out.1.ne_row (by rw [hk]; exact congrArg some e))).trans (H3.out.2.block k (HW.out.1.row.lt k hk).2 (by simp)))
        have HB4 : Hid ((w3.setCell ⟨gr, 1, none⟩ (.int .i64 (la1 : Int))).heap[gr]? = some (.cells #[.slice a0 rs.length c0, .int .i64 (la1 : Int)] 28)) := by
          have := heap_setCell_same w3 gr 1 _ _ (.int .i64 (la1 : Int)) HBX.out
          show (w3.setCell ⟨gr, 1, none⟩ (.int .i64 (la1 : Int))).heap[gr]? = _
          rw [this]
          rfl
        have HEN : Hid (∀ w5 v5 C, w5.ownsRow 0 41 2 v5 (rs.length + 1) (idf rs ++ [.int .i64 (la1 : Int), .slice oa ls.length oc]) → Fr (((w3.setCell ⟨gr, 1, none⟩ (.int .i64 (la1 : Int))).alloc C).drew) w5 (.slice a0 rs.length c0) v5 → RefI (w5.setCell ⟨gr, 0, none⟩ v5) (Gr S w (w5.setCell ⟨gr, 0, none⟩ v5)) gr v5 (rs ++ [⟨last + 1, .slice oa ls.length oc, ls⟩]) (last + 1) ∧ Ch w (w5.setCell ⟨gr, 0, none⟩ v5) S) := fun w5 v5 C h1 h2 => by
          rw [HLA.out] at h1 h2
          exact putI_end HW.out.1 H3.out.2 H3.out.1 HLT.out h1 h2
        clear k0 k1 f0
        obtain ⟨k0, k1, f0, -⟩ := HCC.out w3 H3.out.2
        go_wp2_with fail
        have hsz4 : gr < (w3.setCell ⟨gr, 1, none⟩ (.int .i64 (la1 : Int))).heap.size := some_lt HB4.out
        generalize w3.setCell ⟨gr, 1, none⟩ (.int .i64 (la1 : Int)) = W4 at *
        clear k0 k1 f0 f1
        have k0 : W4.cell? ⟨gr, 0, none⟩ = some (.slice a0 rs.length c0) := by simp [World.cell?, HB4.out]
        have k1 : W4.cell? ⟨gr, 1, none⟩ = some (.int .i64 (la1 : Int)) := by simp [World.cell?, HB4.out]
        have l0 : ∀ o, (W4.alloc o).cell? ⟨gr, 0, none⟩ = some (.slice a0 rs.length c0) := fun o => (World.cell?_of_block ((World.grownBy_alloc W4 o none).block gr hsz4 (by simp))).trans k0
        have l1 : ∀ o, (W4.alloc o).cell? ⟨gr, 1, none⟩ = some (.int .i64 (la1 : Int)) := fun o => (World.cell?_of_block ((World.grownBy_alloc W4 o none).block gr hsz4 (by simp))).trans k1
        have HNR : Hid ((Value.slice a0 rs.length c0).ownBlock ≠ some gr) := HW.out.1.ne_row
        have HMO : Hid (rs.length ≤ 1000) := hm
        go_region_law (refine step_appI rfl (.tmp 51) (.tmp 58) rfl (.slice a0 rs.length c0) rs.length (idf rs) ⟨W4.heap.size, 0, none⟩ [.int .i64 (la1 : Int), .slice oa ls.length oc] (by simp [Act.eval]) (by simp [Act.eval]) (row_via (World.ownsRow.alloc HRW.out (.cells #[.int .i64 (la1 : Int), .slice oa ls.length oc] 41)) (fun _ _ => rfl)) rfl (lit2 _ _ _) (by intro u hu; simp only [List.mem_cons, List.not_mem_nil, or_false] at hu; rcases hu with rfl | rfl <;> rfl) HMO.out ?_; intro a5 n5 c5 w5 ho5 hf5; have hb5 := (hf5.1.block gr (by simp; omega) (fun e => HNR.out e.symm)).trans (((gb_none (World.grownBy_alloc W4 _ none) (gb_drew _ none)).block gr hsz4 (by simp)).trans HB4.out); have d0 : w5.cell? ⟨gr, 0, none⟩ = some (.slice a0 rs.length c0) := (by simp [World.cell?, hb5]); have d1 : w5.cell? ⟨gr, 1, none⟩ = some (.int .i64 (la1 : Int)) := (by simp [World.cell?, hb5]); have df : w5.frozen? ⟨gr, 0, none⟩ = false := (by simp [World.frozen?, hb5]); have H6 := hid' (HEN.out _ _ _ ho5 hf5); clear ho5 hf5 hb5)
        all_goals (try go_wp2)
        all_goals go_ret2
        all_goals exact ⟨.slice oa ls.length oc, by (rw [HPJ.out, ← HLA.out]; first | done | rfl), by rw [HPJ.out]; exact ⟨_, H6.out.1⟩, H6.out.2⟩
    · rw [hp] at HPo
      have hns := numI_some hk he hno
      have HPJ : Hid (∀ own, putI rs last own ls = (((rs.getD k idZ).num : Int), 0, rs, last)) := fun own => by rw [HPI.out own, hns]; rfl
      clear HPI
      have hki : (0 : Int) ≤ (k : Int) := by omega
      obtain ⟨vn, hvn⟩ : ∃ vn : Int, vn = ((rs.getD k idZ).num : Int) := ⟨_, rfl⟩
      rw [← hvn] at HPJ
      have HVN : Hid (vn = ((rs.getD k idZ).num : Int)) := hvn
      clear hp he hno hns hvn
      go_enter Tryz.func12, Tryz.ntmps12
      go_wp2_with fail
      refine HR.out.mono ?_
      rintro e w1 ⟨rfl, hg1⟩
      have H1 : Hid (w.grownBy w1 none) := hg1
      clear HR hg1
      go_wp2_with fail
      refine (HPo.out _ H1.out).mono ?_
      rintro e w2 ⟨rfl, hg2⟩
      have H2 : Hid (w.grownBy w2 none) := gb_none H1.out hg2
      have hW2 := HW.out.1.keep H2.out
      have cB := hW2.boxes.1
      obtain ⟨g, cap, hve, -, -, -, hcells⟩ := hW2.cells (by intro e; rw [e] at hk; simp at hk)
      have hv2 : a0 = some ⟨g, 0, none⟩ := by simp at hve; exact hve.1
      subst hv2
      obtain ⟨d0, -⟩ := hcells k hk
      rw [← HVN.out] at d0
      have hkl : (k : Int) < (rs.length : Int) := by omega
      clear HPo hg2 H1 hW2 hcells hve
      go_wp2
      go_ret2
      exact ⟨.slice none 0 0, by (rw [HPJ.out]; first | done | rfl), by rw [HPJ.out]; exact (HSM.out _ H2.out).1, (HSM.out _ H2.out).2⟩
  · have HPJ : Hid (∀ own, putI rs last own ls = (0, (rightS ls).1, rs, last)) := fun own => by
      unfold putI
      rw [if_pos hr]
    have HR : Hid (Calls Tryz.prog 31 #[.slice ua ls.length uc] w fun e w' => e = .returned (.tuple #[.int .i64 (rightS ls).1, .int .i64 ((rightS ls).2 : Int)]) ∧ w.grownBy w' none) := HR
    generalize (rightS ls).1 = E at *
    generalize (rightS ls).2 = ri at *
    have hrb : (E == 0) = false := by rw [beq_eq_false_iff_ne]; exact hr
    go_enter Tryz.func12, Tryz.ntmps12
    go_wp2_with fail
    refine HR.out.mono ?_
    rintro e w1 ⟨rfl, hg1⟩
    have H1 : Hid (w.grownBy w1 none) := hg1
    clear HR hg1
    go_wp2
    go_ret2
    exact ⟨.slice none 0 0, by (rw [HPJ.out]; first | done | rfl), by rw [HPJ.out]; exact (HSM.out _ H1.out).1, (HSM.out _ H1.out).2⟩
end Go.Proofs.YtkipnkpnkhfjhabGreatDoor
