/-
  LbKg, LbKh, LbKi, LbKj, LbKl, in one text.
-/
import Derived.Test.YtkipnkpnkhfjhabGreatDoorKmF
import Derived.Test.YtkipnkpnkhfjhabGreatDoorLbJd
/- LbKg -/
namespace Go.Proofs.YtkipnkpnkhfjhabGreatDoor
open Go.RowKit

theorem Agr.num {rs qs : List IdR} (h : Agr rs qs) (ls : List LbT) : numI rs ls = numI qs ls := by
  have key : ∀ l : List IdR, numI l ls = match (l.map (fun r => (r.num, r.lbs))).find? (fun p => decide (p.2 = ls)) with | some p => ((p.1 : Int), true) | none => (0, false) := fun l => by
    unfold numI
    rw [List.find?_map]
    have e : (fun p : Nat × List LbT => decide (p.2 = ls)) ∘ (fun r : IdR => (r.num, r.lbs)) = (fun r => decide (r.lbs = ls)) := rfl
    rw [e]
    cases l.find? (fun r => decide (r.lbs = ls)) <;> rfl
  rw [key, key]
  unfold Agr at h
  rw [h]
theorem Agr.lab {rs qs : List IdR} (h : Agr rs qs) (n : Int) : labI rs n = labI qs n := by
  have key : ∀ l : List IdR, labI l n = match (l.map (fun r => (r.num, r.lbs))).find? (fun p => decide ((p.1 : Int) = n)) with | some p => (p.2, 0) | none => ([], 5) := fun l => by
    unfold labI
    rw [List.find?_map]
    have e : (fun p : Nat × List LbT => decide ((p.1 : Int) = n)) ∘ (fun r : IdR => (r.num, r.lbs)) = (fun r => decide ((r.num : Int) = n)) := rfl
    rw [e]
    cases l.find? (fun r => decide ((r.num : Int) = n)) <;> rfl
  rw [key, key]
  unfold Agr at h
  rw [h]
theorem Agr.pos {rs qs : List IdR} (h : Agr rs qs) (ls : List LbT) : posI rs ls = posI qs ls := by
  have key : ∀ l : List IdR, posI l ls = match (l.map (fun r => (r.num, r.lbs))).findIdx? (fun p => decide (p.2 = ls)) with | some k => (k : Int) | none => -1 := fun l => by
    unfold posI
    rw [List.findIdx?_map]
    rfl
  rw [key, key]
  unfold Agr at h
  rw [h]
theorem Agr.drop {rs qs : List IdR} (h : Agr rs qs) (ls : List LbT) : (dropI rs ls).1 = (dropI qs ls).1 ∧ Agr (dropI rs ls).2 (dropI qs ls).2 := by
  unfold dropI
  rw [h.num ls, h.pos ls]
  by_cases hn : (numI qs ls).2 = true
  · rw [if_pos hn, if_pos hn]
    refine ⟨rfl, ?_⟩
    unfold Agr at *
    rw [List.map_append, List.map_append, List.map_take, List.map_take, List.map_drop, List.map_drop, h]
  · rw [if_neg hn, if_neg hn]
    exact ⟨rfl, h⟩
theorem Agr.put {rs qs : List IdR} (h : Agr rs qs) (last : Nat) (o1 o2 : Value) (ls : List LbT) : (putI rs last o1 ls).1 = (putI qs last o2 ls).1 ∧ (putI rs last o1 ls).2.1 = (putI qs last o2 ls).2.1 ∧ Agr (putI rs last o1 ls).2.2.1 (putI qs last o2 ls).2.2.1 ∧ (putI rs last o1 ls).2.2.2 = (putI qs last o2 ls).2.2.2 := by
  unfold putI
  rw [h.num ls, h.len]
  by_cases h1 : (rightS ls).1 ≠ 0
  · rw [if_pos h1, if_pos h1]
    exact ⟨rfl, rfl, h, rfl⟩
  · rw [if_neg h1, if_neg h1]
    by_cases h2 : (numI qs ls).2 = true
    · rw [if_pos h2, if_pos h2]
      exact ⟨rfl, rfl, h, rfl⟩
    · rw [if_neg h2, if_neg h2]
      by_cases h3 : 1000 ≤ qs.length
      · rw [if_pos h3, if_pos h3]
        exact ⟨rfl, rfl, h, rfl⟩
      · rw [if_neg h3, if_neg h3]
        refine ⟨rfl, rfl, ?_, rfl⟩
        unfold Agr at *
        rw [List.map_append, List.map_append, h]
        rfl
def Few (rs : List IdR) : Prop := ∀ r ∈ rs, r.lbs.length ≤ 16
theorem Few.drop {rs : List IdR} (h : Few rs) (ls : List LbT) : Few (dropI rs ls).2 := by
  rcases dropI_cases rs ls with ⟨-, e⟩ | ⟨A, r, B, e1, -, -, e⟩
  · rw [e]; exact h
  · rw [e]
    intro q hq
    refine h q ?_
    rw [e1]
    rcases List.mem_append.1 hq with hq | hq
    · exact List.mem_append.2 (.inl hq)
    · exact List.mem_append.2 (.inr (List.mem_cons_of_mem _ hq))
theorem Few.put {rs : List IdR} (h : Few rs) (last : Nat) (o1 : Value) (ls : List LbT) : Few (putI rs last o1 ls).2.2.1 ∧ (putI rs last o1 ls).2.2.2 ≤ last + 1 := by
  unfold putI
  by_cases h1 : (rightS ls).1 ≠ 0
  · rw [if_pos h1]
    exact ⟨h, Nat.le_succ _⟩
  · rw [if_neg h1]
    by_cases h2 : (numI rs ls).2 = true
    · rw [if_pos h2]
      exact ⟨h, Nat.le_succ _⟩
    · rw [if_neg h2]
      by_cases h3 : 1000 ≤ rs.length
      · rw [if_pos h3]
        exact ⟨h, Nat.le_succ _⟩
      · rw [if_neg h3]
        refine ⟨fun q hq => ?_, Nat.le_refl _⟩
        rcases List.mem_append.1 hq with hq | hq
        · exact h q hq
        · simp only [List.mem_cons, List.not_mem_nil, or_false] at hq
          subst hq
          have hr : (rightS ls).1 = 0 := by simpa using h1
          unfold rightS at hr
          by_cases h16 : 16 < ls.length
          · rw [if_pos h16] at hr; cases hr
          · show ls.length ≤ 16
            omega

/-- BOTH NUMBERINGS, ALIKE: w0 is the world in which the law began; the blocks S of the project's and T of the document's lie behind it, apart -/
structure Duo (w0 w : World) (S T : Nat → Prop) (gx gr last : Nat) (rs qs : List IdR) : Prop where
  gb : w0.grownBy w none
  prj : PrjOK w S gx rs last
  ref : ∃ v, RefI w T gr v qs last
  agr : Agr rs qs
  few : Few rs
  apart : ∀ k, S k → ¬ T k
  inS : ∀ k, S k → w0.heap.size ≤ k ∧ k < w.heap.size
  inT : ∀ k, T k → w0.heap.size ≤ k ∧ k < w.heap.size
theorem Duo.keep {w0 w w1 : World} {S T : Nat → Prop} {gx gr last : Nat} {rs qs : List IdR} (h : Duo w0 w S T gx gr last rs qs) (hg : w.grownBy w1 none) : Duo w0 w1 S T gx gr last rs qs := by
  obtain ⟨gs, gh, Ds, Dh, hv, hp⟩ := h.prj
  obtain ⟨v, hr⟩ := h.ref
  have := hg.size
  exact ⟨gb_none h.gb hg, ⟨gs, gh, Ds, Dh, hv, hp.keep hg⟩, ⟨v, hr.keep hg⟩, h.agr, h.few, h.apart, fun k hk => ⟨(h.inS k hk).1, by have := (h.inS k hk).2; omega⟩, fun k hk => ⟨(h.inT k hk).1, by have := (h.inT k hk).2; omega⟩⟩
/-- a block of neither is written -/
theorem Duo.other {w0 w w1 : World} {S T : Nat → Prop} {gx gr last g : Nat} {rs qs : List IdR} (h : Duo w0 w S T gx gr last rs qs) (hg : w.grownBy w1 (some g)) (hS : ¬ S g) (hT : ¬ T g) (h0 : w0.heap.size ≤ g) : Duo w0 w1 S T gx gr last rs qs := by
  obtain ⟨gs, gh, Ds, Dh, hv, hp⟩ := h.prj
  obtain ⟨v, hr⟩ := h.ref
  have hc : Ch w w1 (fun k => k = g) := Ch.of_gb hg (fun k hk _ => by cases hk; rfl)
  have := hg.size
  exact ⟨gb_new h.gb hg (fun k hk => by cases hk; exact h0), ⟨gs, gh, Ds, Dh, hv, hp.frame hc (fun k _ hk e => hS (by rw [← e]; exact hk))⟩, ⟨v, hr.frame hc (fun k _ hk e => hT (by rw [← e]; exact hk))⟩, h.agr, h.few, h.apart, fun k hk => ⟨(h.inS k hk).1, by have := (h.inS k hk).2; omega⟩, fun k hk => ⟨(h.inT k hk).1, by have := (h.inT k hk).2; omega⟩⟩
theorem gb_ch {w0 w w1 : World} {S : Nat → Prop} (h : w0.grownBy w none) (hc : Ch w w1 S) (hS : ∀ k, S k → w0.heap.size ≤ k) : w0.grownBy w1 none := by
  refine ⟨hc.1.trans h.os, hc.2.1.trans h.tape, hc.2.2.1.trans h.output, Nat.le_trans h.size hc.size, fun k hk _ => ?_⟩
  rw [hc.block (Nat.lt_of_lt_of_le hk h.size) (fun e => by have := hS k e; omega)]
  exact h.block k hk (by simp)
/-- the project's has gone ahead: the document's lies as it lay -/
theorem Duo.refAt {w0 w w1 : World} {S T : Nat → Prop} {gx gr last : Nat} {rs qs : List IdR} (h : Duo w0 w S T gx gr last rs qs) (hc : Ch w w1 S) : ∃ v, RefI w1 T gr v qs last := by
  obtain ⟨v, hr⟩ := h.ref
  exact ⟨v, hr.frame hc (fun k _ hk e => h.apart k e hk)⟩
theorem Duo.prjAt {w0 w w1 : World} {S T : Nat → Prop} {gx gr last : Nat} {rs qs : List IdR} (h : Duo w0 w S T gx gr last rs qs) (hc : Ch w w1 T) : PrjOK w1 S gx rs last := by
  obtain ⟨gs, gh, Ds, Dh, hv, hp⟩ := h.prj
  exact ⟨gs, gh, Ds, Dh, hv, hp.frame hc (fun k _ hk e => h.apart k hk e)⟩
/-- the project's ahead, then the document's -/
theorem Duo.two {w0 w w1 w2 : World} {S T : Nat → Prop} {gx gr last last' : Nat} {rs qs rs' qs' : List IdR} (h : Duo w0 w S T gx gr last rs qs) (hp : PrjOK w1 (Gr S w w1) gx rs' last') (hc1 : Ch w w1 S) (hr : ∃ v', RefI w2 (Gr T w1 w2) gr v' qs' last') (hc2 : Ch w1 w2 T) (ha : Agr rs' qs') (hf : Few rs') : Duo w0 w2 (Gr S w w1) (Gr T w1 w2) gx gr last' rs' qs' := by
  obtain ⟨gs, gh, Ds, Dh, hv, hp⟩ := hp
  have z0 := h.gb.size
  have z1 := hc1.size
  have z2 := hc2.size
  refine ⟨gb_ch (gb_ch h.gb hc1 (fun k hk => (h.inS k hk).1)) hc2 (fun k hk => (h.inT k hk).1), ⟨gs, gh, Ds, Dh, hv, hp.frame hc2 (fun k _ hk e => ?_)⟩, hr, ha, hf, fun k hk e => ?_, fun k hk => ?_, fun k hk => ?_⟩
  · rcases hk with hk | hk
    · exact h.apart k hk e
    · have := (h.inT k e).2
      omega
  · rcases hk with hk | hk
    · rcases e with e | e
      · exact h.apart k hk e
      · have := (h.inS k hk).2
        omega
    · rcases e with e | e
      · have := (h.inT k e).2
        omega
      · omega
  · rcases hk with hk | hk
    · have := h.inS k hk
      exact ⟨this.1, by omega⟩
    · exact ⟨by omega, by omega⟩
  · rcases hk with hk | hk
    · have := h.inT k hk
      exact ⟨this.1, by omega⟩
    · exact ⟨by omega, by omega⟩
end Go.Proofs.YtkipnkpnkhfjhabGreatDoor

/- LbKh -/
namespace Go.Proofs.YtkipnkpnkhfjhabGreatDoor
open Go.RowKit

/-- what a step leaves -/
def Stepped (w0 w' : World) (gx gr last : Nat) : Prop := ∃ S' T' last' rs' qs', Duo w0 w' S' T' gx gr last' rs' qs' ∧ last' ≤ last + 1
theorem lent_duo {w0 w w1 : World} {S T : Nat → Prop} {gx gr last g cap : Nat} {rs qs : List IdR} {ls : List LbT} (h : Duo w0 w S T gx gr last rs qs) (ho : LentL w1 w.heap.size g cap ls) : ¬ S g ∧ ¬ T g ∧ w0.heap.size ≤ g ∧ g < w1.heap.size := by
  have hl := OwnL.lt ho g rfl
  have := h.gb.size
  exact ⟨fun e => by have := (h.inS g e).2; omega, fun e => by have := (h.inT g e).2; omega, by omega, hl.2⟩
theorem LentL.ch {w w' : World} {base g cap : Nat} {ls : List LbT} {S : Nat → Prop} (h : LentL w base g cap ls) (hc : Ch w w' S) (hS : ¬ S g) : LentL w' base g cap ls := row_via h (fun k hk => hc.block (OwnL.lt h k hk).2 (by cases hk; exact hS))

/-- the lent copy, without its mark -/
theorem LentL.own {w : World} {base g cap : Nat} {ls : List LbT} (h : LentL w base g cap ls) : OwnL w base (.slice (some ⟨g, 0, none⟩) ls.length cap) ls := by
  rcases h.2 with ⟨h', _⟩ | ⟨g', cap', cur, h', hbg, hh, hnc, hcm, hcs, htake⟩
  · simp at h'
  · simp only [Value.slice.injEq, Option.some.injEq, Addr.mk.injEq, and_true, List.length_append, List.length_cons, List.length_nil, Nat.zero_add, true_and] at h'
    obtain ⟨rfl, rfl⟩ := h'
    have hl : (lbf ls).length = ls.length * 2 := lbf_len ls
    refine ⟨by rw [hl], .inr ⟨g, cap, cur, rfl, hbg, hh, by simp at hnc; omega, hcm, hcs, ?_⟩⟩
    have e : (cur.toList.take ((ls ++ [(mkA, mkB)]).length * 2)).take (ls.length * 2) = (lbf (ls ++ [(mkA, mkB)])).take (ls.length * 2) := by rw [htake]
    rw [List.take_take, Nat.min_eq_left (by simp; omega)] at e
    rw [e]
    rw [lbf_append, List.take_append_of_le_length (by omega), List.take_of_length_le (by omega)]

/-- behind Lent -/
structure Lnt (w0 w1 : World) (S T : Nat → Prop) (gx gr last bo g cap : Nat) (rs qs : List IdR) (kind n : Int) (u : Value) (ls : List LbT) : Prop where
  duo : Duo w0 w1 S T gx gr last rs qs
  lent : LentL w1 w0.heap.size g cap ls
  box : w1.heap[bo]? = some (.cells #[.int .i64 kind, u, .int .i64 n] 31)
  notg : ¬ S g ∧ ¬ T g
  notb : ¬ S bo ∧ ¬ T bo
theorem Lnt.cells {w0 w1 : World} {S T : Nat → Prop} {gx gr last bo g cap : Nat} {rs qs : List IdR} {kind n : Int} {u : Value} {ls : List LbT} (h : Lnt w0 w1 S T gx gr last bo g cap rs qs kind n u ls) : w1.cell? ⟨bo, 0, none⟩ = some (.int .i64 kind) ∧ w1.cell? ⟨bo, 1, none⟩ = some u ∧ w1.cell? ⟨bo, 2, none⟩ = some (.int .i64 n) := by
  have hb := h.box
  exact ⟨by simp [World.cell?, hb], by simp [World.cell?, hb], by simp [World.cell?, hb]⟩
theorem Lnt.keep {w0 w1 w2 : World} {S T : Nat → Prop} {gx gr last bo g cap : Nat} {rs qs : List IdR} {kind n : Int} {u : Value} {ls : List LbT} (h : Lnt w0 w1 S T gx gr last bo g cap rs qs kind n u ls) (hg : w1.grownBy w2 none) : Lnt w0 w2 S T gx gr last bo g cap rs qs kind n u ls :=
  ⟨h.duo.keep hg, OwnL.keep h.lent hg, (hg.block bo (some_lt h.box) (by simp)).trans h.box, h.notg, h.notb⟩
/-- the project's ahead, then the document's -/
theorem Lnt.two {w0 w1 w2 w3 : World} {S T : Nat → Prop} {gx gr last last' bo g cap : Nat} {rs qs rs' qs' : List IdR} {kind n : Int} {u : Value} {ls : List LbT} (h : Lnt w0 w1 S T gx gr last bo g cap rs qs kind n u ls) (hp : PrjOK w2 (Gr S w1 w2) gx rs' last') (hc1 : Ch w1 w2 S) (hr : ∃ v', RefI w3 (Gr T w2 w3) gr v' qs' last') (hc2 : Ch w2 w3 T) (ha : Agr rs' qs') (hf : Few rs') : Lnt w0 w3 (Gr S w1 w2) (Gr T w2 w3) gx gr last' bo g cap rs' qs' kind n u ls := by
  have z1 := hc1.size
  have hg := (OwnL.lt h.lent g rfl).2
  have hb := some_lt h.box
  refine ⟨h.duo.two hp hc1 hr hc2 ha hf, (h.lent.ch hc1 h.notg.1).ch hc2 h.notg.2, ?_, ⟨fun e => ?_, fun e => ?_⟩, ⟨fun e => ?_, fun e => ?_⟩⟩
  · rw [hc2.block (by omega) h.notb.2, hc1.block hb h.notb.1]
    exact h.box
  · rcases e with e | e
    · exact h.notg.1 e
    · omega
  · rcases e with e | e
    · exact h.notg.2 e
    · omega
  · rcases e with e | e
    · exact h.notb.1 e
    · omega
  · rcases e with e | e
    · exact h.notb.2 e
    · omega
theorem step_lent (w0 w : World) (S T : Nat → Prop) (gx gr last : Nat) (rs qs : List IdR) (u : Value) (kind n : Int) (ls : List LbT) (h : Duo w0 w S T gx gr last rs qs) (hu : RdL w0 u ls) (hlen : ls.length ≤ 4398046511104) :
    Calls Tryz.prog 17 #[u] (w.alloc (.cells #[.int .i64 kind, u, .int .i64 n] 31)) fun e w1 => ∃ g cap, e = .returned (.slice (some ⟨g, 0, none⟩) ls.length cap) ∧ Lnt w0 w1 S T gx gr last w.heap.size g cap rs qs kind n u ls := by
  have hk := World.grownBy_alloc w (.cells #[.int .i64 kind, u, .int .i64 n] 31) none
  refine (lentL_any _ u ls ((hu.keep h.gb).keep hk) hlen).mono fun e w1 ⟨g, cap, q1, q2, q3⟩ => ⟨g, cap, q1, ?_⟩
  have q2' : LentL w1 (w.alloc (.cells #[.int .i64 kind, u, .int .i64 n] 31)).heap.size g cap ls := q2
  have hl := OwnL.lt q2' g rfl
  have z := h.gb.size
  simp at hl
  refine ⟨(h.keep hk).keep q3, OwnL.mono q2' (by simp; omega), (q3.block _ (by simp) (by simp)).trans (alloc_atI w _), ⟨fun e => ?_, fun e => ?_⟩, ⟨fun e => ?_, fun e => ?_⟩⟩
  · have := (h.inS g e).2
    omega
  · have := (h.inT g e).2
    omega
  · have := (h.inS _ e).2
    omega
  · have := (h.inT _ e).2
    omega
end Go.Proofs.YtkipnkpnkhfjhabGreatDoor

/- LbKi -/
namespace Go.Proofs.YtkipnkpnkhfjhabGreatDoor
open Go.RowKit

set_option maxRecDepth 8000 in
set_option maxHeartbeats 12800000 in
theorem step0_any (w0 w : World) (S T : Nat → Prop) (gx gr last : Nat) (rs qs : List IdR) (u : Value) (n : Int) (ls : List LbT) (h : Duo w0 w S T gx gr last rs qs) (hu : RdL w0 u ls) (hl : LbIn ls) (hlen : ls.length ≤ 4398046511104) (hT : U8S w0) (hla : last < 1000000000000000000) :
    Calls Tryz.prog 7 #[.pointer (some ⟨gx, 0, none⟩), .pointer (some ⟨gr, 0, none⟩), .agg #[.int .i64 0, u, .int .i64 n]] w fun e w' => e = .returned (.bool true) ∧ Stepped w0 w' gx gr last := by
  have HLe := hidJ (step_lent w0 w S T gx gr last rs qs u 0 n ls h hu hlen)
  have HU : Hid (RdL w0 u ls ∧ LbIn ls ∧ ls.length ≤ 4398046511104 ∧ U8S w0) := ⟨hu, hl, hlen, hT⟩
  obtain ⟨ua, uc, rfl⟩ : ∃ a c, u = .slice a ls.length c := by obtain ⟨a, c, h, _⟩ := hu; exact ⟨a, c, h⟩
  clear h hu hl hlen hT
  go_enter Tryz.func7, Tryz.ntmps7
  go_wp2_with fail
  refine HLe.out.mono ?_
  rintro e w1 ⟨g, cap, rfl, hL⟩
  have HL := hidJ hL
  obtain ⟨c0, c1, c2⟩ := hL.cells
  clear hL HLe
  have HP := hidJ (prjPut_any w1 S gx last rs (.slice (some ⟨g, 0, none⟩) ls.length cap) ls HL.out.duo.prj HL.out.lent.rd.1 (fun _ k hk => by cases hk; exact HL.out.notg.1) HU.out.2.1 (HU.out.2.2.2.keep HL.out.duo.gb) hla)
  generalize w.heap.size = bo at *
  go_wp2_with fail
  refine HP.out.mono ?_
  rintro e w2 ⟨own, rfl, hp2, hc2⟩
  clear c0 c1 c2 HP
  have hg2 := gb_ch HL.out.duo.gb hc2 (fun k hk => (HL.out.duo.inS k hk).1)
  have d1 : w2.cell? ⟨bo, 1, none⟩ = some (.slice ua ls.length uc) := (World.cell?_of_block (hc2.block (some_lt HL.out.box) HL.out.notb.1)).trans HL.out.cells.2.1
  obtain ⟨v, hr2⟩ := HL.out.duo.refAt hc2
  have HR : Hid (Calls Tryz.prog 12 #[.pointer (some ⟨gr, 0, none⟩), .slice ua ls.length uc] w2 fun e w3 => e = .returned (.tuple #[.int .i64 (putI rs last own ls).1, .int .i64 (putI rs last own ls).2.1]) ∧ ∃ S' T' last' rs' qs', Lnt w0 w3 S' T' gx gr last' bo g cap rs' qs' 0 n (.slice ua ls.length uc) ls ∧ last' ≤ last + 1) :=
    (refPut_ids w2 T gr last v _ qs ls hr2 (HU.out.1.keep hg2) HU.out.2.1 (by omega)).mono fun e w3 ⟨own2, q1, q2, q3⟩ => by
      obtain ⟨a1, a2, a3, a4⟩ := HL.out.duo.agr.put last own own2 ls
      have hf := HL.out.duo.few.put last own ls
      rw [← a4] at q2
      rw [← a1, ← a2] at q1
      exact ⟨q1, _, _, _, _, _, HL.out.two hp2 hc2 q2 q3 a3 hf.1, hf.2⟩
  clear hp2 hc2 hg2 hr2 HL
  generalize (putI rs last own ls).1 = x at *
  generalize (putI rs last own ls).2.1 = y at *
  go_wp2_with fail
  refine HR.out.mono ?_
  rintro e w3 ⟨rfl, S', T', last', rs', qs', hL3, hl3⟩
  have HL3 : Hid (Lnt w0 w3 S' T' gx gr last' bo g cap rs' qs' 0 n (.slice ua ls.length uc) ls ∧ last' ≤ last + 1) := ⟨hL3, hl3⟩
  have e1 := hL3.cells.2.1
  clear hL3 hl3 HR d1
  have HK := hidJ (keptL_any w3 w0.heap.size g cap (.slice ua ls.length uc) ls HL3.out.1.lent (HU.out.1.keep HL3.out.1.duo.gb))
  go_wp2_with fail
  refine HK.out.mono ?_
  rintro e w4 ⟨rfl, hg4⟩
  have HL4 := hidJ (HL3.out.1.keep hg4)
  clear hg4 HK e1
  have HS := hidJ (spoilL_any w4 (.slice (some ⟨g, 0, none⟩) ls.length cap) w0.heap.size ls HL4.out.lent.own HL4.out.duo.gb.size HU.out.2.2.1)
  go_wp2_with fail
  refine HS.out.mono ?_
  rintro e w5 ⟨rfl, hg5⟩
  have HF : Hid (Stepped w0 w5 gx gr last) := ⟨S', T', last', rs', qs', HL4.out.duo.other hg5 HL4.out.notg.1 HL4.out.notg.2 (OwnL.lt HL4.out.lent g rfl).1, HL3.out.2⟩
  clear hg5 HS HL4 HL3 HU
  have q1 : (x == x) = true := by simp
  have q2 : (y == y) = true := by simp
  go_wp2
  go_ret
  exact ⟨rfl, HF.out⟩

set_option maxRecDepth 8000 in
set_option maxHeartbeats 12800000 in
theorem step1_any (w0 w : World) (S T : Nat → Prop) (gx gr last : Nat) (rs qs : List IdR) (u : Value) (n : Int) (ls : List LbT) (h : Duo w0 w S T gx gr last rs qs) (hu : RdL w0 u ls) (hl : LbIn ls) (hlen : ls.length ≤ 4398046511104) :
    Calls Tryz.prog 7 #[.pointer (some ⟨gx, 0, none⟩), .pointer (some ⟨gr, 0, none⟩), .agg #[.int .i64 1, u, .int .i64 n]] w fun e w' => e = .returned (.bool true) ∧ Stepped w0 w' gx gr last := by
  have HLe := hidJ (step_lent w0 w S T gx gr last rs qs u 1 n ls h hu hlen)
  have HU : Hid (RdL w0 u ls ∧ LbIn ls) := ⟨hu, hl⟩
  obtain ⟨ua, uc, rfl⟩ : ∃ a c, u = .slice a ls.length c := by obtain ⟨a, c, h, _⟩ := hu; exact ⟨a, c, h⟩
  clear h hu hl hlen
  go_enter Tryz.func7, Tryz.ntmps7
  go_wp2_with fail
  refine HLe.out.mono ?_
  rintro e w1 ⟨g, cap, rfl, hL⟩
  have HL := hidJ hL
  obtain ⟨c0, c1, c2⟩ := hL.cells
  clear HLe
  obtain ⟨gs, gh, Ds, Dh, hv, hp⟩ := hL.duo.prj
  have HP := hidJ (prjFind_any w1 S gx last gs gh rs Ds Dh hv (.slice (some ⟨g, 0, none⟩) ls.length cap) ls hp hL.lent.rd.1 HU.out.2)
  rw [hL.duo.agr.num ls] at HP
  clear hL hp
  generalize w.heap.size = bo at *
  have HRf : Hid (∀ W, w1.grownBy W none → Calls Tryz.prog 20 #[.pointer (some ⟨gr, 0, none⟩), .slice ua ls.length uc] W fun e w3 => e = .returned (.tuple #[.int .i64 (numI qs ls).1, .bool (numI qs ls).2]) ∧ W.grownBy w3 none) := fun W hW => by
    obtain ⟨v, hr⟩ := (HL.out.keep hW).duo.ref
    exact refFind_any W T gr last v _ qs ls hr (HU.out.1.keep (HL.out.keep hW).duo.gb)
  generalize numI qs ls = NI at *
  obtain ⟨x, y⟩ := NI
  dsimp only at *
  go_wp2_with fail
  refine HP.out.mono ?_
  rintro e w2 ⟨rfl, hg2⟩
  have HL2 := hidJ (HL.out.keep hg2)
  have HG2 := hidJ hg2
  have d1 := HL2.out.cells.2.1
  clear c0 c1 c2 HP hg2
  have HR := hidJ (HRf.out w2 HG2.out)
  clear HRf
  go_wp2_with fail
  refine HR.out.mono ?_
  rintro e w3 ⟨rfl, hg3⟩
  have HL3 := hidJ (HL2.out.keep hg3)
  have e1 := HL3.out.cells.2.1
  clear HR hg3 d1 HL2 HL HG2
  have HK := hidJ (keptL_any w3 w0.heap.size g cap (.slice ua ls.length uc) ls HL3.out.lent (HU.out.1.keep HL3.out.duo.gb))
  have q1 : (x == x) = true := by simp
  have q2 : (y == y) = true := by simp
  go_wp2_with fail
  refine HK.out.mono ?_
  rintro e w4 ⟨rfl, hg4⟩
  have HF : Hid (Stepped w0 w4 gx gr last) := ⟨S, T, last, rs, qs, (HL3.out.keep hg4).duo, Nat.le_succ _⟩
  clear hg4 HK HL3 HU e1
  go_wp2
  go_ret
  exact ⟨rfl, HF.out⟩

set_option maxRecDepth 8000 in
set_option maxHeartbeats 12800000 in
theorem stepE_any (w0 w : World) (S T : Nat → Prop) (gx gr last : Nat) (rs qs : List IdR) (u : Value) (k n : Int) (ls : List LbT) (h : Duo w0 w S T gx gr last rs qs) (hu : RdL w0 u ls) (hlen : ls.length ≤ 4398046511104) (h0 : k ≠ 0) (h1 : k ≠ 1) (h2 : k ≠ 2) (h3 : k ≠ 3) :
    Calls Tryz.prog 7 #[.pointer (some ⟨gx, 0, none⟩), .pointer (some ⟨gr, 0, none⟩), .agg #[.int .i64 k, u, .int .i64 n]] w fun e w' => e = .returned (.bool true) ∧ Stepped w0 w' gx gr last := by
  have HLe := hidJ (step_lent w0 w S T gx gr last rs qs u k n ls h hu hlen)
  obtain ⟨ua, uc, rfl⟩ : ∃ a c, u = .slice a ls.length c := by obtain ⟨a, c, h, _⟩ := hu; exact ⟨a, c, h⟩
  have q0 : (k == 0) = false := by rw [beq_eq_false_iff_ne]; exact h0
  have q1 : (k == 1) = false := by rw [beq_eq_false_iff_ne]; exact h1
  have q2 : (k == 2) = false := by rw [beq_eq_false_iff_ne]; exact h2
  have q3 : (k == 3) = false := by rw [beq_eq_false_iff_ne]; exact h3
  clear h hu hlen
  go_enter Tryz.func7, Tryz.ntmps7
  go_wp2_with fail
  refine HLe.out.mono ?_
  rintro e w1 ⟨g, cap, rfl, hL⟩
  have HF : Hid (Stepped w0 w1 gx gr last) := ⟨S, T, last, rs, qs, hL.duo, Nat.le_succ _⟩
  obtain ⟨c0, c1, c2⟩ := hL.cells
  clear hL HLe
  generalize w.heap.size = bo at *
  go_wp2
  go_ret
  exact ⟨rfl, HF.out⟩
end Go.Proofs.YtkipnkpnkhfjhabGreatDoor

/- LbKj -/
namespace Go.Proofs.YtkipnkpnkhfjhabGreatDoor
open Go.RowKit

set_option maxRecDepth 8000 in
set_option maxHeartbeats 12800000 in
theorem step3_any (w0 w : World) (S T : Nat → Prop) (gx gr last : Nat) (rs qs : List IdR) (u : Value) (n : Int) (ls : List LbT) (h : Duo w0 w S T gx gr last rs qs) (hu : RdL w0 u ls) (hlen : ls.length ≤ 4398046511104) (hn : -9223372036854775808 ≤ n) (hn2 : n ≤ 9223372036854775807) :
    Calls Tryz.prog 7 #[.pointer (some ⟨gx, 0, none⟩), .pointer (some ⟨gr, 0, none⟩), .agg #[.int .i64 3, u, .int .i64 n]] w fun e w' => e = .returned (.bool true) ∧ Stepped w0 w' gx gr last := by
  have HLe := hidJ (step_lent w0 w S T gx gr last rs qs u 3 n ls h hu hlen)
  obtain ⟨ua, uc, rfl⟩ : ∃ a c, u = .slice a ls.length c := by obtain ⟨a, c, h, _⟩ := hu; exact ⟨a, c, h⟩
  have HF16 : Hid ((labI qs n).1.length ≤ 16) := by
    show (labI qs n).1.length ≤ 16
    rw [← h.agr.lab n]
    unfold labI
    split
    · rename_i r hr
      exact h.few r (List.mem_of_find?_eq_some hr)
    · simp
  clear h hu hlen
  go_enter Tryz.func7, Tryz.ntmps7
  go_wp2_with fail
  refine HLe.out.mono ?_
  rintro e w1 ⟨g, cap, rfl, hL⟩
  have HL := hidJ hL
  obtain ⟨c0, c1, c2⟩ := hL.cells
  clear HLe
  obtain ⟨gs, gh, Ds, Dh, hv, hp⟩ := hL.duo.prj
  have HP := hidJ (prjLabels_any w1 S gx last gs gh rs Ds Dh hv n hp hn hn2 hL.duo.few)
  rw [hL.duo.agr.lab n] at HP
  clear hL hp
  generalize w.heap.size = bo at *
  have HRf : Hid (∀ W, w1.grownBy W none → Calls Tryz.prog 21 #[.pointer (some ⟨gr, 0, none⟩), .int .i64 n] W fun e w' => ∃ v', e = .returned (.tuple #[v', .int .i64 (labI qs n).2]) ∧ RdL w' v' (labI qs n).1 ∧ W.grownBy w' none) := fun W hW => by
    obtain ⟨v, hr⟩ := (HL.out.keep hW).duo.ref
    exact refLabels_any W T gr last v qs n hr
  generalize labI qs n = LI at *
  obtain ⟨xs, y⟩ := LI
  dsimp only at *
  go_wp2_with fail
  refine HP.out.mono ?_
  rintro e w2 ⟨va, rfl, ho2, hg2⟩
  have H2 : Hid (OwnL w2 w1.heap.size va xs ∧ w1.grownBy w2 none) := ⟨ho2, hg2⟩
  have d2 := (HL.out.keep hg2).cells.2.2
  obtain ⟨a2, m2, rfl⟩ := ho2.shape
  clear c0 c1 c2 HP hg2 ho2
  have HR := hidJ (HRf.out w2 H2.out.2)
  clear HRf
  go_wp2_with fail
  refine HR.out.mono ?_
  rintro e w3 ⟨vb, rfl, hr3, hg3⟩
  obtain ⟨a3, m3, rfl⟩ : ∃ a c, vb = .slice a xs.length c := by obtain ⟨a, c, h, _⟩ := hr3; exact ⟨a, c, h⟩
  have H3 : Hid (OwnL w3 w1.heap.size (.slice a2 xs.length m2) xs ∧ w1.grownBy w3 none) := ⟨H2.out.1.keep hg3, gb_none H2.out.2 hg3⟩
  have HS := hidJ (sameL_any w3 _ _ xs xs (H2.out.1.keep hg3).rd hr3)
  rw [decide_eq_true rfl] at HS
  clear HR hg3 d2 hr3 H2
  have q2 : (y == y) = true := by simp
  go_wp2_with fail
  refine HS.out.mono ?_
  rintro e w4 ⟨rfl, hg4⟩
  have H4 : Hid (OwnL w4 w1.heap.size (.slice a2 xs.length m2) xs ∧ w1.grownBy w4 none) := ⟨H3.out.1.keep hg4, gb_none H3.out.2 hg4⟩
  clear HS hg4 H3
  have HSp := hidJ (spoilL_any w4 (.slice a2 xs.length m2) w1.heap.size xs H4.out.1 H4.out.2.size (by have := HF16.out; omega))
  go_wp2_with fail
  refine HSp.out.mono ?_
  rintro e w5 ⟨rfl, hg5⟩
  have HF : Hid (Stepped w0 w5 gx gr last) := by
    have hg : w1.grownBy w5 none := gb_new H4.out.2 hg5 (fun k hk => (OwnL.lt H4.out.1 k hk).1)
    exact ⟨S, T, last, rs, qs, HL.out.duo.keep hg, Nat.le_succ _⟩
  clear hg5 HSp H4 HL
  go_wp2
  go_ret
  exact ⟨rfl, HF.out⟩
end Go.Proofs.YtkipnkpnkhfjhabGreatDoor

/- LbKl -/
namespace Go.Proofs.YtkipnkpnkhfjhabGreatDoor
open Go.RowKit

/-- the project's has dropped a set, the document's has not -/
def PrjAhead (w0 W : World) (S T : Nat → Prop) (gx gr last bo g cap : Nat) (rs qs : List IdR) (n : Int) (u : Value) (ls : List LbT) : Prop := ∃ W0, Lnt w0 W0 S T gx gr last bo g cap rs qs 2 n u ls ∧ PrjOK W (Gr S W0 W) gx (dropI rs ls).2 last ∧ Ch W0 W S
def RefAhead (w0 W : World) (S T : Nat → Prop) (gx gr last bo g cap : Nat) (rs qs : List IdR) (n : Int) (u : Value) (ls : List LbT) : Prop := ∃ W0, Lnt w0 W0 S T gx gr last bo g cap rs qs 2 n u ls ∧ (∃ v', RefI W (Gr T W0 W) gr v' (dropI qs ls).2 last) ∧ Ch W0 W T
def Dropped (w0 W : World) (gx gr last bo g cap : Nat) (n : Int) (u : Value) (ls : List LbT) : Prop := ∃ S' T' rs' qs', Lnt w0 W S' T' gx gr last bo g cap rs' qs' 2 n u ls
/-- the document's ahead, then the project's -/
theorem Lnt.owt {w0 w1 w2 w3 : World} {S T : Nat → Prop} {gx gr last last' bo g cap : Nat} {rs qs rs' qs' : List IdR} {kind n : Int} {u : Value} {ls : List LbT} (h : Lnt w0 w1 S T gx gr last bo g cap rs qs kind n u ls) (hr : ∃ v', RefI w2 (Gr T w1 w2) gr v' qs' last') (hc1 : Ch w1 w2 T) (hp : PrjOK w3 (Gr S w2 w3) gx rs' last') (hc2 : Ch w2 w3 S) (ha : Agr rs' qs') (hf : Few rs') : Lnt w0 w3 (Gr S w2 w3) (Gr T w1 w2) gx gr last' bo g cap rs' qs' kind n u ls := by
  obtain ⟨v', hr⟩ := hr
  have z0 := h.duo.gb.size
  have z1 := hc1.size
  have z2 := hc2.size
  have hg := (OwnL.lt h.lent g rfl).2
  have hb := some_lt h.box
  have bS : ∀ k, S k → k < w1.heap.size := fun k hk => (h.duo.inS k hk).2
  have bT : ∀ k, T k → k < w1.heap.size := fun k hk => (h.duo.inT k hk).2
  refine ⟨⟨gb_ch (gb_ch h.duo.gb hc1 (fun k hk => (h.duo.inT k hk).1)) hc2 (fun k hk => (h.duo.inS k hk).1), hp, ⟨v', hr.frame hc2 (fun k _ hk e => ?_)⟩, ha, hf, fun k hk e => ?_, fun k hk => ?_, fun k hk => ?_⟩, (h.lent.ch hc1 h.notg.2).ch hc2 h.notg.1, ?_, ⟨fun e => ?_, fun e => ?_⟩, ⟨fun e => ?_, fun e => ?_⟩⟩
  · rcases hk with hk | hk
    · exact h.duo.apart k e hk
    · have := bS k e
      omega
  · rcases hk with hk | hk
    · rcases e with e | e
      · exact h.duo.apart k hk e
      · have := bS k hk
        omega
    · rcases e with e | e
      · have := bT k e
        omega
      · omega
  · rcases hk with hk | hk
    · have := h.duo.inS k hk
      exact ⟨this.1, by omega⟩
    · exact ⟨by omega, by omega⟩
  · rcases hk with hk | hk
    · have := h.duo.inT k hk
      exact ⟨this.1, by omega⟩
    · exact ⟨by omega, by omega⟩
  · rw [hc2.block (by omega) h.notb.1, hc1.block hb h.notb.2]
    exact h.box
  · rcases e with e | e
    · exact h.notg.1 e
    · omega
  · rcases e with e | e
    · exact h.notg.2 e
    · omega
  · rcases e with e | e
    · exact h.notb.1 e
    · omega
  · rcases e with e | e
    · exact h.notb.2 e
    · omega
theorem PrjOK.gr {w w' : World} {S : Nat → Prop} {gx last : Nat} {rs : List IdR} (h : PrjOK w' S gx rs last) : PrjOK w' (Gr S w w') gx rs last := by
  obtain ⟨gs, gh, Ds, Dh, hv, hp⟩ := h
  exact ⟨gs, gh, Ds, Dh, hv, hp.mono (fun _ _ => .inl)⟩

set_option maxRecDepth 8000 in
set_option maxHeartbeats 12800000 in
theorem step2_any (w0 w : World) (S T : Nat → Prop) (gx gr last : Nat) (rs qs : List IdR) (u : Value) (n : Int) (ls : List LbT) (h : Duo w0 w S T gx gr last rs qs) (hu : RdL w0 u ls) (hl : LbIn ls) (hlen : ls.length ≤ 4398046511104) :
    Calls Tryz.prog 7 #[.pointer (some ⟨gx, 0, none⟩), .pointer (some ⟨gr, 0, none⟩), .agg #[.int .i64 2, u, .int .i64 n]] w fun e w' => e = .returned (.bool true) ∧ Stepped w0 w' gx gr last := by
  have HLe := hidJ (step_lent w0 w S T gx gr last rs qs u 2 n ls h hu hlen)
  have HU : Hid (RdL w0 u ls ∧ LbIn ls) := ⟨hu, hl⟩
  obtain ⟨ua, uc, rfl⟩ : ∃ a c, u = .slice a ls.length c := by obtain ⟨a, c, h, _⟩ := hu; exact ⟨a, c, h⟩
  obtain ⟨x, hx⟩ : ∃ x, x = (dropI rs ls).1 := ⟨_, rfl⟩
  have HAg : Hid ((dropI rs ls).1 = x ∧ (dropI qs ls).1 = x ∧ Agr (dropI rs ls).2 (dropI qs ls).2 ∧ Few (dropI rs ls).2) := by
    obtain ⟨a1, a2⟩ := h.agr.drop ls
    exact ⟨hx.symm, by rw [← a1]; exact hx.symm, a2, h.few.drop ls⟩
  clear h hu hl hlen hx
  go_enter Tryz.func7, Tryz.ntmps7
  go_wp2_with fail
  refine HLe.out.mono ?_
  rintro e w1 ⟨g, cap, rfl, hL⟩
  have HL := hidJ hL
  obtain ⟨c0, c1, c2⟩ := hL.cells
  clear HLe hL
  generalize w.heap.size = bo at *
  have cOf : ∀ W (S' : Nat → Prop) W1, W1.heap[bo]? = some (.cells #[.int .i64 2, .slice ua ls.length uc, .int .i64 n] 31) → Ch W1 W S' → ¬ S' bo → W.cell? ⟨bo, 1, none⟩ = some (.slice ua ls.length uc) := fun W S' W1 h1 h2 h3 => by
    have hb : W.heap[bo]? = _ := (h2.block (some_lt h1) h3).trans h1
    simp [World.cell?, hb]
  have HA0 : Hid (∀ W, Lnt w0 W S T gx gr last bo g cap rs qs 2 n (.slice ua ls.length uc) ls → Calls Tryz.prog 13 #[.pointer (some ⟨gx, 0, none⟩), .slice (some ⟨g, 0, none⟩) ls.length cap] W fun e w' => e = .returned (.int .i64 x) ∧ w'.cell? ⟨bo, 1, none⟩ = some (.slice ua ls.length uc) ∧ Hid (PrjAhead w0 w' S T gx gr last bo g cap rs qs n (.slice ua ls.length uc) ls)) := fun W hW =>
    (prjDrop_any W S gx last rs _ ls hW.duo.prj hW.lent.rd.1 HU.out.2).mono fun e w' ⟨q1, q2, q3⟩ => by
      rw [HAg.out.1] at q1
      exact ⟨q1, cOf _ _ _ hW.box q3 hW.notb.1, W, hW, q2.gr, q3⟩
  have HA1 : Hid (∀ W, RefAhead w0 W S T gx gr last bo g cap rs qs n (.slice ua ls.length uc) ls → Calls Tryz.prog 13 #[.pointer (some ⟨gx, 0, none⟩), .slice (some ⟨g, 0, none⟩) ls.length cap] W fun e w' => e = .returned (.int .i64 x) ∧ w'.cell? ⟨bo, 1, none⟩ = some (.slice ua ls.length uc) ∧ Hid (Dropped w0 w' gx gr last bo g cap n (.slice ua ls.length uc) ls)) := fun W ⟨W0, hW, hr, hc⟩ =>
    (prjDrop_any W S gx last rs _ ls (hW.duo.prjAt hc) (hW.lent.ch hc hW.notg.2).rd.1 HU.out.2).mono fun e w' ⟨q1, q2, q3⟩ => by
      rw [HAg.out.1] at q1
      have := hW.owt hr hc q2.gr q3 HAg.out.2.2.1 HAg.out.2.2.2
      exact ⟨q1, this.cells.2.1, _, _, _, _, this⟩
  have HB0 : Hid (∀ W, Lnt w0 W S T gx gr last bo g cap rs qs 2 n (.slice ua ls.length uc) ls → Calls Tryz.prog 14 #[.pointer (some ⟨gr, 0, none⟩), .slice ua ls.length uc] W fun e w' => e = .returned (.int .i64 x) ∧ w'.cell? ⟨bo, 1, none⟩ = some (.slice ua ls.length uc) ∧ Hid (RefAhead w0 w' S T gx gr last bo g cap rs qs n (.slice ua ls.length uc) ls)) := fun W hW => by
    obtain ⟨v, hr⟩ := hW.duo.ref
    refine (refDrop_ids W T gr last v _ qs ls hr (HU.out.1.keep hW.duo.gb)).mono fun e w' ⟨q1, q2, q3⟩ => ?_
    rw [HAg.out.2.1] at q1
    exact ⟨q1, cOf _ _ _ hW.box q3 hW.notb.2, W, hW, q2, q3⟩
  have HB1 : Hid (∀ W, PrjAhead w0 W S T gx gr last bo g cap rs qs n (.slice ua ls.length uc) ls → Calls Tryz.prog 14 #[.pointer (some ⟨gr, 0, none⟩), .slice ua ls.length uc] W fun e w' => e = .returned (.int .i64 x) ∧ w'.cell? ⟨bo, 1, none⟩ = some (.slice ua ls.length uc) ∧ Hid (Dropped w0 w' gx gr last bo g cap n (.slice ua ls.length uc) ls)) := fun W ⟨W0, hW, hp, hc⟩ => by
    obtain ⟨v, hr⟩ := hW.duo.refAt hc
    refine (refDrop_ids W T gr last v _ qs ls hr (HU.out.1.keep (gb_ch hW.duo.gb hc (fun k hk => (hW.duo.inS k hk).1)))).mono fun e w' ⟨q1, q2, q3⟩ => ?_
    rw [HAg.out.2.1] at q1
    have := hW.two hp hc q2 q3 HAg.out.2.2.1 HAg.out.2.2.2
    exact ⟨q1, this.cells.2.1, _, _, _, _, this⟩
  have HK : Hid (∀ W, Dropped w0 W gx gr last bo g cap n (.slice ua ls.length uc) ls → Calls Tryz.prog 18 #[.slice (some ⟨g, 0, none⟩) ls.length cap, .slice ua ls.length uc] W fun e w' => e = .returned (.bool true) ∧ w'.cell? ⟨bo, 1, none⟩ = some (.slice ua ls.length uc) ∧ Hid (Dropped w0 w' gx gr last bo g cap n (.slice ua ls.length uc) ls)) := fun W ⟨S', T', rs', qs', hW⟩ =>
    (keptL_any W w0.heap.size g cap (.slice ua ls.length uc) ls hW.lent (HU.out.1.keep hW.duo.gb)).mono fun e w' ⟨q1, q2⟩ => ⟨q1, (hW.keep q2).cells.2.1, S', T', rs', qs', hW.keep q2⟩
  have HFin : Hid (∀ W, Dropped w0 W gx gr last bo g cap n (.slice ua ls.length uc) ls → Stepped w0 W gx gr last) := fun W ⟨S', T', rs', qs', hW⟩ => ⟨S', T', last, rs', qs', hW.duo, Nat.le_succ _⟩
  have HZ : Hid (Lnt w0 w1.drew S T gx gr last bo g cap rs qs 2 n (.slice ua ls.length uc) ls) := HL.out.keep (gb_drew _ none)
  have qx : (x == x) = true := by simp
  clear cOf HAg HU c2
  generalize ls.length = nl at *
  go_wp2_with fail
  go_region_held3 (fun w' => w'.cell? ⟨bo, 1, none⟩ = some (.slice ua nl uc)) (go_keep)
    (first
      | (go_at_call 13; with_reducible refine (HA0.out _ HZ.out).mono ?_; rintro e w2 ⟨rfl, d2, HPA⟩)
      | (go_at_call 13; with_reducible refine (HA1.out _ HRA.out).mono ?_; rintro e w3 ⟨rfl, d3, HDr⟩)
      | (go_at_call 14; with_reducible refine (HB0.out _ HZ.out).mono ?_; rintro e w2 ⟨rfl, d2, HRA⟩)
      | (go_at_call 14; with_reducible refine (HB1.out _ HPA.out).mono ?_; rintro e w3 ⟨rfl, d3, HDr⟩)
      | (go_at_call 18; with_reducible refine (HK.out _ HDr.out).mono ?_; rintro e w4 ⟨rfl, d4, HD4⟩))
  all_goals (try go_wp2)
  all_goals go_ret
  all_goals exact ⟨rfl, HFin.out _ HD4.out⟩
end Go.Proofs.YtkipnkpnkhfjhabGreatDoor
