/-
  nflog's Find of any log: the walk. Two logs side by side.
-/
import Derived.Test.YtpglhdnepmcahaaGreatDoorNgC
namespace Go.Proofs.YtpglhdnepmcahaaGreatDoor
open Go.RowKit Go.Shelf Go.Sort

theorem got_LLs {w : World} {gx : Nat} {l : List MkX} (h : LgM w gx l) (a : LbT) : LLs (getM l a).1.fir ∧ LLs (getM l a).1.res := by
  unfold getM
  cases hf : l.find? fun x => decide (keyX x = a) with
  | none => exact ⟨⟨by simp [xZ, mZ], fun j => by simp [xZ, mZ]⟩, by simp [xZ, mZ], fun j => by simp [xZ, mZ]⟩
  | some x => exact right_LLs (h.each x (List.mem_of_find?_eq_some hf)).2
/-- what Find answers -/
def FndP (w : World) (l : List MkX) (a : LbT) (e : Ending) (w' : World) : Prop := ∃ a1 n1 c1 a2 n2 c2, e = .returned (.tuple #[.agg #[.string (ByteArray.mk ⟨(getM l a).1.rcv⟩), .string (ByteArray.mk ⟨(getM l a).1.key⟩), .int .i64 (getM l a).1.tim, .slice a1 n1 c1, .slice a2 n2 c2], .bool (hasM l a)]) ∧ OwnLL w' w.heap.size (.slice a1 n1 c1) (getM l a).1.fir ∧ OwnLL w' w.heap.size (.slice a2 n2 c2) (getM l a).1.res ∧ w.grownBy w' none
set_option maxRecDepth 8000 in
set_option maxHeartbeats 12800000 in
theorem findX_any (w : World) (gx : Nat) (l : List MkX) (a : LbT) (h : LgM w gx l) :
    Calls Tryz.prog 21 #[.pointer (some ⟨gx, 0, none⟩), .string (ByteArray.mk ⟨a.1⟩), .string (ByteArray.mk ⟨a.2⟩)] w fun e w' => FndP w l a e w' := by
  obtain ⟨⟨ga, gc, eg⟩, ha, hc, eh⟩ := got_shape h a
  have HG : Hid (∀ W, w.grownBy W none → Calls Tryz.prog 40 #[.pointer (some ⟨gx, 0, none⟩), addV a] W fun e w' => e = .returned (.tuple #[.agg #[.string (ByteArray.mk ⟨(getM l a).1.rcv⟩), .string (ByteArray.mk ⟨(getM l a).1.key⟩), .int .i64 (getM l a).1.tim, .slice ga (getM l a).1.fir.length gc, .slice ha (getM l a).1.res.length hc], .bool (hasM l a)]) ∧ Hid (W.grownBy w' none)) := fun W hW => by
    have hc0 := getL_any W gx l a (h.keep hW)
    unfold markX markV at hc0
    rw [eg, eh] at hc0
    exact hc0
  have HCo : Hid (∀ W, w.grownBy W none → w.heap.size + 1 ≤ W.heap.size → B5 W w.heap.size 34 (.string ⟨#[]⟩) (.string ⟨#[]⟩) (.int .i64 0) (.slice none 0 0) (.slice none 0 0) → Calls Tryz.prog 42 #[.agg #[.string (ByteArray.mk ⟨(getM l a).1.rcv⟩), .string (ByteArray.mk ⟨(getM l a).1.key⟩), .int .i64 (getM l a).1.tim, .slice ga (getM l a).1.fir.length gc, .slice ha (getM l a).1.res.length hc]] W fun e w' => ∃ a1 n1 c1 a2 n2 c2, e = .returned (.agg #[.string (ByteArray.mk ⟨(getM l a).1.rcv⟩), .string (ByteArray.mk ⟨(getM l a).1.key⟩), .int .i64 (getM l a).1.tim, .slice a1 n1 c1, .slice a2 n2 c2]) ∧ Hid (B5 w' w.heap.size 34 (.string ⟨#[]⟩) (.string ⟨#[]⟩) (.int .i64 0) (.slice none 0 0) (.slice none 0 0) ∧ w.grownBy w' none ∧ OwnLL w' (w.heap.size + 1) (.slice a1 n1 c1) (getM l a).1.fir ∧ OwnLL w' (w.heap.size + 1) (.slice a2 n2 c2) (getM l a).1.res)) := fun W hW hz hB => by
    have hg := (h.keep hW).got a
    have hl := got_LLs h a
    rw [eg, eh] at hg
    have hc0 := copyM_any W (getM l a).1 _ _ hg.fir hg.res hl.1 hl.2
    unfold markV at hc0
    refine hc0.mono ?_
    rintro e w' ⟨f', s', q1, q2, q3, q4⟩
    obtain ⟨a1, c1, e1⟩ := q2.shape
    obtain ⟨a2, c2, e2⟩ := q3.shape
    subst e1 e2
    exact ⟨a1, _, c1, a2, _, c2, q1, hB.keep q4, gb_none hW q4, q2.mono (by omega), q3.mono (by omega)⟩
  obtain ⟨FP, hFP⟩ : ∃ FP : Ending → World → Prop, FP = FndP w l a := ⟨_, rfl⟩
  have HF : Hid (∀ w' a1 n1 c1 a2 n2 c2, OwnLL w' w.heap.size (.slice a1 n1 c1) (getM l a).1.fir → OwnLL w' w.heap.size (.slice a2 n2 c2) (getM l a).1.res → w.grownBy w' none → FP (.returned (.tuple #[.agg #[.string (ByteArray.mk ⟨(getM l a).1.rcv⟩), .string (ByteArray.mk ⟨(getM l a).1.key⟩), .int .i64 (getM l a).1.tim, .slice a1 n1 c1, .slice a2 n2 c2], .bool (hasM l a)])) w') := fun w' a1 n1 c1 a2 n2 c2 h1 h2 h3 => by rw [hFP]; exact ⟨a1, n1, c1, a2, n2, c2, rfl, h1, h2, h3⟩
  rw [show (fun e w' => FndP w l a e w') = (fun e w' => FP e w') from by rw [hFP]]
  clear hFP h eg eh
  unfold addV at HG
  generalize ByteArray.mk ⟨(getM l a).1.rcv⟩ = gr at *
  generalize ByteArray.mk ⟨(getM l a).1.key⟩ = gk at *
  generalize (getM l a).1.tim = gt at *
  generalize (getM l a).1.fir.length = gn at *
  generalize (getM l a).1.res.length = hn at *
  generalize hasM l a = HS at *
  generalize ByteArray.mk ⟨a.1⟩ = br at *
  generalize ByteArray.mk ⟨a.2⟩ = bk at *
  have k1 := World.grownBy_alloc w (.cells #[.string ⟨#[]⟩, .string ⟨#[]⟩, .int .i64 0, .slice none 0 0, .slice none 0 0] 34) none
  have HB := hidJ (And.intro (B5.new w 34 (.string ⟨#[]⟩) (.string ⟨#[]⟩) (.int .i64 0) (.slice none 0 0) (.slice none 0 0)) k1)
  have hz1 : w.heap.size + 1 ≤ (w.alloc (.cells #[.string ⟨#[]⟩, .string ⟨#[]⟩, .int .i64 0, .slice none 0 0, .slice none 0 0] 34)).heap.size := by simp
  have HZ := hidJ hz1
  clear k1 hz1
  go_enter Tryz.func21, Tryz.ntmps21
  go_wp2_with fail
  refine (HG.out _ HB.out.2).mono ?_
  rintro e w2 ⟨rfl, H2⟩
  clear HG
  have HX : Hid (∀ C, B5 (w2.alloc C) w.heap.size 34 (.string ⟨#[]⟩) (.string ⟨#[]⟩) (.int .i64 0) (.slice none 0 0) (.slice none 0 0) ∧ w.grownBy (w2.alloc C) none ∧ w.heap.size + 1 ≤ (w2.alloc C).heap.size) := fun C => ⟨(HB.out.1.keep H2.out).keep (World.grownBy_alloc w2 C none), gb_none (gb_none HB.out.2 H2.out) (World.grownBy_alloc w2 C none), by have := H2.out.size; have := HZ.out; simp; omega⟩
  clear HB H2 HZ
  go_wp2_with fail
  refine (HCo.out _ (HX.out _).2.1 (HX.out _).2.2 (HX.out _).1).mono ?_
  rintro e w3 ⟨a1, n1, c1, a2, n2, c2, rfl, H3⟩
  clear HCo HX
  obtain ⟨d0, d1, d2, d3, d4⟩ := H3.out.1.cells
  obtain ⟨f0, f1, f2, f3, f4⟩ := H3.out.1.froz
  go_wp2
  have hB := set5_cells (x := .string gr) (y := .string gk) (z := .int .i64 gt) (u := .slice a1 n1 c1) (v := .slice a2 n2 c2) H3.out.1
  have k2 := set5_ch w3 w.heap.size (.string gr) (.string gk) (.int .i64 gt) (.slice a1 n1 c1) (.slice a2 n2 c2)
  obtain ⟨m0, m1, m2, m3, m4⟩ := hB.cells
  unfold set5 at m0 m1 m2 m3 m4
  refine bodyPost_ret (v := .tuple #[.agg #[.string gr, .string gk, .int .i64 gt, .slice a1 n1 c1, .slice a2 n2 c2], .bool HS]) ?_ rfl ?_
  · simp [results, Tryz.f21, go_sem, m0, m1, m2, m3, m4]
  · exact HF.out _ _ _ _ _ _ _ ((H3.out.2.2.1.ch k2 (fun k e => by omega)).mono (by omega)) ((H3.out.2.2.2.ch k2 (fun k e => by omega)).mono (by omega)) (gb_ch H3.out.2.1 k2 (fun k e => by omega))
/-- two logs side by side, behind w -/
structure DuL (w W : World) (gx gy : Nat) (v1 v2 : Value) (l1 l2 : List MkX) : Prop where
  gb : w.grownBy W none
  a : LgX W gx v1 l1
  b : LgX W gy v2 l2
  fa : ∀ k, FpL gx v1 k → w.heap.size ≤ k
  fb : ∀ k, FpL gy v2 k → w.heap.size ≤ k
  ap : ∀ k, FpL gx v1 k → ¬ FpL gy v2 k
theorem DuL.keep {w W W' : World} {gx gy : Nat} {v1 v2 : Value} {l1 l2 : List MkX} (h : DuL w W gx gy v1 v2 l1 l2) (hg : W.grownBy W' none) : DuL w W' gx gy v1 v2 l1 l2 := ⟨gb_none h.gb hg, h.a.keep hg, h.b.keep hg, h.fa, h.fb, h.ap⟩
theorem LgX.lt {w : World} {gx : Nat} {v : Value} {l : List MkX} (h : LgX w gx v l) : ∀ k, FpL gx v k → k < w.heap.size := fun k hk => by
  rcases hk with rfl | hk
  · exact h.box.lt
  · exact (World.ownsRow.lt h.row k hk).2
theorem DuL.swap {w W : World} {gx gy : Nat} {v1 v2 : Value} {l1 l2 : List MkX} (h : DuL w W gx gy v1 v2 l1 l2) : DuL w W gy gx v2 v1 l2 l1 := ⟨h.gb, h.b, h.a, h.fb, h.fa, fun k h1 h2 => h.ap k h2 h1⟩
theorem DuL.put {w W W' : World} {gx gy : Nat} {v1 v1' v2 : Value} {l1 l1' l2 : List MkX} (h : DuL w W gx gy v1 v2 l1 l2) (hl : LgX W' gx v1' l1') (hf : LFr gx W W' v1 v1') : DuL w W' gx gy v1' v2 l1' l2 := by
  have hfp : ∀ k, FpL gx v1' k → FpL gx v1 k ∨ W.heap.size ≤ k := fun k hk => by
    rcases hk with rfl | hk
    · exact .inl (.inl rfl)
    · rcases hf.2 k hk with h1 | h1
      · exact .inl (.inr h1)
      · exact .inr h1
  refine ⟨gb_ch h.gb hf.1 h.fa, hl, h.b.ch hf.1 (fun k h1 h2 => h.ap k h2 h1) h.a.enl, fun k hk => ?_, h.fb, fun k h1 h2 => ?_⟩
  · rcases hfp k hk with h1 | h1
    · exact h.fa k h1
    · exact Nat.le_trans h.gb.size h1
  · rcases hfp k h1 with h3 | h3
    · exact h.ap k h3 h2
    · have := h.b.lt k h2
      omega
/-- what is found of another address -/
theorem find_put {l : List MkX} {x : MkX} {p : Nat} {a : LbT} (hs : risM l) (hp : AtE l (keyX x) p) (ha : keyX x ≠ a) : (putM l x p).find? (fun y => decide (keyX y = a)) = l.find? (fun y => decide (keyX y = a)) := by
  have hx : decide (keyX x = a) = false := decide_eq_false ha
  unfold putM
  cases hb : hasM l (keyX x) with
  | false =>
    rw [if_neg (by simp)]
    conv => rhs; rw [← List.take_append_drop p l]
    rw [List.append_assoc, List.find?_append, List.find?_append, List.find?_append]
    simp [hx]
  | true =>
    rw [if_pos rfl]
    obtain ⟨h1, h2⟩ := has_key hs hp hb
    have e : l.set p x = l.take p ++ x :: l.drop (p + 1) := List.set_eq_take_append_cons_drop.trans (by rw [if_pos h1])
    have e2 : l = l.take p ++ l[p] :: l.drop (p + 1) := by rw [← List.drop_eq_getElem_cons h1, List.take_append_drop]
    have hk : decide (keyX l[p] = a) = false := by
      refine decide_eq_false (fun e => ha ?_)
      rw [← e, ← h2]
      simp [List.getD, h1]
    rw [e]
    conv => rhs; rw [e2]
    rw [List.find?_append, List.find?_append, List.find?_cons, List.find?_cons, hx, hk]
theorem get_put {l : List MkX} {x : MkX} {p : Nat} {a : LbT} (hs : risM l) (hp : AtE l (keyX x) p) (ha : keyX x ≠ a) : getM (putM l x p) a = getM l a ∧ hasM (putM l x p) a = hasM l a := by
  have h := find_put hs hp ha
  refine ⟨by unfold getM; rw [h], ?_⟩
  unfold hasM
  rw [← List.isSome_find?, ← List.isSome_find?, h]
end Go.Proofs.YtpglhdnepmcahaaGreatDoor
