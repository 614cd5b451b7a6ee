/-
  Nkw, Nkv, Nkx, in one text.
-/
import Derived.Test.YtpglhdnepmcahaaGreatDoorNkG
import Derived.Test.YtpglhdnepmcahaaGreatDoorNkF
import Derived.Test.YtpglhdnepmcahaaGreatDoorNkE
import Derived.Test.YtpglhdnepmcahaaGreatDoorHmC
import Derived.Test.YtpglhdnepmcahaaGreatDoorVmD
import Derived.Test.YtpglhdnepmcahaaGreatDoorHmD
/- Nkw -/
namespace Go.Proofs.YtpglhdnepmcahaaGreatDoor
open Go.RowKit Go.Shelf Go.Sort

/-- blocks that are neither label sets nor lists of them stay -/
def StayT (W0 W : World) : Prop := ∀ (k : Nat) (cur : Array Value) (t : TypeId) (fr : Nat × Nat), W0.heap[k]? = some (.cells cur t fr) → t ≠ 51 → t ≠ 52 → W.heap[k]? = some (.cells cur t fr)
theorem StayT.refl (W : World) : StayT W W := fun _ _ _ _ h _ _ => h
theorem StayT.gb {W W' : World} (h : W.grownBy W' none) : StayT W W' := fun k _ _ _ hk _ _ => (h.block k (some_lt hk) (by simp)).trans hk
theorem StayT.trans {W W1 W2 : World} (h1 : StayT W W1) (h2 : StayT W1 W2) : StayT W W2 := fun k cur t fr hk a b => h2 k cur t fr (h1 k cur t fr hk a b) a b
theorem StayT.set {W0 W : World} (h : StayT W0 W) {g : Nat} {cur : Array Value} {t : TypeId} {fr : Nat × Nat} (hg : W.heap[g]? = some (.cells cur t fr)) (ht : t = 51 ∨ t = 52) (z : Nat) (u : Value) : StayT W0 (W.setCell ⟨g, z, none⟩ u) := by
  intro k cur' t' fr' hk a b
  have h1 := h k cur' t' fr' hk a b
  have hne : k ≠ g := by
    intro e
    subst e
    rw [hg] at h1
    simp only [Option.some.injEq, Obj.cells.injEq] at h1
    rcases ht with ht | ht
    · exact a (h1.2.1.symm.trans ht)
    · exact b (h1.2.1.symm.trans ht)
  exact ((set_ch W g z u).block (some_lt h1) hne).trans h1
theorem StayT.setL {W0 W : World} (h : StayT W0 W) {g : Nat} {cur : Array Value} {fr : Nat × Nat} (hg : W.heap[g]? = some (.cells cur 51 fr)) (j : Nat) (x : LbT) : StayT W0 (setL W g j x) := by
  unfold Go.Proofs.YtpglhdnepmcahaaGreatDoor.setL
  exact (h.set hg (.inl rfl) _ _).set (set_blk hg _) (.inl rfl) _ _
theorem B5.stay {W0 W : World} (h : StayT W0 W) {b : Nat} {x y z u v : Value} (hb : B5 W0 b 34 x y z u v) : B5 W b 34 x y z u v := h b _ _ _ hb (by decide) (by decide)
theorem OwnK.stay {W0 W : World} (h : StayT W0 W) {b : Nat} {v : Value} {l : List MkX} (hv : OwnK W0 b v l) : OwnK W b v l := by
  refine ⟨hv.1, ?_⟩
  rcases hv.2 with h2 | ⟨g, cap, cur, e, hg, hb, r⟩
  · exact .inl h2
  · exact .inr ⟨g, cap, cur, e, hg, h g _ _ _ hb (by decide) (by decide), r⟩
/-- spoil, many rows beside it: all of them stay rows, and what is older, or no label set, stays as it was -/
theorem spoilT_any (w0 w : World) (v : Value) (L : Value → Prop) (h0 : w0.grownBy w none) (hv : ShW w w0.heap.size v) (hL : ∀ u, L u → ShW w w0.heap.size u) :
    Calls Tryz.prog 20 #[v] w fun e w' => e = .returned (.tuple #[]) ∧ w0.grownBy w' none ∧ (∀ u, L u → ShW w' w0.heap.size u) ∧ StayT w w' := by
  obtain ⟨vs, h1, h2⟩ := hv
  refine spoilK_any w0.heap.size w v vs (fun W => w0.grownBy W none ∧ (∀ u, L u → ShW W w0.heap.size u) ∧ StayT w W) ⟨h1, h2, fun j => .inr rfl, h0, hL, StayT.refl _⟩ ?_ ?_
  · intro wr g n c j m x hK ho _
    have h7 := (World.ownsRow.lt ho g rfl).1
    refine ⟨?_, fun u hu => (hK.2.1 u hu).set ho j x, ?_⟩
    · unfold setL
      exact gb_ch (gb_ch hK.1 (set_ch _ _ _ _) (fun k e => by omega)) (set_ch _ _ _ _) (fun k e => by omega)
    · obtain ⟨cur, q⟩ := row_objE ho rfl
      exact hK.2.2.setL q j x
  · intro wr g z vs' hK ho hg
    have h7 := (World.ownsRow.lt ho g hg).1
    obtain ⟨cur, q⟩ := row_objE ho hg
    exact ⟨gb_ch hK.1 (set_ch _ _ _ _) (fun k e => by omega), fun u hu => (hK.2.1 u hu).clr ho hg, hK.2.2.set q (.inr rfl) _ _⟩
theorem OwnK.rdk {w : World} {base : Nat} {v : Value} {l : List MkX} (h : OwnK w base v l) (hl : ∀ x ∈ l, RdLL w x.2.1 x.1.fir ∧ RdLL w x.2.2 x.1.res) : RdK w v l := by
  obtain ⟨a, c, e, hc⟩ := h.shape
  refine ⟨a, c, e, hc, fun j hj => ?_⟩
  obtain ⟨g, c', e', -, d0, d1, d2, d3, d4⟩ := h.cells hj
  rw [e] at e'
  simp only [Value.slice.injEq] at e'
  have hm : l.getD j xZ ∈ l := by simp [List.getD, hj]
  exact ⟨g, 0, e'.1, by simpa using d0, by simpa using d1, by simpa using d2, by simpa using d3, by simpa using d4, (hl _ hm).1, (hl _ hm).2⟩
end Go.Proofs.YtpglhdnepmcahaaGreatDoor

/- Nkv -/
namespace Go.Proofs.YtpglhdnepmcahaaGreatDoor
open Go.RowKit Go.Shelf Go.Sort

theorem OwnBB.at {w : World} {base : Nat} {v : Value} {bss : List (List UInt8)} (h : OwnBB w base v bss) {j : Nat} (hj : j < bss.length) : ∃ g c x y z, v = .slice (some ⟨g, 0, none⟩) bss.length c ∧ w.cell? ⟨g, j, none⟩ = some (.slice x y z) ∧ Rd w (.slice x y z) (bss.getD j []) := by
  obtain ⟨vs, h1, h2, h3⟩ := h
  have h4 := h3 j
  obtain ⟨x, z, ex⟩ := h4.shape
  rcases h1.2 with ⟨-, hn⟩ | ⟨g, cap, cur, rfl, -, hb, -, -, -, ht⟩
  · omega
  · refine ⟨g, cap, x, _, z, by rw [h2], ?_, by rw [← ex]; exact h4.rd⟩
    have hjv : j < vs.length := by omega
    have e : vs.getD j nilV = cur.toList.getD j nilV := by
      have : (cur.toList.take (vs.length * 1))[j]? = vs[j]? := by rw [ht]
      rw [List.getElem?_take, if_pos (by omega)] at this
      simp only [List.getD, this]
    have hjc : j < cur.size := by
      have := congrArg List.length ht
      simp at this
      omega
    rw [← ex, e]
    simp [World.cell?, hb, List.getD, hjc]
set_option maxRecDepth 8000 in
set_option maxHeartbeats 6400000 in
theorem recordsBB_any (w : World) (b1 b2 : Nat) (va vb : Value) (bss : List (List UInt8)) (ha : OwnBB w b1 va bss) (hb : OwnBB w b2 vb bss) (hn : bss.length ≤ 1000000) :
    Calls Tryz.prog 29 #[va, vb] w fun e w' => e = .returned (.bool true) ∧ w.grownBy w' none := by
  obtain ⟨aa, ac, ea⟩ := ha.shape
  obtain ⟨ba, bc, eb⟩ := hb.shape
  subst ea eb
  have HC : Hid (∀ j, j < bss.length → ∀ wr, w.grownBy wr none → ∃ g g' x y z x' y' z', ∃ bs, aa = some ⟨g, 0, none⟩ ∧ ba = some ⟨g', 0, none⟩ ∧ wr.cell? ⟨g, j, none⟩ = some (.slice x y z) ∧ wr.cell? ⟨g', j, none⟩ = some (.slice x' y' z') ∧ (convert 42 9 (.slice x y z)).run Tryz.prog wr = .ok (.string bs) wr ∧ (convert 42 9 (.slice x' y' z')).run Tryz.prog wr = .ok (.string bs) wr) := fun j hj wr hg => by
    obtain ⟨g, c, x, y, z, e1, d1, r1⟩ := (ha.keep hg).at hj
    obtain ⟨g', c', x', y', z', e2, d2, r2⟩ := (hb.keep hg).at hj
    simp only [Value.slice.injEq] at e1 e2
    exact ⟨g, g', x, y, z, x', y', z', _, e1.1, e2.1, d1, d2, run_strU r1, run_strU r2⟩
  clear ha hb
  generalize bss.length = n at *
  go_enter Tryz.func29, Tryz.ntmps29
  go_wp2
  go_loopw [13] (fun i wr => ∃ z : Nat, z ≤ n ∧ i = .int .i64 z ∧ Hid (w.grownBy wr none)) (fun i _ => n - (intOf i).toNat)
  case atStart => exact ⟨0, by omega, rfl, gb_refl _ _⟩
  case round =>
    obtain ⟨z, hzN, rfl, hr⟩ := hrel
    by_cases hzl : z < n
    · have hzi : (z : Int) < (n : Int) := by omega
      obtain ⟨g, g', x, y, z1, x', y', z', bs, rfl, rfl, d1, d2, r1, r2⟩ := HC.out z hzl wr.drew (gb_none hr.out (gb_drew _ none))
      have HD := hidJ (gb_none hr.out (gb_drew wr none))
      clear HC
      go_wp2
      go_region
      all_goals go_wp2
      all_goals go_roundw
      case rel => exact ⟨z + 1, by omega, by first | rfl | go_num, HD.out⟩
      case measure => simp [intOf]; omega
    · have hzi : ¬ (z : Int) < (n : Int) := by omega
      go_wp2
      go_ret
      exact ⟨rfl, hr.out⟩
end Go.Proofs.YtpglhdnepmcahaaGreatDoor

/- Nkx -/
namespace Go.Proofs.YtpglhdnepmcahaaGreatDoor
open Go.RowKit Go.Shelf Go.Sort

/-- behind every: the marks that it told -/
def WhG (W W' : World) (l : List MkX) (v : Value) : Prop := W.grownBy W' none ∧ ∃ ys, OwnKL W' W.heap.size v ys ∧ ys.map (·.1) = l.map (·.1)
theorem WhG.keep {W W1 W2 : World} {l : List MkX} {v : Value} (h : WhG W W1 l v) (hg : W1.grownBy W2 none) : WhG W W2 l v := by
  obtain ⟨h1, ys, h2, h3⟩ := h
  exact ⟨gb_none h1 hg, ys, ⟨h2.1.keep hg, fun y hy => ⟨(h2.2 y hy).1.keep hg, (h2.2 y hy).2.keep hg⟩⟩, h3⟩
def BbW (W : World) (v : Value) (bss : List (List UInt8)) : Prop := ∃ b, OwnBB W b v bss
theorem BbW.keep {W W' : World} {v : Value} {bss : List (List UInt8)} (h : BbW W v bss) (hg : W.grownBy W' none) : BbW W' v bss := by
  obtain ⟨b, h⟩ := h
  exact ⟨b, h.keep hg⟩
/-- one of the lists that every told -/
def LsU (ys : List MkX) (u : Value) : Prop := ∃ y ∈ ys, u = y.2.1 ∨ u = y.2.2
/-- while they are written over -/
structure WhS (W wr : World) (v : Value) (ys : List MkX) : Prop where
  gb : W.grownBy wr none
  row : OwnK wr W.heap.size v ys
  sh : ∀ u, LsU ys u → ShW wr W.heap.size u
theorem WhG.s {W W' : World} {v : Value} {ys : List MkX} (h1 : W.grownBy W' none) (h2 : OwnKL W' W.heap.size v ys) : WhS W W' v ys := by
  refine ⟨h1, h2.1, fun u ⟨y, hy, e⟩ => ?_⟩
  rcases e with rfl | rfl
  · exact (h2.2 y hy).1.sh
  · exact (h2.2 y hy).2.sh
theorem WhS.keep {W W1 W2 : World} {v : Value} {ys : List MkX} (h : WhS W W1 v ys) (hg : W1.grownBy W2 none) : WhS W W2 v ys := ⟨gb_none h.gb hg, h.row.keep hg, fun u hu => (h.sh u hu).keep hg⟩
theorem WhS.spoil {W W1 : World} {v u : Value} {ys : List MkX} (h : WhS W W1 v ys) (hu : LsU ys u) :
    Calls Tryz.prog 20 #[u] W1 fun e w' => e = .returned (.tuple #[]) ∧ WhS W w' v ys ∧ StayT W1 w' :=
  (spoilT_any W W1 u (LsU ys) h.gb (h.sh u hu) h.sh).mono fun _ _ ⟨q1, q2, q3, q4⟩ => ⟨q1, ⟨q2, h.row.stay q4, q3⟩, q4⟩
theorem ShW.shape {W : World} {b : Nat} {v : Value} (h : ShW W b v) : ∃ a n c, v = .slice a n c := by
  obtain ⟨vs, h1, -⟩ := h
  rcases h1.2 with ⟨rfl, -⟩ | ⟨g, cap, cur, rfl, -⟩
  · exact ⟨_, _, _, rfl⟩
  · exact ⟨_, _, _, rfl⟩

set_option maxRecDepth 8000 in
set_option maxHeartbeats 12800000 in
theorem whole_any (w0 W : World) (gx gr : Nat) (v1 v2 : Value) (l1 l2 : List MkX) (h : PlD w0 W gx gr v1 v2 l1 l2) (hs : SamM l1 l2) (hT : U8S w0) :
    Calls Tryz.prog 8 #[.pointer (some ⟨gx, 0, none⟩), .pointer (some ⟨gr, 0, none⟩)] W fun e w' => e = .returned (.bool true) ∧ W.grownBy w' none := by
  obtain ⟨n, hn⟩ : ∃ n, n = l1.length := ⟨_, rfl⟩
  have hn2 : l2.length = n := by rw [← hs.len]; exact hn.symm
  have hn5 : n ≤ 500 := by rw [hn]; exact h.a.len
  obtain ⟨ra, rc, er, hrc⟩ := h.b.row.shape
  rw [hn2] at er
  subst er
  obtain ⟨bss, hbs⟩ : ∃ bss, bss = recsL l1 := ⟨_, rfl⟩
  have hbl : bss.length = n := by rw [hbs, hn]; unfold recsL; rw [List.length_map]
  have hb2 : recsL l2 = bss := by rw [hbs]; exact (recs_map hs).symm
  have HH := hidJ (And.intro h (And.intro hs hT))
  have HC : Hid (∀ W', W.grownBy W' none → W'.cell? ⟨gr, 0, none⟩ = some (.slice ra n rc)) := fun W' hg => (h.b.keep hg).box.cell
  have HEv : Hid (∀ W', W.grownBy W' none → Calls Tryz.prog 26 #[.pointer (some ⟨gx, 0, none⟩), .int .i64 1000] W' fun e w' => ∃ aa ac, e = .returned (.slice aa n ac) ∧ w'.cell? ⟨gr, 0, none⟩ = some (.slice ra n rc) ∧ Hid (WhG W w' l1 (.slice aa n ac))) := fun W' hg =>
    (everyX_any W' gx v1 l1 1000 (by omega) (h.a.keep hg)).mono fun e w' ⟨v', ys, q1, q2, q3, q4⟩ => by
      have hl : l1.take 1000 = l1 := List.take_of_length_le (by omega)
      rw [hl] at q3
      obtain ⟨aa, ac, ev, -⟩ := q2.1.shape
      have hyl : ys.length = n := by have := congrArg List.length q3; simpa [hn] using this
      rw [hyl] at ev
      subst ev
      have z := hg.size
      exact ⟨aa, ac, q1, HC.out _ (gb_none hg q4), gb_none hg q4, ys, ⟨OwnK.mono q2.1 z, fun y hy => ⟨(q2.2 y hy).1.mono z, (q2.2 y hy).2.mono z⟩⟩, q3⟩
  have HLn : Hid (∀ W' v, WhG W W' l1 v → Calls Tryz.prog 27 #[.pointer (some ⟨gx, 0, none⟩)] W' fun e w' => e = .returned (.int .i64 (n : Int)) ∧ w'.cell? ⟨gr, 0, none⟩ = some (.slice ra n rc) ∧ Hid (WhG W w' l1 v)) := fun W' v hW =>
    (lenL_any W' gx l1 (h.a.keep hW.1).lg).mono fun e w' ⟨q1, q2⟩ => by
      subst q2
      rw [← hn] at q1
      exact ⟨q1, HC.out _ hW.1, hW⟩
  have HSm : Hid (∀ W' v, WhG W W' l1 v → Calls Tryz.prog 28 #[v, .slice ra n rc] W' fun e w' => e = .returned (.bool true) ∧ w'.cell? ⟨gr, 0, none⟩ = some (.slice ra n rc) ∧ Hid (WhG W w' l1 v)) := fun W' v hW => by
    obtain ⟨g1, ys, q2, q3⟩ := hW
    have hb := h.b.keep g1
    have hyl : ys.length = n := by have := congrArg List.length q3; simpa [hn] using this
    refine (sameAll_refl W' v _ ys l2 (q2.1.rdk fun x hx => ⟨(q2.2 x hx).1.rd, (q2.2 x hx).2.rd⟩) (hb.row.rdk fun x hx => ⟨(hb.each x hx).1.fir.rd, (hb.each x hx).1.res.rd⟩) (by omega) (q3.trans hs)).mono fun e w' ⟨r1, r2⟩ => ⟨r1, HC.out _ (gb_none g1 r2), WhG.keep ⟨g1, ys, q2, q3⟩ r2⟩
  have HPA : ∀ W' , W.grownBy W' none → Calls Tryz.prog 9 #[.pointer (some ⟨gx, 0, none⟩)] W' fun e w' => ∃ a1 c1, e = .returned (.slice a1 n c1) ∧ w'.cell? ⟨gr, 0, none⟩ = some (.slice ra n rc) ∧ BbW w' (.slice a1 n c1) bss ∧ W'.grownBy w' none := fun W' hg =>
    (recordsX_any W' gx v1 l1 (h.a.keep hg) (hT.keep (gb_none h.gb hg))).mono fun e w' ⟨v', q1, q2, q3⟩ => by
      obtain ⟨a1, c1, e1⟩ := q2.shape
      rw [← hbs] at q2 e1
      rw [hbl] at e1
      subst e1
      exact ⟨a1, c1, q1, HC.out _ (gb_none hg q3), ⟨_, q2⟩, q3⟩
  have HPB : ∀ W' , W.grownBy W' none → Calls Tryz.prog 30 #[.pointer (some ⟨gr, 0, none⟩)] W' fun e w' => ∃ a1 c1, e = .returned (.slice a1 n c1) ∧ w'.cell? ⟨gr, 0, none⟩ = some (.slice ra n rc) ∧ BbW w' (.slice a1 n c1) bss ∧ W'.grownBy w' none := fun W' hg =>
    (refRecordsX_any W' gr _ l2 (h.b.keep hg)).mono fun e w' ⟨a, c, q1, q2, q3⟩ => by
      rw [hb2] at q2
      rw [hn2] at q1 q2
      exact ⟨a, c, q1, HC.out _ (gb_none hg q3), ⟨_, q2⟩, q3⟩
  have HA0 : Hid (∀ W' v, WhG W W' l1 v → Calls Tryz.prog 9 #[.pointer (some ⟨gx, 0, none⟩)] W' fun e w' => ∃ a1 c1, e = .returned (.slice a1 n c1) ∧ w'.cell? ⟨gr, 0, none⟩ = some (.slice ra n rc) ∧ Hid (WhG W w' l1 v ∧ BbW w' (.slice a1 n c1) bss)) := fun W' v hW => (HPA W' hW.1).mono fun e w' ⟨a1, c1, q1, q2, q3, q4⟩ => ⟨a1, c1, q1, q2, hW.keep q4, q3⟩
  have HB0 : Hid (∀ W' v, WhG W W' l1 v → Calls Tryz.prog 30 #[.pointer (some ⟨gr, 0, none⟩)] W' fun e w' => ∃ a2 c2, e = .returned (.slice a2 n c2) ∧ w'.cell? ⟨gr, 0, none⟩ = some (.slice ra n rc) ∧ Hid (WhG W w' l1 v ∧ BbW w' (.slice a2 n c2) bss)) := fun W' v hW => (HPB W' hW.1).mono fun e w' ⟨a1, c1, q1, q2, q3, q4⟩ => ⟨a1, c1, q1, q2, hW.keep q4, q3⟩
  have HA1 : Hid (∀ W' v u, (WhG W W' l1 v ∧ BbW W' u bss) → Calls Tryz.prog 9 #[.pointer (some ⟨gx, 0, none⟩)] W' fun e w' => ∃ a1 c1, e = .returned (.slice a1 n c1) ∧ w'.cell? ⟨gr, 0, none⟩ = some (.slice ra n rc) ∧ Hid (WhG W w' l1 v ∧ BbW w' (.slice a1 n c1) bss ∧ BbW w' u bss)) := fun W' v u hW => (HPA W' hW.1.1).mono fun e w' ⟨a1, c1, q1, q2, q3, q4⟩ => ⟨a1, c1, q1, q2, hW.1.keep q4, q3, hW.2.keep q4⟩
  have HB1 : Hid (∀ W' v u, (WhG W W' l1 v ∧ BbW W' u bss) → Calls Tryz.prog 30 #[.pointer (some ⟨gr, 0, none⟩)] W' fun e w' => ∃ a2 c2, e = .returned (.slice a2 n c2) ∧ w'.cell? ⟨gr, 0, none⟩ = some (.slice ra n rc) ∧ Hid (WhG W w' l1 v ∧ BbW w' u bss ∧ BbW w' (.slice a2 n c2) bss)) := fun W' v u hW => (HPB W' hW.1.1).mono fun e w' ⟨a1, c1, q1, q2, q3, q4⟩ => ⟨a1, c1, q1, q2, hW.1.keep q4, hW.2.keep q4, q3⟩
  have HRc : Hid (∀ W' v u u', (WhG W W' l1 v ∧ BbW W' u bss ∧ BbW W' u' bss) → Calls Tryz.prog 29 #[u, u'] W' fun e w' => e = .returned (.bool true) ∧ w'.cell? ⟨gr, 0, none⟩ = some (.slice ra n rc) ∧ Hid (WhG W w' l1 v)) := fun W' v u u' ⟨hW, ⟨b1, h1⟩, ⟨b2, h2⟩⟩ =>
    (recordsBB_any W' b1 b2 u u' bss h1 h2 (by omega)).mono fun e w' ⟨q1, q2⟩ => ⟨q1, HC.out _ (gb_none hW.1 q2), hW.keep q2⟩
  have HEx : Hid (∀ W' v, WhG W W' l1 v → ∃ ys, ys.length = n ∧ WhS W W' v ys) := fun W' v ⟨g1, ys, q2, q3⟩ => ⟨ys, by have := congrArg List.length q3; simpa [hn] using this, WhG.s g1 q2⟩
  clear h hs hT hn hn2 hb2 hbl hbs HPA HPB hrc HH
  have qn : ((n : Int) == (n : Int)) = true := by simp
  go_enter Tryz.func8, Tryz.ntmps8
  go_wp2_with fail
  refine (HEv.out W (gb_refl _ _)).mono ?_
  rintro e w1 ⟨aa, ac, rfl, c0, H1⟩
  have HZ := hidJ (H1.out.keep (gb_drew w1 none))
  clear H1
  go_wp2_with fail
  go_region_held3 (fun w' => w'.cell? ⟨gr, 0, none⟩ = some (.slice ra n rc)) (go_keep)
    (first
      | (go_at_call 27; with_reducible refine (HLn.out _ _ HZ.out).mono ?_; rintro e w2 ⟨rfl, d2, H2⟩)
      | (go_at_call 28; with_reducible refine (HSm.out _ _ H2.out).mono ?_; rintro e w3 ⟨rfl, d3, H3⟩)
      | (go_at_call 9; with_reducible refine (HA0.out _ _ H3.out).mono ?_; rintro e w4 ⟨a1, c1, rfl, d4, H4A⟩)
      | (go_at_call 9; with_reducible refine (HA1.out _ _ _ H4B.out).mono ?_; rintro e w5 ⟨a1, c1, rfl, d5, H5⟩)
      | (go_at_call 30; with_reducible refine (HB0.out _ _ H3.out).mono ?_; rintro e w4 ⟨a2, c2, rfl, d4, H4B⟩)
      | (go_at_call 30; with_reducible refine (HB1.out _ _ _ H4A.out).mono ?_; rintro e w5 ⟨a2, c2, rfl, d5, H5⟩)
      | (go_at_call 29; with_reducible refine (HRc.out _ _ _ _ H5.out).mono ?_; rintro e w6 ⟨rfl, d6, H6⟩))
  obtain ⟨ys, hyl, hWs⟩ := HEx.out _ _ H6.out
  have HWs := hidJ hWs
  clear hWs
  go_wp2_with fail
  go_loopw [36] (fun i wr => ∃ z : Nat, z ≤ n ∧ i = .int .i64 z ∧ Hid (WhS W wr (.slice aa n ac) ys)) (fun i _ => n - (intOf i).toNat)
  case atStart => exact ⟨0, by omega, rfl, HWs.out⟩
  case round =>
    obtain ⟨z, hzN, rfl, hr⟩ := hrel
    by_cases hzl : z < n
    · have hzi : (z : Int) < (n : Int) := by omega
      obtain ⟨y, hy⟩ : ∃ y, ys.getD z xZ = y := ⟨_, rfl⟩
      have hym : y ∈ ys := by rw [← hy]; simp [List.getD, show z < ys.length by omega]
      have hF : LsU ys y.2.1 := ⟨y, hym, .inl rfl⟩
      have hS : LsU ys y.2.2 := ⟨y, hym, .inr rfl⟩
      obtain ⟨g, c, e0, -, d0, d1, d2, d3, d4⟩ := hr.out.row.cells (show z < ys.length by omega)
      rw [hy] at d0 d1 d2 d3 d4
      obtain ⟨fa, fn, fc, ef⟩ := (hr.out.sh _ hF).shape
      obtain ⟨sa, sn, sc, es⟩ := (hr.out.sh _ hS).shape
      rw [ef] at d3 hF
      rw [es] at d4 hS
      simp only [Value.slice.injEq] at e0
      obtain ⟨rfl, -, -⟩ := e0
      generalize ByteArray.mk ⟨y.1.rcv⟩ = br at *
      generalize ByteArray.mk ⟨y.1.key⟩ = bk at *
      generalize y.1.tim = tm at *
      have HF := hidJ (And.intro hF hS)
      have k := World.grownBy_alloc wr (.cells #[.string br, .string bk, .int .i64 tm, .slice fa fn fc, .slice sa sn sc] 34) none
      have HB := hidJ (And.intro (hr.out.keep k) (B5.new wr 34 (.string br) (.string bk) (.int .i64 tm) (.slice fa fn fc) (.slice sa sn sc)))
      clear hF hS ef es hym hy k hr
      have c3 := HB.out.2.cells.2.2.2.1
      go_wp2_with fail
      refine (HB.out.1.spoil HF.out.1).mono ?_
      rintro e w7 ⟨rfl, q1, q2⟩
      have HB2 := hidJ (And.intro q1 (B5.stay q2 HB.out.2))
      clear HB q1 q2 d0 d1 d2 d3 d4 c3
      have c4 := HB2.out.2.cells.2.2.2.2
      go_wp2_with fail
      refine (HB2.out.1.spoil HF.out.2).mono ?_
      rintro e w8 ⟨rfl, q1, q2⟩
      have HB3 := hidJ q1
      clear HB2 q1 q2 c4 HF
      go_wp2
      go_roundw
      case rel => exact ⟨z + 1, by omega, by first | rfl | go_num, HB3.out⟩
      case measure => simp [intOf]; omega
    · have hzi : ¬ (z : Int) < (n : Int) := by omega
      have HZ9 := hidJ (gb_none hr.out.gb (gb_drew wr none))
      have c9 := HC.out _ hr.out.gb
      clear HB0 HB1 HA0 HA1 HRc HLn HWs HEx
      go_wp2_with fail
      go_region_held3 (fun w' => w'.cell? ⟨gr, 0, none⟩ = some (.slice ra n rc)) (go_keep)
        (first
          | (go_at_call 26; with_reducible refine (HEv.out _ HZ9.out).mono ?_; rintro e w10 ⟨a9, c10, rfl, d10, H10⟩)
          | (go_at_call 28; with_reducible refine (HSm.out _ _ H10.out).mono ?_; rintro e w11 ⟨rfl, d11, H11⟩))
      go_wp2
      go_ret
      exact ⟨rfl, H11.out.1⟩
end Go.Proofs.YtpglhdnepmcahaaGreatDoor
