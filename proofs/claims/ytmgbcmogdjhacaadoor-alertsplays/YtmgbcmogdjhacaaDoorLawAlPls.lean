/-
  AlertsPlays: the walk of the law.
-/
import Derived.Test.YtmgbcmogdjhacaaDoorAlPe
namespace Go.Proofs.YtmgbcmogdjhacaaDoor
open Go.RowKit Go.Shelf Go.Sort Go.Maps Go.WideMaps

/-- both sets alike, and what the document's box holds -/
def PlQ (w : World) (gx gr : Nat) (R most : Int) (a : Option Addr) (n c : Nat) (X : World) : Prop := ∃ M, DuA w gx gr R most M M 0 0 X ∧ M.length = n ∧ RdX X (.slice a n c) M ∧ ∀ Y, X.grownBy Y none → Y.cell? ⟨gr, 2, none⟩ = some (.slice a n c)
theorem PlQ.keep {w X Y : World} {gx gr : Nat} {R most : Int} {a : Option Addr} {n c : Nat} (h : PlQ w gx gr R most a n c X) (hg : X.grownBy Y none) : PlQ w gx gr R most a n c Y := by
  obtain ⟨M, h1, h2, h3, h4⟩ := h
  exact ⟨M, h1.keep hg, h2, h3.keep hg, fun Z hz => h4 Z (gb_none hg hz)⟩
theorem PlQ.of {w X : World} {gx gr : Nat} {R most : Int} {M : List AlR} (h : DuA w gx gr R most M M 0 0 X) : ∃ a n c, PlQ w gx gr R most a n c X ∧ X.cell? ⟨gr, 2, none⟩ = some (.slice a n c) ∧ n ≤ c ∧ c ≤ 9223372036854775807 ∧ n ≤ 500 := by
  obtain ⟨a, c, h1, h2, h3, h4, h5⟩ := h.box
  have := h.ok.2.2.2
  exact ⟨a, M.length, c, ⟨M, h, rfl, h4, h5⟩, h1, h2, h3, by omega⟩
theorem PlQ.len {w X : World} {gx gr : Nat} {R most : Int} {a : Option Addr} {n c : Nat} (h : PlQ w gx gr R most a n c X) : Calls Tryd.prog 12 #[.pointer (some ⟨gx, 0, none⟩)] X fun e w' => e = .returned (.int .i64 (n : Int)) ∧ w' = X := by
  obtain ⟨M, ⟨S, T, h1, -⟩, rfl, -, -⟩ := h
  exact len_any X S gx R most M h1.1
/-- behind the list of all -/
def PlS (w : World) (gx gr : Nat) (R most : Int) (a : Option Addr) (n c : Nat) (a2 : Option Addr) (n2 c2 : Nat) (one : Bool) (X : World) : Prop := ∃ M, DuA w gx gr R most M M 0 0 X ∧ M.length = n ∧ RdX X (.slice a n c) M ∧ RdX X (.slice a2 n2 c2) (if one then M.take 1 else M)
theorem PlS.keep {w X Y : World} {gx gr : Nat} {R most : Int} {a a2 : Option Addr} {n c n2 c2 : Nat} {one : Bool} (h : PlS w gx gr R most a n c a2 n2 c2 one X) (hg : X.grownBy Y none) : PlS w gx gr R most a n c a2 n2 c2 one Y := by
  obtain ⟨M, h1, h2, h3, h4⟩ := h
  exact ⟨M, h1.keep hg, h2, h3.keep hg, h4.keep hg⟩
theorem PlQ.all {w X : World} {gx gr : Nat} {R most : Int} {a : Option Addr} {n c : Nat} (h : PlQ w gx gr R most a n c X) : Calls Tryd.prog 14 #[.pointer (some ⟨gx, 0, none⟩), .int .i64 0] X fun e w' => ∃ a2 n2 c2, e = .returned (.slice a2 n2 c2) ∧ PlS w gx gr R most a n c a2 n2 c2 false w' ∧ X.grownBy w' none := by
  obtain ⟨M, h1, h2, h3, h4⟩ := h
  obtain ⟨S, T, s1, -⟩ := id h1
  refine (allL_any X (.pointer (some ⟨gx, 0, none⟩)) 0 M ⟨_, rfl⟩ s1.ptr).mono ?_
  rintro e w' ⟨v', l, rfl, t1, t2, t3, t4⟩
  rw [if_pos rfl] at t2
  obtain ⟨a2, c2, e⟩ := t1.shape
  subst e
  exact ⟨a2, _, c2, rfl, ⟨M, h1.keep t4, h2, h3.keep t4, t1.rdx t2 (fun x hx => (t3 x hx).rd)⟩, t4⟩
theorem PlQ.one {w X : World} {gx gr : Nat} {R most : Int} {a : Option Addr} {n c : Nat} (h : PlQ w gx gr R most a n c X) : Calls Tryd.prog 14 #[.pointer (some ⟨gx, 0, none⟩), .int .i64 1] X fun e w' => ∃ a2 n2 c2, e = .returned (.slice a2 n2 c2) ∧ PlS w gx gr R most a n c a2 n2 c2 true w' ∧ X.grownBy w' none := by
  obtain ⟨M, h1, h2, h3, h4⟩ := h
  obtain ⟨S, T, s1, -⟩ := id h1
  refine (allL_any X (.pointer (some ⟨gx, 0, none⟩)) 1 M ⟨_, rfl⟩ s1.ptr).mono ?_
  rintro e w' ⟨v', l, rfl, t1, t2, t3, t4⟩
  rw [if_neg (by omega)] at t2
  obtain ⟨a2, c2, e⟩ := t1.shape
  subst e
  exact ⟨a2, _, c2, rfl, ⟨M, h1.keep t4, h2, h3.keep t4, t1.rdx t2 (fun x hx => (t3 x hx).rd)⟩, t4⟩
theorem PlS.same {w X : World} {gx gr : Nat} {R most : Int} {a a2 : Option Addr} {n c n2 c2 : Nat} (h : PlS w gx gr R most a n c a2 n2 c2 false X) : Calls Tryd.prog 13 #[.slice a2 n2 c2, .slice a n c] X fun e w' => e = .returned (.bool true) ∧ (∃ M', DuA w gx gr R most M' M' 0 0 w') ∧ X.grownBy w' none := by
  obtain ⟨M, h1, h2, h3, h4⟩ := h
  refine (refSameA_any X _ _ M h4 h3).mono ?_
  rintro e w' ⟨rfl, q⟩
  exact ⟨rfl, ⟨M, h1.keep q⟩, q⟩
theorem RdX.head {w : World} {a : Option Addr} {n c : Nat} {M : List AlR} (h : RdX w (.slice a n c) M) : RdX w (.slice a (min 1 n) c) (M.take 1) := by
  obtain ⟨a', c', e, h1, h2, h3⟩ := h
  simp only [Value.slice.injEq] at e
  obtain ⟨rfl, rfl, rfl⟩ := e
  refine ⟨a, c, by rw [List.length_take], by rw [List.length_take]; omega, h2, fun j hj => ?_⟩
  rw [List.length_take] at hj
  have hj0 : j = 0 := by omega
  have hg : (M.take 1).getD j alZ = M.getD j alZ := by
    subst hj0
    cases M <;> rfl
  rw [hg]
  exact h3 j (by omega)
theorem PlS.sameOne {w X : World} {gx gr : Nat} {R most : Int} {a a2 : Option Addr} {n c n2 c2 m : Nat} (h : PlS w gx gr R most a n c a2 n2 c2 true X) (hm : m = min 1 n) : Calls Tryd.prog 13 #[.slice a2 n2 c2, .slice a m c] X fun e w' => e = .returned (.bool true) ∧ X.grownBy w' none := by
  obtain ⟨M, h1, h2, h3, h4⟩ := h
  subst hm
  exact refSameA_any X _ _ _ h4 h3.head
set_option maxRecDepth 8000 in
set_option maxHeartbeats 64000000 in
theorem alPlays_walk (w : World) (R most : Int) (v : Value) (ops : List AOp) (hv : RdO w v ops) (hvl : ∀ j, j < ops.length → (ops.getD j aoZ).a.lbs.length ≤ 4398046511104) (hT : U8S w) :
    Calls Tryd.prog 3 #[.int .i64 R, .int .i64 most, v] w fun e w' => e = .returned (.bool true) ∧ Below w.heap.size w w' := by
  obtain ⟨va, vc, rfl, hvm, hvc⟩ := hv
  obtain ⟨K, hK⟩ : ∃ K, ops.length = K := ⟨_, rfl⟩
  rw [hK] at hvm hvc hvl ⊢
  have HOP := hidJ (And.intro hvc hvl)
  have HT := hidJ hT
  have HK : Hid (∀ W, w.grownBy W none → Calls Tryd.prog 9 #[] W fun e w' => e = .returned (.bool true) ∧ Hid (w.grownBy w' none)) := fun W hW => (known_any W (HT.out.keep hW)).mono fun e w' ⟨h1, h2⟩ => ⟨h1, gb_none hW h2⟩
  clear hvc hvl hT hK
  have hnf : ∀ (lb : Array Value) (W : World), (binOp .eql 29 (.func (.func 25) #[] lb) .nilFunc).run Tryd.prog W = .ok (.bool false) W := fun _ _ => rfl
  by_cases hn : newOk R most
  · have HNw := hidJ (setB_new w R most hn)
    have HNr := hidJ (fun W => refNewOK_any W R most hn)
    have hm5 : most ≤ 500 := hn.2.2
    have hR := hn.1
    clear hn
    go_enter Tryd.func3, Tryd.ntmps3
    go_wp2_with fail
    refine HNw.out.mono ?_
    rintro e w1 ⟨gx, rfl, q1, q2⟩
    have H1 := hidJ (And.intro q1 q2)
    clear HNw q1 q2
    go_wp2_with fail
    refine (HNr.out w1).mono ?_
    rintro e w2 ⟨rfl, q1, q2⟩
    obtain ⟨gr, hgr⟩ : ∃ gr, w1.heap.size = gr := ⟨_, rfl⟩
    have HD0 : Hid (DuA w gx gr R most [] [] 0 0 w2) := by
      obtain ⟨p1, p2⟩ := H1.out
      rw [hgr] at q1
      have hz := p2.size
      refine ⟨_, _, p1.keep q2, q1, fun k hk e => ?_, fun k hk => hk.1, fun k hk => ?_, fun k _ hk => by omega, Nat.zero_le _, gb_none p2 q2⟩
      · have := p1.2 k hk
        have e' : k = gr := e
        omega
      · have e' : k = gr := hk
        obtain ⟨v, l, hr⟩ := q1
        exact ⟨by omega, hr.lt k hk⟩
    rw [hgr]
    clear HNr H1 q1 q2 hgr
    have HAl : Hid (Calls Tryd.prog 10 #[.pointer (some ⟨gx, 0, none⟩)] w2 fun e w' => ∃ lb, e = .returned (.func (.func 25) #[] lb) ∧ Hid (∃ M, DuA w gx gr R most M M 0 0 w')) := by
      obtain ⟨S, T, ⟨⟨gm, D, hv, s1⟩, s2⟩, -⟩ := id HD0.out
      refine (all_any w2 S gx R most [] gm D hv s1 s2).mono ?_
      rintro e w' ⟨c, v, rfl, -, -, -, q⟩
      exact ⟨_, rfl, [], HD0.out.keep q⟩
    go_wp2_with fail
    refine HAl.out.mono ?_
    rintro e w3 ⟨lb, rfl, HSt⟩
    clear HAl HD0
    go_wp2_with fail
    go_loopw [9] (fun i wr => ∃ z : Nat, z ≤ K ∧ i = .int .i64 z ∧ Hid (∃ M, DuA w gx gr R most M M 0 0 wr)) (fun i _ => K - (intOf i).toNat)
    case atStart => exact ⟨0, by omega, rfl, HSt.out⟩
    case round =>
      obtain ⟨z, hzK, rfl, HJ⟩ := hrel
      clear HSt
      by_cases hzl : z < K
      · as_aux_lemma =>
        have hzi : (z : Int) < (K : Int) := by omega
        obtain ⟨b, o, lx, ln, ld, rfl, f0, f1, f2, f3, f4, f5, f6, f7⟩ := HOP.out.1 z hzl
        have f8 := HOP.out.2 z hzl
        obtain ⟨⟨kd, nw, kp, ls, st, en⟩, ho⟩ : ∃ o, ops.getD z aoZ = o := ⟨_, rfl⟩
        rw [ho] at f0 f1 f2 f4 f5 f6 f7 f8
        simp only at f0 f1 f2 f4 f5 f6 f7 f8
        clear ho
        have HF : Hid (w.cell? ⟨b, o + z * 6, none⟩ = some (.int .i64 kd) ∧ w.cell? ⟨b, o + z * 6 + 1, none⟩ = some (.int .i64 nw) ∧ w.cell? ⟨b, o + z * 6 + 2, none⟩ = some (.int .i64 kp) ∧ w.cell? ⟨b, o + z * 6 + 3, none⟩ = some (.slice lx ln ld) ∧ w.cell? ⟨b, o + z * 6 + 4, none⟩ = some (.int .i64 st) ∧ w.cell? ⟨b, o + z * 6 + 5, none⟩ = some (.int .i64 en)) := ⟨f0, f1, f2, f3, f4, f5⟩
        have HCl : Hid (∀ W, w.grownBy W none → W.cell? ⟨b, o + z * 6, none⟩ = some (.int .i64 kd) ∧ W.cell? ⟨b, o + z * 6 + 1, none⟩ = some (.int .i64 nw) ∧ W.cell? ⟨b, o + z * 6 + 2, none⟩ = some (.int .i64 kp) ∧ W.cell? ⟨b, o + z * 6 + 3, none⟩ = some (.slice lx ln ld) ∧ W.cell? ⟨b, o + z * 6 + 4, none⟩ = some (.int .i64 st) ∧ W.cell? ⟨b, o + z * 6 + 5, none⟩ = some (.int .i64 en)) := fun W hW => ⟨cell_keep HF.out.1 hW, cell_keep HF.out.2.1 hW, cell_keep HF.out.2.2.1 hW, cell_keep HF.out.2.2.2.1 hW, cell_keep HF.out.2.2.2.2.1 hW, cell_keep HF.out.2.2.2.2.2 hW⟩
        obtain ⟨M, hM⟩ := HJ.out
        have HSt : Hid (∀ Y, wr.grownBy Y none → Calls Tryd.prog 11 #[.pointer (some ⟨gx, 0, none⟩), .pointer (some ⟨gr, 0, none⟩), .agg #[.int .i64 kd, .int .i64 nw, .int .i64 kp, .slice lx ln ld, .int .i64 st, .int .i64 en]] Y fun e w' => e = .returned (.bool true) ∧ (w'.cell? ⟨b, o + z * 6, none⟩ = some (.int .i64 kd) ∧ w'.cell? ⟨b, o + z * 6 + 1, none⟩ = some (.int .i64 nw) ∧ w'.cell? ⟨b, o + z * 6 + 2, none⟩ = some (.int .i64 kp) ∧ w'.cell? ⟨b, o + z * 6 + 3, none⟩ = some (.slice lx ln ld) ∧ w'.cell? ⟨b, o + z * 6 + 4, none⟩ = some (.int .i64 st) ∧ w'.cell? ⟨b, o + z * 6 + 5, none⟩ = some (.int .i64 en)) ∧ ∃ a n c, w'.cell? ⟨gr, 2, none⟩ = some (.slice a n c) ∧ n ≤ 500 ∧ Hid (PlQ w gx gr R most a n c w')) := fun Y hY => by
          refine (step_any w Y gx gr R most M (hM.keep hY) HT.out hR kd nw kp st en lx ln ld ls f6 f7 f8).mono ?_
          rintro e w' ⟨rfl, M', hM'⟩
          obtain ⟨a, n, c, p1, p2, p3, p4, p5⟩ := PlQ.of hM'
          exact ⟨rfl, HCl.out _ hM'.gb, a, n, c, p2, p5, p1⟩
        have HLn : Hid (∀ a n c X, PlQ w gx gr R most a n c X → ∀ Y, X.grownBy Y none → Calls Tryd.prog 12 #[.pointer (some ⟨gx, 0, none⟩)] Y fun e w' => e = .returned (.int .i64 (n : Int)) ∧ w' = Y) := fun a n c X hX Y hY => (hX.keep hY).len
        have HAl : Hid (∀ a n c X, PlQ w gx gr R most a n c X → ∀ Y, X.grownBy Y none → Calls Tryd.prog 14 #[.pointer (some ⟨gx, 0, none⟩), .int .i64 0] Y fun e w' => ∃ a2 n2 c2, e = .returned (.slice a2 n2 c2) ∧ (w'.cell? ⟨b, o + z * 6, none⟩ = some (.int .i64 kd) ∧ w'.cell? ⟨b, o + z * 6 + 1, none⟩ = some (.int .i64 nw) ∧ w'.cell? ⟨b, o + z * 6 + 2, none⟩ = some (.int .i64 kp) ∧ w'.cell? ⟨b, o + z * 6 + 3, none⟩ = some (.slice lx ln ld) ∧ w'.cell? ⟨b, o + z * 6 + 4, none⟩ = some (.int .i64 st) ∧ w'.cell? ⟨b, o + z * 6 + 5, none⟩ = some (.int .i64 en)) ∧ w'.cell? ⟨gr, 2, none⟩ = some (.slice a n c) ∧ Hid (PlS w gx gr R most a n c a2 n2 c2 false w')) := fun a n c X hX Y hY => by
          have hq := hX.keep hY
          refine hq.all.mono ?_
          rintro e w' ⟨a2, n2, c2, rfl, p1, p2⟩
          obtain ⟨M2, d1, d2, d3, d4⟩ := id hq
          exact ⟨a2, n2, c2, rfl, HCl.out _ (gb_none d1.gb p2), d4 _ p2, p1⟩
        have HSm : Hid (∀ a n c a2 n2 c2 X, PlS w gx gr R most a n c a2 n2 c2 false X → ∀ Y, X.grownBy Y none → Calls Tryd.prog 13 #[.slice a2 n2 c2, .slice a n c] Y fun e w' => e = .returned (.bool true) ∧ (w'.cell? ⟨b, o + z * 6, none⟩ = some (.int .i64 kd) ∧ w'.cell? ⟨b, o + z * 6 + 1, none⟩ = some (.int .i64 nw) ∧ w'.cell? ⟨b, o + z * 6 + 2, none⟩ = some (.int .i64 kp) ∧ w'.cell? ⟨b, o + z * 6 + 3, none⟩ = some (.slice lx ln ld) ∧ w'.cell? ⟨b, o + z * 6 + 4, none⟩ = some (.int .i64 st) ∧ w'.cell? ⟨b, o + z * 6 + 5, none⟩ = some (.int .i64 en)) ∧ Hid ((∃ M, DuA w gx gr R most M M 0 0 w') ∧ Y.grownBy w' none)) := fun a n c a2 n2 c2 X hX Y hY => by
          refine (hX.keep hY).same.mono ?_
          rintro e w' ⟨rfl, ⟨M', d⟩, q⟩
          exact ⟨rfl, HCl.out _ d.gb, ⟨M', d⟩, q⟩
        have hwr := hM.gb
        obtain ⟨e0, e1, e2, e3, e4, e5⟩ := HCl.out wr hwr
        clear f0 f1 f2 f3 f4 f5 f6 f7 f8 HF hM HJ hwr HCl
        go_wp2_with fail
        refine wp_region_any (by kernel_rfl) ?_
        change wpAny _ _ _ _ _ _ _ (World.drew _)
        refine wpAny_take (i := 0) (oi := { dst := some 41, op := Go.Op.move (Go.Operand.tmp 7), type := 23, pos := "law.go:92", after := #[], guard := none }) (v := ?v1k) rfl (by kernel_rfl) (by kernel_rfl) (by kernel_rfl) (fun _ _ _ h => h) (Or.inl ⟨by rfl, ?y1k⟩) ?r1k
        case y1k => intro wq; go_simp; try with_reducible rfl
        case' r1k => skip
        try simp only [Act.put, List.setIfInBounds_toArray, List.set_cons_zero, List.set_cons_succ]
        refine wpAny_take (i := 1) (oi := { dst := some 42, op := Go.Op.move (Go.Operand.tmp 8), type := 25, pos := "law.go:92", after := #[], guard := none }) (v := ?v2k) rfl (by kernel_rfl) (by kernel_rfl) (by kernel_rfl) (fun _ _ _ h => h) (Or.inl ⟨by rfl, ?y2k⟩) ?r2k
        case y2k => intro wq; go_simp; try with_reducible rfl
        case' r2k => skip
        try simp only [Act.put, List.setIfInBounds_toArray, List.set_cons_zero, List.set_cons_succ]
        refine wpAny_take (i := 2) (oi := { dst := some 43, op := Go.Op.move (Go.Operand.tmp 2), type := 22, pos := "law.go:92", after := #[], guard := none }) (v := ?v3k) rfl (by kernel_rfl) (by kernel_rfl) (by kernel_rfl) (fun _ _ _ h => h) (Or.inl ⟨by rfl, ?y3k⟩) ?r3k
        case y3k => intro wq; go_simp; try with_reducible rfl
        case' r3k => skip
        try simp only [Act.put, List.setIfInBounds_toArray, List.set_cons_zero, List.set_cons_succ]
        refine wpAny_take (i := 3) (oi := { dst := some 44, op := Go.Op.move (Go.Operand.tmp 9), type := 3, pos := "law.go:92", after := #[], guard := none }) (v := ?v4k) rfl (by kernel_rfl) (by kernel_rfl) (by kernel_rfl) (fun _ _ _ h => h) (Or.inl ⟨by rfl, ?y4k⟩) ?r4k
        case y4k => intro wq; go_simp; try with_reducible rfl
        case' r4k => skip
        try simp only [Act.put, List.setIfInBounds_toArray, List.set_cons_zero, List.set_cons_succ]
        refine wpAny_take (i := 4) (oi := { dst := some 45, op := Go.Op.indexAddr 22 (Go.Operand.tmp 43) (Go.Operand.tmp 44), type := 0, pos := "law.go:92", after := #[{ on := 2, ground := Go.Ground.data }, { on := 3, ground := Go.Ground.data }], guard := none }) (v := ?v5k) rfl (by kernel_rfl) (by kernel_rfl) (by kernel_rfl) (fun _ _ _ h => h) (Or.inl ⟨by rfl, ?y5k⟩) ?r5k
        case y5k => intro wq; go_simp; try with_reducible rfl
        case' r5k => skip
        try simp only [Act.put, List.setIfInBounds_toArray, List.set_cons_zero, List.set_cons_succ]
        refine wpAny_ready (rs := [5]) (by kernel_rfl) (by simp) ?_
        refine AllReady.cons (o := { dst := some 46, op := Go.Op.load 36 (Go.Operand.tmp 45), type := 36, pos := "law.go:92", after := #[{ on := 4, ground := Go.Ground.data }], guard := none }) rfl (fun K hK => ?_) AllReady.nil
        go_simp
        refine hK _ _ ?_
        clear hK K
        refine wpAny_ready (rs := [6]) (by kernel_rfl) (by simp) ?_
        refine AllReady.cons (o := { dst := some 47, op := Go.Op.call { callee := Go.Callee.value (Go.Operand.func 11), args := #[Go.Operand.tmp 41, Go.Operand.tmp 42, Go.Operand.tmp 46], argTypes := #[23, 25, 36] }, type := 4, pos := "law.go:92", after := #[{ on := 0, ground := Go.Ground.data }, { on := 1, ground := Go.Ground.data }, { on := 5, ground := Go.Ground.data }], guard := none }) rfl (fun K hK => ?_) AllReady.nil
        go_simp
        go_wp2_with (go_at_call 11; with_reducible refine (HSt.out _ ?_).mono ?_; (first | exact gb_refl _ _ | exact gb_drew _ none); rintro e w5 ⟨rfl, -, a5, n5, c5, p0, p1, H5⟩)
        refine wpAny_take (i := 7) (oi := { dst := some 48, op := Go.Op.unOp Go.UnOp.not 4 (Go.Operand.tmp 47), type := 4, pos := "law.go:92", after := #[{ on := 6, ground := Go.Ground.data }], guard := none }) (v := ?v6k) rfl (by kernel_rfl) (by kernel_rfl) (by kernel_rfl) (fun _ _ _ h => h) (Or.inl ⟨by rfl, ?y6k⟩) ?r6k
        case y6k => intro wq; go_simp; try with_reducible rfl
        case' r6k => skip
        try simp only [Act.put, List.setIfInBounds_toArray, List.set_cons_zero, List.set_cons_succ]
        refine wpAny_take (i := 8) (oi := { dst := some 49, op := Go.Op.move (Go.Operand.tmp 48), type := 4, pos := "law.go:92", after := #[{ on := 7, ground := Go.Ground.data }, { on := 6, ground := Go.Ground.chain }], guard := none }) (v := ?v7k) rfl (by kernel_rfl) (by kernel_rfl) (by kernel_rfl) (fun _ _ _ h => h) (Or.inl ⟨by rfl, ?y7k⟩) ?r7k
        case y7k => intro wq; go_simp; try with_reducible rfl
        case' r7k => skip
        try simp only [Act.put, List.setIfInBounds_toArray, List.set_cons_zero, List.set_cons_succ]
        refine wpAny_of_held (S := fun w' => w'.cell? ⟨gr, 2, none⟩ = some (.slice a5 n5 c5)) _ _ _ _ ?_
        refine wpAnyH_take (i := 9) (oi := { dst := some 50, op := Go.Op.move (Go.Operand.tmp 7), type := 23, pos := "law.go:92", after := #[{ on := 8, ground := Go.Ground.guard }], guard := some (8, false) }) (v := ?v8k) rfl (by kernel_rfl) (by kernel_rfl) (by kernel_rfl) (fun _ _ _ h => h) (Or.inl ⟨by rfl, ?y8k⟩) p0 ?r8k
        case y8k => intro wq hSw; go_simp; try with_reducible rfl
        case' r8k => skip
        try simp only [Act.put, List.setIfInBounds_toArray, List.set_cons_zero, List.set_cons_succ]
        refine wpAnyH_take (i := 11) (oi := { dst := some 52, op := Go.Op.move (Go.Operand.tmp 8), type := 25, pos := "law.go:92", after := #[{ on := 8, ground := Go.Ground.guard }], guard := some (8, false) }) (v := ?v9k) rfl (by kernel_rfl) (by kernel_rfl) (by kernel_rfl) (fun _ _ _ h => h) (Or.inl ⟨by rfl, ?y9k⟩) p0 ?r9k
        case y9k => intro wq hSw; go_simp; try with_reducible rfl
        case' r9k => skip
        try simp only [Act.put, List.setIfInBounds_toArray, List.set_cons_zero, List.set_cons_succ]
        refine wpAnyH_take (i := 12) (oi := { dst := some 53, op := Go.Op.nilCheck (Go.Operand.tmp 52), type := 0, pos := "law.go:92", after := #[{ on := 11, ground := Go.Ground.data }, { on := 8, ground := Go.Ground.guard }], guard := some (8, false) }) (v := ?v10k) rfl (by kernel_rfl) (by kernel_rfl) (by kernel_rfl) (fun _ _ _ h => h) (Or.inl ⟨by rfl, ?y10k⟩) p0 ?r10k
        case y10k => intro wq hSw; go_simp; try with_reducible rfl
        case' r10k => skip
        try simp only [Act.put, List.setIfInBounds_toArray, List.set_cons_zero, List.set_cons_succ]
        refine wpAnyH_take (i := 13) (oi := { dst := some 54, op := Go.Op.fieldAddr 40 (Go.Operand.tmp 53) 2, type := 0, pos := "law.go:92", after := #[{ on := 12, ground := Go.Ground.data }, { on := 8, ground := Go.Ground.guard }], guard := some (8, false) }) (v := ?v11k) rfl (by kernel_rfl) (by kernel_rfl) (by kernel_rfl) (fun _ _ _ h => h) (Or.inl ⟨by rfl, ?y11k⟩) p0 ?r11k
        case y11k => intro wq hSw; go_simp; try with_reducible rfl
        case' r11k => skip
        try simp only [Act.put, List.setIfInBounds_toArray, List.set_cons_zero, List.set_cons_succ]
        refine wpAnyH_take (i := 14) (oi := { dst := some 55, op := Go.Op.load 38 (Go.Operand.tmp 54), type := 38, pos := "law.go:92", after := #[{ on := 13, ground := Go.Ground.data }, { on := 8, ground := Go.Ground.guard }], guard := some (8, false) }) (v := ?v12k) rfl (by kernel_rfl) (by kernel_rfl) (by kernel_rfl) (fun _ _ _ h => h) (Or.inl ⟨by rfl, ?y12k⟩) p0 ?r12k
        case y12k => intro wq hSw; go_simp; try with_reducible rfl
        case' r12k => skip
        try simp only [Act.put, List.setIfInBounds_toArray, List.set_cons_zero, List.set_cons_succ]
        refine wpAnyH_take (i := 15) (oi := { dst := some 56, op := Go.Op.call { callee := Go.Callee.builtin Go.Builtin.len, args := #[Go.Operand.tmp 55], argTypes := #[38] }, type := 3, pos := "law.go:92", after := #[{ on := 14, ground := Go.Ground.data }, { on := 8, ground := Go.Ground.guard }], guard := some (8, false) }) (v := ?v13k) rfl (by kernel_rfl) (by kernel_rfl) (by kernel_rfl) (fun _ _ _ h => h) (Or.inl ⟨by rfl, ?y13k⟩) p0 ?r13k
        case y13k => intro wq hSw; go_simp; try with_reducible rfl
        case' r13k => skip
        try simp only [Act.put, List.setIfInBounds_toArray, List.set_cons_zero, List.set_cons_succ]
        refine wpAnyH_ready (rs := [10]) (by kernel_rfl) (by simp) ?_
        refine AllReadyH.cons (o := { dst := some 51, op := Go.Op.call { callee := Go.Callee.value (Go.Operand.func 12), args := #[Go.Operand.tmp 50], argTypes := #[23] }, type := 3, pos := "law.go:92", after := #[{ on := 9, ground := Go.Ground.data }, { on := 8, ground := Go.Ground.chain }, { on := 8, ground := Go.Ground.guard }], guard := some (8, false) }) rfl (fun K hK => ?_) AllReadyH.nil
        go_simp
        go_wp2_with (go_at_call 12; refine (HLn.out _ _ _ _ H5.out _ (gb_refl _ _)).mono ?_; rintro e w6 ⟨rfl, hw6⟩; have hw6 := hw6.symm; subst hw6)
        refine hK.out _ _ p0 (fun _ => ?_)
        clear hK
        try simp only [Act.put, List.setIfInBounds_toArray, List.set_cons_zero, List.set_cons_succ]
        refine wpAnyH_take (i := 16) (oi := { dst := some 57, op := Go.Op.binOp Go.BinOp.neq 3 (Go.Operand.tmp 51) (Go.Operand.tmp 56) 3, type := 4, pos := "law.go:92", after := #[{ on := 10, ground := Go.Ground.data }, { on := 15, ground := Go.Ground.data }, { on := 8, ground := Go.Ground.guard }], guard := some (8, false) }) (v := ?v14k) rfl (by kernel_rfl) (by kernel_rfl) (by kernel_rfl) (fun _ _ _ h => h) (Or.inl ⟨by rfl, ?y14k⟩) p0 ?r14k
        case y14k => intro wq hSw; go_simp; try with_reducible rfl
        case' r14k => skip
        try simp only [Act.put, List.setIfInBounds_toArray, List.set_cons_zero, List.set_cons_succ]
        refine wpAnyH_take (i := 17) (oi := { dst := some 58, op := Go.Op.pick (Go.Operand.tmp 49) (Go.Operand.const (Go.Value.bool true)) (Go.Operand.tmp 57), type := 4, pos := "law.go:92", after := #[{ on := 8, ground := Go.Ground.data }, { on := 16, ground := Go.Ground.data }], guard := none }) (v := ?v15k) rfl (by kernel_rfl) (by kernel_rfl) (by kernel_rfl) (fun _ _ _ h => h) (Or.inl ⟨by rfl, ?y15k⟩) p0 ?r15k
        case y15k => intro wq hSw; go_simp; try with_reducible rfl
        case' r15k => skip
        try simp only [Act.put, List.setIfInBounds_toArray, List.set_cons_zero, List.set_cons_succ]
        refine wpAnyH_take (i := 18) (oi := { dst := some 59, op := Go.Op.move (Go.Operand.tmp 58), type := 4, pos := "law.go:92", after := #[{ on := 17, ground := Go.Ground.data }, { on := 10, ground := Go.Ground.chain }], guard := none }) (v := ?v16k) rfl (by kernel_rfl) (by kernel_rfl) (by kernel_rfl) (fun _ _ _ h => h) (Or.inl ⟨by rfl, ?y16k⟩) p0 ?r16k
        case y16k => intro wq hSw; go_simp; try with_reducible rfl
        case' r16k => skip
        try simp only [Act.put, List.setIfInBounds_toArray, List.set_cons_zero, List.set_cons_succ]
        refine wpAnyH_take (i := 19) (oi := { dst := some 60, op := Go.Op.move (Go.Operand.tmp 7), type := 23, pos := "law.go:92", after := #[{ on := 18, ground := Go.Ground.guard }], guard := some (18, false) }) (v := ?v17k) rfl (by kernel_rfl) (by kernel_rfl) (by kernel_rfl) (fun _ _ _ h => h) (Or.inl ⟨by rfl, ?y17k⟩) p0 ?r17k
        case y17k => intro wq hSw; go_simp; try with_reducible rfl
        case' r17k => skip
        try simp only [Act.put, List.setIfInBounds_toArray, List.set_cons_zero, List.set_cons_succ]
        refine wpAnyH_take (i := 21) (oi := { dst := some 62, op := Go.Op.move (Go.Operand.tmp 8), type := 25, pos := "law.go:92", after := #[{ on := 18, ground := Go.Ground.guard }], guard := some (18, false) }) (v := ?v18k) rfl (by kernel_rfl) (by kernel_rfl) (by kernel_rfl) (fun _ _ _ h => h) (Or.inl ⟨by rfl, ?y18k⟩) p0 ?r18k
        case y18k => intro wq hSw; go_simp; try with_reducible rfl
        case' r18k => skip
        try simp only [Act.put, List.setIfInBounds_toArray, List.set_cons_zero, List.set_cons_succ]
        refine wpAnyH_take (i := 22) (oi := { dst := some 63, op := Go.Op.nilCheck (Go.Operand.tmp 62), type := 0, pos := "law.go:92", after := #[{ on := 21, ground := Go.Ground.data }, { on := 18, ground := Go.Ground.guard }], guard := some (18, false) }) (v := ?v19k) rfl (by kernel_rfl) (by kernel_rfl) (by kernel_rfl) (fun _ _ _ h => h) (Or.inl ⟨by rfl, ?y19k⟩) p0 ?r19k
        case y19k => intro wq hSw; go_simp; try with_reducible rfl
        case' r19k => skip
        try simp only [Act.put, List.setIfInBounds_toArray, List.set_cons_zero, List.set_cons_succ]
        refine wpAnyH_take (i := 23) (oi := { dst := some 64, op := Go.Op.fieldAddr 40 (Go.Operand.tmp 63) 2, type := 0, pos := "law.go:92", after := #[{ on := 22, ground := Go.Ground.data }, { on := 18, ground := Go.Ground.guard }], guard := some (18, false) }) (v := ?v20k) rfl (by kernel_rfl) (by kernel_rfl) (by kernel_rfl) (fun _ _ _ h => h) (Or.inl ⟨by rfl, ?y20k⟩) p0 ?r20k
        case y20k => intro wq hSw; go_simp; try with_reducible rfl
        case' r20k => skip
        try simp only [Act.put, List.setIfInBounds_toArray, List.set_cons_zero, List.set_cons_succ]
        refine wpAnyH_take (i := 24) (oi := { dst := some 65, op := Go.Op.load 38 (Go.Operand.tmp 64), type := 38, pos := "law.go:92", after := #[{ on := 23, ground := Go.Ground.data }, { on := 18, ground := Go.Ground.guard }], guard := some (18, false) }) (v := ?v21k) rfl (by kernel_rfl) (by kernel_rfl) (by kernel_rfl) (fun _ _ _ h => h) (Or.inl ⟨by rfl, ?y21k⟩) p0 ?r21k
        case y21k => intro wq hSw; go_simp; try with_reducible rfl
        case' r21k => skip
        try simp only [Act.put, List.setIfInBounds_toArray, List.set_cons_zero, List.set_cons_succ]
        refine wpAnyH_ready (rs := [20]) (by kernel_rfl) (by simp) ?_
        refine AllReadyH.cons (o := { dst := some 61, op := Go.Op.call { callee := Go.Callee.value (Go.Operand.func 14), args := #[Go.Operand.tmp 60, Go.Operand.const (Go.Value.int Go.IntKind.i64 0)], argTypes := #[23, 3] }, type := 38, pos := "law.go:92", after := #[{ on := 19, ground := Go.Ground.data }, { on := 18, ground := Go.Ground.chain }, { on := 18, ground := Go.Ground.guard }], guard := some (18, false) }) rfl (fun K hK => ?_) AllReadyH.nil
        go_simp
        go_wp2_with (go_at_call 14; refine (HAl.out _ _ _ _ H5.out _ (gb_refl _ _)).mono ?_; rintro e w7 ⟨a7, n7, c7, rfl, -, p7, H7⟩)
        refine hK.out _ _ p7 (fun _ => ?_)
        clear hK
        try simp only [Act.put, List.setIfInBounds_toArray, List.set_cons_zero, List.set_cons_succ]
        refine wpAnyH_ready (rs := [25]) (by kernel_rfl) (by simp) ?_
        refine AllReadyH.cons (o := { dst := some 66, op := Go.Op.call { callee := Go.Callee.value (Go.Operand.func 13), args := #[Go.Operand.tmp 61, Go.Operand.tmp 65], argTypes := #[38, 38] }, type := 4, pos := "law.go:92", after := #[{ on := 20, ground := Go.Ground.data }, { on := 24, ground := Go.Ground.data }, { on := 20, ground := Go.Ground.chain }, { on := 18, ground := Go.Ground.guard }], guard := some (18, false) }) rfl (fun K hK => ?_) AllReadyH.nil
        go_simp
        go_wp2_with (go_at_call 13; refine (HSm.out _ _ _ _ _ _ _ H7.out _ (gb_refl _ _)).mono ?_; rintro e w8 ⟨rfl, -, H8⟩)
        have p8 := cell_keep p7 H8.out.2
        refine hK.out _ _ p8 (fun _ => ?_)
        clear hK
        try simp only [Act.put, List.setIfInBounds_toArray, List.set_cons_zero, List.set_cons_succ]
        refine wpAnyH_take (i := 26) (oi := { dst := some 67, op := Go.Op.unOp Go.UnOp.not 4 (Go.Operand.tmp 66), type := 4, pos := "law.go:92", after := #[{ on := 25, ground := Go.Ground.data }, { on := 18, ground := Go.Ground.guard }], guard := some (18, false) }) (v := ?v22k) rfl (by kernel_rfl) (by kernel_rfl) (by kernel_rfl) (fun _ _ _ h => h) (Or.inl ⟨by rfl, ?y22k⟩) p8 ?r22k
        case y22k => intro wq hSw; go_simp; try with_reducible rfl
        case' r22k => skip
        try simp only [Act.put, List.setIfInBounds_toArray, List.set_cons_zero, List.set_cons_succ]
        refine wpAnyH_take (i := 27) (oi := { dst := some 68, op := Go.Op.pick (Go.Operand.tmp 59) (Go.Operand.const (Go.Value.bool true)) (Go.Operand.tmp 67), type := 4, pos := "law.go:92", after := #[{ on := 18, ground := Go.Ground.data }, { on := 26, ground := Go.Ground.data }], guard := none }) (v := ?v23k) rfl (by kernel_rfl) (by kernel_rfl) (by kernel_rfl) (fun _ _ _ h => h) (Or.inl ⟨by rfl, ?y23k⟩) p8 ?r23k
        case y23k => intro wq hSw; go_simp; try with_reducible rfl
        case' r23k => skip
        try simp only [Act.put, List.setIfInBounds_toArray, List.set_cons_zero, List.set_cons_succ]
        refine wpAnyH_done (by kernel_rfl) ?_ _
        go_wp2
        go_roundw
        case rel => exact ⟨z + 1, by omega, by go_num, H8.out.1⟩
        case measure => simp [intOf]; omega
      · as_aux_lemma =>
        have hzi : ¬ (z : Int) < (K : Int) := by omega
        obtain ⟨M, hM⟩ := HJ.out
        obtain ⟨a, n, c, p1, p2, p3, p4, p5⟩ := PlQ.of hM
        have HQ := hidJ p1
        have HA1 : Hid (Calls Tryd.prog 14 #[.pointer (some ⟨gx, 0, none⟩), .int .i64 1] wr fun e w' => ∃ a2 n2 c2, e = .returned (.slice a2 n2 c2) ∧ Hid (PlS w gx gr R most a n c a2 n2 c2 true w')) := by
          refine HQ.out.one.mono ?_
          rintro e w' ⟨a2, n2, c2, rfl, p1, p2⟩
          exact ⟨a2, n2, c2, rfl, p1⟩
        clear HJ hM p1 HQ
        have hun : ∀ W, 1 < n → (Instr.slice 38 (.slice a n c) none (some (.int .i64 1)) none).run Tryd.prog W = .ok (.slice a 1 c) W := fun W h => run_headX W a n c 1 (by omega) p3
        by_cases hn1 : 1 < n
        · have hni : (1 : Int) < (n : Int) := by omega
          have hsl := fun W => hun W hn1
          have HS1 : Hid (∀ a2 n2 c2 X, PlS w gx gr R most a n c a2 n2 c2 true X → Calls Tryd.prog 13 #[.slice a2 n2 c2, .slice a 1 c] X fun e w' => e = .returned (.bool true) ∧ Hid (w.grownBy w' none)) := fun a2 n2 c2 X hX => by
            obtain ⟨M, d1, -⟩ := id hX
            refine (hX.sameOne (by omega)).mono ?_
            rintro e w' ⟨rfl, q⟩
            exact ⟨rfl, gb_none d1.gb q⟩
          clear hun
          go_wp2_with fail
          refine HA1.out.mono ?_
          rintro e w4 ⟨a2, n2, c2, rfl, H4⟩
          go_wp2_with fail
          refine (HS1.out _ _ _ _ H4.out).mono ?_
          rintro e w5 ⟨rfl, H5⟩
          go_wp2_with fail
          refine (HK.out _ H5.out).mono ?_
          rintro e w6 ⟨rfl, H6⟩
          go_wp2
          go_ret
          exact ⟨rfl, gb_below H6.out⟩
        · have hni : ¬ (1 : Int) < (n : Int) := by omega
          have HS1 : Hid (∀ a2 n2 c2 X, PlS w gx gr R most a n c a2 n2 c2 true X → Calls Tryd.prog 13 #[.slice a2 n2 c2, .slice a n c] X fun e w' => e = .returned (.bool true) ∧ Hid (w.grownBy w' none)) := fun a2 n2 c2 X hX => by
            obtain ⟨M, d1, -⟩ := id hX
            refine (hX.sameOne (by omega)).mono ?_
            rintro e w' ⟨rfl, q⟩
            exact ⟨rfl, gb_none d1.gb q⟩
          clear hun
          go_wp2_with fail
          refine HA1.out.mono ?_
          rintro e w4 ⟨a2, n2, c2, rfl, H4⟩
          go_wp2_with fail
          refine (HS1.out _ _ _ _ H4.out).mono ?_
          rintro e w5 ⟨rfl, H5⟩
          go_wp2_with fail
          refine (HK.out _ H5.out).mono ?_
          rintro e w6 ⟨rfl, H6⟩
          go_wp2
          go_ret
          exact ⟨rfl, gb_below H6.out⟩
  · have HNw : Hid (Calls Tryd.prog 7 #[.int .i64 R, .int .i64 most] w fun e w' => e = .returned (.pointer none) ∧ Hid (w.grownBy w' none)) := newBad_any w R most hn
    have HNr : Hid (∀ W, w.grownBy W none → Calls Tryd.prog 8 #[.int .i64 R, .int .i64 most] W fun e w' => e = .returned (.pointer none) ∧ Hid (w.grownBy w' none)) := fun W hW => (refNewBad_any W R most hn).mono fun e w' ⟨h1, h2⟩ => ⟨h1, gb_none hW h2⟩
    clear hn
    go_enter Tryd.func3, Tryd.ntmps3
    go_wp2_with fail
    refine HNw.out.mono ?_
    rintro e w1 ⟨rfl, H1⟩
    go_wp2_with fail
    refine (HNr.out _ H1.out).mono ?_
    rintro e w2 ⟨rfl, H2⟩
    go_wp2_with fail
    refine (HK.out _ H2.out).mono ?_
    rintro e w4 ⟨rfl, H4⟩
    go_wp2
    go_ret
    exact ⟨rfl, gb_below H4.out⟩
end Go.Proofs.YtmgbcmogdjhacaaDoor
