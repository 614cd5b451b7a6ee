/-
  AlertsPlays: a step of both: the walk.
-/
import Derived.Test.YtmgbcmogdjhacaaDoorVI
namespace Go.Proofs.YtmgbcmogdjhacaaDoor
open Go.RowKit Go.Shelf Go.Sort Go.Maps Go.WideMaps

/-- a step that puts: behind what it makes -/
structure StE (w : World) (b5 hi gx gr : Nat) (R most : Int) (M Mr : List AlR) (op : Obj) (xa : Option Addr) (n xc : Nat) (st en : Int) (X : World) : Prop where
  du : DuA w gx gr R most M Mr b5 hi X
  lo : w.heap.size ≤ b5
  op_ : X.heap[b5]? = some op
  a : B3 X (b5 + 1) 34 (.slice xa n xc) (.int .i64 st) (.int .i64 en)
  sh : ShL X (b5 + 2) (.slice xa n xc)
  top : ∀ k, (Value.slice xa n xc).ownBlock = some k → b5 + 2 ≤ k ∧ k < hi
  two : b5 + 2 ≤ hi
theorem ShL.via {W W' : World} {b : Nat} {v : Value} (h : ShL W b v) (hk : ∀ k, v.ownBlock = some k → W'.heap[k]? = W.heap[k]?) : ShL W' b v := by
  obtain ⟨a, n, c, rfl, h1, h2, h3⟩ := h
  refine ⟨a, n, c, rfl, h1, h2, ?_⟩
  rcases h3 with h3 | ⟨g, cur, rfl, q1, q2, q3⟩
  · exact .inl h3
  · exact .inr ⟨g, cur, rfl, q1, (hk g rfl).trans q2, q3⟩
theorem StE.turn {w X w' : World} {b5 hi gx gr n xc : Nat} {R most st en : Int} {M Mr M' : List AlR} {op : Obj} {xa : Option Addr} (h : StE w b5 hi gx gr R most M Mr op xa n xc st en X) (q1 : DuA w gx gr R most M' Mr b5 hi w') (q2 : ∀ k, b5 ≤ k → k < hi → w'.heap[k]? = X.heap[k]?) : StE w b5 hi gx gr R most M' Mr op xa n xc st en w' where
  du := q1
  lo := h.lo
  op_ := (q2 _ (Nat.le_refl _) (by have := h.two; omega)).trans h.op_
  a := (q2 _ (by omega) (by have := h.two; omega)).trans h.a
  sh := h.sh.via (fun k hk => q2 k (by have := (h.top k hk).1; omega) (h.top k hk).2)
  top := h.top
  two := h.two
theorem StE.keep {w X w' : World} {b5 hi gx gr n xc : Nat} {R most st en : Int} {M Mr : List AlR} {op : Obj} {xa : Option Addr} (h : StE w b5 hi gx gr R most M Mr op xa n xc st en X) (hg : X.grownBy w' none) : StE w b5 hi gx gr R most M Mr op xa n xc st en w' := by
  have hz : hi ≤ X.heap.size := by obtain ⟨S, T, -, -, -, -, -, -, h7, -⟩ := h.du; exact h7
  exact h.turn (h.du.keep hg) (fun k _ hk => hg.block k (by omega) (by simp))
/-- a label written over -/
theorem StE.over {w X : World} {b5 hi gx gr n xc : Nat} {R most st en : Int} {M Mr : List AlR} {op : Obj} {g1 o1 : Nat} (h : StE w b5 hi gx gr R most M Mr op (some ⟨g1, o1, none⟩) n xc st en X) {cs : Array Value} (hb : X.heap[g1]? = some (.cells cs 63 (0, 0))) (j : Nat) (x : Value) : StE w b5 hi gx gr R most M Mr op (some ⟨g1, o1, none⟩) n xc st en (X.setCell ⟨g1, j, none⟩ x) := by
  have ht := h.top g1 rfl
  have hc := set_ch X g1 j x
  refine ⟨h.du.free h.lo (hc.mono (fun k _ e => by have e' : k = g1 := e; omega)), h.lo, (hc.block (some_lt2 h.op_) (by omega)).trans h.op_, h.a.ch hc (by omega), h.sh.set hb x, h.top, h.two⟩
set_option maxRecDepth 8000 in
set_option maxHeartbeats 12800000 in
theorem step_any (w W : World) (gx gr : Nat) (R most : Int) (M : List AlR) (hD : DuA w gx gr R most M M 0 0 W) (hT : U8S w) (hR : 1 ≤ R ∧ R ≤ 1099511627776) (kd nw kp st en : Int) (lx : Option Addr) (ln ld : Nat) (ls : List LbT) (hu : RdL w (.slice lx ln ld) ls) (hl : LbIn ls) (hlm : ls.length ≤ 4398046511104) :
    Calls Tryd.prog 11 #[.pointer (some ⟨gx, 0, none⟩), .pointer (some ⟨gr, 0, none⟩), .agg #[.int .i64 kd, .int .i64 nw, .int .i64 kp, .slice lx ln ld, .int .i64 st, .int .i64 en]] W fun e w' => e = .returned (.bool true) ∧ ∃ M', DuA w gx gr R most M' M' 0 0 w' := by
  have HT := hidJ hT
  have HU := hidJ (And.intro hu hl)
  have hok := hD.ok
  have HOK := hidJ hok
  have hN5 : M.length ≤ 500 := by have := hok.2.2.2.1; have := hok.2.2.2.2; omega
  have HN5 := hidJ hN5
  have HD := hidJ hD
  have HLm : Hid (ls.length ≤ 4398046511104) := hlm
  clear hD hT hu hl hok hN5 hlm
  by_cases k0 : kd = 0
  · subst k0
    go_enter Tryd.func11, Tryd.ntmps11
    go_wp2_with fail
    have HX0 : Hid (∀ C0 C1, C0 = opC 0 nw kp (.slice lx ln ld) st en → C1 = Obj.cells #[.slice lx ln ld, .int .i64 st, .int .i64 en] 34 → Calls Tryd.prog 27 #[.slice lx ln ld] ((W.alloc C0).alloc C1) fun e w' => ∃ xa xc, e = .returned (.slice xa ln xc) ∧ w'.cell? ⟨W.heap.size + 1, 0, none⟩ = some (.slice lx ln ld) ∧ w'.frozen? ⟨W.heap.size + 1, 0, none⟩ = false ∧ Hid (∀ X, X = w'.setCell ⟨W.heap.size + 1, 0, none⟩ (.slice xa ln xc) → StE w W.heap.size X.heap.size gx gr R most M M (opC 0 nw kp (.slice lx ln ld) st en) xa ln xc st en X ∧ RdL X (.slice xa ln xc) ls)) := by
      rintro C0 C1 rfl rfl
      have g1 := World.grownBy_alloc W (opC 0 nw kp (.slice lx ln ld) st en) none
      have g2 := World.grownBy_alloc (W.alloc (opC 0 nw kp (.slice lx ln ld) st en)) (.cells #[.slice lx ln ld, .int .i64 st, .int .i64 en] 34) none
      have g3 := gb_none g1 g2
      have hb5 := Go.heap_alloc_new W (opC 0 nw kp (.slice lx ln ld) st en)
      have hb7 := B3.new (W.alloc (opC 0 nw kp (.slice lx ln ld) st en)) 34 (.slice lx ln ld) (.int .i64 st) (.int .i64 en)
      rw [World.size_alloc] at hb7
      have hz : ((W.alloc (opC 0 nw kp (.slice lx ln ld) st en)).alloc (.cells #[.slice lx ln ld, .int .i64 st, .int .i64 en] 34)).heap.size = W.heap.size + 2 := by rw [World.size_alloc, World.size_alloc]
      have hll : ls.length = ln := by
        obtain ⟨a, c, e, -⟩ := HU.out.1
        simp only [Value.slice.injEq] at e
        exact e.2.1.symm
      refine (refOwn_any _ _ ls (HU.out.1.keep (gb_none HD.out.gb g3)) ?_).mono ?_
      · have := HLm.out
        omega
      · rintro e w' ⟨v', rfl, q1, q2⟩
        rw [hz] at q1
        obtain ⟨xa, xc, e⟩ := q1.shape
        rw [hll] at e
        subst e
        have b7 := hb7.keep q2
        refine ⟨xa, xc, rfl, b7.cells.1, b7.cells.2.2.2.1, ?_⟩
        rintro X rfl
        have hc := set_ch w' (W.heap.size + 1) 0 (.slice xa ln xc)
        have gX := gb_ch (gb_none g3 q2) hc (fun k e => by have e' : k = W.heap.size + 1 := e; omega)
        have o2 : OwnL (w'.setCell ⟨W.heap.size + 1, 0, none⟩ (.slice xa ln xc)) (W.heap.size + 2) (.slice xa ln xc) ls := row_ch q1 hc (fun k hk e => by have e' : k = W.heap.size + 1 := e; have := (q1.lt k hk).1; omega)
        have c5 : w'.heap[W.heap.size]? = some (opC 0 nw kp (.slice lx ln ld) st en) := ((gb_none g2 q2).block _ (some_lt2 hb5) (by simp)).trans hb5
        refine ⟨⟨HD.out.wide gX, HD.out.gb.size, ?_, ?_, o2.shl, fun k hk => o2.lt k hk, by rw [show (w'.setCell ⟨W.heap.size + 1, 0, none⟩ (.slice xa ln xc)).heap.size = w'.heap.size by simp]; have := q2.size; omega⟩, o2.rd⟩
        · exact (hc.block (some_lt2 c5) (by omega)).trans c5
        · have q := Go.heap_setCell_same w' (W.heap.size + 1) 0 _ _ (.slice xa ln xc) b7
          unfold B3
          simpa using q
    refine (HX0.out _ _ rfl rfl).mono ?_
    rintro e w1 ⟨xa, xc, rfl, d0, d1, HXs⟩
    clear HX0
    obtain ⟨X1, hX1⟩ : ∃ X1, X1 = w1.setCell ⟨W.heap.size + 1, 0, none⟩ (.slice xa ln xc) := ⟨_, rfl⟩
    have HS1 := hidJ (HXs.out X1 hX1)
    have HX1 := hidJ hX1
    clear HXs hX1
    obtain ⟨hi, hhi⟩ : ∃ hi, X1.heap.size = hi := ⟨_, rfl⟩
    rw [hhi] at HS1
    clear hhi
    obtain ⟨pe, hpe⟩ : ∃ pe, putE R most nw ⟨ls, st, en⟩ M = pe := ⟨_, rfl⟩
    obtain ⟨MP, hMP⟩ : ∃ MP, putM R most nw ⟨ls, st, en⟩ M = MP := ⟨_, rfl⟩
    have HP1 : Hid (Calls Tryd.prog 17 #[.pointer (some ⟨gx, 0, none⟩), .int .i64 nw, .agg #[.slice xa ln xc, .int .i64 st, .int .i64 en]] X1 fun e w' => e = .returned (.int .i64 pe) ∧ Hid (StE w W.heap.size hi gx gr R most MP M (opC 0 nw kp (.slice lx ln ld) st en) xa ln xc st en w' ∧ RdL w' (.slice xa ln xc) ls)) := by
      refine (HS1.out.1.du.put1 HT.out nw st en HS1.out.2 HU.out.2).mono ?_
      rintro e w' ⟨rfl, q1, q2⟩
      rw [hpe]
      rw [hMP] at q1
      refine ⟨rfl, HS1.out.1.turn q1 q2, HS1.out.2.via (fun k hk hk2 => ?_)⟩
      exact q2 k (by have := (HS1.out.1.top k hk).1; omega) (HS1.out.1.top k hk).2
    have HP2 : Hid (∀ X, StE w W.heap.size hi gx gr R most MP M (opC 0 nw kp (.slice lx ln ld) st en) xa ln xc st en X → Calls Tryd.prog 28 #[.pointer (some ⟨gr, 0, none⟩), .int .i64 nw, .agg #[.slice lx ln ld, .int .i64 st, .int .i64 en]] X fun e w' => e = .returned (.int .i64 pe) ∧ Hid (∃ M', DuA w gx gr R most M' M' 0 0 w')) := fun X hX => by
      refine (hX.du.put2 HOK.out hR nw st en (HU.out.1.keep hX.du.gb) HU.out.2).mono ?_
      rintro e w' ⟨rfl, q1⟩
      rw [hMP] at q1
      rw [hpe]
      exact ⟨rfl, MP, q1.less⟩
    clear hpe hMP
    generalize W.heap.size = b5 at *
    have HC1 := hidJ (HS1.out.1)
    obtain ⟨e0, e1, e2, e3, e4, e5⟩ := opCells HC1.out.op_
    obtain ⟨i0, i1, i2, -⟩ := HC1.out.a.cells
    rw [HX1.out] at HP1 e0 e1 e2 e3 e4 e5 i0 i1 i2
    go_wp2_with fail
    refine HP1.out.mono ?_
    rintro e w2 ⟨rfl, H2⟩
    clear HP1 HS1 HX1 HC1 e0 e1 e2 e3 e4 e5 i0 i1 i2 d0 d1
    obtain ⟨e0, e1, e2, e3, e4, e5⟩ := opCells H2.out.1.op_
    obtain ⟨i0, i1, i2, -⟩ := H2.out.1.a.cells
    have HSm : Hid (Calls Tryd.prog 19 #[.slice xa ln xc, .slice lx ln ld] w2 fun e w' => e = .returned (.bool true) ∧ Hid (StE w b5 hi gx gr R most MP M (opC 0 nw kp (.slice lx ln ld) st en) xa ln xc st en w')) := by
      refine (refSameL_any w2 _ _ ls ls H2.out.2 (HU.out.1.keep H2.out.1.du.gb)).mono ?_
      rintro e w' ⟨rfl, q⟩
      exact ⟨by simp, H2.out.1.keep q⟩
    go_wp2_with fail
    refine HSm.out.mono ?_
    rintro e w3 ⟨rfl, H3⟩
    clear HSm H2 e0 e1 e2 e3 e4 e5 i0 i1 i2
    go_wp2_with fail
    go_loopw [10] (fun i wr => ∃ y : Nat, y ≤ ln ∧ i = .int .i64 y ∧ Hid (StE w b5 hi gx gr R most MP M (opC 0 nw kp (.slice lx ln ld) st en) xa ln xc st en wr)) (fun i _ => ln - (intOf i).toNat)
    case atStart => exact ⟨0, by omega, rfl, H3.out⟩
    case round =>
      obtain ⟨y, hy, rfl, HK⟩ := hrel
      clear H3
      obtain ⟨i0, i1, i2, -⟩ := HK.out.a.cells
      by_cases hyl : y < ln
      · have hyi : (y : Int) < (ln : Int) := by omega
        obtain ⟨a', n', c', e1, hnc, hcm, h3⟩ := HK.out.sh
        simp only [Value.slice.injEq] at e1
        obtain ⟨rfl, rfl, rfl⟩ := e1
        obtain ⟨g1, cs, rfl, hbg, hcs, hsz⟩ : ∃ g1 cs, xa = some ⟨g1, 0, none⟩ ∧ b5 + 2 ≤ g1 ∧ wr.heap[g1]? = some (.cells cs 63 (0, 0)) ∧ ln * 2 ≤ cs.size := by
          rcases h3 with e | e
          · omega
          · exact e
        obtain ⟨u2, c2⟩ : ∃ u2, wr.cell? ⟨g1, y * 2 + 1, none⟩ = some u2 := ⟨cs[y * 2 + 1]'(by omega), by simp [World.cell?, hcs, show y * 2 + 1 < cs.size by omega]⟩
        have f2 : wr.frozen? ⟨g1, y * 2 + 1, none⟩ = false := by simp [World.frozen?, hcs]
        have HNx : Hid (∀ x, StE w b5 hi gx gr R most MP M (opC 0 nw kp (.slice lx ln ld) st en) (some ⟨g1, 0, none⟩) ln xc st en (wr.setCell ⟨g1, y * 2 + 1, none⟩ x)) := fun x => HK.out.over hcs _ x
        clear HK hcs hsz h3
        go_wp2
        go_roundw
        case rel => exact ⟨y + 1, by omega, by go_num, HNx.out _⟩
        case measure => simp [intOf]; omega
      · have hyi : ¬ (y : Int) < (ln : Int) := by omega
        obtain ⟨e0, e1, e2, e3, e4, e5⟩ := opCells HK.out.op_
        go_wp2_with fail
        refine (HP2.out _ HK.out).mono ?_
        rintro e w5 ⟨rfl, H5⟩
        clear HP2 HK
        go_wp2
        go_ret
        exact ⟨by simp, H5.out⟩
  · have k0b : (kd == 0) = false := by rw [beq_eq_false_iff_ne]; exact k0
    by_cases k1 : kd = 1
    · subst k1
      go_enter Tryd.func11, Tryd.ntmps11
      go_wp2_with fail
      obtain ⟨sn, hsn⟩ : ∃ sn, swN nw kp M = sn := ⟨_, rfl⟩
      obtain ⟨se, hse⟩ : ∃ se, swE nw kp = se := ⟨_, rfl⟩
      obtain ⟨MS, hMS⟩ : ∃ MS, swL nw kp M = MS := ⟨_, rfl⟩
      have HS1 : Hid (∀ C0, C0 = opC 1 nw kp (.slice lx ln ld) st en → Calls Tryd.prog 15 #[.pointer (some ⟨gx, 0, none⟩), .int .i64 nw, .int .i64 kp] (W.alloc C0) fun e w' => e = .returned (.tuple #[.int .i64 sn, .int .i64 se]) ∧ Hid (DuA w gx gr R most MS M W.heap.size (W.heap.size + 1) w' ∧ w'.heap[W.heap.size]? = some (opC 1 nw kp (.slice lx ln ld) st en))) := by
        rintro C0 rfl
        have g1 := World.grownBy_alloc W (opC 1 nw kp (.slice lx ln ld) st en) none
        have hd := HD.out.wide g1
        rw [World.size_alloc] at hd
        refine (hd.sweep1 nw kp).mono ?_
        rintro e w' ⟨rfl, q1, q2⟩
        rw [hsn, hse]
        rw [hMS] at q1
        exact ⟨rfl, q1, (q2 _ (Nat.le_refl _) (by omega)).trans (Go.heap_alloc_new W _)⟩
      have HS2 : Hid (∀ X, DuA w gx gr R most MS M W.heap.size (W.heap.size + 1) X → Calls Tryd.prog 29 #[.pointer (some ⟨gr, 0, none⟩), .int .i64 nw, .int .i64 kp] X fun e w' => e = .returned (.tuple #[.int .i64 sn, .int .i64 se]) ∧ Hid (∃ M', DuA w gx gr R most M' M' 0 0 w')) := fun X hX => by
        refine (hX.sweep2 HN5.out nw kp).mono ?_
        rintro e w' ⟨rfl, q1⟩
        rw [hsn, hse]
        rw [hMS] at q1
        exact ⟨rfl, MS, q1.less⟩
      clear hsn hse hMS
      refine (HS1.out _ rfl).mono ?_
      rintro e w1 ⟨rfl, H1⟩
      clear HS1
      obtain ⟨d0, d1, d2, -⟩ := opCells H1.out.2
      go_wp2_with fail
      refine (HS2.out _ H1.out.1).mono ?_
      rintro e w2 ⟨rfl, H2⟩
      clear HS2 H1 d0 d1 d2
      go_wp2
      go_ret
      exact ⟨rfl, H2.out⟩
    · have k1b : (kd == 1) = false := by rw [beq_eq_false_iff_ne]; exact k1
      by_cases k2 : kd = 2
      · subst k2
        go_enter Tryd.func11, Tryd.ntmps11
        go_wp2_with fail
        obtain ⟨GA, hGA⟩ : ∃ GA, getA M ls = GA := ⟨_, rfl⟩
        obtain ⟨fb, hfb⟩ : ∃ fb, (findA M ls).isSome = fb := ⟨_, rfl⟩
        obtain ⟨k, hk⟩ : ∃ k, (ltA M ls).length = k := ⟨_, rfl⟩
        have HGf : Hid (fb = false → GA = alZ) := by
          intro e
          rw [← hGA]
          unfold getA
          cases hf : findA M ls with
          | none => rfl
          | some o => rw [hf] at hfb; rw [e] at hfb; cases hfb
        have HGt : Hid (fb = true → k < M.length ∧ M.getD k alZ = GA) := by
          intro e
          have hatf := at_found HOK.out.1 ls
          rw [hfb, hk, e] at hatf
          have hb := hatf.symm
          rw [Bool.and_eq_true, decide_eq_true_eq, decide_eq_true_eq] at hb
          refine ⟨hb.1, ?_⟩
          have huq := findA_mem HOK.out.1 (getA_mem hb.1)
          rw [hb.2] at huq
          rw [← hGA]
          unfold getA
          rw [huq]
          rfl
        have HG1 : Hid (∀ C0, C0 = opC 2 nw kp (.slice lx ln ld) st en → Calls Tryd.prog 16 #[.pointer (some ⟨gx, 0, none⟩), .slice lx ln ld] (W.alloc C0) fun e w' => ∃ x n d, e = .returned (.tuple #[.agg #[.slice x n d, .int .i64 GA.st, .int .i64 GA.en], .bool fb]) ∧ Hid (n = GA.lbs.length ∧ OwnL w' W.heap.size (.slice x n d) GA.lbs ∧ W.grownBy w' none ∧ w'.heap[W.heap.size]? = some (opC 2 nw kp (.slice lx ln ld) st en))) := by
          rintro C0 rfl
          have g1 := World.grownBy_alloc W (opC 2 nw kp (.slice lx ln ld) st en) none
          have h0 := (HD.out.keep g1).get HT.out (HU.out.1.keep (gb_none HD.out.gb g1)) HU.out.2
          rw [hGA, hfb] at h0
          refine h0.mono ?_
          rintro e w' ⟨x, n, d, rfl, q1, q2, q3⟩
          exact ⟨x, n, d, rfl, q1, q2.mono g1.size, gb_none g1 q3, (q3.block _ (by rw [World.size_alloc]; omega) (by simp)).trans (Go.heap_alloc_new W _)⟩
        have HAt : Hid (∀ X a c, W.grownBy X none → RdX X (.slice a M.length c) M → Calls Tryd.prog 30 #[.slice a M.length c, .slice lx ln ld] X fun e w' => e = .returned (.tuple #[.int .i64 (k : Int), .bool fb]) ∧ X.grownBy w' none) := fun X a c hX hr => by
          have h0 := refAt_any X (.slice a M.length c) (.slice lx ln ld) M ls HOK.out.1 hr (HU.out.1.keep (gb_none HD.out.gb hX))
          rw [hfb, hk] at h0
          exact h0
        obtain ⟨⟨gl, gs, ge⟩, hG⟩ : ∃ G, GA = G := ⟨_, rfl⟩
        subst hG
        clear hGA hfb hk
        dsimp only at HG1
        refine (HG1.out _ rfl).mono ?_
        rintro e w1 ⟨x1, n1, d1, rfl, H1⟩
        clear HG1
        obtain ⟨X, hX⟩ : ∃ X, X = w1.alloc (.cells #[.slice x1 n1 d1, .int .i64 gs, .int .i64 ge] 34) := ⟨_, rfl⟩
        obtain ⟨b15, hb15⟩ : ∃ b, b = w1.heap.size := ⟨_, rfl⟩
        have HX : Hid (n1 = gl.length ∧ OwnL X W.heap.size (.slice x1 n1 d1) gl ∧ W.grownBy X none ∧ X.heap[W.heap.size]? = some (opC 2 nw kp (.slice lx ln ld) st en) ∧ B3 X b15 34 (.slice x1 n1 d1) (.int .i64 gs) (.int .i64 ge)) := by
          obtain ⟨q1, q2, q3, q4⟩ := H1.out
          have g := World.grownBy_alloc w1 (.cells #[.slice x1 n1 d1, .int .i64 gs, .int .i64 ge] 34) none
          rw [hX, hb15]
          exact ⟨q1, q2.keep g, gb_none q3 g, (g.block _ (some_lt2 q4) (by simp)).trans q4, B3.new w1 _ _ _ _⟩
        clear H1
        obtain ⟨ra, rc, hr0, hr1, hr2, hr3, hr4⟩ := (HD.out.keep HX.out.2.2.1).box
        obtain ⟨N, hN⟩ : ∃ N, M.length = N := ⟨_, rfl⟩
        have HR := hidJ (And.intro hr3 hr4)
        have HA2 : Hid (∀ Y, X.grownBy Y none → Calls Tryd.prog 30 #[.slice ra N rc, .slice lx ln ld] Y fun e w' => e = .returned (.tuple #[.int .i64 (k : Int), .bool fb]) ∧ w'.cell? ⟨gr, 2, none⟩ = some (.slice ra N rc) ∧ w'.cell? ⟨W.heap.size, 3, none⟩ = some (.slice lx ln ld) ∧ Hid (X.grownBy w' none)) := fun Y hY => by
          have h0 := HAt.out Y ra rc (gb_none HX.out.2.2.1 hY) (HR.out.1.keep hY)
          rw [hN] at h0
          refine h0.mono ?_
          rintro e w' ⟨rfl, q⟩
          have g := gb_none hY q
          rw [← hN]
          exact ⟨rfl, HR.out.2 _ g, (opCells ((g.block _ (some_lt2 HX.out.2.2.2.1) (by simp)).trans HX.out.2.2.2.1)).2.2.2.1, g⟩
        rw [hN] at hr0 hr1 HR HN5 HGt
        have HNM := hidJ hN
        clear hr3 hr4 hN HAt
        obtain ⟨o0, o1, o2, o3, -⟩ := opCells HX.out.2.2.2.1
        rw [hX] at hr0 o0 o1 o2 o3
        go_wp2_with fail
        rw [← hX] at hr0 o0 o1 o2 o3
        rw [← hX]
        rw [← hb15]
        have HB15 := hidJ hb15
        clear hX hb15
        go_region_held3 (fun w' => w'.cell? ⟨gr, 2, none⟩ = some (.slice ra N rc) ∧ w'.cell? ⟨W.heap.size, 3, none⟩ = some (.slice lx ln ld)) (go_keep) (first | (go_at_call 30; with_reducible refine (HA2.out _ ?_).mono ?_; (first | exact gb_refl _ _ | exact gb_drew _ none); rintro e w4 ⟨rfl, p0, p1, H4⟩))
        clear HA2 o0 o1 o2 o3 hr0
        cases fb with
        | false =>
          have hz := HGf.out rfl
          injection hz with z1 z2 z3
          subst z1 z2 z3
          have hn1 := HX.out.1
          simp only [List.length_nil] at hn1
          subst hn1
          obtain ⟨i0, i1, i2, -⟩ := (HX.out.2.2.2.2.keep H4.out).cells
          clear HGt HGf
          go_wp2
          go_ret
          exact ⟨rfl, M, HD.out.keep (gb_none HX.out.2.2.1 H4.out)⟩
        | true =>
          obtain ⟨hkN, hgk⟩ := HGt.out rfl
          obtain ⟨i0, i1, i2, -⟩ := (HX.out.2.2.2.2.keep H4.out).cells
          obtain ⟨rg, ro, hra⟩ : ∃ rg ro, ra = some ⟨rg, ro, none⟩ := by
            obtain ⟨a', c', e1, -, -, k1⟩ := HR.out.1
            simp only [Value.slice.injEq] at e1
            obtain ⟨rfl, -, rfl⟩ := e1
            obtain ⟨b1, o1, u1, e, -⟩ := k1 k (by rw [HNM.out]; exact hkN)
            exact ⟨b1, o1, e⟩
          subst hra
          have HRS : Hid (∀ Y a cc, X.grownBy Y none ∧ Y.heap[a]? = some (.cells #[.slice x1 n1 d1, .int .i64 gs, .int .i64 ge] 34 (0, 0)) ∧ 1 ≤ cc ∧ cc ≤ 9223372036854775807 → Calls Tryd.prog 13 #[.slice (some ⟨a, 0, none⟩) 1 1, .slice (some ⟨rg, ro + k * 3, none⟩) 1 cc] Y fun e w' => e = .returned (.bool true) ∧ w'.cell? ⟨gr, 2, none⟩ = some (.slice (some ⟨rg, ro, none⟩) N rc) ∧ w'.cell? ⟨b15, 0, none⟩ = some (.slice x1 n1 d1) ∧ w'.cell? ⟨b15, 1, none⟩ = some (.int .i64 gs) ∧ w'.cell? ⟨b15, 2, none⟩ = some (.int .i64 ge) ∧ Hid (X.grownBy w' none)) := by
            rintro Y a cc ⟨hY, hb, hc3, hc4⟩
            have d0 : Y.cell? ⟨a, 0, none⟩ = some (.slice x1 n1 d1) := by simp [World.cell?, hb]
            have d1' : Y.cell? ⟨a, 1, none⟩ = some (.int .i64 gs) := by simp [World.cell?, hb]
            have d2 : Y.cell? ⟨a, 2, none⟩ = some (.int .i64 ge) := by simp [World.cell?, hb]
            obtain ⟨a', c', e1, -, -, k1⟩ := HR.out.1.keep hY
            simp only [Value.slice.injEq] at e1
            obtain ⟨rfl, -, rfl⟩ := e1
            obtain ⟨b1, o1, u1, e2, f0, f1, f2, f3⟩ := k1 k (by rw [HNM.out]; exact hkN)
            simp only [Option.some.injEq, Addr.mk.injEq, and_true] at e2
            obtain ⟨rfl, rfl⟩ := e2
            rw [hgk] at f1 f2 f3
            refine (refSameA_any Y _ _ [⟨gl, gs, ge⟩] ⟨_, _, rfl, Nat.le_refl _, by show 1 ≤ maxLen; unfold maxLen; omega, fun j hj => ?_⟩ ⟨_, _, rfl, hc3, by unfold maxLen; omega, fun j hj => ?_⟩).mono ?_
            · have hj0 : j = 0 := by simp at hj; exact hj
              subst hj0
              exact ⟨a, 0, _, rfl, d0, d1', d2, (HX.out.2.1.keep hY).rd⟩
            · have hj0 : j = 0 := by simp at hj; exact hj
              subst hj0
              exact ⟨rg, ro + k * 3, _, rfl, f0, f1, f2, f3⟩
            · rintro e w' ⟨rfl, g⟩
              have g' := gb_none hY g
              obtain ⟨j0, j1, j2, -⟩ := (HX.out.2.2.2.2.keep g').cells
              have j4 := HR.out.2 _ g'
              exact ⟨rfl, j4, j0, j1, j2, g'⟩
          have HSp : Hid (∀ Y, X.grownBy Y none → ∀ C, C = Obj.cells #[.slice x1 n1 d1, .int .i64 gs, .int .i64 ge] 34 → Calls Tryd.prog 31 #[.slice (some ⟨Y.heap.size, 0, none⟩) 1 1] (Y.alloc C) fun e w' => e = .returned (.tuple #[]) ∧ Hid (∃ M', DuA w gx gr R most M' M' 0 0 w')) := by
            rintro Y hY C rfl
            have g := World.grownBy_alloc Y (.cells #[.slice x1 n1 d1, .int .i64 gs, .int .i64 ge] 34) none
            have gW := gb_none HX.out.2.2.1 hY
            have hsh : ShA (Y.alloc (.cells #[.slice x1 n1 d1, .int .i64 gs, .int .i64 ge] 34)) W.heap.size Y.heap.size 1 0 #[.slice x1 n1 d1, .int .i64 gs, .int .i64 ge] := ⟨Go.heap_alloc_new Y _, by simp, gW.size, fun j _ hj => ⟨.slice x1 n1 d1, (by rw [show j = 0 by omega]; rfl), ((HX.out.2.1.keep hY).keep g).shl⟩⟩
            refine (refSpoil_in _ W.heap.size Y.heap.size 1 1 _ hsh (Nat.le_refl _) (by omega)).mono ?_
            rintro e w' ⟨rfl, q⟩
            exact ⟨rfl, M, HD.out.keep (gb_ch (gb_none gW g) q (fun k e => e))⟩
          have hki : (k : Int) < (N : Int) := by omega
          obtain ⟨k1, hk1⟩ : ∃ k1, k1 = k + 1 := ⟨_, rfl⟩
          have hwk : IntKind.i64.wrap ((k : Int) + 1) = (k1 : Int) := by rw [wrapI (by omega) (by have := HN5.out; omega)]; omega
          have hsr : ∀ Y, (Instr.slice 38 (.slice (some ⟨rg, ro, none⟩) N rc) (some (.int .i64 (k : Int))) (some (.int .i64 (k1 : Int))) none).run Tryd.prog Y = .ok (.slice (some ⟨rg, ro + k * 3, none⟩) 1 (rc - k)) Y := fun Y => run_oneX Y rg ro N rc k k1 hkN hr1 hk1
          have hcc1 : 1 ≤ rc - k := by omega
          have hcc2 : rc - k ≤ 9223372036854775807 := by omega
          have HNw : Hid (∀ C, (w4.alloc C).drew.heap[w4.heap.size]? = some C) := fun C => Go.heap_alloc_new w4 C
          have HNv : Hid (∀ C, (w4.alloc C).heap[w4.heap.size]? = some C) := fun C => Go.heap_alloc_new w4 C
          clear HGt HGf hgk hk1 HR
          go_wp2_with fail
          go_region_held3 (fun w' => w'.cell? ⟨gr, 2, none⟩ = some (.slice (some ⟨rg, ro, none⟩) N rc) ∧ w'.cell? ⟨b15, 0, none⟩ = some (.slice x1 n1 d1) ∧ w'.cell? ⟨b15, 1, none⟩ = some (.int .i64 gs) ∧ w'.cell? ⟨b15, 2, none⟩ = some (.int .i64 ge)) (go_keep)
            (first | (go_at_call 13; with_reducible refine (HRS.out _ _ _ ⟨?_, ?_, ?_, ?_⟩).mono ?_; (first | exact gb_none H4.out (World.grownBy_alloc _ _ none) | exact gb_none H4.out (gb_none (World.grownBy_alloc _ _ none) (gb_drew _ none)) | exact gb_none H4.out (gb_none (gb_drew _ none) (World.grownBy_alloc _ _ none))); (first | exact HNw.out _ | exact HNv.out _); exact hcc1; exact hcc2; rintro e w9 ⟨rfl, i0, i1, i2, i3, H9⟩))
          all_goals
            clear HRS
            go_wp2_with fail
            refine (HSp.out _ H9.out _ rfl).mono ?_
            rintro e w10 ⟨rfl, H10⟩
            go_wp2
            go_ret
            exact ⟨rfl, H10.out⟩
      · have k2b : (kd == 2) = false := by rw [beq_eq_false_iff_ne]; exact k2
        go_enter Tryd.func11, Tryd.ntmps11
        go_wp2_with fail
        obtain ⟨FM, hFM⟩ : ∃ FM, fireM nw M = FM := ⟨_, rfl⟩
        have HF1 : Hid (∀ C0, C0 = opC kd nw kp (.slice lx ln ld) st en → Calls Tryd.prog 21 #[.pointer (some ⟨gx, 0, none⟩), .int .i64 nw] (W.alloc C0) fun e w' => ∃ a n c, e = .returned (.slice a n c) ∧ Hid (∃ l, n = l.length ∧ OwnX w' W.heap.size (.slice a n c) l ∧ l.map (·.2) = FM ∧ (∀ x ∈ l, OwnL w' W.heap.size x.1 x.2.lbs) ∧ W.grownBy w' none ∧ w'.heap[W.heap.size]? = some (opC kd nw kp (.slice lx ln ld) st en))) := by
          rintro C0 rfl
          have g1 := World.grownBy_alloc W (opC kd nw kp (.slice lx ln ld) st en) none
          refine ((HD.out.keep g1).fire1 nw).mono ?_
          rintro e w' ⟨a, c, l, rfl, q1, q2, q3, q4⟩
          rw [hFM] at q2
          have hz := g1.size
          exact ⟨a, _, c, rfl, l, rfl, q1.mono hz, q2, fun x hx => (q3 x hx).mono hz, gb_none g1 q4, (q4.block _ (by rw [World.size_alloc]; omega) (by simp)).trans (Go.heap_alloc_new W _)⟩
        refine (HF1.out _ rfl).mono ?_
        rintro e w1 ⟨fa, fn, fc, rfl, H1⟩
        clear HF1
        obtain ⟨l, hfn, o1, o2, o3, g1, hop⟩ := H1.out
        obtain ⟨d0, d1, d2, -⟩ := opCells hop
        have HL := hidJ (And.intro hfn (And.intro o1 (And.intro o2 (And.intro o3 g1))))
        clear H1 hfn o1 o2 o3 g1 hop
        have HF2 : Hid (Calls Tryd.prog 32 #[.pointer (some ⟨gr, 0, none⟩), .int .i64 nw] w1 fun e w' => ∃ a n c, e = .returned (.slice a n c) ∧ Hid (RdX w' (.slice a n c) FM ∧ w1.grownBy w' none)) := by
          refine ((HD.out.keep HL.out.2.2.2.2).fire2 HN5.out nw).mono ?_
          rintro e w' ⟨a, n, c, rfl, q1, q2⟩
          rw [hFM] at q1
          exact ⟨a, n, c, rfl, q1, q2⟩
        clear hFM
        go_wp2_with fail
        refine HF2.out.mono ?_
        rintro e w2 ⟨ra, rn, rc, rfl, H2⟩
        clear HF2 d0 d1 d2
        have HSm : Hid (Calls Tryd.prog 13 #[.slice fa fn fc, .slice ra rn rc] w2 fun e w' => e = .returned (.bool true) ∧ Hid (w1.grownBy w' none)) := by
          obtain ⟨e1, o1, o2, o3, g1⟩ := HL.out
          refine (refSameA_any w2 _ _ FM ((o1.keep H2.out.2).rdx o2 (fun x hx => ((o3 x hx).keep H2.out.2).rd)) H2.out.1).mono ?_
          rintro e w' ⟨rfl, q⟩
          exact ⟨rfl, gb_none H2.out.2 q⟩
        go_wp2_with fail
        refine HSm.out.mono ?_
        rintro e w3 ⟨rfl, H3⟩
        clear HSm H2
        have HSp : Hid (Calls Tryd.prog 31 #[.slice fa fn fc] w3 fun e w' => e = .returned (.tuple #[]) ∧ Hid (∃ M', DuA w gx gr R most M' M' 0 0 w')) := by
          obtain ⟨e1, o1, o2, o3, g1⟩ := HL.out
          refine (refSpoil_any w3 W.heap.size (.slice fa fn fc) l (o1.keep H3.out) (fun x hx => (o3 x hx).keep H3.out)).mono ?_
          rintro e w' ⟨rfl, q⟩
          exact ⟨rfl, M, HD.out.keep (gb_ch (gb_none g1 H3.out) q (fun k e => e))⟩
        go_wp2_with fail
        refine HSp.out.mono ?_
        rintro e w4 ⟨rfl, H4⟩
        clear HSp H3
        go_wp2
        go_ret
        exact ⟨rfl, H4.out⟩
end Go.Proofs.YtmgbcmogdjhacaaDoor
