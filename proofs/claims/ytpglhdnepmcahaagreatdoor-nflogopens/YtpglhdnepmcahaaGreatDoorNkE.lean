/-
  Nkg, Nki, Nkj, in one text.
-/
import Derived.Test.YtpglhdnepmcahaaGreatDoorNkD
/- Nkg -/
namespace Go.Proofs.YtpglhdnepmcahaaGreatDoor
open Go.RowKit Go.Shelf Go.Sort

attribute [local go_sem] Oper.semAt_some

/-- values' function between two rounds -/
structure VaJ (W : World) (v : Value) (l : List MkX) (J : List MkX → World → Prop) (z : Nat) (wr : World) : Prop where
  size : W.heap.size ≤ wr.heap.size
  row : OwnE wr 0 v l
  out : J (l.take z) wr

set_option maxRecDepth 100000 in
set_option maxHeartbeats 6400000 in
theorem valE_any (n : Nat) (hn : 2 ≤ n) (lp c gx : Nat) (v : Value) (l : List MkX) (W : World) (T : Nat → Prop) (hc : W.cell? ⟨c, 0, none⟩ = some (.pointer (some ⟨gx, 0, none⟩))) (hx : W.cell? ⟨gx, 0, none⟩ = some v) (hrow : OwnE W 0 v l) (hsh : ShX l) (hl : l.length ≤ 500) (hT : ∀ k, v.ownBlock = some k → ¬ T k)
    (J : List MkX → World → Prop) (Jx : World → Prop) (hJ : ∀ l W1 W2, J l W1 → W1.grownBy W2 none → J l W2) (h0 : J [] W)
    (hY : ∀ z W0, z < l.length → J (l.take z) W0 → W.heap.size ≤ W0.heap.size → YieldAt Fence.wide (n - 1) Tryz.prog lp #[markX (l.getD z xZ)] W0 fun e W' => ((e = .returned (.bool true) ∧ J (l.take (z + 1)) W') ∨ (e = .returned (.bool false) ∧ Jx W')) ∧ Ch W0 W' (fun k => T k ∨ W.heap.size ≤ k)) :
    CallsIn Fence.wide n Tryz.prog 93 (#[.func (.yield lp) #[] #[]] ++ #[.pointer (some ⟨c, 0, none⟩)]) W fun e W' => (∃ x, e = .returned x) ∧ (J l W' ∨ Jx W') := by
  have HY := hidJ hY
  have HJs := hidJ hJ
  have HT := hidJ (And.intro hT (And.intro hrow hsh))
  have H0 : Hid (VaJ W v l J 0 W) := ⟨Nat.le_refl _, hrow, h0⟩
  have hlt := hidJ (fun k (hk : v.ownBlock = some k) => (World.ownsRow.lt hrow k hk).2)
  obtain ⟨a, cc, rfl⟩ := hrow.shape
  obtain ⟨N, hN⟩ : ∃ N, l.length = N := ⟨_, rfl⟩
  have HN := hidJ hN
  rw [hN] at hx H0 HT hl hlt
  clear h0 hY hJ hT hN hrow hsh
  have hn1 : 1 ≤ n := by omega
  refine callsIn_of_wp Tryz.func93 rfl trivial ?_ rfl
  simp only [Tryz.ntmps93, List.size_toArray, List.length_cons, List.length_nil, Nat.reduceAdd, Nat.reduceSub, Array.replicate_succ, Array.replicate_zero, List.push_toArray, List.append_toArray, List.nil_append, List.cons_append]
  gi_wp2
  clear hc hx
  gi_loopw [10] (fun i wr => ∃ z : Nat, i = .int .i64 z ∧ z ≤ N ∧ Hid (VaJ W (.slice a N cc) l J z wr)) (fun i _ => N - (intOf i).toNat)
  case atStart => exact ⟨0, rfl, by omega, H0.out⟩
  case round =>
    obtain ⟨z, rfl, hzN, HI⟩ := hrel
    by_cases hzl : z < N
    · have hzi : (z : Int) < (N : Int) := by omega
      have hzM : z < l.length := by rw [HN.out]; exact hzl
      obtain ⟨g, c', he, -, -, hgl, d0, d1, d2, d3, d4, d5, d6⟩ := HI.out.row.cells hzM
      simp only [Value.slice.injEq] at he
      obtain ⟨rfl, -, rfl⟩ := he
      obtain ⟨⟨fa, fn, fc, ef⟩, sa, sn, sc, es⟩ := HT.out.2.2.at z
      rw [ef] at d5
      rw [es] at d6
      have HW : Hid (∀ C, wr.grownBy (wr.alloc C) none ∧ J (l.take z) (wr.alloc C)) := fun C => ⟨World.grownBy_alloc _ _ none, HJs.out _ _ _ HI.out.out (World.grownBy_alloc _ _ none)⟩
      have HYa := HY.out z (wr.alloc (.cells #[.string (ByteArray.mk ⟨(l.getD z xZ).1.rcv⟩), .string (ByteArray.mk ⟨(l.getD z xZ).1.key⟩), .string (ByteArray.mk ⟨(l.getD z xZ).1.rcv⟩), .string (ByteArray.mk ⟨(l.getD z xZ).1.key⟩), .int .i64 (l.getD z xZ).1.tim, .slice fa fn fc, .slice sa sn sc] 117)) hzM (HW.out _).2 (Nat.le_trans HI.out.size (HW.out _).1.size)
      unfold markX markV at HYa
      rw [ef, es] at HYa
      clear ef es
      have hgl2 : ¬ g = wr.heap.size := by omega
      generalize ByteArray.mk ⟨(l.getD z xZ).1.rcv⟩ = br at *
      generalize ByteArray.mk ⟨(l.getD z xZ).1.key⟩ = bk at *
      generalize (l.getD z xZ).1.tim = tm at *
      obtain ⟨fn', tmps, assign, body, hy, hR⟩ := HYa
      gi_wp2
      refine hR.mono ?_
      rintro e W6 ⟨hq, hc6⟩
      have H6 : Hid (W.heap.size ≤ W6.heap.size ∧ OwnE W6 0 (.slice (some ⟨g, 0, none⟩) N cc) l) := by
        refine ⟨Nat.le_trans HI.out.size (Nat.le_trans (HW.out _).1.size hc6.size), row_ch (HI.out.row.keep (World.grownBy_alloc _ _ none)) hc6 (fun k hk e => ?_)⟩
        rcases e with e | e
        · exact HT.out.1 k hk e
        · have := hlt.out k hk
          omega
      clear hc6 hy hR d0 d1 d2 d3 d4 d5 d6 HW
      rcases hq with ⟨rfl, hj6⟩ | ⟨rfl, hx6⟩
      · have H7 : Hid (VaJ W (.slice (some ⟨g, 0, none⟩) N cc) l J (z + 1) W6) := ⟨H6.out.1, H6.out.2, hj6⟩
        clear hj6 H6 HI
        gi_wp2
        go_roundw
        case rel => exact ⟨z + 1, by go_num, by omega, H7⟩
        case measure => simp [intOf]; omega
      · have HX := hidJ hx6
        clear hx6 H6 HI
        gi_wp2
        refine bodyPost_ret (results_none rfl _ _ _) rfl ?_
        exact ⟨⟨_, rfl⟩, .inr HX.out⟩
    · have hzi : ¬ (z : Int) < (N : Int) := by omega
      have HF : Hid (J l wr) := by
        have q := HI.out.out
        rw [List.take_of_length_le (by rw [HN.out]; omega)] at q
        exact q
      clear HI HY HT HJs
      gi_wp2
      first
        | (refine bodyPost_ret (results_none rfl _ _ _) rfl ?_
           exact ⟨⟨_, rfl⟩, .inl HF.out⟩)
        | (go_end0
           exact ⟨⟨_, rfl⟩, .inl HF.out⟩)

/-- a row of marks between two rounds: the box, what is put off, the record, the row behind -/
structure SqK (w : World) (bx ag : Nat) (rc : Loop) (l : List MkX) (W : World) : Prop where
  old : w.grownBy W none
  lo : w.heap.size ≤ bx ∧ bx < ag
  place : ag + 2 ≤ W.heap.size
  df : W.heap[ag]? = some (.deferred (some []))
  rcd : W.heap[ag + 1]? = some (.loop rc)
  row : ∃ vL, Boxed W bx 46 vL ∧ OwnK W (ag + 2) vL l
section
variable {w W W' : World} {bx ag : Nat} {rc rc' : Loop} {l : List MkX}
theorem SqK.keep (h : SqK w bx ag rc l W) (hg : W.grownBy W' none) : SqK w bx ag rc l W' := by
  have hp := h.place
  have hz := hg.size
  obtain ⟨vL, c3, c4⟩ := h.row
  exact ⟨gb_none h.old hg, h.lo, by omega, (hg.block _ (some_lt2 h.df) (by simp)).trans h.df, (hg.block _ (some_lt2 h.rcd) (by simp)).trans h.rcd, ⟨vL, c3.kept hg (by simp), c4.keep hg⟩⟩
theorem SqK.put (h : SqK w bx ag rc l W) : SqK w bx ag rc' l (W.putObj (ag + 1) (.loop rc')) := by
  have hp := h.place
  have hlo := h.lo
  have hc := putRec_ch W (ag + 1) (.loop rc')
  obtain ⟨vL, c3, c4⟩ := h.row
  refine ⟨gb_ch h.old hc (fun k e => by omega), h.lo, by simpa using hp, (hc.block (some_lt2 h.df) (by omega)).trans h.df, World.putObj_heap_same (some_lt2 h.rcd), ⟨vL, bxch c3 hc (by omega), row_ch c4 hc (fun k hk e => ?_)⟩⟩
  have := (World.ownsRow.lt c4 k hk).1
  omega
/-- what is written in a round -/
def SkF (bx ag : Nat) : Nat → Prop := fun k => k = bx ∨ ag + 2 ≤ k
theorem SqK.more (x : MkX) (h : SqK w bx ag rc l W) (hl : l.length ≤ 1000) (h1 : x.2.1.oneCell' = true) (h2 : x.2.2.oneCell' = true) :
    ∃ aL cL a2 c2 W2, W.cell? ⟨bx, 0, none⟩ = some (.slice aL l.length cL) ∧ (Builtin.append_ #[46, 46] 46 #[.slice aL l.length cL, .slice (some ⟨W.heap.size, 0, none⟩) 1 1]).run Tryz.prog (W.alloc (.cells (mkC x).toArray 34)) = .ok (.slice a2 (l.length + 1) c2) W2 ∧
      W2.cell? ⟨bx, 0, none⟩ = some (.slice aL l.length cL) ∧ W2.frozen? ⟨bx, 0, none⟩ = false ∧ SqK w bx ag rc (l ++ [x]) (W2.setCell ⟨bx, 0, none⟩ (.slice a2 (l.length + 1) c2)) ∧ Ch W (W2.setCell ⟨bx, 0, none⟩ (.slice a2 (l.length + 1) c2)) (SkF bx ag) ∧ (W2.setCell ⟨bx, 0, none⟩ (.slice a2 (l.length + 1) c2)).cell? ⟨bx, 0, none⟩ = some (.slice a2 (l.length + 1) c2) ∧
      LLk W (W2.setCell ⟨bx, 0, none⟩ (.slice a2 (l.length + 1) c2)) := by
  have hp := h.place
  have hlo := h.lo
  obtain ⟨vL, c3, c4⟩ := h.row
  have hal := World.grownBy_alloc W (.cells (mkC x).toArray 34) none
  obtain ⟨a2, cc, W2, hrun, ho, hfr⟩ := OwnK.push c4 x h1 h2 hl (by omega) hal rfl
  obtain ⟨aL, cL, rfl, -⟩ := c4.shape
  have hvL := World.ownsRow.lt c4
  have k1 : Ch W (W.alloc (.cells (mkC x).toArray 34)) (fun k => (Value.slice aL l.length cL).ownBlock = some k) := Ch.of_gb hal (fun k hk => by cases hk)
  have k2 : Ch W W2 (fun k => (Value.slice aL l.length cL).ownBlock = some k) := k1.trans (Ch.of_gb (S := fun k => (Value.slice aL l.length cL).ownBlock = some k) hfr.1 (fun k hk _ => hk)) (fun _ _ e => e)
  have n1 : ∀ k, k < ag + 2 → ¬ (Value.slice aL l.length cL).ownBlock = some k := fun k hk e => by have := (hvL k e).1; omega
  have bL := bxch c3 k2 (n1 _ (by omega))
  have k3 := set_ch W2 bx 0 (.slice a2 (l.length + 1) cc)
  have hz2' := k2.size
  have hz3 : (W2.setCell ⟨bx, 0, none⟩ (.slice a2 (l.length + 1) cc)).heap.size = W2.heap.size := by simp
  refine ⟨aL, cL, a2, cc, W2, c3.cell, hrun, bL.cell, bL.frozen, ?_, ?_, (bL.set _).cell, (LLk.ch k2 (fun k e => ?_)).trans (LLk.ch k3 (fun k e => ?_))⟩
  · have d1 := (k2.block (some_lt2 h.df) (n1 _ (by omega))).trans h.df
    have r1 := (k2.block (some_lt2 h.rcd) (n1 _ (by omega))).trans h.rcd
    refine ⟨gb_ch (gb_ch h.old k2 (fun k e => by have := (hvL k e).1; omega)) k3 (fun k e => by omega), h.lo, by omega, (k3.block (some_lt2 d1) (by omega)).trans d1, (k3.block (some_lt2 r1) (by omega)).trans r1, ⟨.slice a2 (l.length + 1) cc, bL.set _, ?_⟩⟩
    refine row_ch (show OwnK W2 (ag + 2) (.slice a2 (l.length + 1) cc) (l ++ [x]) from ho) k3 (fun k hk e => ?_)
    have := (World.ownsRow.lt ho k hk).1
    omega
  · refine (k2.mono (T := SkF bx ag) (fun k _ e => ?_)).trans k3 (fun k _ e => ?_)
    · have := (hvL k e).1
      unfold SkF
      omega
    · have e' : k = bx := e
      unfold SkF
      omega
  · obtain ⟨cur, hb⟩ := row_objE c4 e
    exact ⟨cur, _, _, hb, by decide, by decide⟩
  · rw [show k = bx from e]
    exact ⟨_, _, _, bL, by decide, by decide⟩
/-- how it ends -/
theorem SqK.fin (h : SqK w bx ag rc l W) : W.heap[ag]? = some (.deferred (some [])) ∧ ∃ a n c, W.cell? ⟨bx, 0, none⟩ = some (.slice a n c) ∧ OwnK (W.putObj ag (.deferred none)) (ag + 2) (.slice a n c) l ∧ w.grownBy (W.putObj ag (.deferred none)) none := by
  obtain ⟨vL, c3, c4⟩ := h.row
  have hp := h.place
  have hlo := h.lo
  have k2 := putRec_ch W ag (.deferred none)
  obtain ⟨a, c, rfl, -⟩ := c4.shape
  refine ⟨h.df, a, _, c, c3.cell, row_ch c4 k2 (fun k hk e => ?_), gb_ch h.old k2 (fun k e => by omega)⟩
  have := (World.ownsRow.lt c4 k hk).1
  omega
end

set_option maxRecDepth 100000 in
set_option maxHeartbeats 6400000 in
theorem appSeqE_in (n : Nat) (hn : 8 ≤ n) (w : World) (c gx : Nat) (v : Value) (l : List MkX) (hc : w.cell? ⟨c, 0, none⟩ = some (.pointer (some ⟨gx, 0, none⟩))) (hx : w.cell? ⟨gx, 0, none⟩ = some v) (hrow : OwnE w 0 v l) (hsh : ShX l) (hl : l.length ≤ 500) :
    CallsIn Fence.wide n Tryz.prog 92 #[.slice none 0 0, .func (.func 93) #[] #[.pointer (some ⟨c, 0, none⟩)]] w fun e w' => ∃ v', e = .returned v' ∧ OwnK w' w.heap.size v' l ∧ w.grownBy w' none := by
  have h1 : 1 ≤ n := by omega
  have HV := hidJ (And.intro hc (And.intro hx (And.intro hrow (And.intro hsh hl))))
  clear hc hx hrow hsh hl
  refine callsIn_of_wp_marks Tryz.func92 rfl trivial ?_ rfl
  simp only [Tryz.ntmps92, List.size_toArray, List.length_cons, List.length_nil, Nat.reduceAdd, Nat.reduceSub, Array.replicate_succ, Array.replicate_zero, List.push_toArray, List.append_toArray, List.nil_append, List.cons_append]
  gi_wp2_with fail
  have HB0 := hidJ (Boxed.new w 46 (.slice none 0 0))
  have HG0 := hidJ (World.grownBy_alloc w (.cells #[.slice none 0 0] 46) none)
  have HZ0 : Hid ((w.alloc (.cells #[.slice none 0 0] 46)).heap.size = w.heap.size + 1) := by show _ = _; simp
  generalize w.alloc (.cells #[.slice none 0 0] 46) = W0 at *
  refine range_br (k := 0) rfl h1 (gf := 93) (lb := #[.pointer (some ⟨c, 0, none⟩)]) rfl trivial (enters_of Tryz.func93 (by kernel_rfl) rfl) ?_
  intro rc hfn hrd hpe hps htm has hbo
  rw [HZ0.out]
  have HS : Hid (((W0.alloc (.deferred (some []))).alloc (.loop rc)).heap.size = w.heap.size + 1 + 2 ∧ ((W0.alloc (.deferred (some []))).alloc (.loop rc)).heap[w.heap.size + 1]? = some (.deferred (some [])) ∧ ((W0.alloc (.deferred (some []))).alloc (.loop rc)).heap[w.heap.size + 1 + 1]? = some (.loop rc) ∧ W0.grownBy ((W0.alloc (.deferred (some []))).alloc (.loop rc)) none) := by
    have q2 := HZ0.out
    have k1 := World.grownBy_alloc W0 (.deferred (some [])) none
    have k2 := World.grownBy_alloc (W0.alloc (.deferred (some []))) (.loop rc) none
    have e1 := World.alloc_heap_new W0 (.deferred (some []))
    have e2 := World.alloc_heap_new (W0.alloc (.deferred (some []))) (.loop rc)
    rw [World.size_alloc] at e2
    rw [q2] at e1 e2
    exact ⟨by simp [q2], (k2.block _ (by simp [q2]) (by simp)).trans e1, e2, gb_none k1 k2⟩
  generalize (W0.alloc (.deferred (some []))).alloc (.loop rc) = Ws at *
  obtain ⟨s1, s2, s3, s4⟩ := HS.out
  have gWs : w.grownBy Ws none := gb_none HG0.out s4
  obtain ⟨p1, p2, p3, p4, p5⟩ := HV.out
  refine CallsIn.mono (valE_any (n - 1) (by omega) (w.heap.size + 1 + 1) c gx v l Ws (fun k => k = w.heap.size ∨ k = w.heap.size + 1 + 1) ?cell ?cellx ?row p4 p5 ?hT (fun l W' => SqK w w.heap.size (w.heap.size + 1) rc l W') (fun _ => False) (fun l W1 W2 hj hg => hj.keep hg) ?h0 ?hY) ?post
  case cell => exact (World.cell?_of_block (gWs.block c (block_lt p1) (by simp))).trans p1
  case cellx => exact (World.cell?_of_block (gWs.block gx (block_lt p2) (by simp))).trans p2
  case row => exact p3.keep gWs
  case hT =>
    intro k hk e
    have := (World.ownsRow.lt p3 k hk).2
    omega
  case h0 => exact ⟨gWs, ⟨Nat.le_refl _, by omega⟩, by omega, s2, s3, ⟨_, HB0.out.kept s4 (by simp), OwnK.nil _ _⟩⟩
  case hY =>
    intro z Wr hz hj hsz
    obtain ⟨⟨fa, fn, fc, ef⟩, sa, sn, sc, es⟩ := p4.at z
    have htk : l.take (z + 1) = l.take z ++ [l.getD z xZ] := by
      rw [List.take_succ_eq_append_getElem hz]
      simp [List.getD, hz]
    rw [s1]
    unfold markX markV
    rw [ef, es]
    refine YieldAt.mono (yield_br (k := 0) (R := fun W' => SqK w w.heap.size (w.heap.size + 1) rc (l.take (z + 1)) W' ∧ Ch Wr W' (fun k => (k = w.heap.size ∨ k = w.heap.size + 1 + 1) ∨ w.heap.size + 1 + 2 ≤ k)) (Rx := fun _ => False) has hbo hps htm hj.rcd hrd rfl hfn ?_) ?_
    · clear has hbo hps htm
      have hal := World.grownBy_alloc Wr (.cells #[.string (ByteArray.mk ⟨(l.getD z xZ).1.rcv⟩), .string (ByteArray.mk ⟨(l.getD z xZ).1.key⟩), .int .i64 (l.getD z xZ).1.tim, .slice fa fn fc, .slice sa sn sc] 34) none
      have hk := hj.keep hal
      have HK := hidJ hk.rcd
      have hB0 := hk.put (rc' := { rc with state := .busy })
      have hcb : Ch Wr ((Wr.alloc (.cells #[.string (ByteArray.mk ⟨(l.getD z xZ).1.rcv⟩), .string (ByteArray.mk ⟨(l.getD z xZ).1.key⟩), .int .i64 (l.getD z xZ).1.tim, .slice fa fn fc, .slice sa sn sc] 34)).putObj (w.heap.size + 1 + 1) (.loop { rc with state := .busy })) (fun j => j = w.heap.size + 1 + 1) := (Ch.of_gb (S := fun j => j = w.heap.size + 1 + 1) hal (fun k hk => by cases hk)).trans (putRec_ch _ _ _) (fun _ _ e => e)
      have HCB := hidJ hcb
      have hnb : B5 ((Wr.alloc (.cells #[.string (ByteArray.mk ⟨(l.getD z xZ).1.rcv⟩), .string (ByteArray.mk ⟨(l.getD z xZ).1.key⟩), .int .i64 (l.getD z xZ).1.tim, .slice fa fn fc, .slice sa sn sc] 34)).putObj (w.heap.size + 1 + 1) (.loop { rc with state := .busy })) Wr.heap.size 34 (.string (ByteArray.mk ⟨(l.getD z xZ).1.rcv⟩)) (.string (ByteArray.mk ⟨(l.getD z xZ).1.key⟩)) (.int .i64 (l.getD z xZ).1.tim) (.slice fa fn fc) (.slice sa sn sc) := (B5.new Wr 34 _ _ _ _ _).ch (putRec_ch _ _ _) (by have := hj.place; omega)
      obtain ⟨y0, y1, y2, y3, y4⟩ := hnb.cells
      have hlen : (l.take z).length ≤ 1000 := by rw [List.length_take]; omega
      obtain ⟨aL, cL, a2, c2, W4, r1, r2, r3, r4, r5, r6, r7, -⟩ := hB0.more (l.getD z xZ) hlen (by rw [ef]; rfl) (by rw [es]; rfl)
      unfold mkC at r2
      rw [ef, es] at r2
      have HX := hidJ (And.intro hrd (And.intro hpe htk))
      have H5 := hidJ (And.intro r5 r6)
      clear hk hB0 hcb hnb hal hj hrd hpe hfn r5 r6 hlen htk ef es
      obtain ⟨nl, hnl⟩ : ∃ nl, (l.take z).length = nl := ⟨_, rfl⟩
      rw [hnl] at r1 r2 r3 r7
      have HNL := hidJ hnl
      clear hnl
      generalize ByteArray.mk ⟨(l.getD z xZ).1.rcv⟩ = br at *
      generalize ByteArray.mk ⟨(l.getD z xZ).1.key⟩ = bk at *
      generalize (l.getD z xZ).1.tim = tm at *
      gi_wp2
      refine ⟨HK.out, ?_⟩
      generalize hWb : (Wr.alloc (.cells #[.string br, .string bk, .int .i64 tm, .slice fa fn fc, .slice sa sn sc] 34)).putObj (w.heap.size + 1 + 1) (.loop { rc with state := .busy }) = Wb at *
      generalize Wr.heap.size = sb at *
      clear HK
      gi_wp2_with (gi_at_builtin; refine wpIn_appRun rfl _ _ 46 rfl _ _ _ rfl rfl r2 ?_)
      have hfin := H5.out
      rw [HNL.out] at hfin
      have hp := hfin.1.place
      refine ⟨hfin.1.rcd, ?_, ?_⟩
      · have := hfin.1.put (rc' := { rc with state := .ready, pending := none })
        rw [ready_same HX.out.1 HX.out.2.1] at this ⊢
        rw [HX.out.2.2]
        exact this
      · refine ((HCB.out.mono (T := fun k => (k = w.heap.size ∨ k = w.heap.size + 1 + 1) ∨ w.heap.size + 1 + 2 ≤ k) (fun k _ e => by omega)).trans hfin.2 (fun k _ e => by unfold SkF at e; omega)).trans (putRec_ch _ _ _) (fun k _ e => by omega)
    · rintro e W' (⟨q1, q2, q4⟩ | ⟨q1, q2⟩)
      · exact ⟨.inl ⟨q1, q2⟩, q4⟩
      · exact q2.elim
  case post =>
    rintro e W' ⟨⟨x, rfl⟩, hq⟩
    refine ⟨⟨x, rfl⟩, ?_⟩
    rcases hq with hj | hq
    · refine .inl ⟨hj.rcd, ?_⟩
      have hj7 := hj.put (rc' := { rc with state := .exhausted })
      clear has hbo hps htm hrd hpe hfn hj
      generalize W'.putObj (w.heap.size + 1 + 1) (.loop { rc with state := .exhausted }) = W7 at *
      obtain ⟨d1, a', n', c', z0, z1, z2⟩ := hj7.fin
      have HZ := hidJ (And.intro d1 (And.intro z1 z2))
      clear d1 z1 z2 hj7
      gi_wp2
      refine ⟨by simp, .inl ⟨_, _, rfl, run_takeDeferred HZ.out.1, ?_⟩⟩
      refine ⟨_, results_tmp rfl _ _ _, ?_⟩
      exact ⟨.slice a' n' c', rfl, OwnK.mono HZ.out.2.1 (by omega), HZ.out.2.2⟩
    · exact hq.elim
theorem appSeqE_any (w : World) (c gx : Nat) (v : Value) (l : List MkX) (hc : w.cell? ⟨c, 0, none⟩ = some (.pointer (some ⟨gx, 0, none⟩))) (hx : w.cell? ⟨gx, 0, none⟩ = some v) (hrow : OwnE w 0 v l) (hsh : ShX l) (hl : l.length ≤ 500) :
    Calls Tryz.prog 92 #[.slice none 0 0, .func (.func 93) #[] #[.pointer (some ⟨c, 0, none⟩)]] w fun e w' => ∃ v', e = .returned v' ∧ OwnK w' w.heap.size v' l ∧ w.grownBy w' none := callsIn_wide.1 (appSeqE_in 8 (by omega) w c gx v l hc hx hrow hsh hl)
set_option maxHeartbeats 1600000 in
theorem collectE_any (w : World) (c gx : Nat) (v : Value) (l : List MkX) (hc : w.cell? ⟨c, 0, none⟩ = some (.pointer (some ⟨gx, 0, none⟩))) (hx : w.cell? ⟨gx, 0, none⟩ = some v) (hrow : OwnE w 0 v l) (hsh : ShX l) (hl : l.length ≤ 500) :
    Calls Tryz.prog 60 #[.func (.func 93) #[] #[.pointer (some ⟨c, 0, none⟩)]] w fun e w' => ∃ v', e = .returned v' ∧ OwnK w' w.heap.size v' l ∧ w.grownBy w' none := by
  have HA := hidJ (appSeqE_any w c gx v l hc hx hrow hsh hl)
  clear hc hx hrow hsh hl
  go_enter Tryz.func60, Tryz.ntmps60
  go_wp2_with fail
  refine HA.out.mono ?_
  rintro e w1 ⟨v', rfl, H1⟩
  have H1 := hidJ H1
  obtain ⟨a', c', rfl, -⟩ := H1.out.1.shape
  clear HA
  go_wp2
  go_ret
  exact ⟨_, rfl, H1.out⟩
end Go.Proofs.YtpglhdnepmcahaaGreatDoor

/- Nki -/
namespace Go.Proofs.YtpglhdnepmcahaaGreatDoor
open Go.RowKit Go.Shelf Go.Sort

attribute [local go_sem] Oper.semAt_some

theorem valuesE_any (w : World) (gx : Nat) : Calls Tryz.prog 61 #[.pointer (some ⟨gx, 0, none⟩)] w fun e w' => ∃ c, e = .returned (.func (.func 93) #[] #[.pointer (some ⟨c, 0, none⟩)]) ∧ Hid (w'.cell? ⟨c, 0, none⟩ = some (.pointer (some ⟨gx, 0, none⟩)) ∧ w.grownBy w' none) := by
  go_enter Tryz.func61, Tryz.ntmps61
  go_wp2
  go_ret
  refine ⟨_, rfl, ?_, World.grownBy_alloc _ _ none⟩
  rw [World.cell?, Go.heap_alloc_new]
  rfl
set_option maxRecDepth 8000 in
set_option maxHeartbeats 3200000 in
theorem allX_any (w : World) (gx : Nat) (v : Value) (l : List MkX) (h : LgX w gx v l) :
    Calls Tryz.prog 31 #[.pointer (some ⟨gx, 0, none⟩)] w fun e w' => ∃ c v', e = .returned (.func (.func 62) #[] #[.pointer (some ⟨c, 0, none⟩)]) ∧ w'.cell? ⟨c, 0, none⟩ = some v' ∧ OwnK w' w.heap.size v' l ∧ w.grownBy w' none := by
  have hg0 := World.grownBy_alloc w (.cells #[.slice none 0 0] 46) none
  have hb0 := Boxed.new w 46 (.slice none 0 0)
  have HV : Hid (∀ W, w.grownBy W none → Calls Tryz.prog 61 #[.pointer (some ⟨gx, 0, none⟩)] W fun e w' => ∃ c, e = .returned (.func (.func 93) #[] #[.pointer (some ⟨c, 0, none⟩)]) ∧ Hid (w'.cell? ⟨c, 0, none⟩ = some (.pointer (some ⟨gx, 0, none⟩)) ∧ W.grownBy w' none)) := fun W _ => valuesE_any W gx
  have HC : Hid (∀ W c, (w.alloc (.cells #[.slice none 0 0] 46)).grownBy W none → W.cell? ⟨c, 0, none⟩ = some (.pointer (some ⟨gx, 0, none⟩)) → Calls Tryz.prog 60 #[.func (.func 93) #[] #[.pointer (some ⟨c, 0, none⟩)]] W fun e w' => ∃ a n cc, e = .returned (.slice a n cc) ∧ (w'.cell? ⟨w.heap.size, 0, none⟩ = some (.slice none 0 0) ∧ w'.frozen? ⟨w.heap.size, 0, none⟩ = false) ∧ Hid (OwnK (w'.setCell ⟨w.heap.size, 0, none⟩ (.slice a n cc)) w.heap.size (.slice a n cc) l ∧ w.grownBy (w'.setCell ⟨w.heap.size, 0, none⟩ (.slice a n cc)) none ∧ (w'.setCell ⟨w.heap.size, 0, none⟩ (.slice a n cc)).cell? ⟨w.heap.size, 0, none⟩ = some (.slice a n cc))) := fun W c hW hc => by
    have hk := h.keep (gb_none hg0 hW)
    refine (collectE_any W c gx v l hc hk.box.cell hk.row hk.shx hk.len).mono ?_
    rintro e w' ⟨v', rfl, q1, q2⟩
    have hz := hW.size
    rw [World.size_alloc] at hz
    obtain ⟨a, cc, rfl, -⟩ := q1.shape
    have hb := (hb0.kept hW (by simp)).kept q2 (by simp)
    have hs := set_ch w' w.heap.size 0 (.slice a l.length cc)
    refine ⟨a, _, cc, rfl, ⟨hb.cell, hb.frozen⟩, row_ch (OwnK.mono q1 (by omega)) hs (fun k hk' e => ?_), gb_ch (gb_none (gb_none hg0 hW) q2) hs (fun k e => by omega), (hb.set _).cell⟩
    have := (World.ownsRow.lt q1 k hk').1
    omega
  clear h hg0 hb0
  go_enter Tryz.func31, Tryz.ntmps31
  go_wp2_with fail
  refine (HV.out _ (World.grownBy_alloc _ _ none)).mono ?_
  rintro e w1 ⟨c, rfl, q1⟩
  clear HV
  go_wp2_with fail
  refine (HC.out w1 c q1.out.2 q1.out.1).mono ?_
  rintro e w2 ⟨a, n, cc, rfl, ⟨z0, z1⟩, q2⟩
  clear HC q1
  go_wp2
  go_ret
  exact ⟨_, _, rfl, q2.out.2.2, q2.out.1, q2.out.2.1⟩

/-- All's function between two rounds -/
structure ItK (W : World) (l : List MkX) (v : Value) (J : List MkX → World → Prop) (z : Nat) (wr : World) : Prop where
  size : W.heap.size ≤ wr.heap.size
  row : OwnK wr 0 v l
  each : ∀ x ∈ l, MkO wr x
  out : ∃ ys, ys.map (·.1) = (l.take z).map (·.1) ∧ J ys wr

set_option maxRecDepth 100000 in
set_option maxHeartbeats 6400000 in
theorem iterM_any (n : Nat) (hn : 2 ≤ n) (lp c : Nat) (v : Value) (l : List MkX) (W : World) (T : Nat → Prop) (hc : W.cell? ⟨c, 0, none⟩ = some v) (hrow : OwnK W 0 v l) (hm : ∀ x ∈ l, MkO W x) (hs : ∀ x ∈ l, LLs x.1.fir ∧ LLs x.1.res) (hl : l.length ≤ 500)
    (hT1 : ∀ k, v.ownBlock = some k → ¬ T k)
    (J : List MkX → World → Prop) (Jx : World → Prop)
    (hJ : ∀ ys W1 W2, J ys W1 → W1.grownBy W2 none → J ys W2)
    (h0 : J [] W)
    (hY : ∀ ys x r W0 W1, J ys W0 → W0.grownBy W1 none → W.heap.size ≤ W0.heap.size → l.map (·.1) = ys.map (·.1) ++ x.1 :: r → OwnLL W1 W0.heap.size x.2.1 x.1.fir → OwnLL W1 W0.heap.size x.2.2 x.1.res → YieldAt Fence.wide (n - 1) Tryz.prog lp #[markX x] W1 fun e W' => ((e = .returned (.bool true) ∧ J (ys ++ [x]) W') ∨ (e = .returned (.bool false) ∧ Jx W')) ∧ Ch W1 W' (fun k => T k ∨ W.heap.size ≤ k) ∧ LLk W1 W') :
    CallsIn Fence.wide n Tryz.prog 62 (#[.func (.yield lp) #[] #[]] ++ #[.pointer (some ⟨c, 0, none⟩)]) W fun e W' => (∃ x, e = .returned x) ∧ ((∃ ys, ys.map (·.1) = l.map (·.1) ∧ J ys W') ∨ Jx W') := by
  have HJs := hidJ hJ
  have HY := hidJ hY
  have HT := hidJ (And.intro hT1 hs)
  have HT0 := hidJ (fun k (hk : v.ownBlock = some k) => (World.ownsRow.lt hrow k hk).2)
  have H0 : Hid (ItK W l v J 0 W) := ⟨Nat.le_refl _, hrow, hm, [], rfl, h0⟩
  obtain ⟨a, cc, rfl, -⟩ := hrow.shape
  obtain ⟨N, hN⟩ : ∃ N, l.length = N := ⟨_, rfl⟩
  have HN := hidJ hN
  rw [hN] at hc H0 HT HT0 hl
  clear hJ h0 hY hT1 hs hrow hm hN
  have hn1 : 1 ≤ n := by omega
  refine callsIn_of_wp Tryz.func62 rfl trivial ?_ rfl
  simp only [Tryz.ntmps62, List.size_toArray, List.length_cons, List.length_nil, Nat.reduceAdd, Nat.reduceSub, Array.replicate_succ, Array.replicate_zero, List.push_toArray, List.append_toArray, List.nil_append, List.cons_append]
  gi_wp2
  clear hc
  gi_loopw [7] (fun i wr => ∃ z : Nat, i = .int .i64 z ∧ z ≤ N ∧ Hid (ItK W l (.slice a N cc) J z wr)) (fun i _ => N - (intOf i).toNat)
  case atStart => exact ⟨0, rfl, by omega, H0.out⟩
  case round =>
    obtain ⟨z, rfl, hzN, HI⟩ := hrel
    by_cases hzl : z < N
    · have hzi : (z : Int) < (N : Int) := by omega
      have hzM : z < l.length := by rw [HN.out]; exact hzl
      have hmem : l.getD z xZ ∈ l := by simp [List.getD, hzM]
      obtain ⟨g, c', he, hgl, d0, d1, d2, d3, d4⟩ := HI.out.row.cells hzM
      simp only [Value.slice.injEq] at he
      obtain ⟨rfl, -, rfl⟩ := he
      obtain ⟨fa, fc, ef⟩ := (HI.out.each _ hmem).fir.shape
      obtain ⟨sa, sc, es⟩ := (HI.out.each _ hmem).res.shape
      have HCo : Hid (∀ C, Calls Tryz.prog 42 #[.agg #[.string (ByteArray.mk ⟨(l.getD z xZ).1.rcv⟩), .string (ByteArray.mk ⟨(l.getD z xZ).1.key⟩), .int .i64 (l.getD z xZ).1.tim, .slice fa (l.getD z xZ).1.fir.length fc, .slice sa (l.getD z xZ).1.res.length sc]] (wr.alloc C) fun e w' => ∃ a1 n1 c1 a2 n2 c2, e = .returned (.agg #[.string (ByteArray.mk ⟨(l.getD z xZ).1.rcv⟩), .string (ByteArray.mk ⟨(l.getD z xZ).1.key⟩), .int .i64 (l.getD z xZ).1.tim, .slice a1 n1 c1, .slice a2 n2 c2]) ∧ Hid (OwnLL w' wr.heap.size (.slice a1 n1 c1) (l.getD z xZ).1.fir ∧ OwnLL w' wr.heap.size (.slice a2 n2 c2) (l.getD z xZ).1.res ∧ wr.grownBy w' none)) := by
        intro C
        have k := World.grownBy_alloc wr C none
        have hx := (HI.out.each _ hmem).keep k
        have hcp := copyM_any (wr.alloc C) (l.getD z xZ).1 (l.getD z xZ).2.1 (l.getD z xZ).2.2 hx.fir.rd hx.res.rd (HT.out.2 _ hmem).1 (HT.out.2 _ hmem).2
        unfold markV at hcp
        rw [ef, es] at hcp
        refine hcp.mono ?_
        rintro e w' ⟨f', s', rfl, q1, q2, q3⟩
        obtain ⟨a1, c1, e1⟩ := q1.shape
        obtain ⟨a2, c2, e2⟩ := q2.shape
        subst e1 e2
        exact ⟨a1, _, c1, a2, _, c2, rfl, q1.mono (by simp; omega), q2.mono (by simp; omega), gb_none k q3⟩
      rw [ef] at d3
      rw [es] at d4
      have hdrop : l.map (·.1) = (l.take z).map (·.1) ++ (l.getD z xZ).1 :: (l.drop (z + 1)).map (·.1) := by
        have e1 : l.getD z xZ = l[z] := by simp [List.getD, hzM]
        rw [e1, ← List.map_cons, ← List.map_append, List.getElem_cons_drop, List.take_append_drop]
      have HDr := hidJ hdrop
      clear hdrop ef es
      generalize hm' : (l.getD z xZ).1 = m at *
      have HM := hidJ hm'
      clear hm'
      have HMk : Hid (∀ f s, markX (m, f, s) = .agg #[.string (ByteArray.mk ⟨m.rcv⟩), .string (ByteArray.mk ⟨m.key⟩), .int .i64 m.tim, f, s]) := fun _ _ => rfl
      generalize ByteArray.mk ⟨m.rcv⟩ = br at *
      generalize ByteArray.mk ⟨m.key⟩ = bk at *
      generalize m.tim = tm at *
      generalize m.fir.length = nf at *
      generalize m.res.length = ns at *
      gi_wp2_with fail
      refine ⟨trivial, ?_⟩
      gi_at_call 42
      refine (callsIn_wide.2 (HCo.out _)).mono ?_
      rintro e w1 ⟨a1, n1, c1, a2, n2, c2, rfl, H1⟩
      clear HCo
      obtain ⟨ys, hl1, hl2⟩ := HI.out.out
      have HYa := HY.out ys (m, .slice a1 n1 c1, .slice a2 n2 c2) ((l.drop (z + 1)).map (·.1)) wr w1 hl2 H1.out.2.2 HI.out.size (by rw [hl1]; exact HDr.out) H1.out.1 H1.out.2.1
      rw [HMk.out] at HYa
      obtain ⟨fn, tmps, assign, body, hy, hR⟩ := HYa
      have HL := hidJ hl1
      clear hl1 hl2 d0 d1 d2 d3 d4
      gi_wp2
      refine hR.mono ?_
      rintro e W6 ⟨hq, hc6, hll⟩
      have H6 : Hid (W.heap.size ≤ W6.heap.size ∧ OwnK W6 0 (.slice (some ⟨g, 0, none⟩) N cc) l ∧ ∀ x ∈ l, MkO W6 x) := by
        have hs1 := H1.out.2.2.size
        have hs6 := hc6.size
        have hWs := HI.out.size
        have hr1 := HI.out.row.keep H1.out.2.2
        refine ⟨by omega, row_ch hr1 hc6 (fun k hk e => ?_), fun b hb => ((HI.out.each b hb).keep H1.out.2.2).llk hll⟩
        rcases e with e | e
        · exact HT.out.1 k hk e
        · have := HT0.out k hk
          omega
      clear hc6 hy hR hll
      rcases hq with ⟨rfl, hj6⟩ | ⟨rfl, hx6⟩
      · have H7 : Hid (ItK W l (.slice (some ⟨g, 0, none⟩) N cc) J (z + 1) W6) := by
          refine ⟨H6.out.1, H6.out.2.1, H6.out.2.2, _, ?_, hj6⟩
          rw [List.map_append, HL.out]
          have hzM : z < l.length := by rw [HN.out]; exact hzl
          rw [List.take_succ_eq_append_getElem hzM, List.map_append]
          have e1 : l.getD z xZ = l[z] := by simp [List.getD, hzM]
          have e2 := HM.out
          rw [e1] at e2
          simp [e2]
        clear hj6 H6 HI
        gi_wp2
        go_roundw
        case rel => exact ⟨z + 1, by go_num, by omega, H7⟩
        case measure => simp [intOf]; omega
      · have HX := hidJ hx6
        clear hx6 H6 HI
        gi_wp2
        refine bodyPost_ret (results_none rfl _ _ _) rfl ?_
        exact ⟨⟨_, rfl⟩, .inr HX.out⟩
    · have hzi : ¬ (z : Int) < (N : Int) := by omega
      have HF : Hid (∃ ys, ys.map (·.1) = l.map (·.1) ∧ J ys wr) := by
        obtain ⟨ys, q1, q2⟩ := HI.out.out
        rw [List.take_of_length_le (by rw [HN.out]; omega)] at q1
        exact ⟨ys, q1, q2⟩
      clear HI HY HJs HT
      gi_wp2
      first
        | (refine bodyPost_ret (results_none rfl _ _ _) rfl ?_
           exact ⟨⟨_, rfl⟩, .inl HF.out⟩)
        | (go_end0
           exact ⟨⟨_, rfl⟩, .inl HF.out⟩)
end Go.Proofs.YtpglhdnepmcahaaGreatDoor

/- Nkj -/
namespace Go.Proofs.YtpglhdnepmcahaaGreatDoor
open Go.RowKit Go.Shelf Go.Sort

attribute [local go_sem] Oper.semAt_some

/-- every between two rounds -/
structure EvK (w : World) (bm bx ag most : Nat) (rc : Loop) (ys : List MkX) (W : World) : Prop where
  sq : SqK w bx ag rc ys W
  b0 : Boxed W bm 3 (.int .i64 (most : Int))
  lo : w.heap.size ≤ bm ∧ bm < bx
  own : ∀ y ∈ ys, OwnLL W (ag + 2) y.2.1 y.1.fir ∧ OwnLL W (ag + 2) y.2.2 y.1.res
theorem EvK.keep {w W W' : World} {bm bx ag most : Nat} {rc : Loop} {ys : List MkX} (h : EvK w bm bx ag most rc ys W) (hg : W.grownBy W' none) : EvK w bm bx ag most rc ys W' :=
  ⟨h.sq.keep hg, h.b0.kept hg (by simp), h.lo, fun y hy => ⟨(h.own y hy).1.keep hg, (h.own y hy).2.keep hg⟩⟩
theorem EvK.put {w W : World} {bm bx ag most : Nat} {rc rc' : Loop} {ys : List MkX} (h : EvK w bm bx ag most rc ys W) : EvK w bm bx ag most rc' ys (W.putObj (ag + 1) (.loop rc')) := by
  have hk := LLk.rec h.sq.rcd (.loop rc')
  have h1 := h.lo
  have h2 := h.sq.lo
  exact ⟨h.sq.put, bxch h.b0 (putRec_ch W (ag + 1) (.loop rc')) (by omega), h.lo, fun y hy => ⟨hk _ _ _ (h.own y hy).1, hk _ _ _ (h.own y hy).2⟩⟩
theorem EvK.more {w W : World} {bm bx ag most : Nat} {rc : Loop} {ys : List MkX} (h : EvK w bm bx ag most rc ys W) (x : MkX) (hl : ys.length ≤ 1000) (h1 : OwnLL W (ag + 2) x.2.1 x.1.fir) (h2 : OwnLL W (ag + 2) x.2.2 x.1.res) :
    ∃ aL cL a2 c2 W2, W.cell? ⟨bx, 0, none⟩ = some (.slice aL ys.length cL) ∧ (Builtin.append_ #[46, 46] 46 #[.slice aL ys.length cL, .slice (some ⟨W.heap.size, 0, none⟩) 1 1]).run Tryz.prog (W.alloc (.cells (mkC x).toArray 34)) = .ok (.slice a2 (ys.length + 1) c2) W2 ∧
      W2.cell? ⟨bx, 0, none⟩ = some (.slice aL ys.length cL) ∧ W2.frozen? ⟨bx, 0, none⟩ = false ∧ EvK w bm bx ag most rc (ys ++ [x]) (W2.setCell ⟨bx, 0, none⟩ (.slice a2 (ys.length + 1) c2)) ∧ Ch W (W2.setCell ⟨bx, 0, none⟩ (.slice a2 (ys.length + 1) c2)) (SkF bx ag) ∧ (W2.setCell ⟨bx, 0, none⟩ (.slice a2 (ys.length + 1) c2)).cell? ⟨bx, 0, none⟩ = some (.slice a2 (ys.length + 1) c2) ∧
      LLk W (W2.setCell ⟨bx, 0, none⟩ (.slice a2 (ys.length + 1) c2)) := by
  obtain ⟨f1, fc, e1⟩ := h1.shape
  obtain ⟨s1, sc, e2⟩ := h2.shape
  obtain ⟨aL, cL, a2, c2, W2, r1, r2, r3, r4, r5, r6, r7, r8⟩ := h.sq.more x hl (by rw [e1]; rfl) (by rw [e2]; rfl)
  have q1 := h.lo
  have q2 := h.sq.lo
  refine ⟨aL, cL, a2, c2, W2, r1, r2, r3, r4, ⟨r5, bxch h.b0 r6 (fun e => by unfold SkF at e; omega), h.lo, fun y hy => ?_⟩, r6, r7, r8⟩
  rcases List.mem_append.1 hy with hy | hy
  · exact ⟨r8 _ _ _ (h.own y hy).1, r8 _ _ _ (h.own y hy).2⟩
  · rw [List.mem_singleton.1 hy]
    exact ⟨r8 _ _ _ h1, r8 _ _ _ h2⟩
/-- how it ends -/
theorem EvK.fin {w W : World} {bm bx ag most : Nat} {rc : Loop} {ys : List MkX} (h : EvK w bm bx ag most rc ys W) : W.heap[ag]? = some (.deferred (some [])) ∧ ∃ a n c, W.cell? ⟨bx, 0, none⟩ = some (.slice a n c) ∧ OwnK (W.putObj ag (.deferred none)) (ag + 2) (.slice a n c) ys ∧ (∀ y ∈ ys, OwnLL (W.putObj ag (.deferred none)) (ag + 2) y.2.1 y.1.fir ∧ OwnLL (W.putObj ag (.deferred none)) (ag + 2) y.2.2 y.1.res) ∧ w.grownBy (W.putObj ag (.deferred none)) none := by
  obtain ⟨d, a, n, c, z0, z1, z2⟩ := h.sq.fin
  have hc := putRec_ch W ag (.deferred none)
  have hll : ∀ (u : Value) (lss : List (List LbT)), OwnLL W (ag + 2) u lss → OwnLL (W.putObj ag (.deferred none)) (ag + 2) u lss := fun u lss hu => by
    obtain ⟨vs, p1, p2, p3⟩ := hu
    exact ⟨vs, row_ch p1 hc (fun k hk e => by have := (World.ownsRow.lt p1 k hk).1; omega), p2, fun j => row_ch (p3 j) hc (fun k hk e => by have := (World.ownsRow.lt (p3 j) k hk).1; omega)⟩
  exact ⟨d, a, n, c, z0, z1, fun y hy => ⟨hll _ _ (h.own y hy).1, hll _ _ (h.own y hy).2⟩, z2⟩
/-- a row of marks of the call's own, their lists too -/
def OwnKL (w : World) (base : Nat) (v : Value) (ys : List MkX) : Prop := OwnK w base v ys ∧ ∀ y ∈ ys, OwnLL w base y.2.1 y.1.fir ∧ OwnLL w base y.2.2 y.1.res

set_option maxRecDepth 100000 in
set_option maxHeartbeats 6400000 in
theorem everyX_in (n : Nat) (hn : 8 ≤ n) (w : World) (gx : Nat) (v : Value) (l : List MkX) (most : Nat) (hmost : 1 ≤ most ∧ most ≤ 1000) (h : LgX w gx v l) :
    CallsIn Fence.wide n Tryz.prog 26 #[.pointer (some ⟨gx, 0, none⟩), .int .i64 (most : Int)] w fun e w' => ∃ v' ys, e = .returned v' ∧ OwnKL w' w.heap.size v' ys ∧ ys.map (·.1) = (l.take most).map (·.1) ∧ w.grownBy w' none := by
  have h1 : 1 ≤ n := by omega
  obtain ⟨TM, hTM⟩ : ∃ TM, TM = (l.take most).map (·.1) := ⟨_, rfl⟩
  rw [← hTM]
  have HTM := hidJ hTM
  clear hTM
  have HL5 := hidJ h.len
  have HA : Hid (∀ W, W = (w.alloc (.cells #[.int .i64 (most : Int)] 3)).alloc (.cells #[.slice none 0 0] 46) → (Calls Tryz.prog 31 #[.pointer (some ⟨gx, 0, none⟩)] W fun e w' => ∃ c v', e = .returned (.func (.func 62) #[] #[.pointer (some ⟨c, 0, none⟩)]) ∧ Hid (w'.cell? ⟨c, 0, none⟩ = some v' ∧ OwnK w' (w.heap.size + 2) v' l ∧ (∀ x ∈ l, MkO w' x) ∧ (∀ x ∈ l, LLs x.1.fir ∧ LLs x.1.res) ∧ w.grownBy w' none ∧ Boxed w' w.heap.size 3 (.int .i64 (most : Int)) ∧ Boxed w' (w.heap.size + 1) 46 (.slice none 0 0) ∧ w.heap.size + 2 ≤ w'.heap.size))) := by
    rintro W rfl
    have k := gb_none (World.grownBy_alloc w (.cells #[.int .i64 (most : Int)] 3) none) (World.grownBy_alloc (w.alloc (.cells #[.int .i64 (most : Int)] 3)) (.cells #[.slice none 0 0] 46) none)
    have x0 := (Boxed.new w 3 (.int .i64 (most : Int))).alloc (.cells #[.slice none 0 0] 46)
    have x1 := Boxed.new (w.alloc (.cells #[.int .i64 (most : Int)] 3)) 46 (.slice none 0 0)
    simp only [World.size_alloc] at x1
    refine (allX_any _ gx v l (h.keep k)).mono ?_
    rintro e w' ⟨c, v', q1, q2, q3, q4⟩
    simp only [World.size_alloc] at q3
    exact ⟨c, v', q1, q2, q3, fun x hx => ((h.each x hx).1.keep k).keep q4, fun x hx => right_LLs (h.each x hx).2, gb_none k q4, x0.kept q4 (by simp), x1.kept q4 (by simp), by have := q4.size; simp at this; omega⟩
  clear h
  have hnf : ∀ (lb : Array Value) (W : World), (binOp .eql 67 (.func (.func 62) #[] lb) .nilFunc).run Tryz.prog W = .ok (.bool false) W := fun _ _ => rfl
  refine callsIn_of_wp_marks Tryz.func26 rfl trivial ?_ rfl
  simp only [Tryz.ntmps26, List.size_toArray, List.length_cons, List.length_nil, Nat.reduceAdd, Nat.reduceSub, Array.replicate_succ, Array.replicate_zero, List.push_toArray, List.append_toArray, List.nil_append, List.cons_append]
  gi_wp2_with fail
  refine ⟨trivial, ?_⟩
  gi_at_call 31
  refine (callsIn_wide.2 (HA.out _ rfl)).mono ?_
  rintro e W0 ⟨c, v', rfl, H0⟩
  clear HA
  gi_wp2_with fail
  obtain ⟨ag, hag⟩ : ∃ ag, W0.heap.size = ag := ⟨_, rfl⟩
  have HAG := hidJ hag
  clear hag
  refine range_br (k := 0) rfl h1 (gf := 62) (lb := #[.pointer (some ⟨c, 0, none⟩)]) rfl trivial (enters_of Tryz.func62 (by kernel_rfl) rfl) ?_
  intro rc hfn hrd hpe hps htm has hbo
  rw [HAG.out]
  have HS : Hid (((W0.alloc (.deferred (some []))).alloc (.loop rc)).heap.size = ag + 2 ∧ ((W0.alloc (.deferred (some []))).alloc (.loop rc)).heap[ag]? = some (.deferred (some [])) ∧ ((W0.alloc (.deferred (some []))).alloc (.loop rc)).heap[ag + 1]? = some (.loop rc) ∧ W0.grownBy ((W0.alloc (.deferred (some []))).alloc (.loop rc)) none ∧ w.heap.size + 2 ≤ ag) := by
    have q2 := HAG.out
    have k1 := World.grownBy_alloc W0 (.deferred (some [])) none
    have k2 := World.grownBy_alloc (W0.alloc (.deferred (some []))) (.loop rc) none
    have e1 := World.alloc_heap_new W0 (.deferred (some []))
    have e2 := World.alloc_heap_new (W0.alloc (.deferred (some []))) (.loop rc)
    rw [World.size_alloc] at e2
    rw [q2] at e1 e2
    exact ⟨by simp [q2], (k2.block _ (by simp [q2]) (by simp)).trans e1, e2, gb_none k1 k2, by have := H0.out.2.2.2.2.2.2.2; omega⟩
  generalize (W0.alloc (.deferred (some []))).alloc (.loop rc) = Ws at *
  obtain ⟨p1, p2, p3, p4, p7, p8, p9, p10⟩ := H0.out
  obtain ⟨s1, s2, s3, s4, s5⟩ := HS.out
  have hvlt : ∀ k, v'.ownBlock = some k → w.heap.size + 2 ≤ k ∧ k < ag := fun k hk => by have := World.ownsRow.lt p2 k hk; rw [HAG.out] at this; exact this
  refine CallsIn.mono (iterM_any (n - 1) (by omega) (ag + 1) c v' l Ws (fun k => k = w.heap.size + 1 ∨ k = ag + 1) ?cell ?row ?lab p4 HL5.out (fun k hk e => by have := hvlt k hk; omega) (fun ys W' => EvK w w.heap.size (w.heap.size + 1) ag most rc ys W' ∧ ys.length ≤ 500 ∧ ys.length < most) (fun W' => ∃ ys, EvK w w.heap.size (w.heap.size + 1) ag most { rc with state := .done, pending := some (.exit 0) } ys W' ∧ ys.map (·.1) = TM) ?hJ ?h0 ?hY) ?post
  case cell => exact (World.cell?_of_block (s4.block c (block_lt p1) (by simp))).trans p1
  case row => exact OwnK.mono (p2.keep s4) (Nat.zero_le _)
  case lab => exact fun x hx => (p3 x hx).keep s4
  case hJ => exact fun ys W1 W2 hj hg => ⟨hj.1.keep hg, hj.2⟩
  case h0 => exact ⟨⟨⟨gb_none p7 s4, ⟨by omega, by omega⟩, by omega, s2, s3, ⟨_, p9.kept s4 (by simp), OwnK.nil _ _⟩⟩, p8.kept s4 (by simp), ⟨by omega, by omega⟩, fun x hx => by cases hx⟩, by simp, by simp; omega⟩
  case hY =>
    rintro ys x r W0' W1 ⟨hj0, hl, hmo⟩ hg01 hsz hmr hu1 hu2
    have hlm : ys.length + 1 ≤ 500 := by
      have := congrArg List.length hmr
      rw [List.length_append, List.length_map, List.length_map, List.length_cons] at this
      have := HL5.out
      omega
    have hj := hj0.keep hg01
    have hu1' : OwnLL W1 (ag + 2) x.2.1 x.1.fir := hu1.mono (by omega)
    have hu2' : OwnLL W1 (ag + 2) x.2.2 x.1.res := hu2.mono (by omega)
    rw [s1]
    clear hj0 hu1 hu2 hg01 hsz
    refine YieldAt.mono (yield_br (k := 0) (R := fun W' => (EvK w w.heap.size (w.heap.size + 1) ag most rc (ys ++ [x]) W' ∧ (ys ++ [x]).length ≤ 500 ∧ (ys ++ [x]).length < most) ∧ Ch W1 W' (fun k => (k = w.heap.size + 1 ∨ k = ag + 1) ∨ ag + 2 ≤ k) ∧ LLk W1 W') (Rx := fun W' => (∃ ys, EvK w w.heap.size (w.heap.size + 1) ag most { rc with state := .done, pending := some (.exit 0) } ys W' ∧ ys.map (·.1) = TM) ∧ Ch W1 W' (fun k => (k = w.heap.size + 1 ∨ k = ag + 1) ∨ ag + 2 ≤ k) ∧ LLk W1 W') has hbo hps htm hj.sq.rcd hrd rfl hfn ?_) ?_
    · clear has hbo hps htm
      obtain ⟨⟨m, fv, sv⟩, hx⟩ : ∃ y : MkX, x = y := ⟨x, rfl⟩
      subst hx
      obtain ⟨fa, fc, ef⟩ := hu1'.shape
      obtain ⟨sa, sc, es⟩ := hu2'.shape
      dsimp only at ef es hu1' hu2' hmr
      subst ef es
      obtain ⟨br, hbr⟩ : ∃ br, br = ByteArray.mk ⟨m.rcv⟩ := ⟨_, rfl⟩
      obtain ⟨bk, hbk⟩ : ∃ bk, bk = ByteArray.mk ⟨m.key⟩ := ⟨_, rfl⟩
      obtain ⟨tm, htm2⟩ : ∃ tm, tm = m.tim := ⟨_, rfl⟩
      obtain ⟨nf, hnf1⟩ : ∃ nf, nf = m.fir.length := ⟨_, rfl⟩
      obtain ⟨ns, hns1⟩ : ∃ ns, ns = m.res.length := ⟨_, rfl⟩
      have hal := World.grownBy_alloc W1 (.cells #[.string br, .string bk, .int .i64 tm, .slice fa nf fc, .slice sa ns sc] 34) none
      have hk := hj.keep hal
      have HK := hidJ hk.sq.rcd
      have hB0 := hk.put (rc' := { rc with state := .busy })
      have hcb : Ch W1 ((W1.alloc (.cells #[.string br, .string bk, .int .i64 tm, .slice fa nf fc, .slice sa ns sc] 34)).putObj (ag + 1) (.loop { rc with state := .busy })) (fun j => j = ag + 1) := (Ch.of_gb (S := fun j => j = ag + 1) hal (fun k hk => by cases hk)).trans (putRec_ch _ _ _) (fun _ _ e => e)
      have hlb : LLk W1 ((W1.alloc (.cells #[.string br, .string bk, .int .i64 tm, .slice fa nf fc, .slice sa ns sc] 34)).putObj (ag + 1) (.loop { rc with state := .busy })) := (LLk.gb hal).trans (LLk.rec hk.sq.rcd _)
      have HCB := hidJ (And.intro hcb hlb)
      have hnb : B5 ((W1.alloc (.cells #[.string br, .string bk, .int .i64 tm, .slice fa nf fc, .slice sa ns sc] 34)).putObj (ag + 1) (.loop { rc with state := .busy })) W1.heap.size 34 (.string br) (.string bk) (.int .i64 tm) (.slice fa nf fc) (.slice sa ns sc) := (B5.new W1 34 _ _ _ _ _).ch (putRec_ch _ _ _) (by have := hj.sq.place; omega)
      obtain ⟨y0, y1, y2, y3, y4⟩ := hnb.cells
      obtain ⟨aL, cL, a2, c2, W4, r1, r2, r3, r4, r5, r6, r7, r8⟩ := hB0.more (m, .slice fa m.fir.length fc, .slice sa m.res.length sc) (by omega) (hlb _ _ _ hu1') (hlb _ _ _ hu2')
      have x0 := r5.b0.cell
      have HX := hidJ (And.intro hrd (And.intro hpe (And.intro hlm (And.intro hmr hmo))))
      unfold mkC at r2
      dsimp only at r2
      unfold markX markV
      dsimp only
      rw [← hbr, ← hbk, ← htm2, ← hnf1, ← hns1] at r2 ⊢
      rw [← hnf1, ← hns1] at r5
      have H5 := hidJ (And.intro r5 (And.intro r6 r8))
      clear hk hB0 hcb hlb hnb hal hj hrd hpe hfn hmr hu1' hu2' r5 r6 r8 hbr hbk htm2 hnf1 hns1
      obtain ⟨nl, hnl⟩ : ∃ nl, ys.length = nl := ⟨_, rfl⟩
      rw [hnl] at r1 r2 r3 r7 x0 hl hmo hlm
      have HNL := hidJ hnl
      clear hnl
      have HLM := hidJ (And.intro hl (And.intro hmo hlm))
      clear hmo
      by_cases hme : most = nl + 1
      · have hmj : ¬ (nl : Int) + 1 < (most : Int) := by omega
        have hmk : (most : Int) ≤ (nl : Int) + 1 := by omega
        have HQ : Hid (∀ W', EvK w w.heap.size (w.heap.size + 1) ag most { rc with state := .busy } (ys ++ [(m, .slice fa nf fc, .slice sa ns sc)]) W' → ∃ ys, EvK w w.heap.size (w.heap.size + 1) ag most { rc with state := .done, pending := some (.exit 0) } ys (W'.putObj (ag + 1) (.loop { rc with state := .done, pending := some (.exit 0) })) ∧ ys.map (·.1) = TM) := by
          intro W' hcj
          refine ⟨_, hcj.put, ?_⟩
          have e2 := HX.out.2.2.2.1
          rw [HTM.out, List.map_take, e2, hme]
          have e3 : (ys.map (·.1)).length = nl := by rw [List.length_map]; exact HNL.out
          rw [List.take_append, e3, List.take_of_length_le (by omega)]
          simp
        clear hme
        gi_wp2
        refine ⟨HK.out, ?_⟩
        generalize (W1.alloc (.cells #[.string br, .string bk, .int .i64 tm, .slice fa nf fc, .slice sa ns sc] 34)).putObj (ag + 1) (.loop { rc with state := .busy }) = Wb at *
        generalize W1.heap.size = sb at *
        clear HK
        gi_wp2_with (gi_at_builtin; refine wpIn_appRun rfl _ _ 46 rfl _ _ _ rfl rfl r2 ?_)
        have hfin := H5.out
        rw [HNL.out] at hfin
        have hp := hfin.1.sq.place
        refine ⟨hfin.1.sq.rcd, HQ.out _ hfin.1, ?_, ?_⟩
        · refine ((HCB.out.1.mono (T := fun k => (k = w.heap.size + 1 ∨ k = ag + 1) ∨ ag + 2 ≤ k) (fun k _ e => by omega)).trans hfin.2.1 (fun k _ e => by unfold SkF at e; omega)).trans (putRec_ch _ _ _) (fun k _ e => by omega)
        · exact (HCB.out.2.trans hfin.2.2).trans (LLk.rec hfin.1.sq.rcd _)
      · have hmj : (nl : Int) + 1 < (most : Int) := by have := HLM.out.2.1; omega
        have hmk : ¬ (most : Int) ≤ (nl : Int) + 1 := by have := HLM.out.2.1; omega
        have HQ : Hid ((ys ++ [((m, .slice fa nf fc, .slice sa ns sc) : MkX)]).length ≤ 500 ∧ (ys ++ [((m, .slice fa nf fc, .slice sa ns sc) : MkX)]).length < most) := by
          have := HLM.out
          rw [Hid, List.length_append, HNL.out]
          simp only [List.length_cons, List.length_nil]
          omega
        clear hme
        gi_wp2
        refine ⟨HK.out, ?_⟩
        generalize (W1.alloc (.cells #[.string br, .string bk, .int .i64 tm, .slice fa nf fc, .slice sa ns sc] 34)).putObj (ag + 1) (.loop { rc with state := .busy }) = Wb at *
        generalize W1.heap.size = sb at *
        clear HK
        gi_wp2_with (gi_at_builtin; refine wpIn_appRun rfl _ _ 46 rfl _ _ _ rfl rfl r2 ?_)
        have hfin := H5.out
        rw [HNL.out] at hfin
        have hp := hfin.1.sq.place
        have hQ := HQ.out
        simp only [List.length_append, List.length_cons, List.length_nil, Nat.zero_add] at hQ
        refine ⟨hfin.1.sq.rcd, ⟨?_, by first | exact HQ.out | exact hQ | omega⟩, ?_, ?_⟩
        · have := hfin.1.put (rc' := { rc with state := .ready, pending := none })
          rw [ready_same HX.out.1 HX.out.2.1] at this ⊢
          exact this
        · refine ((HCB.out.1.mono (T := fun k => (k = w.heap.size + 1 ∨ k = ag + 1) ∨ ag + 2 ≤ k) (fun k _ e => by omega)).trans hfin.2.1 (fun k _ e => by unfold SkF at e; omega)).trans (putRec_ch _ _ _) (fun k _ e => by omega)
        · exact (HCB.out.2.trans hfin.2.2).trans (LLk.rec hfin.1.sq.rcd _)
    · rintro e W' (⟨q1, q2, q4⟩ | ⟨q1, q2, q4⟩)
      · exact ⟨.inl ⟨q1, q2⟩, q4⟩
      · exact ⟨.inr ⟨q1, q2⟩, q4⟩
  case post =>
    rintro e W' ⟨⟨x, rfl⟩, hq⟩
    refine ⟨⟨x, rfl⟩, ?_⟩
    rcases hq with ⟨ys, hlm, hj, -, hmo⟩ | ⟨ys, hj, hlm⟩
    · refine .inl ⟨hj.sq.rcd, ?_⟩
      have hj7 := hj.put (rc' := { rc with state := .exhausted })
      have HM : Hid (ys.map (·.1) = TM) := by
        have := congrArg List.length hlm
        rw [List.length_map, List.length_map] at this
        rw [Hid, hlm, HTM.out, List.take_of_length_le (by omega)]
      clear has hbo hps htm hrd hpe hfn hj hlm hmo
      generalize W'.putObj (ag + 1) (.loop { rc with state := .exhausted }) = W7 at *
      obtain ⟨d1, a', n', c', z0, z1, z2, z3⟩ := hj7.fin
      have HZ := hidJ (And.intro d1 (And.intro z1 (And.intro z2 z3)))
      clear d1 z1 z2 z3 hj7
      gi_wp2
      refine ⟨by simp, .inl ⟨_, _, rfl, run_takeDeferred HZ.out.1, ?_⟩⟩
      refine ⟨_, results_tmp rfl _ _ _, ?_⟩
      exact ⟨.slice a' n' c', ys, rfl, ⟨OwnK.mono HZ.out.2.1 (by omega), fun x hx => ⟨(HZ.out.2.2.1 x hx).1.mono (by omega), (HZ.out.2.2.1 x hx).2.mono (by omega)⟩⟩, HM.out, HZ.out.2.2.2⟩
    · refine .inr ⟨hj.sq.rcd, ?_⟩
      have hj7 := hj.put (rc' := { rc with state := .exhausted, pending := some (.exit 0) })
      have HM : Hid (ys.map (·.1) = TM) := hlm
      clear has hbo hps htm hrd hpe hfn hj hlm
      generalize W'.putObj (ag + 1) (.loop { rc with state := .exhausted, pending := some (.exit 0) }) = W7 at *
      obtain ⟨d1, a', n', c', z0, z1, z2, z3⟩ := hj7.fin
      have HZ := hidJ (And.intro d1 (And.intro z1 (And.intro z2 z3)))
      clear d1 z1 z2 z3 hj7
      gi_wp2
      refine ⟨by simp, .inl ⟨_, _, rfl, run_takeDeferred HZ.out.1, ?_⟩⟩
      refine ⟨_, results_tmp rfl _ _ _, ?_⟩
      exact ⟨.slice a' n' c', ys, rfl, ⟨OwnK.mono HZ.out.2.1 (by omega), fun x hx => ⟨(HZ.out.2.2.1 x hx).1.mono (by omega), (HZ.out.2.2.1 x hx).2.mono (by omega)⟩⟩, HM.out, HZ.out.2.2.2⟩
theorem everyX_any (w : World) (gx : Nat) (v : Value) (l : List MkX) (most : Nat) (hmost : 1 ≤ most ∧ most ≤ 1000) (h : LgX w gx v l) :
    Calls Tryz.prog 26 #[.pointer (some ⟨gx, 0, none⟩), .int .i64 (most : Int)] w fun e w' => ∃ v' ys, e = .returned v' ∧ OwnKL w' w.heap.size v' ys ∧ ys.map (·.1) = (l.take most).map (·.1) ∧ w.grownBy w' none := callsIn_wide.1 (everyX_in 8 (by omega) w gx v l most hmost h)
end Go.Proofs.YtpglhdnepmcahaaGreatDoor
