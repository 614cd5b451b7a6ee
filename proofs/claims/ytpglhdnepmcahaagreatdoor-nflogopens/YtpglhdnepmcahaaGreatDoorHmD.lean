/-
  Nkl, Nkm, in one text.
-/
import Derived.Test.YtpglhdnepmcahaaGreatDoorNkE
import Derived.Test.YtpglhdnepmcahaaGreatDoorHmC
/- Nkl -/
namespace Go.Proofs.YtpglhdnepmcahaaGreatDoor
open Go.RowKit Go.Shelf Go.Sort

attribute [local go_sem] Oper.semAt_some

/-- what is shown without a fence holds in a round, where nothing is put off -/
theorem operIn_plain {n l : Nat} {P : Program} {o : Oper} {a : Act} {w : World} {K : Act → World → Prop} {Q : Exit → Act → World → Prop} (hd : ∀ c, o.op ≠ .defer c) (h : o.wp P a w K Q) : o.wpIn (Fence.wide.inRound l) n P a w K Q := by
  unfold Oper.wpIn
  refine ⟨fun _ _ => trivial, ?_⟩
  rw [show o.semAt (Fence.wide.inRound l).round a.eval = execOp a.eval o from Oper.semAt_some l a.eval o hd]
  unfold Oper.wp at h
  generalize (execOp a.eval o).run P w = r at *
  cases r with
  | ok x w' =>
    cases x with
    | value v => exact h
    | skip => exact h
    | defer d => exact h
    | enter f args => exact ⟨(fun e => by cases e), callsIn_wide.2 h⟩
    | row row args => 
      refine ⟨(fun e => by cases e), fun c cs _ => ?_⟩
      obtain ⟨v, w'', r, s⟩ := h c cs
      exact ⟨v, w'', r, stepsIn_wide.2 s⟩
    | _ => exact h.elim
  | halt x w' =>
    cases x with
    | panic v => exact h
    | _ => exact h.elim
theorem opsIn_plain {n l : Nat} {P : Program} {ops : Array Oper} {Q : Exit → Act → World → Prop} (hQ : ¬ LetsOut Q) (hd : ∀ (i : Nat) o, ops[i]? = some o → ∀ c, o.op ≠ .defer c) : ∀ (is : List Nat) (a : Act) (w : World), wpOps P ops Q is a w → wpOpsIn (Fence.wide.inRound l) n P ops Q is a w
  | [], _, _, h => h
  | i :: rest, a, w, h => by
    rw [wpOps_cons] at h
    rw [wpOpsIn_cons]
    unfold wpOp at h
    unfold wpOpIn
    split
    · rename_i ho
      simp only [ho] at h
      exact opsIn_plain hQ hd rest _ _ h
    · rename_i o ho
      simp only [ho] at h
      split
      · rename_i hw
        simp only [hw, if_true] at h
        rcases h with h | h
        · exact operIn_plain (hd i o ho) (Oper.wp_mono (fun a w => opsIn_plain hQ hd rest a w) h)
        · exact absurd h.2 hQ
      · rename_i hw
        simp only [hw] at h
        exact ⟨fun _ _ => trivial, opsIn_plain hQ hd rest _ _ h⟩
def noDeferO (o : Oper) : Bool := match o.op with | .defer _ => false | _ => true
theorem region_round {n l id : Nat} {P : Program} {Q : Exit → Act → World → Prop} {a : Act} {w : World} {ls : List Oper} (hQ : ¬ LetsOut Q) (hd : ls.all noDeferO = true) (hm : P.follows .mixedOrders = true)
    (h : wpAny P .any ls.toArray Q ls.toArray.size (Array.replicate ls.toArray.size false) a w.drew) : (Code.region id ls.toArray true).wpIn (Fence.wide.inRound l) n P Q a w := by
  refine wpIn_region_draw fun t => ?_
  refine opsIn_plain hQ (fun i o ho c e => ?_) _ _ _ ?_
  · have := List.all_eq_true.1 hd o (by simpa using List.mem_of_getElem? (by simpa using ho))
    unfold noDeferO at this
    rw [e] at this
    cases this
  · simp only [Region.schedule, hm, Bool.true_or, if_true]
    exact wpAny_sound _ t _ a _ h
/-- an append by a run that is known, as a step -/
theorem oper_appRun {w w' : World} {o : Oper} {a : Act} {K : Act → World → Prop} {Q : Exit → Act → World → Prop} (s x : Operand) (T : TypeId)
    (ho : o.op = .call { callee := .builtin .append, args := #[s, x], argTypes := #[T, T] }) (vs vx v' : Value) (hs : a.eval s = vs) (hx : a.eval x = vx)
    (hr : (Builtin.append_ #[T, T] o.type #[vs, vx]).run Tryz.prog w = .ok v' w') (h : K (a.put o.dst v') w') : Oper.wp Tryz.prog o a w K Q := by
  unfold Oper.wp execOp
  simp only [ho, resolve, invoke, builtin, Sem.run_bind, Sem.run_pure, Result.andThen_ok, List.map_toArray, List.map_cons, List.map_nil, hs, hx, hr]
  exact h

/-- Records between two rounds -/
structure ReK (w : World) (bx ag : Nat) (rc : Loop) (bss : List (List UInt8)) (W : World) : Prop where
  old : w.grownBy W none
  lo : w.heap.size ≤ bx ∧ bx < ag
  place : ag + 2 ≤ W.heap.size
  df : W.heap[ag]? = some (.deferred (some []))
  rcd : W.heap[ag + 1]? = some (.loop rc)
  row : ∃ vL, Boxed W bx 22 vL ∧ OwnBB W (ag + 2) vL bss
theorem OwnBB.ch {w w' : World} {base : Nat} {v : Value} {bss : List (List UInt8)} {S : Nat → Prop} (h : OwnBB w base v bss) (hc : Ch w w' S) (hS : ∀ k, S k → k < base) : OwnBB w' base v bss := by
  obtain ⟨vs, h1, h2, h3⟩ := h
  exact ⟨vs, row_ch h1 hc (fun k hk e => by have := (World.ownsRow.lt h1 k hk).1; have := hS k e; omega), h2, fun j => row_ch (h3 j) hc (fun k hk e => by have := (World.ownsRow.lt (h3 j) k hk).1; have := hS k e; omega)⟩
theorem OwnBB.mono {w : World} {base base' : Nat} {v : Value} {bss : List (List UInt8)} (h : OwnBB w base v bss) (hb : base' ≤ base) : OwnBB w base' v bss := by
  obtain ⟨vs, h1, h2, h3⟩ := h
  refine ⟨vs, ⟨h1.1, ?_⟩, h2, fun j => (h3 j).mono hb⟩
  rcases h1.2 with h' | ⟨g, cap, cur, hv, hg, r⟩
  · exact .inl h'
  · exact .inr ⟨g, cap, cur, hv, by omega, r⟩
section
variable {w W W' : World} {bx ag : Nat} {rc rc' : Loop} {bss : List (List UInt8)}
theorem ReK.keep (h : ReK w bx ag rc bss W) (hg : W.grownBy W' none) : ReK w bx ag rc bss W' := by
  have hp := h.place
  have hz := hg.size
  obtain ⟨vL, c3, c4⟩ := h.row
  exact ⟨gb_none h.old hg, h.lo, by omega, (hg.block _ (some_lt2 h.df) (by simp)).trans h.df, (hg.block _ (some_lt2 h.rcd) (by simp)).trans h.rcd, ⟨vL, c3.kept hg (by simp), c4.keep hg⟩⟩
theorem ReK.put (h : ReK w bx ag rc bss W) : ReK w bx ag rc' bss (W.putObj (ag + 1) (.loop rc')) := by
  have hp := h.place
  have hlo := h.lo
  have hc := putRec_ch W (ag + 1) (.loop rc')
  obtain ⟨vL, c3, c4⟩ := h.row
  exact ⟨gb_ch h.old hc (fun k e => by omega), h.lo, by simpa using hp, (hc.block (some_lt2 h.df) (by omega)).trans h.df, World.putObj_heap_same (some_lt2 h.rcd), ⟨vL, bxch c3 hc (by omega), c4.ch hc (fun k e => by omega)⟩⟩
theorem ReK.more {u : Value} {bs : List UInt8} (h : ReK w bx ag rc bss W) (hu : Own W (ag + 2) u bs) (hl : bss.length ≤ 1000) :
    ∃ aL cL a2 c2 W2, W.cell? ⟨bx, 0, none⟩ = some (.slice aL bss.length cL) ∧ (Builtin.append_ #[22, 22] 22 #[.slice aL bss.length cL, .slice (some ⟨W.heap.size, 0, none⟩) 1 1]).run Tryz.prog (W.alloc (.cells #[u] 42)) = .ok (.slice a2 (bss.length + 1) c2) W2 ∧
      W2.cell? ⟨bx, 0, none⟩ = some (.slice aL bss.length cL) ∧ W2.frozen? ⟨bx, 0, none⟩ = false ∧ ReK w bx ag rc (bss ++ [bs]) (W2.setCell ⟨bx, 0, none⟩ (.slice a2 (bss.length + 1) c2)) ∧ Ch W (W2.setCell ⟨bx, 0, none⟩ (.slice a2 (bss.length + 1) c2)) (SkF bx ag) ∧
      LLk W (W2.setCell ⟨bx, 0, none⟩ (.slice a2 (bss.length + 1) c2)) := by
  have hp := h.place
  have hlo := h.lo
  obtain ⟨vL, c3, c4⟩ := h.row
  obtain ⟨a2, c2, W2, hrun, ho, k2⟩ := c4.push (by omega) hu (by omega)
  obtain ⟨aL, cL, rfl⟩ := c4.shape
  have hvL : ∀ k, (Value.slice aL bss.length cL).ownBlock = some k → ag + 2 ≤ k := fun k hk => by
    obtain ⟨vs, p1, -⟩ := c4
    exact (World.ownsRow.lt p1 k hk).1
  have n1 : ∀ k, k < ag + 2 → ¬ (Value.slice aL bss.length cL).ownBlock = some k := fun k hk e => by have := hvL k e; omega
  have bL := bxch c3 k2 (n1 _ (by omega))
  have k3 := set_ch W2 bx 0 (.slice a2 (bss.length + 1) c2)
  have hz2' := k2.size
  have hz3 : (W2.setCell ⟨bx, 0, none⟩ (.slice a2 (bss.length + 1) c2)).heap.size = W2.heap.size := by simp
  refine ⟨aL, cL, a2, c2, W2, c3.cell, hrun, bL.cell, bL.frozen, ?_, ?_, (LLk.ch k2 (fun k e => ?_)).trans (LLk.ch k3 (fun k e => ?_))⟩
  · have d1 := (k2.block (some_lt2 h.df) (n1 _ (by omega))).trans h.df
    have r1 := (k2.block (some_lt2 h.rcd) (n1 _ (by omega))).trans h.rcd
    exact ⟨gb_ch (gb_ch h.old k2 (fun k e => by have := hvL k e; omega)) k3 (fun k e => by omega), h.lo, by omega, (k3.block (some_lt2 d1) (by omega)).trans d1, (k3.block (some_lt2 r1) (by omega)).trans r1, ⟨.slice a2 (bss.length + 1) c2, bL.set _, ho.ch k3 (fun k e => by omega)⟩⟩
  · refine (k2.mono (T := SkF bx ag) (fun k _ e => ?_)).trans k3 (fun k _ e => ?_)
    · have := hvL k e
      unfold SkF
      omega
    · have e' : k = bx := e
      unfold SkF
      omega
  · obtain ⟨vs, p1, -⟩ := c4
    obtain ⟨cur, hb⟩ := row_objE p1 e
    exact ⟨cur, _, _, hb, by decide, by decide⟩
  · rw [show k = bx from e]
    exact ⟨_, _, _, bL, by decide, by decide⟩
theorem ReK.fin (h : ReK w bx ag rc bss W) : W.heap[ag]? = some (.deferred (some [])) ∧ ∃ a n c, W.cell? ⟨bx, 0, none⟩ = some (.slice a n c) ∧ OwnBB (W.putObj ag (.deferred none)) (ag + 2) (.slice a n c) bss ∧ w.grownBy (W.putObj ag (.deferred none)) none := by
  obtain ⟨vL, c3, c4⟩ := h.row
  have hp := h.place
  have hlo := h.lo
  have k2 := putRec_ch W ag (.deferred none)
  obtain ⟨a, c, rfl⟩ := c4.shape
  exact ⟨h.df, a, _, c, c3.cell, c4.ch k2 (fun k e => by omega), gb_ch h.old k2 (fun k e => by omega)⟩
end
theorem recs_map {l l' : List MkX} (h : l.map (·.1) = l'.map (·.1)) : recsL l = recsL l' := by
  have e : ∀ x : List MkX, recsL x = (x.map (·.1)).map recS := fun x => by unfold recsL; rw [List.map_map]; rfl
  rw [e, e, h]
theorem recs_push (ys : List MkX) (x : MkX) : recsL (ys ++ [x]) = recsL ys ++ [recS x.1] := by
  unfold recsL
  rw [List.map_append]
  rfl
end Go.Proofs.YtpglhdnepmcahaaGreatDoor

/- Nkm -/
namespace Go.Proofs.YtpglhdnepmcahaaGreatDoor
open Go.RowKit Go.Shelf Go.Sort

attribute [local go_sem] Oper.semAt_some

set_option maxRecDepth 100000 in
set_option maxHeartbeats 6400000 in
theorem recordsX_in (n : Nat) (hn : 8 ≤ n) (w : World) (gx : Nat) (v : Value) (l : List MkX) (h : LgX w gx v l) (hT : U8S w) :
    CallsIn Fence.wide n Tryz.prog 9 #[.pointer (some ⟨gx, 0, none⟩)] w fun e w' => ∃ v', e = .returned v' ∧ OwnBB w' w.heap.size v' (recsL l) ∧ w.grownBy w' none := by
  have h1 : 1 ≤ n := by omega
  have HL5 := hidJ h.len
  have HTb := hidJ hT
  have HEa := hidJ (fun x (hx : x ∈ l) => And.intro (h.each x hx).1.inF (And.intro (h.each x hx).1.inR (And.intro (h.each x hx).1.inr (And.intro (h.each x hx).1.ink (h.each x hx).2))))
  have HA : Hid (∀ W, W = w.alloc (.cells #[.slice none 0 0] 22) → (Calls Tryz.prog 31 #[.pointer (some ⟨gx, 0, none⟩)] W fun e w' => ∃ c v', e = .returned (.func (.func 62) #[] #[.pointer (some ⟨c, 0, none⟩)]) ∧ Hid (w'.cell? ⟨c, 0, none⟩ = some v' ∧ OwnK w' (w.heap.size + 1) v' l ∧ (∀ x ∈ l, MkO w' x) ∧ (∀ x ∈ l, LLs x.1.fir ∧ LLs x.1.res) ∧ w.grownBy w' none ∧ Boxed w' w.heap.size 22 (.slice none 0 0) ∧ w.heap.size + 1 ≤ w'.heap.size))) := by
    rintro W rfl
    have k := World.grownBy_alloc w (.cells #[.slice none 0 0] 22) none
    have x0 := Boxed.new w 22 (.slice none 0 0)
    refine (allX_any _ gx v l (h.keep k)).mono ?_
    rintro e w' ⟨c, v', q1, q2, q3, q4⟩
    simp only [World.size_alloc] at q3
    exact ⟨c, v', q1, q2, q3, fun x hx => ((h.each x hx).1.keep k).keep q4, fun x hx => right_LLs (h.each x hx).2, gb_none k q4, x0.kept q4 (by simp), by have := q4.size; simp at this; omega⟩
  clear h hT
  refine callsIn_of_wp_marks Tryz.func9 rfl trivial ?_ rfl
  simp only [Tryz.ntmps9, List.size_toArray, List.length_cons, List.length_nil, Nat.reduceAdd, Nat.reduceSub, Array.replicate_succ, Array.replicate_zero, List.push_toArray, List.append_toArray, List.nil_append, List.cons_append]
  gi_wp2_with fail
  refine ⟨trivial, ?_⟩
  gi_at_call 31
  refine (callsIn_wide.2 (HA.out _ rfl)).mono ?_
  rintro e W0 ⟨c, v', rfl, H0⟩
  clear HA
  gi_wp2_with fail
  obtain ⟨ag, hag⟩ : ∃ ag, W0.heap.size = ag := ⟨_, rfl⟩
  have HAG := hidJ hag
  clear hag
  refine range_br (k := 0) rfl h1 (gf := 62) (lb := #[.pointer (some ⟨c, 0, none⟩)]) rfl trivial (enters_of Tryz.func62 (by kernel_rfl) rfl) ?_
  intro rc hfn hrd hpe hps htm has hbo
  rw [HAG.out]
  have HS : Hid (((W0.alloc (.deferred (some []))).alloc (.loop rc)).heap.size = ag + 2 ∧ ((W0.alloc (.deferred (some []))).alloc (.loop rc)).heap[ag]? = some (.deferred (some [])) ∧ ((W0.alloc (.deferred (some []))).alloc (.loop rc)).heap[ag + 1]? = some (.loop rc) ∧ W0.grownBy ((W0.alloc (.deferred (some []))).alloc (.loop rc)) none ∧ w.heap.size + 1 ≤ ag) := by
    have q2 := HAG.out
    have k1 := World.grownBy_alloc W0 (.deferred (some [])) none
    have k2 := World.grownBy_alloc (W0.alloc (.deferred (some []))) (.loop rc) none
    have e1 := World.alloc_heap_new W0 (.deferred (some []))
    have e2 := World.alloc_heap_new (W0.alloc (.deferred (some []))) (.loop rc)
    rw [World.size_alloc] at e2
    rw [q2] at e1 e2
    exact ⟨by simp [q2], (k2.block _ (by simp [q2]) (by simp)).trans e1, e2, gb_none k1 k2, by have := H0.out.2.2.2.2.2.2; omega⟩
  generalize (W0.alloc (.deferred (some []))).alloc (.loop rc) = Ws at *
  obtain ⟨p1, p2, p3, p4, p7, p8, p10⟩ := H0.out
  obtain ⟨s1, s2, s3, s4, s5⟩ := HS.out
  have hvlt : ∀ k, v'.ownBlock = some k → w.heap.size + 1 ≤ k ∧ k < ag := fun k hk => by have := World.ownsRow.lt p2 k hk; rw [HAG.out] at this; exact this
  refine CallsIn.mono (iterM_any (n - 1) (by omega) (ag + 1) c v' l Ws (fun k => k = w.heap.size ∨ k = ag + 1) ?cell ?row ?lab p4 HL5.out (fun k hk e => by have := hvlt k hk; omega) (fun ys W' => ReK w w.heap.size ag rc (recsL ys) W' ∧ ys.length ≤ 500) (fun _ => False) ?hJ ?h0 ?hY) ?post
  case cell => exact (World.cell?_of_block (s4.block c (block_lt p1) (by simp))).trans p1
  case row => exact OwnK.mono (p2.keep s4) (Nat.zero_le _)
  case lab => exact fun x hx => (p3 x hx).keep s4
  case hJ => exact fun ys W1 W2 hj hg => ⟨hj.1.keep hg, hj.2⟩
  case h0 => exact ⟨⟨gb_none p7 s4, ⟨Nat.le_refl _, by omega⟩, by omega, s2, s3, ⟨_, p8.kept s4 (by simp), OwnBB.nil _ _⟩⟩, by simp⟩
  case hY =>
    rintro ys x r W0' W1 ⟨hj0, hl⟩ hg01 hsz hmr hu1 hu2
    have hlm : ys.length + 1 ≤ 500 := by
      have := congrArg List.length hmr
      rw [List.length_append, List.length_map, List.length_map, List.length_cons] at this
      have := HL5.out
      omega
    have hin : ∃ y ∈ l, y.1 = x.1 := by
      have : x.1 ∈ l.map (·.1) := by rw [hmr]; simp
      obtain ⟨y, hy, e⟩ := List.mem_map.1 this
      exact ⟨y, hy, e⟩
    obtain ⟨y0, hy0, hye⟩ := hin
    have hev := HEa.out y0 hy0
    rw [hye] at hev
    clear hye hy0
    have hj := hj0.keep hg01
    have hrd1 : RdM W1 x.1 x.2.1 x.2.2 := ⟨hu1.rd, hu2.rd, hev.1, hev.2.1, hev.2.2.1, hev.2.2.2.1⟩
    have hR := hev.2.2.2.2
    rw [s1]
    clear hj0 hg01 hsz hmr hev
    refine YieldAt.mono (yield_br (k := 0) (R := fun W' => (ReK w w.heap.size ag rc (recsL (ys ++ [x])) W' ∧ (ys ++ [x]).length ≤ 500) ∧ Ch W1 W' (fun k => (k = w.heap.size ∨ k = ag + 1) ∨ ag + 2 ≤ k) ∧ LLk W1 W') (Rx := fun _ => False) has hbo hps htm hj.rcd hrd rfl hfn ?_) ?_
    · clear has hbo hps htm
      obtain ⟨⟨m, fv, sv⟩, hx⟩ : ∃ y : MkX, x = y := ⟨x, rfl⟩
      subst hx
      obtain ⟨fa, fc, ef⟩ := hu1.shape
      obtain ⟨sa, sc, es⟩ := hu2.shape
      dsimp only at ef es hu1 hu2 hrd1 hR
      subst ef es
      obtain ⟨br, hbr⟩ : ∃ br, br = ByteArray.mk ⟨m.rcv⟩ := ⟨_, rfl⟩
      obtain ⟨bk, hbk⟩ : ∃ bk, bk = ByteArray.mk ⟨m.key⟩ := ⟨_, rfl⟩
      obtain ⟨tm, htm2⟩ : ∃ tm, tm = m.tim := ⟨_, rfl⟩
      obtain ⟨nf, hnf1⟩ : ∃ nf, nf = m.fir.length := ⟨_, rfl⟩
      obtain ⟨ns, hns1⟩ : ∃ ns, ns = m.res.length := ⟨_, rfl⟩
      have hal := World.grownBy_alloc W1 (.cells #[.string br, .string bk, .int .i64 tm, .slice fa nf fc, .slice sa ns sc] 34) none
      have hk := hj.keep hal
      have HK := hidJ hk.rcd
      have hB0 := hk.put (rc' := { rc with state := .busy })
      have hcb : Ch W1 ((W1.alloc (.cells #[.string br, .string bk, .int .i64 tm, .slice fa nf fc, .slice sa ns sc] 34)).putObj (ag + 1) (.loop { rc with state := .busy })) (fun j => j = ag + 1) := (Ch.of_gb (S := fun j => j = ag + 1) hal (fun k hk => by cases hk)).trans (putRec_ch _ _ _) (fun _ _ e => e)
      have hlb : LLk W1 ((W1.alloc (.cells #[.string br, .string bk, .int .i64 tm, .slice fa nf fc, .slice sa ns sc] 34)).putObj (ag + 1) (.loop { rc with state := .busy })) := (LLk.gb hal).trans (LLk.rec hk.rcd _)
      have HCB := hidJ (And.intro hcb hlb)
      have hnb : B5 ((W1.alloc (.cells #[.string br, .string bk, .int .i64 tm, .slice fa nf fc, .slice sa ns sc] 34)).putObj (ag + 1) (.loop { rc with state := .busy })) W1.heap.size 34 (.string br) (.string bk) (.int .i64 tm) (.slice fa nf fc) (.slice sa ns sc) := (B5.new W1 34 _ _ _ _ _).ch (putRec_ch _ _ _) (by have := hj.place; omega)
      have hrdb : RdM ((W1.alloc (.cells #[.string br, .string bk, .int .i64 tm, .slice fa nf fc, .slice sa ns sc] 34)).putObj (ag + 1) (.loop { rc with state := .busy })) m (.slice fa m.fir.length fc) (.slice sa m.res.length sc) := ⟨(hlb _ _ _ hu1).rd, (hlb _ _ _ hu2).rd, hrd1.inF, hrd1.inR, hrd1.inr, hrd1.ink⟩
      have hTb := HTb.out.keep hB0.old
      have HLM := hidJ (And.intro hrd (And.intro hpe (And.intro hlm hR)))
      unfold markX markV
      dsimp only
      rw [← hbr, ← hbk, ← htm2, ← hnf1, ← hns1]
      have H5 := hidJ (And.intro hB0 (And.intro hnb (And.intro hrdb hTb)))
      have HE := hidJ (And.intro hbr (And.intro hbk (And.intro htm2 (And.intro hnf1 hns1))))
      clear hk hB0 hcb hlb hnb hal hj hrd hpe hfn hu1 hu2 hrd1 hrdb hTb hbr hbk htm2 hnf1 hns1 hR hlm
      gi_wp2
      refine ⟨HK.out, ?_⟩
      generalize (W1.alloc (.cells #[.string br, .string bk, .int .i64 tm, .slice fa nf fc, .slice sa ns sc] 34)).putObj (ag + 1) (.loop { rc with state := .busy }) = Wb at *
      generalize W1.heap.size = sb at *
      clear HK
      -- the record of the mark, in whatever order the row is read
      have HW : Hid (∀ W, Wb.grownBy W none → Calls Tryz.prog 32 #[.agg #[.string br, .string bk, .int .i64 tm, .slice fa nf fc, .slice sa ns sc]] W fun e w' => ∃ a1 n1 c1, e = .returned (.slice a1 n1 c1) ∧ Hid (Own w' W.heap.size (.slice a1 n1 c1) (recS m) ∧ W.grownBy w' none)) := fun W hW => by
        have := written_any W m (.slice fa m.fir.length fc) (.slice sa m.res.length sc) (H5.out.2.2.1.keep hW) HLM.out.2.2.2 (H5.out.2.2.2.keep hW)
        unfold markV at this
        rw [← HE.out.1, ← HE.out.2.1, ← HE.out.2.2.1, ← HE.out.2.2.2.1, ← HE.out.2.2.2.2] at this
        refine this.mono ?_
        rintro e w' ⟨a1, n1, c1, q1, q2, q3⟩
        refine ⟨a1, n1, c1, q1, ?_, q3⟩
        rw [show recS m = recB m by unfold recS; rw [if_pos HLM.out.2.2.2]]
        exact q2
      obtain ⟨vL, c3, c4⟩ := H5.out.1.row
      obtain ⟨aL, cL, hvL⟩ := c4.shape
      subst hvL
      obtain ⟨nL, hnL⟩ : ∃ nL, nL = (recsL ys).length := ⟨_, rfl⟩
      have HNL := hidJ hnL
      have hnl5 : nL ≤ 1000 := by rw [hnL]; unfold recsL; rw [List.length_map]; omega
      have hS0 : Hid (Wb.drew.cell? ⟨w.heap.size, 0, none⟩ = some (.slice aL nL cL) ∧ Wb.drew.cell? ⟨sb, 0, none⟩ = some (.string br) ∧ Wb.drew.cell? ⟨sb, 1, none⟩ = some (.string bk) ∧ Wb.drew.cell? ⟨sb, 2, none⟩ = some (.int .i64 tm) ∧ Wb.drew.cell? ⟨sb, 3, none⟩ = some (.slice fa nf fc) ∧ Wb.drew.cell? ⟨sb, 4, none⟩ = some (.slice sa ns sc)) := by
        obtain ⟨y0, y1, y2, y3, y4⟩ := H5.out.2.1.cells
        exact ⟨by rw [hnL]; exact c3.cell, y0, y1, y2, y3, y4⟩
      rw [← hnL] at c3
      clear hnL
      have hsb : sb < Wb.heap.size := some_lt H5.out.2.1
      -- the row behind the call
      have HM2 : Hid (∀ W a1 n1 c1, Own W Wb.drew.heap.size (.slice a1 n1 c1) (recS m) → Wb.drew.grownBy W none →
          (W.cell? ⟨w.heap.size, 0, none⟩ = some (.slice aL nL cL) ∧ W.cell? ⟨sb, 0, none⟩ = some (.string br) ∧ W.cell? ⟨sb, 1, none⟩ = some (.string bk) ∧ W.cell? ⟨sb, 2, none⟩ = some (.int .i64 tm) ∧ W.cell? ⟨sb, 3, none⟩ = some (.slice fa nf fc) ∧ W.cell? ⟨sb, 4, none⟩ = some (.slice sa ns sc)) ∧ ((W.alloc (.cells #[.slice a1 n1 c1] 42)).cell? ⟨w.heap.size, 0, none⟩ = some (.slice aL nL cL) ∧ (W.alloc (.cells #[.slice a1 n1 c1] 42)).cell? ⟨sb, 0, none⟩ = some (.string br) ∧ (W.alloc (.cells #[.slice a1 n1 c1] 42)).cell? ⟨sb, 1, none⟩ = some (.string bk) ∧ (W.alloc (.cells #[.slice a1 n1 c1] 42)).cell? ⟨sb, 2, none⟩ = some (.int .i64 tm) ∧ (W.alloc (.cells #[.slice a1 n1 c1] 42)).cell? ⟨sb, 3, none⟩ = some (.slice fa nf fc) ∧ (W.alloc (.cells #[.slice a1 n1 c1] 42)).cell? ⟨sb, 4, none⟩ = some (.slice sa ns sc)) ∧
          ∃ a2 c2 W3, (Builtin.append_ #[22, 22] 22 #[.slice aL nL cL, .slice (some ⟨W.heap.size, 0, none⟩) 1 1]).run Tryz.prog (W.alloc (.cells #[.slice a1 n1 c1] 42)) = .ok (.slice a2 (nL + 1) c2) W3 ∧
            (W3.cell? ⟨w.heap.size, 0, none⟩ = some (.slice aL nL cL) ∧ W3.cell? ⟨sb, 0, none⟩ = some (.string br) ∧ W3.cell? ⟨sb, 1, none⟩ = some (.string bk) ∧ W3.cell? ⟨sb, 2, none⟩ = some (.int .i64 tm) ∧ W3.cell? ⟨sb, 3, none⟩ = some (.slice fa nf fc) ∧ W3.cell? ⟨sb, 4, none⟩ = some (.slice sa ns sc)) ∧ W3.frozen? ⟨w.heap.size, 0, none⟩ = false ∧ ((W3.setCell ⟨w.heap.size, 0, none⟩ (.slice a2 (nL + 1) c2)).cell? ⟨sb, 0, none⟩ = some (.string br) ∧ (W3.setCell ⟨w.heap.size, 0, none⟩ (.slice a2 (nL + 1) c2)).cell? ⟨sb, 1, none⟩ = some (.string bk) ∧ (W3.setCell ⟨w.heap.size, 0, none⟩ (.slice a2 (nL + 1) c2)).cell? ⟨sb, 2, none⟩ = some (.int .i64 tm) ∧ (W3.setCell ⟨w.heap.size, 0, none⟩ (.slice a2 (nL + 1) c2)).cell? ⟨sb, 3, none⟩ = some (.slice fa nf fc) ∧ (W3.setCell ⟨w.heap.size, 0, none⟩ (.slice a2 (nL + 1) c2)).cell? ⟨sb, 4, none⟩ = some (.slice sa ns sc)) ∧ Hid (ReK w w.heap.size ag { rc with state := .busy } (recsL (ys ++ [(m, .slice fa nf fc, .slice sa ns sc)])) (W3.setCell ⟨w.heap.size, 0, none⟩ (.slice a2 (nL + 1) c2)) ∧ Ch Wb (W3.setCell ⟨w.heap.size, 0, none⟩ (.slice a2 (nL + 1) c2)) (SkF w.heap.size ag) ∧ LLk Wb (W3.setCell ⟨w.heap.size, 0, none⟩ (.slice a2 (nL + 1) c2)))) := fun W a1 n1 c1 ho hg => by
        have hgW : Wb.grownBy W none := gb_none (gb_drew Wb none) hg
        have hR := H5.out.1.keep hgW
        have hnb := H5.out.2.1.keep hgW
        have hgA := World.grownBy_alloc W (.cells #[.slice a1 n1 c1] 42) none
        have hp := H5.out.1.place
        have hlo := H5.out.1.lo
        obtain ⟨aL', cL', a2, c2, W3, r1, r2, r3, r4, r5, r6, r7⟩ := hR.more (u := .slice a1 n1 c1) (bs := recS m) (ho.mono hp) (by rw [← HNL.out]; exact hnl5)
        rw [← HNL.out] at r1 r2 r3 r5 r6 r7
        have hc0 := (c3.kept hgW (by simp)).cell
        rw [hc0] at r1
        simp only [Option.some.injEq, Value.slice.injEq, true_and] at r1
        obtain ⟨rfl, rfl⟩ := r1
        have c3A := ((c3.kept hgW (by simp)).kept hgA (by simp)).cell
        have hnA := (hnb.keep hgA).cells
        -- the mark's own box lies apart from the row's
        have hk3 : Ch W W3 (fun k => (Value.slice aL nL cL).ownBlock = some k) := by
          obtain ⟨vL', d3, d4⟩ := hR.row
          have e := d3.cell
          rw [hc0] at e
          simp only [Option.some.injEq] at e
          subst e
          obtain ⟨a3, c4', W4, s1, s2, s3⟩ := d4.push (Nat.le_trans hp hgW.size) (ho.mono hp) (by rw [← HNL.out]; omega)
          rw [← HNL.out] at s1
          rw [r2] at s1
          simp only [Result.ok.injEq, Value.slice.injEq, true_and] at s1
          obtain ⟨-, rfl⟩ := s1
          exact s3
        have hsbR : ¬ (Value.slice aL nL cL).ownBlock = some sb := fun e => by
          obtain ⟨vL', d3, vs, d4, -⟩ := hR.row
          have e2 := d3.cell
          rw [hc0] at e2
          simp only [Option.some.injEq] at e2
          subst e2
          obtain ⟨cur, q⟩ := row_objE d4 e
          rw [show W.heap[sb]? = _ from hnb] at q
          simp at q
        have hn3 := (hnb.ch hk3 hsbR).cells
        have hsbx : sb ≠ w.heap.size := fun e => by
          have q := c3.kept hgW (by simp)
          unfold Boxed at q
          rw [← e, show W.heap[sb]? = _ from hnb] at q
          simp at q
        have hn4 := ((hnb.ch hk3 hsbR).ch (set_ch W3 w.heap.size 0 (.slice a2 (nL + 1) c2)) hsbx).cells
        refine ⟨⟨hc0, hnb.cells⟩, ⟨c3A, hnA⟩, a2, c2, W3, r2, ⟨r3, hn3⟩, r4, hn4, ?_, ?_, ?_⟩
        · rw [recs_push]
          exact r5
        · exact (Ch.of_gb (S := SkF w.heap.size ag) hgW (fun k hk => by cases hk)).trans r6 (fun k _ e => e)
        · exact (LLk.gb hgW).trans r7
      have HFin : Hid (∀ W', ReK w w.heap.size ag { rc with state := .busy } (recsL (ys ++ [(m, .slice fa nf fc, .slice sa ns sc)])) W' → Ch Wb W' (SkF w.heap.size ag) → LLk Wb W' → W'.heap[ag + 1]? = some (.loop { rc with state := .busy }) ∧ ((ReK w w.heap.size ag rc (recsL (ys ++ [(m, .slice fa nf fc, .slice sa ns sc)])) (W'.putObj (ag + 1) (.loop { rc with state := .ready, pending := none })) ∧ (ys ++ [((m, .slice fa nf fc, .slice sa ns sc) : MkX)]).length ≤ 500) ∧ Ch W1 (W'.putObj (ag + 1) (.loop { rc with state := .ready, pending := none })) (fun k => (k = w.heap.size ∨ k = ag + 1) ∨ ag + 2 ≤ k) ∧ LLk W1 (W'.putObj (ag + 1) (.loop { rc with state := .ready, pending := none })))) := fun W' q1 q2 q3 => by
        refine ⟨q1.rcd, ⟨?_, by have := HLM.out.2.2.1; simp; omega⟩, ?_, ?_⟩
        · have := q1.put (rc' := { rc with state := .ready, pending := none })
          rw [ready_same HLM.out.1 HLM.out.2.1] at this ⊢
          exact this
        · refine ((HCB.out.1.mono (T := fun k => (k = w.heap.size ∨ k = ag + 1) ∨ ag + 2 ≤ k) (fun k _ e => by omega)).trans q2 (fun k _ e => by unfold SkF at e; omega)).trans (putRec_ch _ _ _) (fun k _ e => by omega)
        · exact (HCB.out.2.trans q3).trans (LLk.rec q1.rcd _)
      clear HEa HL5 HTb c3 c4 HCB HLM H5 HE hsb
      gi_wp2_with fail
      refine region_round ?qlo rfl (by kernel_rfl) ?qre
      case qlo =>
        rintro ⟨a0, w0, h0⟩
        rcases h0 with ⟨-, ⟨h0, -⟩ | ⟨h0, -⟩⟩ <;> cases h0
      case' qre => skip
      refine wpAny_of_held (S := fun w' => w'.cell? ⟨sb, 0, none⟩ = some (.string br) ∧ w'.cell? ⟨sb, 1, none⟩ = some (.string bk) ∧ w'.cell? ⟨sb, 2, none⟩ = some (.int .i64 tm) ∧ w'.cell? ⟨sb, 3, none⟩ = some (.slice fa nf fc) ∧ w'.cell? ⟨sb, 4, none⟩ = some (.slice sa ns sc)) _ _ _ _ ?_
      refine wpAnyH_take (i := 1) (oi := { dst := some 9, op := Go.Op.load 34 (Go.Operand.tmp 4), type := 34, pos := "record.go:29", after := #[], guard := none }) (v := ?v1k) rfl (by kernel_rfl) (by kernel_rfl) (by kernel_rfl) (fun _ _ _ h => h) (Or.inl ⟨by rfl, ?y1k⟩) hS0.out.2 ?r1k
      case y1k => intro wq hSw; obtain ⟨g1, g2, g3, g4, g5⟩ := hSw; go_simp; try with_reducible rfl
      case' r1k => skip
      try simp only [Act.put, List.setIfInBounds_toArray, List.set_cons_zero, List.set_cons_succ]
      refine wpAnyH_ready (rs := [0, 2]) (by kernel_rfl) (by simp) ?_
      refine AllReadyH.cons (o := { dst := some 8, op := Go.Op.load 22 (Go.Operand.tmp 3), type := 22, pos := "record.go:29", after := #[], guard := none }) rfl (fun K hK => ?_) (AllReadyH.cons (o := { dst := some 10, op := Go.Op.call { callee := Go.Callee.value (Go.Operand.func 32), args := #[Go.Operand.tmp 9], argTypes := #[34] }, type := 42, pos := "record.go:29", after := #[{ on := 1, ground := Go.Ground.data }], guard := none }) rfl (fun K hK => ?_) AllReadyH.nil)
      · have g0 := hS0.out.1
        go_simp
        refine hK.out _ _ hS0.out.2 (fun _ => ?_)
        clear hK g0
        try simp only [Act.put, List.setIfInBounds_toArray, List.set_cons_zero, List.set_cons_succ]
        refine wpAnyH_ready (rs := [2]) (by kernel_rfl) (by simp) ?_
        refine AllReadyH.cons (o := { dst := some 10, op := Go.Op.call { callee := Go.Callee.value (Go.Operand.func 32), args := #[Go.Operand.tmp 9], argTypes := #[34] }, type := 42, pos := "record.go:29", after := #[{ on := 1, ground := Go.Ground.data }], guard := none }) rfl (fun K hK => ?_) AllReadyH.nil
        go_simp
        go_wp2_with (go_at_call 32; refine (HW.out _ (gb_drew _ none)).mono ?_; rintro e w2 ⟨a1, n1, c1, rfl, H2⟩)
        have HAp := hidJ (HM2.out w2 a1 n1 c1 H2.out.1 H2.out.2)
        refine hK.out _ _ HAp.out.1.2 (fun _ => ?_)
        clear hK
        try simp only [Act.put, List.setIfInBounds_toArray, List.set_cons_zero, List.set_cons_succ]
        refine wpAnyH_ready (rs := [3]) (by kernel_rfl) (by simp) ?_
        refine AllReadyH.cons (o := { dst := some 11, op := Go.Op.buildSlice 22 1 #[(0, Go.Operand.tmp 10)], type := 22, pos := "record.go:29", after := #[{ on := 2, ground := Go.Ground.data }], guard := none }) rfl (fun K hK => ?_) AllReadyH.nil
        go_simp
        refine hK.out _ _ HAp.out.2.1.2 (fun _ => ?_)
        clear hK
        try simp only [Act.put, List.setIfInBounds_toArray, List.set_cons_zero, List.set_cons_succ]
        refine wpAnyH_ready (rs := [4]) (by kernel_rfl) (by simp) ?_
        refine AllReadyH.cons (o := { dst := some 12, op := Go.Op.call { callee := Go.Callee.builtin Go.Builtin.append, args := #[Go.Operand.tmp 8, Go.Operand.tmp 11], argTypes := #[22, 22] }, type := 22, pos := "record.go:29", after := #[{ on := 0, ground := Go.Ground.data }, { on := 3, ground := Go.Ground.data }, { on := 2, ground := Go.Ground.chain }], guard := none }) rfl (fun K hK => ?_) AllReadyH.nil
        obtain ⟨a2, c2, W3, q1, q2, q3, q4, q5⟩ := HAp.out.2.2
        refine step_appRun rfl (.tmp 8) (.tmp 11) 22 rfl _ _ rfl rfl (nL + 1) (fun a' c' w' => a' = a2 ∧ c' = c2 ∧ w' = W3) ⟨a2, c2, W3, q1, rfl, rfl, rfl⟩ ?_
        rintro a' c' w' ⟨rfl, rfl, rfl⟩
        refine hK.out _ _ q2.2 (fun _ => ?_)
        clear hK
        try simp only [Act.put, List.setIfInBounds_toArray, List.set_cons_zero, List.set_cons_succ]
        refine wpAnyH_ready (rs := [5]) (by kernel_rfl) (by simp) ?_
        refine AllReadyH.cons (o := { dst := none, op := Go.Op.store 22 (Go.Operand.tmp 3) (Go.Operand.tmp 12), type := 0, pos := "record.go:29", after := #[{ on := 4, ground := Go.Ground.data }, { on := 4, ground := Go.Ground.chain }, { on := 0, ground := Go.Ground.phase }, { on := 1, ground := Go.Ground.phase }, { on := 2, ground := Go.Ground.phase }, { on := 3, ground := Go.Ground.phase }, { on := 4, ground := Go.Ground.phase }], guard := none }) rfl (fun K hK => ?_) AllReadyH.nil
        have g0 := q2.1
        go_simp
        refine hK.out _ _ q4 (fun _ => ?_)
        clear hK
        try simp only [Act.put, List.setIfInBounds_toArray, List.set_cons_zero, List.set_cons_succ]
        refine wpAnyH_done (by kernel_rfl) ?_ _
        have hq := HFin.out _ q5.out.1 q5.out.2.1 q5.out.2.2
        exact And.intro hq.1 (Or.inl (And.intro rfl hq.2))
      · go_simp
        go_wp2_with (go_at_call 32; refine (HW.out _ (gb_drew _ none)).mono ?_; rintro e w2 ⟨a1, n1, c1, rfl, H2⟩)
        have HAp := hidJ (HM2.out w2 a1 n1 c1 H2.out.1 H2.out.2)
        refine hK.out _ _ HAp.out.1.2 (fun _ => ?_)
        clear hK
        try simp only [Act.put, List.setIfInBounds_toArray, List.set_cons_zero, List.set_cons_succ]
        refine wpAnyH_ready (rs := [0, 3]) (by kernel_rfl) (by simp) ?_
        refine AllReadyH.cons (o := { dst := some 8, op := Go.Op.load 22 (Go.Operand.tmp 3), type := 22, pos := "record.go:29", after := #[], guard := none }) rfl (fun K hK => ?_) (AllReadyH.cons (o := { dst := some 11, op := Go.Op.buildSlice 22 1 #[(0, Go.Operand.tmp 10)], type := 22, pos := "record.go:29", after := #[{ on := 2, ground := Go.Ground.data }], guard := none }) rfl (fun K hK => ?_) AllReadyH.nil)
        · have g0 := HAp.out.1.1
          go_simp
          refine hK.out _ _ HAp.out.1.2 (fun _ => ?_)
          clear hK g0
          try simp only [Act.put, List.setIfInBounds_toArray, List.set_cons_zero, List.set_cons_succ]
          refine wpAnyH_ready (rs := [3]) (by kernel_rfl) (by simp) ?_
          refine AllReadyH.cons (o := { dst := some 11, op := Go.Op.buildSlice 22 1 #[(0, Go.Operand.tmp 10)], type := 22, pos := "record.go:29", after := #[{ on := 2, ground := Go.Ground.data }], guard := none }) rfl (fun K hK => ?_) AllReadyH.nil
          go_simp
          refine hK.out _ _ HAp.out.2.1.2 (fun _ => ?_)
          clear hK
          try simp only [Act.put, List.setIfInBounds_toArray, List.set_cons_zero, List.set_cons_succ]
          refine wpAnyH_ready (rs := [4]) (by kernel_rfl) (by simp) ?_
          refine AllReadyH.cons (o := { dst := some 12, op := Go.Op.call { callee := Go.Callee.builtin Go.Builtin.append, args := #[Go.Operand.tmp 8, Go.Operand.tmp 11], argTypes := #[22, 22] }, type := 22, pos := "record.go:29", after := #[{ on := 0, ground := Go.Ground.data }, { on := 3, ground := Go.Ground.data }, { on := 2, ground := Go.Ground.chain }], guard := none }) rfl (fun K hK => ?_) AllReadyH.nil
          obtain ⟨a2, c2, W3, q1, q2, q3, q4, q5⟩ := HAp.out.2.2
          refine step_appRun rfl (.tmp 8) (.tmp 11) 22 rfl _ _ rfl rfl (nL + 1) (fun a' c' w' => a' = a2 ∧ c' = c2 ∧ w' = W3) ⟨a2, c2, W3, q1, rfl, rfl, rfl⟩ ?_
          rintro a' c' w' ⟨rfl, rfl, rfl⟩
          refine hK.out _ _ q2.2 (fun _ => ?_)
          clear hK
          try simp only [Act.put, List.setIfInBounds_toArray, List.set_cons_zero, List.set_cons_succ]
          refine wpAnyH_ready (rs := [5]) (by kernel_rfl) (by simp) ?_
          refine AllReadyH.cons (o := { dst := none, op := Go.Op.store 22 (Go.Operand.tmp 3) (Go.Operand.tmp 12), type := 0, pos := "record.go:29", after := #[{ on := 4, ground := Go.Ground.data }, { on := 4, ground := Go.Ground.chain }, { on := 0, ground := Go.Ground.phase }, { on := 1, ground := Go.Ground.phase }, { on := 2, ground := Go.Ground.phase }, { on := 3, ground := Go.Ground.phase }, { on := 4, ground := Go.Ground.phase }], guard := none }) rfl (fun K hK => ?_) AllReadyH.nil
          have g0 := q2.1
          go_simp
          refine hK.out _ _ q4 (fun _ => ?_)
          clear hK
          try simp only [Act.put, List.setIfInBounds_toArray, List.set_cons_zero, List.set_cons_succ]
          refine wpAnyH_done (by kernel_rfl) ?_ _
          have hq := HFin.out _ q5.out.1 q5.out.2.1 q5.out.2.2
          exact And.intro hq.1 (Or.inl (And.intro rfl hq.2))
        · go_simp
          refine hK.out _ _ HAp.out.2.1.2 (fun _ => ?_)
          clear hK
          try simp only [Act.put, List.setIfInBounds_toArray, List.set_cons_zero, List.set_cons_succ]
          refine wpAnyH_ready (rs := [0]) (by kernel_rfl) (by simp) ?_
          refine AllReadyH.cons (o := { dst := some 8, op := Go.Op.load 22 (Go.Operand.tmp 3), type := 22, pos := "record.go:29", after := #[], guard := none }) rfl (fun K hK => ?_) AllReadyH.nil
          have g0 := HAp.out.2.1.1
          go_simp
          refine hK.out _ _ HAp.out.2.1.2 (fun _ => ?_)
          clear hK g0
          try simp only [Act.put, List.setIfInBounds_toArray, List.set_cons_zero, List.set_cons_succ]
          refine wpAnyH_ready (rs := [4]) (by kernel_rfl) (by simp) ?_
          refine AllReadyH.cons (o := { dst := some 12, op := Go.Op.call { callee := Go.Callee.builtin Go.Builtin.append, args := #[Go.Operand.tmp 8, Go.Operand.tmp 11], argTypes := #[22, 22] }, type := 22, pos := "record.go:29", after := #[{ on := 0, ground := Go.Ground.data }, { on := 3, ground := Go.Ground.data }, { on := 2, ground := Go.Ground.chain }], guard := none }) rfl (fun K hK => ?_) AllReadyH.nil
          obtain ⟨a2, c2, W3, q1, q2, q3, q4, q5⟩ := HAp.out.2.2
          refine step_appRun rfl (.tmp 8) (.tmp 11) 22 rfl _ _ rfl rfl (nL + 1) (fun a' c' w' => a' = a2 ∧ c' = c2 ∧ w' = W3) ⟨a2, c2, W3, q1, rfl, rfl, rfl⟩ ?_
          rintro a' c' w' ⟨rfl, rfl, rfl⟩
          refine hK.out _ _ q2.2 (fun _ => ?_)
          clear hK
          try simp only [Act.put, List.setIfInBounds_toArray, List.set_cons_zero, List.set_cons_succ]
          refine wpAnyH_ready (rs := [5]) (by kernel_rfl) (by simp) ?_
          refine AllReadyH.cons (o := { dst := none, op := Go.Op.store 22 (Go.Operand.tmp 3) (Go.Operand.tmp 12), type := 0, pos := "record.go:29", after := #[{ on := 4, ground := Go.Ground.data }, { on := 4, ground := Go.Ground.chain }, { on := 0, ground := Go.Ground.phase }, { on := 1, ground := Go.Ground.phase }, { on := 2, ground := Go.Ground.phase }, { on := 3, ground := Go.Ground.phase }, { on := 4, ground := Go.Ground.phase }], guard := none }) rfl (fun K hK => ?_) AllReadyH.nil
          have g0 := q2.1
          go_simp
          refine hK.out _ _ q4 (fun _ => ?_)
          clear hK
          try simp only [Act.put, List.setIfInBounds_toArray, List.set_cons_zero, List.set_cons_succ]
          refine wpAnyH_done (by kernel_rfl) ?_ _
          have hq := HFin.out _ q5.out.1 q5.out.2.1 q5.out.2.2
          exact And.intro hq.1 (Or.inl (And.intro rfl hq.2))
    · rintro e W' (⟨q1, q2, q4⟩ | ⟨q1, q2⟩)
      · exact ⟨.inl ⟨q1, q2⟩, q4⟩
      · exact q2.elim
  case post =>
    rintro e W' ⟨⟨x, rfl⟩, hq⟩
    refine ⟨⟨x, rfl⟩, ?_⟩
    rcases hq with ⟨ys, hlm, hj, -⟩ | hq
    · refine .inl ⟨hj.rcd, ?_⟩
      have hj7 := hj.put (rc' := { rc with state := .exhausted })
      rw [recs_map hlm] at hj7
      clear has hbo hps htm hrd hpe hfn hj hlm
      generalize W'.putObj (ag + 1) (.loop { rc with state := .exhausted }) = W7 at *
      obtain ⟨d1, a', n', c', z0, z1, z2⟩ := hj7.fin
      have HZ := hidJ (And.intro d1 (And.intro z1 z2))
      clear d1 z1 z2 hj7
      gi_wp2
      refine ⟨by simp, .inl ⟨_, _, rfl, run_takeDeferred HZ.out.1, ?_⟩⟩
      refine ⟨_, results_tmp rfl _ _ _, ?_⟩
      exact ⟨.slice a' n' c', rfl, HZ.out.2.1.mono (by omega), HZ.out.2.2⟩
    · exact hq.elim
theorem recordsX_any (w : World) (gx : Nat) (v : Value) (l : List MkX) (h : LgX w gx v l) (hT : U8S w) :
    Calls Tryz.prog 9 #[.pointer (some ⟨gx, 0, none⟩)] w fun e w' => ∃ v', e = .returned v' ∧ OwnBB w' w.heap.size v' (recsL l) ∧ w.grownBy w' none := callsIn_wide.1 (recordsX_in 8 (by omega) w gx v l h hT)
end Go.Proofs.YtpglhdnepmcahaaGreatDoor
