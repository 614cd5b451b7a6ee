/-
  Ng5, Ng6, in one text.
-/
import Derived.Test.YtpglhdnepmcahaaGreatDoorNgA
/- Ng5 -/
namespace Go.Proofs.YtpglhdnepmcahaaGreatDoor
open Go.RowKit Go.Shelf Go.Sort

/-- what a log writes: its box, its row -/
def FpL (gx : Nat) (v : Value) : Nat → Prop := fun k => k = gx ∨ v.ownBlock = some k
def LFr (gx : Nat) (w w' : World) (v v' : Value) : Prop := Ch w w' (FpL gx v) ∧ ∀ k, v'.ownBlock = some k → v.ownBlock = some k ∨ w.heap.size ≤ k
theorem LFr.of_gb {gx : Nat} {w w' : World} (v : Value) (h : w.grownBy w' none) : LFr gx w w' v v := ⟨Ch.of_gb h (fun k hk => by cases hk), fun k hk => .inl hk⟩
theorem LFr.trans {gx : Nat} {w w1 w2 : World} {v v1 v2 : Value} (h1 : LFr gx w w1 v v1) (h2 : LFr gx w1 w2 v1 v2) : LFr gx w w2 v v2 := by
  refine ⟨h1.1.trans h2.1 (fun k hk ht => ?_), fun k hk => ?_⟩
  · rcases ht with ht | ht
    · exact .inl ht
    · rcases h1.2 k ht with h | h
      · exact .inr h
      · omega
  · rcases h2.2 k hk with h | h
    · exact h1.2 k h
    · exact .inr (Nat.le_trans h1.1.size h)
theorem LFr.pre {gx : Nat} {w w1 w2 : World} {v v' : Value} (h1 : w.grownBy w1 none) (h2 : LFr gx w1 w2 v v') : LFr gx w w2 v v' := (LFr.of_gb v h1).trans h2
theorem LFr.post {gx : Nat} {w w1 w2 : World} {v v' : Value} (h1 : LFr gx w w1 v v') (h2 : w1.grownBy w2 none) : LFr gx w w2 v v' := h1.trans (LFr.of_gb v' h2)
/-- the blocks of S hold no labels, and no rows of label sets -/
def EnL (w : World) (S : Nat → Prop) : Prop := ∀ k, S k → ∃ cur t fr, w.heap[k]? = some (.cells cur t fr) ∧ t ≠ 51 ∧ t ≠ 52
theorem row_chT {w w' : World} {E : TypeId} {size : Nat} {S : Nat → Prop} {base n : Nat} {v : Value} {xs : List Value} (h : w.ownsRow base E size v n xs) (hc : Ch w w' S) (hS : EnL w S) (hE : E = 51 ∨ E = 52) : w'.ownsRow base E size v n xs := by
  refine row_ch h hc (fun k hk hs => ?_)
  obtain ⟨cur, hb⟩ := row_objE h hk
  obtain ⟨cur', t, fr, hb', h1, h2⟩ := hS k hs
  rw [hb] at hb'
  simp only [Option.some.injEq, Obj.cells.injEq] at hb'
  rcases hE with hE | hE
  · exact h1 (hb'.2.1.symm.trans hE)
  · exact h2 (hb'.2.1.symm.trans hE)
theorem OwnLL.chT {w w' : World} {base : Nat} {v : Value} {lss : List (List LbT)} {S : Nat → Prop} (h : OwnLL w base v lss) (hc : Ch w w' S) (hS : EnL w S) : OwnLL w' base v lss := by
  obtain ⟨vs, h1, h2, h3⟩ := h
  exact ⟨vs, row_chT h1 hc hS (.inr rfl), h2, fun j => row_chT (h3 j) hc hS (.inl rfl)⟩
/-- a mark whose lists are the log's own -/
structure MkO (w : World) (x : MkX) : Prop where
  fir : OwnLL w 0 x.2.1 x.1.fir
  res : OwnLL w 0 x.2.2 x.1.res
  inF : LLIn x.1.fir
  inR : LLIn x.1.res
  inr : x.1.rcv.length ≤ 1000000000000000000
  ink : x.1.key.length ≤ 1000000000000000000
theorem MkO.rd {w : World} {x : MkX} (h : MkO w x) : RdM w x.1 x.2.1 x.2.2 := ⟨h.fir.rd, h.res.rd, h.inF, h.inR, h.inr, h.ink⟩
theorem MkO.keep {w w' : World} {x : MkX} (h : MkO w x) (hg : w.grownBy w' none) : MkO w' x := ⟨h.fir.keep hg, h.res.keep hg, h.inF, h.inR, h.inr, h.ink⟩
theorem MkO.chT {w w' : World} {S : Nat → Prop} {x : MkX} (h : MkO w x) (hc : Ch w w' S) (hS : EnL w S) : MkO w' x := ⟨h.fir.chT hc hS, h.res.chT hc hS, h.inF, h.inR, h.inr, h.ink⟩
/-- the log at gx, its row v, holds these marks -/
structure LgX (w : World) (gx : Nat) (v : Value) (l : List MkX) : Prop where
  box : Boxed w gx 74 v
  row : OwnE w 0 v l
  ris : risM l
  each : ∀ x ∈ l, MkO w x ∧ rightM x.1 = 0
  len : l.length ≤ 500
theorem LgX.lg {w : World} {gx : Nat} {v : Value} {l : List MkX} (h : LgX w gx v l) : LgM w gx l := ⟨⟨v, h.box, h.row⟩, h.ris, fun x hx => ⟨(h.each x hx).1.rd, (h.each x hx).2⟩, h.len⟩
theorem LgX.keep {w w' : World} {gx : Nat} {v : Value} {l : List MkX} (h : LgX w gx v l) (hg : w.grownBy w' none) : LgX w' gx v l := ⟨h.box.kept hg (by simp), h.row.keep hg, h.ris, fun x hx => ⟨(h.each x hx).1.keep hg, (h.each x hx).2⟩, h.len⟩
theorem LgX.enl {w : World} {gx : Nat} {v : Value} {l : List MkX} (h : LgX w gx v l) : EnL w (FpL gx v) := by
  intro k hk
  rcases hk with rfl | hk
  · exact ⟨_, _, _, h.box, by decide, by decide⟩
  · obtain ⟨cur, hb⟩ := row_objE h.row hk
    exact ⟨_, _, _, hb, by decide, by decide⟩
theorem LgX.ch {w w' : World} {gx : Nat} {v : Value} {l : List MkX} {S : Nat → Prop} (h : LgX w gx v l) (hc : Ch w w' S) (hd : ∀ k, FpL gx v k → ¬ S k) (hS : EnL w S) : LgX w' gx v l :=
  ⟨bxch h.box hc (hd _ (.inl rfl)), row_ch h.row hc (fun k hk => hd k (.inr hk)), h.ris, fun x hx => ⟨(h.each x hx).1.chT hc hS, (h.each x hx).2⟩, h.len⟩
theorem LgX.row_ne {w : World} {gx : Nat} {v : Value} {l : List MkX} (h : LgX w gx v l) : v.ownBlock ≠ some gx := by
  intro e
  obtain ⟨cur, hb⟩ := row_objE h.row e
  have := h.box
  unfold Boxed at this
  rw [hb] at this
  simp at this
theorem entF_one {w : World} {l : List MkX} (h : ∀ x ∈ l, MkO w x) : ∀ u ∈ entF l, u.oneCell' = true := by
  intro u hu
  unfold entF at hu
  rw [List.mem_flatMap] at hu
  obtain ⟨x, hx, hu⟩ := hu
  exact entC_one (h x hx).fir.own (h x hx).res.own u hu
/-- laid among the others -/
theorem AtE.ris {l : List MkX} {a : LbT} {p : Nat} {x : MkX} (hs : risM l) (h : AtE l a p) (hn : hasM l a = false) (hx : keyX x = a) : risM (l.take p ++ [x] ++ l.drop p) := by
  have hne : ∀ y ∈ l, keyX y ≠ a := fun y hy e => by
    have : hasM l a = true := List.any_eq_true.2 ⟨y, hy, decide_eq_true e⟩
    rw [hn] at this
    cases this
  have hlo : ∀ y ∈ l.take p, cmpL (keyX y) a < 0 := fun y hy => by
    obtain ⟨k, hk, rfl⟩ := List.mem_iff_getElem.1 hy
    have hk2 := hk
    rw [List.length_take] at hk2
    have := h.2.1 k (by omega)
    rw [List.getElem_take]
    simpa [List.getD, show k < l.length by omega] using this
  have hhi : ∀ y ∈ l.drop p, cmpL a (keyX y) < 0 := fun y hy => by
    have hm := List.mem_of_mem_drop hy
    obtain ⟨k, hk, rfl⟩ := List.mem_iff_getElem.1 hy
    have hk2 := hk
    rw [List.length_drop] at hk2
    have h1 := h.2.2 (p + k) (by omega) (by omega)
    have e : l.getD (p + k) xZ = (l.drop p)[k] := by rw [List.getElem_drop]; simp [List.getD, show p + k < l.length by omega]
    rw [e] at h1
    have h2 : cmpL (keyX (l.drop p)[k]) a ≠ 0 := fun h0 => hne _ hm (cmpL_zero.1 h0)
    rw [cmpL_neg]
    omega
  have hs2 : (l.take p ++ l.drop p).Pairwise fun x y => cmpL (keyX x) (keyX y) < 0 := by rw [List.take_append_drop]; exact hs
  rw [List.pairwise_append] at hs2
  unfold risM
  rw [List.append_assoc, List.pairwise_append]
  refine ⟨hs2.1, ?_, ?_⟩
  · rw [List.singleton_append, List.pairwise_cons]
    exact ⟨fun y hy => by rw [hx]; exact hhi y hy, hs2.2.1⟩
  · intro y hy z hz
    rw [List.singleton_append, List.mem_cons] at hz
    rcases hz with rfl | hz
    · rw [hx]; exact hlo y hy
    · exact hs2.2.2 y hy z hz
theorem AtE.setris {l : List MkX} {a : LbT} {p : Nat} {x : MkX} (hs : risM l) (hp : p < l.length) (he : keyX (l.getD p xZ) = a) (hx : keyX x = a) : risM (l.set p x) := by
  have e : (l.set p x).map keyX = l.map keyX := by
    rw [List.map_set]
    have : (l.map keyX)[p]? = some (keyX x) := by
      rw [List.getElem?_map, hx, ← he]
      simp [List.getD, hp]
    refine List.ext_getElem? (fun i => ?_)
    rw [List.getElem?_set]
    split
    · rename_i h
      subst h
      rw [if_pos (by simpa using hp)]
      exact this.symm
    · rfl
  have h1 : (l.map keyX).Pairwise fun x y => cmpL x y < 0 := List.pairwise_map.2 hs
  rw [← e] at h1
  exact List.pairwise_map.1 h1
/-- a mark put into its place -/
def putM (l : List MkX) (x : MkX) (p : Nat) : List MkX := if hasM l (keyX x) = true then l.set p x else l.take p ++ [x] ++ l.drop p
theorem putM_len (l : List MkX) (x : MkX) (p : Nat) (hp : p ≤ l.length) : (putM l x p).length = if hasM l (keyX x) = true then l.length else l.length + 1 := by
  unfold putM
  split
  · simp
  · simp
    omega
theorem putM_mem {l : List MkX} {x y : MkX} {p : Nat} (h : y ∈ putM l x p) : y ∈ l ∨ y = x := by
  unfold putM at h
  split at h
  · exact List.mem_or_eq_of_mem_set h
  · simp only [List.mem_append, List.mem_singleton] at h
    rcases h with (h | h) | h
    · exact .inl (List.mem_of_mem_take h)
    · exact .inr h
    · exact .inl (List.mem_of_mem_drop h)
theorem putM_ris {l : List MkX} {x : MkX} {p : Nat} (hs : risM l) (h : AtE l (keyX x) p) : risM (putM l x p) := by
  unfold putM
  cases hb : hasM l (keyX x) with
  | false => simpa using h.ris hs hb rfl
  | true =>
    have h2 := h.has hs
    rw [hb] at h2
    have h3 := Bool.and_eq_true_iff.1 h2.symm
    simpa using AtE.setris hs (of_decide_eq_true h3.1) (of_decide_eq_true h3.2) rfl
/-- slices.Insert of an entry, wherever it goes -/
theorem insert_any (w : World) (b p : Nat) (v : Value) (l : List MkX) (x : MkX) (hv : OwnE w 0 v l) (hp : p ≤ l.length) (hl : l.length ≤ 500) (hb : w.heap[b]? = some (.cells (entC x).toArray 117 (0, 0))) (hbv : v.ownBlock ≠ some b) (hone : ∀ u ∈ entF l, u.oneCell' = true) (h1 : x.2.1.oneCell' = true) (h2 : x.2.2.oneCell' = true) :
    Calls Tryz.prog 73 #[v, .int .i64 (p : Int), .slice (some ⟨b, 0, none⟩) 1 1] w fun e w' => ∃ v', e = .returned v' ∧ OwnE w' 0 v' (l.take p ++ [x] ++ l.drop p) ∧ Fr w w' v v' := by
  by_cases hpe : p = l.length
  · subst hpe
    rw [List.take_length, List.drop_length, List.append_nil]
    exact insert_end w 0 b v l x hv (by omega) (Nat.zero_le _) hb h1 h2
  · rcases hv.2 with ⟨h', hn⟩ | ⟨g, c, cur, h', hr⟩
    · omega
    · subst h'
      have hbg : b ≠ g := fun e => hbv (by rw [e]; rfl)
      by_cases hc : l.length + 1 ≤ c
      · refine (insert_shift w 0 b g c p l x hv (by omega) hc hone hbg hb h1 h2).mono ?_
        rintro e w' ⟨v', rfl, q1, q2, q3⟩
        exact ⟨v', rfl, q1, q2, fun k hk => .inl (by rw [← hk, q3]; rfl)⟩
      · refine (insert_grow w 0 b g c p l x hv (Nat.zero_le _) (by omega) (by omega) (by omega) hone hb h1 h2).mono ?_
        rintro e w' ⟨v', rfl, q1, q2, q3⟩
        refine ⟨v', rfl, q1, gb_any q2 _, fun k hk => .inr ?_⟩
        rw [q3] at hk
        cases hk
        exact Nat.le_refl _
/-- a mark written over in its place -/
def setE (W : World) (g o : Nat) (x y z u v : Value) : World := ((((W.setCell ⟨g, o + 2, none⟩ x).setCell ⟨g, o + 3, none⟩ y).setCell ⟨g, o + 4, none⟩ z).setCell ⟨g, o + 5, none⟩ u).setCell ⟨g, o + 6, none⟩ v
theorem setE_ch (W : World) (g o : Nat) (x y z u v : Value) : Ch W (setE W g o x y z u v) (fun k => k = g) := by
  unfold setE
  exact ((((set_ch _ _ _ _).trans (set_ch _ _ _ _) (fun _ _ h => h)).trans (set_ch _ _ _ _) (fun _ _ h => h)).trans (set_ch _ _ _ _) (fun _ _ h => h)).trans (set_ch _ _ _ _) (fun _ _ h => h)
theorem set_blk {W : World} {g o : Nat} {cur : Array Value} {t : TypeId} {fr : Nat × Nat} (h : W.heap[g]? = some (.cells cur t fr)) (u : Value) : (W.setCell ⟨g, o, none⟩ u).heap[g]? = some (.cells (cur.setIfInBounds o u) t fr) := by
  have hl := some_lt h
  have h2 : W.heap[g] = .cells cur t fr := by
    rw [Array.getElem?_eq_getElem hl] at h
    exact Option.some.inj h
  simp only [World.setCell]
  rw [Array.getElem?_eq_getElem (by simpa using hl)]
  simp [Array.getElem_modify_self, h2]
theorem entF_set (l : List MkX) (p : Nat) (x : MkX) (hp : p < l.length) (hk : keyX (l.getD p xZ) = keyX x) : entF (l.set p x) = (((((entF l).set (p * 7 + 2) (.string (ByteArray.mk ⟨x.1.rcv⟩))).set (p * 7 + 3) (.string (ByteArray.mk ⟨x.1.key⟩))).set (p * 7 + 4) (.int .i64 x.1.tim)).set (p * 7 + 5) x.2.1).set (p * 7 + 6) x.2.2 := by
  have hk1 : (l.getD p xZ).1.rcv = x.1.rcv := congrArg Prod.fst hk
  have hk2 : (l.getD p xZ).1.key = x.1.key := congrArg Prod.snd hk
  refine List.ext_getElem? (fun i => ?_)
  by_cases hi : i < l.length * 7
  · obtain ⟨j, f, hf, rfl⟩ : ∃ j f, f < 7 ∧ i = j * 7 + f := ⟨i / 7, i % 7, Nat.mod_lt _ (by omega), by omega⟩
    have hj : j < l.length := by omega
    rw [entF_get _ j f (by simpa using hj) hf]
    have hget := entF_get l j f hj hf
    by_cases hjp : j = p
    · subst hjp
      have e : (l.set j x).getD j xZ = x := by simp [List.getD, hj]
      rw [e]
      have hlen : (entF l).length = l.length * 7 := entF_len l
      have hb : f = 0 ∨ f = 1 ∨ f = 2 ∨ f = 3 ∨ f = 4 ∨ f = 5 ∨ f = 6 := by omega
      rcases hb with rfl | rfl | rfl | rfl | rfl | rfl | rfl
      · simp [entC] at hget ⊢
        rw [hget, show (l[j]?.getD xZ).1.rcv = x.1.rcv from hk1]
      · simp [entC] at hget ⊢
        rw [hget, show (l[j]?.getD xZ).1.key = x.1.key from hk2]
      · simp [List.getElem?_set, entC, hlen]
        omega
      · simp [List.getElem?_set, entC, hlen]
        omega
      · simp [List.getElem?_set, entC, hlen]
        omega
      · simp [List.getElem?_set, entC, hlen]
        omega
      · simp [List.getElem?_set, entC, hlen]
        omega
    · have e : (l.set p x).getD j xZ = l.getD j xZ := by simp [List.getD, show ¬ p = j from fun e => hjp e.symm]
      rw [e, ← hget]
      simp only [List.getElem?_set]
      rw [if_neg (by omega), if_neg (by omega), if_neg (by omega), if_neg (by omega), if_neg (by omega)]
  · rw [List.getElem?_eq_none (by rw [entF_len]; simp; omega), List.getElem?_eq_none (by simp [entF_len]; omega)]
theorem OwnE.put {w : World} {g c p : Nat} {l : List MkX} {x : MkX} (h : OwnE w 0 (.slice (some ⟨g, 0, none⟩) l.length c) l) (hp : p < l.length) (hk : keyX (l.getD p xZ) = keyX x) : OwnE (setE w g (p * 7) (.string (ByteArray.mk ⟨x.1.rcv⟩)) (.string (ByteArray.mk ⟨x.1.key⟩)) (.int .i64 x.1.tim) x.2.1 x.2.2) 0 (.slice (some ⟨g, 0, none⟩) l.length c) (l.set p x) := by
  rcases h.2 with ⟨h', _⟩ | ⟨g', c', cur, h', hgb, hh, hnc, hcm, hcs, htake⟩
  · simp at h'
  · simp only [Value.slice.injEq, Option.some.injEq, Addr.mk.injEq, and_true, true_and] at h'
    obtain ⟨rfl, rfl⟩ := h'
    refine OwnE.of (cur := ((((cur.setIfInBounds (p * 7 + 2) (.string (ByteArray.mk ⟨x.1.rcv⟩))).setIfInBounds (p * 7 + 3) (.string (ByteArray.mk ⟨x.1.key⟩))).setIfInBounds (p * 7 + 4) (.int .i64 x.1.tim)).setIfInBounds (p * 7 + 5) x.2.1).setIfInBounds (p * 7 + 6) x.2.2) ?_ hgb (by simp) hnc hcm (by simpa using hcs) ?_
    · unfold setE
      exact set_blk (set_blk (set_blk (set_blk (set_blk hh _) _) _) _) _
    · rw [entF_set l p x hp hk, ← htake]
      simp only [Array.toList_setIfInBounds]
      rw [List.take_set, List.take_set, List.take_set, List.take_set, List.take_set]
end Go.Proofs.YtpglhdnepmcahaaGreatDoor

/- Ng6 -/
namespace Go.Proofs.YtpglhdnepmcahaaGreatDoor
open Go.RowKit Go.Shelf Go.Sort

theorem has_key {l : List MkX} {a : LbT} {p : Nat} (hs : risM l) (h : AtE l a p) (hb : hasM l a = true) : p < l.length ∧ keyX (l.getD p xZ) = a := by
  have h2 := h.has hs
  rw [hb] at h2
  have h3 := Bool.and_eq_true_iff.1 h2.symm
  exact ⟨of_decide_eq_true h3.1, of_decide_eq_true h3.2⟩
/-- what comes of an insertion -/
theorem LgX.insd {w W W' : World} {gx p : Nat} {v v' : Value} {l : List MkX} {x : MkX} (h : LgX w gx v l) (hx : MkO w x) (hR : rightM x.1 = 0) (hl : l.length < 500) (hb : hasM l (keyX x) = false) (hp : AtE l (keyX x) p) (hW : w.grownBy W none) (ho : OwnE W' 0 v' (l.take p ++ [x] ++ l.drop p)) (hf : Fr W W' v v') :
    LgX (W'.setCell ⟨gx, 0, none⟩ v') gx v' (putM l x p) ∧ LFr gx w (W'.setCell ⟨gx, 0, none⟩ v') v v' := by
  have hk := h.keep hW
  have hgl : gx < W.heap.size := hk.box.lt
  have c1 : Ch W W' (fun k => v.ownBlock = some k) := Ch.of_gb hf.1 (fun k hk _ => hk)
  have e1 : EnL W (fun k => v.ownBlock = some k) := fun k hk' => hk.enl k (.inr hk')
  have b1 : Boxed W' gx 74 v := bxch hk.box c1 (fun e => hk.row_ne e)
  have c2 := set_ch W' gx 0 v'
  have e2 : EnL W' (fun j => j = gx) := fun k hk' => by subst hk'; exact ⟨_, _, _, b1, by decide, by decide⟩
  have ep : putM l x p = l.take p ++ [x] ++ l.drop p := by unfold putM; rw [hb]; rfl
  have hn : ∀ k, v'.ownBlock = some k → ¬ k = gx := fun k hk' e => by
    subst e
    rcases hf.2 k hk' with h1 | h1
    · exact hk.row_ne h1.symm
    · omega
  refine ⟨⟨b1.set v', ?_, putM_ris h.ris hp, fun y hy => ?_, ?_⟩, ?_⟩
  · rw [ep]
    exact row_ch ho c2 hn
  · rcases putM_mem hy with hy | rfl
    · exact ⟨(((h.each y hy).1.keep hW).chT c1 e1).chT c2 e2, (h.each y hy).2⟩
    · exact ⟨((hx.keep hW).chT c1 e1).chT c2 e2, hR⟩
  · rw [putM_len l x p hp.1, hb]
    simp
    omega
  · refine ⟨((Ch.of_gb (S := FpL gx v) hW (fun k hk => by cases hk)).trans (c1.mono (fun k _ hk' => (.inr hk' : FpL gx v k))) (fun _ _ h => h)).trans c2 (fun k _ hk' => .inl hk'), fun k hk' => ?_⟩
    rcases hf.2 k hk' with h1 | h1
    · exact .inl h1.symm
    · exact .inr (Nat.le_trans hW.size h1)
/-- what comes of a mark in the place of another -/
theorem LgX.seted {w W : World} {gx g c p : Nat} {l : List MkX} {x : MkX} (h : LgX w gx (.slice (some ⟨g, 0, none⟩) l.length c) l) (hx : MkO w x) (hR : rightM x.1 = 0) (hb : hasM l (keyX x) = true) (hp : AtE l (keyX x) p) (hW : w.grownBy W none) :
    LgX (setE W g (p * 7) (.string (ByteArray.mk ⟨x.1.rcv⟩)) (.string (ByteArray.mk ⟨x.1.key⟩)) (.int .i64 x.1.tim) x.2.1 x.2.2) gx (.slice (some ⟨g, 0, none⟩) l.length c) (putM l x p) ∧ LFr gx w (setE W g (p * 7) (.string (ByteArray.mk ⟨x.1.rcv⟩)) (.string (ByteArray.mk ⟨x.1.key⟩)) (.int .i64 x.1.tim) x.2.1 x.2.2) (.slice (some ⟨g, 0, none⟩) l.length c) (.slice (some ⟨g, 0, none⟩) l.length c) := by
  have hk := h.keep hW
  obtain ⟨hpl, hke⟩ := has_key h.ris hp hb
  have c1 := setE_ch W g (p * 7) (.string (ByteArray.mk ⟨x.1.rcv⟩)) (.string (ByteArray.mk ⟨x.1.key⟩)) (.int .i64 x.1.tim) x.2.1 x.2.2
  have e1 : EnL W (fun k => k = g) := fun k hk' => hk.enl k (.inr (by rw [hk']; rfl))
  have ep : putM l x p = l.set p x := by unfold putM; rw [if_pos hb]
  refine ⟨⟨bxch hk.box c1 (fun e => hk.row_ne (by rw [e]; rfl)), ?_, putM_ris h.ris hp, fun y hy => ?_, ?_⟩, ?_⟩
  · rw [ep]
    have := OwnE.put hk.row hpl hke
    unfold OwnE at this ⊢
    rw [List.length_set] at this ⊢
    exact this
  · rcases putM_mem hy with hy | rfl
    · exact ⟨((h.each y hy).1.keep hW).chT c1 e1, (h.each y hy).2⟩
    · exact ⟨(hx.keep hW).chT c1 e1, hR⟩
  · rw [ep, List.length_set]
    exact h.len
  · exact ⟨(Ch.of_gb (S := FpL gx (.slice (some ⟨g, 0, none⟩) l.length c)) hW (fun k hk => by cases hk)).trans c1 (fun k _ hk' => .inr (by rw [hk']; rfl)), fun k hk' => .inl hk'⟩
/-- what put leaves -/
def PutP (w : World) (gx : Nat) (v : Value) (l : List MkX) (x : MkX) (w' : World) : Prop := ∃ v' p, AtE l (keyX x) p ∧ LgX w' gx v' (putM l x p) ∧ LFr gx w w' v v'
set_option maxRecDepth 8000 in
set_option maxHeartbeats 12800000 in
theorem putX_any (w : World) (gx : Nat) (v : Value) (l : List MkX) (m : MkR) (f s : Value) (h : LgX w gx v l) (hx : MkO w (m, f, s)) (hR : rightM m = 0) (hlen : hasM l (m.rcv, m.key) = false → l.length < 500) :
    Calls Tryz.prog 41 #[.pointer (some ⟨gx, 0, none⟩), addV (m.rcv, m.key), markV m f s] w fun e w' => e = .returned (.tuple #[]) ∧ PutP w gx v l (m, f, s) w' := by
  have HH := hidJ (And.intro h (And.intro hx (And.intro hR hlen)))
  obtain ⟨fa, fc, ef⟩ := hx.fir.shape
  obtain ⟨sa, sc, es⟩ := hx.res.shape
  dsimp only at ef es
  subst ef es
  have hgl : gx < w.heap.size := h.box.lt
  obtain ⟨va, vc, ev⟩ := h.row.shape
  unfold markV addV
  dsimp only
  -- the place
  have HC : Hid (Calls Tryz.prog 72 #[.pointer (some ⟨gx, 0, none⟩), .agg #[.string (ByteArray.mk ⟨m.rcv⟩), .string (ByteArray.mk ⟨m.key⟩)]] ((w.alloc (.cells #[.string (ByteArray.mk ⟨m.rcv⟩), .string (ByteArray.mk ⟨m.key⟩)] 81)).alloc (.cells #[.string (ByteArray.mk ⟨m.rcv⟩), .string (ByteArray.mk ⟨m.key⟩), .int .i64 m.tim, .slice fa m.fir.length fc, .slice sa m.res.length sc] 34)) fun e w' => ∃ p : Nat, e = .returned (.tuple #[.int .i64 (p : Int), .bool (hasM l (m.rcv, m.key))]) ∧ w'.cell? ⟨gx, 0, none⟩ = some v ∧ w'.frozen? ⟨gx, 0, none⟩ = false ∧ w'.cell? ⟨w.heap.size, 0, none⟩ = some (.string (ByteArray.mk ⟨m.rcv⟩)) ∧ w'.cell? ⟨w.heap.size, 1, none⟩ = some (.string (ByteArray.mk ⟨m.key⟩)) ∧ Hid (w.grownBy w' none ∧ AtE l (m.rcv, m.key) p ∧ B5 w' (w.heap.size + 1) 34 (.string (ByteArray.mk ⟨m.rcv⟩)) (.string (ByteArray.mk ⟨m.key⟩)) (.int .i64 m.tim) (.slice fa m.fir.length fc) (.slice sa m.res.length sc))) := by
    have k1 := World.grownBy_alloc w (.cells #[.string (ByteArray.mk ⟨m.rcv⟩), .string (ByteArray.mk ⟨m.key⟩)] 81) none
    have k2 := World.grownBy_alloc (w.alloc (.cells #[.string (ByteArray.mk ⟨m.rcv⟩), .string (ByteArray.mk ⟨m.key⟩)] 81)) (.cells #[.string (ByteArray.mk ⟨m.rcv⟩), .string (ByteArray.mk ⟨m.key⟩), .int .i64 m.tim, .slice fa m.fir.length fc, .slice sa m.res.length sc] 34) none
    have hc := findL_any _ gx l (m.rcv, m.key) (h.lg.keep (gb_none k1 k2))
    unfold addV at hc
    dsimp only at hc
    refine hc.mono ?_
    rintro e w' ⟨p, q1, q2, q3⟩
    have x1 := (B5.new (w.alloc (.cells #[.string (ByteArray.mk ⟨m.rcv⟩), .string (ByteArray.mk ⟨m.key⟩)] 81)) 34 (.string (ByteArray.mk ⟨m.rcv⟩)) (.string (ByteArray.mk ⟨m.key⟩)) (.int .i64 m.tim) (.slice fa m.fir.length fc) (.slice sa m.res.length sc)).keep q3
    rw [World.size_alloc] at x1
    have hk := gb_none (gb_none k1 k2) q3
    have hb : Boxed w' gx 74 v := (h.keep hk).box
    have hn := ((gb_none k2 q3).block w.heap.size (by simp) (by simp)).trans (Go.heap_alloc_new w (.cells #[.string (ByteArray.mk ⟨m.rcv⟩), .string (ByteArray.mk ⟨m.key⟩)] 81))
    exact ⟨p, q1, hb.cell, hb.frozen, by rw [World.cell?, hn]; rfl, by rw [World.cell?, hn]; rfl, hk, q2, x1⟩
  obtain ⟨HB, hHB⟩ : ∃ HB : Bool, HB = hasM l (m.rcv, m.key) := ⟨_, rfl⟩
  rw [← hHB] at HC
  have HBB := hidJ hHB
  clear hHB
  obtain ⟨PP, hPP⟩ : ∃ PP : World → Prop, PP = PutP w gx v l (m, .slice fa m.fir.length fc, .slice sa m.res.length sc) := ⟨_, rfl⟩
  rw [← hPP]
  have HPP : Hid (∀ w', PutP w gx v l (m, .slice fa m.fir.length fc, .slice sa m.res.length sc) w' → PP w') := fun w' h' => by rw [hPP]; exact h'
  clear hPP
  -- an entry more
  have HI : Hid (HB = false → ∀ W b p, w.grownBy W none → w.heap.size ≤ b → AtE l (m.rcv, m.key) p → W.heap[b]? = some (.cells #[.string (ByteArray.mk ⟨m.rcv⟩), .string (ByteArray.mk ⟨m.key⟩), .string (ByteArray.mk ⟨m.rcv⟩), .string (ByteArray.mk ⟨m.key⟩), .int .i64 m.tim, .slice fa m.fir.length fc, .slice sa m.res.length sc] 117 (0, 0)) → Calls Tryz.prog 73 #[v, .int .i64 (p : Int), .slice (some ⟨b, 0, none⟩) 1 1] W fun e w' => ∃ a' n' c', e = .returned (.slice a' n' c') ∧ w'.cell? ⟨gx, 0, none⟩ = some v ∧ w'.frozen? ⟨gx, 0, none⟩ = false ∧ Hid (PP (w'.setCell ⟨gx, 0, none⟩ (.slice a' n' c')))) := by
    intro hB W b p hW hbb hp hb
    rw [HBB.out] at hB
    obtain ⟨q0, q1, q2, q3⟩ := HH.out
    have hk := q0.keep hW
    refine (insert_any W b p v l (m, .slice fa m.fir.length fc, .slice sa m.res.length sc) hk.row hp.1 q0.len hb (fun e => ?_) (entF_one (fun y hy => (hk.each y hy).1)) rfl rfl).mono ?_
    · have := (World.ownsRow.lt q0.row b e).2
      omega
    · rintro e w' ⟨v', rfl, r1, r2⟩
      obtain ⟨a', c', e'⟩ := r1.shape
      have hbx : Boxed w' gx 74 v := hk.box.kept r2.1 (fun e => hk.row_ne e.symm)
      have hf := q0.insd (x := (m, .slice fa m.fir.length fc, .slice sa m.res.length sc)) q1 q2 (q3 hB) hB hp hW r1 r2
      subst e'
      exact ⟨a', _, c', rfl, hbx.cell, hbx.frozen, HPP.out _ ⟨_, p, hp, hf⟩⟩
  -- in the place of another
  have HS : Hid (HB = true → ∀ W p, w.grownBy W none → AtE l (m.rcv, m.key) p → ∃ g, va = some ⟨g, 0, none⟩ ∧ p < l.length ∧ W.heap[g]? = w.heap[g]? ∧ (∃ cur, W.heap[g]? = some (.cells cur 117 (0, 0)) ∧ l.length * 7 ≤ cur.size) ∧ PP (setE W g (p * 7) (.string (ByteArray.mk ⟨m.rcv⟩)) (.string (ByteArray.mk ⟨m.key⟩)) (.int .i64 m.tim) (.slice fa m.fir.length fc) (.slice sa m.res.length sc))) := by
    intro hB W p hW hp
    rw [HBB.out] at hB
    obtain ⟨q0, q1, q2, q3⟩ := HH.out
    have hpl := (has_key q0.ris hp hB).1
    rcases q0.row.2 with ⟨h', hn⟩ | ⟨g, c, cur, h', hr1, hr2, hr3, hr4, hr5, hr6⟩
    · omega
    · rw [ev] at h'
      simp only [Value.slice.injEq, true_and] at h'
      obtain ⟨h1, h2⟩ := h'
      subst h1
      rw [ev] at q0
      have hf := q0.seted (x := (m, .slice fa m.fir.length fc, .slice sa m.res.length sc)) q1 q2 hB hp hW
      rw [← ev] at hf
      have hgb : W.heap[g]? = w.heap[g]? := hW.block g (some_lt hr2) (by simp)
      exact ⟨g, rfl, hpl, hgb, ⟨cur, hgb.trans hr2, by rw [hr5]; exact Nat.mul_le_mul_right _ hr3⟩, HPP.out _ ⟨_, p, hp, hf⟩⟩
  have hl5 := h.len
  subst ev
  clear h hx hR hlen HPP HBB
  generalize ByteArray.mk ⟨m.rcv⟩ = br at *
  generalize ByteArray.mk ⟨m.key⟩ = bk at *
  generalize m.tim = tm at *
  obtain ⟨nf, hnf⟩ : ∃ nf, m.fir.length = nf := ⟨_, rfl⟩
  obtain ⟨ns, hns⟩ : ∃ ns, m.res.length = ns := ⟨_, rfl⟩
  obtain ⟨N, hN⟩ : ∃ N, l.length = N := ⟨_, rfl⟩
  rw [hnf, hns, hN] at HC HI HS
  rw [hN] at hl5
  rw [hnf, hns]
  clear hnf hns HH hN
  go_enter Tryz.func41, Tryz.ntmps41
  go_wp2_with fail
  refine HC.out.mono ?_
  rintro e w2 ⟨p, rfl, x0, x1, y0, y1, H2⟩
  clear HC
  obtain ⟨i0, i1, i2, i3, i4⟩ := H2.out.2.2.cells
  have HW := hidJ (And.intro H2.out.1 H2.out.2.1)
  clear H2
  cases HB
  · clear HS
    have HI2 : Hid (∀ W b, w.grownBy W none → w.heap.size ≤ b → W.heap[b]? = some (.cells #[.string br, .string bk, .string br, .string bk, .int .i64 tm, .slice fa nf fc, .slice sa ns sc] 117 (0, 0)) → Calls Tryz.prog 73 #[.slice va N vc, .int .i64 (p : Int), .slice (some ⟨b, 0, none⟩) 1 1] W fun e w' => ∃ a' n' c', e = .returned (.slice a' n' c') ∧ w'.cell? ⟨gx, 0, none⟩ = some (.slice va N vc) ∧ w'.frozen? ⟨gx, 0, none⟩ = false ∧ Hid (PP (w'.setCell ⟨gx, 0, none⟩ (.slice a' n' c')))) := fun W b hW hb h => HI.out rfl W b p hW hb HW.out.2 h
    clear HI
    have HZ := hidJ HW.out.1.size
    have hne1 : ¬ gx = w2.heap.size := by have := block_lt x0; omega
    have hne2 : ¬ w2.heap.size = gx := by omega
    have HK : Hid (∀ (C : Obj) (b o : Nat) (u : Value), w2.cell? ⟨b, o, none⟩ = some u → (w2.alloc C).cell? ⟨b, o, none⟩ = some u) := fun C b o u h => (World.cell?_of_block ((World.grownBy_alloc w2 C none).block b (block_lt h) (by simp))).trans h
    have HK2 : Hid (∀ (C : Obj) (b o : Nat) (u : Value), w2.cell? ⟨b, o, none⟩ = some u → (w2.drew.alloc C).cell? ⟨b, o, none⟩ = some u) := fun C b o u h => (World.cell?_of_block ((gb_none (gb_drew w2 none) (World.grownBy_alloc w2.drew C none)).block b (block_lt h) (by simp))).trans h
    have z0 := fun C => HK.out C _ _ _ x0
    have z1 := fun C => HK.out C _ _ _ y0
    have z2 := fun C => HK.out C _ _ _ y1
    have z3 := fun C => HK.out C _ _ _ i0
    have z4 := fun C => HK.out C _ _ _ i1
    have z5 := fun C => HK.out C _ _ _ i2
    have z6 := fun C => HK.out C _ _ _ i3
    have z7 := fun C => HK.out C _ _ _ i4
    have t0 := fun C => HK2.out C _ _ _ x0
    have t1 := fun C => HK2.out C _ _ _ y0
    have t2 := fun C => HK2.out C _ _ _ y1
    have t3 := fun C => HK2.out C _ _ _ i0
    have t4 := fun C => HK2.out C _ _ _ i1
    have t5 := fun C => HK2.out C _ _ _ i2
    have t6 := fun C => HK2.out C _ _ _ i3
    have t7 := fun C => HK2.out C _ _ _ i4
    go_wp2
    go_region_with (go_at_call 73; refine (HI2.out _ _ (by first | exact gb_none HW.out.1 (World.grownBy_alloc _ _ none) | exact gb_none (gb_none HW.out.1 (gb_drew _ none)) (World.grownBy_alloc _ _ none) | exact gb_none (gb_none HW.out.1 (World.grownBy_alloc _ _ none)) (gb_drew _ none)) (by exact HZ.out) (by exact Go.heap_alloc_new _ _)).mono ?_; rintro e w5 ⟨a5, n5, c5, rfl, p0, p1, H5⟩)
    all_goals
      clear HI2
      go_wp2
      go_end0
      exact ⟨rfl, H5.out⟩
  · clear HI
    obtain ⟨g, rfl, hpN, -, ⟨cur, hcur, hcs⟩, hPP⟩ := HS.out rfl w2.drew p (gb_none HW.out.1 (gb_drew _ none)) HW.out.2
    have HF := hidJ hPP
    have hcell : ∀ j, j < cur.size → ∃ u, w2.cell? ⟨g, j, none⟩ = some u := fun j hj => by
      have hc2 : w2.heap[g]? = some (.cells cur 117 (0, 0)) := hcur
      exact ⟨cur[j], by simp [World.cell?, hc2, hj]⟩
    have hfr : ∀ j, w2.frozen? ⟨g, j, none⟩ = false := fun j => by
      have hc2 : w2.heap[g]? = some (.cells cur 117 (0, 0)) := hcur
      simp [World.frozen?, hc2]
    obtain ⟨u2, d2⟩ := hcell (p * 7 + 2) (by omega)
    obtain ⟨u3, d3⟩ := hcell (p * 7 + 3) (by omega)
    obtain ⟨u4, d4⟩ := hcell (p * 7 + 4) (by omega)
    obtain ⟨u5, d5⟩ := hcell (p * 7 + 5) (by omega)
    obtain ⟨u6, d6⟩ := hcell (p * 7 + 6) (by omega)
    have f2 := hfr (p * 7 + 2)
    have f3 := hfr (p * 7 + 3)
    have f4 := hfr (p * 7 + 4)
    have f5 := hfr (p * 7 + 5)
    have f6 := hfr (p * 7 + 6)
    have hpi : (p : Int) < (N : Int) := by omega
    clear HS hPP hcell hfr hcur hcs
    unfold setE at HF
    go_wp2
    go_region
    go_wp2
    (try simp only [Exit.inBlock, Exit.then])
    refine bodyPost_ret (results_none rfl _ _ _) rfl ?_
    exact ⟨rfl, HF.out⟩
end Go.Proofs.YtpglhdnepmcahaaGreatDoor
