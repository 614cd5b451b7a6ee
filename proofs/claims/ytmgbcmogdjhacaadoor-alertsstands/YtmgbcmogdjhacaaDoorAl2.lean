/-
  The project's set of alerts in memory: its box, its map; frames. Rows of alerts in memory. Plain facts; no walk.
-/
import Derived.Test.YtmgbcmogdjhacaaDoorAlC
namespace Go.Proofs.YtmgbcmogdjhacaaDoor
open Go.RowKit Go.Shelf Go.Maps Go.WideMaps

/-- an alert's value -/
def alV (u : Value) (s e : Int) : Value := .agg #[u, .int .i64 s, .int .i64 e]
/-- how an alert reads among a map's elements -/
def alD (u : Value) (s e : Int) : DataW Unit := .agg [slD u, .lit (.int .i64 s), .lit (.int .i64 e)]
def alElem (v : Value) : Option (DataW Unit × List MemPlace) :=
  match v with
  | .agg a =>
    match a.toList with
    | [u, .int .i64 s, .int .i64 e] => (slElem u).map fun d => (.agg [d.1, .lit (.int .i64 s), .lit (.int .i64 e)], [])
    | _ => none
  | _ => none
theorem alElem_mk {u : Value} (h : Shp u) (s e : Int) : alElem (alV u s e) = some (alD u s e, []) := by
  unfold alElem alV alD
  simp only [h.elem, Option.map_some]
theorem alElem_some {v : Value} {y : DataW Unit × List MemPlace} (h : alElem v = some y) : ∃ u s e d, v = alV u s e ∧ slElem u = some d ∧ y = (.agg [d.1, .lit (.int .i64 s), .lit (.int .i64 e)], []) := by
  unfold alElem at h
  split at h
  · rename_i a
    split at h
    · rename_i u s e heq
      cases hd : slElem u with
      | none => rw [hd] at h; cases h
      | some d =>
        rw [hd] at h
        simp only [Option.map_some, Option.some.injEq] at h
        refine ⟨u, s, e, d, ?_, hd, h.symm⟩
        unfold alV
        have : a = [u, Value.int .i64 s, Value.int .i64 e].toArray := by rw [← heq]
        rw [this]
    · cases h
  · cases h
theorem alElem_inv {v u : Value} (hu : Shp u) {s e : Int} {ps : List MemPlace} (h : alElem v = some (alD u s e, ps)) : v = alV u s e := by
  obtain ⟨u', s', e', d, rfl, hd, hy⟩ := alElem_some h
  unfold alD at hy
  simp only [Prod.mk.injEq, DataW.agg.injEq, List.cons.injEq, DataW.lit.injEq, Lit.int.injEq, true_and, and_true] at hy
  obtain ⟨⟨h1, h2, h3⟩, -⟩ := hy
  subst h2 h3
  have : u' = u := hu.inv (ps := d.2) (by rw [hd, h1])
  rw [this]
def zAl : Value := alV (.slice none 0 0) 0 0
theorem shpNil : Shp (.slice none 0 0) := .inl rfl
def zAd : DataW Unit := alD (.slice none 0 0) 0 0
theorem zAl_elem : alElem zAl = some (zAd, []) := alElem_mk shpNil 0 0
theorem zeroAl (w : World) : (zeroValue 34).run Tryd.prog w = .ok zAl w := by kernel_rfl
theorem lawS : Keyed Tryd.prog 9 := string_keyed Tryd.underlying9
theorem keyS (l : List UInt8) (h : l.length ≤ 9000000000000000000) : keyOf Tryd.prog 9 (.string (ByteArray.mk ⟨l⟩)) = some (.string l) := keyOf_string_mk Tryd.underlying9 (show l.length ≤ maxLen by unfold maxLen; omega)
theorem litS_ne {x y : List UInt8} (h : x ≠ y) : Lit.string x ≠ Lit.string y := fun e => h (by injection e)
theorem isKeyS (x : List UInt8) : WideAt.IsKeyLit (.string x) := trivial
theorem map_obj {w : World} {k : TypeId} {gm n : Nat} {D : DataW Unit} (h : w.ownsMap Tryd.prog k alElem gm n D) : ∃ es clock, w.heap[gm]? = some (.map es clock) := by
  obtain ⟨es, clock, hb, _⟩ := h
  exact ⟨es, clock, hb⟩
theorem map_via {w w' : World} {k : TypeId} {gm n : Nat} {D : DataW Unit} (h : w.ownsMap Tryd.prog k alElem gm n D) (hb : w'.heap[gm]? = w.heap[gm]?) : w'.ownsMap Tryd.prog k alElem gm n D := by
  obtain ⟨es, clock, hb', r⟩ := h
  exact ⟨es, clock, hb.trans hb', r⟩
/-- a map's bound may be how many entries it has -/
theorem map_tight {w : World} {k : TypeId} {gm n : Nat} {D : DataW Unit} (h : w.ownsMap Tryd.prog k alElem gm n D) : w.ownsMap Tryd.prog k alElem gm (Maps.size D) D := by
  obtain ⟨es, clock, hb, F, hs, rfl⟩ := h
  exact ⟨es, clock, hb, F, by simp [Maps.size, length_sorted], rfl⟩

/-- THE PROJECT's SET: its box gx, its map gm, which reads as D; the slices of labels hv; all in blocks of S -/
structure PrjA (w : World) (S : Nat → Prop) (gx : Nat) (R most : Int) (M : List AlR) (gm : Nat) (D : DataW Unit) (hv : List LbT → Value) : Prop where
  box : w.heap[gx]? = some (.cells #[.int .i64 R, .int .i64 most, .map (some gm)] 61)
  mp : w.ownsMap Tryd.prog 9 alElem gm M.length D
  size : Maps.size D = M.length
  has : ∀ k, Maps.has D (.string k) = M.any (fun a => decide (keyB a.lbs = k))
  atK : ∀ a ∈ M, ∀ zd, D.atKey (.string (keyB a.lbs)) zd = alD (hv a.lbs) a.st a.en
  shp : ∀ a ∈ M, Shp (hv a.lbs)
  each : ∀ a ∈ M, Rl w S (hv a.lbs) a.lbs
  inX : S gx
  inM : S gm
  ok : okM most M
  res : 1 ≤ R ∧ R ≤ 1099511627776
def PrjOK (w : World) (S : Nat → Prop) (gx : Nat) (R most : Int) (M : List AlR) : Prop := ∃ gm D hv, PrjA w S gx R most M gm D hv
section
variable {w w' : World} {S T : Nat → Prop} {gx gm : Nat} {R most : Int} {M : List AlR} {D : DataW Unit} {hv : List LbT → Value}
theorem PrjA.frame (h : PrjA w S gx R most M gm D hv) (hc : Ch w w' T) (hT : ∀ k, k < w.heap.size → S k → ¬ T k) : PrjA w' S gx R most M gm D hv :=
  { h with
    box := by rw [hc.block (some_lt h.box) (hT _ (some_lt h.box) h.inX)]; exact h.box
    mp := map_via h.mp (hc.block h.mp.lt (hT _ h.mp.lt h.inM))
    each := fun a ha => (h.each a ha).frame hc hT }
theorem PrjA.keep (h : PrjA w S gx R most M gm D hv) (hg : w.grownBy w' none) : PrjA w' S gx R most M gm D hv :=
  h.frame (T := fun _ => False) (Ch.of_gb hg (fun k hk => by cases hk)) (fun _ _ _ => id)
theorem PrjA.mono (h : PrjA w S gx R most M gm D hv) (hT : ∀ k, k < w.heap.size → S k → T k) : PrjA w T gx R most M gm D hv :=
  { h with
    inX := hT _ (some_lt h.box) h.inX
    inM := hT _ h.mp.lt h.inM
    each := fun a ha => (h.each a ha).mono hT }
theorem PrjA.cells (h : PrjA w S gx R most M gm D hv) : w.cell? ⟨gx, 0, none⟩ = some (.int .i64 R) ∧ w.cell? ⟨gx, 1, none⟩ = some (.int .i64 most) ∧ w.cell? ⟨gx, 2, none⟩ = some (.map (some gm)) := by
  have hb := h.box
  exact ⟨by simp [World.cell?, hb], by simp [World.cell?, hb], by simp [World.cell?, hb]⟩
theorem PrjA.ne_mx (h : PrjA w S gx R most M gm D hv) : gm ≠ gx := fun e => by
  obtain ⟨es, ck, hm⟩ := map_obj h.mp
  rw [e, h.box] at hm
  cases hm
theorem PrjA.ne_val (h : PrjA w S gx R most M gm D hv) {a : AlR} (ha : a ∈ M) {k : Nat} (hk : (hv a.lbs).ownBlock = some k) : k ≠ gx ∧ k ≠ gm := by
  obtain ⟨-, cur, fr, hc⟩ := (h.each a ha).2 k hk
  refine ⟨fun e => ?_, fun e => ?_⟩
  · rw [e, h.box] at hc
    simp at hc
  · obtain ⟨es, ck, hm⟩ := map_obj h.mp
    rw [e, hm] at hc
    cases hc
/-- whether a right label set is there -/
theorem PrjA.hasL (h : PrjA w S gx R most M gm D hv) (ls : List LbT) : Maps.has D (.string (keyB ls)) = (findA M ls).isSome := by
  rw [h.has]
  cases hf : findA M ls with
  | none =>
    show _ = false
    rw [List.any_eq_false]
    intro a ha
    have := findA_none.1 hf a ha
    simpa using fun e => this (keyB_inj e)
  | some o =>
    obtain ⟨h1, h2⟩ := findA_some hf
    show _ = true
    rw [List.any_eq_true]
    exact ⟨o, h1, by simp [h2]⟩
/-- a look-up that tells whether it is there -/
theorem PrjA.look (h : PrjA w S gx R most M gm D hv) {ls : List LbT} (hr : (rightS ls).1 = 0) :
    (Instr.lookup 59 (.map (some gm)) (.string (ByteArray.mk ⟨keyB ls⟩)) true).run Tryd.prog w = .ok (.tuple #[(match findA M ls with | some o => alV (hv o.lbs) o.st o.en | none => zAl), .bool (findA M ls).isSome]) w := by
  obtain ⟨v, ps, h1, h2⟩ := h.mp.look_ok lawS Tryd.underlying59 (zeroAl w) zAl_elem (keyS (keyB ls) (by have := keyB_len hr; omega))
  rw [h.hasL ls] at h1
  cases hf : findA M ls with
  | none =>
    have hn : Maps.has D (.string (keyB ls)) = false := by rw [h.hasL ls, hf]; rfl
    rw [atKey_of_not_has hn] at h2
    have := alElem_inv shpNil h2
    rw [hf, this] at h1
    exact h1
  | some o =>
    obtain ⟨q1, q2⟩ := findA_some hf
    have := h.atK o q1 zAd
    rw [q2] at this
    rw [this] at h2
    rw [← q2] at h2
    have := alElem_inv (h.shp o q1) h2
    rw [hf, this] at h1
    exact h1
/-- a look-up of one that is there -/
theorem PrjA.lookE (h : PrjA w S gx R most M gm D hv) {o : AlR} (ho : o ∈ M) :
    (Instr.lookup 59 (.map (some gm)) (.string (ByteArray.mk ⟨keyB o.lbs⟩)) false).run Tryd.prog w = .ok (alV (hv o.lbs) o.st o.en) w := by
  obtain ⟨v, ps, h1, h2⟩ := h.mp.lookup lawS Tryd.underlying59 (zeroAl w) zAl_elem (keyS (keyB o.lbs) (by have := keyB_len (h.ok.2.1 o ho); omega))
  rw [h.atK o ho] at h2
  have := alElem_inv (h.shp o ho) h2
  rw [this] at h1
  exact h1
theorem PrjA.len (h : PrjA w S gx R most M gm D hv) (ty : TypeId) : (Builtin.len_ #[59] ty #[.map (some gm)]).run Tryd.prog w = .ok (.int .i64 (M.length : Int)) w := by
  have := h.mp.len Tryd.underlying59 ty
  rw [h.size] at this
  exact this
/-- an alert is put there -/
theorem PrjA.put (h : PrjA w S gx R most M gm D hv) {a : AlR} {u : Value} (hr : (rightS a.lbs).1 = 0) (hu : OwnL w 0 u a.lbs) (hub : ∀ k, u.ownBlock = some k → k ≠ gx ∧ k ≠ gm) (hok : okM most (addA M a)) :
    ∃ w', (Instr.mapUpdate 59 (.map (some gm)) (.string (ByteArray.mk ⟨keyB a.lbs⟩)) (alV u a.st a.en)).run Tryd.prog w = .ok () w' ∧ w.grownBy w' (some gm) ∧
      PrjA w' (fun k => S k ∨ u.ownBlock = some k) gx R most (addA M a) gm (D.put (.string (keyB a.lbs)) (alD u a.st a.en)) (fun x => if x = a.lbs then u else hv x) := by
  have hm := h.ok.2.2.2
  obtain ⟨w', q1, q2, q3⟩ := h.mp.update lawS Tryd.underlying59 (by unfold maxLen; omega) (keyS (keyB a.lbs) (by have := keyB_len hr; omega)) (val := alV u a.st a.en) (d := alD u a.st a.en) (ps := []) (alElem_mk (row_shp hu) _ _)
  have hc : Ch w w' (fun k => k = gm) := Ch.of_gb q3 (fun k hk _ => by cases hk; rfl)
  have hsz : Maps.size (D.put (.string (keyB a.lbs)) (alD u a.st a.en)) = (addA M a).length := by
    rw [size_put (h.mp.tidy lawS), len_addA h.ok.1, h.hasL, h.size]
  refine ⟨w', q1, q3, ?_, ?_, hsz, ?_, ?_, ?_, ?_, .inl h.inX, .inl h.inM, hok, h.res⟩
  · rw [hc.block (some_lt h.box) (fun e => h.ne_mx e.symm)]
    exact h.box
  · have := map_tight q2
    rw [hsz] at this
    exact this
  · intro k
    by_cases hk : k = keyB a.lbs
    · subst hk
      rw [has_put_same h.mp.isMap (isKeyS _)]
      symm
      rw [List.any_eq_true]
      exact ⟨a, mem_addA.2 (.inl rfl), by simp⟩
    · rw [has_put_other (litS_ne hk), h.has]
      rw [Bool.eq_iff_iff, List.any_eq_true, List.any_eq_true]
      constructor
      · rintro ⟨b, hb, e⟩
        simp only [decide_eq_true_eq] at e
        exact ⟨b, mem_addA.2 (.inr ⟨hb, fun e2 => hk (by rw [← e, e2])⟩), by simpa using e⟩
      · rintro ⟨b, hb, e⟩
        simp only [decide_eq_true_eq] at e
        rcases mem_addA.1 hb with rfl | hb
        · exact absurd e.symm hk
        · exact ⟨b, hb.1, by simpa using e⟩
  · intro b hb zd
    rcases mem_addA.1 hb with rfl | hb
    · rw [if_pos rfl]
      exact atKey_put_same h.mp.isMap (isKeyS _) _ _
    · rw [if_neg hb.2, atKey_put_other (litS_ne (fun e => hb.2 (keyB_inj e)))]
      exact h.atK b hb.1 zd
  · intro b hb
    rcases mem_addA.1 hb with rfl | hb
    · rw [if_pos rfl]
      exact row_shp hu
    · rw [if_neg hb.2]
      exact h.shp b hb.1
  · intro b hb
    rcases mem_addA.1 hb with rfl | hb
    · rw [if_pos rfl]
      refine OwnL.rl (base := 0) (row_via hu (fun k hk => hc.block (hu.lt k hk).2 (hub k hk).2)) (fun k hk => .inr hk)
    · rw [if_neg hb.2]
      have hRl := h.each b hb.1
      refine ⟨hRl.1.ch hc (fun k hk _ => (h.ne_val hb.1 hk).2), fun k hk => ?_⟩
      obtain ⟨h1, cur, fr, h2⟩ := hRl.2 k hk
      exact ⟨.inl h1, cur, fr, by rw [hc.block (some_lt h2) (h.ne_val hb.1 hk).2]; exact h2⟩
end
end Go.Proofs.YtmgbcmogdjhacaaDoor
