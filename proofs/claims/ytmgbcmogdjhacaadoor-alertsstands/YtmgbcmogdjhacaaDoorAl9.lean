/-
  keys: the keys of the map, in the order of what they lead to: the walk.
-/
import Derived.Test.YtmgbcmogdjhacaaDoorAlK
import Derived.Sort.OwnSorted
import Derived.Maps.AppendAt
import Derived.Maps.RangeWalk
namespace Go.Proofs.YtmgbcmogdjhacaaDoor
open Go.RowKit Go.Shelf Go.Sort Go.Maps Go.WideMaps

instance : Inhabited AlR := ⟨alZ⟩
theorem infoStr : (Tryd.prog.info? 9).map (fun i => (i.zero, i.size, i.bytes)) = some (some (.string ⟨#[]⟩), 1, 16) := by kernel_rfl
def mkS (l : List UInt8) : Value := .string (ByteArray.mk ⟨l⟩)
def mkAl (c : Value × Int × Int) : Value := .agg #[c.1, .int .i64 c.2.1, .int .i64 c.2.2]
theorem keyOf_string_inv {key : Value} {kl : Lit} (h : keyOf Tryd.prog 9 key = some kl) : ∃ l : List UInt8, key = .string (ByteArray.mk ⟨l⟩) ∧ kl = .string l ∧ l.length ≤ maxLen := by
  obtain ⟨s, h1, h2, h3⟩ := string_of_keyOf Tryd.underlying9 h
  refine ⟨s.data.toList, ?_, h2, ?_⟩
  · rw [h1]
  · rw [Array.length_toList]; exact h3
theorem mkS_inv (key : Value) (kl : Lit) (h : keyOf Tryd.prog 9 key = some kl) : ∃ x, key = mkS x := by
  obtain ⟨l, h1, -⟩ := keyOf_string_inv h
  exact ⟨l, h1⟩
theorem mkAl_inv (v : Value) (y : DataW Unit × List MemPlace) (h : alElem v = some y) : ∃ c, v = mkAl c := by
  obtain ⟨u, s, e, -, h1, -⟩ := alElem_some h
  exact ⟨(u, s, e), h1⟩
/-- a row of keys of the call's own -/
def OwnK (M : List AlR) (w : World) (base : Nat) (v : Value) (os : List AlR) : Prop := w.ownsRow base 9 1 v os.length (os.map (encK M))
/-- the alerts met so far -/
structure CollA (M : List AlR) (left : Lit → Bool) (os : List AlR) : Prop where
  sub : ∀ o ∈ os, o ∈ M
  nd : os.Pairwise (fun a b => a.lbs ≠ b.lbs)
  all : ∀ o ∈ M, (o ∈ os ↔ left (.string (keyB o.lbs)) = false)
theorem sameKey_str (x y : List UInt8) : (Lit.string x).sameKey (.string y) = decide (x = y) := by
  by_cases h : x = y <;> simp [Lit.sameKey, h]
theorem CollA.start {w : World} {S : Nat → Prop} {gx gm : Nat} {R most : Int} {M : List AlR} {D : DataW Unit} {hv : List LbT → Value} (h : PrjA w S gx R most M gm D hv) : CollA M (Maps.has D) [] where
  sub := fun o ho => by cases ho
  nd := List.Pairwise.nil
  all := fun o ho => by
    rw [h.hasL, findA_mem h.ok.1 ho]
    simp
theorem CollA.step {M : List AlR} {left : Lit → Bool} {os : List AlR} (hM : riseA M) (h : CollA M left os) {o : AlR} (ho : o ∈ M) (hlk : left (.string (keyB o.lbs)) = true) : CollA M (fun z => left z && !z.sameKey (.string (keyB o.lbs))) (os ++ [o]) where
  sub := fun x hx => by
    rcases List.mem_append.1 hx with hx | hx
    · exact h.sub x hx
    · rw [List.mem_singleton] at hx
      rw [hx]; exact ho
  nd := by
    rw [List.pairwise_append]
    refine ⟨h.nd, List.pairwise_singleton _ _, fun x hx y hy => ?_⟩
    rw [List.mem_singleton] at hy
    subst hy
    intro e
    have := rise_uniq hM (h.sub x hx) ho e
    subst this
    have := (h.all x ho).1 hx
    rw [hlk] at this
    cases this
  all := fun x hx => by
    rw [List.mem_append, List.mem_singleton, h.all x hx, sameKey_str]
    by_cases e : x = o
    · subst e
      simp
    · have : keyB x.lbs ≠ keyB o.lbs := fun f => e (rise_uniq hM hx ho (keyB_inj f))
      simp [e, this]
theorem CollA.perm {M : List AlR} {left : Lit → Bool} {os : List AlR} (hM : riseA M) (h : CollA M left os) (hl : ∀ kl, left kl = false) : os.Perm M := by
  have n1 : os.Nodup := h.nd.imp (fun hne e => hne (by rw [e]))
  have n2 : M.Nodup := hM.imp (fun hlt e => by rw [e, (cmpLs_zero _ _).2 rfl] at hlt; omega)
  rw [List.perm_ext_iff_of_nodup n1 n2]
  exact fun a => ⟨h.sub a, fun ha => (h.all a ha).2 (hl _)⟩
/-- which alert a key that comes leads to -/
theorem PrjA.keyed {w : World} {S : Nat → Prop} {gx gm : Nat} {R most : Int} {M : List AlR} {D : DataW Unit} {hv : List LbT → Value} (h : PrjA w S gx R most M gm D hv) {l : List UInt8} {y : DataW Unit} (hat : ∀ zd, D.atKey (.string l) zd = y) : ∃ o ∈ M, l = keyB o.lbs := by
  have := has_true_of_atKey hat
  rw [h.has, List.any_eq_true] at this
  obtain ⟨o, h1, h2⟩ := this
  exact ⟨o, h1, by simpa using Eq.symm (of_decide_eq_true h2)⟩
/-- the sorted row is the rising list -/
theorem sorted_is {M : List AlR} (hM : riseA M) {d' : Array AlR} (hp : d'.toList.Perm M) (hs : SortedIn (ltOf (cfK M)) 0 d'.size d') : d'.toList = M := by
  refine List.Perm.eq_of_pairwise (le := fun a b : AlR => cmpLs a.lbs b.lbs ≤ 0) (fun a b ha hb h1 h2 => ?_) ?_ (hM.imp (fun h => by omega)) hp
  · have hb' : b ∈ M := by first | exact hb | exact hp.mem_iff.1 hb
    have ha' : a ∈ M := by first | exact hp.mem_iff.1 ha | exact ha
    rw [cmpLs_neg] at h2
    exact rise_uniq hM ha' hb' ((cmpLs_zero _ _).1 (by omega))
  · rw [List.pairwise_iff_getElem]
    intro i j hi hj hij
    have hi' : i < d'.size := by simpa using hi
    have hj' : j < d'.size := by simpa using hj
    have := hs i j (Nat.zero_le _) hij hj'
    rw [getElem!_pos d' j hj', getElem!_pos d' i hi'] at this
    unfold ltOf cfK at this
    rw [decide_eq_false_iff_not, lbK_mem hM (hp.mem_iff.1 (by simp)), lbK_mem hM (hp.mem_iff.1 (by simp))] at this
    have e := cmpLs_neg d'[j].lbs d'[i].lbs
    simp only [Array.getElem_toList]
    omega
theorem oneK (M : List AlR) : OneCell (encK M) := fun _ => rfl
theorem sortW_gb {enc : AlR → Value} (w : World) (g n : Nat) (d' : Array AlR) (os : Array Obj) : w.grownBy (sortWorld enc w g 0 n d' os) (some g) := by
  refine ⟨rfl, rfl, rfl, ?_, fun k hk hne => ?_⟩
  · simp [sortWorld, putRow, mapBlock, grow, Sort.ahead]
  · have hkg : k ≠ g := fun e => hne (by rw [e])
    simp only [sortWorld, putRow, mapBlock, grow]
    rw [Array.getElem?_append_left (by simpa [Sort.ahead] using hk), Array.getElem?_modify, if_neg (fun e => hkg e.symm)]
    rfl
theorem holdsK {M : List AlR} {w : World} {g : Nat} {cur : Array Value} {os : List AlR} (hb : w.heap[g]? = some (.cells cur 9 (0, 0))) (ht : cur.toList.take os.length = os.map (encK M)) : Holds (encK M) w g 0 os.toArray := by
  intro j hj
  have hj' : j < os.length := by simpa using hj
  refine ⟨?_, by simp [World.frozen?, hb]⟩
  have h1 : (cur.toList.take os.length)[j]? = (os.map (encK M))[j]? := by rw [ht]
  rw [List.getElem?_take_of_lt hj'] at h1
  simp only [World.cell?, hb, Nat.zero_add]
  simp only [Option.isSome_none, Bool.false_eq_true, if_false]
  rw [← Array.getElem?_toList, h1]
  simp [hj']
theorem ownK_sorted {M : List AlR} {w : World} {base g cap n : Nat} {os : Array Obj} {cur : Array Value} {ss ts : List AlR} (hl : ts.length = ss.length) (hbase : base ≤ g) (hb : w.heap[g]? = some (.cells cur 9 (0, 0)))
    (h1 : ss.length ≤ cap) (h2 : cap ≤ maxLen) (h3 : cur.size = cap * 1) : OwnK M (sortWorld (encK M) w g 0 n ts.toArray os) base (.slice (some ⟨g, 0, none⟩) ss.length cap) ts := by
  have hg : g < w.heap.size := (Array.getElem?_eq_some_iff.1 hb).1
  have hh : (sortWorld (encK M) w g 0 n ts.toArray os).heap[g]? = some (.cells (putCells (encK M) 0 ts.toArray cur) 9 (0, 0)) := by
    unfold sortWorld
    rw [heap_grow_old _ _ (by simpa using hg)]
    simp [putRow, mapBlock, Sort.ahead, Array.getElem?_modify, hb, onCells]
  have htk : (putCells (encK M) 0 ts.toArray cur).toList.take ts.length = ts.map (encK M) := by
    apply List.ext_getElem?
    intro j
    by_cases hj : j < ts.length
    · rw [List.getElem?_take_of_lt hj, Array.getElem?_toList]
      simp [putCells, hj, show j < cur.size by omega]
    · rw [List.getElem?_take_eq_none (by omega), List.getElem?_eq_none (by simp; omega)]
  unfold OwnK
  rw [hl]
  exact ⟨by simp [hl], .inr ⟨g, cap, _, rfl, hbase, hh, h1, h2, by simp [putCells, h3], by rw [Nat.mul_one, ← hl]; exact htk⟩⟩
/-- the sort of the keys -/
theorem sortKeys_any (w : World) (S : Nat → Prop) (gx : Nat) (R most : Int) (M : List AlR) (gm : Nat) (D : DataW Unit) (hv : List LbT → Value) (h : PrjA w S gx R most M gm D hv) (g2 g3 : Nat) (c2 : w.cell? ⟨g2, 0, none⟩ = some (.map (some gm))) (c3 : w.cell? ⟨g3, 0, none⟩ = some (.func (.func 24) #[] #[]))
    (base g n cap : Nat) (os : List AlR) (hrow : OwnK M w base (.slice (some ⟨g, 0, none⟩) n cap) os) (hp : os.Perm M) (hg2 : g2 ≠ g) (hg3 : g3 ≠ g) (hgS : ∀ k, k < w.heap.size → S k → k ≠ g) :
    Calls Tryd.prog 40 #[.slice (some ⟨g, 0, none⟩) n cap, .func (.func 41) #[] #[.pointer (some ⟨g3, 0, none⟩), .pointer (some ⟨g2, 0, none⟩)]] w fun e w' => e = .returned (.tuple #[]) ∧ OwnK M w' base (.slice (some ⟨g, 0, none⟩) n cap) M ∧ w.grownBy w' (some g) := by
  rcases hrow.2 with ⟨h', _⟩ | ⟨g', cap', cur, h', hbg, hh, hnc, hcm, hcs, htake⟩
  · simp at h'
  · simp only [Value.slice.injEq, Option.some.injEq, Addr.mk.injEq, and_true] at h'
    obtain ⟨rfl, rfl, rfl⟩ := h'
    have hlen := hp.length_eq
    have hm := h.ok.2.2.2
    have hH : Holds (encK M) w g 0 os.toArray := holdsK hh (by rw [Nat.mul_one] at htake; exact htake)
    have eg : ∀ args w, (callFunc 41 args).run Tryd.prog w = .ok (.enter 41 args) w := enters_of Tryd.func41 (by kernel_rfl) rfl
    have hcmp : CmpLays1 Tryd.prog 41 #[.pointer (some ⟨g3, 0, none⟩), .pointer (some ⟨g2, 0, none⟩)] (encK M) (cfK M) g 0 os.toArray.size w := by
      intro m ob dk _ x y
      have hgb := sortW_gb (enc := encK M) w g m dk ob
      have hc : Ch w (sortWorld (encK M) w g 0 m dk ob) (fun k => k = g) := Ch.of_gb hgb (fun k hk _ => by cases hk; rfl)
      have h2 := h.frame hc (fun k hk hS e => hgS k hk hS e)
      have k2 : (sortWorld (encK M) w g 0 m dk ob).cell? ⟨g2, 0, none⟩ = some (.map (some gm)) := (World.cell?_of_block (hc.block (block_lt c2) hg2)).trans c2
      have k3 : (sortWorld (encK M) w g 0 m dk ob).cell? ⟨g3, 0, none⟩ = some (.func (.func 24) #[] #[]) := (World.cell?_of_block (hc.block (block_lt c3) hg3)).trans c3
      exact keys1_any _ S gx R most M gm D hv h2 g2 g3 k2 k3 x y
    have hsort := Any.slices_SortFunc Tryd.sortSt (encK M) (oneK M) (cfK M) (swoK M) 41 #[.pointer (some ⟨g3, 0, none⟩), .pointer (some ⟨g2, 0, none⟩)] g 0 cap os.toArray w eg hcmp hH (some_lt hh) (by simp; omega)
    have hsz : os.toArray.size = os.length := by simp
    rw [hsz] at hsort
    refine Calls.mono hsort ?_
    rintro e w' ⟨rfl, d', nn, ob, hpm, hsr, rfl⟩
    obtain ⟨q1, -, q3⟩ := hpm
    have hd : d'.toList.Perm os := by
      have e1 : d'.extract 0 os.length = d' := by rw [← hsz, ← q1]; simp
      rw [e1] at q3
      simpa using q3
    have hq : d'.size = os.length := by rw [q1]; simp
    rw [← hq] at hsr
    have hM := sorted_is h.ok.1 (hd.trans hp) hsr
    refine ⟨rfl, ?_, sortW_gb w g nn d' ob⟩
    have := ownK_sorted (M := M) (w := w) (n := nn) (os := ob) (ts := d'.toList) (ss := os) (by simp [hq]) hbg hh hnc hcm hcs
    rw [hM] at this
    have e2 : d' = M.toArray := by rw [← hM]
    rw [e2]
    exact this
end Go.Proofs.YtmgbcmogdjhacaaDoor
