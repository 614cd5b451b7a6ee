/-
  Labels among the arguments: how they read; the tables.
-/
import Derived.Test.YtmgbcmogdjhacaaDoorCards
import Derived.Test.YtmgbcmogdjhacaaDoorTie
import Derived.Test.YtmgbcmogdjhacaaDoorLbP
import Derived.Test.YtmgbcmogdjhacaaDoorLbL
import Derived.ProofKit
import Derived.OpenShut
import Derived.ShutString
import Derived.ChangeOld
import Derived.SizedLaws
import Derived.Deep.DeepHandedRow
import Derived.Deep.Slices
import Derived.Lib.LaidU8T
import Derived.PinnedBridge
import Derived.LaidLaws
import Derived.MakeChecks
namespace Go.Proofs.YtmgbcmogdjhacaaDoor
open Go.ChangeShapes Go.WideShapes Go.ChangeAt Go.RowKit Go.Lib Go.Shelf

theorem own : ownKnob Tryd.prog.godebug = none := by kernel_rfl
theorem laidOut : laidOutB Tryd.prog = true := by kernel_rfl
theorem cellsLb : Tryd.prog.cellsOf 63 = 2 := by kernel_rfl
theorem cellsStr : Tryd.prog.cellsOf 9 = 1 := by kernel_rfl
theorem bytesLb : Tryd.prog.bytesOf 63 = 32 := by kernel_rfl
theorem data_len (s : ByteArray) : s.data.toList.length = s.size := by rw [Array.length_toList]; rfl
theorem mk_data (s : ByteArray) : ByteArray.mk ⟨s.data.toList⟩ = s := by cases s; rfl
/-- what an argument weighs is within reach -/
def Wt {H : Type} (t : TypeId) (d : DataW H) : Prop := ∀ n ∈ d.weights Tryd.prog t, n ≤ reachBytes
theorem Wt.of {H : Type} {ts : List TypeId} {ds : List (DataW H)} (hk : (DataW.weightsEach Tryd.prog ts ds).all (· ≤ reachBytes) = true) (j : Nat) {t : TypeId} {d : DataW H} (ht : ts[j]? = some t) (hd : ds[j]? = some d) : Wt t d := fun n hn => by
  simpa using List.all_eq_true.1 hk n (DataW.weights_mem_each ht hd n hn)
theorem Wt.elem {H : Type} {t e : TypeId} {elems spare : List (DataW H)} (h : Wt t (.slice elems spare)) (hu : Tryd.prog.underlying t = some (.slice e)) : (elems.length + spare.length) * Tryd.prog.bytesOf e ≤ reachBytes ∧ ∀ d ∈ elems, Wt e d := by
  have hmem : ∀ (l : List (DataW H)) (d : DataW H), d ∈ l → ∀ n ∈ d.weights Tryd.prog e, n ∈ DataW.weightsAll Tryd.prog e l := by
    intro l
    induction l with
    | nil => intro d hd; cases hd
    | cons y l ih =>
      intro d hd n hn
      simp only [DataW.weightsAll, List.mem_append]
      cases hd with
      | head => exact .inl hn
      | tail _ h => exact .inr (ih d h n hn)
  refine ⟨h _ (by simp [DataW.weights, hu]), fun d hd n hn => h n ?_⟩
  simp only [DataW.weights, hu, List.mem_cons, List.mem_append]
  exact .inr (.inl (hmem _ d hd n hn))
theorem Wt.part {H : Type} {t : TypeId} {fs : Array Field} {parts : List (DataW H)} (h : Wt t (.agg parts)) (hu : Tryd.prog.underlying t = some (.struct fs)) (j : Nat) {u : TypeId} {d : DataW H} (ht : (fs.toList.map (·.type))[j]? = some u) (hd : parts[j]? = some d) : Wt u d := fun n hn => by
  refine h n ?_
  simp only [DataW.weights, hu]
  exact DataW.weights_mem_each ht hd n hn
theorem Wt.str {H : Type} {t : TypeId} {bs : List UInt8} (h : Wt (H := H) t (.lit (.string bs))) : bs.length ≤ 1000000000000000000 := by
  have := h bs.length (by simp [DataW.weights])
  simp only [reachBytes] at this
  omega
set_option maxRecDepth 8000 in
theorem one_label {H : Type} {enc : TypeId × Value → H} {W : World} {n : Nat} {a : Addr} {j : Nat} {cs : List Value} {x : DataW H × List MemPlace} (hw : Wt 63 x.1) (h1 : W.cells? 0 (a.add (j * Tryd.prog.cellsOf 63)) (Tryd.prog.cellsOf 63) = some cs)
    (h2 : DataW.trod enc Tryd.prog W 0 (fun _ => true) true n 63 cs = some x) : ∃ q : LbT, W.cell? (a.add (j * 2)) = some (.string (ByteArray.mk ⟨q.1⟩)) ∧ W.cell? (a.add (j * 2 + 1)) = some (.string (ByteArray.mk ⟨q.2⟩)) ∧ q.1.length ≤ 1000000000000000000 ∧ q.2.length ≤ 1000000000000000000 := by
  rw [cellsLb] at h1
  obtain ⟨_, hlen, hcell⟩ := World.cells?_some h1
  obtain ⟨xs, k, hk, hxy, _, hxl, hf⟩ := DataW.trod_struct Tryd.underlying63 h2
  match cs, hlen with
  | [v0, v1], _ =>
    have e0 := hcell 0 (by omega)
    have e1 := hcell 1 (by omega)
    rw [Go.Deep.add_add] at e0 e1
    match xs, hxl with
    | [y0, y1], _ =>
      have g0 := hf 0 _ rfl
      have g1 := hf 1 _ rfl
      simp [cellsStr] at g0 g1
      obtain ⟨s0, w0, x0, f0⟩ := DataW.trod_string Tryd.underlying9 g0
      obtain ⟨s1, w1, x1, f1⟩ := DataW.trod_string Tryd.underlying9 g1
      simp only [List.cons.injEq, and_true] at w0 w1
      subst w0
      subst w1
      rw [hxy] at hw
      have hw0 := hw.part Tryd.underlying63 0 rfl rfl
      have hw1 := hw.part Tryd.underlying63 1 rfl rfl
      rw [x0] at hw0
      rw [x1] at hw1
      refine ⟨(s0.data.toList, s1.data.toList), ?_, ?_, ?_, ?_⟩
      · rw [mk_data]; simpa using e0
      · rw [mk_data]; simpa using e1
      · have := hw0.str; simpa using this
      · have := hw1.str; simpa using this
set_option maxRecDepth 8000 in
theorem labels_cell {H : Type} {enc : TypeId × Value → H} {W : World} {fuel : Nat} {u : Value} {x : DataW H × List MemPlace} (hw : Wt 32 x.1) (hf : DataW.trod enc Tryd.prog W 0 (fun _ => true) true fuel 32 [u] = some x) :
    ∃ ls, RdL W u ls ∧ LbIn ls ∧ ls.length ≤ 4398046511104 := by
  rcases Go.Deep.open_slice Tryd.underlying32 hf with ⟨hcs, hx⟩ | ⟨a, l, c, m, n, D, Pl, hcs, hb, hl, hm, hmm, hx, hel⟩
  · simp only [List.cons.injEq, and_true] at hcs
    subst hcs
    exact ⟨[], ⟨none, 0, rfl, by simp, by simp [maxLen], fun j hj => by simp at hj, fun _ => rfl⟩, ⟨by simp, fun j => by simp⟩, by simp⟩
  · simp only [List.cons.injEq, and_true] at hcs
    subst hcs
    simp only [if_true] at hmm
    rw [hx] at hw
    have hwe := Wt.elem hw Tryd.underlying32
    have each : ∀ j, j < l → ∃ q : LbT, W.cell? (a.add (j * 2)) = some (.string (ByteArray.mk ⟨q.1⟩)) ∧ W.cell? (a.add (j * 2 + 1)) = some (.string (ByteArray.mk ⟨q.2⟩)) ∧ q.1.length ≤ 1000000000000000000 ∧ q.2.length ≤ 1000000000000000000 := by
      intro j hj
      obtain ⟨cs', h1, h2⟩ := hel j (by omega)
      exact one_label (x := (D j, Pl j)) (hwe.2 _ (List.mem_map.2 ⟨j, List.mem_range.2 hj, rfl⟩)) h1 h2
    obtain ⟨q, hq⟩ := Go.Deep.choose_lt each
    have hlen : ((List.range l).map q).length = l := by simp
    have hgd : ∀ j, j < l → ((List.range l).map q).getD j ([], []) = q j := fun j hj => by simp [List.getD, hj]
    have hl42 : l ≤ 4398046511104 := by
      have := hwe.1
      rw [bytesLb] at this
      simp only [List.length_map, List.length_range, reachBytes] at this
      omega
    refine ⟨(List.range l).map q, ⟨some a, c, by rw [hlen], by rw [hlen]; omega, hm, fun j hj => ?_, fun h => (by cases h)⟩, ⟨by rw [hlen]; omega, fun j => ?_⟩, by rw [hlen]; exact hl42⟩
    · rw [hlen] at hj
      obtain ⟨h0, h1, -, -⟩ := hq j hj
      have h00 := (hq 0 (by omega)).1
      obtain ⟨b, off, spot⟩ := a
      have hspot : spot = none := by simpa [Addr.add] using World.cell?_spot h00
      subst hspot
      rw [Go.WideShapes.add_plain] at h0 h1
      rw [hgd j hj]
      exact ⟨b, off, rfl, h0, by rw [Nat.add_assoc]; exact h1⟩
    · by_cases hj : j < l
      · rw [hgd j hj]
        exact (hq j hj).2.2
      · have : ((List.range l).map q).getD j ([], []) = ([], []) := by simp [List.getD, hj]
        rw [this]
        simp
set_option maxRecDepth 8000 in
theorem open_labels {H : Type} {enc : TypeId × Value → H} {W : World} {base : Nat} {v : Value} {d : DataW H} {p : List MemPlace} (hw : Wt 32 d) (hval : Value.okWide Tryd.prog W .any base 32 v)
    (h : DataW.Trod enc Tryd.prog W 0 (fun _ => true) true 32 v d p) : ∃ ls, RdL W v ls ∧ LbIn ls ∧ ls.length ≤ 4398046511104 := by
  obtain ⟨a0, len, cap, rfl⟩ := okWide_slice Tryd.underlying32 hval
  obtain ⟨fuel, hf⟩ := h
  exact labels_cell (x := (d, p)) hw (by simpa [Value.cells] using hf)
set_option maxRecDepth 8000 in
theorem back_labels {H : Type} {enc : TypeId × Value → H} {W W' : World} {v : Value} {d : DataW H} {p : List MemPlace} (h : DataW.Trod enc Tryd.prog W 0 (fun _ => true) true 32 v d p) (hb : Below W.heap.size W W') :
    DataW.Trod enc Tryd.prog W' 0 (fun b => decide (b < W.heap.size)) true 32 v d p :=
  Below.trod laidOut (by kernel_rfl) (of_decide_eq_true (by kernel_rfl)) h hb (by obtain ⟨m, hm⟩ := h; exact DataW.trod_lt m _ _ _ hm)

def rho : Ren := ⟨fun x => x, fun n => if n = 5 then 5 else if n = 119 then 121 else if n = 138 then 123 else if n = 139 then 124 else 0, fun n => if n = 3 then 0 else if n = 4 then 1 else 0⟩
theorem rhoT : U8Types Tryd.prog rho := ⟨Tryd.underlying5, Tryd.underlying121, Tryd.underlying123, Tryd.underlying124⟩
theorem rhoX : U8Extra Tryd.prog rho := ⟨by kernel_rfl, by kernel_rfl, by kernel_rfl, by kernel_rfl, by kernel_rfl, by kernel_rfl, by kernel_rfl⟩
theorem u8S_of {W : World} {laid : List (String × DataW Unit)} (h : laidMet Tryd.prog laid W) (h1 : ("unicode/utf8.first", Rows.laid_unicode_utf8_first) ∈ laid) (h2 : ("unicode/utf8.acceptRanges", (Rows.laid_unicode_utf8_acceptRanges : DataW Unit)) ∈ laid) : U8S W := by
  have r1 := laidMet.reads h h1
  have r2 := laidMet.reads h h2
  rw [show Rows.laid_unicode_utf8_first = firstData from Pinned.utf8First_eq] at r1
  rw [show (Rows.laid_unicode_utf8_acceptRanges : DataW Unit) = acceptData from by kernel_rfl] at r2
  exact utf8Tabs_of_readsT rhoT rhoX r1 r2
/-- A WORLD FOR THE WITNESS: the tables hold what their initialisers lay. -/
noncomputable def laidWorld1 (os : Os) : World :=
  { World.holding Tryd.prog os ⟨#[], #[], []⟩ with heap := (World.holding Tryd.prog os ⟨#[], #[], []⟩).heap.modify 0 fun
      | .cells _ t frozen => .cells (Go.Pinned.utf8FirstZ.map fun n : Nat => Value.int .u8 (n : Int)).toArray t frozen
      | o => o }
noncomputable def laidWorld (os : Os) : World :=
  { laidWorld1 os with heap := (laidWorld1 os).heap.modify 1 fun
      | .cells _ t frozen => .cells #[.int .u8 128, .int .u8 191, .int .u8 160, .int .u8 191, .int .u8 128, .int .u8 159, .int .u8 144, .int .u8 191, .int .u8 128, .int .u8 143, .int .u8 0, .int .u8 0, .int .u8 0, .int .u8 0, .int .u8 0, .int .u8 0, .int .u8 0, .int .u8 0, .int .u8 0, .int .u8 0, .int .u8 0, .int .u8 0, .int .u8 0, .int .u8 0, .int .u8 0, .int .u8 0, .int .u8 0, .int .u8 0, .int .u8 0, .int .u8 0, .int .u8 0, .int .u8 0] t frozen
      | o => o }
end Go.Proofs.YtmgbcmogdjhacaaDoor
