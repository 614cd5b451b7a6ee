/-
  LxLift, LxLiftT, in one text.
-/
import Derived.Test.YtifjdfmmafbhkaaGreatDoorCards
import Derived.Test.YtifjdfmmafbhkaaGreatDoorTie
import Derived.Test.YtifjdfmmafbhkaaGreatDoorLxV
import Derived.ProofKit
import Derived.OpenShut
import Derived.ShutString
import Derived.ChangeOld
import Derived.SizedLaws
import Derived.Deep.DeepHandedRow
import Derived.Deep.Slices
import Derived.Lib.LaidU8T
import Derived.PinnedBridge
import Derived.LaidLaws
import Derived.MakeChecks
import Derived.Test.YtifjdfmmafbhkaaGreatDoorLxZd
/- LxLift -/
namespace Go.Proofs.YtifjdfmmafbhkaaGreatDoor
open Go.ChangeShapes Go.WideShapes Go.ChangeAt Go.RowKit Go.Lib Go.Shelf

theorem own : ownKnob Tryz.prog.godebug = none := by kernel_rfl
theorem laidOut : laidOutB Tryz.prog = true := by kernel_rfl
theorem cellsStr : Tryz.prog.cellsOf 9 = 1 := by kernel_rfl
theorem cellsI64 : Tryz.prog.cellsOf 2 = 1 := by kernel_rfl
theorem cellsU64 : Tryz.prog.cellsOf 82 = 1 := by kernel_rfl
theorem cellsUnit : Tryz.prog.cellsOf 74 = 2 := by kernel_rfl
theorem cellsP10 : Tryz.prog.cellsOf 116 = 20 := by kernel_rfl
theorem gUn : Tryz.prog.globalNamed "tocsin/lex.units" = some 2 := by kernel_rfl
theorem gUnType : (Tryz.prog.globals[2]?).map (·.type) = some 75 := by kernel_rfl
theorem gP10Type : (Tryz.prog.globals[4]?).map (·.type) = some 116 := by kernel_rfl
theorem mk_data (s : ByteArray) : ByteArray.mk ⟨s.data.toList⟩ = s := by cases s; rfl
/-- what an argument weighs is within reach -/
def Wt {H : Type} (t : TypeId) (d : DataW H) : Prop := ∀ n ∈ d.weights Tryz.prog t, n ≤ reachBytes
theorem Wt.of {H : Type} {ts : List TypeId} {ds : List (DataW H)} (hk : (DataW.weightsEach Tryz.prog ts ds).all (· ≤ reachBytes) = true) (j : Nat) {t : TypeId} {d : DataW H} (ht : ts[j]? = some t) (hd : ds[j]? = some d) : Wt t d := fun n hn => by
  simpa using List.all_eq_true.1 hk n (DataW.weights_mem_each ht hd n hn)
theorem Wt.elem {H : Type} {t e : TypeId} {elems spare : List (DataW H)} (h : Wt t (.slice elems spare)) (hu : Tryz.prog.underlying t = some (.slice e)) : (elems.length + spare.length) * Tryz.prog.bytesOf e ≤ reachBytes ∧ ∀ d ∈ elems, Wt e d := by
  have hmem : ∀ (l : List (DataW H)) (d : DataW H), d ∈ l → ∀ n ∈ d.weights Tryz.prog e, n ∈ DataW.weightsAll Tryz.prog e l := by
    intro l
    induction l with
    | nil => intro d hd; cases hd
    | cons y l ih =>
      intro d hd n hn
      simp only [DataW.weightsAll, List.mem_append]
      cases hd with
      | head => exact .inl hn
      | tail _ h => exact .inr (ih d h n hn)
  refine ⟨h _ (by simp [DataW.weights, hu]), fun d hd n hn => h n ?_⟩
  simp only [DataW.weights, hu, List.mem_cons, List.mem_append]
  exact .inr (.inl (hmem _ d hd n hn))
theorem Wt.part {H : Type} {t : TypeId} {fs : Array Field} {parts : List (DataW H)} (h : Wt t (.agg parts)) (hu : Tryz.prog.underlying t = some (.struct fs)) (j : Nat) {u : TypeId} {d : DataW H} (ht : (fs.toList.map (·.type))[j]? = some u) (hd : parts[j]? = some d) : Wt u d := fun n hn => by
  refine h n ?_
  simp only [DataW.weights, hu]
  exact DataW.weights_mem_each ht hd n hn
theorem Wt.str {H : Type} {t : TypeId} {bs : List UInt8} (h : Wt (H := H) t (.lit (.string bs))) : bs.length ≤ 1000000000000000000 := by
  have := h bs.length (by simp [DataW.weights])
  simp only [reachBytes] at this
  omega
theorem Wt.str47 {H : Type} {t : TypeId} {bs : List UInt8} (h : Wt (H := H) t (.lit (.string bs))) : bs.length ≤ 140737488351232 := by
  have := h bs.length (by simp [DataW.weights])
  simp only [reachBytes] at this
  omega
def rho : Ren := ⟨fun x => x, fun n => if n = 5 then 5 else if n = 119 then 61 else if n = 138 then 63 else if n = 139 then 64 else 0, fun n => if n = 3 then 0 else if n = 4 then 1 else 0⟩
theorem rhoT : U8Types Tryz.prog rho := ⟨Tryz.underlying5, Tryz.underlying61, Tryz.underlying63, Tryz.underlying64⟩
theorem rhoX : U8Extra Tryz.prog rho := ⟨by kernel_rfl, by kernel_rfl, by kernel_rfl, by kernel_rfl, by kernel_rfl, by kernel_rfl, by kernel_rfl⟩
theorem u8S_of {W : World} {laid : List (String × DataW Unit)} (h : laidMet Tryz.prog laid W) (h1 : ("unicode/utf8.first", Rows.laid_unicode_utf8_first) ∈ laid) (h2 : ("unicode/utf8.acceptRanges", (Rows.laid_unicode_utf8_acceptRanges : DataW Unit)) ∈ laid) : U8S W := by
  have r1 := laidMet.reads h h1
  have r2 := laidMet.reads h h2
  rw [show Rows.laid_unicode_utf8_first = firstData from Pinned.utf8First_eq] at r1
  rw [show (Rows.laid_unicode_utf8_acceptRanges : DataW Unit) = acceptData from by kernel_rfl] at r2
  exact utf8Tabs_of_readsT rhoT rhoX r1 r2
set_option maxRecDepth 100000 in
theorem unT_of {W : World} {laid : List (String × DataW Unit)} (h : laidMet Tryz.prog laid W) (h1 : ("tocsin/lex.units", (Rows.laid_tocsin_lex_units : DataW Unit)) ∈ laid) : UnT W := by
  obtain ⟨g, t, cs, fuel, p, hg, hty, hvar, hd⟩ := laidMet.reads h h1
  obtain rfl := Option.some.inj (gUn.symm.trans hg)
  obtain rfl := Option.some.inj (gUnType.symm.trans hty)
  intro i hi
  obtain ⟨fuel', d, q, hdi, he⟩ := array_elem Tryz.underlying75 hd i hi
  have hd2 : d = .agg [.lit (.string (unS i)), .lit (.int .i64 (unM i : Int))] := by
    have : i = 0 ∨ i = 1 ∨ i = 2 ∨ i = 3 ∨ i = 4 ∨ i = 5 ∨ i = 6 := by omega
    rcases this with rfl | rfl | rfl | rfl | rfl | rfl | rfl <;> exact (Option.some.inj hdi).symm
  subst hd2
  rw [cellsUnit] at he
  obtain ⟨xs, k, hk, hxy, hlen, hxl, hf⟩ := DataW.trod_struct Tryz.underlying74 he
  rw [cellsUnit] at hlen
  have key0 : (cs.toList.drop (i * 2)).take 2 = [(.string (ByteArray.mk ⟨unS i⟩) : Value), .int .i64 (unM i : Int)] := by
    generalize (cs.toList.drop (i * 2)).take 2 = part at *
    match part, hlen with
    | [v0, v1], _ =>
      match xs, hxl with
      | [y0, y1], _ =>
        have g0 := hf 0 _ rfl
        have g1 := hf 1 _ rfl
        simp [cellsStr, cellsI64] at g0 g1
        obtain ⟨s0, w0, x0, f0⟩ := DataW.trod_string Tryz.underlying9 g0
        obtain ⟨z1, w1, x1, f1⟩ := DataW.trod_int Tryz.underlying2 g1
        simp only [List.cons.injEq, and_true] at w0 w1
        subst w0 w1 x0 x1
        have e := congrArg Prod.fst hxy
        simp only [List.map_cons, List.map_nil, DataW.agg.injEq, List.cons.injEq, DataW.lit.injEq, Lit.string.injEq, Lit.int.injEq, true_and, and_true] at e
        obtain ⟨e0, e1⟩ := e
        rw [← e1, e0, mk_data]
  have e0 := congrArg (·[0]?) key0
  have e1 := congrArg (·[1]?) key0
  simp only [List.getElem?_take, List.getElem?_drop] at e0 e1
  constructor
  · rw [World.var?_cell hg hvar (i * 2), ← Array.getElem?_toList]
    simpa using e0
  · rw [World.var?_cell hg hvar (i * 2 + 1), ← Array.getElem?_toList]
    simpa using e1
set_option maxRecDepth 100000 in
theorem p10_of {W : World} {laid : List (String × DataW Unit)} (h : laidMet Tryz.prog laid W) (h1 : ("internal/strconv.uint64pow10", (Rows.laid_internal_strconv_uint64pow10 : DataW Unit)) ∈ laid) : P10 W := by
  obtain ⟨g, t, cs, fuel, p, hg, hty, hvar, hd⟩ := laidMet.reads h h1
  obtain rfl := Option.some.inj (gP10.symm.trans hg)
  obtain rfl := Option.some.inj (gP10Type.symm.trans hty)
  rw [show (Rows.laid_internal_strconv_uint64pow10 : DataW Unit) = tabData .u64 pow10Tab from by kernel_rfl] at hd
  have hcs := cells_of_tab (zs := pow10Tab) Tryz.underlying116 Tryz.underlying82 cellsU64 cellsP10 hd
  unfold P10 TabIs
  rw [hvar, ← hcs]
/-- A WORLD FOR THE WITNESS: the tables hold what their initialisers lay. -/
noncomputable def laidW1 (w : World) (g : Nat) (cs : Array Value) : World :=
  { w with heap := w.heap.modify g fun
      | .cells _ t frozen => .cells cs t frozen
      | o => o }
noncomputable def laidWorld (os : Os) : World :=
  laidW1 (laidW1 (laidW1 (laidW1 (laidW1 (laidW1 (World.holding Tryz.prog os ⟨#[], #[], []⟩) 0 (Go.Pinned.utf8FirstZ.map fun n : Nat => Value.int .u8 (n : Int)).toArray)
    1 #[.int .u8 128, .int .u8 191, .int .u8 160, .int .u8 191, .int .u8 128, .int .u8 159, .int .u8 144, .int .u8 191, .int .u8 128, .int .u8 143, .int .u8 0, .int .u8 0, .int .u8 0, .int .u8 0, .int .u8 0, .int .u8 0, .int .u8 0, .int .u8 0, .int .u8 0, .int .u8 0, .int .u8 0, .int .u8 0, .int .u8 0, .int .u8 0, .int .u8 0, .int .u8 0, .int .u8 0, .int .u8 0, .int .u8 0, .int .u8 0, .int .u8 0, .int .u8 0])
    2 #[.string (ByteArray.mk ⟨[121]⟩), .int .i64 31536000000, .string (ByteArray.mk ⟨[119]⟩), .int .i64 604800000, .string (ByteArray.mk ⟨[100]⟩), .int .i64 86400000, .string (ByteArray.mk ⟨[104]⟩), .int .i64 3600000, .string (ByteArray.mk ⟨[109]⟩), .int .i64 60000, .string (ByteArray.mk ⟨[115]⟩), .int .i64 1000, .string (ByteArray.mk ⟨[109, 115]⟩), .int .i64 1])
    4 #[.int .u64 1, .int .u64 10, .int .u64 100, .int .u64 1000, .int .u64 10000, .int .u64 100000, .int .u64 1000000, .int .u64 10000000, .int .u64 100000000, .int .u64 1000000000, .int .u64 10000000000, .int .u64 100000000000, .int .u64 1000000000000, .int .u64 10000000000000, .int .u64 100000000000000, .int .u64 1000000000000000, .int .u64 10000000000000000, .int .u64 100000000000000000, .int .u64 1000000000000000000, .int .u64 10000000000000000000])
    7 #[.int .u8 0, .int .u8 1, .int .u8 28, .int .u8 2, .int .u8 29, .int .u8 14, .int .u8 24, .int .u8 3, .int .u8 30, .int .u8 22, .int .u8 20, .int .u8 15, .int .u8 25, .int .u8 17, .int .u8 4, .int .u8 8, .int .u8 31, .int .u8 27, .int .u8 13, .int .u8 23, .int .u8 21, .int .u8 19, .int .u8 16, .int .u8 7, .int .u8 26, .int .u8 12, .int .u8 18, .int .u8 6, .int .u8 11, .int .u8 5, .int .u8 10, .int .u8 9])
    8 #[.int .u8 0, .int .u8 1, .int .u8 56, .int .u8 2, .int .u8 57, .int .u8 49, .int .u8 28, .int .u8 3, .int .u8 61, .int .u8 58, .int .u8 42, .int .u8 50, .int .u8 38, .int .u8 29, .int .u8 17, .int .u8 4, .int .u8 62, .int .u8 47, .int .u8 59, .int .u8 36, .int .u8 45, .int .u8 43, .int .u8 51, .int .u8 22, .int .u8 53, .int .u8 39, .int .u8 33, .int .u8 30, .int .u8 24, .int .u8 18, .int .u8 12, .int .u8 5, .int .u8 63, .int .u8 55, .int .u8 48, .int .u8 27, .int .u8 60, .int .u8 41, .int .u8 37, .int .u8 16, .int .u8 46, .int .u8 35, .int .u8 44, .int .u8 21, .int .u8 52, .int .u8 32, .int .u8 23, .int .u8 11, .int .u8 54, .int .u8 26, .int .u8 40, .int .u8 15, .int .u8 34, .int .u8 20, .int .u8 31, .int .u8 10, .int .u8 25, .int .u8 14, .int .u8 19, .int .u8 9, .int .u8 13, .int .u8 8, .int .u8 7, .int .u8 6]
end Go.Proofs.YtifjdfmmafbhkaaGreatDoor

/- LxLiftT -/
namespace Go.Proofs.YtifjdfmmafbhkaaGreatDoor
open Go.ChangeShapes Go.WideShapes Go.ChangeAt Go.RowKit Go.Lib Go.Shelf

theorem cellsTok : Tryz.prog.cellsOf 24 = 3 := by kernel_rfl
theorem cellsInt : Tryz.prog.cellsOf 3 = 1 := by kernel_rfl
theorem bulkAll_len {H : Type} (l : List (DataW H)) : l.length ≤ Rows.uptoBulkAll l := by
  induction l with
  | nil => simp [Rows.uptoBulkAll]
  | cons x r ih =>
    have h1 : 1 ≤ Rows.uptoBulk x := by
      cases x with
      | lit v => cases v <;> simp [Rows.uptoBulk]
      | _ => simp [Rows.uptoBulk]
    simp only [Rows.uptoBulkAll, List.length_cons]
    omega
theorem bulkAll_mem {H : Type} (l : List (DataW H)) (x : DataW H) (h : x ∈ l) : Rows.uptoBulk x ≤ Rows.uptoBulkAll l := by
  induction l with
  | nil => cases h
  | cons y r ih =>
    simp only [Rows.uptoBulkAll]
    cases h with
    | head => omega
    | tail _ h => have := ih h; omega
theorem i64_wf {z : Int} (h : (Lit.int .i64 z).wf = true) : -9223372036854775808 ≤ z ∧ z ≤ 9223372036854775807 := by
  simp [Lit.wf, IntKind.min, IntKind.max, IntKind.signed, IntKind.bits] at h
  omega
set_option maxRecDepth 8000 in
theorem one_tok {H : Type} {enc : TypeId × Value → H} {W : World} {n : Nat} {a : Addr} {j : Nat} {cs : List Value} {x : DataW H × List MemPlace} (h1 : W.cells? 0 (a.add (j * Tryz.prog.cellsOf 24)) (Tryz.prog.cellsOf 24) = some cs)
    (h2 : DataW.trod enc Tryz.prog W 0 (fun _ => true) true n 24 cs = some x) : ∃ q : Tok, W.cell? (a.add (j * 3)) = some (.int .i64 q.1) ∧ W.cell? (a.add (j * 3 + 1)) = some (.string (ByteArray.mk ⟨q.2.1⟩)) ∧ W.cell? (a.add (j * 3 + 2)) = some (.int .i64 q.2.2) ∧ q.2.1.length ≤ Rows.uptoBulk x.1 := by
  rw [cellsTok] at h1
  obtain ⟨_, hlen, hcell⟩ := World.cells?_some h1
  obtain ⟨xs, k, hk, hxy, _, hxl, hf⟩ := DataW.trod_struct Tryz.underlying24 h2
  match cs, hlen with
  | [v0, v1, v2], _ =>
    have e0 := hcell 0 (by omega)
    have e1 := hcell 1 (by omega)
    have e2 := hcell 2 (by omega)
    rw [Go.Deep.add_add] at e0 e1 e2
    match xs, hxl with
    | [y0, y1, y2], _ =>
      have g0 := hf 0 _ rfl
      have g1 := hf 1 _ rfl
      have g2 := hf 2 _ rfl
      simp [cellsStr, cellsInt] at g0 g1 g2
      obtain ⟨z0, w0, x0, f0⟩ := DataW.trod_int Tryz.underlying3 g0
      obtain ⟨s1, w1, x1, f1⟩ := DataW.trod_string Tryz.underlying9 g1
      obtain ⟨z2, w2, x2, f2⟩ := DataW.trod_int Tryz.underlying3 g2
      simp only [List.cons.injEq, and_true] at w0 w1 w2
      subst w0 w1 w2
      refine ⟨(z0, s1.data.toList, z2), by simpa using e0, ?_, by simpa using e2, ?_⟩
      · rw [mk_data]; simpa using e1
      · rw [hxy]
        simp only [List.map_cons, List.map_nil, Rows.uptoBulk, Rows.uptoBulkAll, x1]
        omega
set_option maxRecDepth 8000 in
theorem open_toks {H : Type} {enc : TypeId × Value → H} {W : World} {base : Nat} {v : Value} {d : DataW H} {p : List MemPlace} (hval : Value.okWide Tryz.prog W .any base 22 v)
    (h : DataW.Trod enc Tryz.prog W 0 (fun _ => true) true 22 v d p) : ∃ l, RdT W v l ∧ l.length ≤ Rows.uptoBulk d ∧ ∀ t ∈ l, t.2.1.length ≤ Rows.uptoBulk d := by
  obtain ⟨a0, len, cap, rfl⟩ := okWide_slice Tryz.underlying22 hval
  obtain ⟨fuel, hf⟩ := h
  rcases Go.Deep.open_slice Tryz.underlying22 hf with ⟨hcs, hx⟩ | ⟨a, l, c, m, n, D, Pl, hcs, hb, hl, hm, hmm, hx, hel⟩
  · simp [Value.cells] at hcs
    obtain ⟨rfl, rfl, rfl⟩ := hcs
    exact ⟨[], ⟨none, 0, rfl, by simp, by simp [maxLen], fun j hj => by simp at hj⟩, by simp, fun t ht => by cases ht⟩
  · simp [Value.cells] at hcs
    obtain ⟨rfl, rfl, rfl⟩ := hcs
    simp only [if_true] at hmm
    have each : ∀ j, j < len → ∃ q : Tok, (W.cell? (a.add (j * 3)) = some (.int .i64 q.1) ∧ W.cell? (a.add (j * 3 + 1)) = some (.string (ByteArray.mk ⟨q.2.1⟩)) ∧ W.cell? (a.add (j * 3 + 2)) = some (.int .i64 q.2.2)) ∧ q.2.1.length ≤ Rows.uptoBulk (D j) := by
      intro j hj
      obtain ⟨cs', h1, h2⟩ := hel j (by omega)
      obtain ⟨q, q0, q1, q2, q3⟩ := one_tok h1 h2
      exact ⟨q, ⟨q0, q1, q2⟩, q3⟩
    obtain ⟨q, hq⟩ := Go.Deep.choose_lt each
    have hlen : ((List.range len).map q).length = len := by simp
    have hgd : ∀ j, j < len → ((List.range len).map q).getD j tkD = q j := fun j hj => by simp [List.getD, hj]
    have hbk : Rows.uptoBulkAll ((List.range len).map D) ≤ Rows.uptoBulk d := by
      have hd : d = _ := congrArg Prod.fst hx
      rw [hd]
      simp only [Rows.uptoBulk]
      omega
    refine ⟨(List.range len).map q, ⟨some a, cap, by rw [hlen], by rw [hlen]; omega, hm, fun j hj => ?_⟩, ?_, ?_⟩
    · rw [hlen] at hj
      obtain ⟨h0, h1, h2⟩ := (hq j hj).1
      have h00 := (hq 0 (by omega)).1.1
      obtain ⟨b, off, spot⟩ := a
      have hspot : spot = none := by simpa [Addr.add] using World.cell?_spot h00
      subst hspot
      rw [Go.WideShapes.add_plain] at h0 h1 h2
      rw [hgd j hj]
      exact ⟨b, off, rfl, h0, by rw [Nat.add_assoc]; exact h1, by rw [Nat.add_assoc]; exact h2⟩
    · rw [hlen]
      have := bulkAll_len ((List.range len).map D)
      simp only [List.length_map, List.length_range] at this
      omega
    · intro t ht
      obtain ⟨j, hj, rfl⟩ := List.mem_map.1 ht
      have h1 := (hq j (List.mem_range.1 hj)).2
      have h2 := bulkAll_mem ((List.range len).map D) (D j) (List.mem_map.2 ⟨j, hj, rfl⟩)
      omega
set_option maxRecDepth 8000 in
theorem back_toks {H : Type} {enc : TypeId × Value → H} {W W' : World} {v : Value} {d : DataW H} {p : List MemPlace} (h : DataW.Trod enc Tryz.prog W 0 (fun _ => true) true 22 v d p) (hb : Below W.heap.size W W') :
    DataW.Trod enc Tryz.prog W' 0 (fun b => decide (b < W.heap.size)) true 22 v d p :=
  Below.trod laidOut (by kernel_rfl) (of_decide_eq_true (by kernel_rfl)) h hb (by obtain ⟨m, hm⟩ := h; exact DataW.trod_lt m _ _ _ hm)
end Go.Proofs.YtifjdfmmafbhkaaGreatDoor
