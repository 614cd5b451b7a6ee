/-
  LbLift, NfLift, NfLiftM, NfLiftO, in one text.
-/
import Derived.Test.YtpglhdnepmcahaaGreatDoorCards
import Derived.Test.YtpglhdnepmcahaaGreatDoorTie
import Derived.Test.YtpglhdnepmcahaaGreatDoorLpA
import Derived.Test.YtpglhdnepmcahaaGreatDoorLbL
import Derived.ProofKit
import Derived.OpenShut
import Derived.ShutString
import Derived.ChangeOld
import Derived.SizedLaws
import Derived.Deep.DeepHandedRow
import Derived.Deep.Slices
import Derived.Lib.LaidU8T
import Derived.PinnedBridge
import Derived.LaidLaws
import Derived.MakeChecks
import Derived.Test.YtpglhdnepmcahaaGreatDoorNmD
import Derived.Test.YtpglhdnepmcahaaGreatDoorNky
/- LbLift -/
namespace Go.Proofs.YtpglhdnepmcahaaGreatDoor
open Go.ChangeShapes Go.WideShapes Go.ChangeAt Go.RowKit Go.Lib Go.Shelf

theorem own : ownKnob Tryz.prog.godebug = none := by kernel_rfl
theorem laidOut : laidOutB Tryz.prog = true := by kernel_rfl
theorem cellsLb : Tryz.prog.cellsOf 51 = 2 := by kernel_rfl
theorem cellsStr : Tryz.prog.cellsOf 9 = 1 := by kernel_rfl
theorem bytesLb : Tryz.prog.bytesOf 51 = 32 := by kernel_rfl
theorem data_len (s : ByteArray) : s.data.toList.length = s.size := by rw [Array.length_toList]; rfl
theorem mk_data (s : ByteArray) : ByteArray.mk ⟨s.data.toList⟩ = s := by cases s; rfl
/-- what an argument weighs is within reach -/
def Wt {H : Type} (t : TypeId) (d : DataW H) : Prop := ∀ n ∈ d.weights Tryz.prog t, n ≤ reachBytes
theorem Wt.of {H : Type} {ts : List TypeId} {ds : List (DataW H)} (hk : (DataW.weightsEach Tryz.prog ts ds).all (· ≤ reachBytes) = true) (j : Nat) {t : TypeId} {d : DataW H} (ht : ts[j]? = some t) (hd : ds[j]? = some d) : Wt t d := fun n hn => by
  simpa using List.all_eq_true.1 hk n (DataW.weights_mem_each ht hd n hn)
theorem Wt.elem {H : Type} {t e : TypeId} {elems spare : List (DataW H)} (h : Wt t (.slice elems spare)) (hu : Tryz.prog.underlying t = some (.slice e)) : (elems.length + spare.length) * Tryz.prog.bytesOf e ≤ reachBytes ∧ ∀ d ∈ elems, Wt e d := by
  have hmem : ∀ (l : List (DataW H)) (d : DataW H), d ∈ l → ∀ n ∈ d.weights Tryz.prog e, n ∈ DataW.weightsAll Tryz.prog e l := by
    intro l
    induction l with
    | nil => intro d hd; cases hd
    | cons y l ih =>
      intro d hd n hn
      simp only [DataW.weightsAll, List.mem_append]
      cases hd with
      | head => exact .inl hn
      | tail _ h => exact .inr (ih d h n hn)
  refine ⟨h _ (by simp [DataW.weights, hu]), fun d hd n hn => h n ?_⟩
  simp only [DataW.weights, hu, List.mem_cons, List.mem_append]
  exact .inr (.inl (hmem _ d hd n hn))
theorem Wt.part {H : Type} {t : TypeId} {fs : Array Field} {parts : List (DataW H)} (h : Wt t (.agg parts)) (hu : Tryz.prog.underlying t = some (.struct fs)) (j : Nat) {u : TypeId} {d : DataW H} (ht : (fs.toList.map (·.type))[j]? = some u) (hd : parts[j]? = some d) : Wt u d := fun n hn => by
  refine h n ?_
  simp only [DataW.weights, hu]
  exact DataW.weights_mem_each ht hd n hn
theorem Wt.str {H : Type} {t : TypeId} {bs : List UInt8} (h : Wt (H := H) t (.lit (.string bs))) : bs.length ≤ 1000000000000000000 := by
  have := h bs.length (by simp [DataW.weights])
  simp only [reachBytes] at this
  omega
set_option maxRecDepth 8000 in
theorem one_label {H : Type} {enc : TypeId × Value → H} {W : World} {n : Nat} {a : Addr} {j : Nat} {cs : List Value} {x : DataW H × List MemPlace} (hw : Wt 51 x.1) (h1 : W.cells? 0 (a.add (j * Tryz.prog.cellsOf 51)) (Tryz.prog.cellsOf 51) = some cs)
    (h2 : DataW.trod enc Tryz.prog W 0 (fun _ => true) true n 51 cs = some x) : ∃ q : LbT, W.cell? (a.add (j * 2)) = some (.string (ByteArray.mk ⟨q.1⟩)) ∧ W.cell? (a.add (j * 2 + 1)) = some (.string (ByteArray.mk ⟨q.2⟩)) ∧ q.1.length ≤ 1000000000000000000 ∧ q.2.length ≤ 1000000000000000000 := by
  rw [cellsLb] at h1
  obtain ⟨_, hlen, hcell⟩ := World.cells?_some h1
  obtain ⟨xs, k, hk, hxy, _, hxl, hf⟩ := DataW.trod_struct Tryz.underlying51 h2
  match cs, hlen with
  | [v0, v1], _ =>
    have e0 := hcell 0 (by omega)
    have e1 := hcell 1 (by omega)
    rw [Go.Deep.add_add] at e0 e1
    match xs, hxl with
    | [y0, y1], _ =>
      have g0 := hf 0 _ rfl
      have g1 := hf 1 _ rfl
      simp [cellsStr] at g0 g1
      obtain ⟨s0, w0, x0, f0⟩ := DataW.trod_string Tryz.underlying9 g0
      obtain ⟨s1, w1, x1, f1⟩ := DataW.trod_string Tryz.underlying9 g1
      simp only [List.cons.injEq, and_true] at w0 w1
      subst w0
      subst w1
      rw [hxy] at hw
      have hw0 := hw.part Tryz.underlying51 0 rfl rfl
      have hw1 := hw.part Tryz.underlying51 1 rfl rfl
      rw [x0] at hw0
      rw [x1] at hw1
      refine ⟨(s0.data.toList, s1.data.toList), ?_, ?_, ?_, ?_⟩
      · rw [mk_data]; simpa using e0
      · rw [mk_data]; simpa using e1
      · have := hw0.str; simpa using this
      · have := hw1.str; simpa using this
set_option maxRecDepth 8000 in
theorem labels_cell {H : Type} {enc : TypeId × Value → H} {W : World} {fuel : Nat} {u : Value} {x : DataW H × List MemPlace} (hw : Wt 52 x.1) (hf : DataW.trod enc Tryz.prog W 0 (fun _ => true) true fuel 52 [u] = some x) :
    ∃ ls, RdL W u ls ∧ LbIn ls ∧ ls.length ≤ 4398046511104 := by
  rcases Go.Deep.open_slice Tryz.underlying52 hf with ⟨hcs, hx⟩ | ⟨a, l, c, m, n, D, Pl, hcs, hb, hl, hm, hmm, hx, hel⟩
  · simp only [List.cons.injEq, and_true] at hcs
    subst hcs
    exact ⟨[], ⟨none, 0, rfl, by simp, by simp [maxLen], fun j hj => by simp at hj, fun _ => rfl⟩, ⟨by simp, fun j => by simp⟩, by simp⟩
  · simp only [List.cons.injEq, and_true] at hcs
    subst hcs
    simp only [if_true] at hmm
    rw [hx] at hw
    have hwe := Wt.elem hw Tryz.underlying52
    have each : ∀ j, j < l → ∃ q : LbT, W.cell? (a.add (j * 2)) = some (.string (ByteArray.mk ⟨q.1⟩)) ∧ W.cell? (a.add (j * 2 + 1)) = some (.string (ByteArray.mk ⟨q.2⟩)) ∧ q.1.length ≤ 1000000000000000000 ∧ q.2.length ≤ 1000000000000000000 := by
      intro j hj
      obtain ⟨cs', h1, h2⟩ := hel j (by omega)
      exact one_label (x := (D j, Pl j)) (hwe.2 _ (List.mem_map.2 ⟨j, List.mem_range.2 hj, rfl⟩)) h1 h2
    obtain ⟨q, hq⟩ := Go.Deep.choose_lt each
    have hlen : ((List.range l).map q).length = l := by simp
    have hgd : ∀ j, j < l → ((List.range l).map q).getD j ([], []) = q j := fun j hj => by simp [List.getD, hj]
    have hl42 : l ≤ 4398046511104 := by
      have := hwe.1
      rw [bytesLb] at this
      simp only [List.length_map, List.length_range, reachBytes] at this
      omega
    refine ⟨(List.range l).map q, ⟨some a, c, by rw [hlen], by rw [hlen]; omega, hm, fun j hj => ?_, fun h => (by cases h)⟩, ⟨by rw [hlen]; omega, fun j => ?_⟩, by rw [hlen]; exact hl42⟩
    · rw [hlen] at hj
      obtain ⟨h0, h1, -, -⟩ := hq j hj
      have h00 := (hq 0 (by omega)).1
      obtain ⟨b, off, spot⟩ := a
      have hspot : spot = none := by simpa [Addr.add] using World.cell?_spot h00
      subst hspot
      rw [Go.WideShapes.add_plain] at h0 h1
      rw [hgd j hj]
      exact ⟨b, off, rfl, h0, by rw [Nat.add_assoc]; exact h1⟩
    · by_cases hj : j < l
      · rw [hgd j hj]
        exact (hq j hj).2.2
      · have : ((List.range l).map q).getD j ([], []) = ([], []) := by simp [List.getD, hj]
        rw [this]
        simp
set_option maxRecDepth 8000 in
theorem open_labels {H : Type} {enc : TypeId × Value → H} {W : World} {base : Nat} {v : Value} {d : DataW H} {p : List MemPlace} (hw : Wt 52 d) (hval : Value.okWide Tryz.prog W .any base 52 v)
    (h : DataW.Trod enc Tryz.prog W 0 (fun _ => true) true 52 v d p) : ∃ ls, RdL W v ls ∧ LbIn ls ∧ ls.length ≤ 4398046511104 := by
  obtain ⟨a0, len, cap, rfl⟩ := okWide_slice Tryz.underlying52 hval
  obtain ⟨fuel, hf⟩ := h
  exact labels_cell (x := (d, p)) hw (by simpa [Value.cells] using hf)
set_option maxRecDepth 8000 in
theorem back_labels {H : Type} {enc : TypeId × Value → H} {W W' : World} {v : Value} {d : DataW H} {p : List MemPlace} (h : DataW.Trod enc Tryz.prog W 0 (fun _ => true) true 52 v d p) (hb : Below W.heap.size W W') :
    DataW.Trod enc Tryz.prog W' 0 (fun b => decide (b < W.heap.size)) true 52 v d p :=
  Below.trod laidOut (by kernel_rfl) (of_decide_eq_true (by kernel_rfl)) h hb (by obtain ⟨m, hm⟩ := h; exact DataW.trod_lt m _ _ _ hm)

def rho : Ren := ⟨fun x => x, fun n => if n = 5 then 5 else if n = 119 then 148 else if n = 138 then 150 else if n = 139 then 151 else 0, fun n => if n = 3 then 0 else if n = 4 then 1 else 0⟩
theorem rhoT : U8Types Tryz.prog rho := ⟨Tryz.underlying5, Tryz.underlying148, Tryz.underlying150, Tryz.underlying151⟩
theorem rhoX : U8Extra Tryz.prog rho := ⟨by kernel_rfl, by kernel_rfl, by kernel_rfl, by kernel_rfl, by kernel_rfl, by kernel_rfl, by kernel_rfl⟩
theorem u8S_of {W : World} {laid : List (String × DataW Unit)} (h : laidMet Tryz.prog laid W) (h1 : ("unicode/utf8.first", Rows.laid_unicode_utf8_first) ∈ laid) (h2 : ("unicode/utf8.acceptRanges", (Rows.laid_unicode_utf8_acceptRanges : DataW Unit)) ∈ laid) : U8S W := by
  have r1 := laidMet.reads h h1
  have r2 := laidMet.reads h h2
  rw [show Rows.laid_unicode_utf8_first = firstData from Pinned.utf8First_eq] at r1
  rw [show (Rows.laid_unicode_utf8_acceptRanges : DataW Unit) = acceptData from by kernel_rfl] at r2
  exact utf8Tabs_of_readsT rhoT rhoX r1 r2
/-- A WORLD FOR THE WITNESS: the tables hold what their initialisers lay. -/
noncomputable def laidWorld1 (os : Os) : World :=
  { World.holding Tryz.prog os ⟨#[], #[], []⟩ with heap := (World.holding Tryz.prog os ⟨#[], #[], []⟩).heap.modify 0 fun
      | .cells _ t frozen => .cells (Go.Pinned.utf8FirstZ.map fun n : Nat => Value.int .u8 (n : Int)).toArray t frozen
      | o => o }
noncomputable def laidWorld (os : Os) : World :=
  { laidWorld1 os with heap := (laidWorld1 os).heap.modify 1 fun
      | .cells _ t frozen => .cells #[.int .u8 128, .int .u8 191, .int .u8 160, .int .u8 191, .int .u8 128, .int .u8 159, .int .u8 144, .int .u8 191, .int .u8 128, .int .u8 143, .int .u8 0, .int .u8 0, .int .u8 0, .int .u8 0, .int .u8 0, .int .u8 0, .int .u8 0, .int .u8 0, .int .u8 0, .int .u8 0, .int .u8 0, .int .u8 0, .int .u8 0, .int .u8 0, .int .u8 0, .int .u8 0, .int .u8 0, .int .u8 0, .int .u8 0, .int .u8 0, .int .u8 0, .int .u8 0] t frozen
      | o => o }
end Go.Proofs.YtpglhdnepmcahaaGreatDoor

/- NfLift -/
namespace Go.Proofs.YtpglhdnepmcahaaGreatDoor
open Go.ChangeShapes Go.WideShapes Go.ChangeAt Go.RowKit Go.Lib Go.Shelf

theorem cellsOp : Tryz.prog.cellsOf 36 = 8 := by kernel_rfl
theorem cellsMk : Tryz.prog.cellsOf 34 = 5 := by kernel_rfl
theorem cellsI64 : Tryz.prog.cellsOf 2 = 1 := by kernel_rfl
theorem cellsIntA : Tryz.prog.cellsOf 3 = 1 := by kernel_rfl
theorem cellsLLb : Tryz.prog.cellsOf 32 = 1 := by kernel_rfl
set_option maxRecDepth 8000 in
theorem mk_shape {H : Type} {enc : TypeId × Value → H} {W : World} {n : Nat} {cs : List Value} {x : DataW H × List MemPlace}
    (h2 : DataW.trod enc Tryz.prog W 0 (fun _ => true) true n 34 cs = some x) : ∃ (r k : ByteArray) (t : Int) (fa : Option Addr) (fn fc : Nat) (sa : Option Addr) (sn sc : Nat), cs = [.string r, .string k, .int .i64 t, .slice fa fn fc, .slice sa sn sc] := by
  obtain ⟨xs, k, hk0, hxy, hcl, hxl, hf⟩ := DataW.trod_struct Tryz.underlying34 h2
  rw [cellsMk] at hcl
  match cs, hcl with
  | [v0, v1, v2, v3, v4], _ =>
    match xs, hxl with
    | [y0, y1, y2, y3, y4], _ =>
      have g0 := hf 0 _ rfl
      have g1 := hf 1 _ rfl
      have g2 := hf 2 _ rfl
      have g3 := hf 3 _ rfl
      have g4 := hf 4 _ rfl
      simp [cellsStr, cellsI64, cellsLLb] at g0 g1 g2 g3 g4
      obtain ⟨s0, w0, -, -⟩ := DataW.trod_string Tryz.underlying9 g0
      obtain ⟨s1, w1, -, -⟩ := DataW.trod_string Tryz.underlying9 g1
      obtain ⟨z2, w2, -, -⟩ := DataW.trod_int Tryz.underlying2 g2
      have sl : ∀ {u : Value} {y : DataW H × List MemPlace}, DataW.trod enc Tryz.prog W 0 (fun _ => true) true k 32 [u] = some y → ∃ a n c, u = .slice a n c := by
        intro u y hu
        rcases Go.Deep.open_slice Tryz.underlying32 hu with ⟨hcs, -⟩ | ⟨a, l, c, m, n, D, Pl, hcs, -⟩
        · simp only [List.cons.injEq, and_true] at hcs
          exact ⟨_, _, _, hcs⟩
        · simp only [List.cons.injEq, and_true] at hcs
          exact ⟨_, _, _, hcs⟩
      obtain ⟨fa, fn, fc, rfl⟩ := sl g3
      obtain ⟨sa, sn, sc, rfl⟩ := sl g4
      simp only [List.cons.injEq, and_true] at w0 w1 w2
      subst w0 w1 w2
      exact ⟨_, _, _, fa, fn, fc, sa, sn, sc, rfl⟩
set_option maxRecDepth 8000 in
theorem op_shape {H : Type} {enc : TypeId × Value → H} {W : World} {n : Nat} {cs : List Value} {x : DataW H × List MemPlace}
    (h2 : DataW.trod enc Tryz.prog W 0 (fun _ => true) true n 36 cs = some x) : ∃ (kd : Int) (r k : ByteArray) (t : Int) (fa : Option Addr) (fn fc : Nat) (sa : Option Addr) (sn sc : Nat) (nw nn : Int), cs = [.int .i64 kd, .string r, .string k, .int .i64 t, .slice fa fn fc, .slice sa sn sc, .int .i64 nw, .int .i64 nn] := by
  obtain ⟨xs, k, hk0, hxy, hcl, hxl, hf⟩ := DataW.trod_struct Tryz.underlying36 h2
  rw [cellsOp] at hcl
  match cs, hcl with
  | [v0, v1, v2, v3, v4, v5, v6, v7], _ =>
    match xs, hxl with
    | [y0, y1, y2, y3], _ =>
      have g0 := hf 0 _ rfl
      have g1 := hf 1 _ rfl
      have g2 := hf 2 _ rfl
      have g3 := hf 3 _ rfl
      simp [cellsIntA, cellsMk, cellsI64] at g0 g1 g2 g3
      obtain ⟨z0, w0, -, -⟩ := DataW.trod_int Tryz.underlying3 g0
      obtain ⟨z2, w2, -, -⟩ := DataW.trod_int Tryz.underlying2 g2
      obtain ⟨z3, w3, -, -⟩ := DataW.trod_int Tryz.underlying2 g3
      obtain ⟨r, ky, t, fa, fn, fc, sa, sn, sc, e⟩ := mk_shape g1
      simp only [List.cons.injEq, and_true] at w0 w2 w3 e
      obtain ⟨rfl, rfl, rfl, rfl, rfl⟩ := e
      subst w0 w2 w3
      exact ⟨_, _, _, _, fa, fn, fc, sa, sn, sc, _, _, rfl⟩
set_option maxRecDepth 8000 in
theorem open_nop {H : Type} {enc : TypeId × Value → H} {W : World} {base : Nat} {v : Value} {d : DataW H} {p : List MemPlace} (hval : Value.okWide Tryz.prog W .any base 36 v)
    (h : DataW.Trod enc Tryz.prog W 0 (fun _ => true) true 36 v d p) : ∃ (kd : Int) (r k : ByteArray) (t : Int) (fa : Option Addr) (fn fc : Nat) (sa : Option Addr) (sn sc : Nat) (nw nn : Int), v = .agg #[.int .i64 kd, .string r, .string k, .int .i64 t, .slice fa fn fc, .slice sa sn sc, .int .i64 nw, .int .i64 nn] := by
  obtain ⟨cs, rfl, hc⟩ := okWide_struct Tryz.underlying36 hval
  obtain ⟨fuel, hf⟩ := h
  obtain ⟨kd, r, k, t, fa, fn, fc, sa, sn, sc, nw, nn, he⟩ := op_shape (x := (d, p)) hf
  refine ⟨kd, r, k, t, fa, fn, fc, sa, sn, sc, nw, nn, ?_⟩
  have e : cs = #[.int .i64 kd, .string r, .string k, .int .i64 t, .slice fa fn fc, .slice sa sn sc, .int .i64 nw, .int .i64 nn] := by
    cases cs
    simpa [Value.cells] using he
  rw [e]
theorem back_nop {H : Type} {enc : TypeId × Value → H} {W W' : World} {v : Value} {d : DataW H} {p : List MemPlace} (h : DataW.Trod enc Tryz.prog W 0 (fun _ => true) true 36 v d p) (hb : Below W.heap.size W W') :
    DataW.Trod enc Tryz.prog W' 0 (fun b => decide (b < W.heap.size)) true 36 v d p :=
  Below.trod laidOut (by kernel_rfl) (of_decide_eq_true (by kernel_rfl)) h hb (by obtain ⟨m, hm⟩ := h; exact DataW.trod_lt m _ _ _ hm)
end Go.Proofs.YtpglhdnepmcahaaGreatDoor

/- NfLiftM -/
namespace Go.Proofs.YtpglhdnepmcahaaGreatDoor
open Go.ChangeShapes Go.WideShapes Go.ChangeAt Go.RowKit Go.Lib Go.Shelf

theorem cellsLbs1 : Tryz.prog.cellsOf 52 = 1 := by kernel_rfl
theorem bytesLbs1 : Tryz.prog.bytesOf 52 = 24 := by kernel_rfl
theorem wf_rangeN {n : Int} (h : (Lit.int .i64 n).wf = true) : -9223372036854775808 ≤ n ∧ n ≤ 9223372036854775807 := by
  simp [Lit.wf, IntKind.min, IntKind.max, IntKind.signed, IntKind.bits] at h
  omega
set_option maxRecDepth 8000 in
theorem sets_cell {H : Type} {enc : TypeId × Value → H} {W : World} {fuel : Nat} {u : Value} {x : DataW H × List MemPlace} (hw : Wt 32 x.1) (hf : DataW.trod enc Tryz.prog W 0 (fun _ => true) true fuel 32 [u] = some x) :
    ∃ lss, RdLL W u lss ∧ LLIn lss ∧ LLs lss := by
  rcases Go.Deep.open_slice Tryz.underlying32 hf with ⟨hcs, hx⟩ | ⟨a, l, c, m, n, D, Pl, hcs, hb, hl, hm, hmm, hx, hel⟩
  · simp only [List.cons.injEq, and_true] at hcs
    subst hcs
    exact ⟨[], RdLL.nil W, ⟨by simp, fun j => by simpa using LbIn.nil⟩, by simp, fun j => by simp⟩
  · simp only [List.cons.injEq, and_true] at hcs
    subst hcs
    simp only [if_true] at hmm
    rw [hx] at hw
    have hwe := Wt.elem hw Tryz.underlying32
    have each : ∀ j, j < l → ∃ q : Value × List LbT, W.cell? (a.add j) = some q.1 ∧ RdL W q.1 q.2 ∧ LbIn q.2 ∧ q.2.length ≤ 4398046511104 := by
      intro j hj
      obtain ⟨cs', h1, h2⟩ := hel j (by omega)
      rw [cellsLbs1, Nat.mul_one] at h1
      obtain ⟨_, hlen, hcell⟩ := World.cells?_some h1
      match cs', hlen with
      | [v0], _ =>
        have e0 := hcell 0 (by omega)
        rw [Go.Deep.add_add] at e0
        obtain ⟨ls, r1, r2, r3⟩ := labels_cell (x := (D j, Pl j)) (hwe.2 _ (List.mem_map.2 ⟨j, List.mem_range.2 hj, rfl⟩)) h2
        exact ⟨(v0, ls), by simpa using e0, r1, r2, r3⟩
    obtain ⟨q, hq⟩ := Go.Deep.choose_lt each
    have hlen : ((List.range l).map q).length = l := by simp
    have hl6 : l ≤ 6000000000000 := by
      have := hwe.1
      rw [bytesLbs1] at this
      simp only [List.length_map, List.length_range, reachBytes] at this
      omega
    have hv : ∀ j, j < l → ((List.range l).map fun j => (q j).1).getD j nilV = (q j).1 := fun j hj => by simp [List.getD, hj]
    have hs : ∀ j, j < l → ((List.range l).map fun j => (q j).2).getD j [] = (q j).2 := fun j hj => by simp [List.getD, hj]
    have hv' : ∀ j, ¬ j < l → ((List.range l).map fun j => (q j).1).getD j nilV = nilV := fun j hj => by simp [List.getD, hj]
    have hs' : ∀ j, ¬ j < l → ((List.range l).map fun j => (q j).2).getD j [] = [] := fun j hj => by simp [List.getD, hj]
    refine ⟨(List.range l).map fun j => (q j).2, ⟨(List.range l).map fun j => (q j).1, ⟨some a, c, by simp, by simp; omega, hm, fun j hj => ?_, fun h => (by cases h)⟩, by simp, fun j => ?_⟩, ⟨by simp; omega, fun j => ?_⟩, by simp; exact hl6, fun j => ?_⟩
    · have hj : j < l := by simpa using hj
      obtain ⟨h0, -⟩ := hq j hj
      have h00 := (hq 0 (by omega)).1
      obtain ⟨b, off, spot⟩ := a
      have hspot : spot = none := by simpa [Addr.add] using World.cell?_spot h00
      subst hspot
      rw [Go.WideShapes.add_plain] at h0
      rw [hv j hj]
      exact ⟨b, off, rfl, h0⟩
    · by_cases hj : j < l
      · rw [hv j hj, hs j hj]
        exact (hq j hj).2.1
      · rw [hv' j hj, hs' j hj]
        exact RdL.nil W
    · by_cases hj : j < l
      · rw [hs j hj]
        exact (hq j hj).2.2.1
      · rw [hs' j hj]
        exact LbIn.nil
    · by_cases hj : j < l
      · rw [hs j hj]
        exact (hq j hj).2.2.2
      · rw [hs' j hj]
        simp
/-- a mark among the arguments -/
def MkIn (W : World) (m : MkR) (f s : Value) : Prop := RdM W m f s ∧ LLs m.fir ∧ LLs m.res ∧ -9223372036854775808 ≤ m.tim ∧ m.tim ≤ 9223372036854775807
set_option maxRecDepth 8000 in
theorem mk_cells {H : Type} {enc : TypeId × Value → H} {W : World} {n : Nat} {cs : List Value} {x : DataW H × List MemPlace} (hw : Wt 34 x.1)
    (h2 : DataW.trod enc Tryz.prog W 0 (fun _ => true) true n 34 cs = some x) : ∃ (m : MkR) (f s : Value), cs = [.string (ByteArray.mk ⟨m.rcv⟩), .string (ByteArray.mk ⟨m.key⟩), .int .i64 m.tim, f, s] ∧ MkIn W m f s := by
  obtain ⟨xs, k, hk0, hxy, hcl, hxl, hf⟩ := DataW.trod_struct Tryz.underlying34 h2
  rw [cellsMk] at hcl
  match cs, hcl with
  | [v0, v1, v2, v3, v4], _ =>
    match xs, hxl with
    | [y0, y1, y2, y3, y4], _ =>
      have g0 := hf 0 _ rfl
      have g1 := hf 1 _ rfl
      have g2 := hf 2 _ rfl
      have g3 := hf 3 _ rfl
      have g4 := hf 4 _ rfl
      simp [cellsStr, cellsI64, cellsLLb] at g0 g1 g2 g3 g4
      rw [hxy] at hw
      obtain ⟨s0, w0, x0, -⟩ := DataW.trod_string Tryz.underlying9 g0
      obtain ⟨s1, w1, x1, -⟩ := DataW.trod_string Tryz.underlying9 g1
      obtain ⟨z2, w2, -, f2⟩ := DataW.trod_int Tryz.underlying2 g2
      obtain ⟨lf, r1, r2, r3⟩ := sets_cell (hw.part Tryz.underlying34 3 rfl rfl) g3
      obtain ⟨lr, t1, t2, t3⟩ := sets_cell (hw.part Tryz.underlying34 4 rfl rfl) g4
      have hs0 := hw.part Tryz.underlying34 0 rfl rfl
      have hs1 := hw.part Tryz.underlying34 1 rfl rfl
      simp only [x0, x1] at hs0 hs1
      have l0 := Wt.str hs0
      have l1 := Wt.str hs1
      simp only [List.cons.injEq, and_true] at w0 w1 w2
      subst w0 w1 w2
      exact ⟨⟨s0.data.toList, s1.data.toList, z2, lf, lr⟩, v3, v4, by rw [mk_data, mk_data], ⟨r1, t1, r2, t2, l0, l1⟩, r3, t3, wf_rangeN f2⟩
set_option maxRecDepth 8000 in
theorem open_mark {H : Type} {enc : TypeId × Value → H} {W : World} {base : Nat} {v : Value} {d : DataW H} {p : List MemPlace} (hw : Wt 34 d) (hval : Value.okWide Tryz.prog W .any base 34 v)
    (h : DataW.Trod enc Tryz.prog W 0 (fun _ => true) true 34 v d p) : ∃ m f s, v = markV m f s ∧ MkIn W m f s := by
  obtain ⟨cs, rfl, hc⟩ := okWide_struct Tryz.underlying34 hval
  obtain ⟨fuel, hf⟩ := h
  obtain ⟨m, f, s, he, ho⟩ := mk_cells (x := (d, p)) hw hf
  refine ⟨m, f, s, ?_, ho⟩
  have e : cs = #[.string (ByteArray.mk ⟨m.rcv⟩), .string (ByteArray.mk ⟨m.key⟩), .int .i64 m.tim, f, s] := by
    cases cs
    simpa [Value.cells] using he
  rw [e]
  rfl
theorem back_mark {H : Type} {enc : TypeId × Value → H} {W W' : World} {v : Value} {d : DataW H} {p : List MemPlace} (h : DataW.Trod enc Tryz.prog W 0 (fun _ => true) true 34 v d p) (hb : Below W.heap.size W W') :
    DataW.Trod enc Tryz.prog W' 0 (fun b => decide (b < W.heap.size)) true 34 v d p :=
  Below.trod laidOut (by kernel_rfl) (of_decide_eq_true (by kernel_rfl)) h hb (by obtain ⟨m, hm⟩ := h; exact DataW.trod_lt m _ _ _ hm)
set_option maxRecDepth 8000 in
theorem open_sets {H : Type} {enc : TypeId × Value → H} {W : World} {base : Nat} {v : Value} {d : DataW H} {p : List MemPlace} (hw : Wt 32 d) (hval : Value.okWide Tryz.prog W .any base 32 v)
    (h : DataW.Trod enc Tryz.prog W 0 (fun _ => true) true 32 v d p) : ∃ lss, RdLL W v lss ∧ LLIn lss ∧ LLs lss := by
  obtain ⟨a0, len, cap, rfl⟩ := okWide_slice Tryz.underlying32 hval
  obtain ⟨fuel, hf⟩ := h
  exact sets_cell (x := (d, p)) hw (by simpa [Value.cells] using hf)
theorem back_sets {H : Type} {enc : TypeId × Value → H} {W W' : World} {v : Value} {d : DataW H} {p : List MemPlace} (h : DataW.Trod enc Tryz.prog W 0 (fun _ => true) true 32 v d p) (hb : Below W.heap.size W W') :
    DataW.Trod enc Tryz.prog W' 0 (fun b => decide (b < W.heap.size)) true 32 v d p :=
  Below.trod laidOut (by kernel_rfl) (of_decide_eq_true (by kernel_rfl)) h hb (by obtain ⟨m, hm⟩ := h; exact DataW.trod_lt m _ _ _ hm)
end Go.Proofs.YtpglhdnepmcahaaGreatDoor

/- NfLiftO -/
namespace Go.Proofs.YtpglhdnepmcahaaGreatDoor
open Go.ChangeShapes Go.WideShapes Go.ChangeAt Go.RowKit Go.Lib Go.Shelf

set_option maxRecDepth 8000 in
theorem nop_cells {H : Type} {enc : TypeId × Value → H} {W : World} {n : Nat} {cs : List Value} {x : DataW H × List MemPlace} (hw : Wt 36 x.1)
    (h2 : DataW.trod enc Tryz.prog W 0 (fun _ => true) true n 36 cs = some x) : ∃ (q : OpX), cs = [.int .i64 q.1.kd, .string (ByteArray.mk ⟨q.1.m.rcv⟩), .string (ByteArray.mk ⟨q.1.m.key⟩), .int .i64 q.1.m.tim, q.2.1, q.2.2, .int .i64 q.1.now, .int .i64 q.1.num] ∧ RdM W q.1.m q.2.1 q.2.2 ∧ LLs q.1.m.fir ∧ LLs q.1.m.res := by
  obtain ⟨xs, k, hk0, hxy, hcl, hxl, hf⟩ := DataW.trod_struct Tryz.underlying36 h2
  rw [cellsOp] at hcl
  match cs, hcl with
  | [v0, v1, v2, v3, v4, v5, v6, v7], _ =>
    match xs, hxl with
    | [y0, y1, y2, y3], _ =>
      have g0 := hf 0 _ rfl
      have g1 := hf 1 _ rfl
      have g2 := hf 2 _ rfl
      have g3 := hf 3 _ rfl
      simp [cellsIntA, cellsMk, cellsI64] at g0 g1 g2 g3
      obtain ⟨z0, w0, -, -⟩ := DataW.trod_int Tryz.underlying3 g0
      obtain ⟨z2, w2, -, -⟩ := DataW.trod_int Tryz.underlying2 g2
      obtain ⟨z3, w3, -, -⟩ := DataW.trod_int Tryz.underlying2 g3
      rw [hxy] at hw
      obtain ⟨m, f, s, e, ho⟩ := mk_cells (x := y1) (hw.part Tryz.underlying36 1 rfl rfl) g1
      simp only [List.cons.injEq, and_true] at w0 w2 w3 e
      subst w0 w2 w3
      obtain ⟨rfl, rfl, rfl, rfl, rfl⟩ := e
      exact ⟨(⟨z0, z2, z3, m⟩, _, _), rfl, ho.1, ho.2.1, ho.2.2.1⟩
set_option maxRecDepth 8000 in
theorem open_nops {H : Type} {enc : TypeId × Value → H} {W : World} {base : Nat} {v : Value} {d : DataW H} {p : List MemPlace} (hw : Wt 23 d) (hval : Value.okWide Tryz.prog W .any base 23 v)
    (h : DataW.Trod enc Tryz.prog W 0 (fun _ => true) true 23 v d p) : ∃ l, RdN W v l := by
  obtain ⟨a0, len, cap, rfl⟩ := okWide_slice Tryz.underlying23 hval
  obtain ⟨fuel, hf⟩ := h
  rcases Go.Deep.open_slice Tryz.underlying23 hf with ⟨hcs, hx⟩ | ⟨a, l, c, m, n, D, Pl, hcs, hb, hl, hm, hmm, hx, hel⟩
  · simp [Value.cells] at hcs
    obtain ⟨rfl, rfl, rfl⟩ := hcs
    exact ⟨[], none, 0, rfl, by simp, fun j hj => by simp at hj⟩
  · simp [Value.cells] at hcs
    obtain ⟨rfl, rfl, rfl⟩ := hcs
    simp only [if_true] at hmm
    have hd : d = .slice ((List.range len).map D) ((List.range (m - len)).map fun j => D (len + j)) := congrArg Prod.fst hx
    have each : ∀ j, j < len → ∃ q : OpX, (RdM W q.1.m q.2.1 q.2.2 ∧ LLs q.1.m.fir ∧ LLs q.1.m.res) ∧ W.cell? (a.add (j * 8)) = some (.int .i64 q.1.kd) ∧ W.cell? (a.add (j * 8 + 1)) = some (.string (ByteArray.mk ⟨q.1.m.rcv⟩)) ∧ W.cell? (a.add (j * 8 + 2)) = some (.string (ByteArray.mk ⟨q.1.m.key⟩)) ∧ W.cell? (a.add (j * 8 + 3)) = some (.int .i64 q.1.m.tim) ∧ W.cell? (a.add (j * 8 + 4)) = some q.2.1 ∧ W.cell? (a.add (j * 8 + 5)) = some q.2.2 ∧ W.cell? (a.add (j * 8 + 6)) = some (.int .i64 q.1.now) ∧ W.cell? (a.add (j * 8 + 7)) = some (.int .i64 q.1.num) := by
      intro j hj
      obtain ⟨cs', h1, h2⟩ := hel j (by omega)
      rw [hd] at hw
      have hbj : Wt 36 (D j) := (Wt.elem hw Tryz.underlying23).2 _ (List.mem_map.2 ⟨j, List.mem_range.2 hj, rfl⟩)
      obtain ⟨q, rfl, ho⟩ := nop_cells (x := (D j, Pl j)) hbj h2
      rw [cellsOp] at h1
      obtain ⟨_, hlen, hcell⟩ := World.cells?_some h1
      have e0 := hcell 0 (by omega)
      have e1 := hcell 1 (by omega)
      have e2 := hcell 2 (by omega)
      have e3 := hcell 3 (by omega)
      have e4 := hcell 4 (by omega)
      have e5 := hcell 5 (by omega)
      have e6 := hcell 6 (by omega)
      have e7 := hcell 7 (by omega)
      rw [Go.Deep.add_add] at e0 e1 e2 e3 e4 e5 e6 e7
      exact ⟨q, ho, by simpa using e0, by simpa using e1, by simpa using e2, by simpa using e3, by simpa using e4, by simpa using e5, by simpa using e6, by simpa using e7⟩
    have : Inhabited OpX := ⟨oZ⟩
    obtain ⟨q, hq⟩ := Go.Deep.choose_lt (α := OpX) each
    have hlen : ((List.range len).map q).length = len := by simp
    unfold maxLen at hm
    have hg : ∀ j, j < len → ((List.range len).map q).getD j oZ = q j := fun j hj => by simp [List.getD, hj]
    refine ⟨(List.range len).map q, some a, cap, by rw [hlen], by rw [hlen]; omega, fun j hj => ?_⟩
    rw [hlen] at hj
    obtain ⟨ho, h0, h1, h2, h3, h4, h5, h6, h7⟩ := hq j hj
    have h00 := (hq 0 (by omega)).2.1
    obtain ⟨b, off, spot⟩ := a
    have hspot : spot = none := by simpa [Addr.add] using World.cell?_spot h00
    subst hspot
    rw [Go.WideShapes.add_plain] at h0 h1 h2 h3 h4 h5 h6 h7
    rw [hg j hj]
    exact ⟨b, off, rfl, h0, by rw [Nat.add_assoc]; exact h1, by rw [Nat.add_assoc]; exact h2, by rw [Nat.add_assoc]; exact h3, by rw [Nat.add_assoc]; exact h4, by rw [Nat.add_assoc]; exact h5, by rw [Nat.add_assoc]; exact h6, by rw [Nat.add_assoc]; exact h7, ho.1, ho.2.1, ho.2.2⟩
theorem back_nops {H : Type} {enc : TypeId × Value → H} {W W' : World} {v : Value} {d : DataW H} {p : List MemPlace} (h : DataW.Trod enc Tryz.prog W 0 (fun _ => true) true 23 v d p) (hb : Below W.heap.size W W') :
    DataW.Trod enc Tryz.prog W' 0 (fun b => decide (b < W.heap.size)) true 23 v d p :=
  Below.trod laidOut (by kernel_rfl) (of_decide_eq_true (by kernel_rfl)) h hb (by obtain ⟨m, hm⟩ := h; exact DataW.trod_lt m _ _ _ hm)
end Go.Proofs.YtpglhdnepmcahaaGreatDoor
