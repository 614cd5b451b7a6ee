/-
  From a walk to a statement: how arguments that are bytes read, what a statement's own list of variables gives, a world for the witness.
-/
import Derived.Test.YtfggcmkoihemoaaDoorCards
import Derived.Test.YtfggcmkoihemoaaDoorTie
import Derived.Test.YtfggcmkoihemoaaDoorKnown
import Derived.Test.YtfggcmkoihemoaaDoorRefSums
import Derived.ProofKit
import Derived.OpenShut
import Derived.ShutString
import Derived.ChangeOld
import Derived.SizedLaws
import Derived.Deep.DeepHandedRow
import Derived.Lib.LaidTab
namespace Go.Proofs.YtfggcmkoihemoaaDoor
open Go.ChangeShapes Go.WideShapes Go.ChangeAt Go.RowKit

theorem own : ownKnob Tryd.prog.godebug = none := by kernel_rfl
theorem laidOut : laidOutB Tryd.prog = true := by kernel_rfl
theorem gTab : Tryd.prog.globalNamed "tocsin/vint.halfSums" = some 0 := by kernel_rfl
theorem gTabType : (Tryd.prog.globals[0]?).map (·.type) = some 64 := by kernel_rfl
theorem cellsT : Tryd.prog.cellsOf 64 = 16 := by kernel_rfl
theorem cellsU32 : Tryd.prog.cellsOf 40 = 1 := by kernel_rfl
theorem cellsU8 : Tryd.prog.cellsOf 5 = 1 := by kernel_rfl

theorem tab_ints : tab.map I32 = [0, 274646895, 549293790, 820201905, 1098587580, 1361435347, 1640403810, 1905808397, 2197175160, 2460548119, 2722870694, 2987750089, 3280807620, 3553878443, 3811616794, 4084100981] := by decide
theorem tabIn_of {W : World} {zs : List Int} (h : Lib.TabIs Tryd.prog W "tocsin/vint.halfSums" .u32 zs) (hz : zs = tab.map I32) : TabIn W := by
  subst hz
  intro j hj
  rw [h.cell gTab j (by simpa [tab] using hj)]
  congr 2
  have hj' : j < tab.length := by simpa [tab] using hj
  simp [hj']

/-- WHAT A LIST OF THE TABLE ALONE GIVES -/
theorem tab_of {W : World} (h : laidMetH Tryd.prog Rows.vintSumsRow.laid W) : TabIn W :=
  tabIn_of (zs := [0, 274646895, 549293790, 820201905, 1098587580, 1361435347, 1640403810, 1905808397, 2197175160, 2460548119, 2722870694, 2987750089, 3280807620, 3553878443, 3811616794, 4084100981])
    (Lib.tabIs_of_head (rest := []) gTab gTabType Tryd.underlying64 Tryd.underlying40 cellsU32 cellsT h) tab_ints.symm

/-- WHAT AN ARGUMENT OF BYTES IS: readable, and no longer than its bulk. -/
theorem toU8 (zs : List Int) (h : ∀ n ∈ zs, (Lit.int .u8 n).wf = true) : ∃ l : List UInt8, zs = l.map fun b => (b.toNat : Int) := by
  induction zs with
  | nil => exact ⟨[], rfl⟩
  | cons z zs ih =>
    obtain ⟨l, rfl⟩ := ih (fun n hn => h n (List.mem_cons_of_mem _ hn))
    have hz : 0 ≤ z ∧ z ≤ 255 := by simpa [Lit.wf, IntKind.min, IntKind.max, IntKind.signed, IntKind.bits] using h z List.mem_cons_self
    refine ⟨UInt8.ofNat z.toNat :: l, ?_⟩
    simp only [List.map_cons, List.cons.injEq, and_true]
    rw [UInt8.toNat_ofNat']
    omega

theorem bulkAll_len {H : Type} (l : List (DataW H)) : l.length ≤ Rows.uptoBulkAll l := by
  induction l with
  | nil => simp [Rows.uptoBulkAll]
  | cons x r ih =>
    have h1 : 1 ≤ Rows.uptoBulk x := by
      cases x with
      | lit v => cases v <;> simp [Rows.uptoBulk]
      | _ => simp [Rows.uptoBulk]
    simp only [Rows.uptoBulkAll, List.length_cons]
    omega

theorem open_bytes {H : Type} {enc : TypeId × Value → H} {W : World} {base : Nat} {v : Value} {d : DataW H} {p : List MemPlace} (hval : Value.okWide Tryd.prog W .any base 22 v)
    (h : DataW.Trod enc Tryd.prog W 0 (fun _ => true) true 22 v d p) : ∃ l, Rd W v l ∧ l.length ≤ Rows.uptoBulk d ∧ ∃ n : Nat, l.length ≤ n ∧ (d = .nil ∧ n = 0 ∨ ∃ es sp, d = .slice es sp ∧ n = es.length + sp.length) := by
  obtain ⟨a0, len, cap, rfl⟩ := okWide_slice Tryd.underlying22 hval
  obtain ⟨fuel, hf⟩ := h
  rcases open_ints Tryd.underlying22 Tryd.underlying5 cellsU8 hf with ⟨hcs, hx⟩ | ⟨x, l, c, zs, hcs, _, hl, hm, hz, hx, hcell, hwz⟩
  · simp [Value.cells] at hcs
    obtain ⟨rfl, rfl, rfl⟩ := hcs
    simp only [Prod.mk.injEq] at hx
    exact ⟨[], Rd.nil W, by simp, 0, by simp, .inl ⟨hx.1, rfl⟩⟩
  · simp [Value.cells] at hcs
    obtain ⟨rfl, rfl, rfl⟩ := hcs
    simp only [Prod.mk.injEq] at hx
    obtain ⟨bs, rfl⟩ := toU8 zs hwz
    simp only [if_true, List.length_map] at hz hcell
    have hlt : (bs.take len).length = len := by simp; omega
    refine ⟨bs.take len, ⟨some x, cap, by rw [hlt], by rw [hlt]; exact hl, hm, ?_, fun h => by cases h⟩, ?_, bs.length, by rw [hlt]; omega, .inr ⟨_, _, hx.1, ?_⟩⟩
    · intro j hj
      rw [hlt] at hj
      have h0 := hcell 0 (by omega)
      obtain ⟨b, off, spot⟩ := x
      have hspot : spot = none := by simpa [Addr.add] using World.cell?_spot h0
      subst hspot
      refine ⟨b, off, rfl, ?_⟩
      have hj' : j < bs.length := by omega
      have := hcell j hj'
      rw [Go.WideShapes.add_plain] at this
      rw [this]
      simp [hj, hj']
    · rw [hx.1]
      have := bulkAll_len (lits (H := H) .u8 (((bs.map fun b => (b.toNat : Int))).take len))
      simp only [Rows.uptoBulk]
      simp only [lits, List.length_map, List.length_take] at this ⊢
      omega
    · simp [lits]
      omega

/-- an argument of bytes reads behind the call as it did -/
theorem back_bytes {H : Type} {enc : TypeId × Value → H} {W W' : World} {v : Value} {d : DataW H} {p : List MemPlace} (h : DataW.Trod enc Tryd.prog W 0 (fun _ => true) true 22 v d p) (hb : Below W.heap.size W W') :
    DataW.Trod enc Tryd.prog W' 0 (fun b => decide (b < W.heap.size)) true 22 v d p :=
  Below.trod laidOut (by kernel_rfl) (of_decide_eq_true (by kernel_rfl)) h hb (by obtain ⟨m, hm⟩ := h; exact DataW.trod_lt m _ _ _ hm)

/-- A WORLD FOR THE WITNESS: the settled one, the table holding what its initialiser lays. -/
noncomputable def laidWorld (os : Os) : World :=
  { World.holding Tryd.prog os ⟨#[], #[], []⟩ with heap := (World.holding Tryd.prog os ⟨#[], #[], []⟩).heap.modify 0 fun
      | .cells _ t frozen => .cells #[.int .u32 0, .int .u32 274646895, .int .u32 549293790, .int .u32 820201905, .int .u32 1098587580, .int .u32 1361435347, .int .u32 1640403810, .int .u32 1905808397, .int .u32 2197175160, .int .u32 2460548119, .int .u32 2722870694, .int .u32 2987750089, .int .u32 3280807620, .int .u32 3553878443, .int .u32 3811616794, .int .u32 4084100981] t frozen
      | o => o }
theorem u32_of {z : Int} (h : (Lit.int .u32 z).wf = true) : ∃ x : BitVec 32, z = I32 x := by
  have hz : 0 ≤ z ∧ z ≤ 4294967295 := by simpa [Lit.wf, IntKind.min, IntKind.max, IntKind.signed, IntKind.bits] using h
  refine ⟨BitVec.ofNat 32 z.toNat, ?_⟩
  simp only [I32, BitVec.toNat_ofNat]
  omega
theorem bytesU8 : Tryd.prog.bytesOf 5 = 1 := by kernel_rfl
/-- THE FORM's OWN REACH, of an argument of bytes -/
theorem sz_bytes {H : Type} {ts : List TypeId} {ds : List (DataW H)} (hk : (DataW.weightsEach Tryd.prog ts ds).all (· ≤ reachBytes) = true) (j : Nat) {d : DataW H} (ht : ts[j]? = some 22) (hd : ds[j]? = some d) {l : List UInt8} {n : Nat}
    (hl : l.length ≤ n) (nd : d = .nil ∧ n = 0 ∨ ∃ es sp, d = .slice es sp ∧ n = es.length + sp.length) : l.length ≤ 140737488351232 := by
  rcases nd with ⟨-, rfl⟩ | ⟨es, sp, rfl, rfl⟩
  · omega
  · have := sized_slice hk (j := j) (t := 22) (e := 5) ht hd Tryd.underlying22
    rw [bytesU8] at this
    simp only [reachBytes] at this
    omega
theorem u64_of {z : Int} (h : (Lit.int .u64 z).wf = true) : ∃ x : BitVec 64, z = I64 x := by
  have hz : 0 ≤ z ∧ z ≤ 18446744073709551615 := by simpa [Lit.wf, IntKind.min, IntKind.max, IntKind.signed, IntKind.bits] using h
  refine ⟨BitVec.ofNat 64 z.toNat, ?_⟩
  simp only [I64, BitVec.toNat_ofNat]
  omega
theorem i64_bd {z : Int} (h : (Lit.int .i64 z).wf = true) : -9223372036854775808 ≤ z ∧ z ≤ 9223372036854775807 := by
  simpa [Lit.wf, IntKind.min, IntKind.max, IntKind.signed, IntKind.bits] using h
end Go.Proofs.YtfggcmkoihemoaaDoor
