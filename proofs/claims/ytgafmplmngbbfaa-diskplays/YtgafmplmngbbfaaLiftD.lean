/-
  From a walk to a statement over a program without listed variables: how arguments that are bytes or texts read, a world for the witness.
-/
import Derived.Test.YtgafmplmngbbfaaRows
import Derived.Test.YtgafmplmngbbfaaDiskZ
import Derived.ProofKit
import Derived.OpenShut
import Derived.ShutString
import Derived.ChangeOld
import Derived.SizedLaws
import Derived.Deep.DeepHandedRow
import Derived.Lib.LaidTab
import Derived.LaidLaws
namespace Go.Proofs.Ytgafmplmngbbfaa
open Go.ChangeShapes Go.WideShapes Go.ChangeAt Go.RowKit

theorem own : ownKnob Try.prog.godebug = none := by kernel_rfl
theorem laidOut : laidOutB Try.prog = true := by kernel_rfl
noncomputable def laidWorld (os : Os) : World := World.holding Try.prog os ⟨#[], #[], []⟩
theorem i64_bd {z : Int} (h : (Lit.int .i64 z).wf = true) : -9223372036854775808 ≤ z ∧ z ≤ 9223372036854775807 := by
  simpa [Lit.wf, IntKind.min, IntKind.max, IntKind.signed, IntKind.bits] using h
theorem cellsU8 : Try.prog.cellsOf 5 = 1 := by kernel_rfl
/-- WHAT AN ARGUMENT OF BYTES IS: readable, and no longer than its bulk. -/
theorem toU8 (zs : List Int) (h : ∀ n ∈ zs, (Lit.int .u8 n).wf = true) : ∃ l : List UInt8, zs = l.map fun b => (b.toNat : Int) := by
  induction zs with
  | nil => exact ⟨[], rfl⟩
  | cons z zs ih =>
    obtain ⟨l, rfl⟩ := ih (fun n hn => h n (List.mem_cons_of_mem _ hn))
    have hz : 0 ≤ z ∧ z ≤ 255 := by simpa [Lit.wf, IntKind.min, IntKind.max, IntKind.signed, IntKind.bits] using h z List.mem_cons_self
    refine ⟨UInt8.ofNat z.toNat :: l, ?_⟩
    simp only [List.map_cons, List.cons.injEq, and_true]
    rw [UInt8.toNat_ofNat']
    omega

theorem bulkAll_len {H : Type} (l : List (DataW H)) : l.length ≤ Rows.uptoBulkAll l := by
  induction l with
  | nil => simp [Rows.uptoBulkAll]
  | cons x r ih =>
    have h1 : 1 ≤ Rows.uptoBulk x := by
      cases x with
      | lit v => cases v <;> simp [Rows.uptoBulk]
      | _ => simp [Rows.uptoBulk]
    simp only [Rows.uptoBulkAll, List.length_cons]
    omega

set_option maxRecDepth 8000 in
theorem open_bytes {H : Type} {enc : TypeId × Value → H} {W : World} {base : Nat} {v : Value} {d : DataW H} {p : List MemPlace} (hval : Value.okWide Try.prog W .any base 31 v)
    (h : DataW.Trod enc Try.prog W 0 (fun _ => true) true 31 v d p) : ∃ l, Rd W v l ∧ l.length ≤ Rows.uptoBulk d ∧ ∃ n : Nat, l.length ≤ n ∧ (d = .nil ∧ n = 0 ∨ ∃ es sp, d = .slice es sp ∧ n = es.length + sp.length) := by
  obtain ⟨a0, len, cap, rfl⟩ := okWide_slice Try.underlying31 hval
  obtain ⟨fuel, hf⟩ := h
  rcases open_ints Try.underlying31 Try.underlying5 cellsU8 hf with ⟨hcs, hx⟩ | ⟨x, l, c, zs, hcs, _, hl, hm, hz, hx, hcell, hwz⟩
  · simp [Value.cells] at hcs
    obtain ⟨rfl, rfl, rfl⟩ := hcs
    simp only [Prod.mk.injEq] at hx
    exact ⟨[], Rd.nil W, by simp, 0, by simp, .inl ⟨hx.1, rfl⟩⟩
  · simp [Value.cells] at hcs
    obtain ⟨rfl, rfl, rfl⟩ := hcs
    simp only [Prod.mk.injEq] at hx
    obtain ⟨bs, rfl⟩ := toU8 zs hwz
    simp only [if_true, List.length_map] at hz hcell
    have hlt : (bs.take len).length = len := by simp; omega
    refine ⟨bs.take len, ⟨some x, cap, by rw [hlt], by rw [hlt]; exact hl, hm, ?_, fun h => by cases h⟩, ?_, bs.length, by rw [hlt]; omega, .inr ⟨_, _, hx.1, ?_⟩⟩
    · intro j hj
      rw [hlt] at hj
      have h0 := hcell 0 (by omega)
      obtain ⟨b, off, spot⟩ := x
      have hspot : spot = none := by simpa [Addr.add] using World.cell?_spot h0
      subst hspot
      refine ⟨b, off, rfl, ?_⟩
      have hj' : j < bs.length := by omega
      have := hcell j hj'
      rw [Go.WideShapes.add_plain] at this
      rw [this]
      simp [hj, hj']
    · rw [hx.1]
      have := bulkAll_len (lits (H := H) .u8 (((bs.map fun b => (b.toNat : Int))).take len))
      simp only [Rows.uptoBulk]
      simp only [lits, List.length_map, List.length_take] at this ⊢
      omega
    · simp [lits]
      omega

/-- an argument of bytes reads behind the call as it did -/
theorem back_bytes {H : Type} {enc : TypeId × Value → H} {W W' : World} {v : Value} {d : DataW H} {p : List MemPlace} (h : DataW.Trod enc Try.prog W 0 (fun _ => true) true 31 v d p) (hb : Below W.heap.size W W') :
    DataW.Trod enc Try.prog W' 0 (fun b => decide (b < W.heap.size)) true 31 v d p :=
  Below.trod laidOut (by kernel_rfl) (of_decide_eq_true (by kernel_rfl)) h hb (by obtain ⟨m, hm⟩ := h; exact DataW.trod_lt m _ _ _ hm)

theorem bytesU8 : Try.prog.bytesOf 5 = 1 := by kernel_rfl
/-- THE FORM's OWN REACH, of an argument of bytes -/
theorem sz_bytes {H : Type} {ts : List TypeId} {ds : List (DataW H)} (hk : (DataW.weightsEach Try.prog ts ds).all (· ≤ reachBytes) = true) (j : Nat) {d : DataW H} (ht : ts[j]? = some 31) (hd : ds[j]? = some d) {l : List UInt8} {n : Nat}
    (hl : l.length ≤ n) (nd : d = .nil ∧ n = 0 ∨ ∃ es sp, d = .slice es sp ∧ n = es.length + sp.length) : l.length ≤ 140737488351232 := by
  rcases nd with ⟨-, rfl⟩ | ⟨es, sp, rfl, rfl⟩
  · omega
  · have := sized_slice hk (j := j) (t := 31) (e := 5) ht hd Try.underlying31
    rw [bytesU8] at this
    simp only [reachBytes] at this
    omega
end Go.Proofs.Ytgafmplmngbbfaa
