/-
  A copy of the document's disk, and a call of both: what is there behind them.
-/
import Derived.Test.YtgafmplmngbbfaaDApart
namespace Go.Proofs.Ytgafmplmngbbfaa
open Go.RowKit Go.Maps Go.WideMaps Go.Sort

theorem apart_tail (w wK : World) (Sd Sr : Nat → Prop) (gd gr N : Nat) (M : Fls) (kd n : Int) (nm to bs : Bs) (ks : List Kp) (vB vK : Value) (ho : OpIn w (.agg #[.int .i64 kd, .string (ByteArray.mk ⟨nm⟩), .string (ByteArray.mk ⟨to⟩), vB, .int .i64 n, vK]) ⟨kd, nm, to, bs, n, ks⟩) (hD : DuoW w wK Sd Sr gd gr M N M N) (hb : wK.heap[w.heap.size]? = some (.cells #[.int .i64 kd, .string (ByteArray.mk ⟨nm⟩), .string (ByteArray.mk ⟨to⟩), vB, .int .i64 n, vK] 34)) (hS : ∀ k, Sd k ∨ Sr k → w.heap.size < k) :
    Calls Try.prog 11 #[.pointer (some ⟨gr, 0, none⟩)] wK fun e w2 => ∃ gc, e = .returned (.pointer (some ⟨gc, 0, none⟩)) ∧ Hid (w2.heap[w.heap.size]? = some (.cells #[.int .i64 kd, .string (ByteArray.mk ⟨nm⟩), .string (ByteArray.mk ⟨to⟩), vB, .int .i64 n, vK] 34) ∧ Calls Try.prog 12 #[.pointer (some ⟨gd, 0, none⟩), .pointer (some ⟨gr, 0, none⟩), .agg #[.int .i64 kd, .string (ByteArray.mk ⟨nm⟩), .string (ByteArray.mk ⟨to⟩), vB, .int .i64 n, vK]] w2 fun e w3 => e = .returned (.bool true) ∧ Hid (w3.heap[w.heap.size]? = some (.cells #[.int .i64 kd, .string (ByteArray.mk ⟨nm⟩), .string (ByteArray.mk ⟨to⟩), vB, .int .i64 n, vK] 34) ∧ w.grownBy w3 none ∧ (∃ Sd' N', DiskOK w3 Sd' gd (stepM ⟨kd, nm, to, bs, n, ks⟩ M N) N') ∧ ∃ T vw rsw, RefW w3 T gc vw rsw ∧ ∀ l, M l = lkR rsw l)) := by
  refine (refCopy_ok wK Sr gr N M hD.r).mono ?_
  rintro e w2 ⟨gc, he, hc, hg⟩
  have hzK := some_lt hb
  have hz2 := hg.size
  have hb2 := (hg.block w.heap.size hzK (by simp)).trans hb
  refine ⟨gc, he, hb2, ?_⟩
  refine (step_any w w2 gd gr N M _ _ ho Sd Sr (hD.keep hg)).mono ?_
  rintro e w3 ⟨he3, Sd', Sr', h1, h2, h3, h4⟩
  refine ⟨he3, ?_, h1.g, ⟨Sd', _, h1.d⟩, ?_⟩
  · rw [h2.block (by omega) (fun h => by have := hS _ h; omega)]
    exact hb2
  · obtain ⟨v, rs, hW, hM, -⟩ := hc
    refine ⟨_, v, rs, hW.frame h2 (fun k _ hk h => ?_), hM⟩
    rcases h with h | h
    · have := (hD.bd k h).2.1; omega
    · have := (hD.br k h).2; omega
end Go.Proofs.Ytgafmplmngbbfaa
