/-
  Labels lent, kept and held against others: what the law's own same, Lent, Kept come to: the walks.
-/
import Derived.Test.YtmgbcmogdjhacaaDoorLbL
import Derived.Test.YtmgbcmogdjhacaaDoorLbH
namespace Go.Proofs.YtmgbcmogdjhacaaDoor
open Go.RowKit

theorem infoLb : (Tryd.prog.info? 63).map (fun i => (i.zero, i.size, i.bytes)) = some (some (.agg #[.string ⟨#[]⟩, .string ⟨#[]⟩]), 2, 32) := by kernel_rfl
/-- the cells of labels -/
def lbf (ls : List LbT) : List Value := ls.flatMap fun x => [.string (ByteArray.mk ⟨x.1⟩), .string (ByteArray.mk ⟨x.2⟩)]
theorem lbf_len (ls : List LbT) : (lbf ls).length = ls.length * 2 := by
  induction ls with
  | nil => rfl
  | cons x ls ih =>
    unfold lbf at ih ⊢
    rw [List.flatMap_cons, List.length_append, ih, List.length_cons]
    simp
    omega
theorem lbf_get : ∀ (ls : List LbT) (j : Nat), j < ls.length → (lbf ls)[j * 2]? = some (.string (ByteArray.mk ⟨(ls.getD j ([], [])).1⟩)) ∧ (lbf ls)[j * 2 + 1]? = some (.string (ByteArray.mk ⟨(ls.getD j ([], [])).2⟩)) := by
  intro ls
  induction ls with
  | nil => intro j hj; simp at hj
  | cons x ls ih =>
    intro j hj
    cases j with
    | zero => exact ⟨rfl, rfl⟩
    | succ j =>
      have h := ih j (by simpa using hj)
      have e : lbf (x :: ls) = .string (ByteArray.mk ⟨x.1⟩) :: .string (ByteArray.mk ⟨x.2⟩) :: lbf ls := rfl
      rw [e, show (j + 1) * 2 = j * 2 + 1 + 1 by omega]
      simpa using h
theorem lbf_one (ls : List LbT) : ∀ u ∈ lbf ls, u.oneCell' = true := by
  intro u hu
  obtain ⟨x, -, hu⟩ := List.mem_flatMap.1 hu
  simp only [List.mem_cons, List.not_mem_nil, or_false] at hu
  rcases hu with rfl | rfl <;> rfl
theorem lbf_append (a b : List LbT) : lbf (a ++ b) = lbf a ++ lbf b := by simp [lbf]
/-- a list of labels of the call's own -/
def OwnL (w : World) (base : Nat) (v : Value) (ls : List LbT) : Prop := w.ownsRow base 63 2 v ls.length (lbf ls)
theorem RdL.rdc {w : World} {a : Option Addr} {c : Nat} {ls : List LbT} (h : RdL w (.slice a ls.length c) ls) : RdC w a (lbf ls) := by
  obtain ⟨a', c', he, -, -, h4, -⟩ := h
  simp only [Value.slice.injEq] at he
  obtain ⟨rfl, -, rfl⟩ := he
  intro j u hj
  have hjl : j < (lbf ls).length := (List.getElem?_eq_some_iff.1 hj).1
  rw [lbf_len] at hjl
  obtain ⟨b, o, rfl, c0, c1⟩ := h4 (j / 2) (by omega)
  refine ⟨_, rfl, ?_⟩
  rw [Go.WideShapes.add_plain]
  have hg := lbf_get ls (j / 2) (by omega)
  by_cases hp : j % 2 = 0
  · have e : j / 2 * 2 = j := by omega
    rw [e] at c0 hg
    rw [hg.1] at hj
    cases hj
    exact c0
  · have e : j / 2 * 2 + 1 = j := by omega
    rw [e] at hg
    rw [show o + j / 2 * 2 + 1 = o + j by omega] at c1
    rw [hg.2] at hj
    cases hj
    exact c1
theorem OwnL.rd {w : World} {base : Nat} {v : Value} {ls : List LbT} (h : OwnL w base v ls) : RdL w v ls := by
  rcases h.2 with ⟨rfl, hn⟩ | ⟨g, cap, cur, rfl, hbg, hh, hnc, hcm, hcs, htake⟩
  · refine ⟨none, 0, by rw [hn], by omega, by simp [maxLen], fun j hj => by omega, fun _ => rfl⟩
  · refine ⟨some ⟨g, 0, none⟩, cap, rfl, hnc, hcm, fun j hj => ⟨g, 0, rfl, ?_⟩, fun h => by cases h⟩
    have hc := World.ownsRow.cells h rfl
    have hg := lbf_get ls j hj
    have h0 := hc _ _ hg.1
    have h1 := hc _ _ hg.2
    rw [Go.WideShapes.add_plain] at h0 h1
    exact ⟨h0, h1⟩

/-- the mark -/
def mkA : List UInt8 := [98, 101, 104, 105, 110, 100]
def mkB : List UInt8 := [119, 104, 97, 116, 32, 119, 97, 115, 32, 104, 97, 110, 100, 101, 100, 32, 105, 110]

end Go.Proofs.YtmgbcmogdjhacaaDoor
