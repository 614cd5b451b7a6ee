/-
  Labels lent, kept and held against others: what the law's own same, Lent, Kept come to: the walks.
-/
import Derived.Test.YtkipnkpnkhfjhabGreatDoorLbL
import Derived.Test.YtkipnkpnkhfjhabGreatDoorLbH
namespace Go.Proofs.YtkipnkpnkhfjhabGreatDoor
open Go.RowKit

theorem infoLb : (Tryz.prog.info? 70).map (fun i => (i.zero, i.size, i.bytes)) = some (some (.agg #[.string ⟨#[]⟩, .string ⟨#[]⟩]), 2, 32) := by kernel_rfl
/-- the cells of labels -/
def lbf (ls : List LbT) : List Value := ls.flatMap fun x => [.string (ByteArray.mk ⟨x.1⟩), .string (ByteArray.mk ⟨x.2⟩)]
theorem lbf_len (ls : List LbT) : (lbf ls).length = ls.length * 2 := by
  induction ls with
  | nil => rfl
  | cons x ls ih =>
    unfold lbf at ih ⊢
    rw [List.flatMap_cons, List.length_append, ih, List.length_cons]
    simp
    omega
theorem lbf_get : ∀ (ls : List LbT) (j : Nat), j < ls.length → (lbf ls)[j * 2]? = some (.string (ByteArray.mk ⟨(ls.getD j ([], [])).1⟩)) ∧ (lbf ls)[j * 2 + 1]? = some (.string (ByteArray.mk ⟨(ls.getD j ([], [])).2⟩)) := by
  intro ls
  induction ls with
  | nil => intro j hj; simp at hj
  | cons x ls ih =>
    intro j hj
    cases j with
    | zero => exact ⟨rfl, rfl⟩
    | succ j =>
      have h := ih j (by simpa using hj)
      have e : lbf (x :: ls) = .string (ByteArray.mk ⟨x.1⟩) :: .string (ByteArray.mk ⟨x.2⟩) :: lbf ls := rfl
      rw [e, show (j + 1) * 2 = j * 2 + 1 + 1 by omega]
      simpa using h
theorem lbf_one (ls : List LbT) : ∀ u ∈ lbf ls, u.oneCell' = true := by
  intro u hu
  obtain ⟨x, -, hu⟩ := List.mem_flatMap.1 hu
  simp only [List.mem_cons, List.not_mem_nil, or_false] at hu
  rcases hu with rfl | rfl <;> rfl
theorem lbf_append (a b : List LbT) : lbf (a ++ b) = lbf a ++ lbf b := by simp [lbf]
/-- a list of labels of the call's own -/
def OwnL (w : World) (base : Nat) (v : Value) (ls : List LbT) : Prop := w.ownsRow base 70 2 v ls.length (lbf ls)
theorem RdL.rdc {w : World} {a : Option Addr} {c : Nat} {ls : List LbT} (h : RdL w (.slice a ls.length c) ls) : RdC w a (lbf ls) := by
  obtain ⟨a', c', he, -, -, h4, -⟩ := h
  simp only [Value.slice.injEq] at he
  obtain ⟨rfl, -, rfl⟩ := he
  intro j u hj
  have hjl : j < (lbf ls).length := (List.getElem?_eq_some_iff.1 hj).1
  rw [lbf_len] at hjl
  obtain ⟨b, o, rfl, c0, c1⟩ := h4 (j / 2) (by omega)
  refine ⟨_, rfl, ?_⟩
  rw [Go.WideShapes.add_plain]
  have hg := lbf_get ls (j / 2) (by omega)
  by_cases hp : j % 2 = 0
  · have e : j / 2 * 2 = j := by omega
    rw [e] at c0 hg
    rw [hg.1] at hj
    cases hj
    exact c0
  · have e : j / 2 * 2 + 1 = j := by omega
    rw [e] at hg
    rw [show o + j / 2 * 2 + 1 = o + j by omega] at c1
    rw [hg.2] at hj
    cases hj
    exact c1
theorem OwnL.rd {w : World} {base : Nat} {v : Value} {ls : List LbT} (h : OwnL w base v ls) : RdL w v ls := by
  rcases h.2 with ⟨rfl, hn⟩ | ⟨g, cap, cur, rfl, hbg, hh, hnc, hcm, hcs, htake⟩
  · refine ⟨none, 0, by rw [hn], by omega, by simp [maxLen], fun j hj => by omega, fun _ => rfl⟩
  · refine ⟨some ⟨g, 0, none⟩, cap, rfl, hnc, hcm, fun j hj => ⟨g, 0, rfl, ?_⟩, fun h => by cases h⟩
    have hc := World.ownsRow.cells h rfl
    have hg := lbf_get ls j hj
    have h0 := hc _ _ hg.1
    have h1 := hc _ _ hg.2
    rw [Go.WideShapes.add_plain] at h0 h1
    exact ⟨h0, h1⟩

/-- the mark -/
def mkA : List UInt8 := [98, 101, 104, 105, 110, 100]
def mkB : List UInt8 := [119, 104, 97, 116, 32, 119, 97, 115, 32, 104, 97, 110, 100, 101, 100, 32, 105, 110]

set_option maxRecDepth 8000 in
set_option maxHeartbeats 3200000 in
/-- labels lent: a list of the call's own, a mark behind it -/
theorem lentL_any (w : World) (v : Value) (ls : List LbT) (hv : RdL w v ls) (hl : ls.length ≤ 4398046511104) :
    Calls Tryz.prog 17 #[v] w fun e w' => ∃ g cap, e = .returned (.slice (some ⟨g, 0, none⟩) ls.length cap) ∧ OwnL w' w.heap.size (.slice (some ⟨g, 0, none⟩) (ls.length + 1) cap) (ls ++ [(mkA, mkB)]) ∧ w.grownBy w' none := by
  have HV : Hid (RdL w v ls) := hv
  obtain ⟨a, c, rfl, hc1, hc2, -, hc4⟩ := hv
  unfold maxLen at hc2
  obtain ⟨i0, hi, hz0, hz1, hz2⟩ := info_parts infoLb
  have HI : Hid (Tryz.prog.info? 70 = some i0 ∧ i0.zero = some (.agg #[.string ⟨#[]⟩, .string ⟨#[]⟩]) ∧ i0.size = 2 ∧ i0.bytes = 32) := ⟨hi, hz0, hz1, hz2⟩
  have HC : Hid (a = none → ls.length = 0 ∧ c = 0) := fun h => ⟨by have := hc4 h; omega, hc4 h⟩
  clear hi hz0 hz1 hz2 hc4
  go_enter Tryz.func17, Tryz.ntmps17
  go_wp2_with (at_builtin; refine wp_appH rfl _ _ 29 70 rfl i0 _ 2 32 w.heap.size Tryz.underlying29 HI.out.1 HI.out.2.1 HI.out.2.2.1 HI.out.2.2.2 rfl (by decide) _ 0 [] a ls.length c (lbf ls) rfl rfl (World.ownsRow_nil _ _ _ _) (lbf_len ls) HV.out.rdc HC.out (lbf_one ls) (by omega) (by omega) (Nat.le_refl _) ?_)
  intro v1 w1 ho1 hf1
  have H1 : Hid (w1.ownsRow w.heap.size 70 2 v1 ls.length (lbf ls) ∧ w.grownBy w1 none) := ⟨by simpa using ho1, hf1.1⟩
  clear ho1 hf1
  go_wp2_with (at_builtin; refine wp_appH rfl _ _ 29 70 rfl i0 _ 2 32 w.heap.size Tryz.underlying29 HI.out.1 HI.out.2.1 HI.out.2.2.1 HI.out.2.2.2 rfl (by decide) _ ls.length (lbf ls) (some ⟨w1.heap.size, 0, none⟩) 1 1 [.string (ByteArray.mk ⟨mkA⟩), .string (ByteArray.mk ⟨mkB⟩)] rfl rfl (World.ownsRow.alloc H1.out.1 _) ?b1 ?b2 ?b3 ?b4 ?b5 ?b6 ?b7 ?_)
  case b1 => rfl
  case b2 =>
    intro j u hj
    refine ⟨_, rfl, ?_⟩
    rw [Go.WideShapes.add_plain]
    have ha := Go.heap_alloc_new w1 (.cells #[.string (ByteArray.mk ⟨mkA⟩), .string (ByteArray.mk ⟨mkB⟩)] 70)
    have e : (w1.alloc (.cells #[.string (ByteArray.mk ⟨mkA⟩), .string (ByteArray.mk ⟨mkB⟩)] 70)).cell? ⟨w1.heap.size, 0 + j, none⟩ = some u := by
      simp only [World.cell?, ha]
      simpa using hj
    exact e
  case b3 => intro h; cases h
  case b4 =>
    intro u hu
    simp only [List.mem_cons, List.not_mem_nil, or_false] at hu
    rcases hu with rfl | rfl <;> rfl
  case b5 => omega
  case b6 => omega
  case b7 => have := H1.out.2.size; simp; omega
  intro v2 w2 ho2 hf2
  have HO2 : w2.ownsRow w.heap.size 70 2 v2 (ls.length + 1) (lbf (ls ++ [(mkA, mkB)])) := by rw [lbf_append]; exact ho2
  have hg2 : w.grownBy w2 none := hf2.new (gb_none H1.out.2 (World.grownBy_alloc _ _ none)) (fun k hk => (World.ownsRow.lt H1.out.1 k hk).1)
  rcases HO2.2 with ⟨-, hn⟩ | ⟨g, cap, cur, rfl, -, -, hnc, hcm, -, -⟩
  · omega
  have H2 : Hid (OwnL w2 w.heap.size (.slice (some ⟨g, 0, none⟩) (ls.length + 1) cap) (ls ++ [(mkA, mkB)]) ∧ w.grownBy w2 none) := by
    refine ⟨?_, hg2⟩
    unfold OwnL
    rw [List.length_append]
    exact HO2
  clear HO2 hg2 ho2 hf2
  unfold maxLen at hcm
  have hi1 : (ls.length : Int) ≤ (cap : Int) := by omega
  go_wp2
  go_ret
  exact ⟨g, cap, rfl, H2.out⟩
end Go.Proofs.YtkipnkpnkhfjhabGreatDoor
