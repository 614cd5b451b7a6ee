/-
  The names of the document's files: the walk; two sorted lists of one set are one.
-/
import Derived.Test.YtgafmplmngbbfaaRefF
namespace Go.Proofs.Ytgafmplmngbbfaa
open Go.RowKit Go.Maps Go.WideMaps Go.Sort

/-- two rising lists with the same members are one -/
theorem rising_eq : ∀ {a b : List Bs}, a.Pairwise (fun x y => x < y) → b.Pairwise (fun x y => x < y) → (∀ l, l ∈ a ↔ l ∈ b) → a = b
  | [], [], _, _, _ => rfl
  | [], y :: b, _, _, h => by have := (h y).2 List.mem_cons_self; cases this
  | x :: a, [], _, _, h => by have := (h x).1 List.mem_cons_self; cases this
  | x :: a, y :: b, ha, hb, h => by
    obtain ⟨ha1, ha2⟩ := List.pairwise_cons.1 ha
    obtain ⟨hb1, hb2⟩ := List.pairwise_cons.1 hb
    have hxy : x = y := by
      rcases List.mem_cons.1 ((h x).1 List.mem_cons_self) with e | e
      · exact e
      · rcases List.mem_cons.1 ((h y).2 List.mem_cons_self) with e' | e'
        · exact e'.symm
        · exact absurd (List.lt_trans (ha1 y e') (hb1 x e)) (List.lt_irrefl x)
    subst hxy
    have : a = b := rising_eq ha2 hb2 (fun l => by
      constructor
      · intro hl
        rcases List.mem_cons.1 ((h l).1 (List.mem_cons_of_mem _ hl)) with e | e
        · subst e; exact absurd (ha1 l hl) (List.lt_irrefl l)
        · exact e
      · intro hl
        rcases List.mem_cons.1 ((h l).2 (List.mem_cons_of_mem _ hl)) with e | e
        · subst e; exact absurd (hb1 l hl) (List.lt_irrefl l)
        · exact e)
    rw [this]
theorem rising_of {a : List Bs} (h : a.Pairwise (fun x y => x ≤ y)) (hn : a.Nodup) : a.Pairwise (fun x y => x < y) := by
  have := List.Pairwise.and h hn
  refine this.imp (fun {x y} hh => ?_)
  rcases List.le_total y x with h' | h'
  · exact absurd (List.le_antisymm hh.1 h') hh.2
  · exact List.not_le.1 (fun hyx => hh.2 (List.le_antisymm hh.1 hyx))
def namesOf (rs : List RF) : List Bs := rs.map (·.name)
theorem namesOf_rising {rs : List RF} (h : rs.Pairwise (fun a b => a.name < b.name)) : (namesOf rs).Pairwise (fun x y => x < y) := List.pairwise_map.2 h
theorem namesOf_mem {rs : List RF} {l : Bs} : l ∈ namesOf rs ↔ (lkR rs l).isSome = true := by
  simp only [namesOf, List.mem_map, lkR, Option.isSome_map, List.find?_isSome, beq_iff_eq]

set_option maxRecDepth 8000 in
set_option maxHeartbeats 3200000 in
theorem refList_any (w : World) (S : Nat → Prop) (gr : Nat) (v : Value) (rs : List RF) (h : RefW w S gr v rs) :
    Calls Try.prog 15 #[.pointer (some ⟨gr, 0, none⟩)] w fun e w' => ∃ u, e = .returned u ∧ OwnS w' w.heap.size u (namesOf rs) ∧ w.grownBy w' none := by
  have HW : Hid (RefW w S gr v rs) := h
  obtain ⟨i0, hi, hz0, hz1, hz2⟩ := info_parts infoS
  have HBox : Hid (w.cell? ⟨gr, 0, none⟩ = some v) := by show w.cell? ⟨gr, 0, none⟩ = _; simp [World.cell?, h.box]
  obtain ⟨a, c, rfl, hc1, hc2⟩ := h.shape
  have hm := h.most
  clear h hc1 hc2
  generalize hL : rs.length = L at *
  have HL : Hid (rs.length = L) := hL
  clear hL
  go_enter Try.func15, Try.ntmps15
  go_wp2
  go_loopw [3, 4] (fun u i wr => ∃ k : Nat, k ≤ L ∧ i = .int .i64 (k : Int) ∧ Hid (OwnS wr w.heap.size u (namesOf (rs.take k)) ∧ w.grownBy wr none)) (fun _ i _ => L - (intOf i).toNat)
  case atStart => exact ⟨0, by omega, rfl, World.ownsRow_nil _ _ _ _, gb_refl _ _⟩
  case round =>
    obtain ⟨k, hk, rfl, HK⟩ := hrel
    have hbx : wr.cell? ⟨gr, 0, none⟩ = some (.slice a L c) := cell_keep HBox.out HK.out.2
    by_cases hkl : k < L
    · have hkl2 : (k : Int) < (L : Int) := by omega
      have hk' : k < rs.length := by rw [HL.out]; exact hkl
      obtain ⟨g, cap, hv, hcp, hcm, hcells⟩ := HW.out.cells (by intro e; rw [e] at hk'; simp at hk')
      have hv2 : a = some ⟨g, 0, none⟩ := by simp at hv; exact hv.1
      subst hv2
      have c0 := cell_keep (hcells k hk').1 HK.out.2
      have HN : Hid (namesOf (rs.take (k + 1)) = namesOf (rs.take k) ++ [(rs.getD k rfZ).name]) := by
        show namesOf (rs.take (k + 1)) = _
        have e : rs.take (k + 1) = rs.take k ++ [rs.getD k rfZ] := by
          rw [List.take_succ_eq_append_getElem hk']
          simp [hk']
        rw [e]
        unfold namesOf
        rw [List.map_append]
        rfl
      have HL2 : Hid ((namesOf (rs.take k)).length = k) := by
        show (namesOf (rs.take k)).length = k
        simp [namesOf]; omega
      have hrow : wr.ownsRow w.heap.size 9 1 u3 (namesOf (rs.take k)).length ((namesOf (rs.take k)).map encStr) := HK.out.1
      rw [HL2.out] at hrow
      have hsz := HK.out.2.size
      generalize hnm : (rs.getD k rfZ).name = nm at *
      clear hnm hcells hv
      go_wp2_with (first
        | (at_builtin; refine wpList_append_own _ rfl _ _ 36 rfl w.heap.size 9 i0 (.string ⟨#[]⟩) 1 16 Try.underlying36 hi hz0 hz1 hz2 rfl (by decide) _ _ _ rfl (hrow.alloc _) ⟨wr.heap.size, 0, none⟩ 1 1 [encStr nm] rfl rfl (cell_one_new _ _ _) (by simp [Value.oneCell', encStr]) (by unfold maxLen; omega) (by omega) (by simp; omega) ?_; intro v4 w4 hown4 hg4 hnil4)
        | go_in)
      have H4 : Hid (OwnS w4 w.heap.size v4 (namesOf (rs.take (k + 1))) ∧ w.grownBy w4 none) := by
        refine ⟨?_, gb_new (gb_none HK.out.2 (World.grownBy_alloc _ _ none)) hg4 (fun k hk => (hrow.lt k hk).1)⟩
        unfold OwnS
        rw [HN.out, List.length_append, HL2.out]
        simpa using hown4
      clear hown4 hg4 hnil4 hrow HK hbx c0
      go_wp2
      go_roundw
      case rel => exact ⟨k + 1, by omega, by go_num, H4⟩
      case measure => simp [intOf]; omega
    · have hkl2 : ¬ (k : Int) < (L : Int) := by omega
      have HF : Hid (rs.take k = rs) := by show rs.take k = rs; exact List.take_of_length_le (by rw [HL.out]; omega)
      go_wp2
      go_ret
      exact ⟨_, rfl, by have := HK.out; rw [HF.out] at this; exact this⟩
/-- LIST -/
theorem refList_ok (w : World) (S : Nat → Prop) (gr N : Nat) (M : Fls) (h : RefOK w S gr M N) :
    Calls Try.prog 15 #[.pointer (some ⟨gr, 0, none⟩)] w fun e w' => ∃ v ss, e = .returned v ∧ OwnS w' w.heap.size v ss ∧ ss.Pairwise (fun x y => x < y) ∧ (∀ l, l ∈ ss ↔ (M l).isSome = true) ∧ ss.length = N ∧ w.grownBy w' none := by
  obtain ⟨v, rs, hW, hM, rfl⟩ := h
  refine (refList_any w S gr v rs hW).mono ?_
  rintro e w' ⟨u, he, ho, hg⟩
  exact ⟨u, namesOf rs, he, ho, namesOf_rising hW.srt, fun l => by rw [hM]; exact namesOf_mem, by simp [namesOf], hg⟩
end Go.Proofs.Ytgafmplmngbbfaa
