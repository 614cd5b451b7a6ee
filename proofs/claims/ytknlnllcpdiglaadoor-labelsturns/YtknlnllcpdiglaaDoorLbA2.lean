/-
  The labels of a text that is read: what (*text).labels comes to where there is one, and a comma behind it: the walk.
-/
import Derived.Test.YtknlnllcpdiglaaDoorLbA1
import Derived.Test.YtknlnllcpdiglaaDoorLbLent
namespace Go.Proofs.YtknlnllcpdiglaaDoor
open Go.RowKit

theorem OwnL.kept {w w' : World} {B g : Nat} {v : Value} {ls : List LbT} (h : OwnL w B v ls) (hg : w.grownBy w' (some g)) (hlt : g < B) : OwnL w' B v ls := by
  refine World.ownsRow.kept h hg ?_
  cases hv : v.ownBlock with
  | none => exact .inl rfl
  | some j => right; have := World.ownsRow.lt h j hv; simp; omega

set_option maxRecDepth 8000 in
set_option maxHeartbeats 3200000 in
theorem labels_one (w : World) (g : Nat) (s nm vl : List UInt8) (k k0 k1 k2 k3 : Nat) (h : Tx w g s k) (hk : k ≤ s.length) (hs : s.length ≤ 1000000)
    (h0 : tkB s k 125 = false) (h0k : tkK s k 125 = k0)
    (hL : ∀ W, Tx W g s k0 → Calls Tryd.prog 116 #[.pointer (some ⟨g, 0, none⟩)] W fun e w' => e = .returned (.tuple #[.agg #[.string (ByteArray.mk ⟨nm⟩), .string (ByteArray.mk ⟨vl⟩)], .bool true]) ∧ Tx w' g s k1 ∧ W.grownBy w' (some g))
    (hk1 : k1 ≤ s.length) (h1 : tkB s k1 44 = true) (h1k : tkK s k1 44 = k2) (hk2 : k2 ≤ s.length) (hlt : k < k2) (h2 : tkB s k2 125 = true) (h2k : tkK s k2 125 = k3) :
    Calls Tryd.prog 100 #[.pointer (some ⟨g, 0, none⟩)] w fun e w' => ∃ v, e = .returned (.tuple #[v, .bool true]) ∧ OwnL w' w.heap.size v [(nm, vl)] ∧ Tx w' g s k3 ∧ w.grownBy w' (some g) := by
  have HT0 : Hid (∀ W, Tx W g s k → Calls Tryd.prog 99 #[.pointer (some ⟨g, 0, none⟩), .int .u8 125] W fun e w' => e = .returned (.bool false) ∧ Hid (Tx w' g s k0 ∧ W.grownBy w' (some g))) := fun W hW =>
    (take_any W g s k 125 hW hk (by omega)).mono fun e w' ⟨e1, e2, e3⟩ => ⟨by rw [e1, h0], by rw [h0k] at e2; exact e2, e3⟩
  have HT1 : Hid (∀ W, Tx W g s k1 → Calls Tryd.prog 99 #[.pointer (some ⟨g, 0, none⟩), .int .u8 44] W fun e w' => e = .returned (.bool true) ∧ Hid (Tx w' g s k2 ∧ W.grownBy w' (some g))) := fun W hW =>
    (take_any W g s k1 44 hW hk1 (by omega)).mono fun e w' ⟨e1, e2, e3⟩ => ⟨by rw [e1, h1], by rw [h1k] at e2; exact e2, e3⟩
  have HT2 : Hid (∀ W, Tx W g s k2 → Calls Tryd.prog 99 #[.pointer (some ⟨g, 0, none⟩), .int .u8 125] W fun e w' => e = .returned (.bool true) ∧ Hid (Tx w' g s k3 ∧ W.grownBy w' (some g))) := fun W hW =>
    (take_any W g s k2 125 hW hk2 (by omega)).mono fun e w' ⟨e1, e2, e3⟩ => ⟨by rw [e1, h2], by rw [h2k] at e2; exact e2, e3⟩
  have HL : Hid (∀ W, Tx W g s k0 → Calls Tryd.prog 116 #[.pointer (some ⟨g, 0, none⟩)] W fun e w' => e = .returned (.tuple #[.agg #[.string (ByteArray.mk ⟨nm⟩), .string (ByteArray.mk ⟨vl⟩)], .bool true]) ∧ Hid (Tx w' g s k1 ∧ W.grownBy w' (some g))) := hL
  have hgl : g < w.heap.size := (Array.getElem?_eq_some_iff.1 h).1
  have H0 : Hid (Tx w g s k) := h
  have HM : Hid (k < k2 ∧ k2 ≤ s.length) := ⟨hlt, hk2⟩
  obtain ⟨i0, hi, hz0, hz1, hz2⟩ := info_parts infoLb
  have HI : Hid (Tryd.prog.info? 56 = some i0 ∧ i0.zero = some (.agg #[.string ⟨#[]⟩, .string ⟨#[]⟩]) ∧ i0.size = 2 ∧ i0.bytes = 32) := ⟨hi, hz0, hz1, hz2⟩
  clear h hk hs h0 h0k hL hk1 h1 h1k hk2 hlt h2 h2k hi hz0 hz1 hz2
  go_enter Tryd.func100, Tryd.ntmps100
  go_wp2
  go_loopw [4] (fun v wr => (v = .slice none 0 0 ∧ Hid (Tx wr g s k ∧ w.grownBy wr (some g))) ∨ Hid (OwnL wr w.heap.size v [(nm, vl)] ∧ Tx wr g s k2 ∧ w.grownBy wr (some g))) (fun _ wr => s.length - atW wr g)
  case atStart => exact .inl ⟨rfl, H0.out, gb_refl _ _⟩
  case round =>
    rcases hrel with ⟨rfl, hr⟩ | hr
    · have HK2 : Hid (atW wr g = k) := hr.out.1.at
      go_wp2_with fail
      refine (HT0.out _ hr.out.1).mono ?_
      rintro e w1 ⟨rfl, H1⟩
      clear HT0
      go_wp2_with fail
      refine (HL.out _ H1.out.1).mono ?_
      rintro e w2 ⟨rfl, H2⟩
      clear HL
      have H3 : Hid (Tx w2 g s k1 ∧ w.grownBy w2 (some g)) := ⟨H2.out.1, gb_trans (gb_trans hr.out.2 H1.out.2 (fun _ h _ => h.symm)) H2.out.2 (fun _ h _ => h.symm)⟩
      clear H1 H2 hr
      go_wp2_with (at_builtin; refine wp_appH rfl _ _ 22 56 rfl i0 _ 2 32 w.heap.size Tryd.underlying22 HI.out.1 HI.out.2.1 HI.out.2.2.1 HI.out.2.2.2 rfl (by decide) _ 0 [] (some ⟨w2.heap.size + 1, 0, none⟩) 1 1 [.string (ByteArray.mk ⟨nm⟩), .string (ByteArray.mk ⟨vl⟩)] rfl rfl (World.ownsRow_nil _ _ _ _) ?b1 ?b2 ?b3 ?b4 ?b5 ?b6 ?b7 ?_)
      case b1 => rfl
      case b2 =>
        intro j u hj
        refine ⟨_, rfl, ?_⟩
        rw [Go.WideShapes.add_plain]
        have ha := Go.heap_alloc_new (w2.alloc (.cells #[.string (ByteArray.mk ⟨nm⟩), .string (ByteArray.mk ⟨vl⟩)] 56)) (.cells #[.string (ByteArray.mk ⟨nm⟩), .string (ByteArray.mk ⟨vl⟩)] 56)
        have e : ((w2.alloc (.cells #[.string (ByteArray.mk ⟨nm⟩), .string (ByteArray.mk ⟨vl⟩)] 56)).alloc (.cells #[.string (ByteArray.mk ⟨nm⟩), .string (ByteArray.mk ⟨vl⟩)] 56)).cell? ⟨(w2.alloc (.cells #[.string (ByteArray.mk ⟨nm⟩), .string (ByteArray.mk ⟨vl⟩)] 56)).heap.size, 0 + j, none⟩ = some u := by
          simp only [World.cell?, ha]
          simpa using hj
        simpa using e
      case b3 => intro h; cases h
      case b4 =>
        intro u hu
        simp only [List.mem_cons, List.not_mem_nil, or_false] at hu
        rcases hu with rfl | rfl <;> rfl
      case b5 => omega
      case b6 => omega
      case b7 => have := H3.out.2.size; simp; omega
      intro v4 w4 ho4 hf4
      have hg4 : w2.grownBy w4 none := gb_none (gb_none (World.grownBy_alloc _ _ none) (World.grownBy_alloc _ _ none)) hf4.1
      have H4 : Hid (OwnL w4 w.heap.size v4 [(nm, vl)] ∧ Tx w4 g s k1 ∧ w.grownBy w4 (some g)) := ⟨ho4, H3.out.1.keep hg4, gb_none H3.out.2 hg4⟩
      clear ho4 hf4 hg4 H3
      go_wp2_with fail
      refine (HT1.out _ H4.out.2.1).mono ?_
      rintro e w5 ⟨rfl, H5⟩
      clear HT1
      have H6 : Hid (OwnL w5 w.heap.size v4 [(nm, vl)] ∧ Tx w5 g s k2 ∧ w.grownBy w5 (some g)) := ⟨H4.out.1.kept H5.out.2 hgl, H5.out.1, gb_trans H4.out.2.2 H5.out.2 (fun _ h _ => h.symm)⟩
      clear H4 H5
      go_wp2_with fail
      go_roundw
      case rel => exact .inr H6.out
      case measure =>
        have e1 := HK2.out
        have e2 := H6.out.2.1.at
        have e3 := HM.out
        rw [e1, e2]
        omega
    · go_wp2_with fail
      refine (HT2.out _ hr.out.2.1).mono ?_
      rintro e w1 ⟨rfl, H1⟩
      clear HT2
      go_wp2_with fail
      go_ret2
      exact ⟨_, rfl, hr.out.1.kept H1.out.2 hgl, H1.out.1, gb_trans hr.out.2.2 H1.out.2 (fun _ h _ => h.symm)⟩
end Go.Proofs.YtknlnllcpdiglaaDoor
