/-
  awake's text: a label, the labels, the set, the whole text: the walks.
-/
import Derived.Test.YtkipnkpnkhfjhabGreatDoorLbV
import Derived.Test.YtkipnkpnkhfjhabGreatDoorMgA
import Derived.Test.YtkipnkpnkhfjhabGreatDoorLbLent
namespace Go.Proofs.YtkipnkpnkhfjhabGreatDoor
open Go.RowKit

set_option maxRecDepth 8000 in
set_option maxHeartbeats 3200000 in
theorem label_ok (w : World) (g : Nat) (s nm vl : List UInt8) (k n k1 k2 m : Nat) (h : Tx w g s k) (hk : k ≤ s.length) (hs : s.length ≤ 1000000)
    (hn : (s.drop k).take (span pinName (s.drop k)) = nm) (hnl : nm.length = n) (hkn : k + n ≤ s.length) (hN : nameB nm = true)
    (h1 : tkB s (k + n) 61 = true) (h1k : tkK s (k + n) 61 = k1) (hk1 : k1 ≤ s.length) (h2 : tkB s k1 34 = true) (h2k : tkK s k1 34 = k2)
    (hv : (s.drop k2).take m = vl) (hm : k2 + m < s.length) (hp : ∀ j, j < m → (s.getD (k2 + j) 0).toNat ≠ 34 ∧ (s.getD (k2 + j) 0).toNat ≠ 92) (hq : (s.getD (k2 + m) 0).toNat = 34) :
    Calls Tryz.prog 78 #[.pointer (some ⟨g, 0, none⟩)] w fun e w' => e = .returned (.tuple #[.agg #[.string (ByteArray.mk ⟨nm⟩), .string (ByteArray.mk ⟨vl⟩)], .bool true]) ∧ Tx w' g s (k2 + m + 1) ∧ w.grownBy w' (some g) := by
  have HW : Hid (∀ W, Tx W g s k → Calls Tryz.prog 53 #[.pointer (some ⟨g, 0, none⟩), .func (.func 77) #[] #[]] W fun e w' => e = .returned (.string (ByteArray.mk ⟨nm⟩)) ∧ Hid (Tx w' g s k ∧ W.grownBy w' (some g))) := fun W hW =>
    (word_inName W g s k hW hk (by omega)).mono fun e w' ⟨e1, e2⟩ => ⟨by rw [e1, hn], hW.keep e2, gb_any e2 _⟩
  have HN : Hid (∀ W, Tx W g s k → Calls Tryz.prog 66 #[.string (ByteArray.mk ⟨nm⟩)] W fun e w' => e = .returned (.bool true) ∧ w'.cell? ⟨g, 1, none⟩ = some (.int .i64 (k : Int)) ∧ w'.frozen? ⟨g, 1, none⟩ = false ∧ Hid (Tx w' g s k ∧ W.grownBy w' (some g))) := fun W hW =>
    (name_any W nm (by omega)).mono fun e w' ⟨e1, e2⟩ => ⟨by rw [e1, hN], (hW.keep e2).cells.2.1, (hW.keep e2).cells.2.2, hW.keep e2, gb_any e2 _⟩
  have HT1 : Hid (∀ W, Tx W g s (k + n) → Calls Tryz.prog 55 #[.pointer (some ⟨g, 0, none⟩), .int .u8 61] W fun e w' => e = .returned (.bool true) ∧ Hid (Tx w' g s k1 ∧ W.grownBy w' (some g))) := fun W hW =>
    (take_any W g s (k + n) 61 hW hkn (by omega)).mono fun e w' ⟨e1, e2, e3⟩ => ⟨by rw [e1, h1], by rw [h1k] at e2; exact e2, e3⟩
  have HT2 : Hid (∀ W, Tx W g s k1 → Calls Tryz.prog 55 #[.pointer (some ⟨g, 0, none⟩), .int .u8 34] W fun e w' => e = .returned (.bool true) ∧ Hid (Tx w' g s k2 ∧ W.grownBy w' (some g))) := fun W hW =>
    (take_any W g s k1 34 hW hk1 (by omega)).mono fun e w' ⟨e1, e2, e3⟩ => ⟨by rw [e1, h2], by rw [h2k] at e2; exact e2, e3⟩
  have HV : Hid (∀ W, Tx W g s k2 → Calls Tryz.prog 100 #[.pointer (some ⟨g, 0, none⟩)] W fun e w' => e = .returned (.tuple #[.string (ByteArray.mk ⟨vl⟩), .bool true]) ∧ Hid (Tx w' g s (k2 + m + 1) ∧ W.grownBy w' (some g))) := fun W hW =>
    (value_plain W g s k2 m hW hm hs hp hq).mono fun e w' ⟨e1, e2, e3⟩ => ⟨by rw [e1, hv], e2, e3⟩
  have hz : (ByteArray.mk ⟨nm⟩).size = n := hnl
  have hkb : k + n ≤ 1000000 := by omega
  have H0 : Hid (Tx w g s k) := h
  have hgl : g < w.heap.size := (Array.getElem?_eq_some_iff.1 h).1
  clear h hn hnl hkn hN h1 h1k h2 h2k hv hm hp hq hk hk1 hs
  generalize ByteArray.mk ⟨nm⟩ = sn at *
  generalize ByteArray.mk ⟨vl⟩ = sv at *
  generalize k2 + m + 1 = k3 at *
  go_enter Tryz.func78, Tryz.ntmps78
  go_wp2_with fail
  have HB : Hid (Tx (w.alloc (.cells #[.string ⟨#[]⟩, .string ⟨#[]⟩] 70)) g s k ∧ (w.alloc (.cells #[.string ⟨#[]⟩, .string ⟨#[]⟩] 70)).heap[w.heap.size]? = some (.cells #[.string ⟨#[]⟩, .string ⟨#[]⟩] 70 (0, 0)) ∧ w.grownBy (w.alloc (.cells #[.string ⟨#[]⟩, .string ⟨#[]⟩] 70)) (some g)) :=
    ⟨H0.out.keep (World.grownBy_alloc _ _ none), Go.heap_alloc_new w _, World.grownBy_alloc _ _ _⟩
  generalize w.alloc (.cells #[.string ⟨#[]⟩, .string ⟨#[]⟩] 70) = W0 at *
  have hb0 : g ≠ w.heap.size := by omega
  generalize hbe : w.heap.size = b0 at *
  refine (HW.out _ HB.out.1).mono ?_
  rintro e w1 ⟨rfl, H1⟩
  clear HW
  go_wp2_with fail
  refine (HN.out _ H1.out.1).mono ?_
  rintro e w2 ⟨rfl, c1, f1, H2⟩
  clear HN
  go_wp2_with fail
  have HP := H2.out.1.put (k + n) ((k : Int) + (n : Int)) (by omega)
  have HQ : Hid (Tx (w2.setCell ⟨g, 1, none⟩ (.int .i64 ((k : Int) + (n : Int)))) g s (k + n) ∧ W0.grownBy (w2.setCell ⟨g, 1, none⟩ (.int .i64 ((k : Int) + (n : Int)))) (some g)) :=
    ⟨HP.1, gb_trans (gb_trans H1.out.2 H2.out.2 (fun _ h _ => h.symm)) HP.2 (fun _ h _ => h.symm)⟩
  clear HP H1 H2 c1 f1
  generalize w2.setCell ⟨g, 1, none⟩ (.int .i64 ((k : Int) + (n : Int))) = w3 at *
  refine (HT1.out _ HQ.out.1).mono ?_
  rintro e w4 ⟨rfl, H4⟩
  clear HT1
  go_wp2_with fail
  refine (HT2.out _ H4.out.1).mono ?_
  rintro e w5 ⟨rfl, H5⟩
  clear HT2
  go_wp2_with fail
  refine (HV.out _ H5.out.1).mono ?_
  rintro e w6 ⟨rfl, H6⟩
  clear HV
  have HG : Hid (W0.grownBy w6 (some g)) := gb_trans (gb_trans (gb_trans HQ.out.2 H4.out.2 (fun _ h _ => h.symm)) H5.out.2 (fun _ h _ => h.symm)) H6.out.2 (fun _ h _ => h.symm)
  have hbl : w6.heap[b0]? = some (.cells #[.string ⟨#[]⟩, .string ⟨#[]⟩] 70 (0, 0)) :=
    (HG.out.block b0 (Array.getElem?_eq_some_iff.1 HB.out.2.1).1 (by simp; omega)).trans HB.out.2.1
  have q0 : w6.cell? ⟨b0, 0, none⟩ = some (.string ⟨#[]⟩) := by rw [World.cell?, hbl]; rfl
  have q1 : w6.cell? ⟨b0, 1, none⟩ = some (.string ⟨#[]⟩) := by rw [World.cell?, hbl]; rfl
  have q2 : w6.frozen? ⟨b0, 0, none⟩ = false := by rw [World.frozen?, hbl]; rfl
  have q3 : w6.frozen? ⟨b0, 1, none⟩ = false := by rw [World.frozen?, hbl]; rfl
  go_wp2
  have hs1 := heap_setCell_same w6 b0 0 _ _ (.string sn) hbl
  have hs2 := heap_setCell_same _ b0 1 _ _ (.string sv) hs1
  have HE : Hid (Tx ((w6.setCell ⟨b0, 0, none⟩ (.string sn)).setCell ⟨b0, 1, none⟩ (.string sv)) g s k3 ∧ w.grownBy ((w6.setCell ⟨b0, 0, none⟩ (.string sn)).setCell ⟨b0, 1, none⟩ (.string sv)) (some g)) := by
    have hk : ∀ j, j ≠ b0 → ((w6.setCell ⟨b0, 0, none⟩ (.string sn)).setCell ⟨b0, 1, none⟩ (.string sv)).heap[j]? = w6.heap[j]? := fun j hj => (Below.heap_setCell _ _ _ _ hj).trans (Below.heap_setCell _ _ _ _ hj)
    have hw : w.grownBy w6 (some g) := gb_trans HB.out.2.2 HG.out (fun _ h _ => h.symm)
    refine ⟨(hk g hb0).trans H6.out.1, ⟨hw.os, hw.tape, hw.output, ?_, fun j hj hne => (hk j (by omega)).trans (hw.block j hj hne)⟩⟩
    have := hw.size
    simpa using this
  have d0 : ((w6.setCell ⟨b0, 0, none⟩ (.string sn)).setCell ⟨b0, 1, none⟩ (.string sv)).cell? ⟨b0, 0, none⟩ = some (.string sn) := by rw [World.cell?, hs2]; rfl
  have d1 : ((w6.setCell ⟨b0, 0, none⟩ (.string sn)).setCell ⟨b0, 1, none⟩ (.string sv)).cell? ⟨b0, 1, none⟩ = some (.string sv) := by rw [World.cell?, hs2]; rfl
  clear hs1 hs2 hbl q0 q1 q2 q3
  generalize (w6.setCell ⟨b0, 0, none⟩ (.string sn)).setCell ⟨b0, 1, none⟩ (.string sv) = W1 at *
  refine bodyPost_ret (v := .tuple #[.agg #[.string sn, .string sv], .bool true]) ?_ rfl ?_
  · simp [results, Tryz.f78, go_sem, d0, d1]
  · exact ⟨rfl, HE.out⟩
end Go.Proofs.YtkipnkpnkhfjhabGreatDoor

namespace Go.Proofs.YtkipnkpnkhfjhabGreatDoor
open Go.RowKit

theorem OwnL.kept {w w' : World} {B g : Nat} {v : Value} {ls : List LbT} (h : OwnL w B v ls) (hg : w.grownBy w' (some g)) (hlt : g < B) : OwnL w' B v ls := by
  refine World.ownsRow.kept h hg ?_
  cases hv : v.ownBlock with
  | none => exact .inl rfl
  | some j => right; have := World.ownsRow.lt h j hv; simp; omega

set_option maxRecDepth 8000 in
set_option maxHeartbeats 3200000 in
theorem labels_one (w : World) (g : Nat) (s nm vl : List UInt8) (k k0 k1 k2 k3 : Nat) (h : Tx w g s k) (hk : k ≤ s.length) (hs : s.length ≤ 1000000)
    (h0 : tkB s k 125 = false) (h0k : tkK s k 125 = k0)
    (hL : ∀ W, Tx W g s k0 → Calls Tryz.prog 78 #[.pointer (some ⟨g, 0, none⟩)] W fun e w' => e = .returned (.tuple #[.agg #[.string (ByteArray.mk ⟨nm⟩), .string (ByteArray.mk ⟨vl⟩)], .bool true]) ∧ Tx w' g s k1 ∧ W.grownBy w' (some g))
    (hk1 : k1 ≤ s.length) (h1 : tkB s k1 44 = true) (h1k : tkK s k1 44 = k2) (hk2 : k2 ≤ s.length) (hlt : k < k2) (h2 : tkB s k2 125 = true) (h2k : tkK s k2 125 = k3) :
    Calls Tryz.prog 56 #[.pointer (some ⟨g, 0, none⟩)] w fun e w' => ∃ v, e = .returned (.tuple #[v, .bool true]) ∧ OwnL w' w.heap.size v [(nm, vl)] ∧ Tx w' g s k3 ∧ w.grownBy w' (some g) := by
  have HT0 : Hid (∀ W, Tx W g s k → Calls Tryz.prog 55 #[.pointer (some ⟨g, 0, none⟩), .int .u8 125] W fun e w' => e = .returned (.bool false) ∧ Hid (Tx w' g s k0 ∧ W.grownBy w' (some g))) := fun W hW =>
    (take_any W g s k 125 hW hk (by omega)).mono fun e w' ⟨e1, e2, e3⟩ => ⟨by rw [e1, h0], by rw [h0k] at e2; exact e2, e3⟩
  have HT1 : Hid (∀ W, Tx W g s k1 → Calls Tryz.prog 55 #[.pointer (some ⟨g, 0, none⟩), .int .u8 44] W fun e w' => e = .returned (.bool true) ∧ Hid (Tx w' g s k2 ∧ W.grownBy w' (some g))) := fun W hW =>
    (take_any W g s k1 44 hW hk1 (by omega)).mono fun e w' ⟨e1, e2, e3⟩ => ⟨by rw [e1, h1], by rw [h1k] at e2; exact e2, e3⟩
  have HT2 : Hid (∀ W, Tx W g s k2 → Calls Tryz.prog 55 #[.pointer (some ⟨g, 0, none⟩), .int .u8 125] W fun e w' => e = .returned (.bool true) ∧ Hid (Tx w' g s k3 ∧ W.grownBy w' (some g))) := fun W hW =>
    (take_any W g s k2 125 hW hk2 (by omega)).mono fun e w' ⟨e1, e2, e3⟩ => ⟨by rw [e1, h2], by rw [h2k] at e2; exact e2, e3⟩
  have HL : Hid (∀ W, Tx W g s k0 → Calls Tryz.prog 78 #[.pointer (some ⟨g, 0, none⟩)] W fun e w' => e = .returned (.tuple #[.agg #[.string (ByteArray.mk ⟨nm⟩), .string (ByteArray.mk ⟨vl⟩)], .bool true]) ∧ Hid (Tx w' g s k1 ∧ W.grownBy w' (some g))) := hL
  have hgl : g < w.heap.size := (Array.getElem?_eq_some_iff.1 h).1
  have H0 : Hid (Tx w g s k) := h
  have HM : Hid (k < k2 ∧ k2 ≤ s.length) := ⟨hlt, hk2⟩
  obtain ⟨i0, hi, hz0, hz1, hz2⟩ := info_parts infoLb
  have HI : Hid (Tryz.prog.info? 70 = some i0 ∧ i0.zero = some (.agg #[.string ⟨#[]⟩, .string ⟨#[]⟩]) ∧ i0.size = 2 ∧ i0.bytes = 32) := ⟨hi, hz0, hz1, hz2⟩
  clear h hk hs h0 h0k hL hk1 h1 h1k hk2 hlt h2 h2k hi hz0 hz1 hz2
  go_enter Tryz.func56, Tryz.ntmps56
  go_wp2
  go_loopw [4] (fun v wr => (v = .slice none 0 0 ∧ Hid (Tx wr g s k ∧ w.grownBy wr (some g))) ∨ Hid (OwnL wr w.heap.size v [(nm, vl)] ∧ Tx wr g s k2 ∧ w.grownBy wr (some g))) (fun _ wr => s.length - atW wr g)
  case atStart => exact .inl ⟨rfl, H0.out, gb_refl _ _⟩
  case round =>
    rcases hrel with ⟨rfl, hr⟩ | hr
    · have HK2 : Hid (atW wr g = k) := hr.out.1.at
      go_wp2_with fail
      refine (HT0.out _ hr.out.1).mono ?_
      rintro e w1 ⟨rfl, H1⟩
      clear HT0
      go_wp2_with fail
      refine (HL.out _ H1.out.1).mono ?_
      rintro e w2 ⟨rfl, H2⟩
      clear HL
      have H3 : Hid (Tx w2 g s k1 ∧ w.grownBy w2 (some g)) := ⟨H2.out.1, gb_trans (gb_trans hr.out.2 H1.out.2 (fun _ h _ => h.symm)) H2.out.2 (fun _ h _ => h.symm)⟩
      clear H1 H2 hr
      go_wp2_with (at_builtin; refine wp_appH rfl _ _ 29 70 rfl i0 _ 2 32 w.heap.size Tryz.underlying29 HI.out.1 HI.out.2.1 HI.out.2.2.1 HI.out.2.2.2 rfl (by decide) _ 0 [] (some ⟨w2.heap.size + 1, 0, none⟩) 1 1 [.string (ByteArray.mk ⟨nm⟩), .string (ByteArray.mk ⟨vl⟩)] rfl rfl (World.ownsRow_nil _ _ _ _) ?b1 ?b2 ?b3 ?b4 ?b5 ?b6 ?b7 ?_)
      case b1 => rfl
      case b2 =>
        intro j u hj
        refine ⟨_, rfl, ?_⟩
        rw [Go.WideShapes.add_plain]
        have ha := Go.heap_alloc_new (w2.alloc (.cells #[.string (ByteArray.mk ⟨nm⟩), .string (ByteArray.mk ⟨vl⟩)] 70)) (.cells #[.string (ByteArray.mk ⟨nm⟩), .string (ByteArray.mk ⟨vl⟩)] 70)
        have e : ((w2.alloc (.cells #[.string (ByteArray.mk ⟨nm⟩), .string (ByteArray.mk ⟨vl⟩)] 70)).alloc (.cells #[.string (ByteArray.mk ⟨nm⟩), .string (ByteArray.mk ⟨vl⟩)] 70)).cell? ⟨(w2.alloc (.cells #[.string (ByteArray.mk ⟨nm⟩), .string (ByteArray.mk ⟨vl⟩)] 70)).heap.size, 0 + j, none⟩ = some u := by
          simp only [World.cell?, ha]
          simpa using hj
        simpa using e
      case b3 => intro h; cases h
      case b4 =>
        intro u hu
        simp only [List.mem_cons, List.not_mem_nil, or_false] at hu
        rcases hu with rfl | rfl <;> rfl
      case b5 => omega
      case b6 => omega
      case b7 => have := H3.out.2.size; simp; omega
      intro v4 w4 ho4 hf4
      have hg4 : w2.grownBy w4 none := gb_none (gb_none (World.grownBy_alloc _ _ none) (World.grownBy_alloc _ _ none)) hf4.1
      have H4 : Hid (OwnL w4 w.heap.size v4 [(nm, vl)] ∧ Tx w4 g s k1 ∧ w.grownBy w4 (some g)) := ⟨ho4, H3.out.1.keep hg4, gb_none H3.out.2 hg4⟩
      clear ho4 hf4 hg4 H3
      go_wp2_with fail
      refine (HT1.out _ H4.out.2.1).mono ?_
      rintro e w5 ⟨rfl, H5⟩
      clear HT1
      have H6 : Hid (OwnL w5 w.heap.size v4 [(nm, vl)] ∧ Tx w5 g s k2 ∧ w.grownBy w5 (some g)) := ⟨H4.out.1.kept H5.out.2 hgl, H5.out.1, gb_trans H4.out.2.2 H5.out.2 (fun _ h _ => h.symm)⟩
      clear H4 H5
      go_wp2_with fail
      go_roundw
      case rel => exact .inr H6.out
      case measure =>
        have e1 := HK2.out
        have e2 := H6.out.2.1.at
        have e3 := HM.out
        rw [e1, e2]
        omega
    · go_wp2_with fail
      refine (HT2.out _ hr.out.2.1).mono ?_
      rintro e w1 ⟨rfl, H1⟩
      clear HT2
      go_wp2_with fail
      go_ret2
      exact ⟨_, rfl, hr.out.1.kept H1.out.2 hgl, H1.out.1, gb_trans hr.out.2.2 H1.out.2 (fun _ h _ => h.symm)⟩
end Go.Proofs.YtkipnkpnkhfjhabGreatDoor

namespace Go.Proofs.YtkipnkpnkhfjhabGreatDoor
open Go.RowKit

/-- __name__ -/
def mnB : List UInt8 := [95, 95, 110, 97, 109, 101, 95, 95]
set_option maxRecDepth 8000 in
set_option maxHeartbeats 3200000 in
theorem set_one (w : World) (g : Nat) (s mn nm vl : List UInt8) (k0 n k1 k2 k3 : Nat) (h : Tx w g s 0) (hs : s.length ≤ 1000000)
    (h0 : skp s 0 = k0) (hn : (s.drop k0).take (span pinMetric (s.drop k0)) = mn) (hnl : mn.length = n) (hn0 : mn ≠ []) (hN : metricB mn = true) (hk0 : k0 + n ≤ s.length)
    (h1 : tkB s (k0 + n) 123 = true) (h1k : tkK s (k0 + n) 123 = k1)
    (hL : ∀ W, Tx W g s k1 → Calls Tryz.prog 56 #[.pointer (some ⟨g, 0, none⟩)] W fun e w' => ∃ v, e = .returned (.tuple #[v, .bool true]) ∧ OwnL w' W.heap.size v [(nm, vl)] ∧ Tx w' g s k2 ∧ W.grownBy w' (some g))
    (hk2 : k2 ≤ s.length) (h2 : skp s k2 = k3) (h2k : k3 = s.length) :
    Calls Tryz.prog 39 #[.pointer (some ⟨g, 0, none⟩)] w fun e w' => ∃ v, e = .returned (.tuple #[v, .bool true]) ∧ OwnL w' w.heap.size v [(mnB, mn), (nm, vl)] ∧ w.grownBy w' (some g) := by
  have HS : Hid (Calls Tryz.prog 52 #[.pointer (some ⟨g, 0, none⟩)] w fun e w' => e = .returned (.tuple #[]) ∧ Hid (Tx w' g s k0 ∧ w.grownBy w' (some g))) :=
    (skipBlanks_any w g s 0 h (by omega) (by omega)).mono fun e w' ⟨e1, e2, e3⟩ => ⟨e1, by rw [← h0]; exact e2, e3⟩
  have HW : Hid (∀ W, Tx W g s k0 → Calls Tryz.prog 53 #[.pointer (some ⟨g, 0, none⟩), .func (.func 54) #[] #[]] W fun e w' => e = .returned (.string (ByteArray.mk ⟨mn⟩)) ∧ Hid (Tx w' g s k0 ∧ W.grownBy w' (some g))) := fun W hW =>
    (word_inMetric W g s k0 hW (by omega) (by omega)).mono fun e w' ⟨e1, e2⟩ => ⟨by rw [e1, hn], hW.keep e2, gb_any e2 _⟩
  have HN : Hid (∀ W, Tx W g s k0 → Calls Tryz.prog 41 #[.string (ByteArray.mk ⟨mn⟩)] W fun e w' => e = .returned (.bool true) ∧ Hid (Tx w' g s k0 ∧ W.grownBy w' (some g))) := fun W hW =>
    (metric_any W mn (by omega)).mono fun e w' ⟨e1, e2⟩ => ⟨by rw [e1, hN], hW.keep e2, gb_any e2 _⟩
  have HT1 : Hid (∀ W, Tx W g s (k0 + n) → Calls Tryz.prog 55 #[.pointer (some ⟨g, 0, none⟩), .int .u8 123] W fun e w' => e = .returned (.bool true) ∧ Hid (Tx w' g s k1 ∧ W.grownBy w' (some g))) := fun W hW =>
    (take_any W g s (k0 + n) 123 hW hk0 (by omega)).mono fun e w' ⟨e1, e2, e3⟩ => ⟨by rw [e1, h1], by rw [h1k] at e2; exact e2, e3⟩
  have HL : Hid (∀ W, Tx W g s k1 → Calls Tryz.prog 56 #[.pointer (some ⟨g, 0, none⟩)] W fun e w' => ∃ v, e = .returned (.tuple #[v, .bool true]) ∧ OwnL w' W.heap.size v [(nm, vl)] ∧ Tx w' g s k2 ∧ W.grownBy w' (some g)) := hL
  have HE : Hid (∀ W, Tx W g s k2 → Calls Tryz.prog 57 #[.pointer (some ⟨g, 0, none⟩)] W fun e w' => e = .returned (.bool true) ∧ Hid (Tx w' g s k3 ∧ W.grownBy w' (some g))) := fun W hW =>
    (ended_any W g s k2 hW hk2 (by omega)).mono fun e w' ⟨e1, e2, e3⟩ => ⟨by rw [e1, h2, decide_eq_true h2k], by rw [h2] at e2; exact e2, e3⟩
  have hz : (ByteArray.mk ⟨mn⟩).size = n := hnl
  have hgl : g < w.heap.size := (Array.getElem?_eq_some_iff.1 h).1
  have hkb : k0 + n ≤ 1000000 := by omega
  have hne : (ByteArray.mk ⟨mn⟩).toList.isEmpty = false := by rw [ByteArray.toList_eq]; cases mn with | nil => exact absurd rfl hn0 | cons _ _ => rfl
  have hne2 : ¬ (ByteArray.mk ⟨mn⟩).toList = [] := by rw [ByteArray.toList_eq]; exact hn0
  obtain ⟨i0, hi, hz0, hz1, hz2⟩ := info_parts infoLb
  have HI : Hid (Tryz.prog.info? 70 = some i0 ∧ i0.zero = some (.agg #[.string ⟨#[]⟩, .string ⟨#[]⟩]) ∧ i0.size = 2 ∧ i0.bytes = 32) := ⟨hi, hz0, hz1, hz2⟩
  clear h hs h0 hn hnl hn0 hN hk0 h1 h1k hL hk2 h2 h2k hi hz0 hz1 hz2
  have HMN : Hid (∀ x : LbT, lbf [(mnB, mn), x] = [.string (ByteArray.mk ⟨mnB⟩), .string (ByteArray.mk ⟨mn⟩)] ++ lbf [x]) := fun _ => rfl
  generalize ByteArray.mk ⟨mn⟩ = sn at *
  go_enter Tryz.func39, Tryz.ntmps39
  go_wp2_with fail
  refine HS.out.mono ?_
  rintro e w1 ⟨rfl, H1⟩
  clear HS
  go_wp2_with fail
  refine (HW.out _ H1.out.1).mono ?_
  rintro e w2 ⟨rfl, H2⟩
  clear HW
  go_wp2_with fail
  refine (HN.out _ H2.out.1).mono ?_
  rintro e w3 ⟨rfl, H3⟩
  clear HN
  have H3' : Hid (Tx w3 g s k0 ∧ w.grownBy w3 (some g)) := ⟨H3.out.1, gb_trans (gb_trans H1.out.2 H2.out.2 (fun _ h _ => h.symm)) H3.out.2 (fun _ h _ => h.symm)⟩
  clear H1 H2 H3
  go_wp2_with (at_builtin; refine wp_appH rfl _ _ 29 70 rfl i0 _ 2 32 w.heap.size Tryz.underlying29 HI.out.1 HI.out.2.1 HI.out.2.2.1 HI.out.2.2.2 rfl (by decide) _ 0 [] (some ⟨w3.heap.size, 0, none⟩) 1 1 [.string (ByteArray.mk ⟨mnB⟩), .string sn] rfl rfl (World.ownsRow_nil _ _ _ _) ?b1 ?b2 ?b3 ?b4 ?b5 ?b6 ?b7 ?_)
  case b1 => rfl
  case b2 =>
    intro j u hj
    refine ⟨_, rfl, ?_⟩
    rw [Go.WideShapes.add_plain]
    have ha := Go.heap_alloc_new w3 (.cells #[.string (ByteArray.mk ⟨mnB⟩), .string sn] 70)
    have e : (w3.alloc (.cells #[.string (ByteArray.mk ⟨mnB⟩), .string sn] 70)).cell? ⟨w3.heap.size, 0 + j, none⟩ = some u := by
      simp only [World.cell?, ha]
      simpa using hj
    exact e
  case b3 => intro h; cases h
  case b4 =>
    intro u hu
    simp only [List.mem_cons, List.not_mem_nil, or_false] at hu
    rcases hu with rfl | rfl <;> rfl
  case b5 => omega
  case b6 => omega
  case b7 => have := H3'.out.2.size; simp; omega
  intro v4 w4 ho4 hf4
  have hg4 : w3.grownBy w4 none := gb_none (World.grownBy_alloc _ _ none) hf4.1
  have H4 : Hid (w4.ownsRow w.heap.size 70 2 v4 1 [.string (ByteArray.mk ⟨mnB⟩), .string sn] ∧ Tx w4 g s k0 ∧ w.grownBy w4 (some g)) := ⟨ho4, H3'.out.1.keep hg4, gb_none H3'.out.2 hg4⟩
  clear ho4 hf4 hg4 H3'
  obtain ⟨c0, c1, f1⟩ := H4.out.2.1.cells
  go_wp2_with fail
  have HP := H4.out.2.1.put (k0 + n) ((k0 : Int) + (n : Int)) (by omega)
  have hkeep : ∀ {W W' : World} {v : Value} {m : Nat} {xs : List Value}, W.ownsRow w.heap.size 70 2 v m xs → W.grownBy W' (some g) → W'.ownsRow w.heap.size 70 2 v m xs := fun {W W' v m xs} h hg => by
    refine World.ownsRow.kept h hg ?_
    cases hv : v.ownBlock with
    | none => exact .inl rfl
    | some j => right; have := World.ownsRow.lt h j hv; simp; omega
  have HKP : Hid (∀ {W W' : World} {v : Value} {m : Nat} {xs : List Value}, W.ownsRow w.heap.size 70 2 v m xs → W.grownBy W' (some g) → W'.ownsRow w.heap.size 70 2 v m xs) := hkeep
  clear hkeep
  have H5 : Hid ((w4.setCell ⟨g, 1, none⟩ (.int .i64 ((k0 : Int) + (n : Int)))).ownsRow w.heap.size 70 2 v4 1 [.string (ByteArray.mk ⟨mnB⟩), .string sn] ∧ Tx (w4.setCell ⟨g, 1, none⟩ (.int .i64 ((k0 : Int) + (n : Int)))) g s (k0 + n) ∧ w.grownBy (w4.setCell ⟨g, 1, none⟩ (.int .i64 ((k0 : Int) + (n : Int)))) (some g)) :=
    ⟨HKP.out H4.out.1 HP.2, HP.1, gb_trans H4.out.2.2 HP.2 (fun _ h _ => h.symm)⟩
  clear HP H4 c0 c1 f1
  generalize w4.setCell ⟨g, 1, none⟩ (.int .i64 ((k0 : Int) + (n : Int))) = w5 at *
  refine (HT1.out _ H5.out.2.1).mono ?_
  rintro e w6 ⟨rfl, H6⟩
  have H6' : Hid (w6.ownsRow w.heap.size 70 2 v4 1 [.string (ByteArray.mk ⟨mnB⟩), .string sn] ∧ Tx w6 g s k1 ∧ w.grownBy w6 (some g)) := ⟨HKP.out H5.out.1 H6.out.2, H6.out.1, gb_trans H5.out.2.2 H6.out.2 (fun _ h _ => h.symm)⟩
  clear HT1 H5 H6
  go_wp2_with fail
  refine (HL.out _ H6'.out.2.1).mono ?_
  rintro e w7 ⟨v7, rfl, ho7, hx7, hg7⟩
  have H7 : Hid (w7.ownsRow w.heap.size 70 2 v4 1 [.string (ByteArray.mk ⟨mnB⟩), .string sn] ∧ OwnL w7 w6.heap.size v7 [(nm, vl)] ∧ Tx w7 g s k2 ∧ w.grownBy w7 (some g) ∧ w.heap.size ≤ w6.heap.size) := ⟨HKP.out H6'.out.1 hg7, ho7, hx7, gb_trans H6'.out.2.2 hg7 (fun _ h _ => h.symm), H6'.out.2.2.size⟩
  obtain ⟨a7, c7, rfl, hc1, hc2, -, hc4⟩ := ho7.rd
  clear HL H6' ho7 hx7 hg7
  unfold maxLen at hc2
  have HC : Hid (a7 = none → 1 = 0 ∧ c7 = 0) := fun h => ⟨by have := hc4 h; simp at hc1; omega, hc4 h⟩
  clear hc4
  go_wp2_with (at_builtin; refine wp_appH rfl _ _ 29 70 rfl i0 _ 2 32 w.heap.size Tryz.underlying29 HI.out.1 HI.out.2.1 HI.out.2.2.1 HI.out.2.2.2 rfl (by decide) _ 1 _ a7 1 c7 (lbf [(nm, vl)]) rfl rfl H7.out.1 rfl H7.out.2.1.rd.rdc HC.out (lbf_one _) (by omega) (by omega) (by have := H7.out.2.2.2.1.size; omega) ?_)
  intro v8 w8 ho8 hf8
  have hb8 : ∀ j, j < w.heap.size → w8.heap[j]? = w7.heap[j]? := fun j hj => hf8.1.block j (by have := H7.out.2.2.2.1.size; omega) (fun e => by have := (World.ownsRow.lt H7.out.1 j e.symm).1; omega)
  have H8 : Hid (OwnL w8 w.heap.size v8 [(mnB, mn), (nm, vl)] ∧ Tx w8 g s k2 ∧ w.grownBy w8 (some g)) := by
    have h7 := H7.out.2.2.2.1
    refine ⟨?_, (hb8 g hgl).trans H7.out.2.2.1, ⟨hf8.1.os.trans h7.os, hf8.1.tape.trans h7.tape, hf8.1.output.trans h7.output, Nat.le_trans h7.size hf8.1.size, fun j hj hne => (hb8 j hj).trans (h7.block j hj hne)⟩⟩
    show w8.ownsRow _ _ _ _ _ (lbf [(mnB, mn), (nm, vl)])
    rw [HMN.out]
    exact ho8
  clear hb8 ho8 hf8 H7 hc1 hc2 HC
  go_wp2_with fail
  refine (HE.out _ H8.out.2.1).mono ?_
  rintro e w9 ⟨rfl, H9⟩
  clear HE
  have HZ : Hid (OwnL w9 w.heap.size v8 [(mnB, mn), (nm, vl)] ∧ w.grownBy w9 (some g)) := ⟨H8.out.1.kept H9.out.2 hgl, gb_trans H8.out.2.2 H9.out.2 (fun _ h _ => h.symm)⟩
  clear H8 H9
  go_wp2
  go_ret2
  exact ⟨_, rfl, HZ.out⟩
end Go.Proofs.YtkipnkpnkhfjhabGreatDoor

namespace Go.Proofs.YtkipnkpnkhfjhabGreatDoor
open Go.RowKit

/-- up { job = "x" , } -/
def awT : List UInt8 := [117, 112, 32, 123, 32, 106, 111, 98, 32, 61, 32, 34, 120, 34, 32, 44, 32, 125]
def upB : List UInt8 := [117, 112]
def jobB : List UInt8 := [106, 111, 98]
def xB : List UInt8 := [120]
theorem set_awake (w : World) (g : Nat) (h : Tx w g awT 0) :
    Calls Tryz.prog 39 #[.pointer (some ⟨g, 0, none⟩)] w fun e w' => ∃ v, e = .returned (.tuple #[v, .bool true]) ∧ OwnL w' w.heap.size v [(mnB, upB), (jobB, xB)] ∧ w.grownBy w' (some g) := by
  refine set_one w g awT upB jobB xB 0 2 4 18 18 h (by decide) (by decide) (by decide) rfl (by decide) (by decide) (by decide) (by decide) (by decide) (fun W hW => ?_) (by decide) (by decide) (by decide)
  refine labels_one W g awT jobB xB 4 5 14 16 18 hW (by decide) (by decide) (by decide) (by decide) (fun W hW => ?_) (by decide) (by decide) (by decide) (by decide) (by decide) (by decide) (by decide)
  exact label_ok W g awT jobB xB 5 3 10 12 1 hW (by decide) (by decide) (by decide) rfl (by decide) (by decide) (by decide) (by decide) (by decide) (by decide) (by decide) (by decide) (by decide) (by decide) (by decide)
end Go.Proofs.YtkipnkpnkhfjhabGreatDoor
