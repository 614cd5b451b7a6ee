/-
  A label of a text that is read: what (*text).label comes to where all is there: the walk.
-/
import Derived.Test.YtknlnllcpdiglaaDoorLbV
import Derived.Test.YtknlnllcpdiglaaDoorLbN2
namespace Go.Proofs.YtknlnllcpdiglaaDoor
open Go.RowKit

set_option maxRecDepth 8000 in
set_option maxHeartbeats 3200000 in
theorem label_ok (w : World) (g : Nat) (s nm vl : List UInt8) (k n k1 k2 m : Nat) (h : Tx w g s k) (hk : k ≤ s.length) (hs : s.length ≤ 1000000)
    (hn : (s.drop k).take (span pinName (s.drop k)) = nm) (hnl : nm.length = n) (hkn : k + n ≤ s.length) (hN : nameB nm = true)
    (h1 : tkB s (k + n) 61 = true) (h1k : tkK s (k + n) 61 = k1) (hk1 : k1 ≤ s.length) (h2 : tkB s k1 34 = true) (h2k : tkK s k1 34 = k2)
    (hv : (s.drop k2).take m = vl) (hm : k2 + m < s.length) (hp : ∀ j, j < m → (s.getD (k2 + j) 0).toNat ≠ 34 ∧ (s.getD (k2 + j) 0).toNat ≠ 92) (hq : (s.getD (k2 + m) 0).toNat = 34) :
    Calls Tryd.prog 116 #[.pointer (some ⟨g, 0, none⟩)] w fun e w' => e = .returned (.tuple #[.agg #[.string (ByteArray.mk ⟨nm⟩), .string (ByteArray.mk ⟨vl⟩)], .bool true]) ∧ Tx w' g s (k2 + m + 1) ∧ w.grownBy w' (some g) := by
  have HW : Hid (∀ W, Tx W g s k → Calls Tryd.prog 98 #[.pointer (some ⟨g, 0, none⟩), .func (.func 44) #[] #[]] W fun e w' => e = .returned (.string (ByteArray.mk ⟨nm⟩)) ∧ Hid (Tx w' g s k ∧ W.grownBy w' (some g))) := fun W hW =>
    (word_inName W g s k hW hk (by omega)).mono fun e w' ⟨e1, e2⟩ => ⟨by rw [e1, hn], hW.keep e2, gb_any e2 _⟩
  have HN : Hid (∀ W, Tx W g s k → Calls Tryd.prog 12 #[.string (ByteArray.mk ⟨nm⟩)] W fun e w' => e = .returned (.bool true) ∧ w'.cell? ⟨g, 1, none⟩ = some (.int .i64 (k : Int)) ∧ w'.frozen? ⟨g, 1, none⟩ = false ∧ Hid (Tx w' g s k ∧ W.grownBy w' (some g))) := fun W hW =>
    (name_any W nm (by omega)).mono fun e w' ⟨e1, e2⟩ => ⟨by rw [e1, hN], (hW.keep e2).cells.2.1, (hW.keep e2).cells.2.2, hW.keep e2, gb_any e2 _⟩
  have HT1 : Hid (∀ W, Tx W g s (k + n) → Calls Tryd.prog 99 #[.pointer (some ⟨g, 0, none⟩), .int .u8 61] W fun e w' => e = .returned (.bool true) ∧ Hid (Tx w' g s k1 ∧ W.grownBy w' (some g))) := fun W hW =>
    (take_any W g s (k + n) 61 hW hkn (by omega)).mono fun e w' ⟨e1, e2, e3⟩ => ⟨by rw [e1, h1], by rw [h1k] at e2; exact e2, e3⟩
  have HT2 : Hid (∀ W, Tx W g s k1 → Calls Tryd.prog 99 #[.pointer (some ⟨g, 0, none⟩), .int .u8 34] W fun e w' => e = .returned (.bool true) ∧ Hid (Tx w' g s k2 ∧ W.grownBy w' (some g))) := fun W hW =>
    (take_any W g s k1 34 hW hk1 (by omega)).mono fun e w' ⟨e1, e2, e3⟩ => ⟨by rw [e1, h2], by rw [h2k] at e2; exact e2, e3⟩
  have HV : Hid (∀ W, Tx W g s k2 → Calls Tryd.prog 130 #[.pointer (some ⟨g, 0, none⟩)] W fun e w' => e = .returned (.tuple #[.string (ByteArray.mk ⟨vl⟩), .bool true]) ∧ Hid (Tx w' g s (k2 + m + 1) ∧ W.grownBy w' (some g))) := fun W hW =>
    (value_plain W g s k2 m hW hm hs hp hq).mono fun e w' ⟨e1, e2, e3⟩ => ⟨by rw [e1, hv], e2, e3⟩
  have hz : (ByteArray.mk ⟨nm⟩).size = n := hnl
  have hkb : k + n ≤ 1000000 := by omega
  have H0 : Hid (Tx w g s k) := h
  have hgl : g < w.heap.size := (Array.getElem?_eq_some_iff.1 h).1
  clear h hn hnl hkn hN h1 h1k h2 h2k hv hm hp hq hk hk1 hs
  generalize ByteArray.mk ⟨nm⟩ = sn at *
  generalize ByteArray.mk ⟨vl⟩ = sv at *
  generalize k2 + m + 1 = k3 at *
  go_enter Tryd.func116, Tryd.ntmps116
  go_wp2_with fail
  have HB : Hid (Tx (w.alloc (.cells #[.string ⟨#[]⟩, .string ⟨#[]⟩] 56)) g s k ∧ (w.alloc (.cells #[.string ⟨#[]⟩, .string ⟨#[]⟩] 56)).heap[w.heap.size]? = some (.cells #[.string ⟨#[]⟩, .string ⟨#[]⟩] 56 (0, 0)) ∧ w.grownBy (w.alloc (.cells #[.string ⟨#[]⟩, .string ⟨#[]⟩] 56)) (some g)) :=
    ⟨H0.out.keep (World.grownBy_alloc _ _ none), Go.heap_alloc_new w _, World.grownBy_alloc _ _ _⟩
  generalize w.alloc (.cells #[.string ⟨#[]⟩, .string ⟨#[]⟩] 56) = W0 at *
  have hb0 : g ≠ w.heap.size := by omega
  generalize hbe : w.heap.size = b0 at *
  refine (HW.out _ HB.out.1).mono ?_
  rintro e w1 ⟨rfl, H1⟩
  clear HW
  go_wp2_with fail
  refine (HN.out _ H1.out.1).mono ?_
  rintro e w2 ⟨rfl, c1, f1, H2⟩
  clear HN
  go_wp2_with fail
  have HP := H2.out.1.put (k + n) ((k : Int) + (n : Int)) (by omega)
  have HQ : Hid (Tx (w2.setCell ⟨g, 1, none⟩ (.int .i64 ((k : Int) + (n : Int)))) g s (k + n) ∧ W0.grownBy (w2.setCell ⟨g, 1, none⟩ (.int .i64 ((k : Int) + (n : Int)))) (some g)) :=
    ⟨HP.1, gb_trans (gb_trans H1.out.2 H2.out.2 (fun _ h _ => h.symm)) HP.2 (fun _ h _ => h.symm)⟩
  clear HP H1 H2 c1 f1
  generalize w2.setCell ⟨g, 1, none⟩ (.int .i64 ((k : Int) + (n : Int))) = w3 at *
  refine (HT1.out _ HQ.out.1).mono ?_
  rintro e w4 ⟨rfl, H4⟩
  clear HT1
  go_wp2_with fail
  refine (HT2.out _ H4.out.1).mono ?_
  rintro e w5 ⟨rfl, H5⟩
  clear HT2
  go_wp2_with fail
  refine (HV.out _ H5.out.1).mono ?_
  rintro e w6 ⟨rfl, H6⟩
  clear HV
  have HG : Hid (W0.grownBy w6 (some g)) := gb_trans (gb_trans (gb_trans HQ.out.2 H4.out.2 (fun _ h _ => h.symm)) H5.out.2 (fun _ h _ => h.symm)) H6.out.2 (fun _ h _ => h.symm)
  have hbl : w6.heap[b0]? = some (.cells #[.string ⟨#[]⟩, .string ⟨#[]⟩] 56 (0, 0)) :=
    (HG.out.block b0 (Array.getElem?_eq_some_iff.1 HB.out.2.1).1 (by simp; omega)).trans HB.out.2.1
  have q0 : w6.cell? ⟨b0, 0, none⟩ = some (.string ⟨#[]⟩) := by rw [World.cell?, hbl]; rfl
  have q1 : w6.cell? ⟨b0, 1, none⟩ = some (.string ⟨#[]⟩) := by rw [World.cell?, hbl]; rfl
  have q2 : w6.frozen? ⟨b0, 0, none⟩ = false := by rw [World.frozen?, hbl]; rfl
  have q3 : w6.frozen? ⟨b0, 1, none⟩ = false := by rw [World.frozen?, hbl]; rfl
  go_wp2
  have hs1 := heap_setCell_same w6 b0 0 _ _ (.string sn) hbl
  have hs2 := heap_setCell_same _ b0 1 _ _ (.string sv) hs1
  have HE : Hid (Tx ((w6.setCell ⟨b0, 0, none⟩ (.string sn)).setCell ⟨b0, 1, none⟩ (.string sv)) g s k3 ∧ w.grownBy ((w6.setCell ⟨b0, 0, none⟩ (.string sn)).setCell ⟨b0, 1, none⟩ (.string sv)) (some g)) := by
    have hk : ∀ j, j ≠ b0 → ((w6.setCell ⟨b0, 0, none⟩ (.string sn)).setCell ⟨b0, 1, none⟩ (.string sv)).heap[j]? = w6.heap[j]? := fun j hj => (Below.heap_setCell _ _ _ _ hj).trans (Below.heap_setCell _ _ _ _ hj)
    have hw : w.grownBy w6 (some g) := gb_trans HB.out.2.2 HG.out (fun _ h _ => h.symm)
    refine ⟨(hk g hb0).trans H6.out.1, ⟨hw.os, hw.tape, hw.output, ?_, fun j hj hne => (hk j (by omega)).trans (hw.block j hj hne)⟩⟩
    have := hw.size
    simpa using this
  have d0 : ((w6.setCell ⟨b0, 0, none⟩ (.string sn)).setCell ⟨b0, 1, none⟩ (.string sv)).cell? ⟨b0, 0, none⟩ = some (.string sn) := by rw [World.cell?, hs2]; rfl
  have d1 : ((w6.setCell ⟨b0, 0, none⟩ (.string sn)).setCell ⟨b0, 1, none⟩ (.string sv)).cell? ⟨b0, 1, none⟩ = some (.string sv) := by rw [World.cell?, hs2]; rfl
  clear hs1 hs2 hbl q0 q1 q2 q3
  generalize (w6.setCell ⟨b0, 0, none⟩ (.string sn)).setCell ⟨b0, 1, none⟩ (.string sv) = W1 at *
  refine bodyPost_ret (v := .tuple #[.agg #[.string sn, .string sv], .bool true]) ?_ rfl ?_
  · simp [results, Tryd.f116, go_sem, d0, d1]
  · exact ⟨rfl, HE.out⟩
end Go.Proofs.YtknlnllcpdiglaaDoor
