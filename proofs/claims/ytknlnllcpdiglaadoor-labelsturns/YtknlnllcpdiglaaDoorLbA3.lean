/-
  A text that is read whole: what (*text).set comes to where a name stands ahead and one label in braces: the walk.
-/
import Derived.Test.YtknlnllcpdiglaaDoorLbA2
namespace Go.Proofs.YtknlnllcpdiglaaDoor
open Go.RowKit

/-- __name__ -/
def mnB : List UInt8 := [95, 95, 110, 97, 109, 101, 95, 95]
set_option maxRecDepth 8000 in
set_option maxHeartbeats 3200000 in
theorem set_one (w : World) (g : Nat) (s mn nm vl : List UInt8) (k0 n k1 k2 k3 : Nat) (h : Tx w g s 0) (hs : s.length ≤ 1000000)
    (h0 : skp s 0 = k0) (hn : (s.drop k0).take (span pinMetric (s.drop k0)) = mn) (hnl : mn.length = n) (hn0 : mn ≠ []) (hN : metricB mn = true) (hk0 : k0 + n ≤ s.length)
    (h1 : tkB s (k0 + n) 123 = true) (h1k : tkK s (k0 + n) 123 = k1)
    (hL : ∀ W, Tx W g s k1 → Calls Tryd.prog 100 #[.pointer (some ⟨g, 0, none⟩)] W fun e w' => ∃ v, e = .returned (.tuple #[v, .bool true]) ∧ OwnL w' W.heap.size v [(nm, vl)] ∧ Tx w' g s k2 ∧ W.grownBy w' (some g))
    (hk2 : k2 ≤ s.length) (h2 : skp s k2 = k3) (h2k : k3 = s.length) :
    Calls Tryd.prog 67 #[.pointer (some ⟨g, 0, none⟩)] w fun e w' => ∃ v, e = .returned (.tuple #[v, .bool true]) ∧ OwnL w' w.heap.size v [(mnB, mn), (nm, vl)] ∧ w.grownBy w' (some g) := by
  have HS : Hid (Calls Tryd.prog 97 #[.pointer (some ⟨g, 0, none⟩)] w fun e w' => e = .returned (.tuple #[]) ∧ Hid (Tx w' g s k0 ∧ w.grownBy w' (some g))) :=
    (skipBlanks_any w g s 0 h (by omega) (by omega)).mono fun e w' ⟨e1, e2, e3⟩ => ⟨e1, by rw [← h0]; exact e2, e3⟩
  have HW : Hid (∀ W, Tx W g s k0 → Calls Tryd.prog 98 #[.pointer (some ⟨g, 0, none⟩), .func (.func 47) #[] #[]] W fun e w' => e = .returned (.string (ByteArray.mk ⟨mn⟩)) ∧ Hid (Tx w' g s k0 ∧ W.grownBy w' (some g))) := fun W hW =>
    (word_inMetric W g s k0 hW (by omega) (by omega)).mono fun e w' ⟨e1, e2⟩ => ⟨by rw [e1, hn], hW.keep e2, gb_any e2 _⟩
  have HN : Hid (∀ W, Tx W g s k0 → Calls Tryd.prog 14 #[.string (ByteArray.mk ⟨mn⟩)] W fun e w' => e = .returned (.bool true) ∧ Hid (Tx w' g s k0 ∧ W.grownBy w' (some g))) := fun W hW =>
    (metric_any W mn (by omega)).mono fun e w' ⟨e1, e2⟩ => ⟨by rw [e1, hN], hW.keep e2, gb_any e2 _⟩
  have HT1 : Hid (∀ W, Tx W g s (k0 + n) → Calls Tryd.prog 99 #[.pointer (some ⟨g, 0, none⟩), .int .u8 123] W fun e w' => e = .returned (.bool true) ∧ Hid (Tx w' g s k1 ∧ W.grownBy w' (some g))) := fun W hW =>
    (take_any W g s (k0 + n) 123 hW hk0 (by omega)).mono fun e w' ⟨e1, e2, e3⟩ => ⟨by rw [e1, h1], by rw [h1k] at e2; exact e2, e3⟩
  have HL : Hid (∀ W, Tx W g s k1 → Calls Tryd.prog 100 #[.pointer (some ⟨g, 0, none⟩)] W fun e w' => ∃ v, e = .returned (.tuple #[v, .bool true]) ∧ OwnL w' W.heap.size v [(nm, vl)] ∧ Tx w' g s k2 ∧ W.grownBy w' (some g)) := hL
  have HE : Hid (∀ W, Tx W g s k2 → Calls Tryd.prog 101 #[.pointer (some ⟨g, 0, none⟩)] W fun e w' => e = .returned (.bool true) ∧ Hid (Tx w' g s k3 ∧ W.grownBy w' (some g))) := fun W hW =>
    (ended_any W g s k2 hW hk2 (by omega)).mono fun e w' ⟨e1, e2, e3⟩ => ⟨by rw [e1, h2, decide_eq_true h2k], by rw [h2] at e2; exact e2, e3⟩
  have hz : (ByteArray.mk ⟨mn⟩).size = n := hnl
  have hgl : g < w.heap.size := (Array.getElem?_eq_some_iff.1 h).1
  have hkb : k0 + n ≤ 1000000 := by omega
  have hne : (ByteArray.mk ⟨mn⟩).toList.isEmpty = false := by rw [ByteArray.toList_eq]; cases mn with | nil => exact absurd rfl hn0 | cons _ _ => rfl
  have hne2 : ¬ (ByteArray.mk ⟨mn⟩).toList = [] := by rw [ByteArray.toList_eq]; exact hn0
  obtain ⟨i0, hi, hz0, hz1, hz2⟩ := info_parts infoLb
  have HI : Hid (Tryd.prog.info? 56 = some i0 ∧ i0.zero = some (.agg #[.string ⟨#[]⟩, .string ⟨#[]⟩]) ∧ i0.size = 2 ∧ i0.bytes = 32) := ⟨hi, hz0, hz1, hz2⟩
  clear h hs h0 hn hnl hn0 hN hk0 h1 h1k hL hk2 h2 h2k hi hz0 hz1 hz2
  have HMN : Hid (∀ x : LbT, lbf [(mnB, mn), x] = [.string (ByteArray.mk ⟨mnB⟩), .string (ByteArray.mk ⟨mn⟩)] ++ lbf [x]) := fun _ => rfl
  generalize ByteArray.mk ⟨mn⟩ = sn at *
  go_enter Tryd.func67, Tryd.ntmps67
  go_wp2_with fail
  refine HS.out.mono ?_
  rintro e w1 ⟨rfl, H1⟩
  clear HS
  go_wp2_with fail
  refine (HW.out _ H1.out.1).mono ?_
  rintro e w2 ⟨rfl, H2⟩
  clear HW
  go_wp2_with fail
  refine (HN.out _ H2.out.1).mono ?_
  rintro e w3 ⟨rfl, H3⟩
  clear HN
  have H3' : Hid (Tx w3 g s k0 ∧ w.grownBy w3 (some g)) := ⟨H3.out.1, gb_trans (gb_trans H1.out.2 H2.out.2 (fun _ h _ => h.symm)) H3.out.2 (fun _ h _ => h.symm)⟩
  clear H1 H2 H3
  go_wp2_with (at_builtin; refine wp_appH rfl _ _ 22 56 rfl i0 _ 2 32 w.heap.size Tryd.underlying22 HI.out.1 HI.out.2.1 HI.out.2.2.1 HI.out.2.2.2 rfl (by decide) _ 0 [] (some ⟨w3.heap.size, 0, none⟩) 1 1 [.string (ByteArray.mk ⟨mnB⟩), .string sn] rfl rfl (World.ownsRow_nil _ _ _ _) ?b1 ?b2 ?b3 ?b4 ?b5 ?b6 ?b7 ?_)
  case b1 => rfl
  case b2 =>
    intro j u hj
    refine ⟨_, rfl, ?_⟩
    rw [Go.WideShapes.add_plain]
    have ha := Go.heap_alloc_new w3 (.cells #[.string (ByteArray.mk ⟨mnB⟩), .string sn] 56)
    have e : (w3.alloc (.cells #[.string (ByteArray.mk ⟨mnB⟩), .string sn] 56)).cell? ⟨w3.heap.size, 0 + j, none⟩ = some u := by
      simp only [World.cell?, ha]
      simpa using hj
    exact e
  case b3 => intro h; cases h
  case b4 =>
    intro u hu
    simp only [List.mem_cons, List.not_mem_nil, or_false] at hu
    rcases hu with rfl | rfl <;> rfl
  case b5 => omega
  case b6 => omega
  case b7 => have := H3'.out.2.size; simp; omega
  intro v4 w4 ho4 hf4
  have hg4 : w3.grownBy w4 none := gb_none (World.grownBy_alloc _ _ none) hf4.1
  have H4 : Hid (w4.ownsRow w.heap.size 56 2 v4 1 [.string (ByteArray.mk ⟨mnB⟩), .string sn] ∧ Tx w4 g s k0 ∧ w.grownBy w4 (some g)) := ⟨ho4, H3'.out.1.keep hg4, gb_none H3'.out.2 hg4⟩
  clear ho4 hf4 hg4 H3'
  obtain ⟨c0, c1, f1⟩ := H4.out.2.1.cells
  go_wp2_with fail
  have HP := H4.out.2.1.put (k0 + n) ((k0 : Int) + (n : Int)) (by omega)
  have hkeep : ∀ {W W' : World} {v : Value} {m : Nat} {xs : List Value}, W.ownsRow w.heap.size 56 2 v m xs → W.grownBy W' (some g) → W'.ownsRow w.heap.size 56 2 v m xs := fun {W W' v m xs} h hg => by
    refine World.ownsRow.kept h hg ?_
    cases hv : v.ownBlock with
    | none => exact .inl rfl
    | some j => right; have := World.ownsRow.lt h j hv; simp; omega
  have HKP : Hid (∀ {W W' : World} {v : Value} {m : Nat} {xs : List Value}, W.ownsRow w.heap.size 56 2 v m xs → W.grownBy W' (some g) → W'.ownsRow w.heap.size 56 2 v m xs) := hkeep
  clear hkeep
  have H5 : Hid ((w4.setCell ⟨g, 1, none⟩ (.int .i64 ((k0 : Int) + (n : Int)))).ownsRow w.heap.size 56 2 v4 1 [.string (ByteArray.mk ⟨mnB⟩), .string sn] ∧ Tx (w4.setCell ⟨g, 1, none⟩ (.int .i64 ((k0 : Int) + (n : Int)))) g s (k0 + n) ∧ w.grownBy (w4.setCell ⟨g, 1, none⟩ (.int .i64 ((k0 : Int) + (n : Int)))) (some g)) :=
    ⟨HKP.out H4.out.1 HP.2, HP.1, gb_trans H4.out.2.2 HP.2 (fun _ h _ => h.symm)⟩
  clear HP H4 c0 c1 f1
  generalize w4.setCell ⟨g, 1, none⟩ (.int .i64 ((k0 : Int) + (n : Int))) = w5 at *
  refine (HT1.out _ H5.out.2.1).mono ?_
  rintro e w6 ⟨rfl, H6⟩
  have H6' : Hid (w6.ownsRow w.heap.size 56 2 v4 1 [.string (ByteArray.mk ⟨mnB⟩), .string sn] ∧ Tx w6 g s k1 ∧ w.grownBy w6 (some g)) := ⟨HKP.out H5.out.1 H6.out.2, H6.out.1, gb_trans H5.out.2.2 H6.out.2 (fun _ h _ => h.symm)⟩
  clear HT1 H5 H6
  go_wp2_with fail
  refine (HL.out _ H6'.out.2.1).mono ?_
  rintro e w7 ⟨v7, rfl, ho7, hx7, hg7⟩
  have H7 : Hid (w7.ownsRow w.heap.size 56 2 v4 1 [.string (ByteArray.mk ⟨mnB⟩), .string sn] ∧ OwnL w7 w6.heap.size v7 [(nm, vl)] ∧ Tx w7 g s k2 ∧ w.grownBy w7 (some g) ∧ w.heap.size ≤ w6.heap.size) := ⟨HKP.out H6'.out.1 hg7, ho7, hx7, gb_trans H6'.out.2.2 hg7 (fun _ h _ => h.symm), H6'.out.2.2.size⟩
  obtain ⟨a7, c7, rfl, hc1, hc2, -, hc4⟩ := ho7.rd
  clear HL H6' ho7 hx7 hg7
  unfold maxLen at hc2
  have HC : Hid (a7 = none → 1 = 0 ∧ c7 = 0) := fun h => ⟨by have := hc4 h; simp at hc1; omega, hc4 h⟩
  clear hc4
  go_wp2_with (at_builtin; refine wp_appH rfl _ _ 22 56 rfl i0 _ 2 32 w.heap.size Tryd.underlying22 HI.out.1 HI.out.2.1 HI.out.2.2.1 HI.out.2.2.2 rfl (by decide) _ 1 _ a7 1 c7 (lbf [(nm, vl)]) rfl rfl H7.out.1 rfl H7.out.2.1.rd.rdc HC.out (lbf_one _) (by omega) (by omega) (by have := H7.out.2.2.2.1.size; omega) ?_)
  intro v8 w8 ho8 hf8
  have hb8 : ∀ j, j < w.heap.size → w8.heap[j]? = w7.heap[j]? := fun j hj => hf8.1.block j (by have := H7.out.2.2.2.1.size; omega) (fun e => by have := (World.ownsRow.lt H7.out.1 j e.symm).1; omega)
  have H8 : Hid (OwnL w8 w.heap.size v8 [(mnB, mn), (nm, vl)] ∧ Tx w8 g s k2 ∧ w.grownBy w8 (some g)) := by
    have h7 := H7.out.2.2.2.1
    refine ⟨?_, (hb8 g hgl).trans H7.out.2.2.1, ⟨hf8.1.os.trans h7.os, hf8.1.tape.trans h7.tape, hf8.1.output.trans h7.output, Nat.le_trans h7.size hf8.1.size, fun j hj hne => (hb8 j hj).trans (h7.block j hj hne)⟩⟩
    show w8.ownsRow _ _ _ _ _ (lbf [(mnB, mn), (nm, vl)])
    rw [HMN.out]
    exact ho8
  clear hb8 ho8 hf8 H7 hc1 hc2 HC
  go_wp2_with fail
  refine (HE.out _ H8.out.2.1).mono ?_
  rintro e w9 ⟨rfl, H9⟩
  clear HE
  have HZ : Hid (OwnL w9 w.heap.size v8 [(mnB, mn), (nm, vl)] ∧ w.grownBy w9 (some g)) := ⟨H8.out.1.kept H9.out.2 hgl, gb_trans H8.out.2.2 H9.out.2 (fun _ h _ => h.symm)⟩
  clear H8 H9
  go_wp2
  go_ret2
  exact ⟨_, rfl, HZ.out⟩
end Go.Proofs.YtknlnllcpdiglaaDoor
