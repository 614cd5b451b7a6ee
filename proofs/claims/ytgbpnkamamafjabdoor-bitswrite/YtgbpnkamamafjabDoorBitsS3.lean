/-
  The document's bytes of a stream: the walk.
-/
import Derived.Test.YtgbpnkamamafjabDoorBitsS2
namespace Go.Proofs.YtgbpnkamamafjabDoor
open Go.RowKit

def packN (l : List Bool) (N : Nat) : List UInt8 := (List.range N).map fun i => UInt8.ofNat (byteOf l i)
theorem packN_len (l : List Bool) (N : Nat) : (packN l N).length = N := by simp [packN]
theorem packN_get (l : List Bool) (N i : Nat) (h : i < N) : (packN l N).getD i 0 = UInt8.ofNat (byteOf l i) := by simp [packN, List.getD, h]
theorem packN_nil (N : Nat) : packN [] N = List.replicate N 0 := by
  apply List.ext_getElem
  · simp [packN]
  · intro i h1 h2
    simp only [packN, List.getElem_map, List.getElem_range, List.getElem_replicate]
    rw [byteOf_end [] i (by simp)]
    rfl
theorem bit_piece (b : Bool) : [b] = piece (b2n b) 0 1 := by cases b <;> rfl
theorem byteOf_one (t : List Bool) (b : Bool) (k : Nat) : byteOf (t ++ [b]) k = if k = t.length / 8 ∧ b = true then byteOf t k ||| 128 / 2 ^ (t.length % 8) else byteOf t k := by
  by_cases h : k = t.length / 8
  · subst h
    rw [bit_piece b, byteOf_piece t (b2n b) 0 1 (by omega) (by omega)]
    have hm : t.length % 8 < 8 := Nat.mod_lt _ (by decide)
    cases b
    · have e : ∀ j, j < 8 → shifted (b2n false / 2 ^ 0) 1 (8 - j) = 0 := by decide
      rw [e _ hm]
      simp
    · have e : ∀ j, j < 8 → shifted (b2n true / 2 ^ 0) 1 (8 - j) = 128 / 2 ^ j := by decide
      rw [e _ hm]
      simp
  · rw [if_neg (fun hh => h hh.1)]
    by_cases h2 : k < t.length / 8
    · exact byteOf_app _ _ _ (by omega)
    · rw [byteOf_end t k (by omega), byteOf_end (t ++ [b]) k (by rw [List.length_append]; simp; omega)]
theorem packN_false (t : List Bool) (N : Nat) : packN (t ++ [false]) N = packN t N := by
  unfold packN
  apply List.map_congr_left
  intro k _
  rw [byteOf_one]
  simp
theorem packN_true (t : List Bool) (N : Nat) : packN (t ++ [true]) N = (packN t N).set (t.length / 8) (UInt8.ofNat (byteOf t (t.length / 8) ||| 128 / 2 ^ (t.length % 8))) := by
  apply List.ext_getElem
  · simp [packN]
  · intro k h1 h2
    rw [List.getElem_set]
    simp only [packN, List.getElem_map, List.getElem_range]
    rw [byteOf_one]
    by_cases e : t.length / 8 = k
    · subst e
      simp
    · rw [if_neg e, if_neg (fun hh => e hh.1.symm)]
theorem pack_packN (l : List Bool) : pack l = packN l ((l.length + 7) / 8) := rfl
theorem take_one {l : List Bool} {i : Nat} (h : i < l.length) : l.take (i + 1) = l.take i ++ [l.getD i false] := by
  have h1 : l.getD i false = l[i] := by simp [List.getD, h]
  rw [h1, List.take_succ_eq_append_getElem h]
theorem OwnB.cell {w : World} {v : Value} {l : List Bool} (h : OwnB w v l) (hl : l ≠ []) : ∃ g cap, v = .slice (some ⟨g, 0, none⟩) l.length cap ∧ g < w.heap.size ∧ ∀ j, j < l.length → w.cell? ⟨g, j, none⟩ = some (.bool (l.getD j false)) := by
  have h0 := h
  rcases h.2 with ⟨rfl, hn⟩ | ⟨g, cap, cur, rfl, hg, hh, hnc, hcm, hcs, ht⟩
  · exact absurd (List.eq_nil_of_length_eq_zero hn) hl
  · refine ⟨g, cap, rfl, (Array.getElem?_eq_some_iff.1 hh).1, fun j hj => ?_⟩
    have := World.ownsRow.cellAt h0 j (by omega)
    rw [this]
    simp [hj, List.getD]
theorem or8 {q y : Nat} (hq : q < 256) (hy : y < 256) : bits .or .u8 (q : Int) (y : Int) = ((q ||| y : Nat) : Int) := u8_or_nat _ _ hq hy
theorem shr128 {m : Nat} (h : m < 8) : (128 : Int) / 2 ^ m = ((128 / 2 ^ m : Nat) : Int) := by
  have : ∀ j, j < 8 → (128 : Int) / 2 ^ j = ((128 / 2 ^ j : Nat) : Int) := by decide
  exact this m h

set_option maxHeartbeats 3200000 in
theorem rbytes_any (g : Nat) (v : Value) (l : List Bool) (p : Nat) (w : World) (hs : St w g v l p) (hsz : l.length ≤ 8388608) :
    Calls Tryd.prog 13 #[.pointer (some ⟨g, 0, none⟩)] w fun e w' => ∃ v', e = .returned v' ∧ Own w' w.heap.size v' (pack l) ∧ w.grownBy w' none := by
  have H : Hid (St w g v l p) := hs
  have hc := hs.cells
  have c0 := hc.1
  have hlt := hc.2.2.2
  obtain ⟨a, c, hv⟩ := hs.2.shape
  subst hv
  have hN : ((l.length : Int) + 7).tdiv 8 = (((l.length + 7) / 8 : Nat) : Int) := by rw [Int.tdiv_eq_ediv_of_nonneg (by omega)]; omega
  have HN : Hid ((l.length + 7) / 8 ≤ 1048576 ∧ l.length ≤ 8388608) := ⟨by omega, hsz⟩
  have HP : Hid (pack l = packN l ((l.length + 7) / 8)) := rfl
  have HN8 : Hid (∀ i, i < l.length → i / 8 < (l.length + 7) / 8) := fun i hi => by omega
  have hl1 : (l.length : Int) ≤ 8388608 := by omega
  clear hs hc hsz
  generalize (l.length + 7) / 8 = N at *
  go_enter Tryd.func13, Tryd.ntmps13
  go_wp2_with (at_make; refine wp_make rfl _ _ rfl w.heap.size _ _ _ _ N N rfl rfl ?c0 ?c1 ?c2 ?c3 ?c4 ?_)
  case c0 => exact wrap64_id (by omega) (by have := HN.out.1; omega)
  case c1 => exact wrap64_id (by omega) (by have := HN.out.1; omega)
  case c2 => exact Nat.le_refl _
  case c3 => have := HN.out.1; omega
  case c4 => omega
  intro w1 ho1 hg1 _
  have d0 : w1.cell? ⟨g, 0, none⟩ = some (.slice a l.length c) := by rw [← c0]; exact World.cell?_of_block (hg1.block g hlt (by simp))
  have H1 : Hid (Own w1 w.heap.size (.slice (some ⟨w.heap.size, 0, none⟩) N N) (packN [] N) ∧ w.grownBy w1 none ∧ St w1 g (.slice a l.length c) l p) := ⟨by rw [packN_nil]; exact ho1, hg1, H.out.keep hg1⟩
  clear ho1 hg1 c0 H
  go_wp2
  go_loopw [19] (fun i wr => ∃ k : Nat, k ≤ l.length ∧ i = .int .i64 (k : Int) ∧ Hid (Own wr w.heap.size (.slice (some ⟨w.heap.size, 0, none⟩) N N) (packN (l.take k) N) ∧ w.grownBy wr none ∧ St wr g (.slice a l.length c) l p)) (fun i _ => l.length - (intOf i).toNat)
  case atStart => exact ⟨0, by omega, rfl, H1⟩
  case round =>
    obtain ⟨k, hk, rfl, hr⟩ := hrel
    by_cases h0 : k < l.length
    · have hne : l ≠ [] := by rintro rfl; simp at h0
      obtain ⟨gb, cap, hv, hgb, hcell⟩ := hr.out.2.2.2.cell hne
      simp only [Value.slice.injEq, true_and] at hv
      obtain ⟨rfl, rfl⟩ := hv
      have hcb := hcell k h0
      have ht := take_one h0
      have htl : (l.take k).length = k := by simp; omega
      cases hb : l.getD k false with
      | false =>
        rw [hb] at hcb ht
        have H2 : Hid (Own wr w.heap.size (.slice (some ⟨w.heap.size, 0, none⟩) N N) (packN (l.take (k + 1)) N) ∧ w.grownBy wr none ∧ St wr g (.slice (some ⟨gb, 0, none⟩) l.length c) l p) := ⟨by rw [ht, packN_false]; exact hr.out.1, hr.out.2⟩
        clear hcell hr ht htl hne hb
        go_wp2
        go_roundw
        case rel => exact ⟨k + 1, by omega, by go_num, H2⟩
        case measure => simp [intOf]; omega
      | true =>
        rw [hb] at hcb ht
        have hk8 := HN8.out k h0
        have hq : (k : Int).tdiv 8 = ((k / 8 : Nat) : Int) := by rw [Int.tdiv_eq_ediv_of_nonneg (by omega)]; omega
        have hm : (k : Int).tmod 8 = ((k % 8 : Nat) : Int) := by rw [Int.tmod_eq_emod_of_nonneg (by omega)]; omega
        have hms : k % 8 < 8 := Nat.mod_lt _ (by decide)
        have hbl := byteOf_lt (l.take k) (k / 8)
        have hcy : wr.cell? ⟨w.heap.size, k / 8, none⟩ = some (.int .u8 (byteOf (l.take k) (k / 8) : Int)) := by
          obtain ⟨g2, cap2, hv2, -, -, -, -, hc2⟩ := hr.out.1.form (by intro e; have := congrArg List.length e; rw [packN_len] at this; simp at this; omega)
          simp only [Value.slice.injEq, Option.some.injEq, Addr.mk.injEq] at hv2
          obtain ⟨⟨rfl, -, -⟩, -, -⟩ := hv2
          rw [hc2 (k / 8) (by rw [packN_len]; exact hk8), packN_get _ _ _ hk8, UInt8.toNat_ofNat']
          congr 3
          omega
        have hfz : wr.frozen? ⟨w.heap.size, k / 8, none⟩ = false := by
          have h1 := hr.out.1
          unfold Own at h1
          rw [packN_len] at h1
          exact World.ownsRow.frozenAt h1 (k / 8)
        have hor := or8 hbl (show 128 / 2 ^ (k % 8) < 256 from Nat.lt_of_le_of_lt (Nat.div_le_self _ _) (by decide))
        have hsh := shr128 hms
        have H2 : Hid (Own (wr.setCell ⟨w.heap.size, k / 8, none⟩ (.int .u8 ((byteOf (l.take k) (k / 8) ||| 128 / 2 ^ (k % 8) : Nat) : Int))) w.heap.size (.slice (some ⟨w.heap.size, 0, none⟩) N N) (packN (l.take (k + 1)) N) ∧ w.grownBy (wr.setCell ⟨w.heap.size, k / 8, none⟩ (.int .u8 ((byteOf (l.take k) (k / 8) ||| 128 / 2 ^ (k % 8) : Nat) : Int))) none ∧ St (wr.setCell ⟨w.heap.size, k / 8, none⟩ (.int .u8 ((byteOf (l.take k) (k / 8) ||| 128 / 2 ^ (k % 8) : Nat) : Int))) g (.slice (some ⟨gb, 0, none⟩) l.length c) l p) := by
          have hlt2 := or_lt hbl (show 128 / 2 ^ (k % 8) < 256 from Nat.lt_of_le_of_lt (Nat.div_le_self _ _) (by decide))
          have hsame : wr.grownBy (wr.setCell ⟨w.heap.size, k / 8, none⟩ (.int .u8 ((byteOf (l.take k) (k / 8) ||| 128 / 2 ^ (k % 8) : Nat) : Int))) (some w.heap.size) :=
            ⟨rfl, rfl, rfl, by simp, fun j _ hj => Below.heap_setCell _ _ _ _ (fun e => hj (by rw [e]))⟩
          refine ⟨?_, gb_new hr.out.2.1 hsame (fun j hj => by cases hj; exact Nat.le_refl _), ?_, ?_⟩
          · have h1 := hr.out.1
            have h3 : wr.ownsRow w.heap.size 5 1 (.slice (some ⟨w.heap.size, 0, none⟩) N N) N ((packN (l.take k) N).map bv) := by unfold Own at h1; rw [packN_len] at h1; exact h1
            have h4 := World.ownsRow.stored (h := h3) (k / 8) (bv (UInt8.ofNat (byteOf (l.take k) (k / 8) ||| 128 / 2 ^ (k % 8))))
            have e2 : bv (UInt8.ofNat (byteOf (l.take k) (k / 8) ||| 128 / 2 ^ (k % 8))) = .int .u8 ((byteOf (l.take k) (k / 8) ||| 128 / 2 ^ (k % 8) : Nat) : Int) := by
              unfold bv
              rw [UInt8.toNat_ofNat']
              congr 2
              omega
            rw [e2] at h4
            unfold Own
            rw [packN_len, ht, packN_true, htl, List.map_set, e2]
            exact h4.1
          · have hgne : g ≠ w.heap.size := by
              intro e
              have h5 := hr.out.1.2
              rcases h5 with ⟨h6, _⟩ | ⟨g3, cap3, cur3, h6, _, hh3, _⟩
              · cases h6
              · simp only [Value.slice.injEq, Option.some.injEq, Addr.mk.injEq] at h6
                obtain ⟨⟨rfl, -, -⟩, -, -⟩ := h6
                have h7 := hr.out.2.2.1
                rw [e] at h7
                rw [h7] at hh3
                simp at hh3
            rw [hsame.block g hr.out.2.2.cells.2.2.2 (by simpa using hgne)]
            exact hr.out.2.2.1
          · refine World.ownsRow.kept hr.out.2.2.2 hsame (.inr ?_)
            intro e
            simp only [Value.ownBlock, Option.some.injEq] at e
            have h5 := hr.out.1.2
            rcases h5 with ⟨h6, _⟩ | ⟨g3, cap3, cur3, h6, _, hh3, _⟩
            · cases h6
            · simp only [Value.slice.injEq, Option.some.injEq, Addr.mk.injEq] at h6
              obtain ⟨⟨rfl, -, -⟩, -, -⟩ := h6
              rcases hr.out.2.2.2.2 with ⟨h8, _⟩ | ⟨g4, cap4, cur4, h8, _, hh4, _⟩
              · cases h8
              · simp only [Value.slice.injEq, Option.some.injEq, Addr.mk.injEq] at h8
                obtain ⟨⟨rfl, -, -⟩, -, -⟩ := h8
                rw [e] at hh4
                rw [hh4] at hh3
                simp at hh3
        have hK8b : k / 8 ≤ 1048576 := by have := HN.out.1; omega
        clear hcell hr ht htl hne hb
        generalize byteOf (l.take k) (k / 8) = Q at *
        generalize 128 / 2 ^ (k % 8) = Y at *
        generalize Q ||| Y = QY at *
        generalize k / 8 = K8 at *
        generalize k % 8 = M8 at *
        go_wp2
        go_roundw
        case rel => exact ⟨k + 1, by omega, by go_num, H2⟩
        case measure => simp [intOf]; omega
    · obtain rfl : k = l.length := by omega
      have H2 : Hid (Own wr w.heap.size (.slice (some ⟨w.heap.size, 0, none⟩) N N) (pack l) ∧ w.grownBy wr none) := ⟨by rw [HP.out]; simpa using hr.out.1, hr.out.2.1⟩
      clear hr
      go_wp2
      go_ret
      exact ⟨_, rfl, H2.out⟩
end Go.Proofs.YtgbpnkamamafjabDoor
