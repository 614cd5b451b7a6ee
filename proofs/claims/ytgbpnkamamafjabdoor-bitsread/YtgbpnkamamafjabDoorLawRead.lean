/-
  BitsRead is true for every input: a stream of bits is read as the chapter says, and a refused call reads nothing; the bytes stay and are not kept.
-/
import Derived.Test.YtgbpnkamamafjabDoorBitsT5
import Derived.Test.YtgbpnkamamafjabDoorLiftB
namespace Go.Proofs.YtgbpnkamamafjabDoor
open Go.ChangeShapes Go.WideShapes Go.ChangeAt Go.RowKit

theorem conv_rd {w : World} {v : Value} {l : List UInt8} (h : Rd w v l) : (convert 34 9 v).run Tryd.prog w = .ok (.string (strOfNums (l.map fun b => (b.toNat : Int)))) w := by
  obtain ⟨a, c, rfl, h1, h2, h3, h4⟩ := h
  by_cases hl : l = []
  · subst hl
    cases a with
    | none =>
      rw [List.length_nil, run_convert_bytes_nil w 34 5 Tryd.underlying34 Tryd.underlying5 0 c 9 Tryd.underlying9]
      rfl
    | some ad =>
      have hl : (loadCells ad 0).run Tryd.prog w = .ok (([] : List Int).map (Value.int .u8)).toArray w := run_loadCells_list w ad [] (fun j v hj => by simp at hj)
      rw [List.length_nil, run_convert_bytes_string w 34 9 5 _ 0 c Tryd.underlying34 Tryd.underlying5 Tryd.underlying9, run_bytesToString w _ 0 c [] hl]
      rfl
  · obtain ⟨b, o, rfl, -⟩ := h3 0 (List.length_pos_iff.2 hl)
    refine run_convert_bytes_arg w 34 5 Tryd.underlying34 Tryd.underlying5 b o l.length c _ (by simp) (fun i hi => ?_) 9 Tryd.underlying9
    obtain ⟨b', o', he, hc⟩ := h3 i hi
    simp only [Option.some.injEq, Addr.mk.injEq, and_true] at he
    obtain ⟨rfl, rfl⟩ := he
    rw [hc]
    simp [hi]
theorem same_rd (v u : Value) (l : List UInt8) (w : World) (hv : Rd w v l) (hu : Rd w u l) :
    Calls Tryd.prog 12 #[v, u] w fun e w' => e = .returned (.bool true) ∧ w' = w := by
  have c1 := conv_rd hv
  have c2 := conv_rd hu
  generalize strOfNums (l.map fun b => (b.toNat : Int)) = s at *
  clear hv hu
  go_enter Tryd.func12, Tryd.ntmps12
  go_wp2
  go_ret
  exact ⟨ret_bool (by simp), rfl⟩

set_option maxHeartbeats 1600000 in
/-- NewReader, and where its bytes lie -/
theorem newReader_at (w : World) (v : Value) (l : List UInt8) (n : Nat) (wr : World) (hv : Rd wr v l) (hw : w.grownBy wr none) (hn : n ≤ 8388608) (hl : (n + 7) / 8 ≤ l.length) :
    Calls Tryd.prog 15 #[v, .int .i64 (n : Int)] wr fun e w' => ∃ g gb c, e = .returned (.pointer (some ⟨g, 0, none⟩)) ∧ wr.heap.size ≤ g ∧ wr.heap.size ≤ gb ∧ gb ≠ g ∧ Rr w' g (.slice (some ⟨gb, 0, none⟩) (l.take ((n + 7) / 8)).length c) 0 n ∧ Rd w' (.slice (some ⟨gb, 0, none⟩) (l.take ((n + 7) / 8)).length c) (l.take ((n + 7) / 8)) ∧ wr.grownBy w' none := by
  have HV : Hid (Rd wr v l) := hv
  have HW : Hid (w.grownBy wr none) := hw
  obtain ⟨a, c, rfl, -, -, -, -⟩ := hv
  have hq : ((n : Int) + 7).tdiv 8 = (((n + 7) / 8 : Nat) : Int) := by rw [Int.tdiv_eq_ediv_of_nonneg (by omega)]; omega
  have HB : Hid ((l.take ((n + 7) / 8)).length = (n + 7) / 8) := by show (l.take ((n + 7) / 8)).length = (n + 7) / 8; simp; omega
  have HN : Hid ((n + 7) / 8 ≤ 1048576 ∧ n ≤ 8388608 ∧ (n + 7) / 8 ≤ l.length) := ⟨by omega, hn, hl⟩
  have c1 : ¬ (n : Int) < 0 := by omega
  have c2 : ¬ (8388608 : Int) < (n : Int) := by omega
  have c3 : ¬ (l.length : Int) < (((n + 7) / 8 : Nat) : Int) := by omega
  have hN1 : (n + 7) / 8 ≤ 1048576 := by omega
  have hn1 : (n : Int) ≤ 8388608 := by omega
  clear hw hn hl
  generalize (n + 7) / 8 = N at *
  go_enter Tryd.func15, Tryd.ntmps15
  go_wp2_with (at_make; refine wp_make rfl _ _ rfl wr.heap.size _ _ _ _ N N rfl rfl (by first | rfl | exact wrap64_id (by omega) (by omega)) (by first | rfl | exact wrap64_id (by omega) (by omega)) (Nat.le_refl _) (by omega) (by omega) ?_)
  intro w1 ho1 hg1 _
  have H1 : Hid (Own w1 wr.heap.size (.slice (some ⟨wr.heap.size, 0, none⟩) N N) (List.replicate N 0) ∧ wr.grownBy w1 none) := ⟨ho1, hg1⟩
  clear ho1 hg1
  go_wp2_with (refine wp_copyT rfl _ _ rfl wr.heap.size _ _ (List.replicate N 0) l rfl rfl H1.out.1 (HV.out.keep H1.out.2) (by simpa using HN.out.2.2) ?_)
  intro w2 ho2 hg2
  have H2 : Hid (Own w2 wr.heap.size (.slice (some ⟨wr.heap.size, 0, none⟩) N N) (l.take N) ∧ wr.grownBy w2 none) := ⟨by simpa using ho2, gb_new H1.out.2 hg2 (fun k hk => by simp [Value.ownBlock] at hk; omega)⟩
  clear ho2 hg2 H1
  go_wp2
  go_ret
  have hlt := H2.out.2.size
  have hb2 : wr.heap.size < w2.heap.size := (H2.out.1.lt _ rfl).2
  refine ⟨w2.heap.size, wr.heap.size, N, rfl, hlt, Nat.le_refl _, by omega, ?_, ?_, gb_none H2.out.2 (alloc_gb _ _)⟩
  · rw [HB.out]
    exact Go.heap_alloc_new w2 _
  · have := (H2.out.1.keep (alloc_gb w2 (.cells #[.slice (some ⟨wr.heap.size, 0, none⟩) N N, .int .i64 0, .int .i64 (n : Int)] 61))).rd
    rw [HB.out]
    exact this
theorem ubits_take (l : List UInt8) (N s : Nat) (h : s ≤ 8 * N) : ubits (l.take N) 0 s = ubits l 0 s := by
  unfold ubits
  apply List.map_congr_left
  intro j hj
  have hj2 := List.mem_range.1 hj
  unfold ubit
  have e : (l.take N).getD ((0 + j) / 8) 0 = l.getD ((0 + j) / 8) 0 := by
    simp only [List.getD]
    rw [List.getElem?_take, if_pos (by omega)]
  rw [e]
/-- all but one block is as it was -/
theorem RS.of_but {w w1 w2 : World} {gr gs gb c p s k : Nat} {L : List UInt8} {u : Value} (hk : w.heap.size ≤ k) (hkw : w.grownBy w1 none) (hgr : k < gr) (hgb : k < gb) (hne : gb ≠ gr) (hgs : k < gs) (hu : ∀ j, u.ownBlock = some j → k < j)
    (hr : Rr w1 gr (.slice (some ⟨gb, 0, none⟩) L.length c) p s) (hv : Rd w1 (.slice (some ⟨gb, 0, none⟩) L.length c) L) (hst : St w1 gs u (ubits L 0 s) p) (hps : p ≤ s) (hs : s ≤ 8388608) (hL : L.length = (s + 7) / 8) (hg : w1.grownBy w2 (some k)) : RS w w2 gr gs L u p s := by
  have hgw : w.grownBy w2 none := gb_new hkw hg (fun j hj => by cases hj; exact hk)
  refine ⟨⟨by omega, hgw, hps, hs, hL, gb, c, hne, ?_, ?_⟩, ⟨?_, ?_⟩, by omega⟩
  · unfold Rr
    rw [hg.block gr hr.cells.2.2.2.2 (by simp; omega)]
    exact hr
  · exact hv.kept hg (.inr (by simp [Value.ownBlock]; omega))
  · rw [hg.block gs hst.cells.2.2.2 (by simp; omega)]
    exact hst.1
  · refine World.ownsRow.kept hst.2 hg ?_
    cases hv : u.ownBlock with
    | none => exact .inl rfl
    | some j => exact .inr (by have := hu j hv; simp; omega)

set_option maxRecDepth 8000 in
set_option maxHeartbeats 25600000 in
theorem read_walk (v : Value) (l : List UInt8) (n : Int) (vo : Value) (ops : List OpT) (w : World) (hv : Rd w v l) (ho : OpsIn w vo ops) (hT : TabW w) (hl : l.length ≤ 140737488351232) :
    Calls Tryd.prog 4 #[v, .int .i64 n, vo] w fun e w' => e = .returned (.bool true) ∧ Below w.heap.size w w' := by
  have HV : Hid (Rd w v l) := hv
  have HO : Hid (OpsIn w vo ops) := ho
  have HT : Hid (TabW w) := hT
  have HLL : Hid (l.length ≤ 140737488351232) := hl
  have hl2 : (l.length : Int) ≤ 140737488351232 := by omega
  obtain ⟨a, c, hvv, -, -, -, -⟩ := hv
  subst hvv
  obtain ⟨oa, oc, hvo, hml, -⟩ := ho
  subst hvo
  clear hT hl hml
  go_enter Tryd.func4, Tryd.ntmps4
  go_wp2_with (at_builtin; refine wp_app rfl _ _ rfl w.heap.size _ _ [] l rfl rfl (Own.nil _ _) HV.out (by simp; omega) (by omega) ?_)
  intro v1 w1 ho1 hf1
  have H1 : Hid (Own w1 w.heap.size v1 l ∧ w.grownBy w1 none) := ⟨by simpa using ho1, hf1.1⟩
  clear ho1 hf1
  go_wp2_with (at_builtin; refine wp_app rfl _ _ rfl w.heap.size _ _ l [77] rfl rfl (H1.out.1.keep (alloc_gb _ _)) (Rd_lit _ [77] 1 rfl (by simp) _ rfl) (by simp; omega) (by have := H1.out.2.size; simp; omega) ?_)
  intro v2 w2 ho2 hf2
  have H2 : Hid (Own w2 w.heap.size v2 (l ++ [77]) ∧ w.grownBy w2 none) := ⟨ho2, gb_new H1.out.2 (Fr.pre (alloc_gb _ _) hf2).1 (fun k hk => (H1.out.1.lt k hk).1)⟩
  clear ho2 hf2 H1
  obtain ⟨k, cap, hv2, hk0, hk1, hcap, hcm, hcell⟩ := H2.out.1.form (by simp)
  subst hv2
  have hlen1 : (l ++ [77]).length = l.length + 1 := by simp
  rw [hlen1] at hcap H2
  rw [hlen1]
  have hc77 : w2.cell? ⟨k, l.length, none⟩ = some (.int .u8 77) := by
    rw [hcell l.length (by rw [hlen1]; omega)]
    simp
  have HK : Hid (w.heap.size ≤ k ∧ k < w2.heap.size) := ⟨hk0, hk1⟩
  have HR : Hid (Rd w2 (.slice (some ⟨k, 0, none⟩) l.length cap) l) := by
    refine ⟨_, _, rfl, by omega, hcm, fun j hj => ⟨k, 0, rfl, ?_⟩, fun h => by cases h⟩
    rw [Nat.zero_add, hcell j (by rw [hlen1]; omega)]
    have e : (l ++ [77]).getD j 0 = l.getD j 0 := by simp only [List.getD, List.getElem?_append_left hj]
    rw [e]
  have hle : l.length ≤ cap := by omega
  have HC77 : Hid (∀ w', w2.grownBy w' none → w'.cell? ⟨k, l.length, none⟩ = some (.int .u8 77)) := fun w' hg => cellkeep hc77 hg
  clear hcell hc77 hlen1 hk0 hk1
  unfold maxLen at hcm
  by_cases hok : (0 ≤ n ∧ n ≤ 8388608) ∧ n ≤ 8 * (l.length : Int)
  · obtain ⟨⟨hn0, hn1⟩, hn2⟩ := hok
    obtain ⟨m, rfl⟩ := Int.eq_ofNat_of_zero_le hn0
    have HM : Hid (m ≤ 8388608 ∧ (m + 7) / 8 ≤ l.length ∧ m ≤ 8 * l.length) := ⟨by omega, by omega, by omega⟩
    go_wp2_with fail
    refine (newReader_at w2 _ l m _ HR.out (gb_refl _ _) HM.out.1 HM.out.2.1).mono ?_
    rintro e w3 ⟨gr, gb, c3, rfl, hgr, hgb, hne, hr3, hd3, hg3⟩
    have H3 : Hid (w2.heap.size ≤ gr ∧ w2.heap.size ≤ gb ∧ gb ≠ gr ∧ Rr w3 gr (.slice (some ⟨gb, 0, none⟩) (l.take ((m + 7) / 8)).length c3) 0 m ∧ Rd w3 (.slice (some ⟨gb, 0, none⟩) (l.take ((m + 7) / 8)).length c3) (l.take ((m + 7) / 8)) ∧ w2.grownBy w3 none) := ⟨hgr, hgb, hne, hr3, hd3, hg3⟩
    clear hgr hgb hne hr3 hd3 hg3
    go_wp2_with fail
    refine (new_ok _ l m _ ((HV.out.keep H2.out.2).keep H3.out.2.2.2.2.2) HLL.out HM.out.1 HM.out.2.2).mono ?_
    rintro e w4 ⟨gs, u, rfl, hs4, hg4, hgs, hu4⟩
    have H4 : Hid (St w4 gs u (ubits (l.take ((m + 7) / 8)) 0 m) 0 ∧ w3.grownBy w4 none ∧ w2.heap.size ≤ gs ∧ (∀ j, u.ownBlock = some j → w2.heap.size ≤ j)) := ⟨by rw [ubits_take l _ m (by omega)]; exact hs4, hg4, Nat.le_trans H3.out.2.2.2.2.2.size hgs, fun j hj => Nat.le_trans H3.out.2.2.2.2.2.size (hu4 j hj)⟩
    clear hs4 hg4 hgs hu4
    have HG4 : Hid (w2.grownBy w4 none) := gb_none H3.out.2.2.2.2.2 H4.out.2.1
    go_wp2_with fail
    refine (same_rd _ _ l _ (HR.out.keep HG4.out) ((HV.out.keep H2.out.2).keep HG4.out)).mono ?_
    rintro e w5 ⟨rfl, rfl⟩
    have hc5 := HC77.out _ HG4.out
    go_wp2
    go_loopw [52] (fun i wr => ∃ q : Nat, q ≤ l.length + 1 ∧ i = .int .i64 (q : Int) ∧ Hid (w5.grownBy wr (some k) ∧ ∃ l', l'.length = l.length + 1 ∧ Own wr w.heap.size (.slice (some ⟨k, 0, none⟩) (l.length + 1) cap) l')) (fun i _ => l.length + 1 - (intOf i).toNat)
    case atStart => exact ⟨0, by omega, rfl, gb_refl _ _, l ++ [77], by simp, H2.out.1.keep HG4.out⟩
    case round =>
      obtain ⟨q, hq, rfl, hr⟩ := hrel
      by_cases hql : q < l.length + 1
      · obtain ⟨hgk, l', hl', ho'⟩ := hr.out
        have ho2 : wr.ownsRow w.heap.size 5 1 (.slice (some ⟨k, 0, none⟩) (l.length + 1) cap) (l.length + 1) (l'.map bv) := by unfold Own at ho'; rw [hl'] at ho'; exact ho'
        have hfz := World.ownsRow.frozenAt ho2 q
        have hcq : wr.cell? ⟨k, q, none⟩ = some (.int .u8 ((l'.getD q 0).toNat : Int)) := by
          have := World.ownsRow.cellAt ho2 q (by omega)
          rw [this]
          exact getD_map_bv (by omega)
        have hst := World.ownsRow.stored (h := ho2) q (bv 170)
        have H5 : Hid (w5.grownBy (wr.setCell ⟨k, q, none⟩ (.int .u8 170)) (some k) ∧ ∃ l', l'.length = l.length + 1 ∧ Own (wr.setCell ⟨k, q, none⟩ (.int .u8 170)) w.heap.size (.slice (some ⟨k, 0, none⟩) (l.length + 1) cap) l') := by
          refine ⟨gb_trans hgk hst.2 (fun j hj _ => hj.symm), l'.set q 170, by rw [List.length_set]; exact hl', ?_⟩
          unfold Own
          rw [List.length_set, hl', List.map_set]
          exact hst.1
        clear hst ho2 ho' hgk hr
        go_wp2
        go_roundw
        case rel => exact ⟨q + 1, by omega, by go_num, H5⟩
        case measure => simp [intOf]; omega
      · obtain rfl : q = l.length + 1 := by omega
        have H5 : Hid (RS w wr gr gs (l.take ((m + 7) / 8)) u 0 m) := by
          have hk1 := HK.out.2
          exact RS.of_but HK.out.1 (gb_none H2.out.2 HG4.out) (by have := H3.out.1; omega) (by have := H3.out.2.1; omega) H3.out.2.2.1 (by have := H4.out.2.2.1; omega) (fun j hj => by have := H4.out.2.2.2 j hj; omega) (H3.out.2.2.2.1.keep H4.out.2.1) (H3.out.2.2.2.2.1.keep H4.out.2.1) H4.out.1 (Nat.zero_le _) HM.out.1 (by simp; omega) hr.out.1
        have hz : Hid (((m - 0 : Nat) : Int) = (m : Int)) := by show ((m - 0 : Nat) : Int) = (m : Int); omega
        clear hr H3 H4 HG4 hc5 HC77 HR H2
        go_wp2_with fail
        refine ((left_two H5.out).1 _ H5.out).mono ?_
        rintro e w6 ⟨rfl, H6, -⟩
        go_wp2_with fail
        refine ((left_two H6.out).2 _ H6.out).mono ?_
        rintro e w7 ⟨rfl, H7, -⟩
        go_wp2
        go_loopw [69] (fun i wr => ∃ j : Nat, j ≤ ops.length ∧ i = .int .i64 (j : Int) ∧ Hid (∃ p, RS w wr gr gs (l.take ((m + 7) / 8)) u p m)) (fun i _ => ops.length - (intOf i).toNat)
        case atStart => exact ⟨0, by omega, rfl, 0, H7.out⟩
        case round =>
          obtain ⟨j, hj, rfl, hr⟩ := hrel
          obtain ⟨p, hrs⟩ := hr.out
          have HB : Hid (RS w wr gr gs (l.take ((m + 7) / 8)) u p m) := hrs
          clear hr hrs
          by_cases hjl : j < ops.length
          · have hop := HO.out.keep HB.out.rn.kept
            obtain ⟨a', c', hv', hml', hcells⟩ := hop
            simp only [Value.slice.injEq, true_and] at hv'
            obtain ⟨rfl, rfl⟩ := hv'
            obtain ⟨b, o, rfl, c0, c1, c2, c3'⟩ := hcells j hjl
            clear hcells
            generalize ops.getD j opZ = op at *
            obtain ⟨ok, ox, on, oi⟩ := op
            simp only at c0 c1 c2 c3'
            have HB2 : Hid (RS w (wr.alloc (.cells #[.int .i64 ok, .int .u64 (I64 ox), .int .i64 on, .int .i64 oi] 31)) gr gs (l.take ((m + 7) / 8)) u p m) := HB.out.keep (alloc_gb _ _)
            clear HB
            by_cases h500 : (500 : Int) ≤ (j : Int)
            · go_wp2_with fail
              refine (awake_any _).mono ?_
              rintro e w8 ⟨rfl, hg8⟩
              have H8 : Hid (Below w.heap.size w w8) := gb_below (gb_none HB2.out.rn.kept hg8)
              clear hg8
              go_wp2
              go_ret
              exact ⟨rfl, H8.out⟩
            · go_wp2_with fail
              refine (read_any w _ gr gs p m _ u ok ox on oi HB2.out HT.out).mono ?_
              rintro e w8 ⟨rfl, q8, hr8⟩
              have H8 : Hid (∃ p, RS w w8 gr gs (l.take ((m + 7) / 8)) u p m) := ⟨q8, hr8⟩
              clear hr8
              go_wp2
              go_roundw
              case rel => exact ⟨j + 1, by omega, by go_num, H8⟩
              case measure => simp [intOf]; omega
          · go_wp2_with fail
            refine (awake_any _).mono ?_
            rintro e w8 ⟨rfl, hg8⟩
            have H8 : Hid (Below w.heap.size w w8) := gb_below (gb_none HB.out.rn.kept hg8)
            clear hg8
            go_wp2
            go_ret
            exact ⟨rfl, H8.out⟩
  · have hbad1 : Hid (n < 0 ∨ 8388608 < n ∨ (l.length : Int) < (n + 7) / 8) := by show n < 0 ∨ 8388608 < n ∨ (l.length : Int) < (n + 7) / 8; omega
    have hbad2 : Hid (n < 0 ∨ 8388608 < n ∨ 8 * (l.length : Int) < n) := by show n < 0 ∨ 8388608 < n ∨ 8 * (l.length : Int) < n; omega
    clear hok
    go_wp2_with fail
    refine (newReader_nil _ l n _ HR.out hbad1.out).mono ?_
    rintro e w3 ⟨rfl, rfl⟩
    go_wp2_with fail
    refine (new_nil _ l n _ (HV.out.keep H2.out.2) HLL.out hbad2.out).mono ?_
    rintro e w4 ⟨rfl, rfl⟩
    go_wp2_with fail
    refine (same_rd _ _ l _ HR.out (HV.out.keep H2.out.2)).mono ?_
    rintro e w5 ⟨rfl, rfl⟩
    have hc5 := HC77.out _ (gb_refl _ _)
    go_wp2
    go_loopw [52] (fun i wr => ∃ q : Nat, q ≤ l.length + 1 ∧ i = .int .i64 (q : Int) ∧ Hid (w5.grownBy wr (some k) ∧ ∃ l', l'.length = l.length + 1 ∧ Own wr w.heap.size (.slice (some ⟨k, 0, none⟩) (l.length + 1) cap) l')) (fun i _ => l.length + 1 - (intOf i).toNat)
    case atStart => exact ⟨0, by omega, rfl, gb_refl _ _, l ++ [77], by simp, H2.out.1⟩
    case round =>
      obtain ⟨q, hq, rfl, hr⟩ := hrel
      by_cases hql : q < l.length + 1
      · obtain ⟨hgk, l', hl', ho'⟩ := hr.out
        have ho2 : wr.ownsRow w.heap.size 5 1 (.slice (some ⟨k, 0, none⟩) (l.length + 1) cap) (l.length + 1) (l'.map bv) := by unfold Own at ho'; rw [hl'] at ho'; exact ho'
        have hfz := World.ownsRow.frozenAt ho2 q
        have hcq : wr.cell? ⟨k, q, none⟩ = some (.int .u8 ((l'.getD q 0).toNat : Int)) := by
          have := World.ownsRow.cellAt ho2 q (by omega)
          rw [this]
          exact getD_map_bv (by omega)
        have hst := World.ownsRow.stored (h := ho2) q (bv 170)
        have H5 : Hid (w5.grownBy (wr.setCell ⟨k, q, none⟩ (.int .u8 170)) (some k) ∧ ∃ l', l'.length = l.length + 1 ∧ Own (wr.setCell ⟨k, q, none⟩ (.int .u8 170)) w.heap.size (.slice (some ⟨k, 0, none⟩) (l.length + 1) cap) l') := by
          refine ⟨gb_trans hgk hst.2 (fun j hj _ => hj.symm), l'.set q 170, by rw [List.length_set]; exact hl', ?_⟩
          unfold Own
          rw [List.length_set, hl', List.map_set]
          exact hst.1
        clear hst ho2 ho' hgk hr
        go_wp2
        go_roundw
        case rel => exact ⟨q + 1, by omega, by go_num, H5⟩
        case measure => simp [intOf]; omega
      · obtain rfl : q = l.length + 1 := by omega
        have H5 : Hid (w.grownBy wr none) := gb_new H2.out.2 hr.out.1 (fun j hj => by cases hj; exact HK.out.1)
        clear hr
        go_wp2_with fail
        refine (awake_any _).mono ?_
        rintro e w8 ⟨rfl, hg8⟩
        have H8 : Hid (Below w.heap.size w w8) := gb_below (gb_none H5.out hg8)
        clear hg8
        go_wp2
        go_ret
        exact ⟨rfl, H8.out⟩

theorem read_contract (H : Type) (enc : TypeId × Value → H) (W : World) (base : Nat) (args : Array Value) (ds gs : List (DataW H)) (before : List MemPlace)
    (hval : ∀ (j : Nat) t v, Tryd.f4.params[j]? = some t → args[j]? = some v → Value.okWide Tryd.prog W .any base t v)
    (hW : DataW.Whole enc Tryd.prog Tryd.f4.params.toList Rows.bitsReadSpec.vars false W args.toList ds gs before) (hL : laidMetH Tryd.prog Rows.bitsReadRow.laid W) (hk : (DataW.weightsEach Tryd.prog (Tryd.f4.params.toList ++ (OpenSpec.ofChange Rows.bitsReadSpec).bare.plain.varTypes Tryd.prog) (ds ++ gs)).all (· ≤ reachBytes) = true) :
    Calls Tryd.prog 4 args W fun e W' => ∃ v, e = .returned v ∧ Rows.bitsReadSpec.post enc Tryd.prog Tryd.f4 false true false false W args v W' := by
  have hW' := hW
  obtain ⟨p, q, hA0, hV, rfl, hfz, hnd⟩ := hW
  have hA : DataW.TrodAll enc Tryd.prog W 0 (fun _ => true) true Tryd.f4.params.toList args.toList ds p := hA0
  rw [Tryd.params4] at hA hval hk
  obtain ⟨v0, vs0, d0, ds0, p0, q0, hargs, rfl, rfl, h0, r0⟩ := trodAll_cons hA
  obtain ⟨v1, vs1, d1, ds1, p1, q1, rfl, rfl, rfl, h1, r1⟩ := trodAll_cons r0
  obtain ⟨v2, vs2, d2, ds2, p2, q2, rfl, rfl, rfl, h2, r2⟩ := trodAll_cons r1
  obtain ⟨rfl, rfl, rfl⟩ := trodAll_nil r2
  obtain rfl : args = #[v0, v1, v2] := by cases args; simp_all
  obtain ⟨rfl, rfl⟩ := trodVars_none hV
  obtain ⟨l0, rd0, b0, n0, nl0, nd0⟩ := open_bytes (hval 0 34 v0 rfl rfl) h0
  obtain ⟨z1, rfl, rfl, rfl, wz1⟩ := open_int Tryd.underlying3 (hval 1 3 v1 rfl rfl) h1
  obtain ⟨l2, o2⟩ := open_ops (hval 2 22 v2 rfl rfl) h2
  clear hA0
  have hT := tabw_of hL
  have hz0 := sz_bytes hk 0 rfl rfl nl0 nd0
  refine (read_walk v0 l0 z1 v2 _ W rd0 o2 hT hz0).mono fun e W' ⟨he, bel⟩ => ?_
  subst he
  exact ⟨_, rfl, _, _, _, [], _, [], hW', trodAll_mk1 (shut_bool Tryd.underlying4 _), (trodAll_cons_mk (back_bytes h0 bel) (trodAll_cons_mk (shut_int Tryd.underlying3 wz1) (trodAll_cons_mk (back_ops h2 bel) trodAll_mk0))), rfl, bel.frame _, fun h => by cases h⟩

theorem read_met (os : Os) : laidMet Tryd.prog Rows.bitsReadRow.laid ((laidWorld os).forCall (fun _ _ => 0) ⟨#[], #[.slice none 0 0, .int .i64 0, .slice none 0 0], []⟩).memory :=
  laidMet_of_run' 8 (by kernel_rfl) (by kernel_rfl)
theorem read_reads (os : Os) {H : Type} (enc : TypeId × Value → H) : ∃ places, DataW.whole enc Tryd.prog ((laidWorld os).forCall (fun _ _ => 0) ⟨#[], #[.slice none 0 0, .int .i64 0, .slice none 0 0], []⟩).memory Tryd.f4.params.toList Rows.bitsReadSpec.vars false #[Value.slice none 0 0, Value.int .i64 0, Value.slice none 0 0].toList 8 = some ([.nil, .lit (.int .i64 0), .nil], [], places) :=
  ⟨[], by kernel_rfl⟩

set_option maxRecDepth 100000 in
theorem read_lifted (os : Os) (started : os.Started) (H : Type) (enc : TypeId × Value → H) (F : Stop.Interp) :
    ReturnsInHanded {} Tryd.checked os 4 .any ((OpenSpec.ofChange Rows.bitsReadSpec).preRow enc Tryd.prog Tryd.f4 Rows.bitsReadRow.domain false Rows.bitsReadRow.laid) (((OpenSpec.ofChange Rows.bitsReadSpec).at F).post enc Tryd.prog Tryd.f4 false true false false) := by
  obtain ⟨places, hx⟩ := read_reads os enc
  refine returnsInHanded_of_row (C := Tryd.checked) (s := (OpenSpec.ofChange Rows.bitsReadSpec)) own started (by kernel_rfl) Tryd.func4
    (witness_row_at (enc := enc) (C := Tryd.checked) false (laidWorld os) #[.slice none 0 0, .int .i64 0, .slice none 0 0] rfl (by kernel_rfl) (by kernel_rfl) (by kernel_rfl)
      (OpenSpec.preRow_of_cond 8 hx (by kernel_rfl) (fun k hk => by cases hk) (by kernel_rfl) (read_met os))) ?_
  intro W base args ds gs before hval hW _ _ hsz hL _ _
  exact read_contract H enc W base args ds gs before hval hW hL hsz

theorem read_said : Rows.BitsReadSaid :=
  OpenClaim.holds_of_cond 4 Tryd.f4 rfl rfl rfl rfl rfl rfl rfl ⟨rfl, rfl, rfl, rfl, rfl⟩ rfl rfl rfl rfl rfl (by kernel_rfl) Tryd.func4 (by kernel_rfl)
    (of_decide_eq_true (by kernel_rfl)) (by unfold Func.isWrapper; first | (rw [if_pos (by decide +kernel)]; kernel_rfl) | (rw [if_neg (by decide +kernel)]; exact ⟨rfl, rfl⟩))
    (fun os started H enc _ F => by rw [OpenClaim.pre_eq_preRow]; exact read_lifted os started H enc F)

theorem read_intocsinlaw02Op : Tryd.prog.wantsStandIn 22 = false := by kernel_rfl
theorem read_inuint8 : Tryd.prog.wantsStandIn 34 = false := by kernel_rfl
theorem read_inint : Tryd.prog.wantsStandIn 3 = false := by kernel_rfl
theorem read_plain (f : FuncId) (fn : Func) (hf : Tryd.pinned.checked.prog.funcNamed "tocsin/tocsinlaw02.BitsRead" = some f) (hfn : Tryd.pinned.checked.prog.funcs[f]? = some fn) :
    false = Tryd.pinned.checked.prog.looks [] ∧ ∀ (j : Nat) t, fn.params[j]? = some t → Tryd.pinned.checked.prog.wantsStandIn t = false := by
  obtain rfl : f = 4 := Option.some.inj ((show Tryd.prog.funcNamed "tocsin/tocsinlaw02.BitsRead" = some 4 by kernel_rfl).symm.trans hf) |>.symm
  obtain rfl : fn = Tryd.f4 := (Option.some.inj (Tryd.func4.symm.trans hfn)).symm
  refine ⟨by kernel_rfl, fun j t ht => ?_⟩
  rw [Tryd.params4] at ht
  have hm := Array.mem_of_getElem? ht
  simp only [List.mem_toArray, List.mem_cons, List.not_mem_nil, or_false] at hm
  rcases hm with rfl | rfl | rfl
  · exact read_inuint8
  · exact read_inint
  · exact read_intocsinlaw02Op

/-- THE STATEMENT -/
theorem bitsRead_holds : Rows.BitsReadCardSaid :=
  Claim7.holds_tied_plain_at .later [] _ _ _ _ read_said (fun _ h => by cases h) (by kernel_rfl) (fun _ h => by cases h) bitsRead_row_tie rfl ⟨rfl, rfl⟩ (by kernel_rfl) rfl read_plain (by kernel_rfl)
end Go.Proofs.YtgbpnkamamafjabDoor
