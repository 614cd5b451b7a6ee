/-
  BitsWrite is true for every input: what is written bit by bit, as numbers and as whole numbers, is the stream that the chapter says; its bytes are new memory.
-/
import Derived.Test.YtgbpnkamamafjabDoorLiftO
import Derived.Test.YtgbpnkamamafjabDoorBitsS3
import Derived.Deep.RegionWith
namespace Go.Proofs.YtgbpnkamamafjabDoor
open Go.ChangeShapes Go.WideShapes Go.ChangeAt Go.RowKit

theorem sbytesN (w wr : World) (g : Nat) (bs : List Bool) (h : SN w wr g bs 0) (hs : bs.length ≤ 8388608) :
    Calls Tryd.prog 13 #[.pointer (some ⟨g, 0, none⟩)] wr fun e w' => ∃ v', e = .returned v' ∧ Own w' wr.heap.size v' (pack bs) ∧ wr.grownBy w' none := by
  obtain ⟨h1, h2, v, h3, h4⟩ := h
  exact rbytes_any g v bs 0 wr h3 hs

set_option maxRecDepth 8000 in
set_option maxHeartbeats 12800000 in
theorem write_walk (v : Value) (ops : List OpT) (w : World) (hv : OpsIn w v ops) (hT : TabW w) :
    Calls Tryd.prog 3 #[v] w fun e w' => e = .returned (.bool true) ∧ Below w.heap.size w w' := by
  have HV : Hid (OpsIn w v ops) := hv
  have HT : Hid (TabW w) := hT
  obtain ⟨a, c, hvv, hml, -⟩ := hv
  subst hvv
  clear hT hml
  go_enter Tryd.func3, Tryd.ntmps3
  go_wp2_with fail
  refine (newN w _ (gb_refl _ _)).mono ?_
  rintro e w1 ⟨gw, rfl, hw1, -⟩
  have H1 : Hid (WN w (w1.alloc (.cells #[.slice none 0 0, .int .i64 0] 28)) gw [] ∧ SN w (w1.alloc (.cells #[.slice none 0 0, .int .i64 0] 28)) w1.heap.size [] 0) := by
    refine ⟨hw1.keep (alloc_gb _ _), hw1.2.1.size, gb_none hw1.2.1 (alloc_gb _ _), .slice none 0 0, ⟨Go.heap_alloc_new w1 _, OwnB.nil _⟩, fun k hk => by simp [Value.ownBlock] at hk⟩
  clear hw1
  go_wp2
  generalize hgs : w1.heap.size = gs at *
  go_loopw [16] (fun i wr => ∃ m : Nat, m ≤ ops.length ∧ i = .int .i64 (m : Int) ∧ Hid (∃ bs, WN w wr gw bs ∧ SN w wr gs bs 0 ∧ bs.length ≤ 8388608)) (fun i _ => ops.length - (intOf i).toNat)
  case atStart => exact ⟨0, by omega, rfl, [], H1.out.1, H1.out.2, by simp⟩
  case round =>
    obtain ⟨m, hm, rfl, hr⟩ := hrel
    obtain ⟨bs, hwb, hsb, hbl⟩ := hr.out
    have HB : Hid (WN w wr gw bs ∧ SN w wr gs bs 0 ∧ bs.length ≤ 8388608) := ⟨hwb, hsb, hbl⟩
    clear hr hwb hsb hbl H1
    by_cases hmL : m < ops.length
    · have hop := (HV.out.keep HB.out.1.2.1)
      obtain ⟨a', c', hv', hml, hcells⟩ := hop
      simp only [Value.slice.injEq, true_and] at hv'
      obtain ⟨rfl, rfl⟩ := hv'
      obtain ⟨b, o, rfl, c0, c1, c2, c3⟩ := hcells m hmL
      clear hcells
      by_cases h500 : (500 : Int) ≤ (m : Int)
      · generalize ops.getD m opZ = op at *
        obtain ⟨ok, ox, on, oi⟩ := op
        simp only at c0 c1 c2 c3
        have HBB : Hid (WN w (wr.alloc (.cells #[.int .i64 ok, .int .u64 (I64 ox), .int .i64 on, .int .i64 oi] 31)) gw bs ∧ SN w (wr.alloc (.cells #[.int .i64 ok, .int .u64 (I64 ox), .int .i64 on, .int .i64 oi] 31)) gs bs 0 ∧ bs.length ≤ 8388608) := ⟨HB.out.1.keep (alloc_gb _ _), HB.out.2.1.keep (alloc_gb _ _), HB.out.2.2⟩
        clear HB
        have HB : Hid (WN w (wr.alloc (.cells #[.int .i64 ok, .int .u64 (I64 ox), .int .i64 on, .int .i64 oi] 31)) gw bs ∧ SN w (wr.alloc (.cells #[.int .i64 ok, .int .u64 (I64 ox), .int .i64 on, .int .i64 oi] 31)) gs bs 0 ∧ bs.length ≤ 8388608) := HBB
        clear HBB
        go_wp2_with fail
        generalize wr.alloc (.cells #[.int .i64 ok, .int .u64 (I64 ox), .int .i64 on, .int .i64 oi] 31) = WB at *
        refine (wbytesN w _ gw bs HB.out.1 HB.out.2.2).mono ?_
        rintro e w3 ⟨v3, rfl, ho3, hg3⟩
        obtain ⟨a3, c3, hv3⟩ := ho3.shape
        have H3 : Hid (WN w w3 gw bs ∧ SN w w3 gs bs 0 ∧ bs.length ≤ 8388608 ∧ Own w3 WB.heap.size v3 (pack bs) ∧ WB.grownBy w3 none) := ⟨HB.out.1.keep hg3, HB.out.2.1.keep hg3, HB.out.2.2, ho3, hg3⟩
        clear ho3 hg3
        subst hv3
        have hpl : (pack bs).length ≤ 1048576 := by rw [pack_len]; have := HB.out.2.2; omega
        go_wp2_with fail
        refine (sbytesN w _ gs bs H3.out.2.1 H3.out.2.2.1).mono ?_
        rintro e w4 ⟨v4, rfl, ho4, hg4⟩
        have H4 : Hid (Own w4 WB.heap.size (.slice a3 (pack bs).length c3) (pack bs) ∧ Own w4 w3.heap.size v4 (pack bs) ∧ WB.grownBy w4 none) := ⟨H3.out.2.2.2.1.keep hg4, ho4, gb_none H3.out.2.2.2.2 hg4⟩
        clear ho4 hg4
        go_wp2_with fail
        refine (same_true _ v4 _ _ _ _ H4.out.1 H4.out.2.1).mono ?_
        rintro e w5 ⟨rfl, rfl⟩
        go_wp2
        go_loopw [48] (fun i wr => ∃ q : Nat, q ≤ (pack bs).length ∧ i = .int .i64 (q : Int) ∧ Hid (∃ l', l'.length = (pack bs).length ∧ Own wr WB.heap.size (.slice a3 (pack bs).length c3) l' ∧ WB.grownBy wr none)) (fun i _ => (pack bs).length - (intOf i).toNat)
        case atStart => exact ⟨0, by omega, rfl, _, rfl, H4.out.1, H4.out.2.2⟩
        case round =>
          obtain ⟨q, hq, rfl, hr2⟩ := hrel
          obtain ⟨l', hl', ho', hg'⟩ := hr2.out
          clear hr2
          by_cases hq0 : q < (pack bs).length
          · obtain ⟨gb, cap, hv, -, hgb, hcap, hcm, hcell⟩ := ho'.form (by rintro rfl; simp at hl'; omega)
            rw [hl'] at hv hcell
            simp only [Value.slice.injEq, true_and] at hv
            obtain ⟨rfl, rfl⟩ := hv
            have hcq := hcell q hq0
            have ho2 : wr.ownsRow WB.heap.size 5 1 (.slice (some ⟨gb, 0, none⟩) (pack bs).length c3) (pack bs).length (l'.map bv) := by unfold Own at ho'; rw [hl'] at ho'; exact ho'
            have hfz := World.ownsRow.frozenAt ho2 q
            have hst := World.ownsRow.stored (h := ho2) q (bv 99)
            have hgbb := (World.ownsRow.lt ho2 gb rfl).1
            have H5 : Hid (∃ l'', l''.length = (pack bs).length ∧ Own (wr.setCell ⟨gb, q, none⟩ (.int .u8 99)) WB.heap.size (.slice (some ⟨gb, 0, none⟩) (pack bs).length c3) l'' ∧ WB.grownBy (wr.setCell ⟨gb, q, none⟩ (.int .u8 99)) none) := by
              refine ⟨l'.set q 99, by rw [List.length_set]; exact hl', ?_, gb_new hg' hst.2 (fun k hk => by cases hk; exact hgbb)⟩
              unfold Own
              rw [List.length_set, hl', List.map_set]
              exact hst.1
            clear hst ho2 ho' hg' hcell hcap hcm
            go_wp2
            go_roundw
            case rel => exact ⟨q + 1, by omega, by go_num, H5⟩
            case measure => simp [intOf]; omega
          · obtain rfl : q = (pack bs).length := by omega
            have H6 : Hid (WN w wr gw bs ∧ SN w wr gs bs 0 ∧ bs.length ≤ 8388608) := ⟨HB.out.1.keep hg', HB.out.2.1.keep hg', HB.out.2.2⟩
            clear ho' hg' H3 H4
            go_wp2_with fail
            refine (wbytesN w _ gw bs H6.out.1 H6.out.2.2).mono ?_
            rintro e w6 ⟨v6, rfl, ho6, hg6⟩
            have H7 : Hid (SN w w6 gs bs 0 ∧ Own w6 wr.heap.size v6 (pack bs)) := ⟨H6.out.2.1.keep hg6, ho6⟩
            clear ho6 hg6
            go_wp2_with fail
            refine (sbytesN w _ gs bs H7.out.1 H6.out.2.2).mono ?_
            rintro e w7 ⟨v7, rfl, ho7, hg7⟩
            have H8 : Hid (SN w w7 gs bs 0 ∧ Own w7 wr.heap.size v6 (pack bs) ∧ Own w7 w6.heap.size v7 (pack bs)) := ⟨H7.out.1.keep hg7, H7.out.2.keep hg7, ho7⟩
            clear ho7 hg7 H7 H6
            go_wp2_with fail
            refine (same_true _ v7 _ _ _ _ H8.out.2.1 H8.out.2.2).mono ?_
            rintro e w8 ⟨rfl, rfl⟩
            go_wp2_with fail
            refine (awake_any _).mono ?_
            rintro e w9 ⟨rfl, hg9⟩
            have H9 : Hid (Below w.heap.size w w9) := gb_below (gb_none H8.out.1.2.1 hg9)
            clear hg9 H8
            go_wp2
            go_ret
            exact ⟨rfl, H9.out⟩
      · generalize ops.getD m opZ = op at *
        obtain ⟨ok, ox, on, oi⟩ := op
        simp only at c0 c1 c2 c3
        have HWr : Hid (∀ w', WN w w' gw bs ∧ SN w w' gs bs 0 ∧ w'.heap[wr.heap.size]? = some (.cells #[.int .i64 ok, .int .u64 (I64 ox), .int .i64 on, .int .i64 oi] 31 (0, 0)) → Calls Tryd.prog 9 #[.pointer (some ⟨gw, 0, none⟩), .pointer (some ⟨gs, 0, none⟩), .agg #[.int .i64 ok, .int .u64 (I64 ox), .int .i64 on, .int .i64 oi]] w' fun e w'' =>
            ∃ L a2 c2, e = .returned (.bool true) ∧ w''.cell? ⟨gs, 0, none⟩ = some (.slice a2 L c2) ∧ (w''.cell? ⟨wr.heap.size, 0, none⟩ = some (.int .i64 ok) ∧ w''.cell? ⟨wr.heap.size, 1, none⟩ = some (.int .u64 (I64 ox)) ∧ w''.cell? ⟨wr.heap.size, 2, none⟩ = some (.int .i64 on) ∧ w''.cell? ⟨wr.heap.size, 3, none⟩ = some (.int .i64 oi)) ∧ Hid (∃ bs2, bs2.length = L ∧ WN w w'' gw bs2 ∧ SN w w'' gs bs2 0 ∧ bs2.length ≤ 8388608)) := by
          intro w' hw'
          refine (both_any w w' gw gs bs bs ok ox on oi (BitVec.ofInt 64 oi) hw'.1 hw'.2.1 HT.out (wrap_u64 oi) HB.out.2.2 HB.out.2.2).mono ?_
          rintro e w'' ⟨he, h1, h2, hk⟩
          have h22 := h2
          obtain ⟨_, _, u, hu, _⟩ := h2
          obtain ⟨a2, c2, hv2⟩ := hu.2.shape
          have hbx := (hk.2 _ _ _ _ hw'.2.2 (by decide)).trans hw'.2.2
          refine ⟨_, a2, c2, ?_, ?_, ?_, _, rfl, h1, h22, opNew_le HB.out.2.2⟩
          · rw [he, beq_self_eq_true]
          · rw [hu.cells.1, hv2]
          · refine ⟨?_, ?_, ?_, ?_⟩ <;> simp [World.cell?, hbx]
        have HB0 : Hid (∀ W, (wr.alloc (.cells #[.int .i64 ok, .int .u64 (I64 ox), .int .i64 on, .int .i64 oi] 31)).grownBy W none → WN w W gw bs ∧ SN w W gs bs 0 ∧ W.heap[wr.heap.size]? = some (.cells #[.int .i64 ok, .int .u64 (I64 ox), .int .i64 on, .int .i64 oi] 31 (0, 0))) := fun W hW =>
          ⟨(HB.out.1.keep (alloc_gb _ _)).keep hW, (HB.out.2.1.keep (alloc_gb _ _)).keep hW, by rw [hW.block _ (by simp) (by simp)]; exact Go.heap_alloc_new wr _⟩
        clear HB HV
        go_wp2_with fail
        generalize hWA : wr.alloc (.cells #[.int .i64 ok, .int .u64 (I64 ox), .int .i64 on, .int .i64 oi] 31) = WA at *
        have hbx := (HB0.out _ (gb_refl _ _)).2.2
        have q0 : WA.cell? ⟨wr.heap.size, 0, none⟩ = some (.int .i64 ok) := by simp [World.cell?, hbx]
        have q1 : WA.cell? ⟨wr.heap.size, 1, none⟩ = some (.int .u64 (I64 ox)) := by simp [World.cell?, hbx]
        have q2 : WA.cell? ⟨wr.heap.size, 2, none⟩ = some (.int .i64 on) := by simp [World.cell?, hbx]
        have q3 : WA.cell? ⟨wr.heap.size, 3, none⟩ = some (.int .i64 oi) := by simp [World.cell?, hbx]
        clear hbx hWA
        generalize wr.heap.size = b0 at *
        go_region_with
          (first
            | (go_at_call 9; refine (HWr.out _ ?_).mono ?_; (first | exact HB0.out _ (gb_refl _ _) | exact HB0.out _ (gb_drew _ _)); rintro e w2 ⟨L2, a2, c2', rfl, cs2, ⟨p0, p1, p2, p3⟩, H2⟩; obtain ⟨bs2, hbl2, hw2, hs2, hb2⟩ := H2.out; have H3 : Hid (WN w w2 gw bs2 ∧ SN w w2 gs bs2 0 ∧ bs2.length ≤ 8388608) := ⟨hw2, hs2, hb2⟩; clear hw2 hs2 hb2 H2; subst hbl2)
            | (go_at_call 10; refine (wlenN w _ gw _ H3.out.1).mono ?_; rintro e w3 ⟨rfl, rfl⟩))
        all_goals go_wp2
        all_goals go_roundw
        all_goals first | exact ⟨m + 1, by omega, by go_num, _, H3.out⟩ | (simp [intOf]; omega)
    · generalize wr = WB at *
      go_wp2_with fail
      refine (wbytesN w _ gw bs HB.out.1 HB.out.2.2).mono ?_
      rintro e w3 ⟨v3, rfl, ho3, hg3⟩
      obtain ⟨a3, c3, hv3⟩ := ho3.shape
      have H3 : Hid (WN w w3 gw bs ∧ SN w w3 gs bs 0 ∧ bs.length ≤ 8388608 ∧ Own w3 WB.heap.size v3 (pack bs) ∧ WB.grownBy w3 none) := ⟨HB.out.1.keep hg3, HB.out.2.1.keep hg3, HB.out.2.2, ho3, hg3⟩
      clear ho3 hg3
      subst hv3
      have hpl : (pack bs).length ≤ 1048576 := by rw [pack_len]; have := HB.out.2.2; omega
      go_wp2_with fail
      refine (sbytesN w _ gs bs H3.out.2.1 H3.out.2.2.1).mono ?_
      rintro e w4 ⟨v4, rfl, ho4, hg4⟩
      have H4 : Hid (Own w4 WB.heap.size (.slice a3 (pack bs).length c3) (pack bs) ∧ Own w4 w3.heap.size v4 (pack bs) ∧ WB.grownBy w4 none) := ⟨H3.out.2.2.2.1.keep hg4, ho4, gb_none H3.out.2.2.2.2 hg4⟩
      clear ho4 hg4
      go_wp2_with fail
      refine (same_true _ v4 _ _ _ _ H4.out.1 H4.out.2.1).mono ?_
      rintro e w5 ⟨rfl, rfl⟩
      go_wp2
      go_loopw [48] (fun i wr => ∃ q : Nat, q ≤ (pack bs).length ∧ i = .int .i64 (q : Int) ∧ Hid (∃ l', l'.length = (pack bs).length ∧ Own wr WB.heap.size (.slice a3 (pack bs).length c3) l' ∧ WB.grownBy wr none)) (fun i _ => (pack bs).length - (intOf i).toNat)
      case atStart => exact ⟨0, by omega, rfl, _, rfl, H4.out.1, H4.out.2.2⟩
      case round =>
        obtain ⟨q, hq, rfl, hr2⟩ := hrel
        obtain ⟨l', hl', ho', hg'⟩ := hr2.out
        clear hr2
        by_cases hq0 : q < (pack bs).length
        · obtain ⟨gb, cap, hv, -, hgb, hcap, hcm, hcell⟩ := ho'.form (by rintro rfl; simp at hl'; omega)
          rw [hl'] at hv hcell
          simp only [Value.slice.injEq, true_and] at hv
          obtain ⟨rfl, rfl⟩ := hv
          have hcq := hcell q hq0
          have ho2 : wr.ownsRow WB.heap.size 5 1 (.slice (some ⟨gb, 0, none⟩) (pack bs).length c3) (pack bs).length (l'.map bv) := by unfold Own at ho'; rw [hl'] at ho'; exact ho'
          have hfz := World.ownsRow.frozenAt ho2 q
          have hst := World.ownsRow.stored (h := ho2) q (bv 99)
          have hgbb := (World.ownsRow.lt ho2 gb rfl).1
          have H5 : Hid (∃ l'', l''.length = (pack bs).length ∧ Own (wr.setCell ⟨gb, q, none⟩ (.int .u8 99)) WB.heap.size (.slice (some ⟨gb, 0, none⟩) (pack bs).length c3) l'' ∧ WB.grownBy (wr.setCell ⟨gb, q, none⟩ (.int .u8 99)) none) := by
            refine ⟨l'.set q 99, by rw [List.length_set]; exact hl', ?_, gb_new hg' hst.2 (fun k hk => by cases hk; exact hgbb)⟩
            unfold Own
            rw [List.length_set, hl', List.map_set]
            exact hst.1
          clear hst ho2 ho' hg' hcell hcap hcm
          go_wp2
          go_roundw
          case rel => exact ⟨q + 1, by omega, by go_num, H5⟩
          case measure => simp [intOf]; omega
        · obtain rfl : q = (pack bs).length := by omega
          have H6 : Hid (WN w wr gw bs ∧ SN w wr gs bs 0 ∧ bs.length ≤ 8388608) := ⟨HB.out.1.keep hg', HB.out.2.1.keep hg', HB.out.2.2⟩
          clear ho' hg' H3 H4
          go_wp2_with fail
          refine (wbytesN w _ gw bs H6.out.1 H6.out.2.2).mono ?_
          rintro e w6 ⟨v6, rfl, ho6, hg6⟩
          have H7 : Hid (SN w w6 gs bs 0 ∧ Own w6 wr.heap.size v6 (pack bs)) := ⟨H6.out.2.1.keep hg6, ho6⟩
          clear ho6 hg6
          go_wp2_with fail
          refine (sbytesN w _ gs bs H7.out.1 H6.out.2.2).mono ?_
          rintro e w7 ⟨v7, rfl, ho7, hg7⟩
          have H8 : Hid (SN w w7 gs bs 0 ∧ Own w7 wr.heap.size v6 (pack bs) ∧ Own w7 w6.heap.size v7 (pack bs)) := ⟨H7.out.1.keep hg7, H7.out.2.keep hg7, ho7⟩
          clear ho7 hg7 H7 H6
          go_wp2_with fail
          refine (same_true _ v7 _ _ _ _ H8.out.2.1 H8.out.2.2).mono ?_
          rintro e w8 ⟨rfl, rfl⟩
          go_wp2_with fail
          refine (awake_any _).mono ?_
          rintro e w9 ⟨rfl, hg9⟩
          have H9 : Hid (Below w.heap.size w w9) := gb_below (gb_none H8.out.1.2.1 hg9)
          clear hg9 H8
          go_wp2
          go_ret
          exact ⟨rfl, H9.out⟩
theorem write_contract (H : Type) (enc : TypeId × Value → H) (W : World) (base : Nat) (args : Array Value) (ds gs : List (DataW H)) (before : List MemPlace)
    (hval : ∀ (j : Nat) t v, Tryd.f3.params[j]? = some t → args[j]? = some v → Value.okWide Tryd.prog W .any base t v)
    (hW : DataW.Whole enc Tryd.prog Tryd.f3.params.toList Rows.bitsWriteSpec.vars false W args.toList ds gs before) (hL : laidMetH Tryd.prog Rows.bitsWriteRow.laid W) (hk : (DataW.weightsEach Tryd.prog (Tryd.f3.params.toList ++ (OpenSpec.ofChange Rows.bitsWriteSpec).bare.plain.varTypes Tryd.prog) (ds ++ gs)).all (· ≤ reachBytes) = true) :
    Calls Tryd.prog 3 args W fun e W' => ∃ v, e = .returned v ∧ Rows.bitsWriteSpec.post enc Tryd.prog Tryd.f3 false true false false W args v W' := by
  have hW' := hW
  obtain ⟨p, q, hA0, hV, rfl, hfz, hnd⟩ := hW
  have hA : DataW.TrodAll enc Tryd.prog W 0 (fun _ => true) true Tryd.f3.params.toList args.toList ds p := hA0
  rw [Tryd.params3] at hA hval hk
  obtain ⟨v0, vs0, d0, ds0, p0, q0, hargs, rfl, rfl, h0, r0⟩ := trodAll_cons hA
  obtain ⟨rfl, rfl, rfl⟩ := trodAll_nil r0
  obtain rfl : args = #[v0] := by cases args; simp_all
  obtain ⟨rfl, rfl⟩ := trodVars_none hV
  obtain ⟨l0, o0⟩ := open_ops (hval 0 22 v0 rfl rfl) h0
  clear hA0
  have hT := tabw_of hL
  refine (write_walk _ _ W o0 hT).mono fun e W' ⟨he, bel⟩ => ?_
  subst he
  exact ⟨_, rfl, _, _, _, [], _, [], hW', trodAll_mk1 (shut_bool Tryd.underlying4 _), (trodAll_cons_mk (back_ops h0 bel) trodAll_mk0), rfl, bel.frame _, fun h => by cases h⟩

theorem write_met (os : Os) : laidMet Tryd.prog Rows.bitsWriteRow.laid ((laidWorld os).forCall (fun _ _ => 0) ⟨#[], #[.slice none 0 0], []⟩).memory :=
  laidMet_of_run' 8 (by kernel_rfl) (by kernel_rfl)
theorem write_reads (os : Os) {H : Type} (enc : TypeId × Value → H) : ∃ places, DataW.whole enc Tryd.prog ((laidWorld os).forCall (fun _ _ => 0) ⟨#[], #[.slice none 0 0], []⟩).memory Tryd.f3.params.toList Rows.bitsWriteSpec.vars false #[Value.slice none 0 0].toList 8 = some ([.nil], [], places) :=
  ⟨[], by kernel_rfl⟩

set_option maxRecDepth 100000 in
theorem write_lifted (os : Os) (started : os.Started) (H : Type) (enc : TypeId × Value → H) (F : Stop.Interp) :
    ReturnsInHanded {} Tryd.checked os 3 .any ((OpenSpec.ofChange Rows.bitsWriteSpec).preRow enc Tryd.prog Tryd.f3 Rows.bitsWriteRow.domain false Rows.bitsWriteRow.laid) (((OpenSpec.ofChange Rows.bitsWriteSpec).at F).post enc Tryd.prog Tryd.f3 false true false false) := by
  obtain ⟨places, hx⟩ := write_reads os enc
  refine returnsInHanded_of_row (C := Tryd.checked) (s := (OpenSpec.ofChange Rows.bitsWriteSpec)) own started (by kernel_rfl) Tryd.func3
    (witness_row_at (enc := enc) (C := Tryd.checked) false (laidWorld os) #[.slice none 0 0] rfl (by kernel_rfl) (by kernel_rfl) (by kernel_rfl)
      (OpenSpec.preRow_of_cond 8 hx (by kernel_rfl) (fun k hk => by cases hk) (by kernel_rfl) (write_met os))) ?_
  intro W base args ds gs before hval hW _ _ hsz hL _ _
  exact write_contract H enc W base args ds gs before hval hW hL hsz

theorem write_said : Rows.BitsWriteSaid :=
  OpenClaim.holds_of_cond 3 Tryd.f3 rfl rfl rfl rfl rfl rfl rfl ⟨rfl, rfl, rfl, rfl, rfl⟩ rfl rfl rfl rfl rfl (by kernel_rfl) Tryd.func3 (by kernel_rfl)
    (of_decide_eq_true (by kernel_rfl)) (by unfold Func.isWrapper; first | (rw [if_pos (by decide +kernel)]; kernel_rfl) | (rw [if_neg (by decide +kernel)]; exact ⟨rfl, rfl⟩))
    (fun os started H enc _ F => by rw [OpenClaim.pre_eq_preRow]; exact write_lifted os started H enc F)

theorem write_intocsinlaw02Op : Tryd.prog.wantsStandIn 22 = false := by kernel_rfl
theorem write_plain (f : FuncId) (fn : Func) (hf : Tryd.pinned.checked.prog.funcNamed "tocsin/tocsinlaw02.BitsWrite" = some f) (hfn : Tryd.pinned.checked.prog.funcs[f]? = some fn) :
    false = Tryd.pinned.checked.prog.looks [] ∧ ∀ (j : Nat) t, fn.params[j]? = some t → Tryd.pinned.checked.prog.wantsStandIn t = false := by
  obtain rfl : f = 3 := Option.some.inj ((show Tryd.prog.funcNamed "tocsin/tocsinlaw02.BitsWrite" = some 3 by kernel_rfl).symm.trans hf) |>.symm
  obtain rfl : fn = Tryd.f3 := (Option.some.inj (Tryd.func3.symm.trans hfn)).symm
  refine ⟨by kernel_rfl, fun j t ht => ?_⟩
  rw [Tryd.params3] at ht
  have hm := Array.mem_of_getElem? ht
  simp only [List.mem_toArray, List.mem_cons, List.not_mem_nil, or_false] at hm
  rcases hm with rfl
  · exact write_intocsinlaw02Op

/-- THE STATEMENT -/
theorem bitsWrite_holds : Rows.BitsWriteCardSaid :=
  Claim7.holds_tied_plain_at .later [] _ _ _ _ write_said (fun _ h => by cases h) (by kernel_rfl) (fun _ h => by cases h) bitsWrite_row_tie rfl ⟨rfl, rfl⟩ (by kernel_rfl) rfl write_plain (by kernel_rfl)
end Go.Proofs.YtgbpnkamamafjabDoor
