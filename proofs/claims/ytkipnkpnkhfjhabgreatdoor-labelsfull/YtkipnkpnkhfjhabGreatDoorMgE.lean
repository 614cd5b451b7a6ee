/-
  LbM2, LbA5, LbG, LbQ, LbJ, LbA6, LbA7, in one text.
-/
import Derived.Test.YtkipnkpnkhfjhabGreatDoorLbM
import Derived.Test.YtkipnkpnkhfjhabGreatDoorLbD
import Derived.Test.YtkipnkpnkhfjhabGreatDoorLbP2
import Derived.Test.YtkipnkpnkhfjhabGreatDoorLbA4
import Derived.Test.YtkipnkpnkhfjhabGreatDoorLbL
import Derived.Test.YtkipnkpnkhfjhabGreatDoorLbV
/- LbM2 -/
namespace Go.Proofs.YtkipnkpnkhfjhabGreatDoor
open Go.RowKit Go.Shelf

set_option maxRecDepth 8000 in
set_option maxHeartbeats 3200000 in
theorem made_two (w : World) (v : Value) (x y : LbT) (hv : RdL w v [x, y]) (hlt : ltOf cmpL x y = true) (hne : x.1 ≠ y.1) (hx : x.2 ≠ []) (hy : y.2 ≠ []) (hr : rightS [x, y] = (0, 0)) (hl : LbIn [x, y]) (hT : U8S w) :
    Calls Tryz.prog 40 #[v] w fun e w' => ∃ v', e = .returned (.tuple #[v', .int .i64 0, .int .i64 0]) ∧ RdL w' v' [x, y] ∧ w.grownBy w' none := by
  have HC : Hid (Calls Tryz.prog 36 #[v] w fun e w' => e = .returned (.slice (some ⟨w.heap.size, 0, none⟩) 2 2) ∧ Hid (w'.heap[w.heap.size]? = some (.cells (lbf [x, y]).toArray 70 (0, 0)) ∧ w.grownBy w' none)) := copyOf_any w v [x, y] hv (by simp)
  have HS : Hid (∀ W, W.heap[w.heap.size]? = some (.cells (lbf [x, y]).toArray 70 (0, 0)) → w.grownBy W none → Calls Tryz.prog 58 #[.slice (some ⟨w.heap.size, 0, none⟩) 2 2, .func (.func 50) #[] #[]] W fun e w' => e = .returned (.tuple #[]) ∧ Hid (RdL w' (.slice (some ⟨w.heap.size, 0, none⟩) 2 2) [x, y] ∧ w.grownBy w' none)) := fun W hW hg => by
    have hH := holds_of_block hW
    have hb : w.heap.size < W.heap.size := (Array.getElem?_eq_some_iff.1 hW).1
    refine (sortL_any w.heap.size 0 2 #[x, y] W hH hb (by show 2 < _; omega)).mono ?_
    rintro e w' ⟨rfl, d', n, os, hp, hs, rfl⟩
    have hd := sort_two hp hs hlt
    subst hd
    refine ⟨rfl, rd_of_holds (sortW_holds hH rfl hb) (Nat.le_refl _) (by simp [maxLen]), ?_⟩
    have hg2 := sortW_grown W w.heap.size n #[x, y] os
    exact ⟨hg2.os.trans hg.os, hg2.tape.trans hg.tape, hg2.output.trans hg.output, Nat.le_trans hg.size hg2.size, fun k hk hne => (hg2.block k (by have := hg.size; omega) (by intro e; injection e with e; omega)).trans (hg.block k hk hne)⟩
  have HD : Hid (∀ W, RdL W (.slice (some ⟨w.heap.size, 0, none⟩) 2 2) [x, y] → Calls Tryz.prog 59 #[.slice (some ⟨w.heap.size, 0, none⟩) 2 2, .func (.func 60) #[] #[]] W fun e w' => e = .returned (.slice (some ⟨w.heap.size, 0, none⟩) 2 2) ∧ W.grownBy w' none) := fun W hW =>
    deleteFunc_none W _ [x, y] hW (by simp) (fun j hj => by
      have : j = 0 ∨ j = 1 := by simp at hj; omega
      rcases this with rfl | rfl
      · exact hx
      · exact hy)
  have HR : Hid (∀ W, RdL W (.slice (some ⟨w.heap.size, 0, none⟩) 2 2) [x, y] → U8S W → Calls Tryz.prog 29 #[.slice (some ⟨w.heap.size, 0, none⟩) 2 2] W fun e w' => e = .returned (.tuple #[.int .i64 0, .int .i64 0]) ∧ W.grownBy w' none) := fun W hW hT =>
    (right_any W _ [x, y] hW hl hT).mono fun e w' ⟨h1, h2⟩ => ⟨by rw [h1, hr]; rfl, h2⟩
  have HT : Hid (U8S w) := hT
  have hes : ((ByteArray.mk ⟨y.1⟩).toList == (ByteArray.mk ⟨x.1⟩).toList) = false := by
    rw [ByteArray.toList_eq, ByteArray.toList_eq, beq_eq_false_iff_ne]
    intro e
    exact hne e.symm
  have hes2 : ¬ (ByteArray.mk ⟨y.1⟩).toList = (ByteArray.mk ⟨x.1⟩).toList := by simpa using hes
  clear hv hlt hne hx hy hr hl hT
  go_enter Tryz.func40, Tryz.ntmps40
  go_wp2_with fail
  refine HC.out.mono ?_
  rintro e w1 ⟨rfl, H1⟩
  clear HC
  go_wp2_with fail
  refine (HS.out _ H1.out.1 H1.out.2).mono ?_
  rintro e w2 ⟨rfl, H2⟩
  clear HS H1
  go_wp2
  go_loopw [6] (fun i wr => (i = .int .i64 1 ∨ i = .int .i64 2) ∧ Hid (RdL wr (.slice (some ⟨w.heap.size, 0, none⟩) 2 2) [x, y] ∧ w.grownBy wr none)) (fun i _ => 2 - (intOf i).toNat)
  case atStart => exact ⟨.inl rfl, H2.out⟩
  case round =>
    obtain ⟨hi, hr⟩ := hrel
    rcases hi with rfl | rfl
    · obtain ⟨a', c', he, -, -, h3, -⟩ := hr.out.1
      simp only [Value.slice.injEq] at he
      obtain ⟨rfl, -, rfl⟩ := he
      obtain ⟨b, o, e1, p0, p1⟩ := h3 0 (by simp)
      obtain ⟨b2, o2, e2, q0, q1⟩ := h3 1 (by simp)
      simp only [Option.some.injEq, Addr.mk.injEq] at e1 e2
      obtain ⟨rfl, rfl, -⟩ := e1
      obtain ⟨rfl, rfl, -⟩ := e2
      have p0' : wr.cell? ⟨w.heap.size, 0, none⟩ = some (.string (ByteArray.mk ⟨x.1⟩)) := p0
      have q0' : wr.cell? ⟨w.heap.size, 2, none⟩ = some (.string (ByteArray.mk ⟨y.1⟩)) := q0
      clear p0 p1 q0 q1 h3
      generalize ByteArray.mk ⟨x.1⟩ = sx at *
      generalize ByteArray.mk ⟨y.1⟩ = sy at *
      go_wp2_with fail
      go_region
      go_wp2
      go_roundw
      case rel => exact ⟨.inr rfl, hr.out.1.keep (gb_drew _ none), gb_none hr.out.2 (gb_drew _ none)⟩
      case measure => decide
    · go_wp2_with fail
      refine (HD.out _ hr.out.1).mono ?_
      rintro e w3 ⟨rfl, hg3⟩
      have H3 : Hid (RdL w3 (.slice (some ⟨w.heap.size, 0, none⟩) 2 2) [x, y] ∧ w.grownBy w3 none) := ⟨hr.out.1.keep hg3, gb_none hr.out.2 hg3⟩
      clear HD hr hg3
      go_wp2_with fail
      refine (HR.out _ H3.out.1 (HT.out.keep H3.out.2)).mono ?_
      rintro e w4 ⟨rfl, hg4⟩
      have H4 : Hid (RdL w4 (.slice (some ⟨w.heap.size, 0, none⟩) 2 2) [x, y] ∧ w.grownBy w4 none) := ⟨H3.out.1.keep hg4, gb_none H3.out.2 hg4⟩
      clear HR H3 hg4
      go_wp2
      go_ret3
      exact ⟨_, rfl, H4.out⟩
end Go.Proofs.YtkipnkpnkhfjhabGreatDoor

/- LbA5 -/
namespace Go.Proofs.YtkipnkpnkhfjhabGreatDoor
open Go.RowKit Go.Shelf

theorem awLs_lt : ltOf cmpL (mnB, upB) (jobB, xB) = true := by decide
theorem awLs_in : LbIn [(mnB, upB), (jobB, xB)] := by
  refine ⟨by simp, fun j => ?_⟩
  match j with
  | 0 => exact ⟨by decide, by decide⟩
  | 1 => exact ⟨by decide, by decide⟩
  | j + 2 => exact ⟨by simp, by simp⟩
theorem awLs_right : rightS [(mnB, upB), (jobB, xB)] = (0, 0) := by decide

set_option maxRecDepth 8000 in
set_option maxHeartbeats 3200000 in
theorem parse_awake (w : World) (hT : U8S w) :
    Calls Tryz.prog 25 #[.string (ByteArray.mk ⟨awT⟩)] w fun e w' => ∃ v, e = .returned (.tuple #[v, .int .i64 0, .int .i64 0]) ∧ RdL w' v [(mnB, upB), (jobB, xB)] ∧ w.grownBy w' none := by
  have HT : Hid (U8S w) := hT
  have hz : (ByteArray.mk ⟨awT⟩).size = 18 := rfl
  have HS : Hid (∀ W g, Tx W g awT 0 → Calls Tryz.prog 39 #[.pointer (some ⟨g, 0, none⟩)] W fun e w' => ∃ v, e = .returned (.tuple #[v, .bool true]) ∧ OwnL w' W.heap.size v [(mnB, upB), (jobB, xB)] ∧ W.grownBy w' (some g)) := fun W g h => set_awake W g h
  have HM : Hid (∀ W v, RdL W v [(mnB, upB), (jobB, xB)] → U8S W → Calls Tryz.prog 40 #[v] W fun e w' => ∃ v', e = .returned (.tuple #[v', .int .i64 0, .int .i64 0]) ∧ RdL w' v' [(mnB, upB), (jobB, xB)] ∧ W.grownBy w' none) := fun W v h hT =>
    made_two W v _ _ h awLs_lt (by decide) (by decide) (by decide) awLs_right awLs_in hT
  have HTx : Hid (∀ W : World, Tx (W.alloc (.cells #[.string (ByteArray.mk ⟨awT⟩), .int .i64 0] 82)) W.heap.size awT 0) := fun W => Go.heap_alloc_new W _
  clear hT
  generalize ByteArray.mk ⟨awT⟩ = st at *
  go_enter Tryz.func25, Tryz.ntmps25
  go_wp2_with fail
  refine (HS.out _ _ (HTx.out w)).mono ?_
  rintro e w1 ⟨v1, rfl, ho1, hg1⟩
  have hg2 : w.grownBy w1 none := by
    have ha := World.grownBy_alloc w (.cells #[.string st, .int .i64 0] 82) none
    exact ⟨hg1.os.trans ha.os, hg1.tape.trans ha.tape, hg1.output.trans ha.output, Nat.le_trans ha.size hg1.size, fun k hk hne => (hg1.block k (by have := ha.size; omega) (by intro e; injection e with e; omega)).trans (ha.block k hk hne)⟩
  have H1 : Hid (RdL w1 v1 [(mnB, upB), (jobB, xB)] ∧ w.grownBy w1 none) := ⟨ho1.rd, hg2⟩
  clear HS HTx ho1 hg1 hg2
  go_wp2_with fail
  refine (HM.out _ _ H1.out.1 (HT.out.keep H1.out.2)).mono ?_
  rintro e w2 ⟨v2, rfl, hr2, hg2⟩
  have H2 : Hid (RdL w2 v2 [(mnB, upB), (jobB, xB)] ∧ w.grownBy w2 none) := ⟨hr2, gb_none H1.out.2 hg2⟩
  clear HM H1 hr2 hg2
  go_wp2
  go_ret3
  exact ⟨_, rfl, H2.out⟩
end Go.Proofs.YtkipnkpnkhfjhabGreatDoor

/- LbG -/
namespace Go.Proofs.YtkipnkpnkhfjhabGreatDoor
open Go.RowKit

theorem hash_nil (w : World) : Calls Tryz.prog 28 #[.slice none 0 0] w fun e w' => e = .returned (.int .u64 14695981039346656037) ∧ w.grownBy w' none := by
  go_enter Tryz.func28, Tryz.ntmps28
  go_wp2
  go_loopw [3, 8] (fun h i wr => Hid (wr = w) ∧ h = .int .u64 14695981039346656037 ∧ i = .int .i64 0) (fun _ _ _ => 0)
  case atStart => exact ⟨rfl, rfl, rfl⟩
  case round =>
    obtain ⟨hw, rfl, rfl⟩ := hrel
    have hw := hw.out
    subst hw
    go_wp2
    go_ret
    exact ⟨rfl, gb_refl _ _⟩

set_option maxRecDepth 8000 in
set_option maxHeartbeats 3200000 in
theorem get_at (w : World) (v : Value) (ls : List LbT) (nm : List UInt8) (k : Nat) (hv : RdL w v ls) (hk : k < ls.length) (hK : (ls.getD k ([], [])).1 = nm) (hb : ∀ j, j < k → (ls.getD j ([], [])).1 ≠ nm) :
    Calls Tryz.prog 27 #[v, .string (ByteArray.mk ⟨nm⟩)] w fun e w' => e = .returned (.string (ByteArray.mk ⟨(ls.getD k ([], [])).2⟩)) ∧ w.grownBy w' none := by
  have HV : Hid (RdL w v ls ∧ (ls.getD k ([], [])).1 = nm ∧ ∀ j, j < k → (ls.getD j ([], [])).1 ≠ nm) := ⟨hv, hK, hb⟩
  obtain ⟨a, c, rfl, hc1, hc2, hc3, hc4⟩ := hv
  unfold maxLen at hc2
  clear hc3 hc4 hK hb
  go_enter Tryz.func27, Tryz.ntmps27
  go_wp2
  go_loopw [9] (fun i wr => ∃ z : Nat, z ≤ k ∧ i = .int .i64 z ∧ Hid (w.grownBy wr none)) (fun i _ => ls.length - (intOf i).toNat)
  case atStart => exact ⟨0, by omega, rfl, gb_refl _ _⟩
  case round =>
    obtain ⟨z, hzN, rfl, hr⟩ := hrel
    have hzl : z < ls.length := by omega
    obtain ⟨a', c', he, -, -, h3, -⟩ := HV.out.1.keep hr.out
    simp only [Value.slice.injEq] at he
    obtain ⟨rfl, -, rfl⟩ := he
    obtain ⟨b, o, rfl, c0, c1⟩ := h3 z hzl
    have hzi : (z : Int) < (ls.length : Int) := by omega
    have hbl : ¬ b = wr.heap.size := by have := block_lt c0; omega
    have hbl2 : ¬ wr.heap.size = b := by omega
    clear h3
    by_cases hzk : z = k
    · subst hzk
      have hn := HV.out.2.1
      rw [hn] at c0
      have HE : Hid (∀ C, w.grownBy (wr.alloc C) none) := fun C => gb_none hr.out (World.grownBy_alloc _ _ none)
      clear HV hr hn
      generalize ByteArray.mk ⟨nm⟩ = sn at *
      have HW : Hid (∃ sv, sv = ByteArray.mk ⟨(ls.getD z ([], [])).2⟩) := ⟨_, rfl⟩
      obtain ⟨sv, hsv⟩ := HW.out
      rw [← hsv] at c1
      have HSV : Hid (sv = ByteArray.mk ⟨(ls.getD z ([], [])).2⟩) := hsv
      clear hsv HW
      go_wp2
      go_ret
      exact ⟨by rw [← HSV.out]; rfl, HE.out _⟩
    · have hn := HV.out.2.2 z (by omega)
      have hes : ((ByteArray.mk ⟨(ls.getD z ([], [])).1⟩).toList == (ByteArray.mk ⟨nm⟩).toList) = false := by
        rw [ByteArray.toList_eq, ByteArray.toList_eq, beq_eq_false_iff_ne]
        exact hn
      have hes2 : ¬ (ByteArray.mk ⟨(ls.getD z ([], [])).1⟩).toList = (ByteArray.mk ⟨nm⟩).toList := by simpa using hes
      have HE : Hid (∀ C, w.grownBy (wr.alloc C) none) := fun C => gb_none hr.out (World.grownBy_alloc _ _ none)
      clear hr hn
      generalize ByteArray.mk ⟨nm⟩ = sn at *
      generalize ByteArray.mk ⟨(ls.getD z ([], [])).1⟩ = sz at *
      generalize ByteArray.mk ⟨(ls.getD z ([], [])).2⟩ = sv at *
      go_wp2
      go_roundw
      case rel => exact ⟨z + 1, by omega, by simp, HE.out _⟩
      case measure => simp [intOf]; omega
end Go.Proofs.YtkipnkpnkhfjhabGreatDoor

/- LbQ -/
namespace Go.Proofs.YtkipnkpnkhfjhabGreatDoor
open Go.RowKit

set_option maxRecDepth 8000 in
set_option maxHeartbeats 3200000 in
theorem quoted_plain (w : World) (s : List UInt8) (hs : s.length ≤ 1000000) (hp : ∀ j, j < s.length → (s.getD j 0).toNat ≠ 34 ∧ (s.getD j 0).toNat ≠ 92 ∧ (s.getD j 0).toNat ≠ 10) :
    Calls Tryz.prog 42 #[.string (ByteArray.mk ⟨s⟩)] w fun e w' => e = .returned (.string (ByteArray.mk ⟨34 :: s ++ [34]⟩)) ∧ w.grownBy w' none := by
  have hz : (ByteArray.mk ⟨s⟩).size = s.length := rfl
  have HP : Hid (∀ j, j < s.length → (s.getD j 0).toNat ≠ 34 ∧ (s.getD j 0).toNat ≠ 92 ∧ (s.getD j 0).toNat ≠ 10) := hp
  clear hp
  go_enter Tryz.func42, Tryz.ntmps42
  go_wp2_with fail
  have HB0 : Hid (Bld (w.alloc (.cells #[.pointer none, .slice none 0 0] 104)) w.heap.size w.heap.size [] ∧ w.grownBy (w.alloc (.cells #[.pointer none, .slice none 0 0] 104)) none) :=
    ⟨Lib.fresh_isBuilder 104 5 w, World.grownBy_alloc _ _ _⟩
  generalize w.alloc (.cells #[.pointer none, .slice none 0 0] 104) = W0 at *
  refine (bWriteByte W0 _ _ _ 34 HB0.out.1 (by simp) HB0.out.2.size).mono ?_
  rintro e w1 ⟨rfl, hb1, hl1⟩
  have H1 : Hid (Bld w1 w.heap.size w.heap.size [34] ∧ Below w.heap.size w w1) := ⟨hb1, (gb_below HB0.out.2).trans hl1⟩
  clear hb1 hl1 HB0
  go_wp2
  go_loopw [9] (fun i wr => ∃ j : Nat, j ≤ s.length ∧ i = .int .i64 j ∧ Hid (Bld wr w.heap.size w.heap.size (34 :: s.take j) ∧ Below w.heap.size w wr)) (fun i _ => s.length - (intOf i).toNat)
  case atStart => exact ⟨0, by omega, rfl, by simpa using H1.out.1, H1.out.2⟩
  case round =>
    obtain ⟨j, hj, rfl, hr⟩ := hrel
    by_cases hjl : j < s.length
    · have hbn := byte_at hjl
      have hji : (j : Int) < (s.length : Int) := by omega
      have hc := HP.out j hjl
      have e1 : (((s.getD j 0).toNat : Int) == 34) = false := by rw [beq_eq_false_iff_ne]; omega
      have e2 : (((s.getD j 0).toNat : Int) == 92) = false := by rw [beq_eq_false_iff_ne]; omega
      have e3 : (((s.getD j 0).toNat : Int) == 10) = false := by rw [beq_eq_false_iff_ne]; omega
      have e1' : ¬ ((s.getD j 0).toNat : Int) = 34 := by omega
      have e2' : ¬ ((s.getD j 0).toNat : Int) = 92 := by omega
      have e3' : ¬ ((s.getD j 0).toNat : Int) = 10 := by omega
      have HX : Hid ((34 :: s.take j) ++ [s.getD j 0] = 34 :: s.take (j + 1)) := by
        show (34 :: s.take j) ++ [s.getD j 0] = 34 :: s.take (j + 1)
        rw [List.take_succ_eq_append_getElem hjl]
        have : s.getD j 0 = s[j] := by simp [hjl]
        rw [this]
        rfl
      clear hc
      generalize s.getD j 0 = x at *
      go_wp2_with fail
      refine (bWriteByte wr _ _ _ x hr.out.1 (by simp; omega) hr.out.2.size).mono ?_
      rintro e w2 ⟨rfl, hb2, hl2⟩
      rw [HX.out] at hb2
      have H2 : Hid (Bld w2 w.heap.size w.heap.size (34 :: s.take (j + 1)) ∧ Below w.heap.size w w2) := ⟨hb2, hr.out.2.trans hl2⟩
      clear hb2 hl2 hr
      go_wp2
      go_roundw
      case rel => exact ⟨j + 1, by omega, by simp, H2.out⟩
      case measure => simp [intOf]; omega
    · have hji : ¬ (j : Int) < (s.length : Int) := by omega
      have hjs : s.take j = s := List.take_of_length_le (by omega)
      rw [hjs] at hr
      have HL : Hid (s.length ≤ 1000000) := hs
      clear hjs
      go_wp2_with fail
      refine (bWriteByte wr _ _ _ 34 hr.out.1 (by simp; omega) hr.out.2.size).mono ?_
      rintro e w2 ⟨rfl, hb2, hl2⟩
      have H2 : Hid (Bld w2 w.heap.size w.heap.size (34 :: s ++ [34]) ∧ Below w.heap.size w w2) := ⟨hb2, hr.out.2.trans hl2⟩
      clear hb2 hl2 hr
      go_wp2_with fail
      refine (bString w2 _ _ _ H2.out.1 H2.out.2.size).mono ?_
      rintro e w3 ⟨rfl, hl3⟩
      have H3 : Hid (Below w.heap.size w w3) := H2.out.2.trans hl3
      clear H2 hl3
      go_wp2
      go_ret
      exact ⟨rfl, gb_of_below H3.out⟩
end Go.Proofs.YtkipnkpnkhfjhabGreatDoor

/- LbJ -/
namespace Go.Proofs.YtkipnkpnkhfjhabGreatDoor
open Go.RowKit

set_option maxHeartbeats 1600000 in
theorem join_one (w : World) (b c : Nat) (x sep : ByteArray) (hc : w.cell? ⟨b, 0, none⟩ = some (.string x)) :
    Calls Tryz.prog 43 #[.slice (some ⟨b, 0, none⟩) 1 c, .string sep] w fun e w' => e = .returned (.string x) ∧ w.grownBy w' none := by
  go_enter Tryz.func43, Tryz.ntmps43
  go_wp2
  go_ret
  exact ⟨rfl, by first | exact gb_refl _ _ | exact World.grownBy_alloc _ _ none⟩
end Go.Proofs.YtkipnkpnkhfjhabGreatDoor

/- LbA6 -/
namespace Go.Proofs.YtkipnkpnkhfjhabGreatDoor
open Go.RowKit Go.Shelf

set_option maxRecDepth 8000 in
set_option maxHeartbeats 3200000 in
theorem print_awake (w : World) (v : Value) (hv : RdL w v [(mnB, upB), (jobB, xB)]) (hT : U8S w) :
    Calls Tryz.prog 26 #[v] w fun e w' => e = .returned (.tuple #[.string (ByteArray.mk ⟨[117, 112, 123, 106, 111, 98, 61, 34, 120, 34, 125]⟩), .int .i64 0]) ∧ w.grownBy w' none := by
  have HV : Hid (RdL w v [(mnB, upB), (jobB, xB)] ∧ U8S w) := ⟨hv, hT⟩
  have HR : Hid (Calls Tryz.prog 29 #[v] w fun e w' => e = .returned (.tuple #[.int .i64 0, .int .i64 0]) ∧ Hid (w.grownBy w' none)) :=
    (right_any w v _ hv awLs_in hT).mono fun e w' ⟨h1, h2⟩ => ⟨by rw [h1, awLs_right]; rfl, h2⟩
  have HG : Hid (∀ W, w.grownBy W none → Calls Tryz.prog 27 #[v, .string (ByteArray.mk ⟨mnB⟩)] W fun e w' => e = .returned (.string (ByteArray.mk ⟨upB⟩)) ∧ Hid (w.grownBy w' none)) := fun W hW =>
    (get_at W v [(mnB, upB), (jobB, xB)] mnB 0 (hv.keep hW) (by simp) rfl (fun j hj => by omega)).mono fun e w' ⟨h1, h2⟩ => ⟨h1, gb_none hW h2⟩
  have HM : Hid (∀ W, w.grownBy W none → Calls Tryz.prog 41 #[.string (ByteArray.mk ⟨upB⟩)] W fun e w' => e = .returned (.bool true) ∧ Hid (w.grownBy w' none)) := fun W hW =>
    (metric_any W upB (by decide)).mono fun e w' ⟨h1, h2⟩ => ⟨by rw [h1, show metricB upB = true by decide], gb_none hW h2⟩
  have HQ : Hid (∀ W, Calls Tryz.prog 42 #[.string (ByteArray.mk ⟨xB⟩)] W fun e w' => e = .returned (.string (ByteArray.mk ⟨[34, 120, 34]⟩)) ∧ W.grownBy w' none) := fun W =>
    quoted_plain W xB (by decide) (fun j hj => by
      have : j = 0 := by simp [xB] at hj; exact hj
      subst this
      decide)
  obtain ⟨a, c, rfl, hc1, hc2, -, -⟩ := hv
  unfold maxLen at hc2
  clear hT
  have f1 : ((ByteArray.mk #[106, 111, 98]).toList == (ByteArray.mk #[95, 95, 110, 97, 109, 101, 95, 95]).toList) = false := by rw [ByteArray.toList_eq, ByteArray.toList_eq]; decide
  have f1' : ¬ (ByteArray.mk #[106, 111, 98]).toList = (ByteArray.mk #[95, 95, 110, 97, 109, 101, 95, 95]).toList := by rw [ByteArray.toList_eq, ByteArray.toList_eq]; decide
  have f2 : (ByteArray.mk #[117, 112]).toList.isEmpty = false := by rw [ByteArray.toList_eq]; decide
  have f2' : ¬ (ByteArray.mk #[117, 112]).toList = [] := by rw [ByteArray.toList_eq]; decide
  go_enter Tryz.func26, Tryz.ntmps26
  go_wp2_with fail
  refine HR.out.mono ?_
  rintro e w1 ⟨rfl, H1⟩
  clear HR
  go_wp2_with fail
  refine (HG.out _ H1.out).mono ?_
  rintro e w2 ⟨rfl, H2⟩
  clear HG H1
  go_wp2_with fail
  refine (HM.out _ H2.out).mono ?_
  rintro e w3 ⟨rfl, H3⟩
  clear HM H2
  go_wp2
  go_loopw [7, 25] (fun u i wr => Hid (w.grownBy wr none) ∧ ((i = .int .i64 0 ∧ u = .slice none 0 0) ∨ (i = .int .i64 1 ∧ u = .slice none 0 0) ∨ (i = .int .i64 2 ∧ ∃ b cp, u = .slice (some ⟨b, 0, none⟩) 1 cp ∧ wr.cell? ⟨b, 0, none⟩ = some (.string (ByteArray.mk ⟨[106, 111, 98, 61, 34, 120, 34]⟩))))) (fun _ i _ => 2 - (intOf i).toNat)
  case atStart => exact ⟨H3.out, .inl ⟨rfl, rfl⟩⟩
  case round =>
    obtain ⟨hr, hi⟩ := hrel
    obtain ⟨a', c', he, -, -, h3, -⟩ := HV.out.1.keep hr.out
    simp only [Value.slice.injEq] at he
    obtain ⟨rfl, -, rfl⟩ := he
    rcases hi with ⟨rfl, rfl⟩ | ⟨rfl, rfl⟩ | ⟨rfl, b, cp, rfl, hcell⟩
    · obtain ⟨b, o, rfl, c0, c1⟩ := h3 0 (by simp)
      replace c0 : wr.cell? ⟨b, o, none⟩ = some (.string (ByteArray.mk #[95, 95, 110, 97, 109, 101, 95, 95])) := c0
      replace c1 : wr.cell? ⟨b, o + 1, none⟩ = some (.string (ByteArray.mk #[117, 112])) := c1
      have HE : Hid (∀ C, w.grownBy (wr.alloc C) none) := fun C => gb_none hr.out (World.grownBy_alloc _ _ none)
      have hbl : ¬ b = wr.heap.size := by have := block_lt c0; omega
      have hbl2 : ¬ wr.heap.size = b := by omega
      clear h3 hr
      go_wp2
      go_roundw
      case rel => exact ⟨HE.out _, .inr (.inl ⟨rfl, rfl⟩)⟩
      case measure => decide
    · obtain ⟨b, o, rfl, c0, c1⟩ := h3 1 (by simp)
      replace c0 : wr.cell? ⟨b, o + 2, none⟩ = some (.string (ByteArray.mk #[106, 111, 98])) := c0
      replace c1 : wr.cell? ⟨b, o + 2 + 1, none⟩ = some (.string (ByteArray.mk #[120])) := c1
      have hbl : ¬ b = wr.heap.size := by have := block_lt c0; omega
      have hbl2 : ¬ wr.heap.size = b := by omega
      clear h3
      go_wp2
      have hb1 := Go.heap_alloc_new wr (.cells #[.string (ByteArray.mk #[106, 111, 98]), .string (ByteArray.mk #[120])] 70)
      have HW1 : Hid (w.grownBy (wr.alloc (.cells #[.string (ByteArray.mk #[106, 111, 98]), .string (ByteArray.mk #[120])] 70)) none) := gb_none hr.out (World.grownBy_alloc _ _ none)
      clear c0 c1 hr
      generalize wr.alloc (.cells #[.string (ByteArray.mk #[106, 111, 98]), .string (ByteArray.mk #[120])] 70) = W1 at *
      have q0 : W1.cell? ⟨wr.heap.size, 0, none⟩ = some (.string (ByteArray.mk #[106, 111, 98])) := by rw [World.cell?, hb1]; rfl
      have q1 : W1.cell? ⟨wr.heap.size, 1, none⟩ = some (.string (ByteArray.mk #[120])) := by rw [World.cell?, hb1]; rfl
      clear hb1
      generalize wr.heap.size = b1 at *
      have HQ2 : Hid (∀ W, (W.cell? ⟨b1, 0, none⟩ = some (.string (ByteArray.mk #[106, 111, 98])) ∧ W.cell? ⟨b1, 1, none⟩ = some (.string (ByteArray.mk #[120]))) → w.grownBy W none → Calls Tryz.prog 42 #[.string (ByteArray.mk #[120])] W fun e w' => e = .returned (.string (ByteArray.mk #[34, 120, 34])) ∧ w'.cell? ⟨b1, 0, none⟩ = some (.string (ByteArray.mk #[106, 111, 98])) ∧ w'.cell? ⟨b1, 1, none⟩ = some (.string (ByteArray.mk #[120])) ∧ Hid (w.grownBy w' none)) := fun W hS hW =>
        (HQ.out W).mono fun e w' ⟨h1, h2⟩ => ⟨h1, (World.cell?_of_block (h2.block b1 (block_lt hS.1) (by simp))).trans hS.1, (World.cell?_of_block (h2.block b1 (block_lt hS.2) (by simp))).trans hS.2, gb_none hW h2⟩
      clear HQ
      go_region_held3 (fun w' => w'.cell? ⟨b1, 0, none⟩ = some (.string (ByteArray.mk #[106, 111, 98])) ∧ w'.cell? ⟨b1, 1, none⟩ = some (.string (ByteArray.mk #[120]))) (go_keep)
        (first | (go_at_call 42; refine (HQ2.out _ (by first | exact ⟨q0, q1⟩ | assumption) (by first | exact HW1.out | exact gb_none HW1.out (gb_drew _ none))).mono ?_; rintro e w2 ⟨rfl, d0, d1, H2⟩))
      have HZ : Hid (∀ (A : Obj) (cs : Array Value) (t : TypeId), w.grownBy ((w2.alloc A).alloc (.cells (#[.string (ByteArray.mk #[106, 111, 98] ++ ByteArray.mk #[61] ++ ByteArray.mk #[34, 120, 34])] ++ cs) t)).drew none ∧ ((w2.alloc A).alloc (.cells (#[.string (ByteArray.mk #[106, 111, 98] ++ ByteArray.mk #[61] ++ ByteArray.mk #[34, 120, 34])] ++ cs) t)).drew.cell? ⟨w2.heap.size + 1, 0, none⟩ = some (.string (ByteArray.mk ⟨[106, 111, 98, 61, 34, 120, 34]⟩))) := fun A cs t => by
        refine ⟨gb_none (gb_none (gb_none H2.out (World.grownBy_alloc _ _ none)) (World.grownBy_alloc _ _ none)) (gb_drew _ none), ?_⟩
        have hn := Go.heap_alloc_new (w2.alloc A) (.cells (#[.string (ByteArray.mk #[106, 111, 98] ++ ByteArray.mk #[61] ++ ByteArray.mk #[34, 120, 34])] ++ cs) t)
        have hsz : (w2.alloc A).heap.size = w2.heap.size + 1 := by simp
        rw [hsz] at hn
        show ((w2.alloc A).alloc (.cells (#[.string (ByteArray.mk #[106, 111, 98] ++ ByteArray.mk #[61] ++ ByteArray.mk #[34, 120, 34])] ++ cs) t)).cell? ⟨w2.heap.size + 1, 0, none⟩ = _
        simp only [World.cell?, hn]
        rw [Array.getElem?_append_left (by simp)]
        have hx : ByteArray.mk #[106, 111, 98] ++ ByteArray.mk #[61] ++ ByteArray.mk #[34, 120, 34] = ByteArray.mk ⟨[106, 111, 98, 61, 34, 120, 34]⟩ := by rfl
        rw [hx]
        rfl
      go_wp2
      go_roundw
      case rel => exact ⟨(HZ.out _ _ _).1, .inr (.inr ⟨rfl, _, _, rfl, (HZ.out _ _ _).2⟩)⟩
      case measure => decide
    · clear h3
      go_wp2_with fail
      have HJ : Hid (Calls Tryz.prog 43 #[.slice (some ⟨b, 0, none⟩) 1 cp, .string (ByteArray.mk #[44])] wr fun e w' => e = .returned (.string (ByteArray.mk #[106, 111, 98, 61, 34, 120, 34])) ∧ Hid (w.grownBy w' none)) :=
        (join_one wr b cp _ _ hcell).mono fun e w' ⟨h1, h2⟩ => ⟨h1, gb_none hr.out h2⟩
      refine HJ.out.mono ?_
      rintro e w4 ⟨rfl, H4⟩
      clear HJ hcell hr
      go_wp2
      go_ret2
      exact ⟨rfl, H4.out⟩
end Go.Proofs.YtkipnkpnkhfjhabGreatDoor

/- LbA7 -/
namespace Go.Proofs.YtkipnkpnkhfjhabGreatDoor
open Go.RowKit Go.Shelf

set_option maxRecDepth 8000 in
set_option maxHeartbeats 3200000 in
theorem awakeL_any (w : World) (hT : U8S w) : Calls Tryz.prog 9 #[] w fun e w' => e = .returned (.bool true) ∧ w.grownBy w' none := by
  have HT : Hid (U8S w) := hT
  have HP : Hid (Calls Tryz.prog 25 #[.string (ByteArray.mk #[117, 112, 32, 123, 32, 106, 111, 98, 32, 61, 32, 34, 120, 34, 32, 44, 32, 125])] w fun e w' => ∃ v, e = .returned (.tuple #[v, .int .i64 0, .int .i64 0]) ∧ RdL w' v [(mnB, upB), (jobB, xB)] ∧ w.grownBy w' none) := parse_awake w hT
  have HR : Hid (∀ W v, RdL W v [(mnB, upB), (jobB, xB)] → w.grownBy W none → Calls Tryz.prog 26 #[v] W fun e w' => e = .returned (.tuple #[.string (ByteArray.mk #[117, 112, 123, 106, 111, 98, 61, 34, 120, 34, 125]), .int .i64 0]) ∧ W.grownBy w' none) := fun W v h hW => print_awake W v h (hT.keep hW)
  have HG : Hid (∀ W v, RdL W v [(mnB, upB), (jobB, xB)] → Calls Tryz.prog 27 #[v, .string (ByteArray.mk #[106, 111, 98])] W fun e w' => e = .returned (.string (ByteArray.mk #[120])) ∧ W.grownBy w' none) := fun W v h =>
    get_at W v [(mnB, upB), (jobB, xB)] jobB 1 h (by simp) rfl (fun j hj => by
      have : j = 0 := by omega
      subst this
      decide)
  clear hT
  go_enter Tryz.func9, Tryz.ntmps9
  go_wp2_with fail
  refine HP.out.mono ?_
  rintro e w1 ⟨v, rfl, hr1, hg1⟩
  have H1 : Hid (RdL w1 v [(mnB, upB), (jobB, xB)] ∧ w.grownBy w1 none) := ⟨hr1, hg1⟩
  clear HP hr1 hg1
  go_wp2_with fail
  refine (HR.out _ _ H1.out.1 H1.out.2).mono ?_
  rintro e w2 ⟨rfl, hg2⟩
  have H2 : Hid (RdL w2 v [(mnB, upB), (jobB, xB)] ∧ w.grownBy w2 none) := ⟨H1.out.1.keep hg2, gb_none H1.out.2 hg2⟩
  clear HR H1 hg2
  go_wp2_with fail
  refine (HG.out _ _ H2.out.1).mono ?_
  rintro e w3 ⟨rfl, hg3⟩
  have H3 : Hid (w.grownBy w3 none) := gb_none H2.out.2 hg3
  clear HG H2 hg3
  go_wp2_with fail
  refine (hash_nil _).mono ?_
  rintro e w4 ⟨rfl, hg4⟩
  have H4 : Hid (w.grownBy w4 none) := gb_none H3.out hg4
  clear H3 hg4
  go_wp2
  go_ret
  exact ⟨rfl, H4.out⟩
end Go.Proofs.YtkipnkpnkhfjhabGreatDoor
