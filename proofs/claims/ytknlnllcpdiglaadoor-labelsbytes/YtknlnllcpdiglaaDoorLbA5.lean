/-
  The text that awake reads: Parse: the walk.
-/
import Derived.Test.YtknlnllcpdiglaaDoorLbA4
import Derived.Test.YtknlnllcpdiglaaDoorLbM2
namespace Go.Proofs.YtknlnllcpdiglaaDoor
open Go.RowKit Go.Shelf

theorem awLs_lt : ltOf cmpL (mnB, upB) (jobB, xB) = true := by decide
theorem awLs_in : LbIn [(mnB, upB), (jobB, xB)] := by
  refine ⟨by simp, fun j => ?_⟩
  match j with
  | 0 => exact ⟨by decide, by decide⟩
  | 1 => exact ⟨by decide, by decide⟩
  | j + 2 => exact ⟨by simp, by simp⟩
theorem awLs_right : rightS [(mnB, upB), (jobB, xB)] = (0, 0) := by decide

set_option maxRecDepth 8000 in
set_option maxHeartbeats 3200000 in
theorem parse_awake (w : World) (hT : U8S w) :
    Calls Tryd.prog 35 #[.string (ByteArray.mk ⟨awT⟩)] w fun e w' => ∃ v, e = .returned (.tuple #[v, .int .i64 0, .int .i64 0]) ∧ RdL w' v [(mnB, upB), (jobB, xB)] ∧ w.grownBy w' none := by
  have HT : Hid (U8S w) := hT
  have hz : (ByteArray.mk ⟨awT⟩).size = 18 := rfl
  have HS : Hid (∀ W g, Tx W g awT 0 → Calls Tryd.prog 67 #[.pointer (some ⟨g, 0, none⟩)] W fun e w' => ∃ v, e = .returned (.tuple #[v, .bool true]) ∧ OwnL w' W.heap.size v [(mnB, upB), (jobB, xB)] ∧ W.grownBy w' (some g)) := fun W g h => set_awake W g h
  have HM : Hid (∀ W v, RdL W v [(mnB, upB), (jobB, xB)] → U8S W → Calls Tryd.prog 48 #[v] W fun e w' => ∃ v', e = .returned (.tuple #[v', .int .i64 0, .int .i64 0]) ∧ RdL w' v' [(mnB, upB), (jobB, xB)] ∧ W.grownBy w' none) := fun W v h hT =>
    made_two W v _ _ h awLs_lt (by decide) (by decide) (by decide) awLs_right awLs_in hT
  have HTx : Hid (∀ W : World, Tx (W.alloc (.cells #[.string (ByteArray.mk ⟨awT⟩), .int .i64 0] 77)) W.heap.size awT 0) := fun W => Go.heap_alloc_new W _
  clear hT
  generalize ByteArray.mk ⟨awT⟩ = st at *
  go_enter Tryd.func35, Tryd.ntmps35
  go_wp2_with fail
  refine (HS.out _ _ (HTx.out w)).mono ?_
  rintro e w1 ⟨v1, rfl, ho1, hg1⟩
  have hg2 : w.grownBy w1 none := by
    have ha := World.grownBy_alloc w (.cells #[.string st, .int .i64 0] 77) none
    exact ⟨hg1.os.trans ha.os, hg1.tape.trans ha.tape, hg1.output.trans ha.output, Nat.le_trans ha.size hg1.size, fun k hk hne => (hg1.block k (by have := ha.size; omega) (by intro e; injection e with e; omega)).trans (ha.block k hk hne)⟩
  have H1 : Hid (RdL w1 v1 [(mnB, upB), (jobB, xB)] ∧ w.grownBy w1 none) := ⟨ho1.rd, hg2⟩
  clear HS HTx ho1 hg1 hg2
  go_wp2_with fail
  refine (HM.out _ _ H1.out.1 (HT.out.keep H1.out.2)).mono ?_
  rintro e w2 ⟨v2, rfl, hr2, hg2⟩
  have H2 : Hid (RdL w2 v2 [(mnB, upB), (jobB, xB)] ∧ w.grownBy w2 none) := ⟨hr2, gb_none H1.out.2 hg2⟩
  clear HM H1 hr2 hg2
  go_wp2
  go_ret3
  exact ⟨_, rfl, H2.out⟩
end Go.Proofs.YtknlnllcpdiglaaDoor
