/-
  awake: the walk.
-/
import Derived.Test.YtknlnllcpdiglaaDoorLbA6
namespace Go.Proofs.YtknlnllcpdiglaaDoor
open Go.RowKit Go.Shelf

set_option maxRecDepth 8000 in
set_option maxHeartbeats 3200000 in
theorem awakeL_any (w : World) (hT : U8S w) : Calls Tryd.prog 17 #[] w fun e w' => e = .returned (.bool true) ∧ w.grownBy w' none := by
  have HT : Hid (U8S w) := hT
  have HP : Hid (Calls Tryd.prog 35 #[.string (ByteArray.mk #[117, 112, 32, 123, 32, 106, 111, 98, 32, 61, 32, 34, 120, 34, 32, 44, 32, 125])] w fun e w' => ∃ v, e = .returned (.tuple #[v, .int .i64 0, .int .i64 0]) ∧ RdL w' v [(mnB, upB), (jobB, xB)] ∧ w.grownBy w' none) := parse_awake w hT
  have HR : Hid (∀ W v, RdL W v [(mnB, upB), (jobB, xB)] → w.grownBy W none → Calls Tryd.prog 33 #[v] W fun e w' => e = .returned (.tuple #[.string (ByteArray.mk #[117, 112, 123, 106, 111, 98, 61, 34, 120, 34, 125]), .int .i64 0]) ∧ W.grownBy w' none) := fun W v h hW => print_awake W v h (hT.keep hW)
  have HG : Hid (∀ W v, RdL W v [(mnB, upB), (jobB, xB)] → Calls Tryd.prog 21 #[v, .string (ByteArray.mk #[106, 111, 98])] W fun e w' => e = .returned (.string (ByteArray.mk #[120])) ∧ W.grownBy w' none) := fun W v h =>
    get_at W v [(mnB, upB), (jobB, xB)] jobB 1 h (by simp) rfl (fun j hj => by
      have : j = 0 := by omega
      subst this
      decide)
  clear hT
  go_enter Tryd.func17, Tryd.ntmps17
  go_wp2_with fail
  refine HP.out.mono ?_
  rintro e w1 ⟨v, rfl, hr1, hg1⟩
  have H1 : Hid (RdL w1 v [(mnB, upB), (jobB, xB)] ∧ w.grownBy w1 none) := ⟨hr1, hg1⟩
  clear HP hr1 hg1
  go_wp2_with fail
  refine (HR.out _ _ H1.out.1 H1.out.2).mono ?_
  rintro e w2 ⟨rfl, hg2⟩
  have H2 : Hid (RdL w2 v [(mnB, upB), (jobB, xB)] ∧ w.grownBy w2 none) := ⟨H1.out.1.keep hg2, gb_none H1.out.2 hg2⟩
  clear HR H1 hg2
  go_wp2_with fail
  refine (HG.out _ _ H2.out.1).mono ?_
  rintro e w3 ⟨rfl, hg3⟩
  have H3 : Hid (w.grownBy w3 none) := gb_none H2.out.2 hg3
  clear HG H2 hg3
  go_wp2_with fail
  refine (hash_nil _).mono ?_
  rintro e w4 ⟨rfl, hg4⟩
  have H4 : Hid (w.grownBy w4 none) := gb_none H3.out hg4
  clear H3 hg4
  go_wp2
  go_ret
  exact ⟨rfl, H4.out⟩
end Go.Proofs.YtknlnllcpdiglaaDoor
