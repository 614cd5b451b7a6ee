/-
  The law's own fixed calls: the walk.
-/
import Derived.Test.YtbnieljkadcaoabGreatDoorNfh
namespace Go.Proofs.YtbnieljkadcaoabGreatDoor
open Go.RowKit Go.Shelf Go.Sort

set_option maxHeartbeats 1600000 in
theorem newN_any (w : World) : Calls Tryz.prog 5 #[] w fun e w' => e = .returned (.pointer (some ⟨w.heap.size, 0, none⟩)) ∧ LgN w' w.heap.size ∧ w.grownBy w' none := by
  have HF : Hid (LgN (w.alloc (.cells #[.slice none 0 0] 57)) w.heap.size ∧ w.grownBy (w.alloc (.cells #[.slice none 0 0] 57)) none) := ⟨Boxed.new w 57 (.slice none 0 0), World.grownBy_alloc _ _ none⟩
  go_enter Tryz.func5, Tryz.ntmps5
  go_wp2
  go_ret
  exact ⟨rfl, HF.out⟩
def awA : List (List LbT) := [[([97], [49])]]
def awM : MkR := ⟨[116, 101, 97, 109], [107], 100, awA, []⟩
theorem aw0 : needsM (getM [] ([116, 101, 97, 109], [107])).1 (hasM [] ([116, 101, 97, 109], [107])) 100 50 awA [] = (true, 0) := by decide +kernel
theorem aw1 : rightM awM = 0 := by decide +kernel
theorem aw2 : needsM awM true 120 50 awA [] = (false, 0) := by decide +kernel
theorem aw3 : needsM awM true 150 50 awA [] = (true, 0) := by decide +kernel
theorem awG (f s : Value) : getM [(awM, f, s)] ([116, 101, 97, 109], [107]) = (awM, f, s) ∧ hasM [(awM, f, s)] ([116, 101, 97, 109], [107]) = true := by
  constructor
  · simp [getM, keyX, awM]
  · simp [hasM, keyX, awM]
theorem awI : LLIn awA ∧ LLIn ([] : List (List LbT)) := by
  refine ⟨⟨by decide, fun j => ?_⟩, by simp, fun j => by simpa using LbIn.nil⟩
  match j with
  | 0 =>
    refine ⟨by decide, fun i => ?_⟩
    match i with
    | 0 => exact ⟨by decide, by decide⟩
    | i + 1 => exact ⟨by simp [awA], by simp [awA]⟩
  | j + 1 => simpa [awA] using LbIn.nil
/-- the law's own label set in memory -/
structure AwL (W : World) (b : Nat) : Prop where
  lab : W.heap[b]? = some (.cells #[.string ⟨#[97]⟩, .string ⟨#[49]⟩] 65 (0, 0))
  row : W.heap[b + 1]? = some (.cells #[.slice (some ⟨b, 0, none⟩) 1 1] 25 (0, 0))
theorem AwL.keep {W W' : World} {b : Nat} {g : Option Nat} (h : AwL W b) (hg : W.grownBy W' g) (h0 : g ≠ some b) (h1 : g ≠ some (b + 1)) : AwL W' b := ⟨(hg.block _ (some_lt h.lab) (fun e => h0 e.symm)).trans h.lab, (hg.block _ (some_lt h.row) (fun e => h1 e.symm)).trans h.row⟩
theorem AwL.rd {W : World} {b : Nat} (h : AwL W b) : RdLL W (.slice (some ⟨b + 1, 0, none⟩) 1 1) awA := by
  refine ⟨[.slice (some ⟨b, 0, none⟩) 1 1], ⟨_, 1, rfl, Nat.le_refl _, by unfold maxLen; omega, fun j hj => ⟨b + 1, 0, rfl, ?_⟩, fun e => by cases e⟩, rfl, fun j => ?_⟩
  · have : j = 0 := by simp at hj; omega
    subst this
    simp [World.cell?, h.row]
  · match j with
    | 0 =>
      refine ⟨_, 1, rfl, Nat.le_refl _, by unfold maxLen; omega, fun i hi => ⟨b, 0, rfl, ?_⟩, fun e => by cases e⟩
      have hi0 : i = 0 := by simp [awA] at hi; omega
      subst hi0
      exact ⟨by simp [World.cell?, h.lab, awA], by simp [World.cell?, h.lab, awA]⟩
    | j + 1 => simpa [awA] using RdL.nil W
set_option maxRecDepth 8000 in
set_option maxHeartbeats 6400000 in
theorem awakeN_any (w : World) (hT : U8S w) : Calls Tryz.prog 10 #[] w fun e w' => e = .returned (.bool true) ∧ w.grownBy w' none := by
  have HT := hidJ hT
  clear hT
  have HNw := hidJ (newN_any w)
  obtain ⟨gx, hgx⟩ : ∃ gx, w.heap.size = gx := ⟨_, rfl⟩
  rw [hgx] at HNw
  have HGX := hidJ hgx
  clear hgx
  go_enter Tryz.func10, Tryz.ntmps10
  go_wp2_with fail
  refine HNw.out.mono ?_
  rintro e w1 ⟨rfl, H1⟩
  have H1 := hidJ H1
  clear HNw
  have k1 := World.grownBy_alloc w1 (.cells #[.string ⟨#[97]⟩, .string ⟨#[49]⟩] 65) none
  have k2 := World.grownBy_alloc (w1.alloc (.cells #[.string ⟨#[97]⟩, .string ⟨#[49]⟩] 65)) (.cells #[.slice (some ⟨w1.heap.size, 0, none⟩) 1 1] 25) none
  have hA : AwL ((w1.alloc (.cells #[.string ⟨#[97]⟩, .string ⟨#[49]⟩] 65)).alloc (.cells #[.slice (some ⟨w1.heap.size, 0, none⟩) 1 1] 25)) w1.heap.size := by
    have e1 := (k2.block w1.heap.size (by simp) (by simp)).trans (Go.heap_alloc_new w1 (.cells #[.string ⟨#[97]⟩, .string ⟨#[49]⟩] 65))
    have e2 := Go.heap_alloc_new (w1.alloc (.cells #[.string ⟨#[97]⟩, .string ⟨#[49]⟩] 65)) (.cells #[.slice (some ⟨w1.heap.size, 0, none⟩) 1 1] 25)
    rw [World.size_alloc] at e2
    exact ⟨e1, e2⟩
  have H2 : Hid (AwL ((w1.alloc (.cells #[.string ⟨#[97]⟩, .string ⟨#[49]⟩] 65)).alloc (.cells #[.slice (some ⟨w1.heap.size, 0, none⟩) 1 1] 25)) w1.heap.size ∧ w.grownBy ((w1.alloc (.cells #[.string ⟨#[97]⟩, .string ⟨#[49]⟩] 65)).alloc (.cells #[.slice (some ⟨w1.heap.size, 0, none⟩) 1 1] 25)) none ∧ LgN ((w1.alloc (.cells #[.string ⟨#[97]⟩, .string ⟨#[49]⟩] 65)).alloc (.cells #[.slice (some ⟨w1.heap.size, 0, none⟩) 1 1] 25)) gx ∧ gx < w1.heap.size) := ⟨hA, gb_none H1.out.2 (gb_none k1 k2), H1.out.1.keep (gb_none k1 k2), block_lt (Boxed.cell H1.out.1)⟩
  clear k1 k2 hA
  have hT2 := HT.out.keep H2.out.2.1
  have HN := hidJ (logNeeds_any _ gx [] [116, 101, 97, 109] [107] _ _ 100 50 awA [] H2.out.2.2.1.lg H2.out.1.rd (RdLL.nil _) awI.1 awI.2 hT2)
  rw [aw0] at HN
  clear hT2
  generalize hW2 : ((w1.alloc (.cells #[.string ⟨#[97]⟩, .string ⟨#[49]⟩] 65)).alloc (.cells #[.slice (some ⟨w1.heap.size, 0, none⟩) 1 1] 25)) = W2 at *
  unfold nilV at HN
  go_wp2_with fail
  clear hW2
  refine HN.out.mono ?_
  rintro e w3 ⟨rfl, g3⟩
  clear HN
  have hA3 := H2.out.1.keep g3 (by simp) (by simp)
  have hg3 := gb_none H2.out.2.1 g3
  have HP := hidJ (putL_any w3 gx awM _ _ (H2.out.2.2.1.keep g3) ⟨hA3.rd, RdLL.nil _, awI.1, awI.2, by decide, by decide⟩ (HT.out.keep hg3))
  rw [aw1] at HP
  have H3 := hidJ (And.intro hA3 (And.intro hg3 H2.out.2.2.2))
  clear hA3 hg3 g3 H2
  generalize hbb : w1.heap.size = bb at *
  clear hbb
  unfold markV nilV at HP
  dsimp only [awM] at HP
  go_wp2_with fail
  refine HP.out.mono ?_
  rintro e w4 ⟨rfl, g4, g5, -⟩
  obtain ⟨f', s', hL4⟩ := g5 (by first | rfl | trivial)
  clear HP g5
  have hA4 := H3.out.1.keep g4 (by have := H3.out.2.2; simp; omega) (by have := H3.out.2.2; simp; omega)
  have hg4 : w.grownBy w4 none := gb_new H3.out.2.1 g4 (fun k hk => by have := HGX.out; cases hk; omega)
  have HN := hidJ (logNeeds_any w4 gx _ [116, 101, 97, 109] [107] _ _ 120 50 awA [] hL4 hA4.rd (RdLL.nil _) awI.1 awI.2 (HT.out.keep hg4))
  have HH := hidJ (awG f' s')
  have HN2 : Hid (∀ W, w4.grownBy W none → Calls Tryz.prog 12 #[.pointer (some ⟨gx, 0, none⟩), .string (ByteArray.mk ⟨[116, 101, 97, 109]⟩), .string (ByteArray.mk ⟨[107]⟩), .int .i64 150, .int .i64 50, .slice (some ⟨bb + 1, 0, none⟩) 1 1, nilV] W fun e w' => e = .returned (.tuple #[.bool true, .int .i64 0]) ∧ W.grownBy w' none) := fun W hW => by
    have h := logNeeds_any W gx _ [116, 101, 97, 109] [107] _ _ 150 50 awA [] (hL4.keep hW) (hA4.rd.keep hW) (RdLL.nil _) awI.1 awI.2 ((HT.out.keep hg4).keep hW)
    change Calls _ _ _ _ _ at h
    have e1 : (getM [(awM, f', s')] ([116, 101, 97, 109], [107])).1 = awM := by rw [HH.out.1]
    have e2 : needsM (getM [({ rcv := [116, 101, 97, 109], key := [107], tim := 100, fir := awA, res := [] }, f', s')] ([116, 101, 97, 109], [107])).1 (hasM [({ rcv := [116, 101, 97, 109], key := [107], tim := 100, fir := awA, res := [] }, f', s')] ([116, 101, 97, 109], [107])) 150 50 awA [] = (true, 0) := by
      have := HH.out
      unfold awM at this e1
      rw [this.2, e1]
      exact aw3
    first
      | (rw [e2] at h; exact h)
      | (unfold awM at h; rw [e2] at h; exact h)
  have e2 : needsM (getM [({ rcv := [116, 101, 97, 109], key := [107], tim := 100, fir := awA, res := [] }, f', s')] ([116, 101, 97, 109], [107])).1 (hasM [({ rcv := [116, 101, 97, 109], key := [107], tim := 100, fir := awA, res := [] }, f', s')] ([116, 101, 97, 109], [107])) 120 50 awA [] = (false, 0) := by
    have := HH.out
    have e1 : (getM [(awM, f', s')] ([116, 101, 97, 109], [107])).1 = awM := by rw [HH.out.1]
    unfold awM at this e1
    rw [this.2, e1]
    exact aw2
  rw [e2] at HN
  have H4 := hidJ hg4
  clear hA4 hg4 hL4 g4 H3 e2 HH
  unfold nilV at HN HN2
  go_wp2_with fail
  refine HN.out.mono ?_
  rintro e w5 ⟨rfl, g5⟩
  clear HN
  have H5 := hidJ g5
  clear g5
  go_wp2_with fail
  refine (HN2.out _ H5.out).mono ?_
  rintro e w6 ⟨rfl, g6⟩
  have H6 := hidJ (gb_none (gb_none H4.out H5.out) g6)
  clear HN2 g6
  go_wp2
  go_ret
  exact ⟨rfl, H6.out⟩
end Go.Proofs.YtbnieljkadcaoabGreatDoor
