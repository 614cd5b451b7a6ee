/-
  Nh2, Nh3, Nh4, Nh5, Nh6, in one text.
-/
import Derived.Test.YtpglhdnepmcahaaGreatDoorVmG
import Derived.Test.YtpglhdnepmcahaaGreatDoorVmE
import Derived.Test.YtpglhdnepmcahaaGreatDoorNfX
import Derived.Test.YtpglhdnepmcahaaGreatDoorNmD
/- Nh2 -/
namespace Go.Proofs.YtpglhdnepmcahaaGreatDoor
open Go.RowKit Go.Shelf

theorem set_at3 {W : World} {g : Nat} {t : TypeId} {a b c y z : Value} (h : B3 W g t a b c) : B3 ((W.setCell ⟨g, 1, none⟩ y).setCell ⟨g, 2, none⟩ z) g t a y z := by
  have h0 := heap_setCell_same W g 1 _ _ y h
  have h1 := heap_setCell_same _ g 2 _ _ z h0
  simpa [B3] using h1
/-- a reader at gr, behind w0: the record, the place, the fault -/
structure RS (w0 W : World) (gr : Nat) (vb : Value) (p f : Int) : Prop where
  gb : w0.grownBy W none
  box : B3 W gr 108 vb (.int .i64 p) (.int .i64 f)
  hi : w0.heap.size ≤ gr
theorem RS.keep {w0 W W' : World} {gr : Nat} {vb : Value} {p f : Int} (h : RS w0 W gr vb p f) (hg : W.grownBy W' none) : RS w0 W' gr vb p f := ⟨gb_none h.gb hg, h.box.keep hg, h.hi⟩
theorem RS.far {w0 W W' : World} {gr : Nat} {vb : Value} {p f : Int} {S : Nat → Prop} (h : RS w0 W gr vb p f) (hc : Ch W W' S) (hs : ∀ k, S k → w0.heap.size ≤ k ∧ k ≠ gr) : RS w0 W' gr vb p f := ⟨gb_ch h.gb hc (fun k hk => (hs k hk).1), h.box.ch hc (fun e => (hs gr e).2 rfl), h.hi⟩
theorem RS.set {w0 W W2 : World} {gr : Nat} {vb : Value} {p f : Int} (h : RS w0 W gr vb p f) (hg : W.grownBy W2 none) (p' f' : Int) : RS w0 ((W2.setCell ⟨gr, 1, none⟩ (.int .i64 p')).setCell ⟨gr, 2, none⟩ (.int .i64 f')) gr vb p' f' ∧ W.grownBy ((W2.setCell ⟨gr, 1, none⟩ (.int .i64 p')).setCell ⟨gr, 2, none⟩ (.int .i64 f')) (some gr) := by
  have hk := h.keep hg
  have g1 := gbs W2 gr 1 (.int .i64 p')
  have g2 := gbs (W2.setCell ⟨gr, 1, none⟩ (.int .i64 p')) gr 2 (.int .i64 f')
  have g3 := gb_trans g1 g2 (fun k hk _ => hk.symm)
  exact ⟨⟨gb_new hk.gb g3 (fun k e => by cases e; exact h.hi), set_at3 hk.box, h.hi⟩, gb_trans (gb_any hg _) g3 (fun k hk _ => hk.symm)⟩
theorem rs_new (w0 W : World) (vb : Value) (hg : w0.grownBy W none) (hv : ∃ a n c, vb = .slice a n c) :
    Calls Tryz.prog 33 #[vb] W fun e w' => e = .returned (.pointer (some ⟨W.heap.size, 0, none⟩)) ∧ RS w0 w' W.heap.size vb 0 0 ∧ W.grownBy w' none := by
  obtain ⟨a, n, c, rfl⟩ := hv
  have HR : Hid (RS w0 (W.alloc (.cells #[.slice a n c, .int .i64 0, .int .i64 0] 108)) W.heap.size (.slice a n c) 0 0 ∧ W.grownBy (W.alloc (.cells #[.slice a n c, .int .i64 0, .int .i64 0] 108)) none) := ⟨⟨gb_none hg (World.grownBy_alloc _ _ none), B3.new W _ _ _ _, hg.size⟩, World.grownBy_alloc _ _ none⟩
  go_enter Tryz.func33, Tryz.ntmps33
  go_wp2
  go_ret
  exact ⟨rfl, HR.out⟩

theorem uSpec_lt (l : List UInt8) (p : Int) : (uSpec l p).1 < 18446744073709551616 := by
  by_cases h : (uSpec l p).2.2 = 0
  · exact uSpec_nat h
  · have : (uSpec l p).1 = 0 := by
      unfold uSpec at h ⊢
      split
      · rfl
      · rename_i h4
        rw [if_neg h4] at h
        unfold uRes at h ⊢
        split
        · rfl
        · rename_i h5
          rw [h5] at h
          simp at h
    omega
/-- a row behind W stays where only an older block is written -/
theorem row_chG {W W2 : World} {gr : Nat} {y z : Value} {v : Value} {ls : List LbT} (h : OwnL W2 W.heap.size v ls) (hg : gr < W.heap.size) : OwnL ((W2.setCell ⟨gr, 1, none⟩ y).setCell ⟨gr, 2, none⟩ z) W.heap.size v ls := by
  refine row_ch (row_ch h (set_ch W2 gr 1 y) (fun k hk e => ?_)) (set_ch _ gr 2 z) (fun k hk e => ?_)
  · have := (World.ownsRow.lt h k hk).1
    omega
  · have := (World.ownsRow.lt h k hk).1
    omega

set_option maxRecDepth 8000 in
set_option maxHeartbeats 6400000 in
theorem rsText_any (w0 W : World) (gr : Nat) (vb : Value) (l : List UInt8) (p f m : Int) (h : RS w0 W gr vb p f) (hv : Rd w0 vb l) (hl : l.length ≤ 1000000000000000000) (hm : m ≤ 9223372036854775807) (hT : U8S w0) :
    Calls Tryz.prog 34 #[.pointer (some ⟨gr, 0, none⟩), .int .i64 m] W fun e w' => e = .returned (.string (ByteArray.mk ⟨(textF l p f m).1⟩)) ∧ RS w0 w' gr vb (textF l p f m).2.1 (textF l p f m).2.2 ∧ W.grownBy w' (some gr) := by
  obtain ⟨c0, c1, c2, f0, f1, f2⟩ := h.box.cells
  by_cases hf : f = 0
  · subst hf
    have e : textF l p 0 m = tSpec l p m := by unfold textF; rw [if_neg (by simp)]
    rw [e]
    have HC : Hid (∀ W', W.grownBy W' none → Calls Tryz.prog 66 #[vb, .int .i64 p, .int .i64 m] W' fun e w' => e = .returned (.tuple #[.string (ByteArray.mk ⟨(tSpec l p m).1⟩), .int .i64 (tSpec l p m).2.1, .int .i64 (tSpec l p m).2.2]) ∧ (w'.cell? ⟨gr, 0, none⟩ = some vb ∧ w'.cell? ⟨gr, 1, none⟩ = some (.int .i64 p)) ∧ Hid (W.grownBy w' none)) := fun W' hW => by
      have hk := gb_none h.gb hW
      refine (text_any vb l p m W' (hv.keep hk) (tab_of (hT.keep hk)) hl hm).mono ?_
      rintro e w' ⟨q1, q2⟩
      have hb := (h.box.keep (gb_none hW q2)).cells
      exact ⟨q1, ⟨hb.1, hb.2.1⟩, gb_none hW q2⟩
    have HS : Hid (∀ W2, W.grownBy W2 none → RS w0 ((W2.setCell ⟨gr, 1, none⟩ (.int .i64 (tSpec l p m).2.1)).setCell ⟨gr, 2, none⟩ (.int .i64 (tSpec l p m).2.2)) gr vb (tSpec l p m).2.1 (tSpec l p m).2.2 ∧ W.grownBy ((W2.setCell ⟨gr, 1, none⟩ (.int .i64 (tSpec l p m).2.1)).setCell ⟨gr, 2, none⟩ (.int .i64 (tSpec l p m).2.2)) (some gr)) := fun W2 hW => h.set hW _ _
    have HBx : Hid (∀ W2, W.grownBy W2 none → B3 W2 gr 108 vb (.int .i64 p) (.int .i64 0)) := fun W2 hW => h.box.keep hW
    obtain ⟨va, vc, ev, -⟩ := hv
    subst ev
    clear h hl hm hT e
    generalize l.length = ln at *
    generalize ByteArray.mk ⟨(tSpec l p m).1⟩ = rt at *
    generalize (tSpec l p m).2.1 = rp at *
    generalize (tSpec l p m).2.2 = rf at *
    have HD : Hid (W.grownBy W.drew none) := gb_drew _ _
    go_enter Tryz.func34, Tryz.ntmps34
    go_wp2
    go_region_held3 (fun w' => w'.cell? ⟨gr, 0, none⟩ = some (.slice va ln vc) ∧ w'.cell? ⟨gr, 1, none⟩ = some (.int .i64 p)) (go_keep)
      (first | (go_at_call 66; with_reducible refine (HC.out _ HD.out).mono ?_; rintro e w2 ⟨rfl, ⟨j0, j1⟩, H2⟩))
    clear HC HD c0 c1 c2 f0 f1 f2
    obtain ⟨d0, d1, d2, f0, f1, f2⟩ := (HBx.out _ H2.out).cells
    go_wp2
    go_ret
    exact ⟨rfl, HS.out _ H2.out⟩
  · have e : textF l p f m = ([], p, f) := by unfold textF; rw [if_pos hf]
    rw [e]
    have hfb : (f == 0) = false := by rw [beq_eq_false_iff_ne]; exact hf
    have HS := hidJ (And.intro h (gb_refl W (some gr)))
    clear h e
    go_enter Tryz.func34, Tryz.ntmps34
    go_wp2
    go_ret
    exact ⟨rfl, HS.out⟩
end Go.Proofs.YtpglhdnepmcahaaGreatDoor

/- Nh3 -/
namespace Go.Proofs.YtpglhdnepmcahaaGreatDoor
open Go.RowKit Go.Shelf

set_option maxRecDepth 8000 in
set_option maxHeartbeats 6400000 in
theorem rsInt_any (w0 W : World) (gr : Nat) (vb : Value) (l : List UInt8) (p f : Int) (h : RS w0 W gr vb p f) (hv : Rd w0 vb l) (_hl : l.length ≤ 1000000000000000000) :
    Calls Tryz.prog 35 #[.pointer (some ⟨gr, 0, none⟩)] W fun e w' => e = .returned (.int .i64 (intF l p f).1) ∧ RS w0 w' gr vb (intF l p f).2.1 (intF l p f).2.2 ∧ W.grownBy w' (some gr) := by
  obtain ⟨c0, c1, c2, f0, f1, f2⟩ := h.box.cells
  by_cases hf : f = 0
  · subst hf
    have e : intF l p 0 = (uz (uSpec l p).1, (uSpec l p).2.1, (uSpec l p).2.2) := by unfold intF; rw [if_neg (by simp)]
    rw [e]
    have HC : Hid (∀ W', W.grownBy W' none → Calls Tryz.prog 67 #[vb, .int .i64 p] W' fun e w' => e = .returned (.tuple #[.int .i64 (uz (uSpec l p).1), .int .i64 (uSpec l p).2.1, .int .i64 (uSpec l p).2.2]) ∧ (w'.cell? ⟨gr, 0, none⟩ = some vb ∧ w'.cell? ⟨gr, 1, none⟩ = some (.int .i64 p)) ∧ Hid (W.grownBy w' none)) := fun W' hW => by
      have hk := gb_none h.gb hW
      refine (i_any vb l p W' (hv.keep hk)).mono ?_
      rintro e w' ⟨q1, rfl⟩
      have hb := (h.box.keep hW).cells
      refine ⟨?_, ⟨hb.1, hb.2.1⟩, hW⟩
      rw [q1]
      unfold tup3i
      rw [show (BitVec.ofNat 64 (uSpec l p).1).toNat = (uSpec l p).1 by rw [BitVec.toNat_ofNat]; exact Nat.mod_eq_of_lt (uSpec_lt l p)]
    have HS : Hid (∀ W2, W.grownBy W2 none → RS w0 ((W2.setCell ⟨gr, 1, none⟩ (.int .i64 (uSpec l p).2.1)).setCell ⟨gr, 2, none⟩ (.int .i64 (uSpec l p).2.2)) gr vb (uSpec l p).2.1 (uSpec l p).2.2 ∧ W.grownBy ((W2.setCell ⟨gr, 1, none⟩ (.int .i64 (uSpec l p).2.1)).setCell ⟨gr, 2, none⟩ (.int .i64 (uSpec l p).2.2)) (some gr)) := fun W2 hW => h.set hW _ _
    have HBx : Hid (∀ W2, W.grownBy W2 none → B3 W2 gr 108 vb (.int .i64 p) (.int .i64 0)) := fun W2 hW => h.box.keep hW
    obtain ⟨va, vc, ev, -⟩ := hv
    subst ev
    clear h e
    generalize l.length = ln at *
    generalize uz (uSpec l p).1 = rt at *
    generalize (uSpec l p).2.1 = rp at *
    generalize (uSpec l p).2.2 = rf at *
    have HD : Hid (W.grownBy W.drew none) := gb_drew _ _
    go_enter Tryz.func35, Tryz.ntmps35
    go_wp2
    go_region_held3 (fun w' => w'.cell? ⟨gr, 0, none⟩ = some (.slice va ln vc) ∧ w'.cell? ⟨gr, 1, none⟩ = some (.int .i64 p)) (go_keep)
      (first | (go_at_call 67; with_reducible refine (HC.out _ HD.out).mono ?_; rintro e w2 ⟨rfl, ⟨j0, j1⟩, H2⟩))
    clear HC HD c0 c1 c2 f0 f1 f2
    obtain ⟨d0, d1, d2, f0, f1, f2⟩ := (HBx.out _ H2.out).cells
    go_wp2
    go_ret
    exact ⟨rfl, HS.out _ H2.out⟩
  · have e : intF l p f = (0, p, f) := by unfold intF; rw [if_pos hf]
    rw [e]
    have hfb : (f == 0) = false := by rw [beq_eq_false_iff_ne]; exact hf
    have HS := hidJ (And.intro h (gb_refl W (some gr)))
    clear h e
    go_enter Tryz.func35, Tryz.ntmps35
    go_wp2
    go_ret
    exact ⟨rfl, HS.out⟩

set_option maxRecDepth 8000 in
set_option maxHeartbeats 6400000 in
theorem rsLabels_any (w0 W : World) (gr : Nat) (vb : Value) (l : List UInt8) (p f : Int) (h : RS w0 W gr vb p f) (hv : Rd w0 vb l) (hl : l.length ≤ 1000000000000000000) (hT : U8S w0) :
    Calls Tryz.prog 69 #[.pointer (some ⟨gr, 0, none⟩)] W fun e w' => ∃ a1 n1 c1, e = .returned (.slice a1 n1 c1) ∧ OwnL w' W.heap.size (.slice a1 n1 c1) (labsF l p f).1 ∧ RS w0 w' gr vb (labsF l p f).2.1 (labsF l p f).2.2 ∧ W.grownBy w' (some gr) := by
  obtain ⟨c0, c1, c2, f0, f1, f2⟩ := h.box.cells
  by_cases hf : f = 0
  · subst hf
    have e : labsF l p 0 = readS l p := by unfold labsF; rw [if_neg (by simp)]
    rw [e]
    have HC : Hid (∀ W', W.grownBy W' none → Calls Tryz.prog 102 #[vb, .int .i64 p] W' fun e w' => ∃ a1 n1 c1, e = .returned (.tuple #[.slice a1 n1 c1, .int .i64 (readS l p).2.1, .int .i64 (readS l p).2.2]) ∧ (w'.cell? ⟨gr, 0, none⟩ = some vb ∧ w'.cell? ⟨gr, 1, none⟩ = some (.int .i64 p)) ∧ Hid (W.grownBy w' none ∧ OwnL w' W.heap.size (.slice a1 n1 c1) (readS l p).1)) := fun W' hW => by
      have hk := gb_none h.gb hW
      refine (read_any W' vb l p (hv.keep hk) hl (hT.keep hk)).mono ?_
      rintro e w' ⟨v', q1, q3, q2⟩
      have hb := (h.box.keep (gb_none hW q2)).cells
      obtain ⟨a1, c1, ev⟩ := RdL.shape q3.rd
      subst ev
      exact ⟨a1, _, c1, q1, ⟨hb.1, hb.2.1⟩, gb_none hW q2, q3.mono hW.size⟩
    have HS : Hid (∀ W2, W.grownBy W2 none → RS w0 ((W2.setCell ⟨gr, 1, none⟩ (.int .i64 (readS l p).2.1)).setCell ⟨gr, 2, none⟩ (.int .i64 (readS l p).2.2)) gr vb (readS l p).2.1 (readS l p).2.2 ∧ W.grownBy ((W2.setCell ⟨gr, 1, none⟩ (.int .i64 (readS l p).2.1)).setCell ⟨gr, 2, none⟩ (.int .i64 (readS l p).2.2)) (some gr)) := fun W2 hW => h.set hW _ _
    have HBx : Hid (∀ W2, W.grownBy W2 none → B3 W2 gr 108 vb (.int .i64 p) (.int .i64 0)) := fun W2 hW => h.box.keep hW
    obtain ⟨va, vc, ev, -⟩ := hv
    subst ev
    clear h hl hT e
    generalize l.length = ln at *
    generalize (readS l p).1 = rl at *
    generalize (readS l p).2.1 = rp at *
    generalize (readS l p).2.2 = rf at *
    have HGl : Hid (gr < W.heap.size) := block_lt c0
    have HD : Hid (W.grownBy W.drew none) := gb_drew _ _
    go_enter Tryz.func69, Tryz.ntmps69
    go_wp2
    go_region_held3 (fun w' => w'.cell? ⟨gr, 0, none⟩ = some (.slice va ln vc) ∧ w'.cell? ⟨gr, 1, none⟩ = some (.int .i64 p)) (go_keep)
      (first | (go_at_call 102; with_reducible refine (HC.out _ HD.out).mono ?_; rintro e w2 ⟨xa, xn, xc, rfl, ⟨j0, j1⟩, H2⟩))
    clear HC HD c0 c1 c2 f0 f1 f2
    obtain ⟨d0, d1, d2, f0, f1, f2⟩ := (HBx.out _ H2.out.1).cells
    go_wp2
    go_ret
    exact ⟨_, _, _, rfl, row_chG H2.out.2 HGl.out, HS.out _ H2.out.1⟩
  · have e : labsF l p f = ([], p, f) := by unfold labsF; rw [if_pos hf]
    rw [e]
    have hfb : (f == 0) = false := by rw [beq_eq_false_iff_ne]; exact hf
    have HS := hidJ (And.intro h (gb_refl W (some gr)))
    clear h e
    go_enter Tryz.func69, Tryz.ntmps69
    go_wp2
    go_ret
    exact ⟨none, 0, 0, rfl, World.ownsRow_nil _ _ _ _, HS.out⟩

set_option maxRecDepth 8000 in
set_option maxHeartbeats 6400000 in
theorem rsCount_any (w0 W : World) (gr : Nat) (vb : Value) (l : List UInt8) (p f : Int) (h : RS w0 W gr vb p f) (hv : Rd w0 vb l) (_hl : l.length ≤ 1000000000000000000) :
    Calls Tryz.prog 68 #[.pointer (some ⟨gr, 0, none⟩), .int .u64 500] W fun e w' => e = .returned (.int .i64 ((countF l p f 500).1 : Int)) ∧ RS w0 w' gr vb (countF l p f 500).2.1 (countF l p f 500).2.2 ∧ W.grownBy w' (some gr) := by
  obtain ⟨c0, c1, c2, f0, f1, f2⟩ := h.box.cells
  by_cases hf : f = 0
  · subst hf
    have hlt := uSpec_lt l p
    have HC : Hid (∀ W', W.grownBy W' none → Calls Tryz.prog 99 #[vb, .int .i64 p] W' fun e w' => e = .returned (.tuple #[.int .u64 ((uSpec l p).1 : Int), .int .i64 (uSpec l p).2.1, .int .i64 (uSpec l p).2.2]) ∧ (w'.cell? ⟨gr, 0, none⟩ = some vb ∧ w'.cell? ⟨gr, 1, none⟩ = some (.int .i64 p)) ∧ Hid (W.grownBy w' none)) := fun W' hW => by
      have hk := gb_none h.gb hW
      refine (u_any vb l p W' (hv.keep hk)).mono ?_
      rintro e w' ⟨q1, rfl⟩
      have hb := (h.box.keep hW).cells
      refine ⟨?_, ⟨hb.1, hb.2.1⟩, hW⟩
      rw [q1]
      unfold tup3
      rw [I64_of hlt]
    have HS : Hid (∀ W2 p' f', W.grownBy W2 none → RS w0 ((W2.setCell ⟨gr, 1, none⟩ (.int .i64 p')).setCell ⟨gr, 2, none⟩ (.int .i64 f')) gr vb p' f' ∧ W.grownBy ((W2.setCell ⟨gr, 1, none⟩ (.int .i64 p')).setCell ⟨gr, 2, none⟩ (.int .i64 f')) (some gr)) := fun W2 p' f' hW => h.set hW _ _
    have HBx : Hid (∀ W2, W.grownBy W2 none → B3 W2 gr 108 vb (.int .i64 p) (.int .i64 0)) := fun W2 hW => h.box.keep hW
    have hcF : countF l p 0 500 = if (uSpec l p).2.2 = 0 ∧ 500 < (uSpec l p).1 then (0, (uSpec l p).2.1, 7) else uSpec l p := by unfold countF; rw [if_neg (by simp)]
    have hle := countF_le l p 0 500
    rw [hcF] at hle
    rw [hcF]
    obtain ⟨va, vc, ev, -⟩ := hv
    subst ev
    clear h _hl hcF
    generalize l.length = ln at *
    generalize uSpec l p = R at *
    obtain ⟨rn, rp, rf⟩ := R
    dsimp only at *
    have HD : Hid (W.grownBy W.drew none) := gb_drew _ _
    by_cases h1 : rf = 0
    · subst h1
      by_cases h2 : 500 < rn
      · rw [if_pos ⟨rfl, h2⟩]
        have h2i : (500 : Int) < (rn : Int) := by omega
        clear hle
        go_enter Tryz.func68, Tryz.ntmps68
        go_wp2
        go_region_held3 (fun w' => w'.cell? ⟨gr, 0, none⟩ = some (.slice va ln vc) ∧ w'.cell? ⟨gr, 1, none⟩ = some (.int .i64 p)) (go_keep)
          (first | (go_at_call 99; with_reducible refine (HC.out _ HD.out).mono ?_; rintro e w2 ⟨rfl, ⟨j0, j1⟩, H2⟩))
        clear HC HD c0 c1 c2 f0 f1 f2
        obtain ⟨d0, d1, d2, f0, f1, f2⟩ := (HBx.out _ H2.out).cells
        go_wp2
        go_ret
        exact ⟨rfl, HS.out _ _ _ H2.out⟩
      · rw [if_neg (fun h => h2 h.2)]
        have h2i : ¬ (500 : Int) < (rn : Int) := by omega
        have hwr : IntKind.i64.wrap (rn : Int) = (rn : Int) := by rw [IntKind.wrap_i64]; omega
        clear hle
        go_enter Tryz.func68, Tryz.ntmps68
        go_wp2
        go_region_held3 (fun w' => w'.cell? ⟨gr, 0, none⟩ = some (.slice va ln vc) ∧ w'.cell? ⟨gr, 1, none⟩ = some (.int .i64 p)) (go_keep)
          (first | (go_at_call 99; with_reducible refine (HC.out _ HD.out).mono ?_; rintro e w2 ⟨rfl, ⟨j0, j1⟩, H2⟩))
        clear HC HD c0 c1 c2 f0 f1 f2
        obtain ⟨d0, d1, d2, f0, f1, f2⟩ := (HBx.out _ H2.out).cells
        go_wp2
        go_ret
        exact ⟨by first | rfl | simp [hwr], HS.out _ _ _ H2.out⟩
    · rw [if_neg (fun h => h1 h.1)] at hle ⊢
      dsimp only at hle ⊢
      have h1b : (rf == 0) = false := by rw [beq_eq_false_iff_ne]; exact h1
      have hwr : IntKind.i64.wrap (rn : Int) = (rn : Int) := by rw [IntKind.wrap_i64]; omega
      clear hle
      go_enter Tryz.func68, Tryz.ntmps68
      go_wp2
      go_region_held3 (fun w' => w'.cell? ⟨gr, 0, none⟩ = some (.slice va ln vc) ∧ w'.cell? ⟨gr, 1, none⟩ = some (.int .i64 p)) (go_keep)
        (first | (go_at_call 99; with_reducible refine (HC.out _ HD.out).mono ?_; rintro e w2 ⟨rfl, ⟨j0, j1⟩, H2⟩))
      clear HC HD c0 c1 c2 f0 f1 f2
      obtain ⟨d0, d1, d2, f0, f1, f2⟩ := (HBx.out _ H2.out).cells
      go_wp2
      go_ret
      exact ⟨by first | rfl | simp [hwr], HS.out _ _ _ H2.out⟩
  · have e : countF l p f 500 = (0, p, f) := by unfold countF; rw [if_pos hf]
    rw [e]
    have hfb : (f == 0) = false := by rw [beq_eq_false_iff_ne]; exact hf
    have HS := hidJ (And.intro h (gb_refl W (some gr)))
    clear h e
    go_enter Tryz.func68, Tryz.ntmps68
    go_wp2
    go_ret
    exact ⟨rfl, HS.out⟩

set_option maxRecDepth 8000 in
set_option maxHeartbeats 6400000 in
theorem rsDone_any (w0 W : World) (gr : Nat) (vb : Value) (l : List UInt8) (p f : Int) (h : RS w0 W gr vb p f) (hv : Rd w0 vb l) :
    Calls Tryz.prog 37 #[.pointer (some ⟨gr, 0, none⟩)] W fun e w' => e = .returned (.bool (decide (f = 0) && decide (p = (l.length : Int)))) ∧ W.grownBy w' none := by
  obtain ⟨c0, c1, c2, f0, f1, f2⟩ := h.box.cells
  obtain ⟨va, vc, ev, -⟩ := hv
  subst ev
  clear h f0 f1 f2
  generalize l.length = ln at *
  have HD : Hid (∀ n, W.grownBy (W.drewN n) none) := fun n => ⟨rfl, rfl, rfl, Nat.le_refl _, fun _ _ _ => rfl⟩
  by_cases hf : f = 0
  · subst hf
    by_cases hp : p = (ln : Int)
    · subst hp
      go_enter Tryz.func37, Tryz.ntmps37
      go_wp2
      go_quiet (fail)
      go_wp2
      go_ret
      exact ⟨by simp, HD.out _⟩
    · have hpb : (p == (ln : Int)) = false := by rw [beq_eq_false_iff_ne]; exact hp
      go_enter Tryz.func37, Tryz.ntmps37
      go_wp2
      go_quiet (fail)
      go_wp2
      go_ret
      exact ⟨by simp [hp], HD.out _⟩
  · have hfb : (f == 0) = false := by rw [beq_eq_false_iff_ne]; exact hf
    go_enter Tryz.func37, Tryz.ntmps37
    go_wp2
    go_quiet (fail)
    go_wp2
    go_ret
    exact ⟨by simp [hf], HD.out _⟩
end Go.Proofs.YtpglhdnepmcahaaGreatDoor

/- Nh4 -/
namespace Go.Proofs.YtpglhdnepmcahaaGreatDoor
open Go.RowKit Go.Shelf Go.Sort

theorem gb_chS {w W W' : World} {g : Option Nat} {S : Nat → Prop} (h : w.grownBy W g) (hc : Ch W W' S) (hS : ∀ k, S k → w.heap.size ≤ k) : w.grownBy W' g :=
  ⟨hc.1.trans h.os, hc.2.1.trans h.tape, hc.2.2.1.trans h.output, Nat.le_trans h.size hc.size, fun k hk hne => (hc.block (Nat.lt_of_lt_of_le hk h.size) (fun e => by have := hS k e; omega)).trans (h.block k hk hne)⟩
/-- one label set more -/
theorem OwnLL.push {w1 : World} {base : Nat} {v u : Value} {acc : List (List LbT)} {ls : List LbT} (h : OwnLL w1 base v acc) (hb : base ≤ w1.heap.size) (hu : OwnL w1 base u ls) (hl : acc.length ≤ 6000000000000) :
    ∃ a2 c2 w2, (Builtin.append_ #[32, 32] 32 #[v, .slice (some ⟨w1.heap.size, 0, none⟩) 1 1]).run Tryz.prog (w1.alloc (.cells #[u] 52)) = .ok (.slice a2 (acc.length + 1) c2) w2 ∧ OwnLL w2 base (.slice a2 (acc.length + 1) c2) (acc ++ [ls]) ∧ Ch w1 w2 (fun k => v.ownBlock = some k) := by
  obtain ⟨us, h2, h1, h3⟩ := h
  obtain ⟨a2, c2, w2, hrun2, ho, hfr⟩ := OwnVs.push h2 u (RdL.one hu.rd) (by omega) hb (World.grownBy_alloc w1 (.cells #[u] 52) none) rfl
  rw [h1] at hrun2 ho hfr
  have hk : Ch w1 w2 (fun k => v.ownBlock = some k) := (Ch.of_gb (S := fun k => v.ownBlock = some k) (World.grownBy_alloc w1 (.cells #[u] 52) none) (fun k hk => by cases hk)).trans (Ch.of_gb (S := fun k => v.ownBlock = some k) hfr.1 (fun k hk _ => hk)) (fun _ _ e => e)
  have hne : ∀ (x : Value) (ls : List LbT), OwnL w1 base x ls → OwnL w2 base x ls := fun x ls hx => by
    refine row_ch hx hk (fun k hk' e => ?_)
    obtain ⟨cur, q1⟩ := row_objE hx hk'
    obtain ⟨cur', q2⟩ := row_objE h2 e
    rw [q1] at q2
    simp at q2
  refine ⟨a2, c2, w2, hrun2, ⟨us ++ [u], ?_, by simp [h1], fun j => ?_⟩, hk⟩
  · unfold OwnVs at ho ⊢
    rw [List.length_append, h1] at ho ⊢
    exact ho
  · by_cases hj : j < us.length
    · have e1 : (us ++ [u]).getD j nilV = us.getD j nilV := by simp [List.getD, List.getElem?_append_left hj]
      have e2 : (acc ++ [ls]).getD j [] = acc.getD j [] := by simp [List.getD, List.getElem?_append_left (show j < acc.length by omega)]
      rw [e1, e2]
      exact hne _ _ (h3 j)
    · by_cases e : j = us.length
      · have e1 : (us ++ [u]).getD j nilV = u := by rw [e]; simp
        have e2 : (acc ++ [ls]).getD j [] = ls := by rw [e, h1]; simp
        rw [e1, e2]
        exact hne _ _ hu
      · have e1 : (us ++ [u]).getD j nilV = nilV := by simp only [List.getD]; rw [List.getElem?_eq_none (by simp; omega)]; rfl
        have e2 : (acc ++ [ls]).getD j [] = [] := by simp only [List.getD]; rw [List.getElem?_eq_none (by simp; omega)]; rfl
        rw [e1, e2]
        exact World.ownsRow_nil _ _ _ _
/-- readSets between two rounds -/
def RsJ (w0 W : World) (gr : Nat) (vb : Value) (l : List UInt8) (n : Nat) (p0 f0 : Int) (z : Nat) (v : Value) (wr : World) : Prop :=
  ∃ p f acc, acc.length = z ∧ OwnLL wr W.heap.size v acc ∧ RS w0 wr gr vb p f ∧ W.grownBy wr (some gr) ∧ labsN l n p0 f0 [] = labsN l (n - z) p f acc
theorem RsJ.step {w0 W wr w1 : World} {gr : Nat} {vb : Value} {l : List UInt8} {n : Nat} {p0 f0 : Int} {z : Nat} {v u : Value} {p f : Int} {acc : List (List LbT)} (hz : z < n) (hn : n ≤ 500) (hgr : gr < W.heap.size) (hW0 : w0.heap.size ≤ W.heap.size) (e1 : acc.length = z) (e2 : OwnLL wr W.heap.size v acc) (e4 : W.grownBy wr (some gr)) (e5 : labsN l n p0 f0 [] = labsN l (n - z) p f acc)
    (hu : OwnL w1 wr.heap.size u (labsF l p f).1) (h1 : RS w0 w1 gr vb (labsF l p f).2.1 (labsF l p f).2.2) (h2 : wr.grownBy w1 (some gr)) :
    ∃ a2 c2 w2, (Builtin.append_ #[32, 32] 32 #[v, .slice (some ⟨w1.heap.size, 0, none⟩) 1 1]).run Tryz.prog (w1.alloc (.cells #[u] 52)) = .ok (.slice a2 (z + 1) c2) w2 ∧ RsJ w0 W gr vb l n p0 f0 (z + 1) (.slice a2 (z + 1) c2) w2 := by
  have hb : W.heap.size ≤ w1.heap.size := Nat.le_trans e4.size h2.size
  have ho1 : OwnLL w1 W.heap.size v acc := e2.ch (Ch.of_gb (S := fun k => k = gr) h2 (fun k hk _ => by cases hk; rfl)) (fun k hk => by omega)
  obtain ⟨a2, c2, w2, q1, q2, q3⟩ := ho1.push hb (hu.mono e4.size) (by omega)
  have hvb : ∀ k, v.ownBlock = some k → W.heap.size ≤ k := fun k hk => by
    obtain ⟨us, k1, -, -⟩ := ho1
    exact (World.ownsRow.lt k1 k hk).1
  rw [e1] at q1 q2
  refine ⟨a2, c2, w2, q1, _, _, _, ?_, q2, h1.far q3 (fun k hk => ?_), gb_chS (gb_trans e4 h2 (fun k hk _ => hk.symm)) q3 hvb, ?_⟩
  · simp [e1]
  · have := hvb k hk
    omega
  · rw [e5, show n - z = (n - (z + 1)) + 1 by omega, labsN]
set_option maxRecDepth 8000 in
set_option maxHeartbeats 6400000 in
theorem readSets_any (w0 W : World) (gr : Nat) (vb : Value) (l : List UInt8) (p f : Int) (h : RS w0 W gr vb p f) (hv : Rd w0 vb l) (hl : l.length ≤ 1000000000000000000) (hT : U8S w0) :
    Calls Tryz.prog 36 #[.pointer (some ⟨gr, 0, none⟩)] W fun e w' => ∃ a1 c1, e = .returned (.slice a1 (setsF l p f).1.length c1) ∧ OwnLL w' W.heap.size (.slice a1 (setsF l p f).1.length c1) (setsF l p f).1 ∧ RS w0 w' gr vb (setsF l p f).2.1 (setsF l p f).2.2 ∧ W.grownBy w' (some gr) := by
  have hgl : gr < W.heap.size := some_lt h.box
  have HCt : Hid (Calls Tryz.prog 68 #[.pointer (some ⟨gr, 0, none⟩), .int .u64 500] W fun e w' => e = .returned (.int .i64 ((countF l p f 500).1 : Int)) ∧ RS w0 w' gr vb (countF l p f 500).2.1 (countF l p f 500).2.2 ∧ W.grownBy w' (some gr)) := rsCount_any w0 W gr vb l p f h hv hl
  have HLb : Hid (∀ wr p f, RS w0 wr gr vb p f → Calls Tryz.prog 69 #[.pointer (some ⟨gr, 0, none⟩)] wr fun e w' => ∃ a1 n1 c1, e = .returned (.slice a1 n1 c1) ∧ OwnL w' wr.heap.size (.slice a1 n1 c1) (labsF l p f).1 ∧ RS w0 w' gr vb (labsF l p f).2.1 (labsF l p f).2.2 ∧ wr.grownBy w' (some gr)) := fun wr p f hr => rsLabels_any w0 wr gr vb l p f hr hv hl hT
  have hle := countF_le l p f 500
  have HSz : Hid (w0.heap.size ≤ W.heap.size ∧ gr < W.heap.size) := ⟨h.gb.size, hgl⟩
  have HF : Hid (∀ wr v, RsJ w0 W gr vb l (countF l p f 500).1 (countF l p f 500).2.1 (countF l p f 500).2.2 (countF l p f 500).1 v wr → (countF l p f 500).1 = (setsF l p f).1.length ∧ OwnLL wr W.heap.size v (setsF l p f).1 ∧ RS w0 wr gr vb (setsF l p f).2.1 (setsF l p f).2.2 ∧ W.grownBy wr (some gr)) := fun wr v hj => by
    obtain ⟨p', f', acc, k1, k2, k3, k4, k5⟩ := hj
    rw [Nat.sub_self, labsN] at k5
    have e : setsF l p f = (acc, p', f') := k5
    rw [e]
    exact ⟨k1.symm, k2, k3, k4⟩
  clear h hv hl hT hgl
  generalize setsF l p f = R at *
  generalize countF l p f 500 = C at *
  obtain ⟨n, p0, f0⟩ := C
  dsimp only at *
  go_enter Tryz.func36, Tryz.ntmps36
  go_wp2_with fail
  refine HCt.out.mono ?_
  rintro e w1 ⟨rfl, q1, q2⟩
  have H0 : Hid (RsJ w0 W gr vb l n p0 f0 0 (.slice none 0 0) w1) := ⟨p0, f0, [], rfl, OwnLL.nil _ _, q1, q2, rfl⟩
  clear HCt q1 q2
  go_wp2
  go_loopw [3, 6] (fun o i wr => ∃ (z : Nat) (a : Option Addr) (c : Nat), z ≤ n ∧ i = .int .i64 z ∧ o = .slice a z c ∧ Hid (RsJ w0 W gr vb l n p0 f0 z (.slice a z c) wr)) (fun _ i _ => n - (intOf i).toNat)
  case atStart => exact ⟨0, none, 0, by omega, rfl, rfl, H0.out⟩
  case round =>
    obtain ⟨z, oa, oc, hzN, rfl, rfl, hr⟩ := hrel
    clear H0
    by_cases hzl : z < n
    · have hzi : (z : Int) < (n : Int) := by omega
      obtain ⟨p', f', acc, k1, k2, k3, k4, k5⟩ := hr.out
      have HK := hidJ (And.intro k1 (And.intro k2 (And.intro k4 k5)))
      have HR3 := hidJ k3
      clear hr k1 k2 k3 k4 k5
      go_wp2_with fail
      refine (HLb.out _ _ _ HR3.out).mono ?_
      rintro e w2 ⟨ua, un, uc, rfl, r1, r2, r3⟩
      obtain ⟨a2, c2, w3, s1, s2⟩ := RsJ.step hzl hle HSz.out.2 HSz.out.1 HK.out.1 HK.out.2.1 HK.out.2.2.1 HK.out.2.2.2 r1 r2 r3
      have H7 := hidJ s2
      have R2 := hidJ s1
      clear r1 r2 r3 s1 s2 HR3 HK
      go_wp2_with (at_builtin; refine wp_appRun rfl (.tmp 8) (.tmp 11) 32 rfl _ _ _ rfl rfl R2.out ?_)
      clear R2
      go_wp2
      go_roundw
      case rel => exact ⟨z + 1, a2, c2, by omega, by go_num, rfl, H7⟩
      case measure => simp [intOf]; omega
    · have hzi : ¬ (z : Int) < (n : Int) := by omega
      have hzn : z = n := by omega
      subst hzn
      have HG := hidJ (HF.out _ _ hr.out)
      clear hr HF
      go_wp2
      go_ret
      exact ⟨oa, oc, (by rw [← HG.out.1]; rfl), (by rw [← HG.out.1]; exact HG.out.2.1), HG.out.2.2⟩
end Go.Proofs.YtpglhdnepmcahaaGreatDoor

/- Nh5 -/
namespace Go.Proofs.YtpglhdnepmcahaaGreatDoor
open Go.RowKit Go.Shelf Go.Sort

theorem right_in {ls : List LbT} (h : (rightS ls).1 = 0) : LbIn ls := by
  have hl : ls.length ≤ 16 := by
    unfold rightS at h
    by_cases h16 : 16 < ls.length
    · rw [if_pos h16] at h
      cases h
    · omega
  refine ⟨by omega, fun j => ?_⟩
  by_cases hj : j < ls.length
  · have e : ls.getD j ([], []) = ls[j] := by simp [List.getD, hj]
    rw [e]
    have hf := one_facts (right_one h ls[j] (by simp))
    have hn := name_len hf.1
    exact ⟨by omega, by omega⟩
  · have e : ls.getD j ([], []) = ([], []) := by simp only [List.getD, List.getElem?_eq_none (Nat.le_of_not_lt hj), Option.getD_none]
    rw [e]
    simp
theorem readS_in (l : List UInt8) (p : Int) : LbIn (readS l p).1 := by
  unfold readS
  split
  · exact LbIn.nil
  · split
    · exact LbIn.nil
    · split
      · exact LbIn.nil
      · split
        · exact LbIn.nil
        · rename_i h
          exact right_in (by simpa using h)
theorem labsF_in (l : List UInt8) (p f : Int) : LbIn (labsF l p f).1 := by
  unfold labsF
  split
  · exact LbIn.nil
  · exact readS_in l p
theorem labsN_in (l : List UInt8) : ∀ (n : Nat) (p f : Int) (acc : List (List LbT)), (∀ x ∈ acc, LbIn x) → ∀ x ∈ (labsN l n p f acc).1, LbIn x
  | 0, _, _, _, h => h
  | n + 1, p, f, acc, h => by
    rw [labsN]
    refine labsN_in l n _ _ _ (fun x hx => ?_)
    rw [List.mem_append, List.mem_singleton] at hx
    rcases hx with hx | rfl
    · exact h x hx
    · exact labsF_in l p f
theorem setsF_in (l : List UInt8) (p f : Int) : LLIn (setsF l p f).1 := by
  have hlen : (setsF l p f).1.length ≤ 500 := by
    unfold setsF
    rw [labsN_len]
    have := countF_le l p f 500
    simp
    omega
  refine ⟨by omega, fun j => ?_⟩
  by_cases hj : j < (setsF l p f).1.length
  · have e : (setsF l p f).1.getD j [] = (setsF l p f).1[j] := by simp [List.getD, hj]
    rw [e]
    unfold setsF
    exact labsN_in l _ _ _ _ (fun x hx => by cases hx) _ (List.getElem_mem _)
  · have e : (setsF l p f).1.getD j [] = [] := by simp only [List.getD, List.getElem?_eq_none (Nat.le_of_not_lt hj), Option.getD_none]
    rw [e]
    exact LbIn.nil
theorem textF_short (l : List UInt8) (p f m : Int) : (textF l p f m).1.length ≤ l.length := by
  unfold textF
  split
  · simp
  · exact tSpec_short l p m
/-- Read between two parts: the reader, the answer's cell, the mark so far -/
structure RM (w W : World) (gr gm : Nat) (vb : Value) (p f : Int) (x y z u v : Value) : Prop where
  rs : RS w W gr vb p f
  res : B5 W w.heap.size 34 (.string ⟨#[]⟩) (.string ⟨#[]⟩) (.int .i64 0) (.slice none 0 0) (.slice none 0 0)
  mrk : B5 W gm 34 x y z u v
  d1 : w.heap.size < gr
  d2 : gr < gm
theorem RM.move {w W W' : World} {gr gm : Nat} {vb : Value} {p f p' f' : Int} {x y z u v : Value} (h : RM w W gr gm vb p f x y z u v) (hr : RS w W' gr vb p' f') (hg : W.grownBy W' (some gr)) : RM w W' gr gm vb p' f' x y z u v := by
  have hc := Ch.of_gb (S := fun k => k = gr) hg (fun k hk _ => by cases hk; rfl)
  have := h.d1
  have := h.d2
  exact ⟨hr, h.res.ch hc (by omega), h.mrk.ch hc (by omega), h.d1, h.d2⟩
theorem RM.put {w W W' : World} {gr gm : Nat} {vb : Value} {p f : Int} {x y z u v x' y' z' u' v' : Value} (h : RM w W gr gm vb p f x y z u v) (hc : Ch W W' (fun k => k = gm)) (hm : B5 W' gm 34 x' y' z' u' v') : RM w W' gr gm vb p f x' y' z' u' v' := by
  have := h.d1
  have := h.d2
  have := h.rs.hi
  exact ⟨h.rs.far hc (fun k hk => by omega), h.res.ch hc (by omega), hm, h.d1, h.d2⟩
theorem B5.put0 {w : World} {b : Nat} {t : TypeId} {x y z u v : Value} (h : B5 w b t x y z u v) (n : Value) : B5 (w.setCell ⟨b, 0, none⟩ n) b t n y z u v := by
  have h0 := heap_setCell_same w b 0 _ _ n h
  simpa [B5] using h0
theorem B5.put1 {w : World} {b : Nat} {t : TypeId} {x y z u v : Value} (h : B5 w b t x y z u v) (n : Value) : B5 (w.setCell ⟨b, 1, none⟩ n) b t x n z u v := by
  have h0 := heap_setCell_same w b 1 _ _ n h
  simpa [B5] using h0
theorem B5.put2 {w : World} {b : Nat} {t : TypeId} {x y z u v : Value} (h : B5 w b t x y z u v) (n : Value) : B5 (w.setCell ⟨b, 2, none⟩ n) b t x y n u v := by
  have h0 := heap_setCell_same w b 2 _ _ n h
  simpa [B5] using h0
/-- what Read answers -/
def RdQ (w : World) (l : List UInt8) (e : Ending) (w' : World) : Prop := ∃ a1 c1 a2 c2, e = .returned (.tuple #[.agg #[.string (ByteArray.mk ⟨(readM l).1.rcv⟩), .string (ByteArray.mk ⟨(readM l).1.key⟩), .int .i64 (readM l).1.tim, .slice a1 (readM l).1.fir.length c1, .slice a2 (readM l).1.res.length c2], .int .i64 (readM l).2]) ∧ OwnLL w' w.heap.size (.slice a1 (readM l).1.fir.length c1) (readM l).1.fir ∧ OwnLL w' w.heap.size (.slice a2 (readM l).1.res.length c2) (readM l).1.res ∧ w.grownBy w' none
theorem rdq_no {w w' : World} {l : List UInt8} (h : readM l = (mZ0, 3)) (hg : w.grownBy w' none) : RdQ w l (.returned (.tuple #[.agg #[.string ⟨#[]⟩, .string ⟨#[]⟩, .int .i64 0, .slice none 0 0, .slice none 0 0], .int .i64 3])) w' := by
  unfold RdQ
  rw [h]
  exact ⟨none, 0, none, 0, rfl, OwnLL.nil _ _, OwnLL.nil _ _, hg⟩
end Go.Proofs.YtpglhdnepmcahaaGreatDoor

/- Nh6 -/
namespace Go.Proofs.YtpglhdnepmcahaaGreatDoor
open Go.RowKit Go.Shelf Go.Sort

set_option maxRecDepth 8000 in
set_option maxHeartbeats 12800000 in
theorem readR_any (w : World) (vb : Value) (l : List UInt8) (hv : Rd w vb l) (hl : l.length ≤ 1000000000000000000) (hT : U8S w) :
    Calls Tryz.prog 11 #[vb] w fun e w' => RdQ w l e w' := by
  have HV := hidJ (And.intro hv (And.intro hl hT))
  have hsh : ∃ a n c, vb = .slice a n c := by
    obtain ⟨a, c, e, -⟩ := hv
    exact ⟨a, _, c, e⟩
  -- the parts
  obtain ⟨A, hA⟩ : ∃ A, A = textF l 0 0 64 := ⟨_, rfl⟩
  obtain ⟨B, hB⟩ : ∃ B, B = textF l A.2.1 A.2.2 65536 := ⟨_, rfl⟩
  obtain ⟨C, hC⟩ : ∃ C, C = intF l B.2.1 B.2.2 := ⟨_, rfl⟩
  obtain ⟨D, hD⟩ : ∃ D, D = setsF l C.2.1 C.2.2 := ⟨_, rfl⟩
  obtain ⟨E, hE⟩ : ∃ E, E = setsF l D.2.1 D.2.2 := ⟨_, rfl⟩
  have hP : partsM l = (⟨A.1, B.1, C.1, D.1, E.1⟩, E.2.1, E.2.2) := by
    unfold partsM
    simp only [← hA, ← hB, ← hC, ← hD, ← hE]
  have hM : readM l = if E.2.2 = 0 ∧ E.2.1 = (l.length : Int) ∧ rightM ⟨A.1, B.1, C.1, D.1, E.1⟩ = 0 then (⟨A.1, B.1, C.1, D.1, E.1⟩, 0) else (mZ0, 3) := by
    unfold readM
    rw [hP]
  have HIn : Hid (LLIn D.1 ∧ LLIn E.1 ∧ A.1.length ≤ 1000000000000000000 ∧ B.1.length ≤ 1000000000000000000) := by
    rw [hD, hE, hA, hB]
    exact ⟨setsF_in _ _ _, setsF_in _ _ _, Nat.le_trans (textF_short _ _ _ _) hl, Nat.le_trans (textF_short _ _ _ _) hl⟩
  have HNw : Hid (∀ W, w.grownBy W none → Calls Tryz.prog 33 #[vb] W fun e w' => e = .returned (.pointer (some ⟨W.heap.size, 0, none⟩)) ∧ RS w w' W.heap.size vb 0 0 ∧ W.grownBy w' none) := fun W hW => rs_new w W vb hW hsh
  have HT1 : Hid (∀ W gr, RS w W gr vb 0 0 → Calls Tryz.prog 34 #[.pointer (some ⟨gr, 0, none⟩), .int .i64 64] W fun e w' => e = .returned (.string (ByteArray.mk ⟨A.1⟩)) ∧ RS w w' gr vb A.2.1 A.2.2 ∧ W.grownBy w' (some gr)) := fun W gr h => by
    rw [hA]
    exact rsText_any w W gr vb l 0 0 64 h HV.out.1 HV.out.2.1 (by omega) HV.out.2.2
  have HT2 : Hid (∀ W gr, RS w W gr vb A.2.1 A.2.2 → Calls Tryz.prog 34 #[.pointer (some ⟨gr, 0, none⟩), .int .i64 65536] W fun e w' => e = .returned (.string (ByteArray.mk ⟨B.1⟩)) ∧ RS w w' gr vb B.2.1 B.2.2 ∧ W.grownBy w' (some gr)) := fun W gr h => by
    rw [hB]
    exact rsText_any w W gr vb l _ _ 65536 h HV.out.1 HV.out.2.1 (by omega) HV.out.2.2
  have HT3 : Hid (∀ W gr, RS w W gr vb B.2.1 B.2.2 → Calls Tryz.prog 35 #[.pointer (some ⟨gr, 0, none⟩)] W fun e w' => e = .returned (.int .i64 C.1) ∧ RS w w' gr vb C.2.1 C.2.2 ∧ W.grownBy w' (some gr)) := fun W gr h => by
    rw [hC]
    exact rsInt_any w W gr vb l _ _ h HV.out.1 HV.out.2.1
  have HT4 : Hid (∀ W gr, RS w W gr vb C.2.1 C.2.2 → Calls Tryz.prog 36 #[.pointer (some ⟨gr, 0, none⟩)] W fun e w' => ∃ a1 c1, e = .returned (.slice a1 D.1.length c1) ∧ OwnLL w' W.heap.size (.slice a1 D.1.length c1) D.1 ∧ RS w w' gr vb D.2.1 D.2.2 ∧ W.grownBy w' (some gr)) := fun W gr h => by
    rw [hD]
    exact readSets_any w W gr vb l _ _ h HV.out.1 HV.out.2.1 HV.out.2.2
  have HT5 : Hid (∀ W gr, RS w W gr vb D.2.1 D.2.2 → Calls Tryz.prog 36 #[.pointer (some ⟨gr, 0, none⟩)] W fun e w' => ∃ a1 c1, e = .returned (.slice a1 E.1.length c1) ∧ OwnLL w' W.heap.size (.slice a1 E.1.length c1) E.1 ∧ RS w w' gr vb E.2.1 E.2.2 ∧ W.grownBy w' (some gr)) := fun W gr h => by
    rw [hE]
    exact readSets_any w W gr vb l _ _ h HV.out.1 HV.out.2.1 HV.out.2.2
  obtain ⟨DN, hDN⟩ : ∃ DN : Bool, DN = (decide (E.2.2 = 0) && decide (E.2.1 = (l.length : Int))) := ⟨_, rfl⟩
  have HT6 : Hid (∀ W gr, RS w W gr vb E.2.1 E.2.2 → Calls Tryz.prog 37 #[.pointer (some ⟨gr, 0, none⟩)] W fun e w' => e = .returned (.bool DN) ∧ W.grownBy w' none) := fun W gr h => by
    rw [hDN]
    exact rsDone_any w W gr vb l _ _ h HV.out.1
  obtain ⟨R, hR⟩ : ∃ R, R = rightM ⟨A.1, B.1, C.1, D.1, E.1⟩ := ⟨_, rfl⟩
  have HRi : Hid (∀ W a1 c1 a2 c2, w.grownBy W none → RdLL W (.slice a1 D.1.length c1) D.1 → RdLL W (.slice a2 E.1.length c2) E.1 → Calls Tryz.prog 38 #[.agg #[.string (ByteArray.mk ⟨A.1⟩), .string (ByteArray.mk ⟨B.1⟩), .int .i64 C.1, .slice a1 D.1.length c1, .slice a2 E.1.length c2]] W fun e w' => e = .returned (.int .i64 R) ∧ W.grownBy w' none) := fun W a1 c1 a2 c2 hW h1 h2 => by
    rw [hR]
    have := rightM_any W ⟨A.1, B.1, C.1, D.1, E.1⟩ (.slice a1 D.1.length c1) (.slice a2 E.1.length c2) ⟨h1, h2, HIn.out.1, HIn.out.2.1, HIn.out.2.2.1, HIn.out.2.2.2⟩ (HV.out.2.2.keep hW)
    unfold markV at this
    exact this
  rw [← hR] at hM
  have HNo : Hid (∀ w', (DN = false ∨ R ≠ 0) → w.grownBy w' none → RdQ w l (.returned (.tuple #[.agg #[.string ⟨#[]⟩, .string ⟨#[]⟩, .int .i64 0, .slice none 0 0, .slice none 0 0], .int .i64 3])) w') := fun w' h hg => by
    refine rdq_no ?_ hg
    rw [hM, if_neg]
    rintro ⟨k1, k2, k3⟩
    rcases h with h | h
    · rw [hDN, k1, k2] at h
      simp at h
    · exact h k3
  have HYes : Hid (∀ w' a1 c1 a2 c2, DN = true → R = 0 → OwnLL w' w.heap.size (.slice a1 D.1.length c1) D.1 → OwnLL w' w.heap.size (.slice a2 E.1.length c2) E.1 → w.grownBy w' none → RdQ w l (.returned (.tuple #[.agg #[.string (ByteArray.mk ⟨A.1⟩), .string (ByteArray.mk ⟨B.1⟩), .int .i64 C.1, .slice a1 D.1.length c1, .slice a2 E.1.length c2], .int .i64 0])) w') := fun w' a1 c1 a2 c2 h1 h2 h3 h4 h5 => by
    have hh : readM l = (⟨A.1, B.1, C.1, D.1, E.1⟩, 0) := by
      rw [hM, if_pos]
      rw [hDN, Bool.and_eq_true, decide_eq_true_eq, decide_eq_true_eq] at h1
      exact ⟨h1.1, h1.2, h2⟩
    unfold RdQ
    rw [hh]
    exact ⟨a1, c1, a2, c2, rfl, h3, h4, h5⟩
  obtain ⟨RQ, hRQ⟩ : ∃ RQ : Ending → World → Prop, RQ = RdQ w l := ⟨_, rfl⟩
  rw [← hRQ] at HNo HYes
  rw [show (fun e w' => RdQ w l e w') = (fun e w' => RQ e w') from by rw [hRQ]]
  clear hRQ hM hP hA hB hC hD hE hR hDN HIn
  obtain ⟨va, vn, vc, rfl⟩ := hsh
  clear hv hl hT HV
  generalize ByteArray.mk ⟨A.1⟩ = ar at *
  generalize ByteArray.mk ⟨B.1⟩ = ak at *
  generalize C.1 = ct at *
  obtain ⟨lD, hlD⟩ : ∃ lD, lD = D.1 := ⟨_, rfl⟩
  obtain ⟨lE, hlE⟩ : ∃ lE, lE = E.1 := ⟨_, rfl⟩
  rw [← hlD] at HT4 HRi HYes
  rw [← hlE] at HT5 HRi HYes
  clear hlD hlE
  obtain ⟨nD, hnD⟩ : ∃ nD, lD.length = nD := ⟨_, rfl⟩
  obtain ⟨nE, hnE⟩ : ∃ nE, lE.length = nE := ⟨_, rfl⟩
  rw [hnD] at HT4 HRi HYes
  rw [hnE] at HT5 HRi HYes
  clear hnD hnE
  have k1 := World.grownBy_alloc w (.cells #[.string ⟨#[]⟩, .string ⟨#[]⟩, .int .i64 0, .slice none 0 0, .slice none 0 0] 34) none
  have HB := hidJ (And.intro (B5.new w 34 (.string ⟨#[]⟩) (.string ⟨#[]⟩) (.int .i64 0) (.slice none 0 0) (.slice none 0 0)) k1)
  have HZ : Hid ((w.alloc (.cells #[.string ⟨#[]⟩, .string ⟨#[]⟩, .int .i64 0, .slice none 0 0, .slice none 0 0] 34)).heap.size = w.heap.size + 1) := (by simp : _ = _)
  clear k1
  go_enter Tryz.func11, Tryz.ntmps11
  go_wp2_with fail
  refine (HNw.out _ HB.out.2).mono ?_
  rintro e w1 ⟨rfl, q1, q2⟩
  rw [HZ.out] at q1
  -- the mark
  have HM0 : Hid (RM w (w1.alloc (.cells #[.string ⟨#[]⟩, .string ⟨#[]⟩, .int .i64 0, .slice none 0 0, .slice none 0 0] 34)) (w.heap.size + 1) w1.heap.size (.slice va vn vc) 0 0 (.string ⟨#[]⟩) (.string ⟨#[]⟩) (.int .i64 0) (.slice none 0 0) (.slice none 0 0)) := ⟨q1.keep (World.grownBy_alloc _ _ none), (HB.out.1.keep q2).keep (World.grownBy_alloc _ _ none), B5.new w1 _ _ _ _ _ _, by omega, some_lt q1.box⟩
  clear q1 q2 HB HNw HZ
  go_wp2_with fail
  generalize w1.alloc (.cells #[.string ⟨#[]⟩, .string ⟨#[]⟩, .int .i64 0, .slice none 0 0, .slice none 0 0] 34) = W1 at *
  generalize w1.heap.size = gm at *
  generalize w.heap.size + 1 = gr at *
  refine (HT1.out _ gr HM0.out.rs).mono ?_
  rintro e w2 ⟨rfl, q1, q2⟩
  have HM1 := hidJ (HM0.out.move q1 q2)
  clear q1 q2 HM0 HT1
  obtain ⟨c0, -, -, -, -⟩ := HM1.out.mrk.cells
  obtain ⟨f0, -, -, -, -⟩ := HM1.out.mrk.froz
  go_wp2_with fail
  have HM2 := hidJ (HM1.out.put (set_ch _ gm 0 (.string ar)) (HM1.out.mrk.put0 (.string ar)))
  clear HM1 c0 f0
  generalize w2.setCell ⟨gm, 0, none⟩ (.string ar) = W2 at *
  refine (HT2.out _ gr HM2.out.rs).mono ?_
  rintro e w3 ⟨rfl, q1, q2⟩
  have HM3 := hidJ (HM2.out.move q1 q2)
  clear q1 q2 HM2 HT2
  obtain ⟨-, c1, -, -, -⟩ := HM3.out.mrk.cells
  obtain ⟨-, f1, -, -, -⟩ := HM3.out.mrk.froz
  go_wp2_with fail
  have HM4 := hidJ (HM3.out.put (set_ch _ gm 1 (.string ak)) (HM3.out.mrk.put1 (.string ak)))
  clear HM3 c1 f1
  generalize w3.setCell ⟨gm, 1, none⟩ (.string ak) = W3 at *
  refine (HT3.out _ gr HM4.out.rs).mono ?_
  rintro e w4 ⟨rfl, q1, q2⟩
  have HM5 := hidJ (HM4.out.move q1 q2)
  clear q1 q2 HM4 HT3
  obtain ⟨-, -, c2, -, -⟩ := HM5.out.mrk.cells
  obtain ⟨-, -, f2, -, -⟩ := HM5.out.mrk.froz
  go_wp2_with fail
  have HM6 := hidJ (HM5.out.put (set_ch _ gm 2 (.int .i64 ct)) (HM5.out.mrk.put2 (.int .i64 ct)))
  clear HM5 c2 f2
  generalize w4.setCell ⟨gm, 2, none⟩ (.int .i64 ct) = W4 at *
  refine (HT4.out _ gr HM6.out.rs).mono ?_
  rintro e w5 ⟨a1, e1, rfl, q0, q1, q2⟩
  have hgm : gm < W4.heap.size := some_lt HM6.out.mrk
  have HM7 := hidJ (And.intro (HM6.out.move q1 q2) (And.intro q0 (And.intro hgm q2.size)))
  clear q0 q1 q2 HM6 HT4 hgm
  obtain ⟨-, -, -, c3, -⟩ := HM7.out.1.mrk.cells
  obtain ⟨-, -, -, f3, -⟩ := HM7.out.1.mrk.froz
  go_wp2_with fail
  have hch := set_ch w5 gm 3 (.slice a1 nD e1)
  have HM8 := hidJ (And.intro (HM7.out.1.put hch (HM7.out.1.mrk.set3 (.slice a1 nD e1))) (And.intro (HM7.out.2.1.ch hch (fun k hk => by have := HM7.out.2.2.1; omega)) (And.intro HM7.out.2.2.1 (show W4.heap.size ≤ (w5.setCell ⟨gm, 3, none⟩ (.slice a1 nD e1)).heap.size by have := HM7.out.2.2.2; simpa using this))))
  clear HM7 c3 f3 hch
  generalize w5.setCell ⟨gm, 3, none⟩ (.slice a1 nD e1) = W5 at *
  generalize W4.heap.size = b4 at *
  refine (HT5.out _ gr HM8.out.1.rs).mono ?_
  rintro e w6 ⟨a2, e2, rfl, q0, q1, q2⟩
  have hgr := HM8.out.1.d2
  have HM9 := hidJ (And.intro (HM8.out.1.move q1 q2) (And.intro (HM8.out.2.1.ch (Ch.of_gb (S := fun k => k = gr) q2 (fun k hk _ => by cases hk; rfl)) (fun k hk => by have := HM8.out.2.2.1; omega)) (And.intro q0 (And.intro HM8.out.2.2.1 HM8.out.2.2.2))))
  clear q0 q1 q2 HM8 HT5 hgr
  obtain ⟨-, -, -, -, c4⟩ := HM9.out.1.mrk.cells
  obtain ⟨-, -, -, -, f4⟩ := HM9.out.1.mrk.froz
  go_wp2_with fail
  have hch := set_ch w6 gm 4 (.slice a2 nE e2)
  have HMa := hidJ (And.intro (HM9.out.1.put hch (HM9.out.1.mrk.set4 (.slice a2 nE e2))) (And.intro ((HM9.out.2.1.ch hch (fun k hk => by have := HM9.out.2.2.2.1; omega)).mono (Nat.zero_le _)) (And.intro ((HM9.out.2.2.1.ch hch (fun k hk => by have := HM9.out.2.2.2; omega)).mono (by have := HM9.out.2.2.2; have := HM9.out.1.d1; have := HM9.out.1.d2; omega : w.heap.size + 1 ≤ W5.heap.size)) ((HM9.out.2.1.ch hch (fun k hk => by have := HM9.out.2.2.2.1; omega)).mono (by have := HM9.out.2.2.2; have := HM9.out.1.d1; have := HM9.out.1.d2; omega : w.heap.size + 1 ≤ b4)))))
  clear HM9 c4 f4 hch
  generalize w6.setCell ⟨gm, 4, none⟩ (.slice a2 nE e2) = W6 at *
  refine (HT6.out _ gr HMa.out.1.rs).mono ?_
  rintro e w7 ⟨rfl, q1⟩
  have HB7 := hidJ (And.intro (HMa.out.1.mrk.keep q1) (And.intro (HMa.out.1.res.keep q1) (And.intro (gb_none HMa.out.1.rs.gb q1) (And.intro (HMa.out.2.2.2.keep q1) (And.intro (HMa.out.2.2.1.keep q1) (show ¬ gm = w.heap.size by have := HMa.out.1.d1; have := HMa.out.1.d2; omega))))))
  clear q1 HMa HT6
  cases DN
  · obtain ⟨d0, d1, d2, d3, d4⟩ := HB7.out.2.1.cells
    obtain ⟨f0, f1, f2, f3, f4⟩ := HB7.out.2.1.froz
    go_wp2
    have hB := set5_at (x := .string ⟨#[]⟩) (y := .string ⟨#[]⟩) (z := .int .i64 0) (u := .slice none 0 0) (v := .slice none 0 0) HB7.out.2.1
    obtain ⟨m0, m1, m2, m3, m4⟩ := B5.cells hB
    unfold set5 at m0 m1 m2 m3 m4
    have HF := hidJ (HNo.out _ (.inl (by first | rfl | trivial)) (gb_ch HB7.out.2.2.1 (set5_ch w7 w.heap.size (.string ⟨#[]⟩) (.string ⟨#[]⟩) (.int .i64 0) (.slice none 0 0) (.slice none 0 0)) (fun k e => by omega)))
    unfold set5 at HF
    refine bodyPost_ret (v := .tuple #[.agg #[.string ⟨#[]⟩, .string ⟨#[]⟩, .int .i64 0, .slice none 0 0, .slice none 0 0], .int .i64 3]) ?_ rfl HF.out
    simp [results, Tryz.f11, go_sem, m0, m1, m2, m3, m4]
  · obtain ⟨i0, i1, i2, i3, i4⟩ := HB7.out.1.cells
    go_wp2_with fail
    refine (HRi.out _ a1 e1 a2 e2 HB7.out.2.2.1 HB7.out.2.2.2.1.rd HB7.out.2.2.2.2.1.rd).mono ?_
    rintro e w8 ⟨rfl, q1⟩
    have HB8 := hidJ (And.intro (HB7.out.1.keep q1) (And.intro (HB7.out.2.1.keep q1) (And.intro (gb_none HB7.out.2.2.1 q1) (And.intro (HB7.out.2.2.2.1.keep q1) (And.intro (HB7.out.2.2.2.2.1.keep q1) HB7.out.2.2.2.2.2)))))
    clear q1 HB7 HRi i0 i1 i2 i3 i4
    obtain ⟨d0, d1, d2, d3, d4⟩ := HB8.out.2.1.cells
    obtain ⟨f0, f1, f2, f3, f4⟩ := HB8.out.2.1.froz
    by_cases hR0 : R = 0
    · subst hR0
      obtain ⟨i0, i1, i2, i3, i4⟩ := HB8.out.1.cells
      go_wp2
      have hB := set5_at (x := .string ar) (y := .string ak) (z := .int .i64 ct) (u := .slice a1 nD e1) (v := .slice a2 nE e2) HB8.out.2.1
      obtain ⟨m0, m1, m2, m3, m4⟩ := B5.cells hB
      unfold set5 at m0 m1 m2 m3 m4
      have hc5 := set5_ch w8 w.heap.size (.string ar) (.string ak) (.int .i64 ct) (.slice a1 nD e1) (.slice a2 nE e2)
      have HF := hidJ (HYes.out _ a1 e1 a2 e2 (by first | rfl | trivial) (by first | rfl | trivial) ((HB8.out.2.2.2.1.ch hc5 (fun k e => by omega)).mono (by omega)) ((HB8.out.2.2.2.2.1.ch hc5 (fun k e => by omega)).mono (by omega)) (gb_ch HB8.out.2.2.1 hc5 (fun k e => by omega)))
      unfold set5 at HF
      refine bodyPost_ret (v := .tuple #[.agg #[.string ar, .string ak, .int .i64 ct, .slice a1 nD e1, .slice a2 nE e2], .int .i64 0]) ?_ rfl HF.out
      simp [results, Tryz.f11, go_sem, m0, m1, m2, m3, m4]
    · have hRb : (R == 0) = false := by rw [beq_eq_false_iff_ne]; exact hR0
      go_wp2
      have hB := set5_at (x := .string ⟨#[]⟩) (y := .string ⟨#[]⟩) (z := .int .i64 0) (u := .slice none 0 0) (v := .slice none 0 0) HB8.out.2.1
      obtain ⟨m0, m1, m2, m3, m4⟩ := B5.cells hB
      unfold set5 at m0 m1 m2 m3 m4
      have HF := hidJ (HNo.out _ (.inr hR0) (gb_ch HB8.out.2.2.1 (set5_ch w8 w.heap.size (.string ⟨#[]⟩) (.string ⟨#[]⟩) (.int .i64 0) (.slice none 0 0) (.slice none 0 0)) (fun k e => by omega)))
      unfold set5 at HF
      refine bodyPost_ret (v := .tuple #[.agg #[.string ⟨#[]⟩, .string ⟨#[]⟩, .int .i64 0, .slice none 0 0, .slice none 0 0], .int .i64 3]) ?_ rfl HF.out
      simp [results, Tryz.f11, go_sem, m0, m1, m2, m3, m4]
end Go.Proofs.YtpglhdnepmcahaaGreatDoor
