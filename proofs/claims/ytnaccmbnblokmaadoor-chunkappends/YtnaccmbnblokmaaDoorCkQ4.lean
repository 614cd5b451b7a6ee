/-
  A chunk's reader: what turn comes to: the walk.
-/
import Derived.Test.YtnaccmbnblokmaaDoorCkQ3
namespace Go.Proofs.YtnaccmbnblokmaaDoor
open Go.RowKit
variable {B : Nat}

theorem trnO_one {L : List UInt8} {s k p p1 : Nat} (h : tkO L s p 1 = some (1, p1)) : trnO L s (k + 1) p = match trnO L s k p1 with | none => none | some (j, p2) => some (j + 1, p2) := by
  rw [trnO, h]
  simp only [if_true]
  cases trnO L s k p1 <;> rfl
theorem trnO_end {L : List UInt8} {s k p p1 x : Nat} (h : tkO L s p 1 = some (x, p1)) (hx : x ≠ 1) : trnO L s (k + 1) p = some (0, p1) := by
  rw [trnO, h]
  simp only [if_neg hx]
theorem trnO_none {L : List UInt8} {s k p : Nat} (h : tkO L s p 1 = none) : trnO L s (k + 1) p = none := by
  rw [trnO, h]
def TrnI (L : List UInt8) (s p z q : Nat) : Prop := trnO L s 4 p = match trnO L s (4 - z) q with | none => none | some (j, p2) => some (j + z, p2)
theorem TrnI.start (L : List UInt8) (s p : Nat) : TrnI L s p 0 p := by
  unfold TrnI
  cases trnO L s (4 - 0) p with
  | none => rfl
  | some r => rfl
theorem TrnI.step {L : List UInt8} {s p z q p1 : Nat} (h : TrnI L s p z q) (hz : z < 4) (ht : tkO L s q 1 = some (1, p1)) : TrnI L s p (z + 1) p1 := by
  unfold TrnI at *
  obtain ⟨k, hk⟩ : ∃ k, 4 - z = k + 1 := ⟨3 - z, by omega⟩
  rw [h, hk, show 4 - (z + 1) = k by omega, trnO_one ht]
  cases trnO L s k p1 with
  | none => rfl
  | some r => simp only [Option.some.injEq, Prod.mk.injEq, and_true]; omega
theorem TrnI.full {L : List UInt8} {s p q : Nat} (h : TrnI L s p 4 q) : trnO L s 4 p = some (4, q) := by
  unfold TrnI at h
  rw [h]
  rfl
theorem TrnI.last {L : List UInt8} {s p z q p1 x : Nat} (h : TrnI L s p z q) (hz : z < 4) (ht : tkO L s q 1 = some (x, p1)) (hx : x ≠ 1) : trnO L s 4 p = some (z, p1) := by
  unfold TrnI at h
  obtain ⟨k, hk⟩ : ∃ k, 4 - z = k + 1 := ⟨3 - z, by omega⟩
  rw [h, hk, trnO_end ht hx]
  simp
theorem TrnI.none {L : List UInt8} {s p z q : Nat} (h : TrnI L s p z q) (hz : z < 4) (ht : tkO L s q 1 = .none) : trnO L s 4 p = .none := by
  unfold TrnI at h
  obtain ⟨k, hk⟩ : ∃ k, 4 - z = k + 1 := ⟨3 - z, by omega⟩
  rw [h, hk, trnO_none ht]
theorem TabC.ch {w w' : World} {S : Nat → Prop} (h : TabC w) (hc : Ch w w' S) (hf : ¬ S 1) : TabC w' := fun j hj => by
  rw [← h j hj]
  exact World.cell?_of_block (hc.block (block_lt (h j hj)) hf)

set_option maxRecDepth 8000 in
set_option maxHeartbeats 3200000 in
theorem turnR_any (w0 w : World) (gR p s : Nat) (ptr : Value) (R : Rst) (fl : Bool) (L : List UInt8) (h : RC B w0 w gR ptr R fl L p s) (hT : TabC w0) :
    Calls Tryd.prog 92 #[.pointer (some ⟨gR, 0, none⟩)] w fun e w' => ∃ (d : Int) (p' : Nat) (fl' : Bool), e = .returned (.int .i64 d) ∧ RC B w0 w' gR ptr R fl' L p' s ∧ Rdg (turnO L s p) fl d p' fl' ∧ Ch w w' (RSt gR ptr) := by
  have HR := hidJ (And.intro h hT)
  clear h hT
  go_enter Tryd.func92, Tryd.ntmps92
  go_wp2
  go_loopw [3] (fun i wr => ∃ z : Nat, z ≤ 4 ∧ i = .int .i64 z ∧ Hid (∃ q, RC B w0 wr gR ptr R fl L q s ∧ TrnI L s p z q ∧ Ch w wr (RSt gR ptr))) (fun i _ => 4 - (intOf i).toNat)
  case atStart => exact ⟨0, by omega, rfl, p, HR.out.1, TrnI.start _ _ _, Ch.refl _ _⟩
  case round =>
    obtain ⟨z, hz, rfl, hr⟩ := hrel
    by_cases hlt : z < 4
    · have hzi : (z : Int) < 4 := by omega
      have HT : Hid (Calls Tryd.prog 89 #[.pointer (some ⟨gR, 0, none⟩), .int .i64 1] wr fun e w' => ∃ (x : Nat), e = .returned (.int .u64 (x : Int)) ∧ Hid (∃ q p' fl', RC B w0 w' gR ptr R fl' L p' s ∧ TrnI L s p z q ∧ Tkn L s q 1 fl x p' fl' ∧ Ch w w' (RSt gR ptr))) := by
        obtain ⟨q, h1, h2, h3⟩ := hr.out
        refine (take_any w0 wr gR q s 1 ptr R fl L h1 (by omega) (.inr (.inl (by omega)))).mono ?_
        rintro e w' ⟨x, p', fl', g1, g2, g3, g4⟩
        exact ⟨x, g1, q, p', fl', g2, h2, g3, h3.trans g4 (fun _ _ e => e)⟩
      clear hr
      go_wp2_with fail
      refine HT.out.mono ?_
      rintro e W1 ⟨x, rfl, H1⟩
      clear HT
      by_cases hx : x = 1
      · subst hx
        have H2 : Hid (∃ q, RC B w0 W1 gR ptr R fl L q s ∧ TrnI L s p (z + 1) q ∧ Ch w W1 (RSt gR ptr)) := by
          obtain ⟨q, p', fl', h1, h2, h3, h4⟩ := H1.out
          rcases h3 with ⟨e1, e2⟩ | ⟨-, e1, -⟩
          · rw [e2] at h1
            exact ⟨p', h1, h2.step hlt e1, h4⟩
          · cases e1
        clear H1
        go_wp2
        go_roundw
        case rel => exact ⟨z + 1, by omega, by go_num, H2⟩
        case measure => simp [intOf]; omega
      · have hxb : ((x : Int) == 1) = false := by rw [beq_eq_false_iff_ne]; omega
        have hxi : ¬ (x : Int) = 1 := by omega
        have HX1 : Hid (∃ q1 fl1, RC B w0 W1 gR ptr R fl1 L q1 s ∧ ((trnO L s 4 p = some (z, q1) ∧ fl1 = fl) ∨ (trnO L s 4 p = none ∧ fl1 = true)) ∧ Ch w W1 (RSt gR ptr) ∧ (0 < s ∨ 1 ≤ tw z ∨ fl1 = true)) := by
          obtain ⟨q, p', fl', h1, h2, h3, h4⟩ := H1.out
          rcases h3 with ⟨e1, e2⟩ | ⟨e1, -, -, e2⟩
          · exact ⟨p', fl', h1, .inl ⟨h2.last hlt e1 hx, e2⟩, h4, .inl (by have := tkO_lt e1; omega)⟩
          · exact ⟨p', fl', h1, .inr ⟨h2.none hlt e1, e2⟩, h4, .inr (.inr e2)⟩
        have HTb1 : Hid (TabC W1) := by
          obtain ⟨q, p', fl', h1, -⟩ := H1.out
          exact HR.out.2.keep h1.kept
        clear H1
        have hzb : z ≤ 4 := by omega
        have t0 : W1.cell? ⟨1, z, none⟩ = some (.int .i64 (tw z : Int)) := HTb1.out z (by omega)
        have HT2 : Hid (Calls Tryd.prog 89 #[.pointer (some ⟨gR, 0, none⟩), .int .i64 (tw z : Int)] W1 fun e w' => ∃ (x : Nat), e = .returned (.int .u64 (x : Int)) ∧ x < 2 ^ tw z ∧ Hid (∃ (p' : Nat) (fl' : Bool), RC B w0 w' gR ptr R fl' L p' s ∧ Rdg (turnO L s p) fl (ofRk x (tw z)) p' fl' ∧ Ch w w' (RSt gR ptr))) := by
          obtain ⟨q1, fl1, e1, e2, e3, e4⟩ := HX1.out
          refine (take_any w0 W1 gR q1 s (tw z) ptr R fl1 L e1 (tw_le z) e4).mono ?_
          rintro e w' ⟨x, p', fl', g1, g2, g3, g4⟩
          refine ⟨x, g1, g3.lt, p', fl', g2, ?_, e3.trans g4 (fun _ _ e => e)⟩
          unfold turnO
          rcases e2 with ⟨r1, r2⟩ | ⟨r1, r2⟩
          · rw [r1]
            simp only
            rcases g3 with ⟨k1, k2⟩ | ⟨k1, -, -, k2⟩
            · rw [k1]
              exact .inl ⟨rfl, by rw [k2, r2]⟩
            · rw [k1]
              exact .inr ⟨rfl, k2⟩
          · rw [r1]
            refine .inr ⟨rfl, ?_⟩
            rcases g3 with ⟨-, k2⟩ | ⟨-, -, -, k2⟩
            · rw [k2, r2]
            · exact k2
        have HOf : Hid (∀ x W, x < 2 ^ tw z → Calls Tryd.prog 104 #[.int .u64 ((x : Nat) : Int), .int .i64 (tw z : Int)] W fun e w' => e = .returned (.int .i64 (ofRk x (tw z))) ∧ w' = W) := fun x W hx => ofR_any x (tw z) (tw_two z hzb) hx W
        generalize tw z = wz at *
        go_wp2_with fail
        refine HT2.out.mono ?_
        rintro e w3 ⟨x3, rfl, hx3, H3⟩
        clear HT2
        go_wp2_with fail
        refine (HOf.out _ _ hx3).mono ?_
        rintro e w4 ⟨rfl, hw4⟩
        have hw4 := hw4.symm
        subst hw4
        clear HOf hx3
        generalize ofRk x3 wz = d3 at *
        go_wp2
        go_ret
        obtain ⟨p', fl', k1, k2, k3⟩ := H3.out
        exact ⟨_, p', fl', rfl, k1, k2, k3⟩
    · have hzi : ¬ (z : Int) < 4 := by omega
      have HX2 : Hid (∃ q1 fl1, RC B w0 wr gR ptr R fl1 L q1 s ∧ ((trnO L s 4 p = some (z, q1) ∧ fl1 = fl) ∨ (trnO L s 4 p = none ∧ fl1 = true)) ∧ Ch w wr (RSt gR ptr) ∧ (0 < s ∨ 1 ≤ tw z ∨ fl1 = true)) := by
        obtain rfl : z = 4 := by omega
        obtain ⟨q, h1, h2, h3⟩ := hr.out
        exact ⟨q, fl, h1, .inl ⟨h2.full, rfl⟩, h3, .inr (.inl (by decide))⟩
      have HTb2 : Hid (TabC wr) := by
        obtain ⟨q, h1, -⟩ := hr.out
        exact HR.out.2.keep h1.kept
      clear hr
      have hzb : z ≤ 4 := by omega
      have t0 : wr.cell? ⟨1, z, none⟩ = some (.int .i64 (tw z : Int)) := HTb2.out z (by omega)
      have HT2 : Hid (Calls Tryd.prog 89 #[.pointer (some ⟨gR, 0, none⟩), .int .i64 (tw z : Int)] wr fun e w' => ∃ (x : Nat), e = .returned (.int .u64 (x : Int)) ∧ x < 2 ^ tw z ∧ Hid (∃ (p' : Nat) (fl' : Bool), RC B w0 w' gR ptr R fl' L p' s ∧ Rdg (turnO L s p) fl (ofRk x (tw z)) p' fl' ∧ Ch w w' (RSt gR ptr))) := by
        obtain ⟨q1, fl1, e1, e2, e3, e4⟩ := HX2.out
        refine (take_any w0 wr gR q1 s (tw z) ptr R fl1 L e1 (tw_le z) e4).mono ?_
        rintro e w' ⟨x, p', fl', g1, g2, g3, g4⟩
        refine ⟨x, g1, g3.lt, p', fl', g2, ?_, e3.trans g4 (fun _ _ e => e)⟩
        unfold turnO
        rcases e2 with ⟨r1, r2⟩ | ⟨r1, r2⟩
        · rw [r1]
          simp only
          rcases g3 with ⟨k1, k2⟩ | ⟨k1, -, -, k2⟩
          · rw [k1]
            exact .inl ⟨rfl, by rw [k2, r2]⟩
          · rw [k1]
            exact .inr ⟨rfl, k2⟩
        · rw [r1]
          refine .inr ⟨rfl, ?_⟩
          rcases g3 with ⟨-, k2⟩ | ⟨-, -, -, k2⟩
          · rw [k2, r2]
          · exact k2
      have HOf : Hid (∀ x W, x < 2 ^ tw z → Calls Tryd.prog 104 #[.int .u64 ((x : Nat) : Int), .int .i64 (tw z : Int)] W fun e w' => e = .returned (.int .i64 (ofRk x (tw z))) ∧ w' = W) := fun x W hx => ofR_any x (tw z) (tw_two z hzb) hx W
      generalize tw z = wz at *
      go_wp2_with fail
      refine HT2.out.mono ?_
      rintro e w3 ⟨x3, rfl, hx3, H3⟩
      clear HT2
      go_wp2_with fail
      refine (HOf.out _ _ hx3).mono ?_
      rintro e w4 ⟨rfl, hw4⟩
      have hw4 := hw4.symm
      subst hw4
      clear HOf hx3
      generalize ofRk x3 wz = d3 at *
      go_wp2
      go_ret
      obtain ⟨p', fl', k1, k2, k3⟩ := H3.out
      exact ⟨_, p', fl', rfl, k1, k2, k3⟩
end Go.Proofs.YtnaccmbnblokmaaDoor
