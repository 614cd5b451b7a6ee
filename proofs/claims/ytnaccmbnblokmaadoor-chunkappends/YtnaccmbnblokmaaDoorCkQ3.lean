/-
  A chunk's reader: what time, gap, ofR and turn come to: the walks.
-/
import Derived.Test.YtnaccmbnblokmaaDoorCkQ2
namespace Go.Proofs.YtnaccmbnblokmaaDoor
open Go.RowKit
variable {B : Nat}

def timeZ (L : List UInt8) (s p : Nat) : Option (Int × Nat) := match numO L s (s / 8 + 1) p with
  | none => none
  | some (bs, p1) => if (uSpec bs 0).2.2 = 0 then some (uz (BitVec.ofNat 64 (uSpec bs 0).1).toNat, p1) else none
def gapZ (L : List UInt8) (s p : Nat) : Option (Int × Nat) := match numO L s (s / 8 + 1) p with
  | none => none
  | some (bs, p1) => if (uSpec bs 0).2.2 = 0 then some (wrap64 (I64 (BitVec.ofNat 64 (uSpec bs 0).1)), p1) else none
theorem RC.ofCh {w w' : World} {gR : Nat} {ptr : Value} (h : Ch w w' (RSt gR ptr)) (W : World) (hW : W = w') : Ch w W (RSt gR ptr) := by rw [hW]; exact h
/-- the fault is written -/
theorem RC.fault {w0 w : World} {gR p s : Nat} {ptr : Value} {R : Rst} {fl : Bool} {L : List UInt8} (h : RC B w0 w gR ptr R fl L p s) (b : Bool) : RC B w0 (w.setCell ⟨gR, 8, none⟩ (.bool b)) gR ptr R b L p s := by
  refine h.turned ?_ (gb_set _ _ _ _)
  have := heap_setCell_same w gR 8 _ _ (.bool b) h.box
  rw [this]
  rfl

set_option maxHeartbeats 1600000 in
theorem time_any (w0 w : World) (gR p s : Nat) (ptr : Value) (R : Rst) (fl : Bool) (L : List UInt8) (h : RC B w0 w gR ptr R fl L p s) (hB : B ≤ w.heap.size) :
    Calls Tryd.prog 88 #[.pointer (some ⟨gR, 0, none⟩)] w fun e w' => ∃ (T : Int) (p' : Nat) (fl' : Bool), e = .returned (.int .i64 T) ∧ (-9223372036854775808 ≤ T ∧ T ≤ 9223372036854775807) ∧ RC B w0 w' gR ptr R fl' L p' s ∧ Rdg (timeZ L s p) fl T p' fl' ∧ Ch w w' (RSt gR ptr) := by
  have HN := hidJ (number_any w0 w gR p s ptr R fl L h hB)
  clear h
  go_enter Tryd.func88, Tryd.ntmps88
  go_wp2_with fail
  refine HN.out.mono ?_
  rintro e w1 ⟨v, bs, p', fl1, rfl, h1, h2, h3, h4⟩
  have HI := hidJ (i_any v bs 0 w1 h1.rd)
  obtain ⟨a, c, rfl⟩ := h1.shape
  unfold tup3i at HI
  have HZ : Hid (∀ b, b = (fl1 || !((uSpec bs 0).2.2 == 0)) → Rdg (timeZ L s p) fl (uz (BitVec.ofNat 64 (uSpec bs 0).1).toNat) p' b) := by
    intro b hb
    unfold timeZ
    rcases h3 with ⟨e1, e2⟩ | ⟨e1, e2⟩
    · rw [e1]
      simp only
      by_cases h0 : (uSpec bs 0).2.2 = 0
      · rw [if_pos h0]
        exact .inl ⟨rfl, by rw [hb, h0, e2]; simp⟩
      · rw [if_neg h0]
        exact .inr ⟨rfl, by rw [hb]; simp [h0]⟩
    · rw [e1]
      exact .inr ⟨rfl, by rw [hb, e2]; simp⟩
  have hTb : -9223372036854775808 ≤ uz (BitVec.ofNat 64 (uSpec bs 0).1).toNat ∧ uz (BitVec.ofNat 64 (uSpec bs 0).1).toNat ≤ 9223372036854775807 := by
    have := (BitVec.ofNat 64 (uSpec bs 0).1).isLt
    unfold uz
    split <;> omega
  have H1 := hidJ (And.intro h2 h4)
  have hc := h2.cell
  have c8 := hc.2.2.2.2.2.2.2.2.1
  have f8 := hc.2.2.2.2.2.2.2.2.2 8
  clear h1 h2 h3 h4 hc HN
  generalize uz (BitVec.ofNat 64 (uSpec bs 0).1).toNat = T at *
  generalize (uSpec bs 0).2.1 = r2 at *
  generalize (uSpec bs 0).2.2 = r3 at *
  go_wp2_with fail
  refine HI.out.mono ?_
  rintro e w2 ⟨rfl, hw2⟩
  have hw2 := hw2.symm
  subst hw2
  have HE : Hid (∀ b, b = (fl1 || !(r3 == 0)) → ∃ (T' : Int) (p'' : Nat) (fl' : Bool), Ending.returned (.int .i64 T) = .returned (.int .i64 T') ∧ (-9223372036854775808 ≤ T' ∧ T' ≤ 9223372036854775807) ∧ RC B w0 (w1.setCell ⟨gR, 8, none⟩ (.bool b)) gR ptr R fl' L p'' s ∧ Rdg (timeZ L s p) fl T' p'' fl' ∧ Ch w (w1.setCell ⟨gR, 8, none⟩ (.bool b)) (RSt gR ptr)) := by
    intro b hb
    exact ⟨T, p', b, rfl, hTb, H1.out.1.fault b, HZ.out b hb, H1.out.2.trans (RC.ch (gb_set _ _ _ _)) (fun _ _ e => e)⟩
  clear HI HZ H1
  cases fl1 with
  | true =>
    go_wp2
    go_ret
    exact HE.out _ (by simp)
  | false =>
    by_cases h0 : r3 = 0
    · subst h0
      go_wp2
      go_ret
      exact HE.out _ (by simp)
    · have hcb : (r3 == 0) = false := by rw [beq_eq_false_iff_ne]; exact h0
      have hcn : (r3 != 0) = true := by simp [h0]
      go_wp2
      go_ret
      exact HE.out _ (by simp [h0])

set_option maxHeartbeats 1600000 in
theorem gap_any (w0 w : World) (gR p s : Nat) (ptr : Value) (R : Rst) (fl : Bool) (L : List UInt8) (h : RC B w0 w gR ptr R fl L p s) (hB : B ≤ w.heap.size) :
    Calls Tryd.prog 90 #[.pointer (some ⟨gR, 0, none⟩)] w fun e w' => ∃ (T : Int) (p' : Nat) (fl' : Bool), e = .returned (.int .i64 T) ∧ (-9223372036854775808 ≤ T ∧ T ≤ 9223372036854775807) ∧ RC B w0 w' gR ptr R fl' L p' s ∧ Rdg (gapZ L s p) fl T p' fl' ∧ Ch w w' (RSt gR ptr) := by
  have HN := hidJ (number_any w0 w gR p s ptr R fl L h hB)
  clear h
  go_enter Tryd.func90, Tryd.ntmps90
  go_wp2_with fail
  refine HN.out.mono ?_
  rintro e w1 ⟨v, bs, p', fl1, rfl, h1, h2, h3, h4⟩
  have HI := hidJ (u_any v bs 0 w1 h1.rd)
  obtain ⟨a, c, rfl⟩ := h1.shape
  unfold tup3 at HI
  have HZ : Hid (∀ b, b = (fl1 || !((uSpec bs 0).2.2 == 0)) → Rdg (gapZ L s p) fl (wrap64 (I64 (BitVec.ofNat 64 (uSpec bs 0).1))) p' b) := by
    intro b hb
    unfold gapZ
    rcases h3 with ⟨e1, e2⟩ | ⟨e1, e2⟩
    · rw [e1]
      simp only
      by_cases h0 : (uSpec bs 0).2.2 = 0
      · rw [if_pos h0]
        exact .inl ⟨rfl, by rw [hb, h0, e2]; simp⟩
      · rw [if_neg h0]
        exact .inr ⟨rfl, by rw [hb]; simp [h0]⟩
    · rw [e1]
      exact .inr ⟨rfl, by rw [hb, e2]; simp⟩
  have HTb : Hid (-9223372036854775808 ≤ wrap64 (I64 (BitVec.ofNat 64 (uSpec bs 0).1)) ∧ wrap64 (I64 (BitVec.ofNat 64 (uSpec bs 0).1)) ≤ 9223372036854775807) := by
    show -9223372036854775808 ≤ wrap64 (I64 (BitVec.ofNat 64 (uSpec bs 0).1)) ∧ wrap64 (I64 (BitVec.ofNat 64 (uSpec bs 0).1)) ≤ 9223372036854775807
    unfold wrap64
    omega
  have H1 := hidJ (And.intro h2 h4)
  have hc := h2.cell
  have c8 := hc.2.2.2.2.2.2.2.2.1
  have f8 := hc.2.2.2.2.2.2.2.2.2 8
  clear h1 h2 h3 h4 hc HN
  generalize BitVec.ofNat 64 (uSpec bs 0).1 = U at *
  generalize (uSpec bs 0).2.1 = r2 at *
  generalize (uSpec bs 0).2.2 = r3 at *
  go_wp2_with fail
  refine HI.out.mono ?_
  rintro e w2 ⟨rfl, hw2⟩
  have hw2 := hw2.symm
  subst hw2
  have HE : Hid (∀ b, b = (fl1 || !(r3 == 0)) → ∃ (T' : Int) (p'' : Nat) (fl' : Bool), Ending.returned (.int .i64 (wrap64 (I64 U))) = .returned (.int .i64 T') ∧ (-9223372036854775808 ≤ T' ∧ T' ≤ 9223372036854775807) ∧ RC B w0 (w1.setCell ⟨gR, 8, none⟩ (.bool b)) gR ptr R fl' L p'' s ∧ Rdg (gapZ L s p) fl T' p'' fl' ∧ Ch w (w1.setCell ⟨gR, 8, none⟩ (.bool b)) (RSt gR ptr)) := by
    intro b hb
    exact ⟨_, p', b, rfl, HTb.out, H1.out.1.fault b, HZ.out b hb, H1.out.2.trans (RC.ch (gb_set _ _ _ _)) (fun _ _ e => e)⟩
  clear HI HZ H1
  cases fl1 with
  | true =>
    go_wp2
    go_ret
    exact HE.out _ (by simp)
  | false =>
    by_cases h0 : r3 = 0
    · subst h0
      go_wp2
      go_ret
      exact HE.out _ (by simp)
    · have hcb : (r3 == 0) = false := by rw [beq_eq_false_iff_ne]; exact h0
      have hcn : (r3 != 0) = true := by simp [h0]
      go_wp2
      go_ret
      exact HE.out _ (by simp [h0])

theorem tw_two (z : Nat) (h : z ≤ 4) : tw z = 0 ∨ tw z = 14 ∨ tw z = 17 ∨ tw z = 20 ∨ tw z = 64 := by
  rcases (show z = 0 ∨ z = 1 ∨ z = 2 ∨ z = 3 ∨ z = 4 by omega) with rfl | rfl | rfl | rfl | rfl <;> simp [tw]
theorem ofR_any (v k : Nat) (hk : k = 0 ∨ k = 14 ∨ k = 17 ∨ k = 20 ∨ k = 64) (hv : v < 2 ^ k) (w : World) :
    Calls Tryd.prog 104 #[.int .u64 (v : Int), .int .i64 (k : Int)] w fun e w' => e = .returned (.int .i64 (ofRk v k)) ∧ w' = w := by
  rcases hk with rfl | rfl | rfl | rfl | rfl
  · obtain rfl : v = 0 := by simpa using hv
    go_enter Tryd.func104, Tryd.ntmps104
    go_wp2
    go_ret
    exact ⟨rfl, rfl⟩
  · show Calls Tryd.prog 104 #[.int .u64 (v : Int), .int .i64 14] w _
    have hv2 : v < 16384 := hv
    by_cases h1 : (8192 : Int) < (v : Int)
    · have HE : Hid ((v : Int) - 16384 = ofRk v 14) := by
        show (v : Int) - 16384 = ofRk v 14
        unfold ofRk
        rw [if_neg (by decide), if_pos (by simp only [show (2 : Nat) ^ (14 - 1) = 8192 by decide]; omega)]
        simp only [show (2 : Nat) ^ 14 = 16384 by decide]
        omega
      generalize ofRk v 14 = r at *
      go_enter Tryd.func104, Tryd.ntmps104
      go_wp2
      go_ret
      exact ⟨ret_int HE.out, rfl⟩
    · have HE : Hid ((v : Int) = ofRk v 14) := by
        show (v : Int) = ofRk v 14
        unfold ofRk
        rw [if_neg (by decide), if_neg (by simp only [show (2 : Nat) ^ (14 - 1) = 8192 by decide]; omega)]
      generalize ofRk v 14 = r at *
      go_enter Tryd.func104, Tryd.ntmps104
      go_wp2
      go_ret
      exact ⟨ret_int HE.out, rfl⟩
  · show Calls Tryd.prog 104 #[.int .u64 (v : Int), .int .i64 17] w _
    have hv2 : v < 131072 := hv
    by_cases h1 : (65536 : Int) < (v : Int)
    · have HE : Hid ((v : Int) - 131072 = ofRk v 17) := by
        show (v : Int) - 131072 = ofRk v 17
        unfold ofRk
        rw [if_neg (by decide), if_pos (by simp only [show (2 : Nat) ^ (17 - 1) = 65536 by decide]; omega)]
        simp only [show (2 : Nat) ^ 17 = 131072 by decide]
        omega
      generalize ofRk v 17 = r at *
      go_enter Tryd.func104, Tryd.ntmps104
      go_wp2
      go_ret
      exact ⟨ret_int HE.out, rfl⟩
    · have HE : Hid ((v : Int) = ofRk v 17) := by
        show (v : Int) = ofRk v 17
        unfold ofRk
        rw [if_neg (by decide), if_neg (by simp only [show (2 : Nat) ^ (17 - 1) = 65536 by decide]; omega)]
      generalize ofRk v 17 = r at *
      go_enter Tryd.func104, Tryd.ntmps104
      go_wp2
      go_ret
      exact ⟨ret_int HE.out, rfl⟩
  · show Calls Tryd.prog 104 #[.int .u64 (v : Int), .int .i64 20] w _
    have hv2 : v < 1048576 := hv
    by_cases h1 : (524288 : Int) < (v : Int)
    · have HE : Hid ((v : Int) - 1048576 = ofRk v 20) := by
        show (v : Int) - 1048576 = ofRk v 20
        unfold ofRk
        rw [if_neg (by decide), if_pos (by simp only [show (2 : Nat) ^ (20 - 1) = 524288 by decide]; omega)]
        simp only [show (2 : Nat) ^ 20 = 1048576 by decide]
        omega
      generalize ofRk v 20 = r at *
      go_enter Tryd.func104, Tryd.ntmps104
      go_wp2
      go_ret
      exact ⟨ret_int HE.out, rfl⟩
    · have HE : Hid ((v : Int) = ofRk v 20) := by
        show (v : Int) = ofRk v 20
        unfold ofRk
        rw [if_neg (by decide), if_neg (by simp only [show (2 : Nat) ^ (20 - 1) = 524288 by decide]; omega)]
      generalize ofRk v 20 = r at *
      go_enter Tryd.func104, Tryd.ntmps104
      go_wp2
      go_ret
      exact ⟨ret_int HE.out, rfl⟩
  · show Calls Tryd.prog 104 #[.int .u64 (v : Int), .int .i64 64] w _
    have HE : Hid (wrap64 (v : Int) = ofRk v 64) := by
      show wrap64 (v : Int) = ofRk v 64
      unfold ofRk
      rw [if_pos rfl]
    generalize ofRk v 64 = r at *
    go_enter Tryd.func104, Tryd.ntmps104
    go_wp2
    go_ret
    exact ⟨ret_int HE.out, rfl⟩
end Go.Proofs.YtnaccmbnblokmaaDoor
