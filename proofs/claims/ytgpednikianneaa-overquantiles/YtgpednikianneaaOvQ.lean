/-
  What + - * / of floats give, in whatever world: the NaN among all NaNs stands for each of them.
-/
import Derived.Test.YtgpednikianneaaOvH
namespace Go.Proofs.Ytgpednikianneaa
open Go.RowKit

/-- each NaN made one -/
def cz (a : Nat) : Nat := if nanB a = true then 9221120237041090561 else a
theorem cz_told (a : Nat) : toldN a = cz a := rfl
theorem cz_nan {a : Nat} (h : nanB a = true) : cz a = 9221120237041090561 := by unfold cz; rw [if_pos h]
theorem cz_num {a : Nat} (h : nanB a = false) : cz a = a := by unfold cz; rw [h]; rfl
theorem nan_one : nanB 9221120237041090561 = true := by decide
theorem nanB_cz (a : Nat) : nanB (cz a) = nanB a := by
  cases h : nanB a with
  | true => rw [cz_nan h]; exact nan_one
  | false => rw [cz_num h]; exact h
theorem cz_cz (a : Nat) : cz (cz a) = cz a := by
  cases h : nanB a with
  | true => rw [cz_nan h, cz_nan nan_one]
  | false => rw [cz_num h, cz_num h]
/-- how two stand to each other hangs on nothing else -/
theorem fo_cz (a b : Nat) : fo (cz a) (cz b) = fo a b := by
  cases ha : nanB a with
  | true =>
    rw [(fo_none a b).2 (.inl ha), (fo_none _ _).2 (.inl (by rw [nanB_cz]; exact ha))]
  | false =>
    cases hb : nanB b with
    | true => rw [(fo_none a b).2 (.inr hb), (fo_none _ _).2 (.inr (by rw [nanB_cz]; exact hb))]
    | false => rw [cz_num ha, cz_num hb]
theorem write_num (d : Ieee.Datum) (h : d.isNaN = false) : nanB (FloatKind.f64.format.write d) = false := by
  have key : ∀ neg rung, rung ≤ 9218868437227405312 → nanB (FloatKind.f64.format.word neg rung) = false := fun neg rung hr => by
    rw [nanB_iff]
    unfold Ieee.Format.word Ieee.Format.read
    have hlp : FloatKind.f64.format.leastPlace = -1074 := by decide
    have hbn : FloatKind.f64.format.binade = 4503599627370496 := by decide
    have hir : FloatKind.f64.format.infRung = 9218868437227405312 := by decide
    have hsw : FloatKind.f64.format.signWeight = 9223372036854775808 := by decide
    rw [hlp, hbn, hir, hsw]
    have a2 : (if neg = true then 9223372036854775808 + rung else rung) % 9223372036854775808 = rung := by
      split <;> omega
    simp only [a2]
    split
    · rfl
    · split
      · rfl
      · rw [if_pos (by omega)]
        rfl
  have hir : FloatKind.f64.format.infRung = 9218868437227405312 := by decide
  cases d with
  | number neg mag place =>
    show nanB (FloatKind.f64.format.nearest neg mag place) = false
    unfold Ieee.Format.nearest
    dsimp only
    split
    · exact key _ _ (by omega)
    · exact key _ _ (by rw [hir]; exact Nat.min_le_right _ _)
  | infinity neg => exact key _ _ (by rw [hir]; exact Nat.le_refl _)
  | nan neg t => cases h
/-- an operation's answer, its NaN the one -/
def fopC (op : BinOp) (a b : Nat) : Nat := match floatBits op .f64 a b with | some r => r | none => 9221120237041090561
def Ar (op : BinOp) : Prop := op = .add ∨ op = .sub ∨ op = .mul ∨ op = .quo
theorem dat_sum_nan (d e : Ieee.Datum) : (d.isNaN = true ∨ e.isNaN = true → d.sum e = none) ∧ ∀ r, d.sum e = some r → r.isNaN = false := by
  cases d <;> cases e <;> simp [Ieee.Datum.sum, Ieee.Datum.isNaN]
theorem dat_product_nan (d e : Ieee.Datum) : (d.isNaN = true ∨ e.isNaN = true → d.product e = none) ∧ ∀ r, d.product e = some r → r.isNaN = false := by
  cases d <;> cases e <;> simp [Ieee.Datum.product, Ieee.Datum.isNaN]
theorem dat_quotient_nan (k : Nat) (d e : Ieee.Datum) : (d.isNaN = true ∨ e.isNaN = true → d.quotient k e = none) ∧ ∀ r, d.quotient k e = some r → r.isNaN = false := by
  cases d <;> cases e <;> simp only [Ieee.Datum.quotient, Ieee.Datum.isNaN] <;> (refine ⟨?_, ?_⟩ <;> (try simp) <;> (intro r h) <;> (repeat' split at h) <;> simp_all)
  all_goals (subst_vars; rfl)
theorem nan_opposite (d : Ieee.Datum) : d.opposite.isNaN = d.isNaN := by cases d <;> rfl
theorem bits_nan {op : BinOp} (ho : Ar op) {a b : Nat} (h : nanB a = true ∨ nanB b = true) : floatBits op .f64 a b = none := by
  rw [nanB_iff, nanB_iff] at h
  rcases ho with rfl | rfl | rfl | rfl
  · show (Ieee.Datum.sum _ _).map _ = none
    rw [(dat_sum_nan _ _).1 h]; rfl
  · show (Ieee.Datum.sum _ _).map _ = none
    rw [(dat_sum_nan _ _).1 (by rw [nan_opposite]; exact h)]; rfl
  · show (Ieee.Datum.product _ _).map _ = none
    rw [(dat_product_nan _ _).1 h]; rfl
  · show (Ieee.Datum.quotient _ _ _).map _ = none
    rw [(dat_quotient_nan _ _ _).1 h]; rfl
theorem bits_num {op : BinOp} (ho : Ar op) {a b r : Nat} (h : floatBits op .f64 a b = some r) : nanB r = false := by
  rcases ho with rfl | rfl | rfl | rfl
  · change (Ieee.Datum.sum _ _).map _ = some r at h
    obtain ⟨d, hd, rfl⟩ := Option.map_eq_some_iff.1 h
    exact write_num d ((dat_sum_nan _ _).2 d hd)
  · change (Ieee.Datum.sum _ _).map _ = some r at h
    obtain ⟨d, hd, rfl⟩ := Option.map_eq_some_iff.1 h
    exact write_num d ((dat_sum_nan _ _).2 d hd)
  · change (Ieee.Datum.product _ _).map _ = some r at h
    obtain ⟨d, hd, rfl⟩ := Option.map_eq_some_iff.1 h
    exact write_num d ((dat_product_nan _ _).2 d hd)
  · change (Ieee.Datum.quotient _ _ _).map _ = some r at h
    obtain ⟨d, hd, rfl⟩ := Option.map_eq_some_iff.1 h
    exact write_num d ((dat_quotient_nan _ _ _).2 d hd)
/-- the answer's bits, and the world behind -/
def fres (W : World) (op : BinOp) (a b : Nat) : Nat := match floatBits op .f64 a b with | some r => r | none => (Question.nanBits .f64 a b).cut (W.tape W.drawn (.nanBits .f64 a b))
def fwor (W : World) (op : BinOp) (a b : Nat) : World := match floatBits op .f64 a b with | some _ => W | none => W.drew
theorem nan_cut (a b t : Nat) : nanB ((Question.nanBits .f64 a b).cut t) = true := by
  rw [nanB_iff]
  show Ieee.Datum.isNaN (FloatKind.f64.format.read ((t % 2) * 2 ^ 63 + 0x7ff0000000000000 + 1 + (t / 2) % (2 ^ 52 - 1))) = true
  have h1 : t % 2 < 2 := Nat.mod_lt _ (by omega)
  have h2 : (t / 2) % (2 ^ 52 - 1) < 2 ^ 52 - 1 := Nat.mod_lt _ (by omega)
  generalize t % 2 = x at *
  generalize (t / 2) % (2 ^ 52 - 1) = y at *
  unfold Ieee.Format.read
  have hlp : FloatKind.f64.format.leastPlace = -1074 := by decide
  have hbn : FloatKind.f64.format.binade = 4503599627370496 := by decide
  have hir : FloatKind.f64.format.infRung = 9218868437227405312 := by decide
  have hsw : FloatKind.f64.format.signWeight = 9223372036854775808 := by decide
  rw [hlp, hbn, hir, hsw]
  have a2 : (x * 2 ^ 63 + 0x7ff0000000000000 + 1 + y) % 9223372036854775808 = 9218868437227405313 + y := by omega
  simp only [a2]
  rw [if_neg (by omega), if_neg (by omega), if_neg (by omega)]
  rfl
theorem cz_fres (W : World) {op : BinOp} (ho : Ar op) (a b : Nat) : cz (fres W op a b) = fopC op (cz a) (cz b) := by
  have hC : floatBits op .f64 (cz a) (cz b) = floatBits op .f64 a b := by
    cases ha : nanB a with
    | true => rw [bits_nan ho (.inl ha), bits_nan ho (.inl (by rw [nanB_cz]; exact ha))]
    | false =>
      cases hb : nanB b with
      | true => rw [bits_nan ho (.inr hb), bits_nan ho (.inr (by rw [nanB_cz]; exact hb))]
      | false => rw [cz_num ha, cz_num hb]
  unfold fres fopC
  rw [hC]
  cases h : floatBits op .f64 a b with
  | some r => exact cz_num (bits_num ho h)
  | none => exact cz_nan (nan_cut a b _)
theorem cz_fopC {op : BinOp} (ho : Ar op) (a b : Nat) : cz (fopC op a b) = fopC op a b := by
  unfold fopC
  cases h : floatBits op .f64 a b with
  | some r => exact cz_num (bits_num ho h)
  | none => exact cz_nan nan_one
theorem run_fop (W : World) {op : BinOp} (ho : Ar op) (t : TypeId) (a b : Nat) : (binOp op t (.float .f64 a) (.float .f64 b)).run Try.prog W = .ok (.float .f64 (fres W op a b)) (fwor W op a b) := by
  unfold fres fwor
  cases h : floatBits op .f64 a b with
  | some r => exact run_float_arith W op t .f64 a b r h
  | none =>
    unfold floatBits at h
    rcases ho with rfl | rfl | rfl | rfl <;> simp only at h <;> simp [binOp, Op.floatArith, h, Question.forced]
theorem fwor_gb (W : World) (op : BinOp) (a b : Nat) : W.grownBy (fwor W op a b) none := by
  unfold fwor
  split
  · exact gb_refl _ _
  · exact gb_drew _ _
theorem fwor_cell (W : World) (op : BinOp) (a b : Nat) (x : Addr) : (fwor W op a b).cell? x = W.cell? x := by
  unfold fwor
  split <;> rfl
theorem fwor_frozen (W : World) (op : BinOp) (a b : Nat) (x : Addr) : (fwor W op a b).frozen? x = W.frozen? x := by
  unfold fwor
  split <;> rfl
theorem fwor_size (W : World) (op : BinOp) (a b : Nat) : (fwor W op a b).heap.size = W.heap.size := by
  unfold fwor
  split <;> rfl
theorem fwor_heap (W : World) (op : BinOp) (a b : Nat) (k : Nat) : (fwor W op a b).heap[k]? = W.heap[k]? := by
  unfold fwor
  split <;> rfl
attribute [local go_sem] fwor_cell fwor_frozen fwor_size
/-! ### seconds -/
/-- the bits of 1000 -/
def secC (n : Int) : Nat := fopC .quo (cz (floatOfInt .f64 n)) (cz 4652007308841189376)
set_option maxHeartbeats 1600000 in
theorem seconds_any (w : World) (n : Int) : Calls Try.prog 81 #[.int .i64 n] w fun e w' => ∃ v, e = .returned (.float .f64 v) ∧ cz v = secC n ∧ w.grownBy w' none := by
  have hr : ∀ W, (binOp .quo 22 (.float .f64 (floatOfInt .f64 n)) (.float .f64 4652007308841189376)).run Try.prog W = .ok (.float .f64 (fres W .quo (floatOfInt .f64 n) 4652007308841189376)) (fwor W .quo (floatOfInt .f64 n) 4652007308841189376) := fun W => run_fop W (.inr (.inr (.inr rfl))) _ _ _
  have HZ : Hid (∀ W, cz (fres W .quo (floatOfInt .f64 n) 4652007308841189376) = secC n) := fun W => cz_fres W (.inr (.inr (.inr rfl))) _ _
  have HG : Hid (∀ W : World, W.grownBy (fwor W .quo (floatOfInt .f64 n) 4652007308841189376) none) := fun W => fwor_gb W _ _ _
  go_enter Try.func81, Try.ntmps81
  go_wp2
  go_ret
  exact ⟨_, rfl, HZ.out _, HG.out _⟩
end Go.Proofs.Ytgpednikianneaa
