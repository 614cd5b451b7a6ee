/-
  A text that is read: what (*text).ended, take, word come to: the walks.
-/
import Derived.Test.YtknlnllcpdiglaaDoorLbT
namespace Go.Proofs.YtknlnllcpdiglaaDoor
open Go.RowKit

/-- the place behind blanks -/
def skp (s : List UInt8) (k : Nat) : Nat := k + span pisBlank (s.drop k)
theorem skp_le (s : List UInt8) (k : Nat) (hk : k ≤ s.length) : skp s k ≤ s.length := by
  unfold skp
  have := span_le pisBlank (s.drop k)
  rw [List.length_drop] at this
  omega
theorem byte_at {s : List UInt8} {k : Nat} (h : k < s.length) : ∀ hh, (ByteArray.mk ⟨s⟩)[k]'hh = s.getD k 0 := fun hh => by
  have : s.getD k 0 = s[k] := by simp [h]
  rw [this]
  rfl

set_option maxHeartbeats 1600000 in
theorem ended_any (w : World) (g : Nat) (s : List UInt8) (k : Nat) (h : Tx w g s k) (hk : k ≤ s.length) (hs : s.length ≤ 1000000000000000) :
    Calls Tryd.prog 101 #[.pointer (some ⟨g, 0, none⟩)] w fun e w' => e = .returned (.bool (decide (skp s k = s.length))) ∧ Tx w' g s (skp s k) ∧ w.grownBy w' (some g) := by
  have HS : Hid (Calls Tryd.prog 97 #[.pointer (some ⟨g, 0, none⟩)] w fun e w' => e = .returned (.tuple #[]) ∧ w'.cell? ⟨g, 0, none⟩ = some (.string (ByteArray.mk ⟨s⟩)) ∧ w'.cell? ⟨g, 1, none⟩ = some (.int .i64 ((skp s k : Nat) : Int)) ∧ Hid (Tx w' g s (skp s k) ∧ w.grownBy w' (some g))) :=
    (skipBlanks_any w g s k h hk hs).mono fun e w' ⟨h1, h2, h3⟩ => ⟨h1, Tx.cells h2 |>.1, (Tx.cells h2).2.1, h2, h3⟩
  have hz : (ByteArray.mk ⟨s⟩).size = s.length := rfl
  have hle := skp_le s k hk
  clear h
  generalize skp s k = n at *
  by_cases he : n = s.length
  · have hei : (n : Int) = (s.length : Int) := by omega
    have hb : decide (n = s.length) = true := decide_eq_true he
    rw [hb]
    clear hb
    go_enter Tryd.func101, Tryd.ntmps101
    go_wp2_with fail
    refine HS.out.mono ?_
    rintro e w1 ⟨rfl, d0, d1, H1⟩
    go_wp2
    go_region
    go_wp2
    go_ret
    exact ⟨rfl, H1.out.1.keep (gb_drew _ none), gb_none H1.out.2 (gb_drew _ none)⟩
  · have hei : ((n : Int) == (s.length : Int)) = false := by rw [beq_eq_false_iff_ne]; omega
    have hb : decide (n = s.length) = false := decide_eq_false he
    rw [hb]
    clear hb
    go_enter Tryd.func101, Tryd.ntmps101
    go_wp2_with fail
    refine HS.out.mono ?_
    rintro e w1 ⟨rfl, d0, d1, H1⟩
    go_wp2
    go_region
    go_wp2
    go_ret
    exact ⟨rfl, H1.out.1.keep (gb_drew _ none), gb_none H1.out.2 (gb_drew _ none)⟩

/-- does the sign stand behind blanks? -/
def tkB (s : List UInt8) (k : Nat) (c : UInt8) : Bool := decide (skp s k < s.length) && decide (s.getD (skp s k) 0 = c)
def tkK (s : List UInt8) (k : Nat) (c : UInt8) : Nat := if tkB s k c = true then skp s k + 1 else skp s k
set_option maxHeartbeats 1600000 in
theorem take_any (w : World) (g : Nat) (s : List UInt8) (k : Nat) (c : UInt8) (h : Tx w g s k) (hk : k ≤ s.length) (hs : s.length ≤ 1000000000000000) :
    Calls Tryd.prog 99 #[.pointer (some ⟨g, 0, none⟩), .int .u8 (c.toNat : Int)] w fun e w' => e = .returned (.bool (tkB s k c)) ∧ Tx w' g s (tkK s k c) ∧ w.grownBy w' (some g) := by
  have HS : Hid (Calls Tryd.prog 97 #[.pointer (some ⟨g, 0, none⟩)] w fun e w' => e = .returned (.tuple #[]) ∧ w'.cell? ⟨g, 0, none⟩ = some (.string (ByteArray.mk ⟨s⟩)) ∧ w'.cell? ⟨g, 1, none⟩ = some (.int .i64 ((skp s k : Nat) : Int)) ∧ w'.frozen? ⟨g, 1, none⟩ = false ∧ Hid (Tx w' g s (skp s k) ∧ w.grownBy w' (some g))) :=
    (skipBlanks_any w g s k h hk hs).mono fun e w' ⟨h1, h2, h3⟩ => ⟨h1, Tx.cells h2 |>.1, (Tx.cells h2).2.1, (Tx.cells h2).2.2, h2, h3⟩
  have hz : (ByteArray.mk ⟨s⟩).size = s.length := rfl
  have hle := skp_le s k hk
  have HB : Hid (tkB s k c = (decide (skp s k < s.length) && decide (s.getD (skp s k) 0 = c))) := rfl
  have HK : Hid (tkK s k c = if tkB s k c = true then skp s k + 1 else skp s k) := rfl
  clear h
  generalize tkK s k c = K at *
  generalize tkB s k c = B at *
  generalize skp s k = n at *
  by_cases he : n = s.length
  · have hei : (n : Int) = (s.length : Int) := by omega
    have hB : B = false := by rw [HB.out, decide_eq_false (by omega)]; rfl
    subst hB
    have hK : K = n := by rw [HK.out]; rfl
    subst hK
    clear HB HK
    go_enter Tryd.func99, Tryd.ntmps99
    go_wp2_with fail
    refine HS.out.mono ?_
    rintro e w1 ⟨rfl, d0, d1, d2, H1⟩
    go_wp2
    go_region
    go_wp2
    go_ret
    exact ⟨rfl, H1.out.1.keep (gb_drew _ none), gb_none H1.out.2 (gb_drew _ none)⟩
  · have hei : ((n : Int) == (s.length : Int)) = false := by rw [beq_eq_false_iff_ne]; omega
    have hlt : n < s.length := by omega
    have hbn := byte_at hlt
    by_cases hc : s.getD n 0 = c
    · have hB : B = true := by rw [HB.out, decide_eq_true hlt, decide_eq_true hc]; rfl
      subst hB
      have hK : K = n + 1 := by rw [HK.out]; rfl
      rw [hc] at hbn
      clear HB HK hc
      go_enter Tryd.func99, Tryd.ntmps99
      go_wp2_with fail
      refine HS.out.mono ?_
      rintro e w1 ⟨rfl, d0, d1, d2, H1⟩
      go_wp2
      go_region
      go_wp2
      go_ret
      have hp := H1.out.1.put (n + 1) ((n : Int) + 1) (by omega)
      exact ⟨rfl, by rw [hK]; exact hp.1.keep (gb_drew _ none), gb_none (gb_trans H1.out.2 hp.2 (fun _ h _ => h.symm)) (gb_drew _ none)⟩
    · have hB : B = false := by rw [HB.out, decide_eq_true hlt, decide_eq_false hc]; rfl
      subst hB
      have hK : K = n := by rw [HK.out]; rfl
      subst hK
      have hne : (((s.getD K 0).toNat : Int) == (c.toNat : Int)) = false := by
        rw [beq_eq_false_iff_ne]
        intro e
        exact hc (UInt8.toNat_inj.1 (by omega))
      generalize s.getD K 0 = x at *
      clear HB HK hc
      go_enter Tryd.func99, Tryd.ntmps99
      go_wp2_with fail
      refine HS.out.mono ?_
      rintro e w1 ⟨rfl, d0, d1, d2, H1⟩
      go_wp2
      go_region
      go_wp2
      go_ret
      exact ⟨rfl, H1.out.1.keep (gb_drew _ none), gb_none H1.out.2 (gb_drew _ none)⟩
end Go.Proofs.YtknlnllcpdiglaaDoor
