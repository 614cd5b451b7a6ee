/-
  Call of a function without a parameter.
-/
import Derived.Test.YtgpednikianneaaOvE
namespace Go.Proofs.Ytgpednikianneaa
open Go.RowKit

theorem tab_ne (k : Nat) (hk : k < 15) : ∀ j, j < k → ((tabL.getD j tabZ).1.toList == (tabL.getD k tabZ).1.toList) = false := by
  have h : ∀ k, k < 15 → ∀ j, j < k → ((tabL.getD j tabZ).1.toList == (tabL.getD k tabZ).1.toList) = false := by decide +kernel
  exact h k hk
theorem needs_any (w : World) (n : Int) (v : Value) : Calls Try.prog 100 #[.agg #[.int .i64 n, v]] w fun e w' => e = .returned (.int .i64 n) ∧ w.grownBy w' none := by
  have HG := hidJ (alloc_gb w)
  go_enter Try.func100, Try.ntmps100
  go_wp2
  go_ret
  exact ⟨rfl, HG.out _⟩
set_option maxHeartbeats 1600000 in
theorem plain_least (w : World) (n : Int) (a : Option Addr) (N c : Nat) (frm upt : Int) (q : Nat) (Q : Ending → World → Prop)
    (HC : ∀ W, w.grownBy W none → Calls Try.prog 50 #[.agg #[.slice a N c, .int .i64 frm, .int .i64 upt]] W fun e w' => ∃ v, e = .returned (.float .f64 v) ∧ Hid (Q (.returned (.float .f64 v)) w')) :
    Calls Try.prog 99 #[plV n 50, .agg #[.slice a N c, .int .i64 frm, .int .i64 upt], .float .f64 q] w fun e w' => Q e w' := by
  have HC2 : Hid (∀ C D, Calls Try.prog 50 #[.agg #[.slice a N c, .int .i64 frm, .int .i64 upt]] ((w.alloc C).alloc D) fun e w' => ∃ v, e = .returned (.float .f64 v) ∧ Hid (Q (.returned (.float .f64 v)) w')) := fun C D => HC _ (gb_none (alloc_gb _ _) (alloc_gb _ _))
  clear HC
  unfold plV
  go_enter Try.func99, Try.ntmps99
  go_wp2_with fail
  refine (HC2.out _ _).mono ?_
  rintro e w1 ⟨v, rfl, H1⟩
  clear HC2
  go_wp2
  exact H1.out

set_option maxHeartbeats 1600000 in
theorem plain_greatest (w : World) (n : Int) (a : Option Addr) (N c : Nat) (frm upt : Int) (q : Nat) (Q : Ending → World → Prop)
    (HC : ∀ W, w.grownBy W none → Calls Try.prog 51 #[.agg #[.slice a N c, .int .i64 frm, .int .i64 upt]] W fun e w' => ∃ v, e = .returned (.float .f64 v) ∧ Hid (Q (.returned (.float .f64 v)) w')) :
    Calls Try.prog 99 #[plV n 51, .agg #[.slice a N c, .int .i64 frm, .int .i64 upt], .float .f64 q] w fun e w' => Q e w' := by
  have HC2 : Hid (∀ C D, Calls Try.prog 51 #[.agg #[.slice a N c, .int .i64 frm, .int .i64 upt]] ((w.alloc C).alloc D) fun e w' => ∃ v, e = .returned (.float .f64 v) ∧ Hid (Q (.returned (.float .f64 v)) w')) := fun C D => HC _ (gb_none (alloc_gb _ _) (alloc_gb _ _))
  clear HC
  unfold plV
  go_enter Try.func99, Try.ntmps99
  go_wp2_with fail
  refine (HC2.out _ _).mono ?_
  rintro e w1 ⟨v, rfl, H1⟩
  clear HC2
  go_wp2
  exact H1.out

set_option maxHeartbeats 1600000 in
theorem plain_changes (w : World) (n : Int) (a : Option Addr) (N c : Nat) (frm upt : Int) (q : Nat) (Q : Ending → World → Prop)
    (HC : ∀ W, w.grownBy W none → Calls Try.prog 56 #[.agg #[.slice a N c, .int .i64 frm, .int .i64 upt]] W fun e w' => ∃ v, e = .returned (.float .f64 v) ∧ Hid (Q (.returned (.float .f64 v)) w')) :
    Calls Try.prog 99 #[plV n 56, .agg #[.slice a N c, .int .i64 frm, .int .i64 upt], .float .f64 q] w fun e w' => Q e w' := by
  have HC2 : Hid (∀ C D, Calls Try.prog 56 #[.agg #[.slice a N c, .int .i64 frm, .int .i64 upt]] ((w.alloc C).alloc D) fun e w' => ∃ v, e = .returned (.float .f64 v) ∧ Hid (Q (.returned (.float .f64 v)) w')) := fun C D => HC _ (gb_none (alloc_gb _ _) (alloc_gb _ _))
  clear HC
  unfold plV
  go_enter Try.func99, Try.ntmps99
  go_wp2_with fail
  refine (HC2.out _ _).mono ?_
  rintro e w1 ⟨v, rfl, H1⟩
  clear HC2
  go_wp2
  exact H1.out

set_option maxHeartbeats 1600000 in
theorem plain_resets (w : World) (n : Int) (a : Option Addr) (N c : Nat) (frm upt : Int) (q : Nat) (Q : Ending → World → Prop)
    (HC : ∀ W, w.grownBy W none → Calls Try.prog 57 #[.agg #[.slice a N c, .int .i64 frm, .int .i64 upt]] W fun e w' => ∃ v, e = .returned (.float .f64 v) ∧ Hid (Q (.returned (.float .f64 v)) w')) :
    Calls Try.prog 99 #[plV n 57, .agg #[.slice a N c, .int .i64 frm, .int .i64 upt], .float .f64 q] w fun e w' => Q e w' := by
  have HC2 : Hid (∀ C D, Calls Try.prog 57 #[.agg #[.slice a N c, .int .i64 frm, .int .i64 upt]] ((w.alloc C).alloc D) fun e w' => ∃ v, e = .returned (.float .f64 v) ∧ Hid (Q (.returned (.float .f64 v)) w')) := fun C D => HC _ (gb_none (alloc_gb _ _) (alloc_gb _ _))
  clear HC
  unfold plV
  go_enter Try.func99, Try.ntmps99
  go_wp2_with fail
  refine (HC2.out _ _).mono ?_
  rintro e w1 ⟨v, rfl, H1⟩
  clear HC2
  go_wp2
  exact H1.out

set_option maxHeartbeats 1600000 in
theorem plain_count (w : World) (n : Int) (a : Option Addr) (N c : Nat) (frm upt : Int) (q : Nat) (Q : Ending → World → Prop)
    (HC : ∀ W, w.grownBy W none → Calls Try.prog 52 #[.agg #[.slice a N c, .int .i64 frm, .int .i64 upt]] W fun e w' => ∃ v, e = .returned (.float .f64 v) ∧ Hid (Q (.returned (.float .f64 v)) w')) :
    Calls Try.prog 99 #[plV n 52, .agg #[.slice a N c, .int .i64 frm, .int .i64 upt], .float .f64 q] w fun e w' => Q e w' := by
  have HC2 : Hid (∀ C D, Calls Try.prog 52 #[.agg #[.slice a N c, .int .i64 frm, .int .i64 upt]] ((w.alloc C).alloc D) fun e w' => ∃ v, e = .returned (.float .f64 v) ∧ Hid (Q (.returned (.float .f64 v)) w')) := fun C D => HC _ (gb_none (alloc_gb _ _) (alloc_gb _ _))
  clear HC
  unfold plV
  go_enter Try.func99, Try.ntmps99
  go_wp2_with fail
  refine (HC2.out _ _).mono ?_
  rintro e w1 ⟨v, rfl, H1⟩
  clear HC2
  go_wp2
  exact H1.out

set_option maxHeartbeats 1600000 in
theorem plain_last (w : World) (n : Int) (a : Option Addr) (N c : Nat) (frm upt : Int) (q : Nat) (Q : Ending → World → Prop)
    (HC : ∀ W, w.grownBy W none → Calls Try.prog 53 #[.agg #[.slice a N c, .int .i64 frm, .int .i64 upt]] W fun e w' => ∃ v, e = .returned (.float .f64 v) ∧ Hid (Q (.returned (.float .f64 v)) w')) :
    Calls Try.prog 99 #[plV n 53, .agg #[.slice a N c, .int .i64 frm, .int .i64 upt], .float .f64 q] w fun e w' => Q e w' := by
  have HC2 : Hid (∀ C D, Calls Try.prog 53 #[.agg #[.slice a N c, .int .i64 frm, .int .i64 upt]] ((w.alloc C).alloc D) fun e w' => ∃ v, e = .returned (.float .f64 v) ∧ Hid (Q (.returned (.float .f64 v)) w')) := fun C D => HC _ (gb_none (alloc_gb _ _) (alloc_gb _ _))
  clear HC
  unfold plV
  go_enter Try.func99, Try.ntmps99
  go_wp2_with fail
  refine (HC2.out _ _).mono ?_
  rintro e w1 ⟨v, rfl, H1⟩
  clear HC2
  go_wp2
  exact H1.out

set_option maxHeartbeats 1600000 in
theorem plain_present (w : World) (n : Int) (a : Option Addr) (N c : Nat) (frm upt : Int) (q : Nat) (Q : Ending → World → Prop)
    (HC : ∀ W, w.grownBy W none → Calls Try.prog 54 #[.agg #[.slice a N c, .int .i64 frm, .int .i64 upt]] W fun e w' => ∃ v, e = .returned (.float .f64 v) ∧ Hid (Q (.returned (.float .f64 v)) w')) :
    Calls Try.prog 99 #[plV n 54, .agg #[.slice a N c, .int .i64 frm, .int .i64 upt], .float .f64 q] w fun e w' => Q e w' := by
  have HC2 : Hid (∀ C D, Calls Try.prog 54 #[.agg #[.slice a N c, .int .i64 frm, .int .i64 upt]] ((w.alloc C).alloc D) fun e w' => ∃ v, e = .returned (.float .f64 v) ∧ Hid (Q (.returned (.float .f64 v)) w')) := fun C D => HC _ (gb_none (alloc_gb _ _) (alloc_gb _ _))
  clear HC
  unfold plV
  go_enter Try.func99, Try.ntmps99
  go_wp2_with fail
  refine (HC2.out _ _).mono ?_
  rintro e w1 ⟨v, rfl, H1⟩
  clear HC2
  go_wp2
  exact H1.out

/-- what Call answers: nothing of a window that is not right, or has too few samples; else a value that P tells -/
def CallP (P : List SmpT → Int → Int → Nat → Prop) (n : Nat) (l : List SmpT) (frm upt : Int) (e : Ending) : Prop :=
  (rightW (live l) frm upt = false ∧ e = .returned (.tuple #[.float .f64 0, .bool false, .int .i64 1])) ∨
  (rightW (live l) frm upt = true ∧ (live l).length < n ∧ e = .returned (.tuple #[.float .f64 0, .bool false, .int .i64 0])) ∨
  (rightW (live l) frm upt = true ∧ n ≤ (live l).length ∧ ∃ v, P (live l) frm upt v ∧ e = .returned (.tuple #[.float .f64 (toldN v), .bool true, .int .i64 0]))
set_option maxRecDepth 8000 in
set_option maxHeartbeats 6400000 in
theorem call_at (P : List SmpT → Int → Int → Nat → Prop) (k n f : Nat) (nm : ByteArray) (hk : k < 15) (hne : ∀ j, j < k → ((tabL.getD j tabZ).1.toList == (tabL.getD k tabZ).1.toList) = false) (hent : tabL.getD k tabZ = (nm, 81, plV (n : Int) f)) (_ : n ≤ 2)
    (HCome : ∀ W m a c frm upt q, RdP W (.slice a m.length c) m → n ≤ m.length → Calls Try.prog 99 #[plV (n : Int) f, .agg #[.slice a m.length c, .int .i64 frm, .int .i64 upt], .float .f64 q] W fun e w' => ∃ v, e = .returned (.float .f64 v) ∧ P m frm upt v ∧ W.grownBy w' none)
    (w : World) (v : Value) (l : List SmpT) (frm upt : Int) (q : Nat) (hv : RdP w v l) (hl : l.length ≤ 8796093022208) :
    Calls Try.prog 11 #[.string nm, v, .int .i64 frm, .int .i64 upt, .float .f64 q] w fun e w' => CallP P n l frm upt e ∧ w.grownBy w' none := by
  have HFd := hidJ (find_at w k hk hne)
  rw [hent] at HFd
  dsimp only at HFd
  have HA : Hid (∀ w1, w.grownBy w1 none → Calls Try.prog 24 #[v] w1 fun e w' => ∃ a c, e = .returned (.slice a (live l).length c) ∧ Hid (RdP w' (.slice a (live l).length c) (live l) ∧ w.grownBy w' none)) := fun w1 hg => (alive_any w1 v l (hv.keep hg) hl).mono (by
    rintro e w' ⟨a, c, h1, h2, h3⟩
    exact ⟨a, c, h1, h2, gb_none hg h3⟩)
  obtain ⟨va, vn, vc, rfl⟩ : ∃ a n c, v = .slice a n c := by
    obtain ⟨a, c, e, -⟩ := hv
    exact ⟨a, _, c, e⟩
  have hll := live_le l
  obtain ⟨N, hN⟩ : ∃ N, (live l).length = N := ⟨_, rfl⟩
  have HL := hidJ hN
  obtain ⟨RQ, hRQ⟩ : ∃ RQ : Ending → World → Prop, RQ = fun e w' => CallP P n l frm upt e ∧ w.grownBy w' none := ⟨_, rfl⟩
  have HF1 : Hid (∀ w', rightW (live l) frm upt = false → w.grownBy w' none → RQ (.returned (.tuple #[.float .f64 0, .bool false, .int .i64 1])) w') := fun w' h hg => by
    rw [hRQ]; exact ⟨.inl ⟨h, rfl⟩, hg⟩
  have HF2 : Hid (∀ w', rightW (live l) frm upt = true → N < n → w.grownBy w' none → RQ (.returned (.tuple #[.float .f64 0, .bool false, .int .i64 0])) w') := fun w' h h2 hg => by
    rw [hRQ]; exact ⟨.inr (.inl ⟨h, by rw [hN]; exact h2, rfl⟩), hg⟩
  have HF3 : Hid (∀ w' x, rightW (live l) frm upt = true → n ≤ N → P (live l) frm upt x → w.grownBy w' none → RQ (.returned (.tuple #[.float .f64 (toldN x), .bool true, .int .i64 0])) w') := fun w' x h h2 h3 hg => by
    rw [hRQ]; exact ⟨.inr (.inr ⟨h, by rw [hN]; exact h2, x, h3, rfl⟩), hg⟩
  rw [show (fun e w' => CallP P n l frm upt e ∧ w.grownBy w' none) = (fun e w' => RQ e w') from by rw [hRQ]]
  clear hRQ hent hne hk hv
  have HCm : Hid (∀ W a c, RdP W (.slice a N c) (live l) → w.grownBy W none → n ≤ N → Calls Try.prog 99 #[plV (n : Int) f, .agg #[.slice a N c, .int .i64 frm, .int .i64 upt], .float .f64 q] W fun e w' => ∃ x, e = .returned (.float .f64 x) ∧ Hid (P (live l) frm upt x ∧ w.grownBy w' none)) := fun W a c hr hg hn => by
    have := HCome W (live l) a c frm upt q (by rw [hN]; exact hr) (by rw [hN]; exact hn)
    rw [hN] at this
    refine this.mono ?_
    rintro e w' ⟨x, h1, h2, h3⟩
    exact ⟨x, h1, h2, gb_none hg h3⟩
  have HR : Hid (∀ W a c, RdP W (.slice a N c) (live l) → w.grownBy W none → Calls Try.prog 25 #[.agg #[.slice a N c, .int .i64 frm, .int .i64 upt]] W fun e w' => e = .returned (.bool (rightW (live l) frm upt)) ∧ Hid (W.grownBy w' none)) := fun W a c hr hg => by
    have := right_any W a c (live l) frm upt (by rw [hN]; exact hr)
    rw [hN] at this
    exact this
  rw [hN] at HA hll
  clear HCome hN hl
  have HT : Hid (∀ W x, Calls Try.prog 19 #[.float .f64 x] W fun e w' => e = .returned (.float .f64 (toldN x)) ∧ w' = W) := fun W x => told_any W x
  have HNe : Hid (∀ W u, Calls Try.prog 100 #[.agg #[.int .i64 (n : Int), u]] W fun e w' => e = .returned (.int .i64 (n : Int)) ∧ W.grownBy w' none) := fun W u => needs_any W n u
  unfold plV at HFd HCm
  obtain ⟨fv, hfv⟩ : ∃ fv, Value.func (.func f) #[] #[] = fv := ⟨_, rfl⟩
  rw [hfv] at HFd HCm
  clear hfv
  generalize rightW (live l) frm upt = rw' at *
  go_enter Try.func11, Try.ntmps11
  go_wp2_with fail
  refine HFd.out.mono ?_
  rintro e w1 ⟨rfl, q1⟩
  have HA1 := hidJ (HA.out w1 q1)
  clear HFd HA q1
  go_wp2_with fail
  refine HA1.out.mono ?_
  rintro e w2 ⟨a, c, rfl, q2⟩
  clear HA1
  obtain ⟨C2, hC2⟩ : ∃ C2 : Obj, C2 = .cells #[.slice a N c, .int .i64 frm, .int .i64 upt] 54 := ⟨_, rfl⟩
  have hg2 := alloc_gb w2 C2
  have hb2 := Go.heap_alloc_new w2 C2
  have HR2 := hidJ (HR.out (w2.alloc C2) a c (q2.out.1.keep hg2) (gb_none q2.out.2 hg2))
  clear HR
  obtain ⟨B, hB⟩ : ∃ B, w2.heap.size = B := ⟨_, rfl⟩
  have HX : Hid (∀ W, (w2.alloc C2).grownBy W none → W.cell? ⟨w2.heap.size, 0, none⟩ = some (.slice a N c) ∧ W.cell? ⟨w2.heap.size, 1, none⟩ = some (.int .i64 frm) ∧ W.cell? ⟨w2.heap.size, 2, none⟩ = some (.int .i64 upt) ∧ Hid (RdP W (.slice a N c) (live l) ∧ w.grownBy W none)) := fun W hg => by
    have h := (hg.block _ (some_lt hb2) (by simp)).trans hb2
    rw [hC2] at h
    refine ⟨?_, ?_, ?_, q2.out.1.keep (gb_none hg2 hg), gb_none (gb_none q2.out.2 hg2) hg⟩ <;> (rw [World.cell?, h]; rfl)
  clear hg2 hb2 q2 hB
  subst hC2
  go_wp2_with fail
  refine HR2.out.mono ?_
  rintro e w3 ⟨rfl, q3⟩
  clear HR2
  obtain ⟨c0, c1, c2, HG⟩ := HX.out w3 q3.out
  cases rw' with
  | false =>
    have HFF := hidJ (HF1.out w3 rfl HG.out.2)
    clear HF1 HF2 HF3 HX q3 HG HCm HNe HT
    go_wp2
    go_ret3
    exact HFF.out
  | true =>
    have hm : ∀ w : World, (method 214 81 (.agg #[.int .i64 (n : Int), fv]) "tocsin/over.needs").run Try.prog w = .ok (100, .agg #[.int .i64 (n : Int), fv]) w := fun _ => by kernel_rfl
    have hna : ∀ w : World, (nilAhead 214 81 (.agg #[.int .i64 (n : Int), fv]) "tocsin/over.needs").run Try.prog w = .ok (some false) w := fun _ => by kernel_rfl
    have HN3 : Hid (∀ W, w3.grownBy W none → Calls Try.prog 100 #[.agg #[.int .i64 (n : Int), fv]] W fun e w' => e = .returned (.int .i64 (n : Int)) ∧ w'.cell? ⟨w2.heap.size, 0, none⟩ = some (.slice a N c) ∧ Hid (w3.grownBy w' none)) := fun W hg => by
      refine (HNe.out W fv).mono ?_
      rintro e w' ⟨h1, h2⟩
      have hg' := gb_none hg h2
      exact ⟨h1, (HX.out w' (gb_none q3.out hg')).1, hg'⟩
    have HNa := hidJ (HN3.out w3 (gb_refl _ _))
    have HNb := hidJ (HN3.out w3.drew (gb_drew _ _))
    clear HN3
    generalize hbx : w2.heap.size = B2 at *
    go_wp2
    go_region_held3 (fun w' => w'.cell? ⟨B2, 0, none⟩ = some (.slice a N c)) (go_keep)
      (first
        | (go_at_call 100; with_reducible refine HNa.out.mono ?_; rintro e w4 ⟨rfl, k0, HK⟩)
        | (go_at_call 100; with_reducible refine HNb.out.mono ?_; rintro e w4 ⟨rfl, k0, HK⟩))
    obtain ⟨d0, d1, d2, HG4⟩ := HX.out w4 (gb_none q3.out HK.out)
    clear k0 c0 c1 c2 HG HNa HNb HNe hm hna HK HF1 q3
    by_cases hnn : N < n
    · have hni : (N : Int) < (n : Int) := by omega
      have HFF := hidJ (HF2.out w4 trivial hnn HG4.out.2)
      rw [decide_eq_true hnn]
      clear HF2 HF3 HX HG4 HCm HT
      go_wp2
      go_ret3
      exact HFF.out
    · have HC4 := hidJ (HCm.out w4 a c HG4.out.1 HG4.out.2 (by omega))
      have HFF : Hid (∀ w' x, P (live l) frm upt x → w.grownBy w' none → RQ (.returned (.tuple #[.float .f64 (toldN x), .bool true, .int .i64 0])) w') := fun w' x h hg => HF3.out w' x trivial (by omega) h hg
      have hm : ∀ w : World, (method 214 81 (.agg #[.int .i64 (n : Int), fv]) "tocsin/over.comesTo").run Try.prog w = .ok (99, .agg #[.int .i64 (n : Int), fv]) w := fun _ => by kernel_rfl
      have hna : ∀ w : World, (nilAhead 214 81 (.agg #[.int .i64 (n : Int), fv]) "tocsin/over.comesTo").run Try.prog w = .ok (some false) w := fun _ => by kernel_rfl
      rw [decide_eq_false hnn]
      clear HF2 HF3 HX HG4 HCm
      go_wp2_with fail
      refine HC4.out.mono ?_
      rintro e w5 ⟨x, rfl, h5⟩
      have HR5 := hidJ (HFF.out w5 x h5.out.1 h5.out.2)
      clear HC4 HFF h5 hm hna
      go_wp2_with fail
      refine (HT.out _ _).mono ?_
      rintro e w6 ⟨rfl, rfl⟩
      clear HT
      generalize toldN x = tx at *
      go_wp2
      go_ret3
      exact HR5.out
end Go.Proofs.Ytgpednikianneaa
