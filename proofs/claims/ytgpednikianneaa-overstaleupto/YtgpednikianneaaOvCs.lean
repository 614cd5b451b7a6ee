/-
  Call of every function: one answer, which hangs on what alive leaves.
-/
import Derived.Test.YtgpednikianneaaOvRq
import Derived.Test.YtgpednikianneaaOvLd
import Derived.Test.YtgpednikianneaaLawOvRis
namespace Go.Proofs.Ytgpednikianneaa
open Go.RowKit

set_option maxHeartbeats 1600000 in
theorem plain_sum (w : World) (n : Int) (a : Option Addr) (N c : Nat) (frm upt : Int) (q : Nat) (Q : Ending → World → Prop)
    (HC : ∀ W, w.grownBy W none → Calls Try.prog 48 #[.agg #[.slice a N c, .int .i64 frm, .int .i64 upt]] W fun e w' => ∃ v, e = .returned (.float .f64 v) ∧ Hid (Q (.returned (.float .f64 v)) w')) :
    Calls Try.prog 99 #[plV n 48, .agg #[.slice a N c, .int .i64 frm, .int .i64 upt], .float .f64 q] w fun e w' => Q e w' := by
  have HC2 : Hid (∀ C D, Calls Try.prog 48 #[.agg #[.slice a N c, .int .i64 frm, .int .i64 upt]] ((w.alloc C).alloc D) fun e w' => ∃ v, e = .returned (.float .f64 v) ∧ Hid (Q (.returned (.float .f64 v)) w')) := fun C D => HC _ (gb_none (alloc_gb _ _) (alloc_gb _ _))
  clear HC
  unfold plV
  go_enter Try.func99, Try.ntmps99
  go_wp2_with fail
  refine (HC2.out _ _).mono ?_
  rintro e w1 ⟨v, rfl, H1⟩
  clear HC2
  go_wp2
  exact H1.out
theorem call_sum (w : World) (v : Value) (l : List SmpT) (frm upt : Int) (q : Nat) (hv : RdP w v l) (hl : l.length ≤ 8796093022208) :
    Calls Try.prog 11 #[.string ⟨#[115, 117, 109, 95, 111, 118, 101, 114, 95, 116, 105, 109, 101]⟩, v, .int .i64 frm, .int .i64 upt, .float .f64 q] w fun e w' => CallP (fun m _ _ x => cz x = sumC m) 1 l frm upt e ∧ w.grownBy w' none := by
  refine call_at (fun m _ _ x => cz x = sumC m) 0 1 48 _ (by decide) (tab_ne _ (by decide)) rfl (by decide) ?_ w v l frm upt q hv hl
  intro W m a c frm upt q hr hm
  refine (plain_sum W 1 a m.length c frm upt q (fun e w' => ∃ v, e = .returned (.float .f64 v) ∧ cz v = sumC m ∧ W.grownBy w' none) (fun W' hg => ?_)).mono (fun e w' h => h)
  refine (sum_any W' a c m frm upt (hr.keep hg) (by omega)).mono ?_
  rintro e w' ⟨v, rfl, q1, q2⟩
  exact ⟨_, rfl, _, rfl, q1, gb_none hg q2⟩

set_option maxHeartbeats 1600000 in
theorem plain_average (w : World) (n : Int) (a : Option Addr) (N c : Nat) (frm upt : Int) (q : Nat) (Q : Ending → World → Prop)
    (HC : ∀ W, w.grownBy W none → Calls Try.prog 49 #[.agg #[.slice a N c, .int .i64 frm, .int .i64 upt]] W fun e w' => ∃ v, e = .returned (.float .f64 v) ∧ Hid (Q (.returned (.float .f64 v)) w')) :
    Calls Try.prog 99 #[plV n 49, .agg #[.slice a N c, .int .i64 frm, .int .i64 upt], .float .f64 q] w fun e w' => Q e w' := by
  have HC2 : Hid (∀ C D, Calls Try.prog 49 #[.agg #[.slice a N c, .int .i64 frm, .int .i64 upt]] ((w.alloc C).alloc D) fun e w' => ∃ v, e = .returned (.float .f64 v) ∧ Hid (Q (.returned (.float .f64 v)) w')) := fun C D => HC _ (gb_none (alloc_gb _ _) (alloc_gb _ _))
  clear HC
  unfold plV
  go_enter Try.func99, Try.ntmps99
  go_wp2_with fail
  refine (HC2.out _ _).mono ?_
  rintro e w1 ⟨v, rfl, H1⟩
  clear HC2
  go_wp2
  exact H1.out
theorem call_average (w : World) (v : Value) (l : List SmpT) (frm upt : Int) (q : Nat) (hv : RdP w v l) (hl : l.length ≤ 8796093022208) :
    Calls Try.prog 11 #[.string ⟨#[97, 118, 103, 95, 111, 118, 101, 114, 95, 116, 105, 109, 101]⟩, v, .int .i64 frm, .int .i64 upt, .float .f64 q] w fun e w' => CallP (fun m _ _ x => cz x = avgC m) 1 l frm upt e ∧ w.grownBy w' none := by
  refine call_at (fun m _ _ x => cz x = avgC m) 1 1 49 _ (by decide) (tab_ne _ (by decide)) rfl (by decide) ?_ w v l frm upt q hv hl
  intro W m a c frm upt q hr hm
  refine (plain_average W 1 a m.length c frm upt q (fun e w' => ∃ v, e = .returned (.float .f64 v) ∧ cz v = avgC m ∧ W.grownBy w' none) (fun W' hg => ?_)).mono (fun e w' h => h)
  refine (average_any W' a c m frm upt (hr.keep hg) (by omega)).mono ?_
  rintro e w' ⟨v, rfl, q1, q2⟩
  exact ⟨_, rfl, _, rfl, q1, gb_none hg q2⟩

set_option maxHeartbeats 1600000 in
theorem plain_lastRate (w : World) (n : Int) (a : Option Addr) (N c : Nat) (frm upt : Int) (q : Nat) (Q : Ending → World → Prop)
    (HC : ∀ W, w.grownBy W none → Calls Try.prog 61 #[.agg #[.slice a N c, .int .i64 frm, .int .i64 upt]] W fun e w' => ∃ v, e = .returned (.float .f64 v) ∧ Hid (Q (.returned (.float .f64 v)) w')) :
    Calls Try.prog 99 #[plV n 61, .agg #[.slice a N c, .int .i64 frm, .int .i64 upt], .float .f64 q] w fun e w' => Q e w' := by
  have HC2 : Hid (∀ C D, Calls Try.prog 61 #[.agg #[.slice a N c, .int .i64 frm, .int .i64 upt]] ((w.alloc C).alloc D) fun e w' => ∃ v, e = .returned (.float .f64 v) ∧ Hid (Q (.returned (.float .f64 v)) w')) := fun C D => HC _ (gb_none (alloc_gb _ _) (alloc_gb _ _))
  clear HC
  unfold plV
  go_enter Try.func99, Try.ntmps99
  go_wp2_with fail
  refine (HC2.out _ _).mono ?_
  rintro e w1 ⟨v, rfl, H1⟩
  clear HC2
  go_wp2
  exact H1.out
theorem call_lastRate (w : World) (v : Value) (l : List SmpT) (frm upt : Int) (q : Nat) (hv : RdP w v l) (hl : l.length ≤ 8796093022208) :
    Calls Try.prog 11 #[.string ⟨#[105, 114, 97, 116, 101]⟩, v, .int .i64 frm, .int .i64 upt, .float .f64 q] w fun e w' => CallP (fun m _ _ x => cz x = irtC m) 2 l frm upt e ∧ w.grownBy w' none := by
  refine call_at (fun m _ _ x => cz x = irtC m) 13 2 61 _ (by decide) (tab_ne _ (by decide)) rfl (by decide) ?_ w v l frm upt q hv hl
  intro W m a c frm upt q hr hm
  refine (plain_lastRate W 2 a m.length c frm upt q (fun e w' => ∃ v, e = .returned (.float .f64 v) ∧ cz v = irtC m ∧ W.grownBy w' none) (fun W' hg => ?_)).mono (fun e w' h => h)
  refine (lastRate_any W' a c m frm upt (hr.keep hg) (by omega)).mono ?_
  rintro e w' ⟨v, rfl, q1, q2⟩
  exact ⟨_, rfl, _, rfl, q1, gb_none hg q2⟩

set_option maxHeartbeats 1600000 in
theorem plain_lastDelta (w : World) (n : Int) (a : Option Addr) (N c : Nat) (frm upt : Int) (q : Nat) (Q : Ending → World → Prop)
    (HC : ∀ W, w.grownBy W none → Calls Try.prog 62 #[.agg #[.slice a N c, .int .i64 frm, .int .i64 upt]] W fun e w' => ∃ v, e = .returned (.float .f64 v) ∧ Hid (Q (.returned (.float .f64 v)) w')) :
    Calls Try.prog 99 #[plV n 62, .agg #[.slice a N c, .int .i64 frm, .int .i64 upt], .float .f64 q] w fun e w' => Q e w' := by
  have HC2 : Hid (∀ C D, Calls Try.prog 62 #[.agg #[.slice a N c, .int .i64 frm, .int .i64 upt]] ((w.alloc C).alloc D) fun e w' => ∃ v, e = .returned (.float .f64 v) ∧ Hid (Q (.returned (.float .f64 v)) w')) := fun C D => HC _ (gb_none (alloc_gb _ _) (alloc_gb _ _))
  clear HC
  unfold plV
  go_enter Try.func99, Try.ntmps99
  go_wp2_with fail
  refine (HC2.out _ _).mono ?_
  rintro e w1 ⟨v, rfl, H1⟩
  clear HC2
  go_wp2
  exact H1.out
theorem call_lastDelta (w : World) (v : Value) (l : List SmpT) (frm upt : Int) (q : Nat) (hv : RdP w v l) (hl : l.length ≤ 8796093022208) :
    Calls Try.prog 11 #[.string ⟨#[105, 100, 101, 108, 116, 97]⟩, v, .int .i64 frm, .int .i64 upt, .float .f64 q] w fun e w' => CallP (fun m _ _ x => cz x = idlC m) 2 l frm upt e ∧ w.grownBy w' none := by
  refine call_at (fun m _ _ x => cz x = idlC m) 14 2 62 _ (by decide) (tab_ne _ (by decide)) rfl (by decide) ?_ w v l frm upt q hv hl
  intro W m a c frm upt q hr hm
  refine (plain_lastDelta W 2 a m.length c frm upt q (fun e w' => ∃ v, e = .returned (.float .f64 v) ∧ cz v = idlC m ∧ W.grownBy w' none) (fun W' hg => ?_)).mono (fun e w' h => h)
  refine (lastDelta_any W' a c m frm upt (hr.keep hg) (by omega)).mono ?_
  rintro e w' ⟨v, rfl, q1, q2⟩
  exact ⟨_, rfl, _, rfl, q1, gb_none hg q2⟩

set_option maxRecDepth 8000 in
set_option maxHeartbeats 6400000 in
theorem call_atR (P : List SmpT → Int → Int → Nat → Prop) (k n f : Nat) (nm : ByteArray) (hk : k < 15) (hne : ∀ j, j < k → ((tabL.getD j tabZ).1.toList == (tabL.getD k tabZ).1.toList) = false) (hent : tabL.getD k tabZ = (nm, 83, plV (n : Int) f)) (_ : n ≤ 2)
    (w : World) (v : Value) (l : List SmpT) (frm upt : Int) (q : Nat)
    (HCome : ∀ W a c, RdP W (.slice a (live l).length c) (live l) → n ≤ (live l).length → Calls Try.prog 101 #[plV (n : Int) f, .agg #[.slice a (live l).length c, .int .i64 frm, .int .i64 upt], .float .f64 q] W fun e w' => ∃ v, e = .returned (.float .f64 v) ∧ P (live l) frm upt v ∧ W.grownBy w' none) (hv : RdP w v l) (hl : l.length ≤ 8796093022208) :
    Calls Try.prog 11 #[.string nm, v, .int .i64 frm, .int .i64 upt, .float .f64 q] w fun e w' => CallP P n l frm upt e ∧ w.grownBy w' none := by
  have HFd := hidJ (find_at w k hk hne)
  rw [hent] at HFd
  dsimp only at HFd
  have HA : Hid (∀ w1, w.grownBy w1 none → Calls Try.prog 24 #[v] w1 fun e w' => ∃ a c, e = .returned (.slice a (live l).length c) ∧ Hid (RdP w' (.slice a (live l).length c) (live l) ∧ w.grownBy w' none)) := fun w1 hg => (alive_any w1 v l (hv.keep hg) hl).mono (by
    rintro e w' ⟨a, c, h1, h2, h3⟩
    exact ⟨a, c, h1, h2, gb_none hg h3⟩)
  obtain ⟨va, vn, vc, rfl⟩ : ∃ a n c, v = .slice a n c := by
    obtain ⟨a, c, e, -⟩ := hv
    exact ⟨a, _, c, e⟩
  have hll := live_le l
  obtain ⟨N, hN⟩ : ∃ N, (live l).length = N := ⟨_, rfl⟩
  have HL := hidJ hN
  obtain ⟨RQ, hRQ⟩ : ∃ RQ : Ending → World → Prop, RQ = fun e w' => CallP P n l frm upt e ∧ w.grownBy w' none := ⟨_, rfl⟩
  have HF1 : Hid (∀ w', rightW (live l) frm upt = false → w.grownBy w' none → RQ (.returned (.tuple #[.float .f64 0, .bool false, .int .i64 1])) w') := fun w' h hg => by
    rw [hRQ]; exact ⟨.inl ⟨h, rfl⟩, hg⟩
  have HF2 : Hid (∀ w', rightW (live l) frm upt = true → N < n → w.grownBy w' none → RQ (.returned (.tuple #[.float .f64 0, .bool false, .int .i64 0])) w') := fun w' h h2 hg => by
    rw [hRQ]; exact ⟨.inr (.inl ⟨h, by rw [hN]; exact h2, rfl⟩), hg⟩
  have HF3 : Hid (∀ w' x, rightW (live l) frm upt = true → n ≤ N → P (live l) frm upt x → w.grownBy w' none → RQ (.returned (.tuple #[.float .f64 (toldN x), .bool true, .int .i64 0])) w') := fun w' x h h2 h3 hg => by
    rw [hRQ]; exact ⟨.inr (.inr ⟨h, by rw [hN]; exact h2, x, h3, rfl⟩), hg⟩
  rw [show (fun e w' => CallP P n l frm upt e ∧ w.grownBy w' none) = (fun e w' => RQ e w') from by rw [hRQ]]
  clear hRQ hent hne hk hv
  have HCm : Hid (∀ W a c, RdP W (.slice a N c) (live l) → w.grownBy W none → n ≤ N → Calls Try.prog 101 #[plV (n : Int) f, .agg #[.slice a N c, .int .i64 frm, .int .i64 upt], .float .f64 q] W fun e w' => ∃ x, e = .returned (.float .f64 x) ∧ Hid (P (live l) frm upt x ∧ w.grownBy w' none)) := fun W a c hr hg hn => by
    have := HCome W a c (by rw [hN]; exact hr) (by rw [hN]; exact hn)
    rw [hN] at this
    refine this.mono ?_
    rintro e w' ⟨x, h1, h2, h3⟩
    exact ⟨x, h1, h2, gb_none hg h3⟩
  have HR : Hid (∀ W a c, RdP W (.slice a N c) (live l) → w.grownBy W none → Calls Try.prog 25 #[.agg #[.slice a N c, .int .i64 frm, .int .i64 upt]] W fun e w' => e = .returned (.bool (rightW (live l) frm upt)) ∧ Hid (W.grownBy w' none)) := fun W a c hr hg => by
    have := right_any W a c (live l) frm upt (by rw [hN]; exact hr)
    rw [hN] at this
    exact this
  rw [hN] at HA hll
  clear HCome hN hl
  have HT : Hid (∀ W x, Calls Try.prog 19 #[.float .f64 x] W fun e w' => e = .returned (.float .f64 (toldN x)) ∧ w' = W) := fun W x => told_any W x
  have HNe : Hid (∀ W u, Calls Try.prog 102 #[.agg #[.int .i64 (n : Int), u]] W fun e w' => e = .returned (.int .i64 (n : Int)) ∧ W.grownBy w' none) := fun W u => needsR_any W n u
  unfold plV at HFd HCm
  obtain ⟨fv, hfv⟩ : ∃ fv, Value.func (.func f) #[] #[] = fv := ⟨_, rfl⟩
  rw [hfv] at HFd HCm
  clear hfv
  generalize rightW (live l) frm upt = rw' at *
  go_enter Try.func11, Try.ntmps11
  go_wp2_with fail
  refine HFd.out.mono ?_
  rintro e w1 ⟨rfl, q1⟩
  have HA1 := hidJ (HA.out w1 q1)
  clear HFd HA q1
  go_wp2_with fail
  refine HA1.out.mono ?_
  rintro e w2 ⟨a, c, rfl, q2⟩
  clear HA1
  obtain ⟨C2, hC2⟩ : ∃ C2 : Obj, C2 = .cells #[.slice a N c, .int .i64 frm, .int .i64 upt] 54 := ⟨_, rfl⟩
  have hg2 := alloc_gb w2 C2
  have hb2 := Go.heap_alloc_new w2 C2
  have HR2 := hidJ (HR.out (w2.alloc C2) a c (q2.out.1.keep hg2) (gb_none q2.out.2 hg2))
  clear HR
  obtain ⟨B, hB⟩ : ∃ B, w2.heap.size = B := ⟨_, rfl⟩
  have HX : Hid (∀ W, (w2.alloc C2).grownBy W none → W.cell? ⟨w2.heap.size, 0, none⟩ = some (.slice a N c) ∧ W.cell? ⟨w2.heap.size, 1, none⟩ = some (.int .i64 frm) ∧ W.cell? ⟨w2.heap.size, 2, none⟩ = some (.int .i64 upt) ∧ Hid (RdP W (.slice a N c) (live l) ∧ w.grownBy W none)) := fun W hg => by
    have h := (hg.block _ (some_lt hb2) (by simp)).trans hb2
    rw [hC2] at h
    refine ⟨?_, ?_, ?_, q2.out.1.keep (gb_none hg2 hg), gb_none (gb_none q2.out.2 hg2) hg⟩ <;> (rw [World.cell?, h]; rfl)
  clear hg2 hb2 q2 hB
  subst hC2
  go_wp2_with fail
  refine HR2.out.mono ?_
  rintro e w3 ⟨rfl, q3⟩
  clear HR2
  obtain ⟨c0, c1, c2, HG⟩ := HX.out w3 q3.out
  cases rw' with
  | false =>
    have HFF := hidJ (HF1.out w3 rfl HG.out.2)
    clear HF1 HF2 HF3 HX q3 HG HCm HNe HT
    go_wp2
    go_ret3
    exact HFF.out
  | true =>
    have hm : ∀ w : World, (method 214 83 (.agg #[.int .i64 (n : Int), fv]) "tocsin/over.needs").run Try.prog w = .ok (102, .agg #[.int .i64 (n : Int), fv]) w := fun _ => by kernel_rfl
    have hna : ∀ w : World, (nilAhead 214 83 (.agg #[.int .i64 (n : Int), fv]) "tocsin/over.needs").run Try.prog w = .ok (some false) w := fun _ => by kernel_rfl
    have HN3 : Hid (∀ W, w3.grownBy W none → Calls Try.prog 102 #[.agg #[.int .i64 (n : Int), fv]] W fun e w' => e = .returned (.int .i64 (n : Int)) ∧ w'.cell? ⟨w2.heap.size, 0, none⟩ = some (.slice a N c) ∧ Hid (w3.grownBy w' none)) := fun W hg => by
      refine (HNe.out W fv).mono ?_
      rintro e w' ⟨h1, h2⟩
      have hg' := gb_none hg h2
      exact ⟨h1, (HX.out w' (gb_none q3.out hg')).1, hg'⟩
    have HNa := hidJ (HN3.out w3 (gb_refl _ _))
    have HNb := hidJ (HN3.out w3.drew (gb_drew _ _))
    clear HN3
    generalize hbx : w2.heap.size = B2 at *
    go_wp2
    go_region_held3 (fun w' => w'.cell? ⟨B2, 0, none⟩ = some (.slice a N c)) (go_keep)
      (first
        | (go_at_call 102; with_reducible refine HNa.out.mono ?_; rintro e w4 ⟨rfl, k0, HK⟩)
        | (go_at_call 102; with_reducible refine HNb.out.mono ?_; rintro e w4 ⟨rfl, k0, HK⟩))
    obtain ⟨d0, d1, d2, HG4⟩ := HX.out w4 (gb_none q3.out HK.out)
    clear k0 c0 c1 c2 HG HNa HNb HNe hm hna HK HF1 q3
    by_cases hnn : N < n
    · have hni : (N : Int) < (n : Int) := by omega
      have HFF := hidJ (HF2.out w4 trivial hnn HG4.out.2)
      rw [decide_eq_true hnn]
      clear HF2 HF3 HX HG4 HCm HT
      go_wp2
      go_ret3
      exact HFF.out
    · have HC4 := hidJ (HCm.out w4 a c HG4.out.1 HG4.out.2 (by omega))
      have HFF : Hid (∀ w' x, P (live l) frm upt x → w.grownBy w' none → RQ (.returned (.tuple #[.float .f64 (toldN x), .bool true, .int .i64 0])) w') := fun w' x h hg => HF3.out w' x trivial (by omega) h hg
      have hm : ∀ w : World, (method 214 83 (.agg #[.int .i64 (n : Int), fv]) "tocsin/over.comesTo").run Try.prog w = .ok (101, .agg #[.int .i64 (n : Int), fv]) w := fun _ => by kernel_rfl
      have hna : ∀ w : World, (nilAhead 214 83 (.agg #[.int .i64 (n : Int), fv]) "tocsin/over.comesTo").run Try.prog w = .ok (some false) w := fun _ => by kernel_rfl
      rw [decide_eq_false hnn]
      clear HF2 HF3 HX HG4 HCm
      go_wp2_with fail
      refine HC4.out.mono ?_
      rintro e w5 ⟨x, rfl, h5⟩
      have HR5 := hidJ (HFF.out w5 x h5.out.1 h5.out.2)
      clear HC4 HFF h5 hm hna
      go_wp2_with fail
      refine (HT.out _ _).mono ?_
      rintro e w6 ⟨rfl, rfl⟩
      clear HT
      generalize toldN x = tx at *
      go_wp2
      go_ret3
      exact HR5.out
theorem live_in {l : List SmpT} (h : SmIn l) : SmIn (live l) := fun x hx => h x (List.mem_filter.1 hx).1
theorem call_quantile (w : World) (v : Value) (l : List SmpT) (frm upt : Int) (q : Nat) (hv : RdP w v l) (hl : l.length ≤ 8796093022208) (hin : SmIn l) :
    Calls Try.prog 11 #[.string ⟨#[113, 117, 97, 110, 116, 105, 108, 101, 95, 111, 118, 101, 114, 95, 116, 105, 109, 101]⟩, v, .int .i64 frm, .int .i64 upt, .float .f64 q] w fun e w' => CallP (fun m _ _ x => QuP q (m.map (·.2)) x) 1 l frm upt e ∧ w.grownBy w' none := by
  refine call_atR (fun m _ _ x => QuP q (m.map (·.2)) x) 7 1 55 _ (by decide) (tab_ne _ (by decide)) rfl (by decide) w v l frm upt q ?_ hv hl
  intro W a c hr hm
  have hll := live_le l
  refine (ruled_quant W 1 a (live l).length c frm upt q (fun e w' => ∃ v, e = .returned (.float .f64 v) ∧ QuP q ((live l).map (·.2)) v ∧ W.grownBy w' none) (fun W' hg => ?_)).mono (fun e w' h => h)
  refine (wquant_any W' a c (live l) frm upt q (hr.keep hg) hm (by omega) (live_in hin)).mono ?_
  rintro e w' ⟨v, rfl, q1, q2⟩
  exact ⟨_, rfl, _, rfl, q1, gb_none hg q2⟩
/-! ### one form for all -/
def anG (n : Nat) (m : List SmpT) (frm upt : Int) : Bool := rightW m frm upt && decide (n ≤ m.length)
def anE (m : List SmpT) (frm upt : Int) : Int := if rightW m frm upt = true then 0 else 1
theorem CallP.oneU {P : List SmpT → Int → Int → Nat → Prop} {n : Nat} {l m : List SmpT} {frm upt : Int} {e : Ending} (h : CallP P n l frm upt e) (hm : live l = m) (c : Nat) (hc : ∀ x, P m frm upt x → cz x = c) :
    e = .returned (.tuple #[.float .f64 (orC (anG n m frm upt) c), .bool (anG n m frm upt), .int .i64 (anE m frm upt)]) := by
  subst hm
  unfold anG anE orC
  rcases h with ⟨h1, h2⟩ | ⟨h1, h2, h3⟩ | ⟨h1, h2, v, h3, h4⟩
  · rw [h1, h2]; rfl
  · rw [h1, h3, decide_eq_false (by omega : ¬ n ≤ (live l).length)]; rfl
  · rw [h1, h4, cz_told, hc v h3, decide_eq_true h2]; rfl
/-- what a call answers of all rows of which alive leaves m -/
def Ans (nm : ByteArray) (m : List SmpT) (frm upt : Int) (q a : Nat) (ok : Bool) (er : Int) : Prop :=
  ∀ (w : World) (v : Value) (l : List SmpT), RdP w v l → l.length ≤ 8796093022208 → SmIn l → live l = m → Calls Try.prog 11 #[.string nm, v, .int .i64 frm, .int .i64 upt, .float .f64 q] w fun e w' => e = .returned (.tuple #[.float .f64 a, .bool ok, .int .i64 er]) ∧ w.grownBy w' none
theorem Ans.of {nm : ByteArray} {m : List SmpT} {frm upt : Int} {q : Nat} {P : List SmpT → Int → Int → Nat → Prop} {n c : Nat} (h : ∀ (w : World) (v : Value) (l : List SmpT), RdP w v l → l.length ≤ 8796093022208 → SmIn l → Calls Try.prog 11 #[.string nm, v, .int .i64 frm, .int .i64 upt, .float .f64 q] w fun e w' => CallP P n l frm upt e ∧ w.grownBy w' none) (hc : ∀ x, P m frm upt x → cz x = c) :
    ∃ a ok er, (er = 0 ∨ er = 1) ∧ Ans nm m frm upt q a ok er := by
  refine ⟨orC (anG n m frm upt) c, anG n m frm upt, anE m frm upt, (by unfold anE; split; exact .inl rfl; exact .inr rfl), fun w v l h1 h2 h3 hm => (h w v l h1 h2 h3).mono ?_⟩
  rintro e w' ⟨q1, q2⟩
  exact ⟨q1.oneU hm c hc, q2⟩
theorem call_one (k : Nat) (hk : k < 15) (m : List SmpT) (hin : SmIn m) (frm upt : Int) (q : Nat) : ∃ a ok er, (er = 0 ∨ er = 1) ∧ Ans (tabL.getD k tabZ).1 m frm upt q a ok er := by
  match k, hk with
  | 0, _ => exact Ans.of (c := sumC m) (fun w v l h1 h2 _ => call_sum w v l frm upt q h1 h2) (fun x h => h)
  | 1, _ => exact Ans.of (c := avgC m) (fun w v l h1 h2 _ => call_average w v l frm upt q h1 h2) (fun x h => h)
  | 2, _ => exact Ans.of (c := cz (val_least m)) (fun w v l h1 h2 _ => call_least w v l frm upt q h1 h2) (fun x h => by rw [h])
  | 3, _ => exact Ans.of (c := cz (val_greatest m)) (fun w v l h1 h2 _ => call_greatest w v l frm upt q h1 h2) (fun x h => by rw [h])
  | 4, _ => exact Ans.of (c := cz (val_count m)) (fun w v l h1 h2 _ => call_count w v l frm upt q h1 h2) (fun x h => by rw [h])
  | 5, _ => exact Ans.of (c := cz (val_last m)) (fun w v l h1 h2 _ => call_last w v l frm upt q h1 h2) (fun x h => by rw [h])
  | 6, _ => exact Ans.of (c := cz (val_present m)) (fun w v l h1 h2 _ => call_present w v l frm upt q h1 h2) (fun x h => by rw [h])
  | 7, _ =>
    have hin2 : ∀ x ∈ m.map (·.2), x < 18446744073709551616 := fun x hx => by
      obtain ⟨y, hy, rfl⟩ := List.mem_map.1 hx
      exact (hin y hy).2
    by_cases hx : ∃ x, QuP q (m.map (·.2)) x
    · obtain ⟨x0, h0⟩ := hx
      exact Ans.of (c := cz x0) (fun w v l h1 h2 h3 => call_quantile w v l frm upt q h1 h2 h3) (fun x h => QuP.one hin2 h h0)
    · exact Ans.of (c := 0) (fun w v l h1 h2 h3 => call_quantile w v l frm upt q h1 h2 h3) (fun x h => absurd ⟨x, h⟩ hx)
  | 8, _ => exact Ans.of (c := cz (val_changes m)) (fun w v l h1 h2 _ => call_changes w v l frm upt q h1 h2) (fun x h => by rw [h])
  | 9, _ => exact Ans.of (c := cz (val_resets m)) (fun w v l h1 h2 _ => call_resets w v l frm upt q h1 h2) (fun x h => by rw [h])
  | 10, _ => exact Ans.of (c := delC m frm upt) (fun w v l h1 h2 _ => call_delta w v l frm upt q h1 h2) (fun x h => h)
  | 11, _ => exact Ans.of (c := incC m frm upt) (fun w v l h1 h2 _ => call_increase w v l frm upt q h1 h2) (fun x h => h)
  | 12, _ => exact Ans.of (c := ratC m frm upt) (fun w v l h1 h2 _ => call_rate w v l frm upt q h1 h2) (fun x h => h)
  | 13, _ => exact Ans.of (c := irtC m) (fun w v l h1 h2 _ => call_lastRate w v l frm upt q h1 h2) (fun x h => h)
  | 14, _ => exact Ans.of (c := idlC m) (fun w v l h1 h2 _ => call_lastDelta w v l frm upt q h1 h2) (fun x h => h)
  | n + 15, h => exact absurd h (by omega)
end Go.Proofs.Ytgpednikianneaa
