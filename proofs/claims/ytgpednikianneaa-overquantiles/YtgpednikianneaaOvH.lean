/-
  Call of each function that reckons nothing.
-/
import Derived.Test.YtgpednikianneaaOvG
namespace Go.Proofs.Ytgpednikianneaa
open Go.RowKit

theorem call_least (w : World) (v : Value) (l : List SmpT) (frm upt : Int) (q : Nat) (hv : RdP w v l) (hl : l.length ≤ 8796093022208) :
    Calls Try.prog 11 #[.string ⟨#[109, 105, 110, 95, 111, 118, 101, 114, 95, 116, 105, 109, 101]⟩, v, .int .i64 frm, .int .i64 upt, .float .f64 q] w fun e w' => CallP (fun m _ _ x => x = val_least m) 1 l frm upt e ∧ w.grownBy w' none := by
  refine call_at (fun m _ _ x => x = val_least m) 2 1 50 _ (by decide) (tab_ne _ (by decide)) rfl (by decide) ?_ w v l frm upt q hv hl
  intro W m a c frm upt q hr hm
  refine (plain_least W 1 a m.length c frm upt q (fun e w' => ∃ v, e = .returned (.float .f64 v) ∧ v = val_least m ∧ W.grownBy w' none) (fun W' hg => ?_)).mono (fun e w' h => h)
  refine (win_least_any W' a c m frm upt (hr.keep hg) hm).mono ?_
  rintro e w' ⟨rfl, q2⟩
  exact ⟨_, rfl, _, rfl, rfl, gb_none hg q2⟩

theorem call_greatest (w : World) (v : Value) (l : List SmpT) (frm upt : Int) (q : Nat) (hv : RdP w v l) (hl : l.length ≤ 8796093022208) :
    Calls Try.prog 11 #[.string ⟨#[109, 97, 120, 95, 111, 118, 101, 114, 95, 116, 105, 109, 101]⟩, v, .int .i64 frm, .int .i64 upt, .float .f64 q] w fun e w' => CallP (fun m _ _ x => x = val_greatest m) 1 l frm upt e ∧ w.grownBy w' none := by
  refine call_at (fun m _ _ x => x = val_greatest m) 3 1 51 _ (by decide) (tab_ne _ (by decide)) rfl (by decide) ?_ w v l frm upt q hv hl
  intro W m a c frm upt q hr hm
  refine (plain_greatest W 1 a m.length c frm upt q (fun e w' => ∃ v, e = .returned (.float .f64 v) ∧ v = val_greatest m ∧ W.grownBy w' none) (fun W' hg => ?_)).mono (fun e w' h => h)
  refine (win_greatest_any W' a c m frm upt (hr.keep hg) hm).mono ?_
  rintro e w' ⟨rfl, q2⟩
  exact ⟨_, rfl, _, rfl, rfl, gb_none hg q2⟩

theorem call_count (w : World) (v : Value) (l : List SmpT) (frm upt : Int) (q : Nat) (hv : RdP w v l) (hl : l.length ≤ 8796093022208) :
    Calls Try.prog 11 #[.string ⟨#[99, 111, 117, 110, 116, 95, 111, 118, 101, 114, 95, 116, 105, 109, 101]⟩, v, .int .i64 frm, .int .i64 upt, .float .f64 q] w fun e w' => CallP (fun m _ _ x => x = val_count m) 1 l frm upt e ∧ w.grownBy w' none := by
  refine call_at (fun m _ _ x => x = val_count m) 4 1 52 _ (by decide) (tab_ne _ (by decide)) rfl (by decide) ?_ w v l frm upt q hv hl
  intro W m a c frm upt q hr hm
  refine (plain_count W 1 a m.length c frm upt q (fun e w' => ∃ v, e = .returned (.float .f64 v) ∧ v = val_count m ∧ W.grownBy w' none) (fun W' hg => ?_)).mono (fun e w' h => h)
  refine (win_count_any W' a c m frm upt).mono ?_
  rintro e w' ⟨rfl, q2⟩
  exact ⟨_, rfl, _, rfl, rfl, gb_none hg q2⟩

theorem call_last (w : World) (v : Value) (l : List SmpT) (frm upt : Int) (q : Nat) (hv : RdP w v l) (hl : l.length ≤ 8796093022208) :
    Calls Try.prog 11 #[.string ⟨#[108, 97, 115, 116, 95, 111, 118, 101, 114, 95, 116, 105, 109, 101]⟩, v, .int .i64 frm, .int .i64 upt, .float .f64 q] w fun e w' => CallP (fun m _ _ x => x = val_last m) 1 l frm upt e ∧ w.grownBy w' none := by
  refine call_at (fun m _ _ x => x = val_last m) 5 1 53 _ (by decide) (tab_ne _ (by decide)) rfl (by decide) ?_ w v l frm upt q hv hl
  intro W m a c frm upt q hr hm
  refine (plain_last W 1 a m.length c frm upt q (fun e w' => ∃ v, e = .returned (.float .f64 v) ∧ v = val_last m ∧ W.grownBy w' none) (fun W' hg => ?_)).mono (fun e w' h => h)
  refine (win_last_any W' a c m frm upt (hr.keep hg) hm).mono ?_
  rintro e w' ⟨rfl, q2⟩
  exact ⟨_, rfl, _, rfl, rfl, gb_none hg q2⟩

theorem call_present (w : World) (v : Value) (l : List SmpT) (frm upt : Int) (q : Nat) (hv : RdP w v l) (hl : l.length ≤ 8796093022208) :
    Calls Try.prog 11 #[.string ⟨#[112, 114, 101, 115, 101, 110, 116, 95, 111, 118, 101, 114, 95, 116, 105, 109, 101]⟩, v, .int .i64 frm, .int .i64 upt, .float .f64 q] w fun e w' => CallP (fun m _ _ x => x = val_present m) 1 l frm upt e ∧ w.grownBy w' none := by
  refine call_at (fun m _ _ x => x = val_present m) 6 1 54 _ (by decide) (tab_ne _ (by decide)) rfl (by decide) ?_ w v l frm upt q hv hl
  intro W m a c frm upt q hr hm
  refine (plain_present W 1 a m.length c frm upt q (fun e w' => ∃ v, e = .returned (.float .f64 v) ∧ v = val_present m ∧ W.grownBy w' none) (fun W' hg => ?_)).mono (fun e w' h => h)
  refine (win_present_any W' a c m frm upt).mono ?_
  rintro e w' ⟨rfl, q2⟩
  exact ⟨_, rfl, _, rfl, rfl, gb_none hg q2⟩

theorem call_changes (w : World) (v : Value) (l : List SmpT) (frm upt : Int) (q : Nat) (hv : RdP w v l) (hl : l.length ≤ 8796093022208) :
    Calls Try.prog 11 #[.string ⟨#[99, 104, 97, 110, 103, 101, 115]⟩, v, .int .i64 frm, .int .i64 upt, .float .f64 q] w fun e w' => CallP (fun m _ _ x => x = val_changes m) 1 l frm upt e ∧ w.grownBy w' none := by
  refine call_at (fun m _ _ x => x = val_changes m) 8 1 56 _ (by decide) (tab_ne _ (by decide)) rfl (by decide) ?_ w v l frm upt q hv hl
  intro W m a c frm upt q hr hm
  refine (plain_changes W 1 a m.length c frm upt q (fun e w' => ∃ v, e = .returned (.float .f64 v) ∧ v = val_changes m ∧ W.grownBy w' none) (fun W' hg => ?_)).mono (fun e w' h => h)
  refine (win_changes_any W' a c m frm upt (hr.keep hg) hm).mono ?_
  rintro e w' ⟨rfl, q2⟩
  exact ⟨_, rfl, _, rfl, rfl, gb_none hg q2⟩

theorem call_resets (w : World) (v : Value) (l : List SmpT) (frm upt : Int) (q : Nat) (hv : RdP w v l) (hl : l.length ≤ 8796093022208) :
    Calls Try.prog 11 #[.string ⟨#[114, 101, 115, 101, 116, 115]⟩, v, .int .i64 frm, .int .i64 upt, .float .f64 q] w fun e w' => CallP (fun m _ _ x => x = val_resets m) 1 l frm upt e ∧ w.grownBy w' none := by
  refine call_at (fun m _ _ x => x = val_resets m) 9 1 57 _ (by decide) (tab_ne _ (by decide)) rfl (by decide) ?_ w v l frm upt q hv hl
  intro W m a c frm upt q hr hm
  refine (plain_resets W 1 a m.length c frm upt q (fun e w' => ∃ v, e = .returned (.float .f64 v) ∧ v = val_resets m ∧ W.grownBy w' none) (fun W' hg => ?_)).mono (fun e w' h => h)
  refine (win_resets_any W' a c m frm upt (hr.keep hg) hm).mono ?_
  rintro e w' ⟨rfl, q2⟩
  exact ⟨_, rfl, _, rfl, rfl, gb_none hg q2⟩

end Go.Proofs.Ytgpednikianneaa
