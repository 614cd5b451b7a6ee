/-
  Put: the walk.
-/
import Derived.Test.YtmgbcmogdjhacaaDoorAl6
import Derived.BigQuiet
import Derived.Deep.QuietTactic
namespace Go.Proofs.YtmgbcmogdjhacaaDoor
open Go.RowKit Go.Shelf Go.Maps Go.WideMaps

/-- what Put asks first: the alert, dated -/
theorem dated_put (w : World) (gx : Nat) (R now st en : Int) (a : Option Addr) (c : Nat) (ls : List LbT) (c0 : w.cell? ⟨gx, 0, none⟩ = some (.int .i64 R)) (hR : 1 ≤ R ∧ R ≤ 1099511627776) (hu : RdL w (.slice a ls.length c) ls) (hl : LbIn ls) (hT : U8S w) :
    Calls Tryd.prog 36 #[.pointer (some ⟨gx, 0, none⟩), .int .i64 now, .agg #[.slice a ls.length c, .int .i64 st, .int .i64 en]] (w.alloc (.cells #[.slice a ls.length c, .int .i64 st, .int .i64 en] 34)) fun e w' => e = .returned (.tuple #[dRes R now (.slice a ls.length c) ⟨ls, st, en⟩, .int .i64 (dateE R now ⟨ls, st, en⟩)]) ∧ Hid (w.grownBy w' none ∧ B3 w' w.heap.size 34 (.slice a ls.length c) (.int .i64 st) (.int .i64 en)) := by
  have k1 := World.grownBy_alloc w (.cells #[.slice a ls.length c, .int .i64 st, .int .i64 en] 34) none
  refine (dated_any (w.alloc (.cells #[.slice a ls.length c, .int .i64 st, .int .i64 en] 34)) gx R now st en (.slice a ls.length c) ls (cell_keep c0 k1) hR (hu.keep k1) hl (hT.keep k1)).mono ?_
  rintro e w' ⟨h1, h2⟩
  exact ⟨h1, gb_none k1 h2, (B3.new w 34 _ _ _).keep h2⟩
theorem gb_drewN (w : World) (n : Nat) : w.grownBy (w.drewN n) none := ⟨rfl, rfl, rfl, Nat.le_refl _, fun _ _ _ => rfl⟩
theorem PrjA.gr {w w' : World} {S : Nat → Prop} {gx gm : Nat} {R most : Int} {M : List AlR} {D : DataW Unit} {hv : List LbT → Value} (h : PrjA w S gx R most M gm D hv) (hg : w.grownBy w' none) : PrjOK w' (Gr S w w') gx R most M ∧ Ch w w' S :=
  ⟨⟨gm, D, hv, (h.keep hg).mono (fun _ _ e => .inl e)⟩, Ch.of_gb hg (fun k hk => by cases hk)⟩

set_option maxRecDepth 8000 in
set_option maxHeartbeats 12800000 in
theorem put_bad (w : World) (S : Nat → Prop) (gx : Nat) (R most now st en : Int) (M : List AlR) (u : Value) (ls : List LbT) (h : PrjOK w S gx R most M) (hu : RdL w u ls) (hl : LbIn ls) (hT : U8S w) (hE : dateE R now ⟨ls, st, en⟩ ≠ 0) :
    Calls Tryd.prog 17 #[.pointer (some ⟨gx, 0, none⟩), .int .i64 now, alV u st en] w fun e w' => e = .returned (.int .i64 (dateE R now ⟨ls, st, en⟩)) ∧ PrjOK w' (Gr S w w') gx R most M ∧ Ch w w' S := by
  obtain ⟨gm, D, hv, h⟩ := h
  have HP := hidJ h
  obtain ⟨a, c, rfl⟩ : ∃ a c, u = .slice a ls.length c := by obtain ⟨a, c, h, _⟩ := hu; exact ⟨a, c, h⟩
  have HD := hidJ (dated_put w gx R now st en a c ls h.cells.1 h.res hu hl hT)
  have hr : dRes R now (.slice a ls.length c) ⟨ls, st, en⟩ = .agg #[.slice none 0 0, .int .i64 0, .int .i64 0] := by unfold dRes; rw [if_neg hE]; rfl
  rw [hr] at HD
  clear h hu hl hT hr
  have hEb : (dateE R now ⟨ls, st, en⟩ == 0) = false := by rw [beq_eq_false_iff_ne]; exact hE
  generalize dateE R now ⟨ls, st, en⟩ = dE at *
  unfold alV
  go_enter Tryd.func17, Tryd.ntmps17
  go_wp2_with fail
  refine HD.out.mono ?_
  rintro e w1 ⟨rfl, H1⟩
  clear HD
  obtain ⟨d0, d1, d2, e0, e1, e2⟩ := H1.out.2.cells
  go_wp2
  go_ret
  exact ⟨rfl, HP.out.gr (set3_gb H1.out.1 (Nat.le_refl _))⟩
set_option maxRecDepth 8000 in
set_option maxHeartbeats 12800000 in
theorem put_full (w : World) (S : Nat → Prop) (gx : Nat) (R most now st en : Int) (M : List AlR) (u : Value) (ls : List LbT) (h : PrjOK w S gx R most M) (hu : RdL w u ls) (hl : LbIn ls) (hT : U8S w) (hE : dateE R now ⟨ls, st, en⟩ = 0) (hf : findA M ls = none) (hm : most ≤ (M.length : Int)) :
    Calls Tryd.prog 17 #[.pointer (some ⟨gx, 0, none⟩), .int .i64 now, alV u st en] w fun e w' => e = .returned (.int .i64 8) ∧ PrjOK w' (Gr S w w') gx R most M ∧ Ch w w' S := by
  obtain ⟨gm, D, hv, h⟩ := h
  have HP := hidJ h
  obtain ⟨a, c, rfl⟩ : ∃ a c, u = .slice a ls.length c := by obtain ⟨a, c, h, _⟩ := hu; exact ⟨a, c, h⟩
  have HD := hidJ (dated_put w gx R now st en a c ls h.cells.1 h.res hu hl hT)
  have hr : dRes R now (.slice a ls.length c) ⟨ls, st, en⟩ = .agg #[.slice a ls.length c, .int .i64 (stD now ⟨ls, st, en⟩), .int .i64 (enD R now ⟨ls, st, en⟩)] := by unfold dRes; rw [if_pos hE]; rfl
  rw [hr, hE] at HD
  have hrt := (dateE_ok hE).2.1
  have HU := hidJ (And.intro hu (And.intro hl hT))
  have HF := hidJ hf
  generalize stD now ⟨ls, st, en⟩ = sd at *
  generalize enD R now ⟨ls, st, en⟩ = ed at *
  clear h hu hl hT hr hE hf
  unfold alV
  go_enter Tryd.func17, Tryd.ntmps17
  go_wp2_with fail
  refine HD.out.mono ?_
  rintro e w1 ⟨rfl, H1⟩
  clear HD
  obtain ⟨d0, d1, d2, e0, e1, e2⟩ := H1.out.2.cells
  have HW1 : Hid (∀ W, W = ((w1.setCell ⟨w.heap.size, 0, none⟩ (.slice a ls.length c)).setCell ⟨w.heap.size, 1, none⟩ (.int .i64 sd)).setCell ⟨w.heap.size, 2, none⟩ (.int .i64 ed) → w.grownBy W none ∧ B3 W w.heap.size 34 (.slice a ls.length c) (.int .i64 sd) (.int .i64 ed)) := by
    rintro W rfl
    exact ⟨set3_gb H1.out.1 (Nat.le_refl _), set3 H1.out.2⟩
  go_wp2_with fail
  generalize ((w1.setCell ⟨w.heap.size, 0, none⟩ (.slice a ls.length c)).setCell ⟨w.heap.size, 1, none⟩ (.int .i64 sd)).setCell ⟨w.heap.size, 2, none⟩ (.int .i64 ed) = W1 at *
  have H2 := hidJ (HW1.out _ rfl)
  clear HW1 H1 d0 d1 d2 e0 e1 e2
  have HK : Hid (Calls Tryd.prog 35 #[.slice a ls.length c] W1 fun e w' => e = .returned (.tuple #[.string (ByteArray.mk ⟨keyB ls⟩), .bool true]) ∧ (Instr.lookup 59 (.map (some gm)) (.string (ByteArray.mk ⟨keyB ls⟩)) true).run Tryd.prog w' = .ok (.tuple #[.agg #[.slice none 0 0, .int .i64 0, .int .i64 0], .bool false]) w' ∧ w'.cell? ⟨gx, 2, none⟩ = some (.map (some gm)) ∧ (∀ C, (w'.alloc C).cell? ⟨gx, 1, none⟩ = some (.int .i64 most)) ∧ (∀ C, (w'.alloc C).cell? ⟨gx, 2, none⟩ = some (.map (some gm))) ∧ (∀ C n ty, (Builtin.len_ #[59] ty #[.map (some gm)]).run Tryd.prog ((w'.alloc C).drewN n) = .ok (.int .i64 (M.length : Int)) ((w'.alloc C).drewN n)) ∧ Hid (w.grownBy w' none ∧ B3 w' w.heap.size 34 (.slice a ls.length c) (.int .i64 sd) (.int .i64 ed))) := by
    refine (keyOf_any W1 _ ls (HU.out.1.keep H2.out.1) HU.out.2.1 (HU.out.2.2.keep H2.out.1)).mono ?_
    rintro e w' ⟨rfl, q⟩
    have g := gb_none H2.out.1 q
    have hk := HP.out.keep g
    have hlk := hk.look hrt
    rw [HF.out] at hlk
    rw [(keyF_right hrt).1, decide_eq_true hrt]
    exact ⟨rfl, hlk, hk.cells.2.2, fun C => (hk.keep (World.grownBy_alloc _ C none)).cells.2.1, fun C => (hk.keep (World.grownBy_alloc _ C none)).cells.2.2, fun C n ty => (hk.keep (gb_none (World.grownBy_alloc _ C none) (gb_drewN _ n))).len ty, g, H2.out.2.keep q⟩
  refine HK.out.mono ?_
  rintro e w2 ⟨rfl, lk, c2, a1, a2, a3, H3⟩
  clear HK
  generalize ByteArray.mk ⟨keyB ls⟩ = KS at *
  generalize M.length = N at *
  go_wp2_with fail
  go_quiet (fail)
  go_wp2
  go_ret
  exact ⟨rfl, HP.out.gr (gb_none H3.out.1 (gb_none (World.grownBy_alloc _ _ none) (gb_drewN _ _)))⟩
end Go.Proofs.YtmgbcmogdjhacaaDoor
