/-
  nflog's small functions: spans, isText, areRight, areRising: the walks.
-/
import Derived.Test.YtbnieljkadcaoabGreatDoorNf5
import Derived.Test.YtbnieljkadcaoabGreatDoorLbP2
namespace Go.Proofs.YtbnieljkadcaoabGreatDoor
open Go.RowKit Go.Shelf Go.Sort

set_option maxHeartbeats 800000 in
theorem spanW_any (n a b : Int) (w : World) : Calls Tryz.prog 59 #[.int .i64 n, .int .i64 a, .int .i64 b] w fun e w' => e = .returned (.bool (decide (a ≤ n) && decide (n ≤ b))) ∧ w' = w := by
  by_cases h1 : a ≤ n
  · by_cases h2 : n ≤ b
    · rw [decide_eq_true h1, decide_eq_true h2]
      go_enter Tryz.func59, Tryz.ntmps59
      go_wp2
      go_ret
      exact ⟨by simp, rfl⟩
    · rw [decide_eq_true h1, decide_eq_false h2]
      go_enter Tryz.func59, Tryz.ntmps59
      go_wp2
      go_ret
      exact ⟨by simp, rfl⟩
  · rw [decide_eq_false h1]
    go_enter Tryz.func59, Tryz.ntmps59
    go_wp2
    go_ret
    exact ⟨by simp, rfl⟩
/-- a time, a span that is not 0, a span -/
def timB (n : Int) : Bool := decide (0 ≤ n) && decide (n ≤ 1125899906842624)
def somB (n : Int) : Bool := decide (1 ≤ n) && decide (n ≤ 1099511627776)
def spnB (n : Int) : Bool := decide (0 ≤ n) && decide (n ≤ 1099511627776)
set_option maxHeartbeats 800000 in
theorem time_any (n : Int) (w : World) : Calls Tryz.prog 34 #[.int .i64 n] w fun e w' => e = .returned (.bool (timB n)) ∧ w' = w := by
  have HC := hidJ (spanW_any n 0 1125899906842624 w)
  change Hid (Calls _ _ _ _ (fun e w' => e = .returned (.bool (timB n)) ∧ w' = w)) at HC
  generalize timB n = r at *
  go_enter Tryz.func34, Tryz.ntmps34
  go_wp2_with fail
  refine HC.out.mono ?_
  rintro e w1 ⟨rfl, rfl⟩
  clear HC
  go_wp2
  go_ret
  exact ⟨rfl, rfl⟩
set_option maxHeartbeats 800000 in
theorem some_any (n : Int) (w : World) : Calls Tryz.prog 56 #[.int .i64 n] w fun e w' => e = .returned (.bool (somB n)) ∧ w' = w := by
  have HC := hidJ (spanW_any n 1 1099511627776 w)
  change Hid (Calls _ _ _ _ (fun e w' => e = .returned (.bool (somB n)) ∧ w' = w)) at HC
  generalize somB n = r at *
  go_enter Tryz.func56, Tryz.ntmps56
  go_wp2_with fail
  refine HC.out.mono ?_
  rintro e w1 ⟨rfl, rfl⟩
  clear HC
  go_wp2
  go_ret
  exact ⟨rfl, rfl⟩
set_option maxHeartbeats 800000 in
theorem spanR_any (n : Int) (w : World) : Calls Tryz.prog 35 #[.int .i64 n] w fun e w' => e = .returned (.bool (spnB n)) ∧ w' = w := by
  have HC := hidJ (spanW_any n 0 1099511627776 w)
  change Hid (Calls _ _ _ _ (fun e w' => e = .returned (.bool (spnB n)) ∧ w' = w)) at HC
  generalize spnB n = r at *
  go_enter Tryz.func35, Tryz.ntmps35
  go_wp2_with fail
  refine HC.out.mono ?_
  rintro e w1 ⟨rfl, rfl⟩
  clear HC
  go_wp2
  go_ret
  exact ⟨rfl, rfl⟩
/-- right UTF-8 of at least one byte, and at most so many -/
def txtB (s : List UInt8) (most : Nat) : Bool := decide (s ≠ []) && (decide (s.length ≤ most) && Lib.validD s)
set_option maxHeartbeats 1600000 in
theorem isText_any (w : World) (s : List UInt8) (most : Nat) (hs : s.length ≤ 1000000000000000000) (hT : U8S w) :
    Calls Tryz.prog 45 #[.string (ByteArray.mk ⟨s⟩), .int .i64 (most : Int)] w fun e w' => e = .returned (.bool (txtB s most)) ∧ w.grownBy w' none := by
  have HV := hidJ (validString_any w s hs hT)
  have HR : Hid (txtB s most = (decide (s ≠ []) && (decide (s.length ≤ most) && Lib.validD s))) := rfl
  have hsz : (ByteArray.mk ⟨s⟩).size = s.length := rfl
  have hnil : (ByteArray.mk ⟨s⟩).toList.isEmpty = decide (s = []) := by
    rw [ByteArray.toList_eq]
    cases s <;> rfl
  have hnil2 : ((ByteArray.mk ⟨s⟩).toList = []) = (s = []) := by rw [ByteArray.toList_eq]
  clear hT
  generalize Lib.validD s = V at *
  generalize txtB s most = R at *
  by_cases h0 : s = []
  · subst h0
    have hR : R = false := by rw [HR.out]; simp
    subst hR
    rw [decide_eq_true rfl] at hnil
    have hnil3 : (ByteArray.mk ⟨[]⟩).toList = [] := by rw [hnil2]
    clear HR HV hnil2
    generalize hb : ByteArray.mk ⟨[]⟩ = bs at *
    clear hb
    go_enter Tryz.func45, Tryz.ntmps45
    go_wp2
    go_ret
    exact ⟨rfl, gb_refl _ _⟩
  · rw [decide_eq_false h0] at hnil
    have hnil3 : ¬ (ByteArray.mk ⟨s⟩).toList = [] := by rw [hnil2]; exact h0
    clear hnil2
    by_cases hl : s.length ≤ most
    · have hR : R = V := by rw [HR.out]; simp [h0, hl]
      subst hR
      have hli : ((s.length : Nat) : Int) ≤ (most : Int) := by omega
      clear HR
      generalize hb : ByteArray.mk ⟨s⟩ = bs at *
      clear hb
      go_enter Tryz.func45, Tryz.ntmps45
      go_wp2_with fail
      refine HV.out.mono ?_
      rintro e w1 ⟨rfl, H1⟩
      have H1 := hidJ H1
      clear HV
      go_wp2
      go_ret
      exact ⟨rfl, H1.out⟩
    · have hR : R = false := by rw [HR.out]; simp [hl]
      subst hR
      have hli : ¬ ((s.length : Nat) : Int) ≤ (most : Int) := by omega
      clear HR HV
      generalize hb : ByteArray.mk ⟨s⟩ = bs at *
      clear hb
      go_enter Tryz.func45, Tryz.ntmps45
      go_wp2
      go_ret
      exact ⟨rfl, gb_refl _ _⟩
theorem allR_drop {a : List (List LbT)} {z : Nat} (hz : z < a.length) : allR (a.drop z) = (decide ((rightS (a.getD z [])).1 = 0) && allR (a.drop (z + 1))) := by
  have e1 : a.getD z [] = a[z] := by simp [List.getD, hz]
  rw [List.drop_eq_getElem_cons hz, e1]
  rfl
set_option maxRecDepth 8000 in
set_option maxHeartbeats 3200000 in
theorem areRight_any (w : World) (v : Value) (lss : List (List LbT)) (hv : RdLL w v lss) (hl : LLIn lss) (hT : U8S w) :
    Calls Tryz.prog 57 #[v] w fun e w' => e = .returned (.bool (allR lss)) ∧ w.grownBy w' none := by
  have HV := hidJ (And.intro hv (And.intro hl hT))
  obtain ⟨a, c, rfl, hc1, hc2⟩ := hv.shape
  obtain ⟨R, hR⟩ : ∃ R, R = allR lss := ⟨_, rfl⟩
  rw [← hR]
  have HR : Hid (R = allR (lss.drop 0)) := by show R = _; rw [hR]; simp
  clear hv hl hT hR
  go_enter Tryz.func57, Tryz.ntmps57
  go_wp2
  go_loopw [9] (fun i wr => ∃ z : Nat, z ≤ lss.length ∧ i = .int .i64 z ∧ Hid (w.grownBy wr none ∧ R = allR (lss.drop z))) (fun i _ => lss.length - (intOf i).toNat)
  case atStart => exact ⟨0, by omega, rfl, gb_refl _ _, HR.out⟩
  case round =>
    obtain ⟨z, hzN, rfl, hr⟩ := hrel
    have HG : Hid (w.grownBy wr none) := hr.out.1
    by_cases hzl : z < lss.length
    · have hzi : (z : Int) < (lss.length : Int) := by omega
      obtain ⟨b, o, ha', hcc, rfl, c0, hrd⟩ := (HV.out.1.keep HG.out).at (j := z) hzl
      have HB := hidJ (right_any wr _ _ hrd (HV.out.2.1.2 z) (HV.out.2.2.keep HG.out))
      have HW : Hid (R = (decide ((rightS (lss.getD z [])).1 = 0) && allR (lss.drop (z + 1)))) := by
        show _ = _
        rw [← allR_drop hzl]
        exact hr.out.2
      clear hr hrd HR
      generalize (lss.getD z []).length = hn at *
      generalize (rightS (lss.getD z [])).1 = r at *
      generalize (((rightS (lss.getD z [])).2 : Nat) : Int) = q at *
      by_cases hm : r = 0
      · subst hm
        rw [decide_eq_true rfl, Bool.true_and] at HW
        go_wp2_with fail
        refine HB.out.mono ?_
        rintro e w2 ⟨rfl, hg2⟩
        have H2 := hidJ (gb_none HG.out hg2)
        clear HB hg2 c0
        go_wp2
        go_roundw
        case rel => exact ⟨z + 1, by omega, by go_num, H2.out, HW.out⟩
        case measure => simp [intOf]; omega
      · rw [decide_eq_false hm, Bool.false_and] at HW
        have hrb : (r == 0) = false := by rw [beq_eq_false_iff_ne]; exact hm
        go_wp2_with fail
        refine HB.out.mono ?_
        rintro e w2 ⟨rfl, hg2⟩
        have H2 := hidJ (gb_none HG.out hg2)
        clear HB hg2 c0
        go_wp2
        go_ret
        exact ⟨by rw [HW.out]; rfl, H2.out⟩
    · have hzi : ¬ (z : Int) < (lss.length : Int) := by omega
      have HW : Hid (R = true) := by
        show _ = _
        rw [hr.out.2, List.drop_eq_nil_of_le (by omega)]
        rfl
      clear hr HR
      go_wp2
      go_ret
      exact ⟨by rw [HW.out]; rfl, HG.out⟩
/-- each above the one ahead, from i on -/
def upB (lss : List (List LbT)) : Nat → Nat → Bool
  | 0, _ => true
  | f + 1, i => decide (cmpLs (lss.getD (i - 1) []) (lss.getD i []) < 0) && upB lss f (i + 1)
/-- right label sets, each above the one ahead -/
def riseB (lss : List (List LbT)) : Bool := upB lss (lss.length - 1) 1 && allR lss
set_option maxRecDepth 8000 in
set_option maxHeartbeats 3200000 in
theorem areRising_any (w : World) (v : Value) (lss : List (List LbT)) (hv : RdLL w v lss) (hl : LLIn lss) (hT : U8S w) :
    Calls Tryz.prog 46 #[v] w fun e w' => e = .returned (.bool (riseB lss)) ∧ w.grownBy w' none := by
  have HV := hidJ (And.intro hv (And.intro hl hT))
  obtain ⟨a, c, rfl, hc1, hc2⟩ := hv.shape
  obtain ⟨R, hR⟩ : ∃ R, R = riseB lss := ⟨_, rfl⟩
  rw [← hR]
  have HR : Hid (R = (upB lss (lss.length - 1) 1 && allR lss)) := hR
  clear hv hl hT hR
  go_enter Tryz.func46, Tryz.ntmps46
  go_wp2
  go_loopw [3] (fun i wr => ∃ z : Nat, 1 ≤ z ∧ i = .int .i64 z ∧ (z ≤ lss.length ∨ z = 1) ∧ Hid (w.grownBy wr none ∧ R = (upB lss (lss.length - z) z && allR lss))) (fun i _ => lss.length + 1 - (intOf i).toNat)
  case atStart => exact ⟨1, by omega, rfl, .inr rfl, gb_refl _ _, HR.out⟩
  case round =>
    obtain ⟨z, hz1, rfl, hzN, hr⟩ := hrel
    have HG : Hid (w.grownBy wr none) := hr.out.1
    by_cases hzl : z < lss.length
    · have hzi : (z : Int) < (lss.length : Int) := by omega
      obtain ⟨y, hy⟩ : ∃ y, z = y + 1 := ⟨z - 1, by omega⟩
      have hyi : (z : Int) - 1 = (y : Int) := by omega
      have hyl : y < lss.length := by omega
      have hyI : (y : Int) < (lss.length : Int) := by omega
      obtain ⟨b, o, ha', hcc, rfl, c0, hrd⟩ := (HV.out.1.keep HG.out).at (j := z) hzl
      obtain ⟨b2, o2, ha2, hc3, e2, d0, hrd2⟩ := (HV.out.1.keep HG.out).at (j := y) hyl
      cases e2
      have HB : Hid (∀ W, wr.grownBy W none → Calls Tryz.prog 72 #[.slice ha2 (lss.getD y []).length hc3, .slice ha' (lss.getD z []).length hcc] W fun e w' => e = .returned (.int .i64 (cmpLs (lss.getD y []) (lss.getD z []))) ∧ w'.cell? ⟨b, o + z, none⟩ = some (.slice ha' (lss.getD z []).length hcc) ∧ w'.cell? ⟨b, o + y, none⟩ = some (.slice ha2 (lss.getD y []).length hc3) ∧ Hid (w.grownBy w' none)) := fun W hW => (compareG W _ _ _ _ (hrd2.keep hW) (hrd.keep hW)).mono fun e w' ⟨h1, h2⟩ => ⟨h1, (World.cell?_of_block ((gb_none hW h2.gb).block b (block_lt c0) (by simp))).trans c0, (World.cell?_of_block ((gb_none hW h2.gb).block b (block_lt c0) (by simp))).trans d0, gb_none (gb_none HG.out hW) h2.gb⟩
      have HW : Hid (R = ((decide (cmpLs (lss.getD y []) (lss.getD z []) < 0) && upB lss (lss.length - (z + 1)) (z + 1)) && allR lss)) := by
        show _ = _
        have h := hr.out.2
        obtain ⟨f, hf⟩ : ∃ f, lss.length - z = f + 1 := ⟨lss.length - z - 1, by omega⟩
        rw [hf, upB, show z - 1 = y by omega] at h
        rw [show lss.length - (z + 1) = f by omega]
        exact h
      have HYZ := hidJ hy
      clear hr hrd hrd2 HR hy
      generalize (lss.getD z []).length = hn at *
      generalize (lss.getD y []).length = hm2 at *
      generalize cmpLs (lss.getD y []) (lss.getD z []) = r at *
      have HD : Hid (wr.grownBy wr.drew none) := gb_drew _ _
      have hwy : IntKind.i64.wrap ((z : Int) - 1) = (y : Int) := by rw [hyi, IntKind.wrap_i64]; omega
      have hwy2 : IntKind.i64.wrap (y : Int) = (y : Int) := by rw [IntKind.wrap_i64]; omega
      by_cases hm : r < 0
      · rw [decide_eq_true hm, Bool.true_and] at HW
        have hr0 : ¬ 0 ≤ r := by omega
        go_wp2
        go_region_held3 (fun w' => w'.cell? ⟨b, o + z, none⟩ = some (.slice ha' hn hcc) ∧ w'.cell? ⟨b, o + y, none⟩ = some (.slice ha2 hm2 hc3)) (go_keep)
          (first | (go_at_call 72; with_reducible refine (HB.out _ HD.out).mono ?_; rintro e w2 ⟨rfl, k1, k2, H2⟩))
        go_wp2
        go_roundw
        case rel => exact ⟨z + 1, by omega, by go_num, .inl (by omega), H2.out, HW.out⟩
        case measure => simp [intOf]; omega
      · rw [decide_eq_false hm, Bool.false_and, Bool.false_and] at HW
        have hr0 : 0 ≤ r := by omega
        go_wp2
        go_region_held3 (fun w' => w'.cell? ⟨b, o + z, none⟩ = some (.slice ha' hn hcc) ∧ w'.cell? ⟨b, o + y, none⟩ = some (.slice ha2 hm2 hc3)) (go_keep)
          (first | (go_at_call 72; with_reducible refine (HB.out _ HD.out).mono ?_; rintro e w2 ⟨rfl, k1, k2, H2⟩))
        go_wp2
        go_ret
        exact ⟨by rw [HW.out]; rfl, H2.out⟩
    · have hzi : ¬ (z : Int) < (lss.length : Int) := by omega
      have HW : Hid (R = allR lss) := by
        show _ = _
        rw [hr.out.2, show lss.length - z = 0 by omega]
        rfl
      have HB := hidJ (areRight_any wr _ _ (HV.out.1.keep HG.out) HV.out.2.1 (HV.out.2.2.keep HG.out))
      clear hr HR
      generalize allR lss = r at *
      go_wp2_with fail
      refine HB.out.mono ?_
      rintro e w2 ⟨rfl, hg2⟩
      have H2 := hidJ (gb_none HG.out hg2)
      clear HB hg2
      go_wp2
      go_ret
      exact ⟨by rw [HW.out]; rfl, H2.out⟩
end Go.Proofs.YtbnieljkadcaoabGreatDoor
