/-
  Nf6, Nf7, in one text.
-/
import Derived.Test.YtpglhdnepmcahaaGreatDoorNmB
import Derived.Test.YtpglhdnepmcahaaGreatDoorLpA
/- Nf6 -/
namespace Go.Proofs.YtpglhdnepmcahaaGreatDoor
open Go.RowKit Go.Shelf Go.Sort

set_option maxHeartbeats 800000 in
theorem spanW_any (n a b : Int) (w : World) : Calls Tryz.prog 85 #[.int .i64 n, .int .i64 a, .int .i64 b] w fun e w' => e = .returned (.bool (decide (a ≤ n) && decide (n ≤ b))) ∧ w' = w := by
  by_cases h1 : a ≤ n
  · by_cases h2 : n ≤ b
    · rw [decide_eq_true h1, decide_eq_true h2]
      go_enter Tryz.func85, Tryz.ntmps85
      go_wp2
      go_ret
      exact ⟨by simp, rfl⟩
    · rw [decide_eq_true h1, decide_eq_false h2]
      go_enter Tryz.func85, Tryz.ntmps85
      go_wp2
      go_ret
      exact ⟨by simp, rfl⟩
  · rw [decide_eq_false h1]
    go_enter Tryz.func85, Tryz.ntmps85
    go_wp2
    go_ret
    exact ⟨by simp, rfl⟩
/-- a time, a span that is not 0, a span -/
def timB (n : Int) : Bool := decide (0 ≤ n) && decide (n ≤ 1125899906842624)
def somB (n : Int) : Bool := decide (1 ≤ n) && decide (n ≤ 1099511627776)
def spnB (n : Int) : Bool := decide (0 ≤ n) && decide (n ≤ 1099511627776)
set_option maxHeartbeats 800000 in
theorem time_any (n : Int) (w : World) : Calls Tryz.prog 54 #[.int .i64 n] w fun e w' => e = .returned (.bool (timB n)) ∧ w' = w := by
  have HC := hidJ (spanW_any n 0 1125899906842624 w)
  change Hid (Calls _ _ _ _ (fun e w' => e = .returned (.bool (timB n)) ∧ w' = w)) at HC
  generalize timB n = r at *
  go_enter Tryz.func54, Tryz.ntmps54
  go_wp2_with fail
  refine HC.out.mono ?_
  rintro e w1 ⟨rfl, rfl⟩
  clear HC
  go_wp2
  go_ret
  exact ⟨rfl, rfl⟩
set_option maxHeartbeats 800000 in
theorem some_any (n : Int) (w : World) : Calls Tryz.prog 79 #[.int .i64 n] w fun e w' => e = .returned (.bool (somB n)) ∧ w' = w := by
  have HC := hidJ (spanW_any n 1 1099511627776 w)
  change Hid (Calls _ _ _ _ (fun e w' => e = .returned (.bool (somB n)) ∧ w' = w)) at HC
  generalize somB n = r at *
  go_enter Tryz.func79, Tryz.ntmps79
  go_wp2_with fail
  refine HC.out.mono ?_
  rintro e w1 ⟨rfl, rfl⟩
  clear HC
  go_wp2
  go_ret
  exact ⟨rfl, rfl⟩
set_option maxHeartbeats 800000 in
theorem spanR_any (n : Int) (w : World) : Calls Tryz.prog 55 #[.int .i64 n] w fun e w' => e = .returned (.bool (spnB n)) ∧ w' = w := by
  have HC := hidJ (spanW_any n 0 1099511627776 w)
  change Hid (Calls _ _ _ _ (fun e w' => e = .returned (.bool (spnB n)) ∧ w' = w)) at HC
  generalize spnB n = r at *
  go_enter Tryz.func55, Tryz.ntmps55
  go_wp2_with fail
  refine HC.out.mono ?_
  rintro e w1 ⟨rfl, rfl⟩
  clear HC
  go_wp2
  go_ret
  exact ⟨rfl, rfl⟩
/-- right UTF-8 of at least one byte, and at most so many -/
def txtB (s : List UInt8) (most : Nat) : Bool := decide (s ≠ []) && (decide (s.length ≤ most) && Lib.validD s)
set_option maxHeartbeats 1600000 in
theorem isText_any (w : World) (s : List UInt8) (most : Nat) (hs : s.length ≤ 1000000000000000000) (hT : U8S w) :
    Calls Tryz.prog 70 #[.string (ByteArray.mk ⟨s⟩), .int .i64 (most : Int)] w fun e w' => e = .returned (.bool (txtB s most)) ∧ w.grownBy w' none := by
  have HV := hidJ (validString_any w s hs hT)
  have HR : Hid (txtB s most = (decide (s ≠ []) && (decide (s.length ≤ most) && Lib.validD s))) := rfl
  have hsz : (ByteArray.mk ⟨s⟩).size = s.length := rfl
  have hnil : (ByteArray.mk ⟨s⟩).toList.isEmpty = decide (s = []) := by
    rw [ByteArray.toList_eq]
    cases s <;> rfl
  have hnil2 : ((ByteArray.mk ⟨s⟩).toList = []) = (s = []) := by rw [ByteArray.toList_eq]
  clear hT
  generalize Lib.validD s = V at *
  generalize txtB s most = R at *
  by_cases h0 : s = []
  · subst h0
    have hR : R = false := by rw [HR.out]; simp
    subst hR
    rw [decide_eq_true rfl] at hnil
    have hnil3 : (ByteArray.mk ⟨[]⟩).toList = [] := by rw [hnil2]
    clear HR HV hnil2
    generalize hb : ByteArray.mk ⟨[]⟩ = bs at *
    clear hb
    go_enter Tryz.func70, Tryz.ntmps70
    go_wp2
    go_ret
    exact ⟨rfl, gb_refl _ _⟩
  · rw [decide_eq_false h0] at hnil
    have hnil3 : ¬ (ByteArray.mk ⟨s⟩).toList = [] := by rw [hnil2]; exact h0
    clear hnil2
    by_cases hl : s.length ≤ most
    · have hR : R = V := by rw [HR.out]; simp [h0, hl]
      subst hR
      have hli : ((s.length : Nat) : Int) ≤ (most : Int) := by omega
      clear HR
      generalize hb : ByteArray.mk ⟨s⟩ = bs at *
      clear hb
      go_enter Tryz.func70, Tryz.ntmps70
      go_wp2_with fail
      refine HV.out.mono ?_
      rintro e w1 ⟨rfl, H1⟩
      have H1 := hidJ H1
      clear HV
      go_wp2
      go_ret
      exact ⟨rfl, H1.out⟩
    · have hR : R = false := by rw [HR.out]; simp [hl]
      subst hR
      have hli : ¬ ((s.length : Nat) : Int) ≤ (most : Int) := by omega
      clear HR HV
      generalize hb : ByteArray.mk ⟨s⟩ = bs at *
      clear hb
      go_enter Tryz.func70, Tryz.ntmps70
      go_wp2
      go_ret
      exact ⟨rfl, gb_refl _ _⟩
theorem allR_drop {a : List (List LbT)} {z : Nat} (hz : z < a.length) : allR (a.drop z) = (decide ((rightS (a.getD z [])).1 = 0) && allR (a.drop (z + 1))) := by
  have e1 : a.getD z [] = a[z] := by simp [List.getD, hz]
  rw [List.drop_eq_getElem_cons hz, e1]
  rfl
set_option maxRecDepth 8000 in
set_option maxHeartbeats 3200000 in
theorem areRight_any (w : World) (v : Value) (lss : List (List LbT)) (hv : RdLL w v lss) (hl : LLIn lss) (hT : U8S w) :
    Calls Tryz.prog 80 #[v] w fun e w' => e = .returned (.bool (allR lss)) ∧ w.grownBy w' none := by
  have HV := hidJ (And.intro hv (And.intro hl hT))
  obtain ⟨a, c, rfl, hc1, hc2⟩ := hv.shape
  obtain ⟨R, hR⟩ : ∃ R, R = allR lss := ⟨_, rfl⟩
  rw [← hR]
  have HR : Hid (R = allR (lss.drop 0)) := by show R = _; rw [hR]; simp
  clear hv hl hT hR
  go_enter Tryz.func80, Tryz.ntmps80
  go_wp2
  go_loopw [9] (fun i wr => ∃ z : Nat, z ≤ lss.length ∧ i = .int .i64 z ∧ Hid (w.grownBy wr none ∧ R = allR (lss.drop z))) (fun i _ => lss.length - (intOf i).toNat)
  case atStart => exact ⟨0, by omega, rfl, gb_refl _ _, HR.out⟩
  case round =>
    obtain ⟨z, hzN, rfl, hr⟩ := hrel
    have HG : Hid (w.grownBy wr none) := hr.out.1
    by_cases hzl : z < lss.length
    · have hzi : (z : Int) < (lss.length : Int) := by omega
      obtain ⟨b, o, ha', hcc, rfl, c0, hrd⟩ := (HV.out.1.keep HG.out).at (j := z) hzl
      have HB := hidJ (right_any wr _ _ hrd (HV.out.2.1.2 z) (HV.out.2.2.keep HG.out))
      have HW : Hid (R = (decide ((rightS (lss.getD z [])).1 = 0) && allR (lss.drop (z + 1)))) := by
        show _ = _
        rw [← allR_drop hzl]
        exact hr.out.2
      clear hr hrd HR
      generalize (lss.getD z []).length = hn at *
      generalize (rightS (lss.getD z [])).1 = r at *
      generalize (((rightS (lss.getD z [])).2 : Nat) : Int) = q at *
      by_cases hm : r = 0
      · subst hm
        rw [decide_eq_true rfl, Bool.true_and] at HW
        go_wp2_with fail
        refine HB.out.mono ?_
        rintro e w2 ⟨rfl, hg2⟩
        have H2 := hidJ (gb_none HG.out hg2)
        clear HB hg2 c0
        go_wp2
        go_roundw
        case rel => exact ⟨z + 1, by omega, by go_num, H2.out, HW.out⟩
        case measure => simp [intOf]; omega
      · rw [decide_eq_false hm, Bool.false_and] at HW
        have hrb : (r == 0) = false := by rw [beq_eq_false_iff_ne]; exact hm
        go_wp2_with fail
        refine HB.out.mono ?_
        rintro e w2 ⟨rfl, hg2⟩
        have H2 := hidJ (gb_none HG.out hg2)
        clear HB hg2 c0
        go_wp2
        go_ret
        exact ⟨by rw [HW.out]; rfl, H2.out⟩
    · have hzi : ¬ (z : Int) < (lss.length : Int) := by omega
      have HW : Hid (R = true) := by
        show _ = _
        rw [hr.out.2, List.drop_eq_nil_of_le (by omega)]
        rfl
      clear hr HR
      go_wp2
      go_ret
      exact ⟨by rw [HW.out]; rfl, HG.out⟩
/-- each above the one ahead, from i on -/
def upB (lss : List (List LbT)) : Nat → Nat → Bool
  | 0, _ => true
  | f + 1, i => decide (cmpLs (lss.getD (i - 1) []) (lss.getD i []) < 0) && upB lss f (i + 1)
/-- right label sets, each above the one ahead -/
def riseB (lss : List (List LbT)) : Bool := upB lss (lss.length - 1) 1 && allR lss
set_option maxRecDepth 8000 in
set_option maxHeartbeats 3200000 in
theorem areRising_any (w : World) (v : Value) (lss : List (List LbT)) (hv : RdLL w v lss) (hl : LLIn lss) (hT : U8S w) :
    Calls Tryz.prog 71 #[v] w fun e w' => e = .returned (.bool (riseB lss)) ∧ w.grownBy w' none := by
  have HV := hidJ (And.intro hv (And.intro hl hT))
  obtain ⟨a, c, rfl, hc1, hc2⟩ := hv.shape
  obtain ⟨R, hR⟩ : ∃ R, R = riseB lss := ⟨_, rfl⟩
  rw [← hR]
  have HR : Hid (R = (upB lss (lss.length - 1) 1 && allR lss)) := hR
  clear hv hl hT hR
  go_enter Tryz.func71, Tryz.ntmps71
  go_wp2
  go_loopw [3] (fun i wr => ∃ z : Nat, 1 ≤ z ∧ i = .int .i64 z ∧ (z ≤ lss.length ∨ z = 1) ∧ Hid (w.grownBy wr none ∧ R = (upB lss (lss.length - z) z && allR lss))) (fun i _ => lss.length + 1 - (intOf i).toNat)
  case atStart => exact ⟨1, by omega, rfl, .inr rfl, gb_refl _ _, HR.out⟩
  case round =>
    obtain ⟨z, hz1, rfl, hzN, hr⟩ := hrel
    have HG : Hid (w.grownBy wr none) := hr.out.1
    by_cases hzl : z < lss.length
    · have hzi : (z : Int) < (lss.length : Int) := by omega
      obtain ⟨y, hy⟩ : ∃ y, z = y + 1 := ⟨z - 1, by omega⟩
      have hyi : (z : Int) - 1 = (y : Int) := by omega
      have hyl : y < lss.length := by omega
      have hyI : (y : Int) < (lss.length : Int) := by omega
      obtain ⟨b, o, ha', hcc, rfl, c0, hrd⟩ := (HV.out.1.keep HG.out).at (j := z) hzl
      obtain ⟨b2, o2, ha2, hc3, e2, d0, hrd2⟩ := (HV.out.1.keep HG.out).at (j := y) hyl
      cases e2
      have HB : Hid (∀ W, wr.grownBy W none → Calls Tryz.prog 104 #[.slice ha2 (lss.getD y []).length hc3, .slice ha' (lss.getD z []).length hcc] W fun e w' => e = .returned (.int .i64 (cmpLs (lss.getD y []) (lss.getD z []))) ∧ w'.cell? ⟨b, o + z, none⟩ = some (.slice ha' (lss.getD z []).length hcc) ∧ w'.cell? ⟨b, o + y, none⟩ = some (.slice ha2 (lss.getD y []).length hc3) ∧ Hid (w.grownBy w' none)) := fun W hW => (compareG W _ _ _ _ (hrd2.keep hW) (hrd.keep hW)).mono fun e w' ⟨h1, h2⟩ => ⟨h1, (World.cell?_of_block ((gb_none hW h2.gb).block b (block_lt c0) (by simp))).trans c0, (World.cell?_of_block ((gb_none hW h2.gb).block b (block_lt c0) (by simp))).trans d0, gb_none (gb_none HG.out hW) h2.gb⟩
      have HW : Hid (R = ((decide (cmpLs (lss.getD y []) (lss.getD z []) < 0) && upB lss (lss.length - (z + 1)) (z + 1)) && allR lss)) := by
        show _ = _
        have h := hr.out.2
        obtain ⟨f, hf⟩ : ∃ f, lss.length - z = f + 1 := ⟨lss.length - z - 1, by omega⟩
        rw [hf, upB, show z - 1 = y by omega] at h
        rw [show lss.length - (z + 1) = f by omega]
        exact h
      have HYZ := hidJ hy
      clear hr hrd hrd2 HR hy
      generalize (lss.getD z []).length = hn at *
      generalize (lss.getD y []).length = hm2 at *
      generalize cmpLs (lss.getD y []) (lss.getD z []) = r at *
      have HD : Hid (wr.grownBy wr.drew none) := gb_drew _ _
      have hwy : IntKind.i64.wrap ((z : Int) - 1) = (y : Int) := by rw [hyi, IntKind.wrap_i64]; omega
      have hwy2 : IntKind.i64.wrap (y : Int) = (y : Int) := by rw [IntKind.wrap_i64]; omega
      by_cases hm : r < 0
      · rw [decide_eq_true hm, Bool.true_and] at HW
        have hr0 : ¬ 0 ≤ r := by omega
        go_wp2
        go_region_held3 (fun w' => w'.cell? ⟨b, o + z, none⟩ = some (.slice ha' hn hcc) ∧ w'.cell? ⟨b, o + y, none⟩ = some (.slice ha2 hm2 hc3)) (go_keep)
          (first | (go_at_call 104; with_reducible refine (HB.out _ HD.out).mono ?_; rintro e w2 ⟨rfl, k1, k2, H2⟩))
        go_wp2
        go_roundw
        case rel => exact ⟨z + 1, by omega, by go_num, .inl (by omega), H2.out, HW.out⟩
        case measure => simp [intOf]; omega
      · rw [decide_eq_false hm, Bool.false_and, Bool.false_and] at HW
        have hr0 : 0 ≤ r := by omega
        go_wp2
        go_region_held3 (fun w' => w'.cell? ⟨b, o + z, none⟩ = some (.slice ha' hn hcc) ∧ w'.cell? ⟨b, o + y, none⟩ = some (.slice ha2 hm2 hc3)) (go_keep)
          (first | (go_at_call 104; with_reducible refine (HB.out _ HD.out).mono ?_; rintro e w2 ⟨rfl, k1, k2, H2⟩))
        go_wp2
        go_ret
        exact ⟨by rw [HW.out]; rfl, H2.out⟩
    · have hzi : ¬ (z : Int) < (lss.length : Int) := by omega
      have HW : Hid (R = allR lss) := by
        show _ = _
        rw [hr.out.2, show lss.length - z = 0 by omega]
        rfl
      have HB := hidJ (areRight_any wr _ _ (HV.out.1.keep HG.out) HV.out.2.1 (HV.out.2.2.keep HG.out))
      clear hr HR
      generalize allR lss = r at *
      go_wp2_with fail
      refine HB.out.mono ?_
      rintro e w2 ⟨rfl, hg2⟩
      have H2 := hidJ (gb_none HG.out hg2)
      clear HB hg2
      go_wp2
      go_ret
      exact ⟨by rw [HW.out]; rfl, H2.out⟩
end Go.Proofs.YtpglhdnepmcahaaGreatDoor

/- Nf7 -/
namespace Go.Proofs.YtpglhdnepmcahaaGreatDoor
open Go.RowKit Go.Shelf Go.Sort

/-- a mark -/
structure MkR where
  rcv : List UInt8
  key : List UInt8
  tim : Int
  fir : List (List LbT)
  res : List (List LbT)
def markV (m : MkR) (f s : Value) : Value := .agg #[.string (ByteArray.mk ⟨m.rcv⟩), .string (ByteArray.mk ⟨m.key⟩), .int .i64 m.tim, f, s]
/-- its lists, and that it can be so long -/
structure RdM (w : World) (m : MkR) (f s : Value) : Prop where
  fir : RdLL w f m.fir
  res : RdLL w s m.res
  inF : LLIn m.fir
  inR : LLIn m.res
  inr : m.rcv.length ≤ 1000000000000000000
  ink : m.key.length ≤ 1000000000000000000
theorem RdM.keep {w w' : World} {m : MkR} {f s : Value} (h : RdM w m f s) (hg : w.grownBy w' none) : RdM w' m f s := ⟨h.fir.keep hg, h.res.keep hg, h.inF, h.inR, h.inr, h.ink⟩
/-- a struct of five cells -/
def B5 (w : World) (b : Nat) (t : TypeId) (x y z u v : Value) : Prop := w.heap[b]? = some (.cells #[x, y, z, u, v] t (0, 0))
theorem B5.cells {w : World} {b : Nat} {t : TypeId} {x y z u v : Value} (h : B5 w b t x y z u v) : w.cell? ⟨b, 0, none⟩ = some x ∧ w.cell? ⟨b, 1, none⟩ = some y ∧ w.cell? ⟨b, 2, none⟩ = some z ∧ w.cell? ⟨b, 3, none⟩ = some u ∧ w.cell? ⟨b, 4, none⟩ = some v := by
  unfold B5 at h
  exact ⟨by simp [World.cell?, h], by simp [World.cell?, h], by simp [World.cell?, h], by simp [World.cell?, h], by simp [World.cell?, h]⟩
theorem B5.keep {w w' : World} {b : Nat} {t : TypeId} {x y z u v : Value} (h : B5 w b t x y z u v) (hg : w.grownBy w' none) : B5 w' b t x y z u v := (hg.block b (some_lt h) (by simp)).trans h
theorem B5.new (w : World) (t : TypeId) (x y z u v : Value) : B5 (w.alloc (.cells #[x, y, z, u, v] t)) w.heap.size t x y z u v := Go.heap_alloc_new w _
theorem B5.ch {w w' : World} {S : Nat → Prop} {b : Nat} {t : TypeId} {x y z u v : Value} (h : B5 w b t x y z u v) (hc : Ch w w' S) (hs : ¬ S b) : B5 w' b t x y z u v := (hc.block (some_lt h) hs).trans h
/-- can it be? -/
def rightM (m : MkR) : Int :=
  if txtB m.rcv 64 = false then 204 else if txtB m.key 65536 = false then 40 else if timB m.tim = false then 1 else if 500 < m.fir.length ∨ 500 < m.res.length then 8 else if riseB m.fir = false ∨ riseB m.res = false then 41 else 0
set_option maxRecDepth 8000 in
set_option maxHeartbeats 6400000 in
theorem rightM_any (w : World) (m : MkR) (f s : Value) (h : RdM w m f s) (hT : U8S w) :
    Calls Tryz.prog 38 #[markV m f s] w fun e w' => e = .returned (.int .i64 (rightM m)) ∧ w.grownBy w' none := by
  have HR : Hid (rightM m = if txtB m.rcv 64 = false then 204 else if txtB m.key 65536 = false then 40 else if timB m.tim = false then 1 else if 500 < m.fir.length ∨ 500 < m.res.length then 8 else if riseB m.fir = false ∨ riseB m.res = false then 41 else 0) := rfl
  have H1 : Hid (∀ W, w.grownBy W none → Calls Tryz.prog 70 #[.string (ByteArray.mk ⟨m.rcv⟩), .int .i64 64] W fun e w' => e = .returned (.bool (txtB m.rcv 64)) ∧ W.grownBy w' none) := fun W hW => isText_any W m.rcv 64 h.inr (hT.keep hW)
  have H2 : Hid (∀ W, w.grownBy W none → Calls Tryz.prog 70 #[.string (ByteArray.mk ⟨m.key⟩), .int .i64 65536] W fun e w' => e = .returned (.bool (txtB m.key 65536)) ∧ W.grownBy w' none) := fun W hW => isText_any W m.key 65536 h.ink (hT.keep hW)
  have H3 : Hid (∀ W, Calls Tryz.prog 54 #[.int .i64 m.tim] W fun e w' => e = .returned (.bool (timB m.tim)) ∧ w' = W) := fun W => time_any m.tim W
  have H4 : Hid (∀ W, w.grownBy W none → Calls Tryz.prog 71 #[f] W fun e w' => e = .returned (.bool (riseB m.fir)) ∧ W.grownBy w' none) := fun W hW => areRising_any W f m.fir (h.fir.keep hW) h.inF (hT.keep hW)
  have H5 : Hid (∀ W, w.grownBy W none → Calls Tryz.prog 71 #[s] W fun e w' => e = .returned (.bool (riseB m.res)) ∧ W.grownBy w' none) := fun W hW => areRising_any W s m.res (h.res.keep hW) h.inR (hT.keep hW)
  obtain ⟨fa, fc, hf, hf1, hf2⟩ := h.fir.shape
  obtain ⟨sa, sc, hs, hs1, hs2⟩ := h.res.shape
  subst hf hs
  unfold markV
  have HB := hidJ (And.intro (B5.new w 34 (.string (ByteArray.mk ⟨m.rcv⟩)) (.string (ByteArray.mk ⟨m.key⟩)) (.int .i64 m.tim) (.slice fa m.fir.length fc) (.slice sa m.res.length sc)) (World.grownBy_alloc w (.cells #[.string (ByteArray.mk ⟨m.rcv⟩), .string (ByteArray.mk ⟨m.key⟩), .int .i64 m.tim, .slice fa m.fir.length fc, .slice sa m.res.length sc] 34) none))
  obtain ⟨nf, hnf⟩ : ∃ nf, m.fir.length = nf := ⟨_, rfl⟩
  obtain ⟨ns, hns⟩ : ∃ ns, m.res.length = ns := ⟨_, rfl⟩
  rw [hnf] at H4 HB HR hf1
  rw [hns] at H5 HB HR hs1
  rw [hnf, hns]
  clear h hT hnf hns
  generalize rightM m = R at *
  generalize txtB m.rcv 64 = t1 at *
  generalize txtB m.key 65536 = t2 at *
  generalize timB m.tim = t3 at *
  generalize riseB m.fir = t4 at *
  generalize riseB m.res = t5 at *
  generalize ByteArray.mk ⟨m.rcv⟩ = br at *
  generalize ByteArray.mk ⟨m.key⟩ = bk at *
  generalize m.tim = tm at *
  go_enter Tryz.func38, Tryz.ntmps38
  go_wp2_with fail
  refine (H1.out _ HB.out.2).mono ?_
  rintro e w1 ⟨rfl, g1⟩
  have HB := hidJ (And.intro (HB.out.1.keep g1) (gb_none HB.out.2 g1))
  clear g1 H1
  cases t1
  · have hR : R = 204 := by rw [HR.out]; rfl
    subst hR
    go_wp2
    go_ret
    exact ⟨rfl, HB.out.2⟩
  obtain ⟨-, c1, -, -, -⟩ := HB.out.1.cells
  go_wp2_with fail
  clear c1
  refine (H2.out _ HB.out.2).mono ?_
  rintro e w2 ⟨rfl, g1⟩
  have HB := hidJ (And.intro (HB.out.1.keep g1) (gb_none HB.out.2 g1))
  clear g1 H2
  cases t2
  · have hR : R = 40 := by rw [HR.out]; rfl
    subst hR
    go_wp2
    go_ret
    exact ⟨rfl, HB.out.2⟩
  obtain ⟨-, -, c2, c3, c4⟩ := HB.out.1.cells
  go_wp2_with fail
  refine (H3.out _).mono ?_
  rintro e w2 ⟨rfl, rfl⟩
  clear H3
  cases t3
  · have hR : R = 1 := by rw [HR.out]; rfl
    subst hR
    go_wp2
    go_ret
    exact ⟨rfl, HB.out.2⟩
  by_cases h5 : 500 < nf
  · have hR : R = 8 := by rw [HR.out]; simp [h5]
    subst hR
    have h5i : (500 : Int) < (nf : Int) := by omega
    go_wp2
    go_ret
    exact ⟨rfl, HB.out.2⟩
  have h5i : ¬ (500 : Int) < (nf : Int) := by omega
  by_cases h6 : 500 < ns
  · have hR : R = 8 := by rw [HR.out]; simp [h6]
    subst hR
    have h6i : (500 : Int) < (ns : Int) := by omega
    go_wp2
    go_ret
    exact ⟨rfl, HB.out.2⟩
  have h6i : ¬ (500 : Int) < (ns : Int) := by omega
  have HR2 : Hid (R = if t4 = false ∨ t5 = false then 41 else 0) := by
    show R = _
    rw [HR.out]
    simp [h5, h6]
  clear HR h5 h6
  go_wp2_with fail
  clear c2 c3 c4
  refine (H4.out _ HB.out.2).mono ?_
  rintro e w3 ⟨rfl, g1⟩
  have HB := hidJ (And.intro (HB.out.1.keep g1) (gb_none HB.out.2 g1))
  clear g1 H4
  cases t4
  · have hR : R = 41 := by rw [HR2.out]; rfl
    subst hR
    go_wp2
    go_ret
    exact ⟨rfl, HB.out.2⟩
  obtain ⟨-, -, -, -, c4⟩ := HB.out.1.cells
  go_wp2_with fail
  clear c4
  refine (H5.out _ HB.out.2).mono ?_
  rintro e w4 ⟨rfl, g1⟩
  have HB := hidJ (And.intro (HB.out.1.keep g1) (gb_none HB.out.2 g1))
  clear g1 H5
  cases t5
  · have hR : R = 41 := by rw [HR2.out]; rfl
    subst hR
    go_wp2
    go_ret
    exact ⟨rfl, HB.out.2⟩
  · have hR : R = 0 := by rw [HR2.out]; rfl
    subst hR
    go_wp2
    go_ret
    exact ⟨rfl, HB.out.2⟩
/-- must it be told, of a mark? -/
def tellB (m : MkR) (now rep : Int) (fi re : List (List LbT)) : Bool :=
  if withinB fi m.fir = false then true else if fi.length = 0 then decide (0 < m.fir.length) else if withinB re m.res = false then true else decide (m.tim ≤ now - rep)
set_option maxRecDepth 8000 in
set_option maxHeartbeats 6400000 in
theorem mustTell_any (w : World) (m : MkR) (f s u v : Value) (now rep : Int) (fi re : List (List LbT)) (h : RdM w m f s) (hu : RdLL w u fi) (hv : RdLL w v re) (hf5 : m.fir.length ≤ 500) (hs5 : m.res.length ≤ 500) (hn : timB now = true) (hr : somB rep = true) :
    Calls Tryz.prog 81 #[markV m f s, .int .i64 now, .int .i64 rep, u, v] w fun e w' => e = .returned (.bool (tellB m now rep fi re)) ∧ w.grownBy w' none := by
  have HR : Hid (tellB m now rep fi re = if withinB fi m.fir = false then true else if fi.length = 0 then decide (0 < m.fir.length) else if withinB re m.res = false then true else decide (m.tim ≤ now - rep)) := rfl
  have H1 : Hid (∀ W, w.grownBy W none → Calls Tryz.prog 114 #[u, f] W fun e w' => e = .returned (.bool (withinB fi m.fir)) ∧ W.grownBy w' none) := fun W hW => withinN_any W u f fi m.fir (hu.keep hW) (h.fir.keep hW) (by omega)
  have H2 : Hid (∀ W, w.grownBy W none → Calls Tryz.prog 114 #[v, s] W fun e w' => e = .returned (.bool (withinB re m.res)) ∧ W.grownBy w' none) := fun W hW => withinN_any W v s re m.res (hv.keep hW) (h.res.keep hW) (by omega)
  obtain ⟨fa, fc, hf, hf1, hf2⟩ := h.fir.shape
  obtain ⟨sa, sc, hs, hs1, hs2⟩ := h.res.shape
  obtain ⟨ua, uc, hu', hu1, hu2⟩ := hu.shape
  obtain ⟨va, vc, hv', hv1, hv2⟩ := hv.shape
  subst hf hs hu' hv'
  unfold markV
  have HB := hidJ (And.intro (B5.new w 34 (.string (ByteArray.mk ⟨m.rcv⟩)) (.string (ByteArray.mk ⟨m.key⟩)) (.int .i64 m.tim) (.slice fa m.fir.length fc) (.slice sa m.res.length sc)) (World.grownBy_alloc w (.cells #[.string (ByteArray.mk ⟨m.rcv⟩), .string (ByteArray.mk ⟨m.key⟩), .int .i64 m.tim, .slice fa m.fir.length fc, .slice sa m.res.length sc] 34) none))
  obtain ⟨nf, hnf⟩ : ∃ nf, m.fir.length = nf := ⟨_, rfl⟩
  obtain ⟨ns, hns⟩ : ∃ ns, m.res.length = ns := ⟨_, rfl⟩
  obtain ⟨nu, hnu⟩ : ∃ nu, fi.length = nu := ⟨_, rfl⟩
  obtain ⟨nv, hnv⟩ : ∃ nv, re.length = nv := ⟨_, rfl⟩
  rw [hnu, hnf] at H1
  rw [hnv, hns] at H2
  rw [hnf, hnu] at HR
  rw [hnf, hns] at HB
  rw [hnf] at hf1
  rw [hns] at hs1
  rw [hnu] at hu1
  rw [hnv] at hv1
  rw [hnf, hns, hnu, hnv]
  have hns2 : ∃ z, now - rep = z ∧ -9223372036854775808 ≤ z ∧ z ≤ 9223372036854775807 := by
    unfold timB at hn
    unfold somB at hr
    simp only [Bool.and_eq_true, decide_eq_true_eq] at hn hr
    exact ⟨_, rfl, by omega, by omega⟩
  obtain ⟨z, hz, hz1, hz2⟩ := hns2
  rw [hz] at HR
  clear h hnf hns hnu hnv hu hv hf5 hs5 hn hr
  generalize tellB m now rep fi re = R at *
  generalize withinB fi m.fir = t1 at *
  generalize withinB re m.res = t2 at *
  generalize ByteArray.mk ⟨m.rcv⟩ = br at *
  generalize ByteArray.mk ⟨m.key⟩ = bk at *
  generalize m.tim = tm at *
  go_enter Tryz.func81, Tryz.ntmps81
  go_wp2_with fail
  refine (H1.out _ HB.out.2).mono ?_
  rintro e w1 ⟨rfl, g1⟩
  have HB := hidJ (And.intro (HB.out.1.keep g1) (gb_none HB.out.2 g1))
  clear g1 H1
  cases t1
  · have hR : R = true := by rw [HR.out]; rfl
    subst hR
    go_wp2
    go_ret
    exact ⟨rfl, HB.out.2⟩
  obtain ⟨-, -, -, c3, c4⟩ := HB.out.1.cells
  by_cases h0 : nu = 0
  · have hR : R = decide (0 < nf) := by rw [HR.out]; simp [h0]
    have HRR := hidJ hR
    subst h0
    clear HR hR H2 c4
    go_wp2
    go_ret
    exact ⟨by rw [HRR.out]; simp, HB.out.2⟩
  · have h0i : ((nu : Int) == 0) = false := by rw [beq_eq_false_iff_ne]; omega
    have h0j : ¬ (nu : Int) = 0 := by omega
    have HR2 : Hid (R = if t2 = false then true else decide (tm ≤ z)) := by
      show R = _
      rw [HR.out]
      simp [h0]
    clear HR h0 c3
    go_wp2_with fail
    clear c4
    refine (H2.out _ HB.out.2).mono ?_
    rintro e w2 ⟨rfl, g1⟩
    have HB := hidJ (And.intro (HB.out.1.keep g1) (gb_none HB.out.2 g1))
    clear g1 H2
    cases t2
    · have hR : R = true := by rw [HR2.out]; rfl
      subst hR
      go_wp2
      go_ret
      exact ⟨rfl, HB.out.2⟩
    · have HR3 : Hid (R = decide (tm ≤ z)) := by show R = _; rw [HR2.out]; rfl
      clear HR2
      obtain ⟨-, -, c2, -, -⟩ := HB.out.1.cells
      go_wp2
      go_ret
      exact ⟨by rw [HR3.out]; rfl, HB.out.2⟩
/-- Needs' answer -/
def needsM (m : MkR) (has : Bool) (now rep : Int) (fi re : List (List LbT)) : Bool × Int :=
  if timB now = false ∨ somB rep = false then (false, 1) else if allR fi = false ∨ allR re = false then (false, 41) else if has = false then (decide (0 < fi.length), 0) else if rightM m ≠ 0 then (false, rightM m) else (tellB m now rep fi re, 0)
theorem right_len {m : MkR} (h : rightM m = 0) : m.fir.length ≤ 500 ∧ m.res.length ≤ 500 := by
  unfold rightM at h
  by_cases h5 : 500 < m.fir.length ∨ 500 < m.res.length
  · simp only [h5, if_true] at h
    split at h
    · omega
    · split at h
      · omega
      · split at h <;> omega
  · omega
set_option maxRecDepth 8000 in
set_option maxHeartbeats 6400000 in
theorem needsN_any (w : World) (m : MkR) (f s u v : Value) (has : Bool) (now rep : Int) (fi re : List (List LbT)) (h : RdM w m f s) (hu : RdLL w u fi) (hv : RdLL w v re) (hui : LLIn fi) (hvi : LLIn re) (hT : U8S w) :
    Calls Tryz.prog 50 #[markV m f s, .bool has, .int .i64 now, .int .i64 rep, u, v] w fun e w' => e = .returned (.tuple #[.bool (needsM m has now rep fi re).1, .int .i64 (needsM m has now rep fi re).2]) ∧ w.grownBy w' none := by
  have HR : Hid (needsM m has now rep fi re = if timB now = false ∨ somB rep = false then (false, 1) else if allR fi = false ∨ allR re = false then (false, 41) else if has = false then (decide (0 < fi.length), 0) else if rightM m ≠ 0 then (false, rightM m) else (tellB m now rep fi re, 0)) := rfl
  have H1 : Hid (∀ W, Calls Tryz.prog 54 #[.int .i64 now] W fun e w' => e = .returned (.bool (timB now)) ∧ w' = W) := fun W => time_any now W
  have H2 : Hid (∀ W, Calls Tryz.prog 79 #[.int .i64 rep] W fun e w' => e = .returned (.bool (somB rep)) ∧ w' = W) := fun W => some_any rep W
  have H3 : Hid (∀ W, w.grownBy W none → Calls Tryz.prog 80 #[u] W fun e w' => e = .returned (.bool (allR fi)) ∧ W.grownBy w' none) := fun W hW => areRight_any W u fi (hu.keep hW) hui (hT.keep hW)
  have H4 : Hid (∀ W, w.grownBy W none → Calls Tryz.prog 80 #[v] W fun e w' => e = .returned (.bool (allR re)) ∧ W.grownBy w' none) := fun W hW => areRight_any W v re (hv.keep hW) hvi (hT.keep hW)
  have H5 : Hid (∀ W, w.grownBy W none → Calls Tryz.prog 38 #[markV m f s] W fun e w' => e = .returned (.int .i64 (rightM m)) ∧ W.grownBy w' none) := fun W hW => rightM_any W m f s (h.keep hW) (hT.keep hW)
  have H6 : Hid (rightM m = 0 → timB now = true → somB rep = true → ∀ W, w.grownBy W none → Calls Tryz.prog 81 #[markV m f s, .int .i64 now, .int .i64 rep, u, v] W fun e w' => e = .returned (.bool (tellB m now rep fi re)) ∧ W.grownBy w' none) := fun h0 h1 h2 W hW => mustTell_any W m f s u v now rep fi re (h.keep hW) (hu.keep hW) (hv.keep hW) (right_len h0).1 (right_len h0).2 h1 h2
  obtain ⟨fa, fc, hf, hf1, hf2⟩ := h.fir.shape
  obtain ⟨sa, sc, hs, hs1, hs2⟩ := h.res.shape
  obtain ⟨ua, uc, hu', hu1, hu2⟩ := hu.shape
  obtain ⟨va, vc, hv', hv1, hv2⟩ := hv.shape
  subst hf hs hu' hv'
  unfold markV at H5 H6
  unfold markV
  have HB := hidJ (And.intro (B5.new w 34 (.string (ByteArray.mk ⟨m.rcv⟩)) (.string (ByteArray.mk ⟨m.key⟩)) (.int .i64 m.tim) (.slice fa m.fir.length fc) (.slice sa m.res.length sc)) (World.grownBy_alloc w (.cells #[.string (ByteArray.mk ⟨m.rcv⟩), .string (ByteArray.mk ⟨m.key⟩), .int .i64 m.tim, .slice fa m.fir.length fc, .slice sa m.res.length sc] 34) none))
  obtain ⟨nu, hnu⟩ : ∃ nu, fi.length = nu := ⟨_, rfl⟩
  rw [hnu] at H3 H6 HR hu1
  rw [hnu]
  clear h hT hnu hu hv hui hvi
  generalize needsM m has now rep fi re = R at *
  generalize tellB m now rep fi re = t6 at *
  generalize rightM m = r5 at *
  generalize allR fi = t3 at *
  generalize allR re = t4 at *
  generalize timB now = t1 at *
  generalize somB rep = t2 at *
  generalize ByteArray.mk ⟨m.rcv⟩ = br at *
  generalize ByteArray.mk ⟨m.key⟩ = bk at *
  generalize m.tim = tm at *
  generalize m.fir.length = nf at *
  generalize m.res.length = ns at *
  generalize re.length = nv at *
  go_enter Tryz.func50, Tryz.ntmps50
  go_wp2_with fail
  refine (H1.out _).mono ?_
  rintro e w1 ⟨rfl, rfl⟩
  clear H1
  generalize w.alloc (.cells #[.string br, .string bk, .int .i64 tm, .slice fa nf fc, .slice sa ns sc] 34) = W1 at *
  cases t1
  · have hR : R = (false, 1) := by rw [HR.out]; rfl
    subst hR
    go_wp2
    go_ret2
    exact ⟨rfl, HB.out.2⟩
  go_wp2_with fail
  refine (H2.out _).mono ?_
  rintro e w1 ⟨rfl, rfl⟩
  clear H2
  cases t2
  · have hR : R = (false, 1) := by rw [HR.out]; rfl
    subst hR
    go_wp2
    go_ret2
    exact ⟨rfl, HB.out.2⟩
  go_wp2_with fail
  refine (H3.out _ HB.out.2).mono ?_
  rintro e w2 ⟨rfl, g1⟩
  have HB := hidJ (And.intro (HB.out.1.keep g1) (gb_none HB.out.2 g1))
  clear g1 H3
  cases t3
  · have hR : R = (false, 41) := by rw [HR.out]; rfl
    subst hR
    go_wp2
    go_ret2
    exact ⟨rfl, HB.out.2⟩
  go_wp2_with fail
  refine (H4.out _ HB.out.2).mono ?_
  rintro e w3 ⟨rfl, g1⟩
  have HB := hidJ (And.intro (HB.out.1.keep g1) (gb_none HB.out.2 g1))
  clear g1 H4
  cases t4
  · have hR : R = (false, 41) := by rw [HR.out]; rfl
    subst hR
    go_wp2
    go_ret2
    exact ⟨rfl, HB.out.2⟩
  cases has
  · have HRR : Hid (R = (decide (0 < nu), 0)) := by show R = _; rw [HR.out]; rfl
    clear HR
    go_wp2
    go_ret2
    exact ⟨by rw [HRR.out]; simp, HB.out.2⟩
  have HR2 : Hid (R = if r5 ≠ 0 then (false, r5) else (t6, 0)) := by show R = _; rw [HR.out]; rfl
  clear HR
  obtain ⟨c0, c1, c2, c3, c4⟩ := HB.out.1.cells
  go_wp2_with fail
  clear c0 c1 c2 c3 c4
  refine (H5.out _ HB.out.2).mono ?_
  rintro e w4 ⟨rfl, g1⟩
  have HB := hidJ (And.intro (HB.out.1.keep g1) (gb_none HB.out.2 g1))
  clear g1 H5
  by_cases h5 : r5 = 0
  · have HRR : Hid (R = (t6, 0)) := by show R = _; rw [HR2.out]; simp [h5]
    have H7 : Hid (∀ W, w.grownBy W none → Calls Tryz.prog 81 #[.agg #[.string br, .string bk, .int .i64 tm, .slice fa nf fc, .slice sa ns sc], .int .i64 now, .int .i64 rep, .slice ua nu uc, .slice va nv vc] W fun e w' => e = .returned (.bool t6) ∧ W.grownBy w' none) := H6.out h5 (by first | rfl | trivial) (by first | rfl | trivial)
    subst h5
    clear HR2 H6
    obtain ⟨c0, c1, c2, c3, c4⟩ := HB.out.1.cells
    go_wp2_with fail
    clear c0 c1 c2 c3 c4
    refine (H7.out _ HB.out.2).mono ?_
    rintro e w5 ⟨rfl, g1⟩
    have HB := hidJ (gb_none HB.out.2 g1)
    clear g1 H7
    go_wp2
    go_ret2
    exact ⟨by rw [HRR.out]; rfl, HB.out⟩
  · have HRR : Hid (R = (false, r5)) := by show R = _; rw [HR2.out]; simp [h5]
    have h5b : (r5 == 0) = false := by rw [beq_eq_false_iff_ne]; exact h5
    clear HR2 H6
    go_wp2
    go_ret2
    exact ⟨by rw [HRR.out]; rfl, HB.out.2⟩
end Go.Proofs.YtpglhdnepmcahaaGreatDoor
