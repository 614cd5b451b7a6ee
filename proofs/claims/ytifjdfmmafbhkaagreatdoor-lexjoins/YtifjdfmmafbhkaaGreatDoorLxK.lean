/-
  The longest duration with which a text begins: the table of units, the walk.
-/
import Derived.Test.YtifjdfmmafbhkaaGreatDoorLxJ
namespace Go.Proofs.YtifjdfmmafbhkaaGreatDoor
open Go.RowKit

/-- the units' texts, as bytes -/
def unS (i : Nat) : LxS := if i = 0 then [121] else if i = 1 then [119] else if i = 2 then [100] else if i = 3 then [104] else if i = 4 then [109] else if i = 5 then [115] else [109, 115]
/-- the table of units holds what its initialiser lays -/
def UnT (w : World) : Prop := ∀ i, i < 7 → w.cell? ⟨2, i * 2, none⟩ = some (.string (ByteArray.mk ⟨unS i⟩)) ∧ w.cell? ⟨2, i * 2 + 1, none⟩ = some (.int .i64 (unM i : Int))
theorem UnT.keep {w w' : World} (h : UnT w) (hg : w.grownBy w' none) : UnT w' := fun i hi =>
  ⟨(World.cell?_of_block (hg.block _ (block_lt (h i hi).1) (by simp))).trans (h i hi).1, (World.cell?_of_block (hg.block _ (block_lt (h i hi).2) (by simp))).trans (h i hi).2⟩
theorem unS_len (i : Nat) (hi : i < 7) : (unS i).length = unL i := by
  have : i = 0 ∨ i = 1 ∨ i = 2 ∨ i = 3 ∨ i = 4 ∨ i = 5 ∨ i = 6 := by omega
  rcases this with h | h | h | h | h | h | h <;> subst h <;> rfl
theorem unS_pre (l : LxS) (i : Nat) (hi : i < 7) : decide (l.take (unS i).length = unS i) = unP l i := by
  have h1 := fun n => pre1 l n
  have h2 := pre2 l 109 115 (by decide) (by decide) (by decide) (by decide)
  have hu := @unP_iff l i
  have : i = 0 ∨ i = 1 ∨ i = 2 ∨ i = 3 ∨ i = 4 ∨ i = 5 ∨ i = 6 := by omega
  rcases this with h | h | h | h | h | h | h
  · subst h
    exact (h1 121 (by decide) (by decide)).trans (by rw [Bool.eq_iff_iff, hu, decide_eq_true_eq]; simp)
  · subst h
    exact (h1 119 (by decide) (by decide)).trans (by rw [Bool.eq_iff_iff, hu, decide_eq_true_eq]; simp)
  · subst h
    exact (h1 100 (by decide) (by decide)).trans (by rw [Bool.eq_iff_iff, hu, decide_eq_true_eq]; simp)
  · subst h
    exact (h1 104 (by decide) (by decide)).trans (by rw [Bool.eq_iff_iff, hu, decide_eq_true_eq]; simp)
  · subst h
    exact (h1 109 (by decide) (by decide)).trans (by rw [Bool.eq_iff_iff, hu, decide_eq_true_eq]; simp)
  · subst h
    exact (h1 115 (by decide) (by decide)).trans (by rw [Bool.eq_iff_iff, hu, decide_eq_true_eq]; simp)
  · subst h
    exact h2.trans (by rw [Bool.eq_iff_iff, hu, Bool.and_eq_true, decide_eq_true_eq, decide_eq_true_eq]; simp)
theorem unM_range (i : Nat) : 1 ≤ (unM i : Int) ∧ (unM i : Int) ≤ 31536000000 := by
  unfold unM
  (repeat' split) <;> omega
theorem unit_prefix (rs : LxS) (i : Nat) (hi : i < 7) (hl : rs.length ≤ 1000000000000000000) (W : World) : Calls Tryz.prog 53 #[.string (ByteArray.mk ⟨rs⟩), .string (ByteArray.mk ⟨unS i⟩)] W fun e w' => e = .returned (.bool (unP rs i)) ∧ w' = W := by
  have h := hasPrefix_any W rs (unS i) hl (by rw [unS_len i hi]; unfold unL; split <;> omega)
  rw [unS_pre rs i hi] at h
  exact h
theorem spG_step (l : LxS) (f frm w d u : Nat) (n : Int) (rs dg : LxS) (hd : tkN dgB (l.drop w) = d) (hr : l.drop (w + d) = rs) (hg : (l.drop w).take d = dg) (hu : unG rs frm 7 = u) :
    spG l (f + 1) frm w n = if d = 0 then (n, w) else if u = 7 then (n, w) else spG l f (u + 1) (w + d + unL u) (min (n + timW dg (unM u)) tooL) := by
  subst hd hr hg hu
  rw [spG]
theorem timW_range (t : LxS) (each : Int) (h1 : 1 ≤ each) (ht : AllDg t) : 0 ≤ timW t each ∧ timW t each ≤ 1099511627777 := by
  have hA : ∀ (l : LxS) (n : Int), (∀ x ∈ l, 48 ≤ x.toNat) → 0 ≤ n → n ≤ tooL → 0 ≤ timA l n ∧ timA l n ≤ tooL := by
    intro l
    induction l with
    | nil => intro n _ h0 h1; exact ⟨h0, h1⟩
    | cons c t ih =>
      intro n hx h0 h1
      have hc := hx c (List.mem_cons_self ..)
      show 0 ≤ timA t (min (10 * n + ((c.toNat : Int) - 48)) tooL) ∧ timA t (min (10 * n + ((c.toNat : Int) - 48)) tooL) ≤ tooL
      refine ih _ (fun x hm => hx x (List.mem_cons_of_mem _ hm)) ?_ ?_
      · have : (0 : Int) ≤ tooL := by decide
        omega
      · omega
  have h := hA t 0 (fun x hx => by
    obtain ⟨j, hj, rfl⟩ := List.mem_iff_getElem.1 hx
    have := ht j hj
    rw [dgB_iff] at this
    have e : byN t j = (t[j]).toNat := by unfold byN; rw [List.getD_eq_getElem?_getD, List.getElem?_eq_getElem hj]; rfl
    omega) (Int.le_refl _) (by decide)
  unfold timW
  by_cases c : timA t 0 > 1099511627776 / each
  · rw [if_pos c]; exact ⟨by decide, by decide⟩
  · rw [if_neg c]
    have h3 : timA t 0 ≤ 1099511627776 / each := by omega
    have h4 := Int.mul_le_mul_of_nonneg_right h3 (show (0 : Int) ≤ each by omega)
    have h5 := Int.ediv_mul_le (1099511627776 : Int) (show each ≠ 0 by omega)
    have h6 := Int.mul_nonneg h.1 (show (0 : Int) ≤ each by omega)
    omega
theorem allDg_take (l : LxS) : AllDg (l.take (tkN dgB l)) := fun j hj => by
  rw [List.length_take] at hj
  rw [byN_take, if_pos (by omega)]
  exact tkN_in dgB l j (by omega)
set_option maxRecDepth 8000 in
set_option maxHeartbeats 6400000 in
theorem cutSpan_any (w : World) (l : LxS) (hl : l.length ≤ 1000000000000000000) (hU : UnT w) :
    Calls Tryz.prog 34 #[.string (ByteArray.mk ⟨l⟩)] w fun e w' => e = .returned (.tuple #[.int .i64 (spW l).1, .int .i64 (((spW l).2 : Nat) : Int)]) ∧ w.grownBy w' none := by
  have hz : (ByteArray.mk ⟨l⟩).size = l.length := rfl
  have HL := hidJ hl
  obtain ⟨R, hR⟩ : ∃ R, R = spW l := ⟨_, rfl⟩
  rw [← hR]
  have HR := hidJ hR
  have HU := hidJ hU
  clear hR hU
  go_enter Tryz.func34, Tryz.ntmps34
  go_wp2
  go_step3
  go_wp2
  go_step3
  go_wp2
  go_loopg [4, 5, 6] 9 (fun gk v4 v5 v6 wr => ∃ (f frm wd : Nat) (n : Int), v4 = .int .i64 n ∧ v5 = .int .i64 (wd : Int) ∧ v6 = .int .i64 (frm : Int) ∧ f < gk ∧ 8 ≤ f + frm ∧ frm ≤ 7 ∧ wd ≤ l.length ∧ 0 ≤ n ∧ n ≤ 1099511627777 ∧ Hid (spG l f frm wd n = R ∧ w.grownBy wr none))
  case atStart => exact ⟨8, 0, 0, 0, rfl, rfl, rfl, by omega, by omega, by omega, by omega, by omega, by omega, HR.out.symm, gb_refl _ _⟩
  case round =>
    obtain ⟨f, frm, wd, n, rfl, rfl, rfl, hgk, hf, hfr, hwd, hn0, hn1, hr⟩ := hrel
    obtain ⟨k, rfl⟩ : ∃ k, gk = k + 1 := ⟨gk - 1, by omega⟩
    obtain ⟨f, rfl⟩ : ∃ g, f = g + 1 := ⟨f - 1, by omega⟩
    have hx1 := ext_drop l wd
    have hl1 : (l.drop wd).length = l.length - wd := List.length_drop
    have HD := hidJ (fun W => digitsWidth_any W (l.drop wd) (by omega))
    have hdl := tkN_le dgB (l.drop wd)
    have hall := allDg_take (l.drop wd)
    have hstp := hidJ (fun u => spG_step l f frm wd (tkN dgB (l.drop wd)) u n (l.drop (wd + tkN dgB (l.drop wd))) ((l.drop wd).take (tkN dgB (l.drop wd))) rfl rfl rfl)
    have hx2 : (ByteArray.mk ⟨l⟩).extract wd (wd + tkN dgB (l.drop wd)) = ByteArray.mk ⟨(l.drop wd).take (tkN dgB (l.drop wd))⟩ := by rw [ext_mk, Nat.add_sub_cancel_left]
    have hx3 := ext_drop l (wd + tkN dgB (l.drop wd))
    have hl3 : (l.drop (wd + tkN dgB (l.drop wd))).length = l.length - (wd + tkN dgB (l.drop wd)) := List.length_drop
    have hdg : ((l.drop wd).take (tkN dgB (l.drop wd))).length = tkN dgB (l.drop wd) := by rw [List.length_take]; omega
    generalize tkN dgB (l.drop wd) = d at *
    generalize l.drop (wd + d) = rs at *
    generalize (l.drop wd).take d = dg at *
    generalize l.drop wd = t1 at *
    have hzd : (ByteArray.mk ⟨dg⟩).size = d := hdg
    have HE := hidJ hr.out.1
    have HG := hidJ hr.out.2
    clear hr
    by_cases z : d = 0
    · subst z
      obtain rfl : dg = [] := List.eq_nil_of_length_eq_zero hdg
      have hF : (n, wd) = R := by have := HE.out; rw [hstp.out _ rfl, if_pos rfl] at this; exact this
      have HF := hidJ hF
      clear hF hstp HE hall
      go_wp2_with fail
      refine (HD.out _).mono ?_
      rintro e w1 ⟨rfl, hg1⟩
      have H1 := hidJ (gb_none HG.out hg1)
      clear hg1 HD HG
      go_wp2
      try rw [Exit.noGoto_ret]
      go_ret2
      refine ⟨?_, H1.out⟩
      rw [← HF.out]
      rfl
    · have zi : ¬ (d : Int) = 0 := by omega
      have hne : (ByteArray.mk ⟨dg⟩).toList.isEmpty = false := by rw [mk_toList]; cases dg with | nil => exact absurd hdg.symm z | cons a b => rfl
      have hne2 : ¬ (ByteArray.mk ⟨dg⟩).toList = [] := by rw [mk_toList]; rintro rfl; exact z hdg.symm
      have hne3 : dg.isEmpty = false := by cases dg with | nil => exact absurd hdg.symm z | cons a b => rfl
      have hwd2 : wd + d ≤ l.length := by omega
      obtain ⟨u, hu⟩ : ∃ u, unG rs frm 7 = u := ⟨_, rfl⟩
      have hE2 := HE.out
      rw [hstp.out u hu, if_neg z] at hE2
      have HE2 := hidJ hE2
      have HUn := hidJ hu
      have HAll := hidJ hall
      clear hE2 hu hstp HE hall
      go_wp2_with fail
      refine (HD.out _).mono ?_
      rintro e w1 ⟨rfl, hg1⟩
      have H1 := hidJ (gb_none HG.out hg1)
      clear hg1 HD HG
      go_wp2
      simp only [hx2, hx3]
      go_loopg [4, 5, 6, 9] 8 (fun g2 v4 v5 v6 v9 wr => ∃ k2 : Nat, v4 = .int .i64 n ∧ v5 = .int .i64 (wd : Int) ∧ v6 = .int .i64 (frm : Int) ∧ v9 = .int .i64 ((k2 : Int) - 1) ∧ k2 < g2 ∧ k2 ≤ 7 ∧ Hid (unG rs frm k2 = u ∧ w.grownBy wr none))
      case atStart => exact ⟨7, rfl, rfl, rfl, rfl, by omega, by omega, HUn.out, H1.out⟩
      case round =>
        obtain ⟨k2, rfl, rfl, rfl, rfl, hk2, hk7, hr2⟩ := hrel
        obtain ⟨g2, rfl⟩ : ∃ g, gk = g + 1 := ⟨gk - 1, by omega⟩
        have HI := hidJ hr2.out.1
        have HG := hidJ hr2.out.2
        have hUG := hidJ (fun j (h : k2 = j + 1) => (show unG rs frm k2 = if j < frm then 7 else if unP rs j = true then j else unG rs frm j by rw [h]; rfl))
        clear hr2
        by_cases c : k2 < frm + 1
        · have ci : ¬ (frm : Int) ≤ (k2 : Int) - 1 := by omega
          have hu7 : u = 7 := by
            rw [← HI.out]
            cases k2 with
            | zero => rfl
            | succ j => rw [hUG.out j rfl, if_pos (by omega)]
          have hF : (n, wd) = R := by have := HE2.out; rw [if_pos hu7] at this; exact this
          have HF := hidJ hF
          clear hF hUG HI HE2 hu7
          go_wp2
          try rw [Exit.noGoto_ret]
          go_ret2
          refine ⟨?_, HG.out⟩
          rw [← HF.out]
          rfl
        · obtain ⟨j, rfl⟩ : ∃ j, k2 = j + 1 := ⟨k2 - 1, by omega⟩
          have ci : (frm : Int) ≤ ((j + 1 : Nat) : Int) - 1 := by omega
          have hj : j < 7 := by omega
          have hUJ := hUG.out j rfl
          rw [if_neg (by omega)] at hUJ
          have HUJ := hidJ (HI.out.symm.trans hUJ)
          have hT := HU.out.keep HG.out j hj
          obtain ⟨uc0, uc1⟩ := hT
          have HPx := hidJ (fun W => unit_prefix rs j hj (by have := HL.out; omega) W)
          have hM := unM_range j
          have hSl := unS_len j hj
          clear hUJ hUG HI
          have hji : ((j + 1 : Nat) : Int) - 1 = (j : Int) := by omega
          rw [hji] at ci
          have HT := hidJ (times_any · dg (unM j) (by have := HL.out; omega) HAll.out hM.1 hM.2)
          have hTr := timW_range dg (unM j) hM.1 HAll.out
          have hUL : 1 ≤ unL j ∧ unL j ≤ 2 := by unfold unL; split <;> omega
          have hUl := hidJ (fun h : unP rs j = true => unP_length rs j h)
          have HK : Hid (u = j → spG l f (j + 1) (wd + d + unL j) (min (n + timW dg (unM j : Int)) tooL) = R) := fun h => by
            have := HE2.out
            rw [if_neg (by omega), h] at this
            exact this
          have q0 : (wr.alloc (.cells #[.string (ByteArray.mk ⟨unS j⟩), .int .i64 (unM j : Int)] 74)).cell? ⟨wr.heap.size, 0, none⟩ = some (.string (ByteArray.mk ⟨unS j⟩)) := cell_two_new wr _ _ _ 0 _ rfl
          have q1 : (wr.alloc (.cells #[.string (ByteArray.mk ⟨unS j⟩), .int .i64 (unM j : Int)] 74)).cell? ⟨wr.heap.size, 1, none⟩ = some (.int .i64 (unM j : Int)) := by simp
          have H2 := hidJ (gb_none HG.out (World.grownBy_alloc wr (.cells #[.string (ByteArray.mk ⟨unS j⟩), .int .i64 (unM j : Int)] 74) none))
          go_wp2_with fail
          clear uc0 uc1 HG
          generalize wr.alloc (.cells #[.string (ByteArray.mk ⟨unS j⟩), .int .i64 (unM j : Int)] 74) = W2 at *
          generalize wr.heap.size = b0 at *
          have hzs : (ByteArray.mk ⟨unS j⟩).size = unL j := hSl
          generalize unS j = us at *
          generalize timW dg (unM j : Int) = T at *
          generalize (unM j : Int) = m at *
          generalize unL j = ul at *
          cases hP : unP rs j with
          | false =>
            have hF := HUJ.out
            rw [hP, if_neg (by decide)] at hF
            have HF := hidJ hF.symm
            rw [hP] at HPx
            clear hF hP HUJ HE2 HT hUl HK
            refine (HPx.out _).mono ?_
            rintro e w' ⟨rfl, rfl⟩
            go_wp2
            go_roundg g2
            case measure => omega
            case rel => exact ⟨j, rfl, rfl, rfl, by go_num, by omega, by omega, HF.out, H2.out⟩
          | true =>
            have hF := HUJ.out
            rw [hP, if_pos rfl] at hF
            have hE3 := HK.out hF
            subst hF
            have hul2 := hUl.out hP
            rw [hP] at HPx
            have HRl := hidJ hE3
            clear hE3 hP HUJ HE2 hUl HK
            refine (HPx.out _).mono ?_
            rintro e w' ⟨rfl, rfl⟩
            go_wp2_with fail
            refine (HT.out _).mono ?_
            rintro e w3 ⟨rfl, hg3⟩
            have H3 := hidJ (gb_none H2.out hg3)
            have p0 : w3.cell? ⟨b0, 0, none⟩ = some (.string (ByteArray.mk ⟨us⟩)) := (World.cell?_of_block (hg3.block _ (block_lt q0) (by simp))).trans q0
            clear hg3 HT HPx q0 q1 H2
            by_cases hm : (1099511627777 : Int) < n + T
            · have HRel : Hid (spG l f (u + 1) (wd + d + ul) 1099511627777 = R) := by
                have := HRl.out
                rw [show min (n + T) tooL = 1099511627777 by unfold tooL; omega] at this
                exact this
              clear HRl
              go_wp2
              go_roundg k
              case measure => omega
              case rel => exact ⟨f, u + 1, wd + d + ul, 1099511627777, rfl, by go_num, by go_num, by omega, by omega, by omega, by omega, by omega, by omega, HRel.out, H3.out⟩
            · have HRel : Hid (spG l f (u + 1) (wd + d + ul) (n + T) = R) := by
                have := HRl.out
                rw [show min (n + T) tooL = n + T by unfold tooL; omega] at this
                exact this
              clear HRl
              go_wp2
              go_roundg k
              case measure => omega
              case rel => exact ⟨f, u + 1, wd + d + ul, n + T, rfl, by go_num, by go_num, by omega, by omega, by omega, by omega, by omega, by omega, HRel.out, H3.out⟩
end Go.Proofs.YtifjdfmmafbhkaaGreatDoor
