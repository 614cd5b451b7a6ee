/-
  A disk is as the document's: alike: the walk.
-/
import Derived.Test.YtgafmplmngbbfaaDKeeps
namespace Go.Proofs.Ytgafmplmngbbfaa
open Go.RowKit Go.Maps Go.WideMaps Go.Sort

theorem nameOk_lenA {l : Bs} (h : nameOk l = true) : l.length ≤ 9223372036854775807 := by
  unfold nameOk at h
  simp at h
  omega
set_option maxRecDepth 8000 in
set_option maxHeartbeats 6400000 in
theorem alike_any (w : World) (S T : Nat → Prop) (gd gr N : Nat) (M : Fls) (hd : DiskOK w S gd M N) (hr : RefOK w T gr M N) :
    Calls Try.prog 16 #[.pointer (some ⟨gd, 0, none⟩), .pointer (some ⟨gr, 0, none⟩)] w fun e w' => e = .returned (.bool true) ∧ w.grownBy w' none := by
  obtain ⟨v, rs, hW, hM, hN⟩ := hr
  have H1 : Hid (Calls Try.prog 14 #[.pointer (some ⟨gd, 0, none⟩)] w fun e w' => ∃ a c, e = .returned (.slice a rs.length c) ∧ Hid (RdS w' (.slice a rs.length c) (namesOf rs) ∧ w.grownBy w' none)) := by
    refine (list_ok w S gd N M hd).mono ?_
    rintro e w' ⟨u, ss, rfl, ho, hp, hn, hm, -, hg⟩
    have e : ss = namesOf rs := rising_eq (rising_of hp hn) (namesOf_rising hW.srt) (fun l => by rw [hm, hM]; exact namesOf_mem.symm)
    subst e
    have hr := ho.rd
    obtain ⟨a, c, rfl, h2, h3⟩ := hr
    have hl : (namesOf rs).length = rs.length := by simp [namesOf]
    rw [hl] at ho ⊢
    exact ⟨a, c, rfl, ho.rd, hg⟩
  have H2 : Hid (∀ W, w.grownBy W none → Calls Try.prog 15 #[.pointer (some ⟨gr, 0, none⟩)] W fun e w' => ∃ u, e = .returned u ∧ Hid (RdS w' u (namesOf rs) ∧ W.grownBy w' none)) := fun W hg => by
    refine (refList_any W T gr v rs (hW.frame (T := fun _ => False) (Ch.of_gb hg (fun k hk => by cases hk)) (fun _ _ _ => id))).mono ?_
    rintro e w' ⟨u, rfl, ho, hg⟩
    exact ⟨u, rfl, ho.rd, hg⟩
  obtain ⟨aw, cw, hvw, -, -⟩ := hW.shape
  have hbxw : w.cell? ⟨gr, 0, none⟩ = some (.slice aw rs.length cw) := by rw [← hvw]; simp [World.cell?, hW.box]
  have HR := hid_mk' (And.intro hW (And.intro hM (And.intro hvw hd)))
  have hmw := hW.most
  clear hW hM hd hN
  generalize hLw : rs.length = L at *
  have HLw := hid_mk' hLw
  clear hLw hvw
  go_enter Try.func16, Try.ntmps16
  go_wp2_with fail
  refine H1.out.mono ?_
  rintro e w1 ⟨a1, c1, rfl, R1⟩
  go_wp2_with fail
  refine (H2.out _ R1.out.2).mono ?_
  rintro e w2 ⟨u2, rfl, R2⟩
  have HT : Hid (Calls Try.prog 13 #[.slice a1 L c1, u2] w2 fun e w' => e = .returned (.bool true) ∧ w2.grownBy w' none) := texts_same _ _ (namesOf rs) w2 (R1.out.1.keep R2.out.2) R2.out.1
  go_wp2_with fail
  refine HT.out.mono ?_
  rintro e w3 ⟨rfl, hg3⟩
  have HN : Hid (RdS w3 (.slice a1 L c1) (namesOf rs) ∧ w.grownBy w3 none) := ⟨(R1.out.1.keep R2.out.2).keep hg3, gb_none (gb_none R1.out.2 R2.out.2) hg3⟩
  clear hg3 HT R1 R2 H1 H2
  go_wp2
  go_loopw [6] (fun i wr => ∃ k : Nat, k ≤ L ∧ i = .int .i64 (k : Int) ∧ Hid (w3.grownBy wr none)) (fun i _ => L - (intOf i).toNat)
  case atStart => exact ⟨0, by omega, rfl, gb_refl _ _⟩
  case round =>
    obtain ⟨k, hk, rfl, HK⟩ := hrel
    have HG : Hid (w.grownBy wr none) := gb_none HN.out.2 HK.out
    by_cases hkl : k < L
    · have hkl2 : (k : Int) < (L : Int) := by omega
      have hk' : k < rs.length := by rw [HLw.out]; exact hkl
      obtain ⟨a0, c0, hv0, -, h3⟩ := HN.out.1.keep HK.out
      simp only [Value.slice.injEq] at hv0
      obtain ⟨rfl, -, -⟩ := hv0
      obtain ⟨b, rfl, d0⟩ := h3 k (by simp [namesOf]; exact hk')
      have hnm : (namesOf rs).getD k [] = (rs.getD k rfZ).name := by simp [namesOf, List.getD, hk']
      rw [hnm] at d0
      obtain ⟨g, cap, hv, -, -, hcells⟩ := HR.out.1.cells (by intro e; rw [e] at hk'; simp at hk')
      have hv2 : aw = some ⟨g, 0, none⟩ := by have := HR.out.2.2.1; rw [hv] at this; simp at this; exact this.1.symm
      subst hv2
      obtain ⟨q0, q1, q2⟩ := hcells k hk'
      obtain ⟨fa, fc, hval⟩ : ∃ a1 d1, (rs.getD k rfZ).val = .slice a1 (rs.getD k rfZ).bytes.length d1 := by obtain ⟨⟨a, c, e, _⟩, _⟩ := HR.out.1.each _ (getD_mem hk'); exact ⟨a, c, e⟩
      have hrd := (HR.out.1.each _ (getD_mem hk')).1
      have hfit := HR.out.1.fits _ (getD_mem hk')
      rw [hval] at q1 hrd
      have HMk : Hid (M (rs.getD k rfZ).name = some ((rs.getD k rfZ).bytes, (rs.getD k rfZ).synced)) := by
        show M (rs.getD k rfZ).name = _
        rw [HR.out.2.1]
        have hsp := split_at hk'
        have hs := HR.out.1.srt
        rw [hsp] at hs
        conv => lhs; arg 1; rw [hsp]
        rw [lkR_mid hs, if_pos rfl]
      have hnl := nameOk_lenA hfit.1
      have H5 : Hid (∀ W', w.grownBy W' none → Calls Try.prog 21 #[.pointer (some ⟨gd, 0, none⟩), .string (ByteArray.mk ⟨(rs.getD k rfZ).name⟩)] W' fun e w' => ∃ a cp, e = .returned (.tuple #[.slice a (rs.getD k rfZ).bytes.length cp, .int .i64 0]) ∧ Hid (Rd w' (.slice a (rs.getD k rfZ).bytes.length cp) (rs.getD k rfZ).bytes ∧ W'.grownBy w' none)) := fun W' hg => by
        refine (read_ok W' S gd N M _ hnl (HR.out.2.2.2.keep hg)).mono ?_
        rintro e w' ⟨v, h1, h2, h3⟩
        rw [findE_some hfit.1 HMk.out] at h1
        have hb : bytesOf M (rs.getD k rfZ).name = (rs.getD k rfZ).bytes := by simp only [bytesOf, HMk.out]
        rw [hb] at h2
        obtain ⟨a, cp, rfl, p1, p2, p3⟩ := h2.rd
        exact ⟨a, cp, h1, ⟨a, cp, rfl, p1, p2, p3⟩, h3⟩
      have H6 : Hid (∀ W', w.grownBy W' none → Calls Try.prog 22 #[.pointer (some ⟨gd, 0, none⟩), .string (ByteArray.mk ⟨(rs.getD k rfZ).name⟩)] W' fun e w' => e = .returned (.tuple #[.int .i64 ((rs.getD k rfZ).bytes.length : Int), .int .i64 ((rs.getD k rfZ).synced : Int), .int .i64 0]) ∧ Hid (W'.grownBy w' none)) := fun W' hg => by
        refine (size_ok W' S gd N M _ hnl (HR.out.2.2.2.keep hg)).mono ?_
        rintro e w' ⟨h1, h2⟩
        rw [findE_some hfit.1 HMk.out] at h1
        have hb : bytesOf M (rs.getD k rfZ).name = (rs.getD k rfZ).bytes := by simp only [bytesOf, HMk.out]
        have hz : syncedOf M (rs.getD k rfZ).name = (rs.getD k rfZ).synced := by simp only [syncedOf, HMk.out]
        rw [hb, hz] at h1
        exact ⟨h1, h2⟩
      have HRw : Hid (Rd w (.slice fa (rs.getD k rfZ).bytes.length fc) (rs.getD k rfZ).bytes) := hrd
      have HQ := hid_mk' (And.intro hbxw (And.intro q1 q2))
      have hmost := hfit.2.2
      clear hcells hv q0 q1 q2 hval hrd hfit hk' HMk hnl h3 hnm
      generalize hfb : (rs.getD k rfZ).bytes = fb at *
      generalize hfz : (rs.getD k rfZ).synced = fz at *
      generalize hsk : ByteArray.mk ⟨(rs.getD k rfZ).name⟩ = sk at *
      clear hsk hfb hfz
      generalize hBL : fb.length = BL at *
      clear hBL
      go_wp2_with fail
      refine (H5.out _ HG.out).mono ?_
      rintro e w5 ⟨a5, cp5, rfl, R5⟩
      have d1 := cell_keep d0 R5.out.2
      have G5 : Hid (w.grownBy w5 none) := gb_none HG.out R5.out.2
      clear d0
      go_wp2_with fail
      refine (H6.out _ G5.out).mono ?_
      rintro e w6 ⟨rfl, R6⟩
      have G6 : Hid (w.grownBy w6 none) := gb_none G5.out R6.out
      have m0 := cell_keep HQ.out.1 G6.out
      have m1 := cell_keep HQ.out.2.1 G6.out
      have m2 := cell_keep HQ.out.2.2 G6.out
      have HSm : Hid (Calls Try.prog 23 #[.slice a5 BL cp5, .slice fa BL fc] w6 fun e w' => e = .returned (.bool true) ∧ w6.grownBy w' none) := by
        have := same_any (.slice a5 BL cp5) (.slice fa BL fc) fb fb w6 (R5.out.1.keep R6.out) (HRw.out.keep G6.out)
        rw [decide_eq_true rfl] at this
        exact this
      have HG6 : Hid (w3.grownBy w6 none) := gb_none (gb_none HK.out R5.out.2) R6.out
      clear d1 R5 R6 G5 H5 H6 HRw
      go_wp2_with fail
      refine HSm.out.mono ?_
      rintro e w7 ⟨rfl, hg7⟩
      have n0 := cell_keep m0 hg7
      have n2 := cell_keep m2 hg7
      have G7 : Hid (w3.grownBy w7 none) := gb_none HG6.out hg7
      clear m0 m1 m2 hg7 HSm HG6 G6
      go_wp2
      go_roundw
      case rel => exact ⟨k + 1, by omega, by go_num, G7⟩
      case measure => simp [intOf]; omega
    · have hkl2 : ¬ (k : Int) < (L : Int) := by omega
      have HE : Hid (w.grownBy wr none) := gb_none HN.out.2 HK.out
      go_wp2
      go_ret
      exact ⟨rfl, HE.out⟩
end Go.Proofs.Ytgafmplmngbbfaa
