/-
  DiskKeeps: what a crash keeps: the walk.
-/
import Derived.Test.YtgafmplmngbbfaaDKeeps
namespace Go.Proofs.Ytgafmplmngbbfaa
open Go.RowKit Go.Maps Go.WideMaps Go.Sort

theorem getD_mem' {ss : List Bs} {k : Nat} (h : k < ss.length) : ss.getD k [] ∈ ss := by
  rw [List.getD, List.getElem?_eq_getElem h]
  exact List.getElem_mem h
theorem nameOk_len' {l : Bs} (h : nameOk l = true) : l.length ≤ 9223372036854775807 := by
  unfold nameOk at h
  simp at h
  omega
set_option maxRecDepth 8000 in
set_option maxHeartbeats 6400000 in
theorem keeps_walk (w : World) (v : Value) (os : List Opm) (hv : OpsIn w v os) (va : Option Addr) (vc : Nat) (ks : List Kp) (hk : KpsIn w (.slice va ks.length vc) ks) (ma : Option Addr) (mc : Nat) (ms : List Kp) (hm : KpsIn w (.slice ma ms.length mc) ms) :
    Calls Try.prog 4 #[v, .slice va ks.length vc, .slice ma ms.length mc] w fun e w' => e = .returned (.bool true) ∧ Below w.heap.size w w' := by
  have HF := hid_mk' (files_any w v os hv)
  have HC : Hid (∀ w1 gd gr, (∃ M N, Duo w w1 gd gr M N) → ∃ M N, Calls Try.prog 10 #[.pointer (some ⟨gd, 0, none⟩)] w1 fun e w2 => ∃ gc, e = .returned (.pointer (some ⟨gc, 0, none⟩)) ∧
      Hid (Calls Try.prog 20 #[.pointer (some ⟨gd, 0, none⟩), .slice va ks.length vc] w2 fun e w3 => (e = .returned (.int .i64 0) ∧ Hid (∃ M', KeepS w w3 gd gc N M M' ∧ SyncedAll M' ∧ ∀ l, (M' l).isSome = (M l).isSome)) ∨ (e = .returned (.int .i64 1) ∧ Hid (KeepS w w3 gd gc N M M)))) := fun w1 gd gr ⟨M, N, h⟩ => ⟨M, N, keep_copy w w1 gd gr N M h _ ks hk⟩
  have HM := hid_mk' hm
  obtain ⟨xa, xc, rfl, -, -⟩ := hv
  clear hk hm
  generalize os.length = OL at *
  generalize ks.length = KL at *
  generalize hML : ms.length = ML at *
  clear hML
  go_enter Try.func4, Try.ntmps4
  go_wp2_with fail
  refine HF.out.mono ?_
  rintro e w1 ⟨gd, gr, rfl, HD⟩
  obtain ⟨M, N, hC⟩ := HC.out w1 gd gr HD.out
  have HC1 := hid_mk' hC
  clear hC HC HF
  go_wp2_with fail
  refine HC1.out.mono ?_
  rintro e w2 ⟨gc, rfl, HK⟩
  clear HC1 HD
  go_wp2_with fail
  refine HK.out.mono ?_
  rintro e w3 (⟨rfl, HS⟩ | ⟨rfl, HS⟩)
  · obtain ⟨M', hS⟩ := HS.out
    have HS1 := hid_mk' hS
    clear hS HS HK
    have HL := hid_mk' (keep_list w w3 gd gc N M M' HS1.out.1 HS1.out.2.2)
    go_wp2_with fail
    refine HL.out.mono ?_
    rintro e w4 ⟨na, nc, ss, rfl, HL1⟩
    clear HL
    generalize hLs : ss.length = L at *
    have HLs := hid_mk' hLs
    clear hLs
    go_wp2_with fail
    refine HL1.out.2.2.2.2.mono ?_
    rintro e w5 ⟨v5, rfl, HL2⟩
    have HT : Hid (Calls Try.prog 13 #[v5, .slice na L nc] w5 fun e w' => e = .returned (.bool true) ∧ w5.grownBy w' none) := by
      have h2 := HL2.out.2.1
      exact texts_same v5 _ ss w5 HL2.out.1 h2
    go_wp2_with fail
    refine HT.out.mono ?_
    rintro e w6 ⟨rfl, hg6⟩
    have HG6 := hid_mk' hg6
    clear hg6 HT
    have HN : Hid (RdS w6 (.slice na L nc) ss) := HL2.out.2.1.keep HG6.out
    have HIn : Hid (∀ l, l ∈ ss → (M l).isSome = true) := HL1.out.2.1
    have HLn : Hid (L ≤ 256) := by
      obtain ⟨S, gm, D, gf, u, hd⟩ := HS1.out.1.d
      have h1 := hd.most
      have h2 := HL1.out.2.2.2.1
      show L ≤ 256
      omega
    have HW3 : Hid (KeepS w w6 gd gc N M M') := HS1.out.1.keep (gb_none HL2.out.2.2 HG6.out)
    have hL256 := HLn.out
    clear HL1 HL2 HG6 HLn
    go_wp2
    go_loopw [12] (fun i wr => ∃ k : Nat, k ≤ L ∧ i = .int .i64 (k : Int) ∧ Hid (w6.grownBy wr none)) (fun i _ => L - (intOf i).toNat)
    case atStart => exact ⟨0, by omega, rfl, gb_refl _ _⟩
    case round =>
      obtain ⟨k, hk, rfl, HK⟩ := hrel
      by_cases hkl : k < L
      · have hkl2 : (k : Int) < (L : Int) := by omega
        obtain ⟨a0, c0, hv0, -, h3⟩ := HN.out.keep HK.out
        simp only [Value.slice.injEq] at hv0
        obtain ⟨rfl, -, -⟩ := hv0
        obtain ⟨b, rfl, d0⟩ := h3 k (by rw [HLs.out]; exact hkl)
        have HD0 := hid_mk' d0
        clear h3
        obtain ⟨l, hl⟩ : ∃ l, l = ss.getD k [] := ⟨_, rfl⟩
        have hmem : (M l).isSome = true := HIn.out l (by rw [hl]; exact getD_mem' (by rw [HLs.out]; exact hkl))
        obtain ⟨c, z, hc⟩ : ∃ c z, M l = some (c, z) := by
          cases h : M l with
          | none => rw [h] at hmem; cases hmem
          | some p => exact ⟨p.1, p.2, rfl⟩
        obtain ⟨c', z', hc', hp1, hp2, hp3⟩ := HW3.out.k l c z hc
        have hfit : nameOk l = true ∧ z ≤ c.length ∧ c.length ≤ 1048576 := by
          obtain ⟨S, h⟩ := HW3.out.c
          exact h.fit hc
        have hnl := nameOk_len' hfit.1
        have H1 : Hid (∀ W', w6.grownBy W' none → Calls Try.prog 21 #[.pointer (some ⟨gc, 0, none⟩), .string (ByteArray.mk ⟨l⟩)] W' fun e w' => ∃ a cp, e = .returned (.tuple #[.slice a c.length cp, .int .i64 0]) ∧ c.length ≤ cp ∧ cp ≤ maxLen ∧ Hid (Rd w' (.slice a c.length cp) c ∧ W'.grownBy w' none)) := fun W' hg => by
          obtain ⟨S, h⟩ := HW3.out.c
          refine (read_ok W' S gc N M l hnl (h.keep hg)).mono ?_
          rintro e w' ⟨v, h1, h2, h3⟩
          rw [findE_some hfit.1 hc] at h1
          have hb : bytesOf M l = c := by simp only [bytesOf, hc]
          rw [hb] at h2
          obtain ⟨a, cp, rfl, q1, q2, q3⟩ := h2.rd
          exact ⟨a, cp, h1, q1, q2, ⟨a, cp, rfl, q1, q2, q3⟩, h3⟩
        have H2 : Hid (∀ W', w6.grownBy W' none → Calls Try.prog 22 #[.pointer (some ⟨gc, 0, none⟩), .string (ByteArray.mk ⟨l⟩)] W' fun e w' => e = .returned (.tuple #[.int .i64 (c.length : Int), .int .i64 (z : Int), .int .i64 0]) ∧ Hid (W'.grownBy w' none)) := fun W' hg => by
          obtain ⟨S, h⟩ := HW3.out.c
          refine (size_ok W' S gc N M l hnl (h.keep hg)).mono ?_
          rintro e w' ⟨h1, h2⟩
          rw [findE_some hfit.1 hc] at h1
          have hb : bytesOf M l = c := by simp only [bytesOf, hc]
          have hz : syncedOf M l = z := by simp only [syncedOf, hc]
          rw [hb, hz] at h1
          exact ⟨h1, h2⟩
        have H3 : Hid (∀ W', w6.grownBy W' none → Calls Try.prog 21 #[.pointer (some ⟨gd, 0, none⟩), .string (ByteArray.mk ⟨l⟩)] W' fun e w' => ∃ a cp, e = .returned (.tuple #[.slice a c'.length cp, .int .i64 0]) ∧ Hid (Rd w' (.slice a c'.length cp) c' ∧ W'.grownBy w' none)) := fun W' hg => by
          obtain ⟨S, h⟩ := HW3.out.d
          refine (read_ok W' S gd N M' l hnl (h.keep hg)).mono ?_
          rintro e w' ⟨v, h1, h2, h3⟩
          rw [findE_some hfit.1 hc'] at h1
          have hb : bytesOf M' l = c' := by simp only [bytesOf, hc']
          rw [hb] at h2
          obtain ⟨a, cp, rfl, q1, q2, q3⟩ := h2.rd
          exact ⟨a, cp, h1, ⟨a, cp, rfl, q1, q2, q3⟩, h3⟩
        have H4 : Hid (∀ W', w6.grownBy W' none → Calls Try.prog 22 #[.pointer (some ⟨gd, 0, none⟩), .string (ByteArray.mk ⟨l⟩)] W' fun e w' => e = .returned (.tuple #[.int .i64 (c'.length : Int), .int .i64 (z' : Int), .int .i64 0]) ∧ Hid (W'.grownBy w' none)) := fun W' hg => by
          obtain ⟨S, h⟩ := HW3.out.d
          refine (size_ok W' S gd N M' l hnl (h.keep hg)).mono ?_
          rintro e w' ⟨h1, h2⟩
          rw [findE_some hfit.1 hc'] at h1
          have hb : bytesOf M' l = c' := by simp only [bytesOf, hc']
          have hz : syncedOf M' l = z' := by simp only [syncedOf, hc']
          rw [hb, hz] at h1
          exact ⟨h1, h2⟩
        have HP : Hid (c' = c.take c'.length) := hp1
        have hmost : c.length ≤ 1048576 := hfit.2.2
        have hzz : Hid (SyncedAll M' → z' = c'.length) := fun h => h l c' z' hc'
        clear hp1 hc hc' hfit hnl hmem
        rw [← hl] at d0
        generalize hsk : ByteArray.mk ⟨l⟩ = sk at *
        clear hl hsk
        generalize hCL : c.length = CL at *
        generalize hCL' : c'.length = CL' at *
        have HCL := hid_mk' hCL
        have HCL' := hid_mk' hCL'
        clear hCL hCL'
        have n1 : ¬ (CL : Int) < (CL' : Int) := by omega
        have n2 : ¬ (CL' : Int) < (z : Int) := by omega
        go_wp2_with fail
        refine (H1.out _ HK.out).mono ?_
        rintro e w7 ⟨a1, cp1, rfl, hcp, hcpm, R1⟩
        have d1 := cell_keep d0 R1.out.2
        have G7 : Hid (w6.grownBy w7 none) := gb_none HK.out R1.out.2
        go_wp2_with fail
        refine (H2.out _ G7.out).mono ?_
        rintro e w8 ⟨rfl, R2⟩
        have d2 := cell_keep d1 R2.out
        have G8 : Hid (w6.grownBy w8 none) := gb_none G7.out R2.out
        clear d0 d1
        go_wp2_with fail
        refine (H3.out _ G8.out).mono ?_
        rintro e w9 ⟨a2, cp2, rfl, R3⟩
        have d3 := cell_keep d2 R3.out.2
        have G9 : Hid (w6.grownBy w9 none) := gb_none G8.out R3.out.2
        clear d2
        go_wp2_with fail
        refine (H4.out _ G9.out).mono ?_
        rintro e w10 ⟨rfl, R4⟩
        have G10 : Hid (w6.grownBy w10 none) := gb_none G9.out R4.out
        have HSm : Hid (Calls Try.prog 23 #[.slice a2 CL' cp2, .slice a1 CL' cp1] w10 fun e w' => e = .returned (.bool true) ∧ w10.grownBy w' none) := by
          have h1 := ((R1.out.1.keep R2.out).keep R3.out.2).keep R4.out
          have h2 := R3.out.1.keep R4.out
          rw [← HCL.out] at h1
          have h3 := h1.first CL' (by rw [HCL.out]; omega)
          rw [← HP.out] at h3
          have := same_any (.slice a2 CL' cp2) (.slice a1 CL' cp1) c' c' w10 h2 h3
          rw [decide_eq_true rfl] at this
          exact this
        clear d3 H1 H2 H3 H4 R1 R2 R3 R4 G7 G8 G9

        have hz := hzz.out HS1.out.2.1
        subst hz
        clear hzz
        go_wp2_with fail
        refine HSm.out.mono ?_
        rintro e w11 ⟨rfl, hg11⟩
        have G11 : Hid (w6.grownBy w11 none) := gb_none G10.out hg11
        clear hg11 HSm G10
        go_wp2
        go_roundw
        case rel => exact ⟨k + 1, by omega, by go_num, G11⟩
        case measure => simp [intOf]; omega
      · have hkl2 : ¬ (k : Int) < (L : Int) := by omega
        have HA : Hid (∃ S, DiskOK wr S gd M' N) := by
          obtain ⟨S, h⟩ := HW3.out.d
          exact ⟨S, h.keep HK.out⟩
        obtain ⟨S, hA⟩ := HA.out
        have HA1 := hid_mk' (keep_again w wr S gd N M' hA HS1.out.2.1 (gb_none HW3.out.g HK.out) _ ms HM.out)
        have HK6 := hid_mk' (gb_none HW3.out.g HK.out)
        have HN1 : Hid (RdS wr (.slice na L nc) ss) := HN.out.keep HK.out
        clear hA HA HN
        go_wp2_with fail
        refine HA1.out.mono ?_
        rintro e w12 ⟨ga, rfl, HB⟩
        clear HA1
        go_wp2_with fail
        refine HB.out.2.mono ?_
        rintro e w13 ⟨E, rfl, HB2⟩
        have HN2 : Hid (RdS w13 (.slice na L nc) ss) := HN1.out.keep HB2.out.2.2
        have HG13 : Hid (w.grownBy w13 none) := gb_none HK6.out HB2.out.2.2
        clear HN1 HB
        have HIn2 : Hid (∀ l, l ∈ ss → (M' l).isSome = true) := fun l h => (HS1.out.2.2 l).trans (HIn.out l h)
        clear HS1 HIn HW3 HK6 HK
        go_wp2
        go_loopw [24] (fun i wr => ∃ k : Nat, k ≤ L ∧ i = .int .i64 (k : Int) ∧ Hid (w13.grownBy wr none)) (fun i _ => L - (intOf i).toNat)
        case atStart => exact ⟨0, by omega, rfl, gb_refl _ _⟩
        case round =>
          obtain ⟨j, hj, rfl, HK⟩ := hrel
          by_cases hjl : j < L
          · have hjl2 : (j : Int) < (L : Int) := by omega
            obtain ⟨a0, c0, hv0, -, h3⟩ := HN2.out.keep HK.out
            simp only [Value.slice.injEq] at hv0
            obtain ⟨rfl, -, -⟩ := hv0
            obtain ⟨b, rfl, d0⟩ := h3 j (by rw [HLs.out]; exact hjl)
            clear h3
            obtain ⟨l, hl⟩ : ∃ l, l = ss.getD j [] := ⟨_, rfl⟩
            have hmem : (M' l).isSome = true := HIn2.out l (by rw [hl]; exact getD_mem' (by rw [HLs.out]; exact hjl))
            obtain ⟨c, z, hc⟩ : ∃ c z, M' l = some (c, z) := by
              cases h : M' l with
              | none => rw [h] at hmem; cases hmem
              | some p => exact ⟨p.1, p.2, rfl⟩
            have hfit : nameOk l = true ∧ z ≤ c.length ∧ c.length ≤ 1048576 := by
              obtain ⟨S, h⟩ := HB2.out.1
              exact h.fit hc
            have hnl := nameOk_len' hfit.1
            have H1 : Hid (∀ W', w13.grownBy W' none → ∀ g, g = gd ∨ g = ga → Calls Try.prog 21 #[.pointer (some ⟨g, 0, none⟩), .string (ByteArray.mk ⟨l⟩)] W' fun e w' => ∃ a cp, e = .returned (.tuple #[.slice a c.length cp, .int .i64 0]) ∧ Hid (Rd w' (.slice a c.length cp) c ∧ W'.grownBy w' none)) := fun W' hg g hgg => by
              have hh : ∃ S, DiskOK w13 S g M' N := by
                rcases hgg with rfl | rfl
                · exact HB2.out.1
                · exact HB2.out.2.1
              obtain ⟨S, h⟩ := hh
              refine (read_ok W' S g N M' l hnl (h.keep hg)).mono ?_
              rintro e w' ⟨v, h1, h2, h3⟩
              rw [findE_some hfit.1 hc] at h1
              have hb : bytesOf M' l = c := by simp only [bytesOf, hc]
              rw [hb] at h2
              obtain ⟨a, cp, rfl, q1, q2, q3⟩ := h2.rd
              exact ⟨a, cp, h1, ⟨a, cp, rfl, q1, q2, q3⟩, h3⟩
            have hmost : c.length ≤ 1048576 := hfit.2.2
            rw [← hl] at d0
            clear hc hfit hnl hmem
            generalize hsk : ByteArray.mk ⟨l⟩ = sk at *
            clear hl hsk
            generalize hCL : c.length = CL at *
            have HCL := hid_mk' hCL
            clear hCL
            go_wp2_with fail
            refine (H1.out _ HK.out _ (.inl rfl)).mono ?_
            rintro e w14 ⟨a1, cp1, rfl, R1⟩
            have d1 := cell_keep d0 R1.out.2
            have G14 : Hid (w13.grownBy w14 none) := gb_none HK.out R1.out.2
            clear d0
            go_wp2_with fail
            refine (H1.out _ G14.out _ (.inr rfl)).mono ?_
            rintro e w15 ⟨a2, cp2, rfl, R2⟩
            have G15 : Hid (w13.grownBy w15 none) := gb_none G14.out R2.out.2
            have HSm : Hid (Calls Try.prog 23 #[.slice a1 CL cp1, .slice a2 CL cp2] w15 fun e w' => e = .returned (.bool true) ∧ w15.grownBy w' none) := by
              have := same_any (.slice a1 CL cp1) (.slice a2 CL cp2) c c w15 (R1.out.1.keep R2.out.2) R2.out.1
              rw [decide_eq_true rfl] at this
              exact this
            clear d1 H1 R1 R2 G14
            go_wp2_with fail
            refine HSm.out.mono ?_
            rintro e w16 ⟨rfl, hg16⟩
            have G16 : Hid (w13.grownBy w16 none) := gb_none G15.out hg16
            clear hg16 HSm G15
            go_wp2
            go_roundw
            case rel => exact ⟨j + 1, by omega, by go_num, G16⟩
            case measure => simp [intOf]; omega
          · have hjl2 : ¬ (j : Int) < (L : Int) := by omega
            have HFin : Hid (∀ w8 : World, wr.grownBy w8 none → Below w.heap.size w w8) := fun w8 h => gb_below (gb_none (gb_none HG13.out HK.out) h)
            go_wp2_with fail
            refine (known_any _).mono ?_
            rintro e w17 ⟨rfl, hg17⟩
            have H17 := hid_mk' (HFin.out w17 hg17)
            clear hg17
            go_wp2
            go_ret
            exact ⟨rfl, H17.out⟩
  · have HS1 : Hid (KeepS w w3 gd gc N M M ∧ True ∧ ∀ l, (M l).isSome = (M l).isSome) := ⟨HS.out, trivial, fun _ => rfl⟩
    clear HS HK
    have HL := hid_mk' (keep_list w w3 gd gc N M M HS1.out.1 HS1.out.2.2)
    go_wp2_with fail
    refine HL.out.mono ?_
    rintro e w4 ⟨na, nc, ss, rfl, HL1⟩
    clear HL
    generalize hLs : ss.length = L at *
    have HLs := hid_mk' hLs
    clear hLs
    go_wp2_with fail
    refine HL1.out.2.2.2.2.mono ?_
    rintro e w5 ⟨v5, rfl, HL2⟩
    have HT : Hid (Calls Try.prog 13 #[v5, .slice na L nc] w5 fun e w' => e = .returned (.bool true) ∧ w5.grownBy w' none) := by
      have h2 := HL2.out.2.1
      exact texts_same v5 _ ss w5 HL2.out.1 h2
    go_wp2_with fail
    refine HT.out.mono ?_
    rintro e w6 ⟨rfl, hg6⟩
    have HG6 := hid_mk' hg6
    clear hg6 HT
    obtain ⟨M', hM'⟩ : ∃ M', M' = M := ⟨_, rfl⟩
    rw [show KeepS w w3 gd gc N M M = KeepS w w3 gd gc N M M' from by rw [hM']] at HS1
    clear hM'
    have HN : Hid (RdS w6 (.slice na L nc) ss) := HL2.out.2.1.keep HG6.out
    have HIn : Hid (∀ l, l ∈ ss → (M l).isSome = true) := HL1.out.2.1
    have HLn : Hid (L ≤ 256) := by
      obtain ⟨S, gm, D, gf, u, hd⟩ := HS1.out.1.d
      have h1 := hd.most
      have h2 := HL1.out.2.2.2.1
      show L ≤ 256
      omega
    have HW3 : Hid (KeepS w w6 gd gc N M M') := HS1.out.1.keep (gb_none HL2.out.2.2 HG6.out)
    have hL256 := HLn.out
    clear HL1 HL2 HG6 HLn
    go_wp2
    go_loopw [12] (fun i wr => ∃ k : Nat, k ≤ L ∧ i = .int .i64 (k : Int) ∧ Hid (w6.grownBy wr none)) (fun i _ => L - (intOf i).toNat)
    case atStart => exact ⟨0, by omega, rfl, gb_refl _ _⟩
    case round =>
      obtain ⟨k, hk, rfl, HK⟩ := hrel
      by_cases hkl : k < L
      · have hkl2 : (k : Int) < (L : Int) := by omega
        obtain ⟨a0, c0, hv0, -, h3⟩ := HN.out.keep HK.out
        simp only [Value.slice.injEq] at hv0
        obtain ⟨rfl, -, -⟩ := hv0
        obtain ⟨b, rfl, d0⟩ := h3 k (by rw [HLs.out]; exact hkl)
        have HD0 := hid_mk' d0
        clear h3
        obtain ⟨l, hl⟩ : ∃ l, l = ss.getD k [] := ⟨_, rfl⟩
        have hmem : (M l).isSome = true := HIn.out l (by rw [hl]; exact getD_mem' (by rw [HLs.out]; exact hkl))
        obtain ⟨c, z, hc⟩ : ∃ c z, M l = some (c, z) := by
          cases h : M l with
          | none => rw [h] at hmem; cases hmem
          | some p => exact ⟨p.1, p.2, rfl⟩
        obtain ⟨c', z', hc', hp1, hp2, hp3⟩ := HW3.out.k l c z hc
        have hfit : nameOk l = true ∧ z ≤ c.length ∧ c.length ≤ 1048576 := by
          obtain ⟨S, h⟩ := HW3.out.c
          exact h.fit hc
        have hnl := nameOk_len' hfit.1
        have H1 : Hid (∀ W', w6.grownBy W' none → Calls Try.prog 21 #[.pointer (some ⟨gc, 0, none⟩), .string (ByteArray.mk ⟨l⟩)] W' fun e w' => ∃ a cp, e = .returned (.tuple #[.slice a c.length cp, .int .i64 0]) ∧ c.length ≤ cp ∧ cp ≤ maxLen ∧ Hid (Rd w' (.slice a c.length cp) c ∧ W'.grownBy w' none)) := fun W' hg => by
          obtain ⟨S, h⟩ := HW3.out.c
          refine (read_ok W' S gc N M l hnl (h.keep hg)).mono ?_
          rintro e w' ⟨v, h1, h2, h3⟩
          rw [findE_some hfit.1 hc] at h1
          have hb : bytesOf M l = c := by simp only [bytesOf, hc]
          rw [hb] at h2
          obtain ⟨a, cp, rfl, q1, q2, q3⟩ := h2.rd
          exact ⟨a, cp, h1, q1, q2, ⟨a, cp, rfl, q1, q2, q3⟩, h3⟩
        have H2 : Hid (∀ W', w6.grownBy W' none → Calls Try.prog 22 #[.pointer (some ⟨gc, 0, none⟩), .string (ByteArray.mk ⟨l⟩)] W' fun e w' => e = .returned (.tuple #[.int .i64 (c.length : Int), .int .i64 (z : Int), .int .i64 0]) ∧ Hid (W'.grownBy w' none)) := fun W' hg => by
          obtain ⟨S, h⟩ := HW3.out.c
          refine (size_ok W' S gc N M l hnl (h.keep hg)).mono ?_
          rintro e w' ⟨h1, h2⟩
          rw [findE_some hfit.1 hc] at h1
          have hb : bytesOf M l = c := by simp only [bytesOf, hc]
          have hz : syncedOf M l = z := by simp only [syncedOf, hc]
          rw [hb, hz] at h1
          exact ⟨h1, h2⟩
        have H3 : Hid (∀ W', w6.grownBy W' none → Calls Try.prog 21 #[.pointer (some ⟨gd, 0, none⟩), .string (ByteArray.mk ⟨l⟩)] W' fun e w' => ∃ a cp, e = .returned (.tuple #[.slice a c'.length cp, .int .i64 0]) ∧ Hid (Rd w' (.slice a c'.length cp) c' ∧ W'.grownBy w' none)) := fun W' hg => by
          obtain ⟨S, h⟩ := HW3.out.d
          refine (read_ok W' S gd N M' l hnl (h.keep hg)).mono ?_
          rintro e w' ⟨v, h1, h2, h3⟩
          rw [findE_some hfit.1 hc'] at h1
          have hb : bytesOf M' l = c' := by simp only [bytesOf, hc']
          rw [hb] at h2
          obtain ⟨a, cp, rfl, q1, q2, q3⟩ := h2.rd
          exact ⟨a, cp, h1, ⟨a, cp, rfl, q1, q2, q3⟩, h3⟩
        have H4 : Hid (∀ W', w6.grownBy W' none → Calls Try.prog 22 #[.pointer (some ⟨gd, 0, none⟩), .string (ByteArray.mk ⟨l⟩)] W' fun e w' => e = .returned (.tuple #[.int .i64 (c'.length : Int), .int .i64 (z' : Int), .int .i64 0]) ∧ Hid (W'.grownBy w' none)) := fun W' hg => by
          obtain ⟨S, h⟩ := HW3.out.d
          refine (size_ok W' S gd N M' l hnl (h.keep hg)).mono ?_
          rintro e w' ⟨h1, h2⟩
          rw [findE_some hfit.1 hc'] at h1
          have hb : bytesOf M' l = c' := by simp only [bytesOf, hc']
          have hz : syncedOf M' l = z' := by simp only [syncedOf, hc']
          rw [hb, hz] at h1
          exact ⟨h1, h2⟩
        have HP : Hid (c' = c.take c'.length) := hp1
        have hmost : c.length ≤ 1048576 := hfit.2.2
        have hzz : Hid (SyncedAll M' → z' = c'.length) := fun h => h l c' z' hc'
        clear hp1 hc hc' hfit hnl hmem
        rw [← hl] at d0
        generalize hsk : ByteArray.mk ⟨l⟩ = sk at *
        clear hl hsk
        generalize hCL : c.length = CL at *
        generalize hCL' : c'.length = CL' at *
        have HCL := hid_mk' hCL
        have HCL' := hid_mk' hCL'
        clear hCL hCL'
        have n1 : ¬ (CL : Int) < (CL' : Int) := by omega
        have n2 : ¬ (CL' : Int) < (z : Int) := by omega
        go_wp2_with fail
        refine (H1.out _ HK.out).mono ?_
        rintro e w7 ⟨a1, cp1, rfl, hcp, hcpm, R1⟩
        have d1 := cell_keep d0 R1.out.2
        have G7 : Hid (w6.grownBy w7 none) := gb_none HK.out R1.out.2
        go_wp2_with fail
        refine (H2.out _ G7.out).mono ?_
        rintro e w8 ⟨rfl, R2⟩
        have d2 := cell_keep d1 R2.out
        have G8 : Hid (w6.grownBy w8 none) := gb_none G7.out R2.out
        clear d0 d1
        go_wp2_with fail
        refine (H3.out _ G8.out).mono ?_
        rintro e w9 ⟨a2, cp2, rfl, R3⟩
        have d3 := cell_keep d2 R3.out.2
        have G9 : Hid (w6.grownBy w9 none) := gb_none G8.out R3.out.2
        clear d2
        go_wp2_with fail
        refine (H4.out _ G9.out).mono ?_
        rintro e w10 ⟨rfl, R4⟩
        have G10 : Hid (w6.grownBy w10 none) := gb_none G9.out R4.out
        have HSm : Hid (Calls Try.prog 23 #[.slice a2 CL' cp2, .slice a1 CL' cp1] w10 fun e w' => e = .returned (.bool true) ∧ w10.grownBy w' none) := by
          have h1 := ((R1.out.1.keep R2.out).keep R3.out.2).keep R4.out
          have h2 := R3.out.1.keep R4.out
          rw [← HCL.out] at h1
          have h3 := h1.first CL' (by rw [HCL.out]; omega)
          rw [← HP.out] at h3
          have := same_any (.slice a2 CL' cp2) (.slice a1 CL' cp1) c' c' w10 h2 h3
          rw [decide_eq_true rfl] at this
          exact this
        clear d3 H1 H2 H3 H4 R1 R2 R3 R4 G7 G8 G9

        clear hzz
        go_wp2_with fail
        refine HSm.out.mono ?_
        rintro e w11 ⟨rfl, hg11⟩
        have G11 : Hid (w6.grownBy w11 none) := gb_none G10.out hg11
        clear hg11 HSm G10
        go_wp2
        go_roundw
        case rel => exact ⟨k + 1, by omega, by go_num, G11⟩
        case measure => simp [intOf]; omega
      · have hkl2 : ¬ (k : Int) < (L : Int) := by omega
        have HFin : Hid (∀ w8 : World, wr.grownBy w8 none → Below w.heap.size w w8) := fun w8 h => gb_below (gb_none (gb_none HW3.out.g HK.out) h)
        go_wp2_with fail
        refine (known_any _).mono ?_
        rintro e w17 ⟨rfl, hg17⟩
        have H17 := hid_mk' (HFin.out w17 hg17)
        clear hg17
        go_wp2
        go_ret
        exact ⟨rfl, H17.out⟩
end Go.Proofs.Ytgafmplmngbbfaa
