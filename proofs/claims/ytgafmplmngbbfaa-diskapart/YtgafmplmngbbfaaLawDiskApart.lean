/-
  DiskApart: what is done with one file changes no other one: the walk.
-/
import Derived.Test.YtgafmplmngbbfaaDApart2
namespace Go.Proofs.Ytgafmplmngbbfaa
open Go.RowKit Go.Maps Go.WideMaps Go.Sort

theorem OpIn.zero {w : World} {kd n : Int} {nm to bs : Bs} {ks : List Kp} {x1 x2 x3 x4 x5 : Value} (h : OpIn w (.agg #[.int .i64 kd, x1, x2, x3, x4, x5]) ⟨kd, nm, to, bs, n, ks⟩) : OpIn w (.agg #[.int .i64 0, x1, x2, x3, x4, x5]) ⟨0, nm, to, bs, n, ks⟩ := by
  obtain ⟨ba, bc, va, vc, hv, h⟩ := h
  simp only [Value.agg.injEq, Array.mk.injEq, List.cons.injEq, true_and, and_true] at hv
  obtain ⟨rfl, rfl, rfl, rfl, rfl⟩ := hv
  exact ⟨ba, bc, va, vc, rfl, h⟩
theorem findE_zero {M : Fls} {l : Bs} {p : Bs × Nat} (h : M l = some p) (hok : nameOk l = true) : findE M l = 0 := by
  rcases findE_cases M l with ⟨h0, _⟩ | ⟨_, h1, _⟩ | ⟨_, h1⟩
  · exact h0
  · rw [h] at h1; cases h1
  · rw [hok] at h1; cases h1
theorem nameOk_len {l : Bs} (h : nameOk l = true) : l.length ≤ 9223372036854775807 := by
  unfold nameOk at h
  simp at h
  omega

set_option maxRecDepth 8000 in
set_option maxHeartbeats 6400000 in
theorem apart_walk (w : World) (v : Value) (os : List Opm) (hv : OpsIn w v os) (vo : Value) (o : Opm) (ho : OpIn w vo o) :
    Calls Try.prog 6 #[v, vo] w fun e w' => e = .returned (.bool true) ∧ Below w.heap.size w w' := by
  have HV := hid_mk' hv
  have HO := hid_mk' ho
  obtain ⟨ba, bc, va, vc, rfl, -, -, -, -, -, -, -⟩ := ho
  obtain ⟨kd, nm, to, bs, n, ks⟩ := o
  simp only at *
  obtain ⟨xa, xc, rfl, -, -⟩ := hv
  generalize hvB : Value.slice ba bs.length bc = vB at *
  generalize hvK : Value.slice va ks.length vc = vK at *
  clear hvB hvK
  generalize hs : ByteArray.mk ⟨nm⟩ = s at *
  have HSn := hid_mk' hs
  generalize hs2 : ByteArray.mk ⟨to⟩ = s2 at *
  have HSt := hid_mk' hs2
  clear hs hs2
  generalize hW : w.alloc (.cells #[.int .i64 kd, .string s, .string s2, vB, .int .i64 n, vK] 34) = W
  have HW := hid_mk' hW
  have HG : Hid (w.grownBy W none ∧ W.heap.size = w.heap.size + 1) := by
    rw [← hW]
    exact ⟨World.grownBy_alloc _ _ none, by simp⟩
  have HF := hid_mk' (files_any W _ os (HV.out.keep HG.out.1))
  clear hW
  generalize os.length = OL at *
  go_enter Try.func6, Try.ntmps6
  go_wp2_with fail
  rw [HW.out]
  refine HF.out.mono ?_
  rintro e w1 ⟨gd, gr, rfl, HD⟩
  have hb1 : w1.heap[w.heap.size]? = some (.cells #[.int .i64 kd, .string s, .string s2, vB, .int .i64 n, vK] 34) := by
    obtain ⟨M, N, Sd, Sr, h⟩ := HD.out
    rw [h.g.block w.heap.size (by have := HG.out.2; omega) (by simp), ← HW.out]
    exact alloc_at _ _
  have c0 : w1.cell? ⟨w.heap.size, 0, none⟩ = some (.int .i64 kd) := by simp [World.cell?, hb1]
  have f0 : w1.frozen? ⟨w.heap.size, 0, none⟩ = false := by simp [World.frozen?, hb1]
  have HB1 := hid_mk' hb1
  clear hb1
  rcases (show (0 ≤ kd ∧ kd ≤ 4) ∨ kd < 0 ∨ (¬ kd < 0 ∧ 4 < kd) from by omega) with hkd | hkd | ⟨hkd, k2⟩
  · have k1 : ¬ kd < 0 := by omega
    have k2 : ¬ 4 < kd := by omega
    have HT : Hid (∃ M N, Calls Try.prog 11 #[.pointer (some ⟨gr, 0, none⟩)] w1 fun e w2 => ∃ gc, e = .returned (.pointer (some ⟨gc, 0, none⟩)) ∧ Hid (w2.heap[w.heap.size]? = some (.cells #[.int .i64 kd, .string s, .string s2, vB, .int .i64 n, vK] 34) ∧ Calls Try.prog 12 #[.pointer (some ⟨gd, 0, none⟩), .pointer (some ⟨gr, 0, none⟩), .agg #[.int .i64 kd, .string s, .string s2, vB, .int .i64 n, vK]] w2 fun e w3 => e = .returned (.bool true) ∧ Hid (w3.heap[w.heap.size]? = some (.cells #[.int .i64 kd, .string s, .string s2, vB, .int .i64 n, vK] 34) ∧ w.grownBy w3 none ∧ (∃ Sd' N', DiskOK w3 Sd' gd (stepM ⟨kd, nm, to, bs, n, ks⟩ M N) N') ∧ ∃ T vw rsw, RefW w3 T gc vw rsw ∧ ∀ l, M l = lkR rsw l))) := by
      obtain ⟨M, N, Sd, Sr, h⟩ := HD.out
      have hz := HG.out.2
      refine ⟨M, N, ?_⟩
      rw [← HSn.out, ← HSt.out]
      have hcK : Ch w1 w1 (fun k => k = w.heap.size) := Ch.refl _ _
      have hzK := hcK.size
      refine apart_tail w w1 Sd Sr gd gr N M kd n nm to bs ks vB vK ?_ ⟨h.d.frame hcK (fun k _ hk e => by have := (h.bd k hk).1; omega), h.r.frame hcK (fun k _ hk e => by have := (h.br k hk).1; omega), ((Ch.of_gb (S := fun k => k = w.heap.size) (gb_none HG.out.1 h.g) (fun k hk => by cases hk)).trans hcK (fun _ _ h => h)).gb (fun k hk e => by omega), fun k hk => ⟨by have := (h.bd k hk).1; omega, by have := (h.bd k hk).2.1; omega, (h.bd k hk).2.2⟩, fun k hk => ⟨by have := (h.br k hk).1; omega, by have := (h.br k hk).2; omega⟩⟩ ?_ (fun k hk => ?_)
      · have := HO.out
        rw [← HSn.out, ← HSt.out] at this
        exact this
      · have := HB1.out
        rw [← HSn.out, ← HSt.out] at this
        exact this
      · rcases hk with hk | hk
        · have := (h.bd k hk).1; omega
        · have := (h.br k hk).1; omega
    clear HF HV HD HB1 HO HW HG
    obtain ⟨M, N, hT⟩ := HT.out
    have HT2 := hid_mk' hT
    clear hT HT
    go_wp2_with fail
    refine HT2.out.mono ?_
    rintro e w2 ⟨gc, rfl, H2⟩
    have hb2 := H2.out.1
    have q0 : w2.cell? ⟨w.heap.size, 0, none⟩ = some (.int .i64 kd) := by simp [World.cell?, hb2]
    have q1 : w2.cell? ⟨w.heap.size, 1, none⟩ = some (.string s) := by simp [World.cell?, hb2]
    have q2 : w2.cell? ⟨w.heap.size, 2, none⟩ = some (.string s2) := by simp [World.cell?, hb2]
    have q3 : w2.cell? ⟨w.heap.size, 3, none⟩ = some vB := by simp [World.cell?, hb2]
    have q4 : w2.cell? ⟨w.heap.size, 4, none⟩ = some (.int .i64 n) := by simp [World.cell?, hb2]
    have q5 : w2.cell? ⟨w.heap.size, 5, none⟩ = some vK := by simp [World.cell?, hb2]
    clear hb2
    go_wp2_with fail
    refine H2.out.2.mono ?_
    rintro e w3 ⟨rfl, H3x⟩
    clear q0 q1 q2 q3 q4 q5 c0 f0 HT2 H2
    obtain ⟨q, hq⟩ : ∃ q : Opm, q = ⟨kd, nm, to, bs, n, ks⟩ := ⟨_, rfl⟩
    obtain ⟨KD, hKD⟩ : ∃ KD : Int, KD = kd := ⟨_, rfl⟩
    have HKE : Hid (KD = q.kind) := by rw [hq]; exact hKD
    have HKd : Hid (0 ≤ q.kind ∧ q.kind ≤ 4) := by rw [hq]; exact hkd
    have HQn : Hid (q.name = nm) := by rw [hq]; rfl
    have HQt : Hid (q.to = to) := by rw [hq]; rfl
    have H3 : Hid (w3.heap[w.heap.size]? = some (.cells #[.int .i64 KD, .string s, .string s2, vB, .int .i64 n, vK] 34) ∧ w.grownBy w3 none ∧ (∃ Sd' N', DiskOK w3 Sd' gd (stepM q M N) N') ∧ ∃ T vw rsw, RefW w3 T gc vw rsw ∧ ∀ l, M l = lkR rsw l) := by rw [hKD, hq]; exact H3x.out
    clear H3x hKD hq hkd k1 k2
    have hb3 := H3.out.1
    obtain ⟨T, vw, rsw, hRw, hMw⟩ := H3.out.2.2.2
    obtain ⟨Sd', N', hDk⟩ := H3.out.2.2.1
    obtain ⟨aw, cw, hvw, -, -⟩ := hRw.shape
    have hbxw : w3.cell? ⟨gc, 0, none⟩ = some (.slice aw rsw.length cw) := by rw [← hvw]; simp [World.cell?, hRw.box]
    have q0 : w3.cell? ⟨w.heap.size, 0, none⟩ = some (.int .i64 KD) := by simp [World.cell?, hb3]
    have q1 : w3.cell? ⟨w.heap.size, 1, none⟩ = some (.string s) := by simp [World.cell?, hb3]
    have q2 : w3.cell? ⟨w.heap.size, 2, none⟩ = some (.string s2) := by simp [World.cell?, hb3]
    have HR := hid_mk' (And.intro hRw (And.intro hMw (And.intro hvw hDk)))
    have hmw := hRw.most
    have HG3 := hid_mk' H3.out.2.1
    clear hb3 hRw hMw hDk H3
    generalize hLw : rsw.length = Lw at *
    have HLw := hid_mk' hLw
    clear hLw hvw
    go_wp2
    go_loopw [8] (fun i wr => ∃ k : Nat, k ≤ Lw ∧ i = .int .i64 (k : Int) ∧ Hid (w3.grownBy wr none)) (fun i _ => Lw - (intOf i).toNat)
    case atStart => exact ⟨0, by omega, rfl, gb_refl _ _⟩
    case round =>
      obtain ⟨k, hk, rfl, HK⟩ := hrel
      have hbx := cell_keep hbxw HK.out
      by_cases hkl : k < Lw
      · have hkl2 : (k : Int) < (Lw : Int) := by omega
        have hk' : k < rsw.length := by rw [HLw.out]; exact hkl
        obtain ⟨g, cap, hv, -, -, hcells⟩ := HR.out.1.cells (by intro e; rw [e] at hk'; simp at hk')
        have hv2 : aw = some ⟨g, 0, none⟩ := by have := HR.out.2.2.1; rw [hv] at this; simp at this; exact this.1.symm
        subst hv2
        obtain ⟨c0, c1, c2⟩ := hcells k hk'
        obtain ⟨fa, fc, hval⟩ : ∃ a1 d1, (rsw.getD k rfZ).val = .slice a1 (rsw.getD k rfZ).bytes.length d1 := by obtain ⟨⟨a, c, e, _⟩, _⟩ := HR.out.1.each _ (getD_mem hk'); exact ⟨a, c, e⟩
        have hrd := (HR.out.1.each _ (getD_mem hk')).1
        have hfit := HR.out.1.fits _ (getD_mem hk')
        rw [hval] at c1 hrd
        have k0 := cell_keep c0 HK.out
        have k1' := cell_keep c1 HK.out
        have k2' := cell_keep c2 HK.out
        have p0 : ∀ o, (wr.alloc o).cell? ⟨w.heap.size, 0, none⟩ = _ := fun o => cell_keep (cell_keep q0 HK.out) (World.grownBy_alloc _ _ none)
        have p1 : ∀ o, (wr.alloc o).cell? ⟨w.heap.size, 1, none⟩ = _ := fun o => cell_keep (cell_keep q1 HK.out) (World.grownBy_alloc _ _ none)
        have p2 : ∀ o, (wr.alloc o).cell? ⟨w.heap.size, 2, none⟩ = _ := fun o => cell_keep (cell_keep q2 HK.out) (World.grownBy_alloc _ _ none)
        have HMk : Hid (M (rsw.getD k rfZ).name = some ((rsw.getD k rfZ).bytes, (rsw.getD k rfZ).synced)) := by
          show M (rsw.getD k rfZ).name = _
          rw [HR.out.2.1]
          have hsp := split_at hk'
          have hs := HR.out.1.srt
          rw [hsp] at hs
          conv => lhs; arg 1; rw [hsp]
          rw [lkR_mid hs, if_pos rfl]
        have HQ1 : Hid (∀ sk, ByteArray.mk ⟨(rsw.getD k rfZ).name⟩ = sk → (sk.toList == s.toList) = decide ((rsw.getD k rfZ).name = nm)) := fun sk h => by rw [← h, ← HSn.out]; exact str_eq _ _
        have HQ2 : Hid (∀ sk, ByteArray.mk ⟨(rsw.getD k rfZ).name⟩ = sk → (sk.toList == s2.toList) = decide ((rsw.getD k rfZ).name = to)) := fun sk h => by rw [← h, ← HSt.out]; exact str_eq _ _
        have HRd := hid_mk' (And.intro hrd hfit)
        clear hcells hv c0 c1 c2 hval hrd hfit hk'
        by_cases hA : (rsw.getD k rfZ).name = nm
        · have hq := HQ1.out
          rw [decide_eq_true hA] at hq
          clear HMk HQ1 HQ2 HRd
          generalize (rsw.getD k rfZ).bytes = fb at *
          generalize (rsw.getD k rfZ).synced = fz at *
          generalize ByteArray.mk ⟨(rsw.getD k rfZ).name⟩ = sk at *
          have hq2 := hq sk rfl
          clear hq
          go_wp2
          go_roundw
          case rel => exact ⟨k + 1, by omega, by go_num, gb_none HK.out (World.grownBy_alloc _ _ none)⟩
          case measure => simp [intOf]; omega
        · have hqa := HQ1.out _ rfl
          rw [decide_eq_false hA] at hqa
          by_cases hk3 : KD = 3
          · by_cases hT : (rsw.getD k rfZ).name = to
            · have hqb := HQ2.out _ rfl
              rw [decide_eq_true hT] at hqb
              clear HMk HQ1 HQ2 HRd
              generalize (rsw.getD k rfZ).bytes = fb at *
              generalize (rsw.getD k rfZ).synced = fz at *
              generalize ByteArray.mk ⟨(rsw.getD k rfZ).name⟩ = sk at *
              have hk33 : (KD == 3) = true := by simpa using hk3
              go_wp2
              go_roundw
              case rel => exact ⟨k + 1, by omega, by go_num, gb_none HK.out (World.grownBy_alloc _ _ none)⟩
              case measure => simp [intOf]; omega
            · have hqb := HQ2.out _ rfl
              rw [decide_eq_false hT] at hqb
              have hB : q.kind = 3 → (rsw.getD k rfZ).name ≠ q.to := fun _ => by rw [HQt.out]; exact hT
              have hk33 : (KD == 3) = true := by simpa using hk3
              have HM1 : Hid (stepM q M N (rsw.getD k rfZ).name = some ((rsw.getD k rfZ).bytes, (rsw.getD k rfZ).synced)) := by
                show stepM q M N (rsw.getD k rfZ).name = _
                rw [stepM_other q M N _ HKd.out (by rw [HQn.out]; exact hA) hB]
                exact HMk.out
              have hE0 := findE_zero HM1.out HRd.out.2.1
              have hB0 : bytesOf (stepM q M N) (rsw.getD k rfZ).name = (rsw.getD k rfZ).bytes := by simp only [bytesOf, HM1.out]
              have hS0 : syncedOf (stepM q M N) (rsw.getD k rfZ).name = (rsw.getD k rfZ).synced := by simp only [syncedOf, HM1.out]
              have hnl : (rsw.getD k rfZ).name.length ≤ 9223372036854775807 := nameOk_len HRd.out.2.1
              have H5 : Hid (∀ W', w3.grownBy W' none → Calls Try.prog 21 #[.pointer (some ⟨gd, 0, none⟩), .string (ByteArray.mk ⟨(rsw.getD k rfZ).name⟩)] W' fun e w' => ∃ v, e = .returned (.tuple #[v, .int .i64 0]) ∧ Hid (Rd w' v (rsw.getD k rfZ).bytes ∧ W'.grownBy w' none)) := fun W' hg => by
                refine (read_ok W' Sd' gd N' _ _ hnl (HR.out.2.2.2.keep hg)).mono ?_
                rintro e w' ⟨v, h1, h2, h3⟩
                rw [hE0] at h1
                rw [hB0] at h2
                exact ⟨v, h1, h2.rd, h3⟩
              have H6 : Hid (∀ W', w3.grownBy W' none → Calls Try.prog 22 #[.pointer (some ⟨gd, 0, none⟩), .string (ByteArray.mk ⟨(rsw.getD k rfZ).name⟩)] W' fun e w' => e = .returned (.tuple #[.int .i64 ((rsw.getD k rfZ).bytes.length : Int), .int .i64 ((rsw.getD k rfZ).synced : Int), .int .i64 0]) ∧ Hid (W'.grownBy w' none)) := fun W' hg => by
                refine (size_ok W' Sd' gd N' _ _ hnl (HR.out.2.2.2.keep hg)).mono ?_
                rintro e w' ⟨h1, h2⟩
                rw [hE0, hB0, hS0] at h1
                exact ⟨h1, h2⟩
              have HRw : Hid (Rd wr (.slice fa (rsw.getD k rfZ).bytes.length fc) (rsw.getD k rfZ).bytes) := HRd.out.1.keep HK.out
              clear HMk hE0 hB0 hS0 hnl HQ1 HQ2 HRd
              generalize (rsw.getD k rfZ).bytes = fb at *
              generalize (rsw.getD k rfZ).synced = fz at *
              generalize hq2' : ByteArray.mk ⟨(rsw.getD k rfZ).name⟩ = sk at *
              clear hq2' HM1
              have hgA : wr.grownBy (wr.alloc (.cells #[.string sk, .slice fa fb.length fc, .int .i64 (fz : Int)] 56)) none := World.grownBy_alloc _ _ none
              have hfA := alloc_at wr (.cells #[.string sk, .slice fa fb.length fc, .int .i64 (fz : Int)] 56)
              have m0 : (wr.alloc (.cells #[.string sk, .slice fa fb.length fc, .int .i64 (fz : Int)] 56)).cell? ⟨wr.heap.size, 0, none⟩ = some (.string sk) := by simp only [World.cell?, hfA]; rfl
              have m1 : (wr.alloc (.cells #[.string sk, .slice fa fb.length fc, .int .i64 (fz : Int)] 56)).cell? ⟨wr.heap.size, 1, none⟩ = some (.slice fa fb.length fc) := by simp only [World.cell?, hfA]; rfl
              have m2 : (wr.alloc (.cells #[.string sk, .slice fa fb.length fc, .int .i64 (fz : Int)] 56)).cell? ⟨wr.heap.size, 2, none⟩ = some (.int .i64 (fz : Int)) := by simp only [World.cell?, hfA]; rfl
              have HM := hid_mk' (And.intro hgA (And.intro m0 (And.intro m1 m2)))
              clear hgA hfA m0 m1 m2
              go_wp2_with fail
              refine (H5.out _ (gb_none HK.out HM.out.1)).mono ?_
              rintro e w5 ⟨v5, rfl, H7⟩
              have n0 := cell_keep HM.out.2.1 H7.out.2
              have n1 := cell_keep HM.out.2.2.1 H7.out.2
              have n2 := cell_keep HM.out.2.2.2 H7.out.2
              go_wp2_with fail
              refine (H6.out _ (gb_none (gb_none HK.out HM.out.1) H7.out.2)).mono ?_
              rintro e w6 ⟨rfl, H8⟩
              have r1 := cell_keep n1 H8.out
              have r2 := cell_keep n2 H8.out
              have HS : Hid (Calls Try.prog 23 #[v5, .slice fa fb.length fc] w6 fun e w' => e = .returned (.bool true) ∧ w6.grownBy w' none) := by
                have := same_any v5 (.slice fa fb.length fc) fb fb w6 (H7.out.1.keep H8.out) (((HRw.out.keep HM.out.1).keep H7.out.2).keep H8.out)
                rw [decide_eq_true rfl] at this
                exact this
              have HGG := hid_mk' (gb_none (gb_none (gb_none HK.out HM.out.1) H7.out.2) H8.out)
              clear n0 n1 n2 H5 H6 H7 H8 HM HRw p0 p1 p2 k0 k1' k2'
              go_wp2_with fail
              refine HS.out.mono ?_
              rintro e w7 ⟨rfl, hg7⟩
              have r3 := cell_keep r2 hg7
              have HGH := hid_mk' (gb_none HGG.out hg7)
              clear hg7 r1 r2
              go_wp2
              go_roundw
              case rel => exact ⟨k + 1, by omega, by go_num, HGH⟩
              case measure => simp [intOf]; omega

          · have hB : q.kind = 3 → (rsw.getD k rfZ).name ≠ q.to := fun e => absurd (HKE.out.trans e) hk3
            have hk33 : (KD == 3) = false := by simpa using hk3
            have HM1 : Hid (stepM q M N (rsw.getD k rfZ).name = some ((rsw.getD k rfZ).bytes, (rsw.getD k rfZ).synced)) := by
              show stepM q M N (rsw.getD k rfZ).name = _
              rw [stepM_other q M N _ HKd.out (by rw [HQn.out]; exact hA) hB]
              exact HMk.out
            have hE0 := findE_zero HM1.out HRd.out.2.1
            have hB0 : bytesOf (stepM q M N) (rsw.getD k rfZ).name = (rsw.getD k rfZ).bytes := by simp only [bytesOf, HM1.out]
            have hS0 : syncedOf (stepM q M N) (rsw.getD k rfZ).name = (rsw.getD k rfZ).synced := by simp only [syncedOf, HM1.out]
            have hnl : (rsw.getD k rfZ).name.length ≤ 9223372036854775807 := nameOk_len HRd.out.2.1
            have H5 : Hid (∀ W', w3.grownBy W' none → Calls Try.prog 21 #[.pointer (some ⟨gd, 0, none⟩), .string (ByteArray.mk ⟨(rsw.getD k rfZ).name⟩)] W' fun e w' => ∃ v, e = .returned (.tuple #[v, .int .i64 0]) ∧ Hid (Rd w' v (rsw.getD k rfZ).bytes ∧ W'.grownBy w' none)) := fun W' hg => by
              refine (read_ok W' Sd' gd N' _ _ hnl (HR.out.2.2.2.keep hg)).mono ?_
              rintro e w' ⟨v, h1, h2, h3⟩
              rw [hE0] at h1
              rw [hB0] at h2
              exact ⟨v, h1, h2.rd, h3⟩
            have H6 : Hid (∀ W', w3.grownBy W' none → Calls Try.prog 22 #[.pointer (some ⟨gd, 0, none⟩), .string (ByteArray.mk ⟨(rsw.getD k rfZ).name⟩)] W' fun e w' => e = .returned (.tuple #[.int .i64 ((rsw.getD k rfZ).bytes.length : Int), .int .i64 ((rsw.getD k rfZ).synced : Int), .int .i64 0]) ∧ Hid (W'.grownBy w' none)) := fun W' hg => by
              refine (size_ok W' Sd' gd N' _ _ hnl (HR.out.2.2.2.keep hg)).mono ?_
              rintro e w' ⟨h1, h2⟩
              rw [hE0, hB0, hS0] at h1
              exact ⟨h1, h2⟩
            have HRw : Hid (Rd wr (.slice fa (rsw.getD k rfZ).bytes.length fc) (rsw.getD k rfZ).bytes) := HRd.out.1.keep HK.out
            clear HMk hE0 hB0 hS0 hnl HQ1 HQ2 HRd
            generalize (rsw.getD k rfZ).bytes = fb at *
            generalize (rsw.getD k rfZ).synced = fz at *
            generalize hq2' : ByteArray.mk ⟨(rsw.getD k rfZ).name⟩ = sk at *
            clear hq2' HM1
            have hgA : wr.grownBy (wr.alloc (.cells #[.string sk, .slice fa fb.length fc, .int .i64 (fz : Int)] 56)) none := World.grownBy_alloc _ _ none
            have hfA := alloc_at wr (.cells #[.string sk, .slice fa fb.length fc, .int .i64 (fz : Int)] 56)
            have m0 : (wr.alloc (.cells #[.string sk, .slice fa fb.length fc, .int .i64 (fz : Int)] 56)).cell? ⟨wr.heap.size, 0, none⟩ = some (.string sk) := by simp only [World.cell?, hfA]; rfl
            have m1 : (wr.alloc (.cells #[.string sk, .slice fa fb.length fc, .int .i64 (fz : Int)] 56)).cell? ⟨wr.heap.size, 1, none⟩ = some (.slice fa fb.length fc) := by simp only [World.cell?, hfA]; rfl
            have m2 : (wr.alloc (.cells #[.string sk, .slice fa fb.length fc, .int .i64 (fz : Int)] 56)).cell? ⟨wr.heap.size, 2, none⟩ = some (.int .i64 (fz : Int)) := by simp only [World.cell?, hfA]; rfl
            have HM := hid_mk' (And.intro hgA (And.intro m0 (And.intro m1 m2)))
            clear hgA hfA m0 m1 m2
            go_wp2_with fail
            refine (H5.out _ (gb_none HK.out HM.out.1)).mono ?_
            rintro e w5 ⟨v5, rfl, H7⟩
            have n0 := cell_keep HM.out.2.1 H7.out.2
            have n1 := cell_keep HM.out.2.2.1 H7.out.2
            have n2 := cell_keep HM.out.2.2.2 H7.out.2
            go_wp2_with fail
            refine (H6.out _ (gb_none (gb_none HK.out HM.out.1) H7.out.2)).mono ?_
            rintro e w6 ⟨rfl, H8⟩
            have r1 := cell_keep n1 H8.out
            have r2 := cell_keep n2 H8.out
            have HS : Hid (Calls Try.prog 23 #[v5, .slice fa fb.length fc] w6 fun e w' => e = .returned (.bool true) ∧ w6.grownBy w' none) := by
              have := same_any v5 (.slice fa fb.length fc) fb fb w6 (H7.out.1.keep H8.out) (((HRw.out.keep HM.out.1).keep H7.out.2).keep H8.out)
              rw [decide_eq_true rfl] at this
              exact this
            have HGG := hid_mk' (gb_none (gb_none (gb_none HK.out HM.out.1) H7.out.2) H8.out)
            clear n0 n1 n2 H5 H6 H7 H8 HM HRw p0 p1 p2 k0 k1' k2'
            go_wp2_with fail
            refine HS.out.mono ?_
            rintro e w7 ⟨rfl, hg7⟩
            have r3 := cell_keep r2 hg7
            have HGH := hid_mk' (gb_none HGG.out hg7)
            clear hg7 r1 r2
            go_wp2
            go_roundw
            case rel => exact ⟨k + 1, by omega, by go_num, HGH⟩
            case measure => simp [intOf]; omega

      · have hkl2 : ¬ (k : Int) < (Lw : Int) := by omega
        have HFin : Hid (∀ w8 : World, wr.grownBy w8 none → Below w.heap.size w w8) := fun w8 h => gb_below (gb_none (gb_none HG3.out HK.out) h)
        go_wp2_with fail
        refine (known_any _).mono ?_
        rintro e w8 ⟨rfl, hg8⟩
        have H8 := hid_mk' (HFin.out w8 hg8)
        clear hg8
        go_wp2
        go_ret
        exact ⟨rfl, H8.out⟩

  · skip
    have HT : Hid (∃ M N, Calls Try.prog 11 #[.pointer (some ⟨gr, 0, none⟩)] (w1.setCell ⟨w.heap.size, 0, none⟩ (.int .i64 0)) fun e w2 => ∃ gc, e = .returned (.pointer (some ⟨gc, 0, none⟩)) ∧ Hid (w2.heap[w.heap.size]? = some (.cells #[.int .i64 0, .string s, .string s2, vB, .int .i64 n, vK] 34) ∧ Calls Try.prog 12 #[.pointer (some ⟨gd, 0, none⟩), .pointer (some ⟨gr, 0, none⟩), .agg #[.int .i64 0, .string s, .string s2, vB, .int .i64 n, vK]] w2 fun e w3 => e = .returned (.bool true) ∧ Hid (w3.heap[w.heap.size]? = some (.cells #[.int .i64 0, .string s, .string s2, vB, .int .i64 n, vK] 34) ∧ w.grownBy w3 none ∧ (∃ Sd' N', DiskOK w3 Sd' gd (stepM ⟨0, nm, to, bs, n, ks⟩ M N) N') ∧ ∃ T vw rsw, RefW w3 T gc vw rsw ∧ ∀ l, M l = lkR rsw l))) := by
      obtain ⟨M, N, Sd, Sr, h⟩ := HD.out
      have hz := HG.out.2
      refine ⟨M, N, ?_⟩
      rw [← HSn.out, ← HSt.out]
      have hcK : Ch w1 (w1.setCell ⟨w.heap.size, 0, none⟩ (.int .i64 0)) (fun k => k = w.heap.size) := Ch.of_gb (gb_set0 w1 w.heap.size 0 _) (fun k hk _ => by cases hk; rfl)
      have hzK := hcK.size
      refine apart_tail w (w1.setCell ⟨w.heap.size, 0, none⟩ (.int .i64 0)) Sd Sr gd gr N M 0 n nm to bs ks vB vK ?_ ⟨h.d.frame hcK (fun k _ hk e => by have := (h.bd k hk).1; omega), h.r.frame hcK (fun k _ hk e => by have := (h.br k hk).1; omega), ((Ch.of_gb (S := fun k => k = w.heap.size) (gb_none HG.out.1 h.g) (fun k hk => by cases hk)).trans hcK (fun _ _ h => h)).gb (fun k hk e => by omega), fun k hk => ⟨by have := (h.bd k hk).1; omega, by have := (h.bd k hk).2.1; omega, (h.bd k hk).2.2⟩, fun k hk => ⟨by have := (h.br k hk).1; omega, by have := (h.br k hk).2; omega⟩⟩ ?_ (fun k hk => ?_)
      · have := HO.out
        rw [← HSn.out, ← HSt.out] at this
        exact OpIn.zero this
      · have := HB1.out
        rw [← HSn.out, ← HSt.out] at this
        simp [World.setCell, Array.getElem?_modify, this]
      · rcases hk with hk | hk
        · have := (h.bd k hk).1; omega
        · have := (h.br k hk).1; omega
    clear HF HV HD HB1 HO HW HG
    obtain ⟨M, N, hT⟩ := HT.out
    have HT2 := hid_mk' hT
    clear hT HT
    go_wp2_with fail
    refine HT2.out.mono ?_
    rintro e w2 ⟨gc, rfl, H2⟩
    have hb2 := H2.out.1
    have q0 : w2.cell? ⟨w.heap.size, 0, none⟩ = some (.int .i64 0) := by simp [World.cell?, hb2]
    have q1 : w2.cell? ⟨w.heap.size, 1, none⟩ = some (.string s) := by simp [World.cell?, hb2]
    have q2 : w2.cell? ⟨w.heap.size, 2, none⟩ = some (.string s2) := by simp [World.cell?, hb2]
    have q3 : w2.cell? ⟨w.heap.size, 3, none⟩ = some vB := by simp [World.cell?, hb2]
    have q4 : w2.cell? ⟨w.heap.size, 4, none⟩ = some (.int .i64 n) := by simp [World.cell?, hb2]
    have q5 : w2.cell? ⟨w.heap.size, 5, none⟩ = some vK := by simp [World.cell?, hb2]
    clear hb2
    go_wp2_with fail
    refine H2.out.2.mono ?_
    rintro e w3 ⟨rfl, H3x⟩
    clear q0 q1 q2 q3 q4 q5 c0 f0 HT2 H2
    obtain ⟨q, hq⟩ : ∃ q : Opm, q = ⟨0, nm, to, bs, n, ks⟩ := ⟨_, rfl⟩
    obtain ⟨KD, hKD⟩ : ∃ KD : Int, KD = 0 := ⟨_, rfl⟩
    have HKE : Hid (KD = q.kind) := by rw [hq]; exact hKD
    have HKd : Hid (0 ≤ q.kind ∧ q.kind ≤ 4) := by rw [hq]; exact ⟨by simp, by simp⟩
    have HQn : Hid (q.name = nm) := by rw [hq]; rfl
    have HQt : Hid (q.to = to) := by rw [hq]; rfl
    have H3 : Hid (w3.heap[w.heap.size]? = some (.cells #[.int .i64 KD, .string s, .string s2, vB, .int .i64 n, vK] 34) ∧ w.grownBy w3 none ∧ (∃ Sd' N', DiskOK w3 Sd' gd (stepM q M N) N') ∧ ∃ T vw rsw, RefW w3 T gc vw rsw ∧ ∀ l, M l = lkR rsw l) := by rw [hKD, hq]; exact H3x.out
    clear H3x hKD hq hkd
    have hb3 := H3.out.1
    obtain ⟨T, vw, rsw, hRw, hMw⟩ := H3.out.2.2.2
    obtain ⟨Sd', N', hDk⟩ := H3.out.2.2.1
    obtain ⟨aw, cw, hvw, -, -⟩ := hRw.shape
    have hbxw : w3.cell? ⟨gc, 0, none⟩ = some (.slice aw rsw.length cw) := by rw [← hvw]; simp [World.cell?, hRw.box]
    have q0 : w3.cell? ⟨w.heap.size, 0, none⟩ = some (.int .i64 KD) := by simp [World.cell?, hb3]
    have q1 : w3.cell? ⟨w.heap.size, 1, none⟩ = some (.string s) := by simp [World.cell?, hb3]
    have q2 : w3.cell? ⟨w.heap.size, 2, none⟩ = some (.string s2) := by simp [World.cell?, hb3]
    have HR := hid_mk' (And.intro hRw (And.intro hMw (And.intro hvw hDk)))
    have hmw := hRw.most
    have HG3 := hid_mk' H3.out.2.1
    clear hb3 hRw hMw hDk H3
    generalize hLw : rsw.length = Lw at *
    have HLw := hid_mk' hLw
    clear hLw hvw
    go_wp2
    go_loopw [8] (fun i wr => ∃ k : Nat, k ≤ Lw ∧ i = .int .i64 (k : Int) ∧ Hid (w3.grownBy wr none)) (fun i _ => Lw - (intOf i).toNat)
    case atStart => exact ⟨0, by omega, rfl, gb_refl _ _⟩
    case round =>
      obtain ⟨k, hk, rfl, HK⟩ := hrel
      have hbx := cell_keep hbxw HK.out
      by_cases hkl : k < Lw
      · have hkl2 : (k : Int) < (Lw : Int) := by omega
        have hk' : k < rsw.length := by rw [HLw.out]; exact hkl
        obtain ⟨g, cap, hv, -, -, hcells⟩ := HR.out.1.cells (by intro e; rw [e] at hk'; simp at hk')
        have hv2 : aw = some ⟨g, 0, none⟩ := by have := HR.out.2.2.1; rw [hv] at this; simp at this; exact this.1.symm
        subst hv2
        obtain ⟨c0, c1, c2⟩ := hcells k hk'
        obtain ⟨fa, fc, hval⟩ : ∃ a1 d1, (rsw.getD k rfZ).val = .slice a1 (rsw.getD k rfZ).bytes.length d1 := by obtain ⟨⟨a, c, e, _⟩, _⟩ := HR.out.1.each _ (getD_mem hk'); exact ⟨a, c, e⟩
        have hrd := (HR.out.1.each _ (getD_mem hk')).1
        have hfit := HR.out.1.fits _ (getD_mem hk')
        rw [hval] at c1 hrd
        have k0 := cell_keep c0 HK.out
        have k1' := cell_keep c1 HK.out
        have k2' := cell_keep c2 HK.out
        have p0 : ∀ o, (wr.alloc o).cell? ⟨w.heap.size, 0, none⟩ = _ := fun o => cell_keep (cell_keep q0 HK.out) (World.grownBy_alloc _ _ none)
        have p1 : ∀ o, (wr.alloc o).cell? ⟨w.heap.size, 1, none⟩ = _ := fun o => cell_keep (cell_keep q1 HK.out) (World.grownBy_alloc _ _ none)
        have p2 : ∀ o, (wr.alloc o).cell? ⟨w.heap.size, 2, none⟩ = _ := fun o => cell_keep (cell_keep q2 HK.out) (World.grownBy_alloc _ _ none)
        have HMk : Hid (M (rsw.getD k rfZ).name = some ((rsw.getD k rfZ).bytes, (rsw.getD k rfZ).synced)) := by
          show M (rsw.getD k rfZ).name = _
          rw [HR.out.2.1]
          have hsp := split_at hk'
          have hs := HR.out.1.srt
          rw [hsp] at hs
          conv => lhs; arg 1; rw [hsp]
          rw [lkR_mid hs, if_pos rfl]
        have HQ1 : Hid (∀ sk, ByteArray.mk ⟨(rsw.getD k rfZ).name⟩ = sk → (sk.toList == s.toList) = decide ((rsw.getD k rfZ).name = nm)) := fun sk h => by rw [← h, ← HSn.out]; exact str_eq _ _
        have HQ2 : Hid (∀ sk, ByteArray.mk ⟨(rsw.getD k rfZ).name⟩ = sk → (sk.toList == s2.toList) = decide ((rsw.getD k rfZ).name = to)) := fun sk h => by rw [← h, ← HSt.out]; exact str_eq _ _
        have HRd := hid_mk' (And.intro hrd hfit)
        clear hcells hv c0 c1 c2 hval hrd hfit hk'
        by_cases hA : (rsw.getD k rfZ).name = nm
        · have hq := HQ1.out
          rw [decide_eq_true hA] at hq
          clear HMk HQ1 HQ2 HRd
          generalize (rsw.getD k rfZ).bytes = fb at *
          generalize (rsw.getD k rfZ).synced = fz at *
          generalize ByteArray.mk ⟨(rsw.getD k rfZ).name⟩ = sk at *
          have hq2 := hq sk rfl
          clear hq
          go_wp2
          go_roundw
          case rel => exact ⟨k + 1, by omega, by go_num, gb_none HK.out (World.grownBy_alloc _ _ none)⟩
          case measure => simp [intOf]; omega
        · have hqa := HQ1.out _ rfl
          rw [decide_eq_false hA] at hqa
          by_cases hk3 : KD = 3
          · by_cases hT : (rsw.getD k rfZ).name = to
            · have hqb := HQ2.out _ rfl
              rw [decide_eq_true hT] at hqb
              clear HMk HQ1 HQ2 HRd
              generalize (rsw.getD k rfZ).bytes = fb at *
              generalize (rsw.getD k rfZ).synced = fz at *
              generalize ByteArray.mk ⟨(rsw.getD k rfZ).name⟩ = sk at *
              have hk33 : (KD == 3) = true := by simpa using hk3
              go_wp2
              go_roundw
              case rel => exact ⟨k + 1, by omega, by go_num, gb_none HK.out (World.grownBy_alloc _ _ none)⟩
              case measure => simp [intOf]; omega
            · have hqb := HQ2.out _ rfl
              rw [decide_eq_false hT] at hqb
              have hB : q.kind = 3 → (rsw.getD k rfZ).name ≠ q.to := fun _ => by rw [HQt.out]; exact hT
              have hk33 : (KD == 3) = true := by simpa using hk3
              have HM1 : Hid (stepM q M N (rsw.getD k rfZ).name = some ((rsw.getD k rfZ).bytes, (rsw.getD k rfZ).synced)) := by
                show stepM q M N (rsw.getD k rfZ).name = _
                rw [stepM_other q M N _ HKd.out (by rw [HQn.out]; exact hA) hB]
                exact HMk.out
              have hE0 := findE_zero HM1.out HRd.out.2.1
              have hB0 : bytesOf (stepM q M N) (rsw.getD k rfZ).name = (rsw.getD k rfZ).bytes := by simp only [bytesOf, HM1.out]
              have hS0 : syncedOf (stepM q M N) (rsw.getD k rfZ).name = (rsw.getD k rfZ).synced := by simp only [syncedOf, HM1.out]
              have hnl : (rsw.getD k rfZ).name.length ≤ 9223372036854775807 := nameOk_len HRd.out.2.1
              have H5 : Hid (∀ W', w3.grownBy W' none → Calls Try.prog 21 #[.pointer (some ⟨gd, 0, none⟩), .string (ByteArray.mk ⟨(rsw.getD k rfZ).name⟩)] W' fun e w' => ∃ v, e = .returned (.tuple #[v, .int .i64 0]) ∧ Hid (Rd w' v (rsw.getD k rfZ).bytes ∧ W'.grownBy w' none)) := fun W' hg => by
                refine (read_ok W' Sd' gd N' _ _ hnl (HR.out.2.2.2.keep hg)).mono ?_
                rintro e w' ⟨v, h1, h2, h3⟩
                rw [hE0] at h1
                rw [hB0] at h2
                exact ⟨v, h1, h2.rd, h3⟩
              have H6 : Hid (∀ W', w3.grownBy W' none → Calls Try.prog 22 #[.pointer (some ⟨gd, 0, none⟩), .string (ByteArray.mk ⟨(rsw.getD k rfZ).name⟩)] W' fun e w' => e = .returned (.tuple #[.int .i64 ((rsw.getD k rfZ).bytes.length : Int), .int .i64 ((rsw.getD k rfZ).synced : Int), .int .i64 0]) ∧ Hid (W'.grownBy w' none)) := fun W' hg => by
                refine (size_ok W' Sd' gd N' _ _ hnl (HR.out.2.2.2.keep hg)).mono ?_
                rintro e w' ⟨h1, h2⟩
                rw [hE0, hB0, hS0] at h1
                exact ⟨h1, h2⟩
              have HRw : Hid (Rd wr (.slice fa (rsw.getD k rfZ).bytes.length fc) (rsw.getD k rfZ).bytes) := HRd.out.1.keep HK.out
              clear HMk hE0 hB0 hS0 hnl HQ1 HQ2 HRd
              generalize (rsw.getD k rfZ).bytes = fb at *
              generalize (rsw.getD k rfZ).synced = fz at *
              generalize hq2' : ByteArray.mk ⟨(rsw.getD k rfZ).name⟩ = sk at *
              clear hq2' HM1
              have hgA : wr.grownBy (wr.alloc (.cells #[.string sk, .slice fa fb.length fc, .int .i64 (fz : Int)] 56)) none := World.grownBy_alloc _ _ none
              have hfA := alloc_at wr (.cells #[.string sk, .slice fa fb.length fc, .int .i64 (fz : Int)] 56)
              have m0 : (wr.alloc (.cells #[.string sk, .slice fa fb.length fc, .int .i64 (fz : Int)] 56)).cell? ⟨wr.heap.size, 0, none⟩ = some (.string sk) := by simp only [World.cell?, hfA]; rfl
              have m1 : (wr.alloc (.cells #[.string sk, .slice fa fb.length fc, .int .i64 (fz : Int)] 56)).cell? ⟨wr.heap.size, 1, none⟩ = some (.slice fa fb.length fc) := by simp only [World.cell?, hfA]; rfl
              have m2 : (wr.alloc (.cells #[.string sk, .slice fa fb.length fc, .int .i64 (fz : Int)] 56)).cell? ⟨wr.heap.size, 2, none⟩ = some (.int .i64 (fz : Int)) := by simp only [World.cell?, hfA]; rfl
              have HM := hid_mk' (And.intro hgA (And.intro m0 (And.intro m1 m2)))
              clear hgA hfA m0 m1 m2
              go_wp2_with fail
              refine (H5.out _ (gb_none HK.out HM.out.1)).mono ?_
              rintro e w5 ⟨v5, rfl, H7⟩
              have n0 := cell_keep HM.out.2.1 H7.out.2
              have n1 := cell_keep HM.out.2.2.1 H7.out.2
              have n2 := cell_keep HM.out.2.2.2 H7.out.2
              go_wp2_with fail
              refine (H6.out _ (gb_none (gb_none HK.out HM.out.1) H7.out.2)).mono ?_
              rintro e w6 ⟨rfl, H8⟩
              have r1 := cell_keep n1 H8.out
              have r2 := cell_keep n2 H8.out
              have HS : Hid (Calls Try.prog 23 #[v5, .slice fa fb.length fc] w6 fun e w' => e = .returned (.bool true) ∧ w6.grownBy w' none) := by
                have := same_any v5 (.slice fa fb.length fc) fb fb w6 (H7.out.1.keep H8.out) (((HRw.out.keep HM.out.1).keep H7.out.2).keep H8.out)
                rw [decide_eq_true rfl] at this
                exact this
              have HGG := hid_mk' (gb_none (gb_none (gb_none HK.out HM.out.1) H7.out.2) H8.out)
              clear n0 n1 n2 H5 H6 H7 H8 HM HRw p0 p1 p2 k0 k1' k2'
              go_wp2_with fail
              refine HS.out.mono ?_
              rintro e w7 ⟨rfl, hg7⟩
              have r3 := cell_keep r2 hg7
              have HGH := hid_mk' (gb_none HGG.out hg7)
              clear hg7 r1 r2
              go_wp2
              go_roundw
              case rel => exact ⟨k + 1, by omega, by go_num, HGH⟩
              case measure => simp [intOf]; omega

          · have hB : q.kind = 3 → (rsw.getD k rfZ).name ≠ q.to := fun e => absurd (HKE.out.trans e) hk3
            have hk33 : (KD == 3) = false := by simpa using hk3
            have HM1 : Hid (stepM q M N (rsw.getD k rfZ).name = some ((rsw.getD k rfZ).bytes, (rsw.getD k rfZ).synced)) := by
              show stepM q M N (rsw.getD k rfZ).name = _
              rw [stepM_other q M N _ HKd.out (by rw [HQn.out]; exact hA) hB]
              exact HMk.out
            have hE0 := findE_zero HM1.out HRd.out.2.1
            have hB0 : bytesOf (stepM q M N) (rsw.getD k rfZ).name = (rsw.getD k rfZ).bytes := by simp only [bytesOf, HM1.out]
            have hS0 : syncedOf (stepM q M N) (rsw.getD k rfZ).name = (rsw.getD k rfZ).synced := by simp only [syncedOf, HM1.out]
            have hnl : (rsw.getD k rfZ).name.length ≤ 9223372036854775807 := nameOk_len HRd.out.2.1
            have H5 : Hid (∀ W', w3.grownBy W' none → Calls Try.prog 21 #[.pointer (some ⟨gd, 0, none⟩), .string (ByteArray.mk ⟨(rsw.getD k rfZ).name⟩)] W' fun e w' => ∃ v, e = .returned (.tuple #[v, .int .i64 0]) ∧ Hid (Rd w' v (rsw.getD k rfZ).bytes ∧ W'.grownBy w' none)) := fun W' hg => by
              refine (read_ok W' Sd' gd N' _ _ hnl (HR.out.2.2.2.keep hg)).mono ?_
              rintro e w' ⟨v, h1, h2, h3⟩
              rw [hE0] at h1
              rw [hB0] at h2
              exact ⟨v, h1, h2.rd, h3⟩
            have H6 : Hid (∀ W', w3.grownBy W' none → Calls Try.prog 22 #[.pointer (some ⟨gd, 0, none⟩), .string (ByteArray.mk ⟨(rsw.getD k rfZ).name⟩)] W' fun e w' => e = .returned (.tuple #[.int .i64 ((rsw.getD k rfZ).bytes.length : Int), .int .i64 ((rsw.getD k rfZ).synced : Int), .int .i64 0]) ∧ Hid (W'.grownBy w' none)) := fun W' hg => by
              refine (size_ok W' Sd' gd N' _ _ hnl (HR.out.2.2.2.keep hg)).mono ?_
              rintro e w' ⟨h1, h2⟩
              rw [hE0, hB0, hS0] at h1
              exact ⟨h1, h2⟩
            have HRw : Hid (Rd wr (.slice fa (rsw.getD k rfZ).bytes.length fc) (rsw.getD k rfZ).bytes) := HRd.out.1.keep HK.out
            clear HMk hE0 hB0 hS0 hnl HQ1 HQ2 HRd
            generalize (rsw.getD k rfZ).bytes = fb at *
            generalize (rsw.getD k rfZ).synced = fz at *
            generalize hq2' : ByteArray.mk ⟨(rsw.getD k rfZ).name⟩ = sk at *
            clear hq2' HM1
            have hgA : wr.grownBy (wr.alloc (.cells #[.string sk, .slice fa fb.length fc, .int .i64 (fz : Int)] 56)) none := World.grownBy_alloc _ _ none
            have hfA := alloc_at wr (.cells #[.string sk, .slice fa fb.length fc, .int .i64 (fz : Int)] 56)
            have m0 : (wr.alloc (.cells #[.string sk, .slice fa fb.length fc, .int .i64 (fz : Int)] 56)).cell? ⟨wr.heap.size, 0, none⟩ = some (.string sk) := by simp only [World.cell?, hfA]; rfl
            have m1 : (wr.alloc (.cells #[.string sk, .slice fa fb.length fc, .int .i64 (fz : Int)] 56)).cell? ⟨wr.heap.size, 1, none⟩ = some (.slice fa fb.length fc) := by simp only [World.cell?, hfA]; rfl
            have m2 : (wr.alloc (.cells #[.string sk, .slice fa fb.length fc, .int .i64 (fz : Int)] 56)).cell? ⟨wr.heap.size, 2, none⟩ = some (.int .i64 (fz : Int)) := by simp only [World.cell?, hfA]; rfl
            have HM := hid_mk' (And.intro hgA (And.intro m0 (And.intro m1 m2)))
            clear hgA hfA m0 m1 m2
            go_wp2_with fail
            refine (H5.out _ (gb_none HK.out HM.out.1)).mono ?_
            rintro e w5 ⟨v5, rfl, H7⟩
            have n0 := cell_keep HM.out.2.1 H7.out.2
            have n1 := cell_keep HM.out.2.2.1 H7.out.2
            have n2 := cell_keep HM.out.2.2.2 H7.out.2
            go_wp2_with fail
            refine (H6.out _ (gb_none (gb_none HK.out HM.out.1) H7.out.2)).mono ?_
            rintro e w6 ⟨rfl, H8⟩
            have r1 := cell_keep n1 H8.out
            have r2 := cell_keep n2 H8.out
            have HS : Hid (Calls Try.prog 23 #[v5, .slice fa fb.length fc] w6 fun e w' => e = .returned (.bool true) ∧ w6.grownBy w' none) := by
              have := same_any v5 (.slice fa fb.length fc) fb fb w6 (H7.out.1.keep H8.out) (((HRw.out.keep HM.out.1).keep H7.out.2).keep H8.out)
              rw [decide_eq_true rfl] at this
              exact this
            have HGG := hid_mk' (gb_none (gb_none (gb_none HK.out HM.out.1) H7.out.2) H8.out)
            clear n0 n1 n2 H5 H6 H7 H8 HM HRw p0 p1 p2 k0 k1' k2'
            go_wp2_with fail
            refine HS.out.mono ?_
            rintro e w7 ⟨rfl, hg7⟩
            have r3 := cell_keep r2 hg7
            have HGH := hid_mk' (gb_none HGG.out hg7)
            clear hg7 r1 r2
            go_wp2
            go_roundw
            case rel => exact ⟨k + 1, by omega, by go_num, HGH⟩
            case measure => simp [intOf]; omega

      · have hkl2 : ¬ (k : Int) < (Lw : Int) := by omega
        have HFin : Hid (∀ w8 : World, wr.grownBy w8 none → Below w.heap.size w w8) := fun w8 h => gb_below (gb_none (gb_none HG3.out HK.out) h)
        go_wp2_with fail
        refine (known_any _).mono ?_
        rintro e w8 ⟨rfl, hg8⟩
        have H8 := hid_mk' (HFin.out w8 hg8)
        clear hg8
        go_wp2
        go_ret
        exact ⟨rfl, H8.out⟩

  · skip
    have HT : Hid (∃ M N, Calls Try.prog 11 #[.pointer (some ⟨gr, 0, none⟩)] (w1.setCell ⟨w.heap.size, 0, none⟩ (.int .i64 0)) fun e w2 => ∃ gc, e = .returned (.pointer (some ⟨gc, 0, none⟩)) ∧ Hid (w2.heap[w.heap.size]? = some (.cells #[.int .i64 0, .string s, .string s2, vB, .int .i64 n, vK] 34) ∧ Calls Try.prog 12 #[.pointer (some ⟨gd, 0, none⟩), .pointer (some ⟨gr, 0, none⟩), .agg #[.int .i64 0, .string s, .string s2, vB, .int .i64 n, vK]] w2 fun e w3 => e = .returned (.bool true) ∧ Hid (w3.heap[w.heap.size]? = some (.cells #[.int .i64 0, .string s, .string s2, vB, .int .i64 n, vK] 34) ∧ w.grownBy w3 none ∧ (∃ Sd' N', DiskOK w3 Sd' gd (stepM ⟨0, nm, to, bs, n, ks⟩ M N) N') ∧ ∃ T vw rsw, RefW w3 T gc vw rsw ∧ ∀ l, M l = lkR rsw l))) := by
      obtain ⟨M, N, Sd, Sr, h⟩ := HD.out
      have hz := HG.out.2
      refine ⟨M, N, ?_⟩
      rw [← HSn.out, ← HSt.out]
      have hcK : Ch w1 (w1.setCell ⟨w.heap.size, 0, none⟩ (.int .i64 0)) (fun k => k = w.heap.size) := Ch.of_gb (gb_set0 w1 w.heap.size 0 _) (fun k hk _ => by cases hk; rfl)
      have hzK := hcK.size
      refine apart_tail w (w1.setCell ⟨w.heap.size, 0, none⟩ (.int .i64 0)) Sd Sr gd gr N M 0 n nm to bs ks vB vK ?_ ⟨h.d.frame hcK (fun k _ hk e => by have := (h.bd k hk).1; omega), h.r.frame hcK (fun k _ hk e => by have := (h.br k hk).1; omega), ((Ch.of_gb (S := fun k => k = w.heap.size) (gb_none HG.out.1 h.g) (fun k hk => by cases hk)).trans hcK (fun _ _ h => h)).gb (fun k hk e => by omega), fun k hk => ⟨by have := (h.bd k hk).1; omega, by have := (h.bd k hk).2.1; omega, (h.bd k hk).2.2⟩, fun k hk => ⟨by have := (h.br k hk).1; omega, by have := (h.br k hk).2; omega⟩⟩ ?_ (fun k hk => ?_)
      · have := HO.out
        rw [← HSn.out, ← HSt.out] at this
        exact OpIn.zero this
      · have := HB1.out
        rw [← HSn.out, ← HSt.out] at this
        simp [World.setCell, Array.getElem?_modify, this]
      · rcases hk with hk | hk
        · have := (h.bd k hk).1; omega
        · have := (h.br k hk).1; omega
    clear HF HV HD HB1 HO HW HG
    obtain ⟨M, N, hT⟩ := HT.out
    have HT2 := hid_mk' hT
    clear hT HT
    go_wp2_with fail
    refine HT2.out.mono ?_
    rintro e w2 ⟨gc, rfl, H2⟩
    have hb2 := H2.out.1
    have q0 : w2.cell? ⟨w.heap.size, 0, none⟩ = some (.int .i64 0) := by simp [World.cell?, hb2]
    have q1 : w2.cell? ⟨w.heap.size, 1, none⟩ = some (.string s) := by simp [World.cell?, hb2]
    have q2 : w2.cell? ⟨w.heap.size, 2, none⟩ = some (.string s2) := by simp [World.cell?, hb2]
    have q3 : w2.cell? ⟨w.heap.size, 3, none⟩ = some vB := by simp [World.cell?, hb2]
    have q4 : w2.cell? ⟨w.heap.size, 4, none⟩ = some (.int .i64 n) := by simp [World.cell?, hb2]
    have q5 : w2.cell? ⟨w.heap.size, 5, none⟩ = some vK := by simp [World.cell?, hb2]
    clear hb2
    go_wp2_with fail
    refine H2.out.2.mono ?_
    rintro e w3 ⟨rfl, H3x⟩
    clear q0 q1 q2 q3 q4 q5 c0 f0 HT2 H2
    obtain ⟨q, hq⟩ : ∃ q : Opm, q = ⟨0, nm, to, bs, n, ks⟩ := ⟨_, rfl⟩
    obtain ⟨KD, hKD⟩ : ∃ KD : Int, KD = 0 := ⟨_, rfl⟩
    have HKE : Hid (KD = q.kind) := by rw [hq]; exact hKD
    have HKd : Hid (0 ≤ q.kind ∧ q.kind ≤ 4) := by rw [hq]; exact ⟨by simp, by simp⟩
    have HQn : Hid (q.name = nm) := by rw [hq]; rfl
    have HQt : Hid (q.to = to) := by rw [hq]; rfl
    have H3 : Hid (w3.heap[w.heap.size]? = some (.cells #[.int .i64 KD, .string s, .string s2, vB, .int .i64 n, vK] 34) ∧ w.grownBy w3 none ∧ (∃ Sd' N', DiskOK w3 Sd' gd (stepM q M N) N') ∧ ∃ T vw rsw, RefW w3 T gc vw rsw ∧ ∀ l, M l = lkR rsw l) := by rw [hKD, hq]; exact H3x.out
    clear H3x hKD hq hkd k2
    have hb3 := H3.out.1
    obtain ⟨T, vw, rsw, hRw, hMw⟩ := H3.out.2.2.2
    obtain ⟨Sd', N', hDk⟩ := H3.out.2.2.1
    obtain ⟨aw, cw, hvw, -, -⟩ := hRw.shape
    have hbxw : w3.cell? ⟨gc, 0, none⟩ = some (.slice aw rsw.length cw) := by rw [← hvw]; simp [World.cell?, hRw.box]
    have q0 : w3.cell? ⟨w.heap.size, 0, none⟩ = some (.int .i64 KD) := by simp [World.cell?, hb3]
    have q1 : w3.cell? ⟨w.heap.size, 1, none⟩ = some (.string s) := by simp [World.cell?, hb3]
    have q2 : w3.cell? ⟨w.heap.size, 2, none⟩ = some (.string s2) := by simp [World.cell?, hb3]
    have HR := hid_mk' (And.intro hRw (And.intro hMw (And.intro hvw hDk)))
    have hmw := hRw.most
    have HG3 := hid_mk' H3.out.2.1
    clear hb3 hRw hMw hDk H3
    generalize hLw : rsw.length = Lw at *
    have HLw := hid_mk' hLw
    clear hLw hvw
    go_wp2
    go_loopw [8] (fun i wr => ∃ k : Nat, k ≤ Lw ∧ i = .int .i64 (k : Int) ∧ Hid (w3.grownBy wr none)) (fun i _ => Lw - (intOf i).toNat)
    case atStart => exact ⟨0, by omega, rfl, gb_refl _ _⟩
    case round =>
      obtain ⟨k, hk, rfl, HK⟩ := hrel
      have hbx := cell_keep hbxw HK.out
      by_cases hkl : k < Lw
      · have hkl2 : (k : Int) < (Lw : Int) := by omega
        have hk' : k < rsw.length := by rw [HLw.out]; exact hkl
        obtain ⟨g, cap, hv, -, -, hcells⟩ := HR.out.1.cells (by intro e; rw [e] at hk'; simp at hk')
        have hv2 : aw = some ⟨g, 0, none⟩ := by have := HR.out.2.2.1; rw [hv] at this; simp at this; exact this.1.symm
        subst hv2
        obtain ⟨c0, c1, c2⟩ := hcells k hk'
        obtain ⟨fa, fc, hval⟩ : ∃ a1 d1, (rsw.getD k rfZ).val = .slice a1 (rsw.getD k rfZ).bytes.length d1 := by obtain ⟨⟨a, c, e, _⟩, _⟩ := HR.out.1.each _ (getD_mem hk'); exact ⟨a, c, e⟩
        have hrd := (HR.out.1.each _ (getD_mem hk')).1
        have hfit := HR.out.1.fits _ (getD_mem hk')
        rw [hval] at c1 hrd
        have k0 := cell_keep c0 HK.out
        have k1' := cell_keep c1 HK.out
        have k2' := cell_keep c2 HK.out
        have p0 : ∀ o, (wr.alloc o).cell? ⟨w.heap.size, 0, none⟩ = _ := fun o => cell_keep (cell_keep q0 HK.out) (World.grownBy_alloc _ _ none)
        have p1 : ∀ o, (wr.alloc o).cell? ⟨w.heap.size, 1, none⟩ = _ := fun o => cell_keep (cell_keep q1 HK.out) (World.grownBy_alloc _ _ none)
        have p2 : ∀ o, (wr.alloc o).cell? ⟨w.heap.size, 2, none⟩ = _ := fun o => cell_keep (cell_keep q2 HK.out) (World.grownBy_alloc _ _ none)
        have HMk : Hid (M (rsw.getD k rfZ).name = some ((rsw.getD k rfZ).bytes, (rsw.getD k rfZ).synced)) := by
          show M (rsw.getD k rfZ).name = _
          rw [HR.out.2.1]
          have hsp := split_at hk'
          have hs := HR.out.1.srt
          rw [hsp] at hs
          conv => lhs; arg 1; rw [hsp]
          rw [lkR_mid hs, if_pos rfl]
        have HQ1 : Hid (∀ sk, ByteArray.mk ⟨(rsw.getD k rfZ).name⟩ = sk → (sk.toList == s.toList) = decide ((rsw.getD k rfZ).name = nm)) := fun sk h => by rw [← h, ← HSn.out]; exact str_eq _ _
        have HQ2 : Hid (∀ sk, ByteArray.mk ⟨(rsw.getD k rfZ).name⟩ = sk → (sk.toList == s2.toList) = decide ((rsw.getD k rfZ).name = to)) := fun sk h => by rw [← h, ← HSt.out]; exact str_eq _ _
        have HRd := hid_mk' (And.intro hrd hfit)
        clear hcells hv c0 c1 c2 hval hrd hfit hk'
        by_cases hA : (rsw.getD k rfZ).name = nm
        · have hq := HQ1.out
          rw [decide_eq_true hA] at hq
          clear HMk HQ1 HQ2 HRd
          generalize (rsw.getD k rfZ).bytes = fb at *
          generalize (rsw.getD k rfZ).synced = fz at *
          generalize ByteArray.mk ⟨(rsw.getD k rfZ).name⟩ = sk at *
          have hq2 := hq sk rfl
          clear hq
          go_wp2
          go_roundw
          case rel => exact ⟨k + 1, by omega, by go_num, gb_none HK.out (World.grownBy_alloc _ _ none)⟩
          case measure => simp [intOf]; omega
        · have hqa := HQ1.out _ rfl
          rw [decide_eq_false hA] at hqa
          by_cases hk3 : KD = 3
          · by_cases hT : (rsw.getD k rfZ).name = to
            · have hqb := HQ2.out _ rfl
              rw [decide_eq_true hT] at hqb
              clear HMk HQ1 HQ2 HRd
              generalize (rsw.getD k rfZ).bytes = fb at *
              generalize (rsw.getD k rfZ).synced = fz at *
              generalize ByteArray.mk ⟨(rsw.getD k rfZ).name⟩ = sk at *
              have hk33 : (KD == 3) = true := by simpa using hk3
              go_wp2
              go_roundw
              case rel => exact ⟨k + 1, by omega, by go_num, gb_none HK.out (World.grownBy_alloc _ _ none)⟩
              case measure => simp [intOf]; omega
            · have hqb := HQ2.out _ rfl
              rw [decide_eq_false hT] at hqb
              have hB : q.kind = 3 → (rsw.getD k rfZ).name ≠ q.to := fun _ => by rw [HQt.out]; exact hT
              have hk33 : (KD == 3) = true := by simpa using hk3
              have HM1 : Hid (stepM q M N (rsw.getD k rfZ).name = some ((rsw.getD k rfZ).bytes, (rsw.getD k rfZ).synced)) := by
                show stepM q M N (rsw.getD k rfZ).name = _
                rw [stepM_other q M N _ HKd.out (by rw [HQn.out]; exact hA) hB]
                exact HMk.out
              have hE0 := findE_zero HM1.out HRd.out.2.1
              have hB0 : bytesOf (stepM q M N) (rsw.getD k rfZ).name = (rsw.getD k rfZ).bytes := by simp only [bytesOf, HM1.out]
              have hS0 : syncedOf (stepM q M N) (rsw.getD k rfZ).name = (rsw.getD k rfZ).synced := by simp only [syncedOf, HM1.out]
              have hnl : (rsw.getD k rfZ).name.length ≤ 9223372036854775807 := nameOk_len HRd.out.2.1
              have H5 : Hid (∀ W', w3.grownBy W' none → Calls Try.prog 21 #[.pointer (some ⟨gd, 0, none⟩), .string (ByteArray.mk ⟨(rsw.getD k rfZ).name⟩)] W' fun e w' => ∃ v, e = .returned (.tuple #[v, .int .i64 0]) ∧ Hid (Rd w' v (rsw.getD k rfZ).bytes ∧ W'.grownBy w' none)) := fun W' hg => by
                refine (read_ok W' Sd' gd N' _ _ hnl (HR.out.2.2.2.keep hg)).mono ?_
                rintro e w' ⟨v, h1, h2, h3⟩
                rw [hE0] at h1
                rw [hB0] at h2
                exact ⟨v, h1, h2.rd, h3⟩
              have H6 : Hid (∀ W', w3.grownBy W' none → Calls Try.prog 22 #[.pointer (some ⟨gd, 0, none⟩), .string (ByteArray.mk ⟨(rsw.getD k rfZ).name⟩)] W' fun e w' => e = .returned (.tuple #[.int .i64 ((rsw.getD k rfZ).bytes.length : Int), .int .i64 ((rsw.getD k rfZ).synced : Int), .int .i64 0]) ∧ Hid (W'.grownBy w' none)) := fun W' hg => by
                refine (size_ok W' Sd' gd N' _ _ hnl (HR.out.2.2.2.keep hg)).mono ?_
                rintro e w' ⟨h1, h2⟩
                rw [hE0, hB0, hS0] at h1
                exact ⟨h1, h2⟩
              have HRw : Hid (Rd wr (.slice fa (rsw.getD k rfZ).bytes.length fc) (rsw.getD k rfZ).bytes) := HRd.out.1.keep HK.out
              clear HMk hE0 hB0 hS0 hnl HQ1 HQ2 HRd
              generalize (rsw.getD k rfZ).bytes = fb at *
              generalize (rsw.getD k rfZ).synced = fz at *
              generalize hq2' : ByteArray.mk ⟨(rsw.getD k rfZ).name⟩ = sk at *
              clear hq2' HM1
              have hgA : wr.grownBy (wr.alloc (.cells #[.string sk, .slice fa fb.length fc, .int .i64 (fz : Int)] 56)) none := World.grownBy_alloc _ _ none
              have hfA := alloc_at wr (.cells #[.string sk, .slice fa fb.length fc, .int .i64 (fz : Int)] 56)
              have m0 : (wr.alloc (.cells #[.string sk, .slice fa fb.length fc, .int .i64 (fz : Int)] 56)).cell? ⟨wr.heap.size, 0, none⟩ = some (.string sk) := by simp only [World.cell?, hfA]; rfl
              have m1 : (wr.alloc (.cells #[.string sk, .slice fa fb.length fc, .int .i64 (fz : Int)] 56)).cell? ⟨wr.heap.size, 1, none⟩ = some (.slice fa fb.length fc) := by simp only [World.cell?, hfA]; rfl
              have m2 : (wr.alloc (.cells #[.string sk, .slice fa fb.length fc, .int .i64 (fz : Int)] 56)).cell? ⟨wr.heap.size, 2, none⟩ = some (.int .i64 (fz : Int)) := by simp only [World.cell?, hfA]; rfl
              have HM := hid_mk' (And.intro hgA (And.intro m0 (And.intro m1 m2)))
              clear hgA hfA m0 m1 m2
              go_wp2_with fail
              refine (H5.out _ (gb_none HK.out HM.out.1)).mono ?_
              rintro e w5 ⟨v5, rfl, H7⟩
              have n0 := cell_keep HM.out.2.1 H7.out.2
              have n1 := cell_keep HM.out.2.2.1 H7.out.2
              have n2 := cell_keep HM.out.2.2.2 H7.out.2
              go_wp2_with fail
              refine (H6.out _ (gb_none (gb_none HK.out HM.out.1) H7.out.2)).mono ?_
              rintro e w6 ⟨rfl, H8⟩
              have r1 := cell_keep n1 H8.out
              have r2 := cell_keep n2 H8.out
              have HS : Hid (Calls Try.prog 23 #[v5, .slice fa fb.length fc] w6 fun e w' => e = .returned (.bool true) ∧ w6.grownBy w' none) := by
                have := same_any v5 (.slice fa fb.length fc) fb fb w6 (H7.out.1.keep H8.out) (((HRw.out.keep HM.out.1).keep H7.out.2).keep H8.out)
                rw [decide_eq_true rfl] at this
                exact this
              have HGG := hid_mk' (gb_none (gb_none (gb_none HK.out HM.out.1) H7.out.2) H8.out)
              clear n0 n1 n2 H5 H6 H7 H8 HM HRw p0 p1 p2 k0 k1' k2'
              go_wp2_with fail
              refine HS.out.mono ?_
              rintro e w7 ⟨rfl, hg7⟩
              have r3 := cell_keep r2 hg7
              have HGH := hid_mk' (gb_none HGG.out hg7)
              clear hg7 r1 r2
              go_wp2
              go_roundw
              case rel => exact ⟨k + 1, by omega, by go_num, HGH⟩
              case measure => simp [intOf]; omega

          · have hB : q.kind = 3 → (rsw.getD k rfZ).name ≠ q.to := fun e => absurd (HKE.out.trans e) hk3
            have hk33 : (KD == 3) = false := by simpa using hk3
            have HM1 : Hid (stepM q M N (rsw.getD k rfZ).name = some ((rsw.getD k rfZ).bytes, (rsw.getD k rfZ).synced)) := by
              show stepM q M N (rsw.getD k rfZ).name = _
              rw [stepM_other q M N _ HKd.out (by rw [HQn.out]; exact hA) hB]
              exact HMk.out
            have hE0 := findE_zero HM1.out HRd.out.2.1
            have hB0 : bytesOf (stepM q M N) (rsw.getD k rfZ).name = (rsw.getD k rfZ).bytes := by simp only [bytesOf, HM1.out]
            have hS0 : syncedOf (stepM q M N) (rsw.getD k rfZ).name = (rsw.getD k rfZ).synced := by simp only [syncedOf, HM1.out]
            have hnl : (rsw.getD k rfZ).name.length ≤ 9223372036854775807 := nameOk_len HRd.out.2.1
            have H5 : Hid (∀ W', w3.grownBy W' none → Calls Try.prog 21 #[.pointer (some ⟨gd, 0, none⟩), .string (ByteArray.mk ⟨(rsw.getD k rfZ).name⟩)] W' fun e w' => ∃ v, e = .returned (.tuple #[v, .int .i64 0]) ∧ Hid (Rd w' v (rsw.getD k rfZ).bytes ∧ W'.grownBy w' none)) := fun W' hg => by
              refine (read_ok W' Sd' gd N' _ _ hnl (HR.out.2.2.2.keep hg)).mono ?_
              rintro e w' ⟨v, h1, h2, h3⟩
              rw [hE0] at h1
              rw [hB0] at h2
              exact ⟨v, h1, h2.rd, h3⟩
            have H6 : Hid (∀ W', w3.grownBy W' none → Calls Try.prog 22 #[.pointer (some ⟨gd, 0, none⟩), .string (ByteArray.mk ⟨(rsw.getD k rfZ).name⟩)] W' fun e w' => e = .returned (.tuple #[.int .i64 ((rsw.getD k rfZ).bytes.length : Int), .int .i64 ((rsw.getD k rfZ).synced : Int), .int .i64 0]) ∧ Hid (W'.grownBy w' none)) := fun W' hg => by
              refine (size_ok W' Sd' gd N' _ _ hnl (HR.out.2.2.2.keep hg)).mono ?_
              rintro e w' ⟨h1, h2⟩
              rw [hE0, hB0, hS0] at h1
              exact ⟨h1, h2⟩
            have HRw : Hid (Rd wr (.slice fa (rsw.getD k rfZ).bytes.length fc) (rsw.getD k rfZ).bytes) := HRd.out.1.keep HK.out
            clear HMk hE0 hB0 hS0 hnl HQ1 HQ2 HRd
            generalize (rsw.getD k rfZ).bytes = fb at *
            generalize (rsw.getD k rfZ).synced = fz at *
            generalize hq2' : ByteArray.mk ⟨(rsw.getD k rfZ).name⟩ = sk at *
            clear hq2' HM1
            have hgA : wr.grownBy (wr.alloc (.cells #[.string sk, .slice fa fb.length fc, .int .i64 (fz : Int)] 56)) none := World.grownBy_alloc _ _ none
            have hfA := alloc_at wr (.cells #[.string sk, .slice fa fb.length fc, .int .i64 (fz : Int)] 56)
            have m0 : (wr.alloc (.cells #[.string sk, .slice fa fb.length fc, .int .i64 (fz : Int)] 56)).cell? ⟨wr.heap.size, 0, none⟩ = some (.string sk) := by simp only [World.cell?, hfA]; rfl
            have m1 : (wr.alloc (.cells #[.string sk, .slice fa fb.length fc, .int .i64 (fz : Int)] 56)).cell? ⟨wr.heap.size, 1, none⟩ = some (.slice fa fb.length fc) := by simp only [World.cell?, hfA]; rfl
            have m2 : (wr.alloc (.cells #[.string sk, .slice fa fb.length fc, .int .i64 (fz : Int)] 56)).cell? ⟨wr.heap.size, 2, none⟩ = some (.int .i64 (fz : Int)) := by simp only [World.cell?, hfA]; rfl
            have HM := hid_mk' (And.intro hgA (And.intro m0 (And.intro m1 m2)))
            clear hgA hfA m0 m1 m2
            go_wp2_with fail
            refine (H5.out _ (gb_none HK.out HM.out.1)).mono ?_
            rintro e w5 ⟨v5, rfl, H7⟩
            have n0 := cell_keep HM.out.2.1 H7.out.2
            have n1 := cell_keep HM.out.2.2.1 H7.out.2
            have n2 := cell_keep HM.out.2.2.2 H7.out.2
            go_wp2_with fail
            refine (H6.out _ (gb_none (gb_none HK.out HM.out.1) H7.out.2)).mono ?_
            rintro e w6 ⟨rfl, H8⟩
            have r1 := cell_keep n1 H8.out
            have r2 := cell_keep n2 H8.out
            have HS : Hid (Calls Try.prog 23 #[v5, .slice fa fb.length fc] w6 fun e w' => e = .returned (.bool true) ∧ w6.grownBy w' none) := by
              have := same_any v5 (.slice fa fb.length fc) fb fb w6 (H7.out.1.keep H8.out) (((HRw.out.keep HM.out.1).keep H7.out.2).keep H8.out)
              rw [decide_eq_true rfl] at this
              exact this
            have HGG := hid_mk' (gb_none (gb_none (gb_none HK.out HM.out.1) H7.out.2) H8.out)
            clear n0 n1 n2 H5 H6 H7 H8 HM HRw p0 p1 p2 k0 k1' k2'
            go_wp2_with fail
            refine HS.out.mono ?_
            rintro e w7 ⟨rfl, hg7⟩
            have r3 := cell_keep r2 hg7
            have HGH := hid_mk' (gb_none HGG.out hg7)
            clear hg7 r1 r2
            go_wp2
            go_roundw
            case rel => exact ⟨k + 1, by omega, by go_num, HGH⟩
            case measure => simp [intOf]; omega

      · have hkl2 : ¬ (k : Int) < (Lw : Int) := by omega
        have HFin : Hid (∀ w8 : World, wr.grownBy w8 none → Below w.heap.size w w8) := fun w8 h => gb_below (gb_none (gb_none HG3.out HK.out) h)
        go_wp2_with fail
        refine (known_any _).mono ?_
        rintro e w8 ⟨rfl, hg8⟩
        have H8 := hid_mk' (HFin.out w8 hg8)
        clear hg8
        go_wp2
        go_ret
        exact ⟨rfl, H8.out⟩

end Go.Proofs.Ytgafmplmngbbfaa
