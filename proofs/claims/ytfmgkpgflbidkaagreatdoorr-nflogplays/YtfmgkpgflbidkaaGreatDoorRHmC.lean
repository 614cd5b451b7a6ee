/-
  Nfp, Nh9, Nk9, Nka, in one text.
-/
import Derived.Test.YtfmgkpgflbidkaaGreatDoorRNkB
import Derived.Test.YtfmgkpgflbidkaaGreatDoorRHmB
import Derived.Test.YtfmgkpgflbidkaaGreatDoorRNkF
/- Nfp -/
namespace Go.Proofs.YtfmgkpgflbidkaaGreatDoorR
open Go.RowKit Go.Shelf Go.Sort

set_option maxRecDepth 8000 in
set_option maxHeartbeats 12800000 in
theorem refRightM_any (w : World) (m : MkR) (f s : Value) (h : RdM w m f s) :
    Calls Tryz.prog 34 #[markV m f s] w fun e w' => e = .returned (.int .i64 (rightM m)) ∧ w.grownBy w' none := by
  have HR : Hid (rightM m = if txtB m.rcv 64 = false then 204 else if txtB m.key 65536 = false then 40 else if timB m.tim = false then 1 else if 500 < m.fir.length ∨ 500 < m.res.length then 8 else if riseB m.fir = false ∨ riseB m.res = false then 41 else 0) := rfl
  have H1 : Hid (∀ W, Calls Tryz.prog 70 #[.string (ByteArray.mk ⟨m.rcv⟩)] W fun e w' => e = .returned (.bool (Lib.validD m.rcv)) ∧ W.grownBy w' none) := fun W => utf8_walk W m.rcv h.inr
  have H2 : Hid (∀ W, Calls Tryz.prog 70 #[.string (ByteArray.mk ⟨m.key⟩)] W fun e w' => e = .returned (.bool (Lib.validD m.key)) ∧ W.grownBy w' none) := fun W => utf8_walk W m.key h.ink
  have H3 : Hid (∀ W, Calls Tryz.prog 61 #[.int .i64 m.tim] W fun e w' => e = .returned (.bool (timB m.tim)) ∧ w' = W) := fun W => refTimeN_any m.tim W
  have H4 : Hid (∀ W, w.grownBy W none → Calls Tryz.prog 71 #[f] W fun e w' => e = .returned (.bool (riseB m.fir)) ∧ W.grownBy w' none) := fun W hW => refRising_any W f m.fir (h.fir.keep hW) h.inF
  have H5 : Hid (∀ W, w.grownBy W none → Calls Tryz.prog 71 #[s] W fun e w' => e = .returned (.bool (riseB m.res)) ∧ W.grownBy w' none) := fun W hW => refRising_any W s m.res (h.res.keep hW) h.inR
  have hT1 : txtB m.rcv 64 = (decide (m.rcv ≠ []) && (decide (m.rcv.length ≤ 64) && Lib.validD m.rcv)) := rfl
  have hT2 : txtB m.key 65536 = (decide (m.key ≠ []) && (decide (m.key.length ≤ 65536) && Lib.validD m.key)) := rfl
  have hr0 := h.inr
  have hk0 := h.ink
  have ze1 : (ByteArray.mk ⟨m.rcv⟩).size = m.rcv.length := rfl
  have ze2 : (ByteArray.mk ⟨m.key⟩).size = m.key.length := rfl
  have em1 : (ByteArray.mk ⟨m.rcv⟩).toList.isEmpty = decide (m.rcv = []) := by
    rw [ByteArray.toList_eq]
    cases m.rcv <;> rfl
  have em1' : ((ByteArray.mk ⟨m.rcv⟩).toList = []) = (m.rcv = []) := by rw [ByteArray.toList_eq]
  have em2 : (ByteArray.mk ⟨m.key⟩).toList.isEmpty = decide (m.key = []) := by
    rw [ByteArray.toList_eq]
    cases m.key <;> rfl
  have em2' : ((ByteArray.mk ⟨m.key⟩).toList = []) = (m.key = []) := by rw [ByteArray.toList_eq]
  obtain ⟨fa, fc, hf, hf1, hf2⟩ := h.fir.shape
  obtain ⟨sa, sc, hs, hs1, hs2⟩ := h.res.shape
  subst hf hs
  unfold markV
  have HB := hidJ (And.intro (B5.new w 31 (.string (ByteArray.mk ⟨m.rcv⟩)) (.string (ByteArray.mk ⟨m.key⟩)) (.int .i64 m.tim) (.slice fa m.fir.length fc) (.slice sa m.res.length sc)) (World.grownBy_alloc w (.cells #[.string (ByteArray.mk ⟨m.rcv⟩), .string (ByteArray.mk ⟨m.key⟩), .int .i64 m.tim, .slice fa m.fir.length fc, .slice sa m.res.length sc] 31) none))
  obtain ⟨nf, hnf⟩ : ∃ nf, m.fir.length = nf := ⟨_, rfl⟩
  obtain ⟨ns, hns⟩ : ∃ ns, m.res.length = ns := ⟨_, rfl⟩
  rw [hnf] at H4 HB HR hf1
  rw [hns] at H5 HB HR hs1
  rw [hnf, hns]
  clear h hnf hns
  have HT1 := hidJ hT1
  have HT2 := hidJ hT2
  clear hT1 hT2
  generalize rightM m = R at *
  generalize Lib.validD m.rcv = v1 at *
  generalize Lib.validD m.key = v2 at *
  generalize txtB m.rcv 64 = t1 at *
  generalize txtB m.key 65536 = t2 at *
  generalize timB m.tim = t3 at *
  generalize riseB m.fir = t4 at *
  generalize riseB m.res = t5 at *
  generalize ByteArray.mk ⟨m.rcv⟩ = br at *
  generalize ByteArray.mk ⟨m.key⟩ = bk at *
  generalize m.tim = tm at *
  obtain ⟨lr, hlr⟩ : ∃ lr, m.rcv.length = lr := ⟨_, rfl⟩
  obtain ⟨lk, hlk⟩ : ∃ lk, m.key.length = lk := ⟨_, rfl⟩
  have hrn : (m.rcv = []) = (lr = 0) := by rw [← hlr, List.length_eq_zero_iff]
  have hkn : (m.key = []) = (lk = 0) := by rw [← hlk, List.length_eq_zero_iff]
  simp only [ne_eq, hrn, hlr] at HT1 em1 em1' ze1 hr0
  simp only [ne_eq, hkn, hlk] at HT2 em2 em2' ze2 hk0
  clear hrn hkn hlr hlk
  have e204 : t1 = false → R = 204 := fun e => by rw [HR.out, e]; rfl
  have e40 : t1 = true → t2 = false → R = 40 := fun e1 e2 => by rw [HR.out, e1, e2]; rfl
  have E204 := hidJ e204
  have E40 := hidJ e40
  clear e204 e40
  by_cases r0 : lr = 0
  · have hR := E204.out (by rw [HT1.out]; simp [r0])
    subst hR
    subst r0
    have em3 : br.toList = [] := by rw [em1']
    rw [decide_eq_true rfl] at em1
    clear em1' E40 E204 HR
    go_enter Tryz.func34, Tryz.ntmps34
    go_wp2
    go_ret
    exact ⟨rfl, HB.out.2⟩
  have em3 : ¬ br.toList = [] := by rw [em1']; exact r0
  rw [decide_eq_false r0] at em1
  clear em1'
  by_cases r1 : 64 < lr
  · have hR := E204.out (by rw [HT1.out, decide_eq_false (show ¬ lr ≤ 64 by omega)]; simp)
    subst hR
    have r1i : (64 : Int) < (lr : Int) := by omega
    clear E40 E204 HR
    go_enter Tryz.func34, Tryz.ntmps34
    go_wp2
    go_ret
    exact ⟨rfl, HB.out.2⟩
  have r1i : ¬ (64 : Int) < (lr : Int) := by omega
  have hv1 : t1 = v1 := by rw [HT1.out, decide_eq_true (show lr ≤ 64 by omega)]; simp [r0]
  subst hv1
  clear HT1
  go_enter Tryz.func34, Tryz.ntmps34
  go_wp2_with fail
  refine (H1.out _).mono ?_
  rintro e w1 ⟨rfl, g1⟩
  have HB := hidJ (And.intro (HB.out.1.keep g1) (gb_none HB.out.2 g1))
  clear g1 H1
  cases t1
  · have hR := E204.out rfl
    subst hR
    go_wp2
    go_ret
    exact ⟨rfl, HB.out.2⟩
  obtain ⟨-, c1, -, -, -⟩ := HB.out.1.cells
  by_cases k0 : lk = 0
  · have hR := E40.out (by first | rfl | trivial) (by rw [HT2.out]; simp [k0])
    subst hR
    subst k0
    have em4 : bk.toList = [] := by rw [em2']
    rw [decide_eq_true rfl] at em2
    clear em2' E40 E204 HR
    go_wp2
    go_ret
    exact ⟨rfl, HB.out.2⟩
  have em4 : ¬ bk.toList = [] := by rw [em2']; exact k0
  rw [decide_eq_false k0] at em2
  clear em2'
  by_cases k1 : 65536 < lk
  · have hR := E40.out (by first | rfl | trivial) (by rw [HT2.out, decide_eq_false (show ¬ lk ≤ 65536 by omega)]; simp)
    subst hR
    have k1i : (65536 : Int) < (lk : Int) := by omega
    clear E40 E204 HR
    go_wp2
    go_ret
    exact ⟨rfl, HB.out.2⟩
  have k1i : ¬ (65536 : Int) < (lk : Int) := by omega
  have hv2 : t2 = v2 := by rw [HT2.out, decide_eq_true (show lk ≤ 65536 by omega)]; simp [k0]
  subst hv2
  clear HT2
  go_wp2_with fail
  clear c1
  refine (H2.out _).mono ?_
  rintro e w2 ⟨rfl, g1⟩
  have HB := hidJ (And.intro (HB.out.1.keep g1) (gb_none HB.out.2 g1))
  clear g1 H2
  cases t2
  · have hR := E40.out (by first | rfl | trivial) (by first | rfl | trivial)
    subst hR
    go_wp2
    go_ret
    exact ⟨rfl, HB.out.2⟩
  clear E40 E204
  obtain ⟨-, -, c2, c3, c4⟩ := HB.out.1.cells
  go_wp2_with fail
  refine (H3.out _).mono ?_
  rintro e w3 ⟨rfl, h3⟩
  have h3 := h3.symm
  subst h3
  clear H3
  cases t3
  · have hR : R = 1 := by rw [HR.out]; rfl
    subst hR
    go_wp2
    go_ret
    exact ⟨rfl, HB.out.2⟩
  by_cases h5 : 500 < nf
  · have hR : R = 8 := by rw [HR.out]; simp [h5]
    subst hR
    have h5i : (500 : Int) < (nf : Int) := by omega
    go_wp2
    go_ret
    exact ⟨rfl, HB.out.2⟩
  have h5i : ¬ (500 : Int) < (nf : Int) := by omega
  by_cases h6 : 500 < ns
  · have hR : R = 8 := by rw [HR.out]; simp [h6]
    subst hR
    have h6i : (500 : Int) < (ns : Int) := by omega
    go_wp2
    go_ret
    exact ⟨rfl, HB.out.2⟩
  have h6i : ¬ (500 : Int) < (ns : Int) := by omega
  have HR2 : Hid (R = if t4 = false ∨ t5 = false then 41 else 0) := by
    show R = _
    rw [HR.out]
    simp [h5, h6]
  clear HR h5 h6
  go_wp2_with fail
  clear c2 c3 c4
  refine (H4.out _ HB.out.2).mono ?_
  rintro e w4 ⟨rfl, g1⟩
  have HB := hidJ (And.intro (HB.out.1.keep g1) (gb_none HB.out.2 g1))
  clear g1 H4
  cases t4
  · have hR : R = 41 := by rw [HR2.out]; rfl
    subst hR
    go_wp2
    go_ret
    exact ⟨rfl, HB.out.2⟩
  obtain ⟨-, -, -, -, c4⟩ := HB.out.1.cells
  go_wp2_with fail
  clear c4
  refine (H5.out _ HB.out.2).mono ?_
  rintro e w5 ⟨rfl, g1⟩
  have HB := hidJ (And.intro (HB.out.1.keep g1) (gb_none HB.out.2 g1))
  clear g1 H5
  cases t5
  · have hR : R = 41 := by rw [HR2.out]; rfl
    subst hR
    go_wp2
    go_ret
    exact ⟨rfl, HB.out.2⟩
  · have hR : R = 0 := by rw [HR2.out]; rfl
    subst hR
    go_wp2
    go_ret
    exact ⟨rfl, HB.out.2⟩
end Go.Proofs.YtfmgkpgflbidkaaGreatDoorR

/- Nh9 -/
namespace Go.Proofs.YtfmgkpgflbidkaaGreatDoorR
open Go.RowKit Go.Shelf Go.Sort

def lsY (m : MkR) (y : Nat) : List (List LbT) := if y = 0 then m.fir else m.res
def ouB (m : MkR) (y : Nat) : List UInt8 := if y = 0 then headB m else if y = 1 then headB m ++ setsB m.fir else recB m
theorem ouB_next (m : MkR) {y : Nat} (hy : y < 2) : ouB m (y + 1) = ouB m y ++ setsB (lsY m y) := by
  have : y = 0 ∨ y = 1 := by omega
  rcases this with rfl | rfl
  · rfl
  · rfl
theorem ouB_len {m : MkR} (h : rightM m = 0) (y : Nat) : (ouB m y).length ≤ 9000000 := by
  have h1 := headB_len h
  have hs := right_sets h
  have hl := right_len h
  have h2 := setsB_len hs.1 hl.1
  have h3 := setsB_len hs.2 hl.2
  unfold ouB
  split
  · omega
  · split
    · rw [List.length_append]
      omega
    · rw [recB_head, List.length_append, List.length_append]
      omega
set_option maxRecDepth 8000 in
set_option maxHeartbeats 12800000 in
theorem refRecord_any (w : World) (m : MkR) (f s : Value) (h : RdM w m f s) :
    Calls Tryz.prog 14 #[markV m f s] w fun e w' => ∃ a1 n1 c1, e = .returned (.tuple #[.slice a1 n1 c1, .int .i64 (rightM m)]) ∧ Own w' w.heap.size (.slice a1 n1 c1) (recS m) ∧ w.grownBy w' none := by
  obtain ⟨fa, fc, ef, -⟩ := h.fir.shape
  obtain ⟨sa, sc, es, -⟩ := h.res.shape
  subst ef es
  have HB := hidJ (And.intro (B5.new w 31 (.string (ByteArray.mk ⟨m.rcv⟩)) (.string (ByteArray.mk ⟨m.key⟩)) (.int .i64 m.tim) (.slice fa m.fir.length fc) (.slice sa m.res.length sc)) (World.grownBy_alloc w (.cells #[.string (ByteArray.mk ⟨m.rcv⟩), .string (ByteArray.mk ⟨m.key⟩), .int .i64 m.tim, .slice fa m.fir.length fc, .slice sa m.res.length sc] 31) none))
  have HRi : Hid (∀ W, w.grownBy W none → Calls Tryz.prog 34 #[markV m (.slice fa m.fir.length fc) (.slice sa m.res.length sc)] W fun e w' => e = .returned (.int .i64 (rightM m)) ∧ W.grownBy w' none) := fun W hW => refRightM_any W m _ _ (h.keep hW)
  have HN : Hid (rightM m ≠ 0 → ∀ W, Own W w.heap.size (.slice none 0 0) (recS m)) := fun hR W => by
    unfold recS
    rw [if_neg hR]
    exact Own.nil _ _
  by_cases hR : rightM m = 0
  · have HM := hidJ (And.intro h hR)
    obtain ⟨⟨t1, -⟩, ⟨t2, -⟩, t3⟩ := right_txt hR
    have u1 := uv_10 (n := m.rcv.length) (by omega)
    have u2 := uv_10 (n := m.key.length) (by omega)
    have HP1 : Hid (∀ W, Calls Tryz.prog 35 #[.slice none 0 0, .string (ByteArray.mk ⟨m.rcv⟩)] W fun e w' => ∃ a1 n1 c1, e = .returned (.slice a1 n1 c1) ∧ Hid (Own w' W.heap.size (.slice a1 n1 c1) (uv m.rcv.length ++ m.rcv) ∧ W.grownBy w' none)) := fun W => by
      refine (refPutText_any (.slice none 0 0) [] m.rcv W (Rd.nil W) (by simp; omega)).mono ?_
      rintro e w' ⟨v', rfl, q1, q2⟩
      obtain ⟨a1, c1, e1⟩ := q1.shape
      subst e1
      exact ⟨a1, _, c1, rfl, (by simpa using q1), q2⟩
    have HP2 : Hid (∀ W v, Rd W v (uv m.rcv.length ++ m.rcv) → Calls Tryz.prog 35 #[v, .string (ByteArray.mk ⟨m.key⟩)] W fun e w' => ∃ a1 n1 c1, e = .returned (.slice a1 n1 c1) ∧ Hid (Own w' W.heap.size (.slice a1 n1 c1) (uv m.rcv.length ++ m.rcv ++ (uv m.key.length ++ m.key)) ∧ W.grownBy w' none)) := fun W v hv => by
      refine (refPutText_any v _ m.key W hv (by simp only [List.length_append]; omega)).mono ?_
      rintro e w' ⟨v', rfl, q1, q2⟩
      obtain ⟨a1, c1, e1⟩ := q1.shape
      subst e1
      exact ⟨a1, _, c1, rfl, (by simpa using q1), q2⟩
    have HP3 : Hid (∀ W v, Rd W v (uv m.rcv.length ++ m.rcv ++ (uv m.key.length ++ m.key)) → Calls Tryz.prog 36 #[v, .int .i64 m.tim] W fun e w' => ∃ a1 n1 c1, e = .returned (.slice a1 n1 c1) ∧ Hid (Own w' W.heap.size (.slice a1 n1 c1) (ouB m 0) ∧ W.grownBy w' none)) := fun W v hv => by
      refine (refPutI_any v _ m.tim W hv (by simp only [List.length_append]; omega) (zz_lt HM.out.2).1 (zz_lt HM.out.2).2).mono ?_
      rintro e w' ⟨v', rfl, q1, q2⟩
      obtain ⟨a1, c1, e1⟩ := q1.shape
      subst e1
      exact ⟨a1, _, c1, rfl, q1, q2⟩
    have hset := right_sets hR
    have hlen := right_len hR
    have HY : Hid (∀ y, y < 2 → allR (lsY m y) = true ∧ (lsY m y).length ≤ 500) := fun y hy => by
      have : y = 0 ∨ y = 1 := by omega
      rcases this with rfl | rfl
      · exact ⟨hset.1, hlen.1⟩
      · exact ⟨hset.2, hlen.2⟩
    have HPu : Hid (∀ W v y, y < 2 → Rd W v (ouB m y) → Calls Tryz.prog 37 #[v, .int .u64 ((lsY m y).length : Int)] W fun e w' => ∃ a1 n1 c1, e = .returned (.slice a1 n1 c1) ∧ Hid (Rd w' (.slice a1 n1 c1) (ouB m y ++ (uv (lsY m y).length ++ ((lsY m y).take 0).flatMap setB)) ∧ Own w' W.heap.size (.slice a1 n1 c1) (ouB m y ++ (uv (lsY m y).length ++ ((lsY m y).take 0).flatMap setB)) ∧ W.grownBy w' none)) := fun W v y hy hv => by
      have hb := ouB_len HM.out.2 y
      have hly := (HY.out y hy).2
      have h := refPutU_any v (ouB m y) (BitVec.ofNat 64 (lsY m y).length) W hv (by omega)
      rw [I64_of (by omega), show (BitVec.ofNat 64 (lsY m y).length).toNat = (lsY m y).length by rw [BitVec.toNat_ofNat]; exact Nat.mod_eq_of_lt (by omega)] at h
      refine h.mono ?_
      rintro e w' ⟨v', rfl, q1, q2⟩
      obtain ⟨a1, c1, e1⟩ := q1.shape
      subst e1
      exact ⟨a1, _, c1, rfl, (by simpa using q1.rd), (by simpa using q1), q2⟩
    have HPt : Hid (∀ W v u y z, y < 2 → z < (lsY m y).length → Rd W v (ouB m y ++ (uv (lsY m y).length ++ ((lsY m y).take z).flatMap setB)) → RdL W u ((lsY m y).getD z []) → Calls Tryz.prog 38 #[v, u] W fun e w' => ∃ a1 n1 c1, e = .returned (.tuple #[.slice a1 n1 c1, .int .i64 0]) ∧ Hid (Own w' W.heap.size (.slice a1 n1 c1) (ouB m y ++ (uv (lsY m y).length ++ ((lsY m y).take (z + 1)).flatMap setB)) ∧ W.grownBy w' none)) := fun W v u y z hy hz hv hu => by
      have hr : (rightS ((lsY m y).getD z [])).1 = 0 := by
        have : (lsY m y).getD z [] = (lsY m y)[z] := by simp [List.getD, hz]
        rw [this]
        exact allR_mem (HY.out y hy).1 _ (by simp)
      have hb := ouB_len HM.out.2 y
      have hb2 := setsAt_len (HY.out y hy).1 (HY.out y hy).2 z
      have h := refPut_any W v u _ ((lsY m y).getD z []) hv (by rw [List.length_append]; omega) hu (right_in hr)
      rw [putS_nil _ hr] at h
      refine h.mono ?_
      rintro e w' ⟨v', rfl, q1, q2⟩
      obtain ⟨a1, c1, e1⟩ := q1.shape
      subst e1
      refine ⟨a1, _, c1, rfl, ?_, q2⟩
      rw [sets_next hz]
      simpa using q1
    have HNx : Hid (∀ y, y < 2 → ouB m y ++ (uv (lsY m y).length ++ ((lsY m y).take (lsY m y).length).flatMap setB) = ouB m (y + 1)) := fun y hy => by
      rw [ouB_next m hy, List.take_length]
      rfl
    have HFin : Hid (ouB m 2 = recS m) := by
      show _ = _
      unfold recS
      rw [if_pos hR]
      rfl
    have HCe : Hid (∀ W lb, w.grownBy W none → W.heap[lb]? = some (.cells #[.slice fa m.fir.length fc, .slice sa m.res.length sc] 29 (0, 0)) → ∀ y, y < 2 → ∃ ya yc, W.cell? ⟨lb, y, none⟩ = some (.slice ya (lsY m y).length yc) ∧ RdLL W (.slice ya (lsY m y).length yc) (lsY m y)) := fun W lb hW hb y hy => by
      have : y = 0 ∨ y = 1 := by omega
      rcases this with rfl | rfl
      · exact ⟨fa, fc, by simp [World.cell?, hb, lsY], HM.out.1.fir.keep hW⟩
      · exact ⟨sa, sc, by simp [World.cell?, hb, lsY], HM.out.1.res.keep hW⟩
    have HYl := hidJ (fun y hy => (HY.out y hy).2)
    clear HM h t1 t2 t3 u1 u2 hset hlen HY HN
    unfold markV at HRi
    unfold markV
    rw [hR] at HRi
    rw [hR]
    clear hR
    generalize recS m = rB at *
    generalize uv m.rcv.length ++ m.rcv = b1 at *
    generalize uv m.key.length ++ m.key = b2 at *
    generalize ByteArray.mk ⟨m.rcv⟩ = br at *
    generalize ByteArray.mk ⟨m.key⟩ = bk at *
    generalize m.tim = tm at *
    generalize m.fir.length = nf at *
    generalize m.res.length = ns at *
    go_enter Tryz.func14, Tryz.ntmps14
    go_wp2_with fail
    refine (HRi.out _ HB.out.2).mono ?_
    rintro e w1 ⟨rfl, q1⟩
    have HB1 := hidJ (And.intro (HB.out.1.keep q1) (gb_none HB.out.2 q1))
    clear HB HRi q1
    obtain ⟨c0, c1, c2, c3, c4⟩ := HB1.out.1.cells
    have HC1 : Hid (Calls Tryz.prog 35 #[.slice none 0 0, .string br] w1.drew fun e w' => ∃ a1 n1 x1, e = .returned (.slice a1 n1 x1) ∧ (w'.cell? ⟨w.heap.size, 0, none⟩ = some (.string br) ∧ w'.cell? ⟨w.heap.size, 1, none⟩ = some (.string bk)) ∧ Hid (Calls Tryz.prog 35 #[.slice a1 n1 x1, .string bk] w' fun e w'' => ∃ a2 n2 x2, e = .returned (.slice a2 n2 x2) ∧ (w''.cell? ⟨w.heap.size, 0, none⟩ = some (.string br) ∧ w''.cell? ⟨w.heap.size, 1, none⟩ = some (.string bk)) ∧ Hid (Rd w'' (.slice a2 n2 x2) (b1 ++ b2) ∧ w1.grownBy w'' none))) := by
      refine (HP1.out w1.drew).mono ?_
      rintro e w' ⟨a1, n1, x1, rfl, q1⟩
      have g1 := gb_none (gb_drew w1 none) q1.out.2
      have d1 := (HB1.out.1.keep g1).cells
      refine ⟨a1, n1, x1, rfl, ⟨d1.1, d1.2.1⟩, (HP2.out w' _ q1.out.1.rd).mono ?_⟩
      rintro e w'' ⟨a2, n2, x2, rfl, q2⟩
      have g2 := gb_none g1 q2.out.2
      have d2 := (HB1.out.1.keep g2).cells
      exact ⟨a2, n2, x2, rfl, ⟨d2.1, d2.2.1⟩, q2.out.1.rd, g2⟩
    clear HP1 HP2
    go_wp2
    go_region_held3 (fun w' => w'.cell? ⟨w.heap.size, 0, none⟩ = some (.string br) ∧ w'.cell? ⟨w.heap.size, 1, none⟩ = some (.string bk)) (go_keep)
      (first
        | (go_at_call 35; with_reducible refine HC1.out.mono ?_; rintro e w2 ⟨a1, n1, x1, rfl, ⟨j0, j1⟩, H2⟩)
        | (go_at_call 35; with_reducible refine H2.out.mono ?_; rintro e w3 ⟨a2, n2, x2, rfl, ⟨l0, l1⟩, H3⟩))
    clear HC1 H2 j0 j1 l0 l1 c0 c1 c2 c3 c4
    obtain ⟨-, -, c2, -, -⟩ := (HB1.out.1.keep H3.out.2).cells
    go_wp2_with fail
    refine (HP3.out _ _ H3.out.1).mono ?_
    rintro e w4 ⟨a3, n3, x3, rfl, H4⟩
    have g4 := gb_none H3.out.2 H4.out.2
    obtain ⟨-, -, -, c3, c4⟩ := (HB1.out.1.keep g4).cells
    have HW4 := hidJ (gb_none HB1.out.2 g4)
    have HO4 := hidJ (H4.out.1.mono (Nat.le_trans HB1.out.2.size H3.out.2.size))
    clear HP3 H3 H4 c2 g4 HB1
    have HL := hidJ (Go.heap_alloc_new w4 (.cells #[.slice fa nf fc, .slice sa ns sc] 29))
    have HG := hidJ (World.grownBy_alloc w4 (.cells #[.slice fa nf fc, .slice sa ns sc] 29) none)
    have HCe2 : Hid (∀ W, (w4.alloc (.cells #[.slice fa nf fc, .slice sa ns sc] 29)).grownBy W none → ∀ y, y < 2 → ∃ ya yc, W.cell? ⟨w4.heap.size, y, none⟩ = some (.slice ya (lsY m y).length yc) ∧ RdLL W (.slice ya (lsY m y).length yc) (lsY m y)) := fun W hW y hy => HCe.out W w4.heap.size (gb_none (gb_none HW4.out HG.out) hW) ((hW.block _ (some_lt HL.out) (by simp)).trans HL.out) y hy
    have HO5 := hidJ (HO4.out.keep HG.out)
    have HW5 := hidJ (gb_none HW4.out HG.out)
    go_wp2
    clear c3 c4 HL HG HO4 HCe HW4
    generalize w4.alloc (.cells #[.slice fa nf fc, .slice sa ns sc] 29) = WL at *
    generalize w4.heap.size = lb at *
    go_loopw [5, 33] (fun o i wr => ∃ (y : Nat) (a : Option Addr) (n c : Nat), y ≤ 2 ∧ i = .int .i64 y ∧ o = .slice a n c ∧ Hid (Own wr w.heap.size (.slice a n c) (ouB m y) ∧ WL.grownBy wr none)) (fun _ i _ => 2 - (intOf i).toNat)
    case atStart => exact ⟨0, a3, n3, x3, by omega, rfl, rfl, HO5.out, gb_refl _ _⟩
    case round =>
      obtain ⟨y, oa, on, oc, hy2, rfl, rfl, hr⟩ := hrel
      clear HO5
      by_cases hyl : y < 2
      · have hyi : (y : Int) < 2 := by omega
        obtain ⟨ya, yc, d0, hrd⟩ := HCe2.out wr hr.out.2 y hyl
        have HRd := hidJ hrd
        have HG := hidJ hr.out.2
        have HZ := hidJ (Nat.le_trans HW5.out.size hr.out.2.size)
        have HPu2 := hidJ (HPu.out wr (.slice oa on oc) y hyl hr.out.1.rd)
        have HPt2 := hidJ (fun W v u z => HPt.out W v u y z hyl)
        have HNx2 := hidJ (HNx.out y hyl)
        have HYl5 := hidJ (HYl.out y hyl)
        clear hr hrd HPu HPt HNx HCe2
        obtain ⟨L, hL⟩ : ∃ L, L = lsY m y := ⟨_, rfl⟩
        obtain ⟨O, hO⟩ : ∃ O, O = ouB m y := ⟨_, rfl⟩
        rw [← hL] at HRd d0 HPu2 HPt2 HNx2 HYl5
        rw [← hO] at HPu2 HPt2 HNx2
        clear hL hO
        obtain ⟨yn, hyn⟩ : ∃ yn, L.length = yn := ⟨_, rfl⟩
        have HLn := hidJ hyn
        rw [hyn] at HRd d0 HPu2 HPt2 HNx2
        clear hyn
        have hyn5 : yn ≤ 500 := by have := HYl5.out; have := HLn.out; omega
        go_wp2_with fail
        refine HPu2.out.mono ?_
        rintro e w5 ⟨a5, n5, x5, rfl, H5⟩
        have HO := hidJ (And.intro (H5.out.2.1.mono HZ.out) (gb_none HG.out H5.out.2.2))
        have HAt : Hid (∀ W z, w5.grownBy W none → z < yn → ∃ b o a' c', ya = some ⟨b, o, none⟩ ∧ W.cell? ⟨b, o + z, none⟩ = some (.slice a' (L.getD z []).length c') ∧ RdL W (.slice a' (L.getD z []).length c') (L.getD z [])) := fun W z hW hz => ((HRd.out.keep H5.out.2.2).keep hW).at (by rw [HLn.out]; exact hz)
        have HK5 := hidJ (gb_none HG.out H5.out.2.2)
        clear HPu2 H5 HRd d0 HG
        go_wp2
        go_loopw [5, 44] (fun o i wr => ∃ (z : Nat) (a : Option Addr) (n c : Nat), z ≤ yn ∧ i = .int .i64 z ∧ o = .slice a n c ∧ Hid (Own wr w.heap.size (.slice a n c) (O ++ (uv yn ++ (L.take z).flatMap setB)) ∧ w5.grownBy wr none)) (fun _ i _ => yn - (intOf i).toNat)
        case atStart => exact ⟨0, a5, n5, x5, by omega, rfl, rfl, HO.out.1, gb_refl _ _⟩
        case round =>
          obtain ⟨z, ra, rn, rc, hzN, rfl, rfl, hr⟩ := hrel
          clear HO
          by_cases hzl : z < yn
          · have hzi : (z : Int) < (yn : Int) := by omega
            obtain ⟨b, o, a', c', rfl, e0, hrd⟩ := HAt.out wr z hr.out.2 hzl
            have HP4 := hidJ (HPt2.out wr (.slice ra rn rc) _ z hzl hr.out.1.rd hrd)
            have HG := hidJ (And.intro hr.out.2 (Nat.le_trans (Nat.le_trans HW5.out.size HK5.out.size) hr.out.2.size))
            clear hrd hr HAt HPt2
            generalize (L.getD z []).length = hn at *
            go_wp2_with fail
            refine HP4.out.mono ?_
            rintro e w6 ⟨a6, n6, x6, rfl, H6⟩
            have H7 := hidJ (And.intro (H6.out.1.mono HG.out.2) (gb_none HG.out.1 H6.out.2))
            clear HP4 H6 HG e0
            go_wp2
            go_roundw
            case rel => exact ⟨z + 1, a6, n6, x6, by omega, by go_num, rfl, H7.out⟩
            case measure => simp [intOf]; omega
          · have hzi : ¬ (z : Int) < (yn : Int) := by omega
            have hzn : z = yn := by omega
            subst hzn
            have HG := hidJ (And.intro hr.out.1 (gb_none HK5.out hr.out.2))
            rw [HNx2.out] at HG
            clear hr HNx2 HAt HPt2
            go_wp2
            go_roundw
            case rel => exact ⟨y + 1, ra, rn, rc, by omega, by go_num, rfl, HG.out⟩
            case measure => simp [intOf]; omega
      · have hyi : ¬ (y : Int) < 2 := by omega
        have hy3 : y = 2 := by omega
        subst hy3
        have HF := hidJ (And.intro hr.out.1 (gb_none HW5.out hr.out.2))
        rw [HFin.out] at HF
        clear hr HCe2 HPu HPt HNx HFin HW5
        go_wp2
        go_ret2
        exact ⟨_, _, _, rfl, HF.out⟩
  · have hRb : (rightM m == 0) = false := by rw [beq_eq_false_iff_ne]; exact hR
    have HF := hidJ (HN.out hR)
    clear HN h
    unfold markV at HRi
    unfold markV
    generalize recS m = rB at *
    generalize rightM m = R at *
    generalize ByteArray.mk ⟨m.rcv⟩ = br at *
    generalize ByteArray.mk ⟨m.key⟩ = bk at *
    generalize m.tim = tm at *
    generalize m.fir.length = nf at *
    generalize m.res.length = ns at *
    go_enter Tryz.func14, Tryz.ntmps14
    go_wp2_with fail
    refine (HRi.out _ HB.out.2).mono ?_
    rintro e w1 ⟨rfl, q1⟩
    have HG := hidJ (And.intro (HF.out w1) (gb_none HB.out.2 q1))
    clear HB HRi q1 HF
    go_wp2
    go_ret2
    exact ⟨_, _, _, rfl, HG.out⟩
end Go.Proofs.YtfmgkpgflbidkaaGreatDoorR

/- Nk9 -/
namespace Go.Proofs.YtfmgkpgflbidkaaGreatDoorR
open Go.RowKit Go.Shelf Go.Sort

theorem infoBs : (Tryz.prog.info? 41).map (fun i => (i.zero, i.size, i.bytes)) = some (some (.slice none 0 0), 1, 24) := by kernel_rfl
/-- a row of bytes of bytes of the call's own -/
def OwnBB (w : World) (base : Nat) (v : Value) (bss : List (List UInt8)) : Prop := ∃ vs : List Value, w.ownsRow base 41 1 v vs.length vs ∧ vs.length = bss.length ∧ ∀ j, Own w base (vs.getD j nilV) (bss.getD j [])
theorem OwnBB.nil (w : World) (base : Nat) : OwnBB w base (.slice none 0 0) [] := ⟨[], World.ownsRow_nil _ _ _ _, rfl, fun j => by simp [nilV]; exact Own.nil _ _⟩
theorem OwnBB.keep {w w' : World} {base : Nat} {v : Value} {bss : List (List UInt8)} (h : OwnBB w base v bss) (hg : w.grownBy w' none) : OwnBB w' base v bss := by
  obtain ⟨vs, h1, h2, h3⟩ := h
  exact ⟨vs, World.ownsRow.kept h1 hg (by cases v.ownBlock <;> simp), h2, fun j => (h3 j).keep hg⟩
theorem OwnBB.shape {w : World} {base : Nat} {v : Value} {bss : List (List UInt8)} (h : OwnBB w base v bss) : ∃ a c, v = .slice a bss.length c := by
  obtain ⟨vs, h1, h2, h3⟩ := h
  rcases h1.2 with ⟨rfl, hn⟩ | ⟨g, cap, cur, rfl, _⟩
  · exact ⟨none, 0, by rw [← h2, hn]⟩
  · exact ⟨_, _, by rw [h2]⟩
theorem OwnBB.push {W : World} {base : Nat} {v u : Value} {bss : List (List UInt8)} {bs : List UInt8} (h : OwnBB W base v bss) (hb : base ≤ W.heap.size) (hu : Own W base u bs) (hl : bss.length ≤ 1000000) :
    ∃ a2 c2 W2, (Builtin.append_ #[67, 67] 67 #[v, .slice (some ⟨W.heap.size, 0, none⟩) 1 1]).run Tryz.prog (W.alloc (.cells #[u] 41)) = .ok (.slice a2 (bss.length + 1) c2) W2 ∧ OwnBB W2 base (.slice a2 (bss.length + 1) c2) (bss ++ [bs]) ∧ Ch W W2 (fun k => v.ownBlock = some k) := by
  obtain ⟨us, h2, h1, h3⟩ := h
  obtain ⟨i0, hi, hz0, hz1, hz2⟩ := info_parts infoBs
  have hX := World.grownBy_alloc W (.cells #[u] 41) none
  have hnew := Go.heap_alloc_new W (.cells #[u] 41)
  obtain ⟨a0, c0, eu⟩ := hu.shape
  obtain ⟨v2, W2, hrun, ho, hfr⟩ := run_appH (W.alloc (.cells #[u] 41)) 67 67 41 i0 _ 1 24 base Tryz.underlying67 hi hz0 hz1 hz2 rfl (by decide) v us.length us (World.ownsRow.kept h2 hX (by cases v.ownBlock <;> simp)) (some ⟨W.heap.size, 0, none⟩) 1 1 [u] rfl
    (fun j x hj => by
      refine ⟨_, rfl, ?_⟩
      rw [Go.WideShapes.add_plain]
      simp only [World.cell?, hnew]
      simpa using hj) (fun e => by cases e) (fun x hx => by rw [List.mem_singleton] at hx; subst hx; rw [eu]; rfl) (by omega) (by omega) (by simp; omega)
  obtain ⟨a2, cc, rfl⟩ : ∃ a c, v2 = .slice a (us.length + 1) c := by
    rcases ho.2 with ⟨e, e2⟩ | ⟨b, cap, cur, e, -⟩
    · omega
    · exact ⟨_, _, e⟩
  have hk : Ch W W2 (fun k => v.ownBlock = some k) := (Ch.of_gb (S := fun k => v.ownBlock = some k) hX (fun k hk => by cases hk)).trans (Ch.of_gb (S := fun k => v.ownBlock = some k) hfr.1 (fun k hk _ => hk)) (fun _ _ e => e)
  have hne : ∀ (x : Value) (l : List UInt8), Own W base x l → Own W2 base x l := fun x l hx => by
    refine row_ch hx hk (fun k hk' e => ?_)
    obtain ⟨cur, q1⟩ := row_objE hx hk'
    obtain ⟨cur', q2⟩ := row_objE h2 e
    rw [q1] at q2
    simp at q2
  rw [h1] at hrun ho
  refine ⟨a2, cc, W2, hrun, ⟨us ++ [u], ?_, by simp [h1], fun j => ?_⟩, hk⟩
  · rw [List.length_append, h1]
    exact ho
  · by_cases hj : j < us.length
    · have e1 : (us ++ [u]).getD j nilV = us.getD j nilV := by simp [List.getD, List.getElem?_append_left hj]
      have e2 : (bss ++ [bs]).getD j [] = bss.getD j [] := by simp [List.getD, List.getElem?_append_left (show j < bss.length by omega)]
      rw [e1, e2]
      exact hne _ _ (h3 j)
    · by_cases e : j = us.length
      · have e1 : (us ++ [u]).getD j nilV = u := by rw [e]; simp
        have e2 : (bss ++ [bs]).getD j [] = bs := by rw [e, h1]; simp
        rw [e1, e2]
        exact hne _ _ hu
      · have e1 : (us ++ [u]).getD j nilV = nilV := by simp only [List.getD]; rw [List.getElem?_eq_none (by simp; omega)]; rfl
        have e2 : (bss ++ [bs]).getD j [] = [] := by simp only [List.getD]; rw [List.getElem?_eq_none (by simp; omega)]; rfl
        rw [e1, e2]
        exact Own.nil _ _
end Go.Proofs.YtfmgkpgflbidkaaGreatDoorR

/- Nka -/
namespace Go.Proofs.YtfmgkpgflbidkaaGreatDoorR
open Go.RowKit Go.Shelf Go.Sort

/-- the records of a log's marks -/
def recsL (l : List MkX) : List (List UInt8) := l.map fun x => recS x.1
theorem recs_next {l : List MkX} {z : Nat} (hz : z < l.length) : recsL (l.take (z + 1)) = recsL (l.take z) ++ [recS (l.getD z xZ).1] := by
  have e : l.getD z xZ = l[z] := by simp [List.getD, hz]
  unfold recsL
  rw [List.take_succ_eq_append_getElem hz, List.map_append, e]
  rfl
set_option maxRecDepth 8000 in
set_option maxHeartbeats 12800000 in
theorem refRecordsX_any (w : World) (gr : Nat) (v : Value) (l : List MkX) (h : RefX w gr v l) :
    Calls Tryz.prog 30 #[.pointer (some ⟨gr, 0, none⟩)] w fun e w' => ∃ a c, e = .returned (.slice a l.length c) ∧ OwnBB w' w.heap.size (.slice a l.length c) (recsL l) ∧ w.grownBy w' none := by
  obtain ⟨va, vc, ev, hvc⟩ := h.row.shape
  subst ev
  have hlen := h.len
  have HE : Hid (∀ j, j < l.length → ∀ wr, w.grownBy wr none → ∃ g fa fn fc sa sn sc, va = some ⟨g, 0, none⟩ ∧ g < wr.heap.size ∧ (l.getD j xZ).2.1 = .slice fa fn fc ∧ (l.getD j xZ).2.2 = .slice sa sn sc ∧ wr.cell? ⟨g, j * 5, none⟩ = some (.string (ByteArray.mk ⟨(l.getD j xZ).1.rcv⟩)) ∧ wr.cell? ⟨g, j * 5 + 1, none⟩ = some (.string (ByteArray.mk ⟨(l.getD j xZ).1.key⟩)) ∧ wr.cell? ⟨g, j * 5 + 2, none⟩ = some (.int .i64 (l.getD j xZ).1.tim) ∧ wr.cell? ⟨g, j * 5 + 3, none⟩ = some (.slice fa fn fc) ∧ wr.cell? ⟨g, j * 5 + 4, none⟩ = some (.slice sa sn sc)) := fun j hj wr hg => by
    obtain ⟨g, c, e0, hgl, d0, d1, d2, d3, d4⟩ := (h.row.keep hg).cells hj
    have hm : l.getD j xZ ∈ l := by simp [List.getD, hj]
    obtain ⟨fa, fc, ef⟩ := (h.each _ hm).1.fir.shape
    obtain ⟨sa, sc, es⟩ := (h.each _ hm).1.res.shape
    rw [ef] at d3
    rw [es] at d4
    simp only [Value.slice.injEq] at e0
    exact ⟨g, fa, _, fc, sa, _, sc, e0.1, hgl, ef, es, d0, d1, d2, d3, d4⟩
  have HRc : Hid (∀ j, j < l.length → ∀ W, w.grownBy W none → Calls Tryz.prog 14 #[markV (l.getD j xZ).1 (l.getD j xZ).2.1 (l.getD j xZ).2.2] W fun e w' => ∃ a1 n1 c1, e = .returned (.tuple #[.slice a1 n1 c1, .int .i64 (rightM (l.getD j xZ).1)]) ∧ Hid (Own w' W.heap.size (.slice a1 n1 c1) (recS (l.getD j xZ).1) ∧ W.grownBy w' none)) := fun j hj W hW => by
    have hm : l.getD j xZ ∈ l := by simp [List.getD, hj]
    exact refRecord_any W _ _ _ (((h.each _ hm).1.keep hW).rd)
  have HBx := hidJ h
  obtain ⟨RQ, hRQ⟩ : ∃ RQ : Ending → World → Prop, RQ = fun e w' => ∃ a c, e = .returned (.slice a l.length c) ∧ OwnBB w' w.heap.size (.slice a l.length c) (recsL l) ∧ w.grownBy w' none := ⟨_, rfl⟩
  have HFin : Hid (∀ W a n c, n = l.length → OwnBB W w.heap.size (.slice a n c) (recsL l) → w.grownBy W none → RQ (.returned (.slice a n c)) W) := fun W a n c hn ho hg => by
    subst hn
    rw [hRQ]
    exact ⟨a, c, rfl, ho, hg⟩
  rw [show (fun e w' => ∃ a c, e = .returned (.slice a l.length c) ∧ OwnBB w' w.heap.size (.slice a l.length c) (recsL l) ∧ w.grownBy w' none) = (fun e w' => RQ e w') from by rw [hRQ]]
  clear hRQ h
  go_enter Tryz.func30, Tryz.ntmps30
  have g0 := HBx.out.box.cell
  have H0 : Hid (OwnBB w w.heap.size (.slice none 0 0) (recsL (l.take 0)) ∧ w.grownBy w none) := ⟨OwnBB.nil _ _, gb_refl _ _⟩
  go_wp2
  clear g0
  go_loopw [3, 13] (fun o i wr => ∃ (z : Nat) (a : Option Addr) (c : Nat), z ≤ l.length ∧ i = .int .i64 z ∧ o = .slice a z c ∧ Hid (OwnBB wr w.heap.size (.slice a z c) (recsL (l.take z)) ∧ w.grownBy wr none)) (fun _ i _ => l.length - (intOf i).toNat)
  case atStart => exact ⟨0, none, 0, by omega, rfl, rfl, H0.out⟩
  case round =>
    obtain ⟨z, oa, oc, hzN, rfl, rfl, hr⟩ := hrel
    clear H0
    by_cases hzl : z < l.length
    · have hzi : (z : Int) < (l.length : Int) := by omega
      obtain ⟨g, fa, fn, fc, sa, sn, sc, rfl, hgl, ef, es, d0, d1, d2, d3, d4⟩ := HE.out z hzl wr hr.out.2
      have HG : Hid (∀ C, w.grownBy (wr.alloc C) none ∧ OwnBB (wr.alloc C) w.heap.size (.slice oa z oc) (recsL (l.take z))) := fun C => ⟨gb_none hr.out.2 (World.grownBy_alloc _ _ none), hr.out.1.keep (World.grownBy_alloc _ _ none)⟩
      have HNx := hidJ (recs_next hzl)
      have hnl : z ≤ 1000 := by omega
      have hrl : (recsL (l.take z)).length = z := by unfold recsL; rw [List.length_map, List.length_take]; omega
      have HPu : Hid (∀ C W u, (wr.alloc C).grownBy W none → Own W (wr.alloc C).heap.size u (recS (l.getD z xZ).1) → ∃ a2 c2 W2, (Builtin.append_ #[67, 67] 67 #[.slice oa z oc, .slice (some ⟨W.heap.size, 0, none⟩) 1 1]).run Tryz.prog (W.alloc (.cells #[u] 41)) = .ok (.slice a2 (z + 1) c2) W2 ∧ Hid (OwnBB W2 w.heap.size (.slice a2 (z + 1) c2) (recsL (l.take (z + 1))) ∧ w.grownBy W2 none)) := fun C W u hg hu => by
        have hb := (HG.out C).1.size
        have hW := gb_none (HG.out C).1 hg
        obtain ⟨a2, c2, W2, q1, q2, q3⟩ := OwnBB.push ((HG.out C).2.keep hg) hW.size (hu.mono hb) (by rw [hrl]; omega)
        rw [hrl] at q1 q2
        refine ⟨a2, c2, W2, q1, ?_, ?_⟩
        · rw [HNx.out]
          exact q2
        · refine Ch.gb (S := fun k => (Value.slice oa z oc).ownBlock = some k) ((Ch.of_gb (S := fun k => (Value.slice oa z oc).ownBlock = some k) hW (fun k hk => by cases hk)).trans q3 (fun _ _ e => e)) (fun k hk e => ?_)
          obtain ⟨vs, p1, -⟩ := (HG.out C).2
          have := (World.ownsRow.lt p1 k e).1
          omega
      have HR2 : Hid (∀ C, Calls Tryz.prog 14 #[.agg #[.string (ByteArray.mk ⟨(l.getD z xZ).1.rcv⟩), .string (ByteArray.mk ⟨(l.getD z xZ).1.key⟩), .int .i64 (l.getD z xZ).1.tim, .slice fa fn fc, .slice sa sn sc]] (wr.alloc C) fun e w' => ∃ a1 n1 c1, e = .returned (.tuple #[.slice a1 n1 c1, .int .i64 (rightM (l.getD z xZ).1)]) ∧ Hid (Own w' (wr.alloc C).heap.size (.slice a1 n1 c1) (recS (l.getD z xZ).1) ∧ (wr.alloc C).grownBy w' none)) := fun C => by
        have := HRc.out z hzl (wr.alloc C) (HG.out C).1
        unfold markV at this
        rw [ef, es] at this
        exact this
      clear hr HE HG HNx HRc ef es hrl HBx HFin
      generalize ByteArray.mk ⟨(l.getD z xZ).1.rcv⟩ = br at *
      generalize ByteArray.mk ⟨(l.getD z xZ).1.key⟩ = bk at *
      generalize (l.getD z xZ).1.tim = tm at *
      generalize recS (l.getD z xZ).1 = rs at *
      generalize rightM (l.getD z xZ).1 = rm at *
      go_wp2_with fail
      refine (HR2.out _).mono ?_
      rintro e w1 ⟨a1, n1, c1, rfl, q0⟩
      obtain ⟨a2, c2, W2, q1, q2⟩ := HPu.out _ w1 _ q0.out.2 q0.out.1
      have R1 := hidJ q1
      clear HPu HR2 q1 q0
      go_wp2_with (at_builtin; refine wp_appRun rfl (.tmp 22) (.tmp 24) 67 rfl _ _ _ rfl rfl R1.out ?_)
      clear R1
      go_wp2
      go_roundw
      case rel => exact ⟨z + 1, a2, c2, by omega, by go_num, rfl, q2.out⟩
      case measure => simp [intOf]; omega
    · have hzi : ¬ (z : Int) < (l.length : Int) := by omega
      have hzn : z = l.length := by omega
      subst hzn
      have ho := hr.out.1
      rw [List.take_length] at ho
      have HF := hidJ (HFin.out wr oa l.length oc rfl ho hr.out.2)
      clear hr ho HFin HE HBx HRc
      go_wp2
      exact HF.out
end Go.Proofs.YtfmgkpgflbidkaaGreatDoorR
