/-
  Nfp, Nh9, Nha, Nhb, Nk9, Nka, in one text.
-/
import Derived.Test.YtpglhdnepmcahaaGreatDoorNkB
import Derived.Test.YtpglhdnepmcahaaGreatDoorHmB
import Derived.Test.YtpglhdnepmcahaaGreatDoorLbBq
import Derived.Test.YtpglhdnepmcahaaGreatDoorNkF
/- Nfp -/
namespace Go.Proofs.YtpglhdnepmcahaaGreatDoor
open Go.RowKit Go.Shelf Go.Sort

set_option maxRecDepth 8000 in
set_option maxHeartbeats 12800000 in
theorem refRightM_any (w : World) (m : MkR) (f s : Value) (h : RdM w m f s) :
    Calls Tryz.prog 47 #[markV m f s] w fun e w' => e = .returned (.int .i64 (rightM m)) ∧ w.grownBy w' none := by
  have HR : Hid (rightM m = if txtB m.rcv 64 = false then 204 else if txtB m.key 65536 = false then 40 else if timB m.tim = false then 1 else if 500 < m.fir.length ∨ 500 < m.res.length then 8 else if riseB m.fir = false ∨ riseB m.res = false then 41 else 0) := rfl
  have H1 : Hid (∀ W, Calls Tryz.prog 75 #[.string (ByteArray.mk ⟨m.rcv⟩)] W fun e w' => e = .returned (.bool (Lib.validD m.rcv)) ∧ W.grownBy w' none) := fun W => utf8_walk W m.rcv h.inr
  have H2 : Hid (∀ W, Calls Tryz.prog 75 #[.string (ByteArray.mk ⟨m.key⟩)] W fun e w' => e = .returned (.bool (Lib.validD m.key)) ∧ W.grownBy w' none) := fun W => utf8_walk W m.key h.ink
  have H3 : Hid (∀ W, Calls Tryz.prog 58 #[.int .i64 m.tim] W fun e w' => e = .returned (.bool (timB m.tim)) ∧ w' = W) := fun W => refTimeN_any m.tim W
  have H4 : Hid (∀ W, w.grownBy W none → Calls Tryz.prog 78 #[f] W fun e w' => e = .returned (.bool (riseB m.fir)) ∧ W.grownBy w' none) := fun W hW => refRising_any W f m.fir (h.fir.keep hW) h.inF
  have H5 : Hid (∀ W, w.grownBy W none → Calls Tryz.prog 78 #[s] W fun e w' => e = .returned (.bool (riseB m.res)) ∧ W.grownBy w' none) := fun W hW => refRising_any W s m.res (h.res.keep hW) h.inR
  have hT1 : txtB m.rcv 64 = (decide (m.rcv ≠ []) && (decide (m.rcv.length ≤ 64) && Lib.validD m.rcv)) := rfl
  have hT2 : txtB m.key 65536 = (decide (m.key ≠ []) && (decide (m.key.length ≤ 65536) && Lib.validD m.key)) := rfl
  have hr0 := h.inr
  have hk0 := h.ink
  have ze1 : (ByteArray.mk ⟨m.rcv⟩).size = m.rcv.length := rfl
  have ze2 : (ByteArray.mk ⟨m.key⟩).size = m.key.length := rfl
  have em1 : (ByteArray.mk ⟨m.rcv⟩).toList.isEmpty = decide (m.rcv = []) := by
    rw [ByteArray.toList_eq]
    cases m.rcv <;> rfl
  have em1' : ((ByteArray.mk ⟨m.rcv⟩).toList = []) = (m.rcv = []) := by rw [ByteArray.toList_eq]
  have em2 : (ByteArray.mk ⟨m.key⟩).toList.isEmpty = decide (m.key = []) := by
    rw [ByteArray.toList_eq]
    cases m.key <;> rfl
  have em2' : ((ByteArray.mk ⟨m.key⟩).toList = []) = (m.key = []) := by rw [ByteArray.toList_eq]
  obtain ⟨fa, fc, hf, hf1, hf2⟩ := h.fir.shape
  obtain ⟨sa, sc, hs, hs1, hs2⟩ := h.res.shape
  subst hf hs
  unfold markV
  have HB := hidJ (And.intro (B5.new w 34 (.string (ByteArray.mk ⟨m.rcv⟩)) (.string (ByteArray.mk ⟨m.key⟩)) (.int .i64 m.tim) (.slice fa m.fir.length fc) (.slice sa m.res.length sc)) (World.grownBy_alloc w (.cells #[.string (ByteArray.mk ⟨m.rcv⟩), .string (ByteArray.mk ⟨m.key⟩), .int .i64 m.tim, .slice fa m.fir.length fc, .slice sa m.res.length sc] 34) none))
  obtain ⟨nf, hnf⟩ : ∃ nf, m.fir.length = nf := ⟨_, rfl⟩
  obtain ⟨ns, hns⟩ : ∃ ns, m.res.length = ns := ⟨_, rfl⟩
  rw [hnf] at H4 HB HR hf1
  rw [hns] at H5 HB HR hs1
  rw [hnf, hns]
  clear h hnf hns
  have HT1 := hidJ hT1
  have HT2 := hidJ hT2
  clear hT1 hT2
  generalize rightM m = R at *
  generalize Lib.validD m.rcv = v1 at *
  generalize Lib.validD m.key = v2 at *
  generalize txtB m.rcv 64 = t1 at *
  generalize txtB m.key 65536 = t2 at *
  generalize timB m.tim = t3 at *
  generalize riseB m.fir = t4 at *
  generalize riseB m.res = t5 at *
  generalize ByteArray.mk ⟨m.rcv⟩ = br at *
  generalize ByteArray.mk ⟨m.key⟩ = bk at *
  generalize m.tim = tm at *
  obtain ⟨lr, hlr⟩ : ∃ lr, m.rcv.length = lr := ⟨_, rfl⟩
  obtain ⟨lk, hlk⟩ : ∃ lk, m.key.length = lk := ⟨_, rfl⟩
  have hrn : (m.rcv = []) = (lr = 0) := by rw [← hlr, List.length_eq_zero_iff]
  have hkn : (m.key = []) = (lk = 0) := by rw [← hlk, List.length_eq_zero_iff]
  simp only [ne_eq, hrn, hlr] at HT1 em1 em1' ze1 hr0
  simp only [ne_eq, hkn, hlk] at HT2 em2 em2' ze2 hk0
  clear hrn hkn hlr hlk
  have e204 : t1 = false → R = 204 := fun e => by rw [HR.out, e]; rfl
  have e40 : t1 = true → t2 = false → R = 40 := fun e1 e2 => by rw [HR.out, e1, e2]; rfl
  have E204 := hidJ e204
  have E40 := hidJ e40
  clear e204 e40
  by_cases r0 : lr = 0
  · have hR := E204.out (by rw [HT1.out]; simp [r0])
    subst hR
    subst r0
    have em3 : br.toList = [] := by rw [em1']
    rw [decide_eq_true rfl] at em1
    clear em1' E40 E204 HR
    go_enter Tryz.func47, Tryz.ntmps47
    go_wp2
    go_ret
    exact ⟨rfl, HB.out.2⟩
  have em3 : ¬ br.toList = [] := by rw [em1']; exact r0
  rw [decide_eq_false r0] at em1
  clear em1'
  by_cases r1 : 64 < lr
  · have hR := E204.out (by rw [HT1.out, decide_eq_false (show ¬ lr ≤ 64 by omega)]; simp)
    subst hR
    have r1i : (64 : Int) < (lr : Int) := by omega
    clear E40 E204 HR
    go_enter Tryz.func47, Tryz.ntmps47
    go_wp2
    go_ret
    exact ⟨rfl, HB.out.2⟩
  have r1i : ¬ (64 : Int) < (lr : Int) := by omega
  have hv1 : t1 = v1 := by rw [HT1.out, decide_eq_true (show lr ≤ 64 by omega)]; simp [r0]
  subst hv1
  clear HT1
  go_enter Tryz.func47, Tryz.ntmps47
  go_wp2_with fail
  refine (H1.out _).mono ?_
  rintro e w1 ⟨rfl, g1⟩
  have HB := hidJ (And.intro (HB.out.1.keep g1) (gb_none HB.out.2 g1))
  clear g1 H1
  cases t1
  · have hR := E204.out rfl
    subst hR
    go_wp2
    go_ret
    exact ⟨rfl, HB.out.2⟩
  obtain ⟨-, c1, -, -, -⟩ := HB.out.1.cells
  by_cases k0 : lk = 0
  · have hR := E40.out (by first | rfl | trivial) (by rw [HT2.out]; simp [k0])
    subst hR
    subst k0
    have em4 : bk.toList = [] := by rw [em2']
    rw [decide_eq_true rfl] at em2
    clear em2' E40 E204 HR
    go_wp2
    go_ret
    exact ⟨rfl, HB.out.2⟩
  have em4 : ¬ bk.toList = [] := by rw [em2']; exact k0
  rw [decide_eq_false k0] at em2
  clear em2'
  by_cases k1 : 65536 < lk
  · have hR := E40.out (by first | rfl | trivial) (by rw [HT2.out, decide_eq_false (show ¬ lk ≤ 65536 by omega)]; simp)
    subst hR
    have k1i : (65536 : Int) < (lk : Int) := by omega
    clear E40 E204 HR
    go_wp2
    go_ret
    exact ⟨rfl, HB.out.2⟩
  have k1i : ¬ (65536 : Int) < (lk : Int) := by omega
  have hv2 : t2 = v2 := by rw [HT2.out, decide_eq_true (show lk ≤ 65536 by omega)]; simp [k0]
  subst hv2
  clear HT2
  go_wp2_with fail
  clear c1
  refine (H2.out _).mono ?_
  rintro e w2 ⟨rfl, g1⟩
  have HB := hidJ (And.intro (HB.out.1.keep g1) (gb_none HB.out.2 g1))
  clear g1 H2
  cases t2
  · have hR := E40.out (by first | rfl | trivial) (by first | rfl | trivial)
    subst hR
    go_wp2
    go_ret
    exact ⟨rfl, HB.out.2⟩
  clear E40 E204
  obtain ⟨-, -, c2, c3, c4⟩ := HB.out.1.cells
  go_wp2_with fail
  refine (H3.out _).mono ?_
  rintro e w3 ⟨rfl, h3⟩
  have h3 := h3.symm
  subst h3
  clear H3
  cases t3
  · have hR : R = 1 := by rw [HR.out]; rfl
    subst hR
    go_wp2
    go_ret
    exact ⟨rfl, HB.out.2⟩
  by_cases h5 : 500 < nf
  · have hR : R = 8 := by rw [HR.out]; simp [h5]
    subst hR
    have h5i : (500 : Int) < (nf : Int) := by omega
    go_wp2
    go_ret
    exact ⟨rfl, HB.out.2⟩
  have h5i : ¬ (500 : Int) < (nf : Int) := by omega
  by_cases h6 : 500 < ns
  · have hR : R = 8 := by rw [HR.out]; simp [h6]
    subst hR
    have h6i : (500 : Int) < (ns : Int) := by omega
    go_wp2
    go_ret
    exact ⟨rfl, HB.out.2⟩
  have h6i : ¬ (500 : Int) < (ns : Int) := by omega
  have HR2 : Hid (R = if t4 = false ∨ t5 = false then 41 else 0) := by
    show R = _
    rw [HR.out]
    simp [h5, h6]
  clear HR h5 h6
  go_wp2_with fail
  clear c2 c3 c4
  refine (H4.out _ HB.out.2).mono ?_
  rintro e w4 ⟨rfl, g1⟩
  have HB := hidJ (And.intro (HB.out.1.keep g1) (gb_none HB.out.2 g1))
  clear g1 H4
  cases t4
  · have hR : R = 41 := by rw [HR2.out]; rfl
    subst hR
    go_wp2
    go_ret
    exact ⟨rfl, HB.out.2⟩
  obtain ⟨-, -, -, -, c4⟩ := HB.out.1.cells
  go_wp2_with fail
  clear c4
  refine (H5.out _ HB.out.2).mono ?_
  rintro e w5 ⟨rfl, g1⟩
  have HB := hidJ (And.intro (HB.out.1.keep g1) (gb_none HB.out.2 g1))
  clear g1 H5
  cases t5
  · have hR : R = 41 := by rw [HR2.out]; rfl
    subst hR
    go_wp2
    go_ret
    exact ⟨rfl, HB.out.2⟩
  · have hR : R = 0 := by rw [HR2.out]; rfl
    subst hR
    go_wp2
    go_ret
    exact ⟨rfl, HB.out.2⟩
end Go.Proofs.YtpglhdnepmcahaaGreatDoor

/- Nh9 -/
namespace Go.Proofs.YtpglhdnepmcahaaGreatDoor
open Go.RowKit Go.Shelf Go.Sort

def lsY (m : MkR) (y : Nat) : List (List LbT) := if y = 0 then m.fir else m.res
def ouB (m : MkR) (y : Nat) : List UInt8 := if y = 0 then headB m else if y = 1 then headB m ++ setsB m.fir else recB m
theorem ouB_next (m : MkR) {y : Nat} (hy : y < 2) : ouB m (y + 1) = ouB m y ++ setsB (lsY m y) := by
  have : y = 0 ∨ y = 1 := by omega
  rcases this with rfl | rfl
  · rfl
  · rfl
theorem ouB_len {m : MkR} (h : rightM m = 0) (y : Nat) : (ouB m y).length ≤ 9000000 := by
  have h1 := headB_len h
  have hs := right_sets h
  have hl := right_len h
  have h2 := setsB_len hs.1 hl.1
  have h3 := setsB_len hs.2 hl.2
  unfold ouB
  split
  · omega
  · split
    · rw [List.length_append]
      omega
    · rw [recB_head, List.length_append, List.length_append]
      omega
set_option maxRecDepth 8000 in
set_option maxHeartbeats 12800000 in
theorem refRecord_any (w : World) (m : MkR) (f s : Value) (h : RdM w m f s) :
    Calls Tryz.prog 59 #[markV m f s] w fun e w' => ∃ a1 n1 c1, e = .returned (.tuple #[.slice a1 n1 c1, .int .i64 (rightM m)]) ∧ Own w' w.heap.size (.slice a1 n1 c1) (recS m) ∧ w.grownBy w' none := by
  obtain ⟨fa, fc, ef, -⟩ := h.fir.shape
  obtain ⟨sa, sc, es, -⟩ := h.res.shape
  subst ef es
  have HB := hidJ (And.intro (B5.new w 34 (.string (ByteArray.mk ⟨m.rcv⟩)) (.string (ByteArray.mk ⟨m.key⟩)) (.int .i64 m.tim) (.slice fa m.fir.length fc) (.slice sa m.res.length sc)) (World.grownBy_alloc w (.cells #[.string (ByteArray.mk ⟨m.rcv⟩), .string (ByteArray.mk ⟨m.key⟩), .int .i64 m.tim, .slice fa m.fir.length fc, .slice sa m.res.length sc] 34) none))
  have HRi : Hid (∀ W, w.grownBy W none → Calls Tryz.prog 47 #[markV m (.slice fa m.fir.length fc) (.slice sa m.res.length sc)] W fun e w' => e = .returned (.int .i64 (rightM m)) ∧ W.grownBy w' none) := fun W hW => refRightM_any W m _ _ (h.keep hW)
  have HN : Hid (rightM m ≠ 0 → ∀ W, Own W w.heap.size (.slice none 0 0) (recS m)) := fun hR W => by
    unfold recS
    rw [if_neg hR]
    exact Own.nil _ _
  by_cases hR : rightM m = 0
  · have HM := hidJ (And.intro h hR)
    obtain ⟨⟨t1, -⟩, ⟨t2, -⟩, t3⟩ := right_txt hR
    have u1 := uv_10 (n := m.rcv.length) (by omega)
    have u2 := uv_10 (n := m.key.length) (by omega)
    have HP1 : Hid (∀ W, Calls Tryz.prog 88 #[.slice none 0 0, .string (ByteArray.mk ⟨m.rcv⟩)] W fun e w' => ∃ a1 n1 c1, e = .returned (.slice a1 n1 c1) ∧ Hid (Own w' W.heap.size (.slice a1 n1 c1) (uv m.rcv.length ++ m.rcv) ∧ W.grownBy w' none)) := fun W => by
      refine (refPutText_any (.slice none 0 0) [] m.rcv W (Rd.nil W) (by simp; omega)).mono ?_
      rintro e w' ⟨v', rfl, q1, q2⟩
      obtain ⟨a1, c1, e1⟩ := q1.shape
      subst e1
      exact ⟨a1, _, c1, rfl, (by simpa using q1), q2⟩
    have HP2 : Hid (∀ W v, Rd W v (uv m.rcv.length ++ m.rcv) → Calls Tryz.prog 88 #[v, .string (ByteArray.mk ⟨m.key⟩)] W fun e w' => ∃ a1 n1 c1, e = .returned (.slice a1 n1 c1) ∧ Hid (Own w' W.heap.size (.slice a1 n1 c1) (uv m.rcv.length ++ m.rcv ++ (uv m.key.length ++ m.key)) ∧ W.grownBy w' none)) := fun W v hv => by
      refine (refPutText_any v _ m.key W hv (by simp only [List.length_append]; omega)).mono ?_
      rintro e w' ⟨v', rfl, q1, q2⟩
      obtain ⟨a1, c1, e1⟩ := q1.shape
      subst e1
      exact ⟨a1, _, c1, rfl, (by simpa using q1), q2⟩
    have HP3 : Hid (∀ W v, Rd W v (uv m.rcv.length ++ m.rcv ++ (uv m.key.length ++ m.key)) → Calls Tryz.prog 89 #[v, .int .i64 m.tim] W fun e w' => ∃ a1 n1 c1, e = .returned (.slice a1 n1 c1) ∧ Hid (Own w' W.heap.size (.slice a1 n1 c1) (ouB m 0) ∧ W.grownBy w' none)) := fun W v hv => by
      refine (refPutI_any v _ m.tim W hv (by simp only [List.length_append]; omega) (zz_lt HM.out.2).1 (zz_lt HM.out.2).2).mono ?_
      rintro e w' ⟨v', rfl, q1, q2⟩
      obtain ⟨a1, c1, e1⟩ := q1.shape
      subst e1
      exact ⟨a1, _, c1, rfl, q1, q2⟩
    have hset := right_sets hR
    have hlen := right_len hR
    have HY : Hid (∀ y, y < 2 → allR (lsY m y) = true ∧ (lsY m y).length ≤ 500) := fun y hy => by
      have : y = 0 ∨ y = 1 := by omega
      rcases this with rfl | rfl
      · exact ⟨hset.1, hlen.1⟩
      · exact ⟨hset.2, hlen.2⟩
    have HPu : Hid (∀ W v y, y < 2 → Rd W v (ouB m y) → Calls Tryz.prog 90 #[v, .int .u64 ((lsY m y).length : Int)] W fun e w' => ∃ a1 n1 c1, e = .returned (.slice a1 n1 c1) ∧ Hid (Rd w' (.slice a1 n1 c1) (ouB m y ++ (uv (lsY m y).length ++ ((lsY m y).take 0).flatMap setB)) ∧ Own w' W.heap.size (.slice a1 n1 c1) (ouB m y ++ (uv (lsY m y).length ++ ((lsY m y).take 0).flatMap setB)) ∧ W.grownBy w' none)) := fun W v y hy hv => by
      have hb := ouB_len HM.out.2 y
      have hly := (HY.out y hy).2
      have h := refPutU_any v (ouB m y) (BitVec.ofNat 64 (lsY m y).length) W hv (by omega)
      rw [I64_of (by omega), show (BitVec.ofNat 64 (lsY m y).length).toNat = (lsY m y).length by rw [BitVec.toNat_ofNat]; exact Nat.mod_eq_of_lt (by omega)] at h
      refine h.mono ?_
      rintro e w' ⟨v', rfl, q1, q2⟩
      obtain ⟨a1, c1, e1⟩ := q1.shape
      subst e1
      exact ⟨a1, _, c1, rfl, (by simpa using q1.rd), (by simpa using q1), q2⟩
    have HPt : Hid (∀ W v u y z, y < 2 → z < (lsY m y).length → Rd W v (ouB m y ++ (uv (lsY m y).length ++ ((lsY m y).take z).flatMap setB)) → RdL W u ((lsY m y).getD z []) → Calls Tryz.prog 91 #[v, u] W fun e w' => ∃ a1 n1 c1, e = .returned (.tuple #[.slice a1 n1 c1, .int .i64 0]) ∧ Hid (Own w' W.heap.size (.slice a1 n1 c1) (ouB m y ++ (uv (lsY m y).length ++ ((lsY m y).take (z + 1)).flatMap setB)) ∧ W.grownBy w' none)) := fun W v u y z hy hz hv hu => by
      have hr : (rightS ((lsY m y).getD z [])).1 = 0 := by
        have : (lsY m y).getD z [] = (lsY m y)[z] := by simp [List.getD, hz]
        rw [this]
        exact allR_mem (HY.out y hy).1 _ (by simp)
      have hb := ouB_len HM.out.2 y
      have hb2 := setsAt_len (HY.out y hy).1 (HY.out y hy).2 z
      have h := refPut_any W v u _ ((lsY m y).getD z []) hv (by rw [List.length_append]; omega) hu (right_in hr)
      rw [putS_nil _ hr] at h
      refine h.mono ?_
      rintro e w' ⟨v', rfl, q1, q2⟩
      obtain ⟨a1, c1, e1⟩ := q1.shape
      subst e1
      refine ⟨a1, _, c1, rfl, ?_, q2⟩
      rw [sets_next hz]
      simpa using q1
    have HNx : Hid (∀ y, y < 2 → ouB m y ++ (uv (lsY m y).length ++ ((lsY m y).take (lsY m y).length).flatMap setB) = ouB m (y + 1)) := fun y hy => by
      rw [ouB_next m hy, List.take_length]
      rfl
    have HFin : Hid (ouB m 2 = recS m) := by
      show _ = _
      unfold recS
      rw [if_pos hR]
      rfl
    have HCe : Hid (∀ W lb, w.grownBy W none → W.heap[lb]? = some (.cells #[.slice fa m.fir.length fc, .slice sa m.res.length sc] 32 (0, 0)) → ∀ y, y < 2 → ∃ ya yc, W.cell? ⟨lb, y, none⟩ = some (.slice ya (lsY m y).length yc) ∧ RdLL W (.slice ya (lsY m y).length yc) (lsY m y)) := fun W lb hW hb y hy => by
      have : y = 0 ∨ y = 1 := by omega
      rcases this with rfl | rfl
      · exact ⟨fa, fc, by simp [World.cell?, hb, lsY], HM.out.1.fir.keep hW⟩
      · exact ⟨sa, sc, by simp [World.cell?, hb, lsY], HM.out.1.res.keep hW⟩
    have HYl := hidJ (fun y hy => (HY.out y hy).2)
    clear HM h t1 t2 t3 u1 u2 hset hlen HY HN
    unfold markV at HRi
    unfold markV
    rw [hR] at HRi
    rw [hR]
    clear hR
    generalize recS m = rB at *
    generalize uv m.rcv.length ++ m.rcv = b1 at *
    generalize uv m.key.length ++ m.key = b2 at *
    generalize ByteArray.mk ⟨m.rcv⟩ = br at *
    generalize ByteArray.mk ⟨m.key⟩ = bk at *
    generalize m.tim = tm at *
    generalize m.fir.length = nf at *
    generalize m.res.length = ns at *
    go_enter Tryz.func59, Tryz.ntmps59
    go_wp2_with fail
    refine (HRi.out _ HB.out.2).mono ?_
    rintro e w1 ⟨rfl, q1⟩
    have HB1 := hidJ (And.intro (HB.out.1.keep q1) (gb_none HB.out.2 q1))
    clear HB HRi q1
    obtain ⟨c0, c1, c2, c3, c4⟩ := HB1.out.1.cells
    have HC1 : Hid (Calls Tryz.prog 88 #[.slice none 0 0, .string br] w1.drew fun e w' => ∃ a1 n1 x1, e = .returned (.slice a1 n1 x1) ∧ (w'.cell? ⟨w.heap.size, 0, none⟩ = some (.string br) ∧ w'.cell? ⟨w.heap.size, 1, none⟩ = some (.string bk)) ∧ Hid (Calls Tryz.prog 88 #[.slice a1 n1 x1, .string bk] w' fun e w'' => ∃ a2 n2 x2, e = .returned (.slice a2 n2 x2) ∧ (w''.cell? ⟨w.heap.size, 0, none⟩ = some (.string br) ∧ w''.cell? ⟨w.heap.size, 1, none⟩ = some (.string bk)) ∧ Hid (Rd w'' (.slice a2 n2 x2) (b1 ++ b2) ∧ w1.grownBy w'' none))) := by
      refine (HP1.out w1.drew).mono ?_
      rintro e w' ⟨a1, n1, x1, rfl, q1⟩
      have g1 := gb_none (gb_drew w1 none) q1.out.2
      have d1 := (HB1.out.1.keep g1).cells
      refine ⟨a1, n1, x1, rfl, ⟨d1.1, d1.2.1⟩, (HP2.out w' _ q1.out.1.rd).mono ?_⟩
      rintro e w'' ⟨a2, n2, x2, rfl, q2⟩
      have g2 := gb_none g1 q2.out.2
      have d2 := (HB1.out.1.keep g2).cells
      exact ⟨a2, n2, x2, rfl, ⟨d2.1, d2.2.1⟩, q2.out.1.rd, g2⟩
    clear HP1 HP2
    go_wp2
    go_region_held3 (fun w' => w'.cell? ⟨w.heap.size, 0, none⟩ = some (.string br) ∧ w'.cell? ⟨w.heap.size, 1, none⟩ = some (.string bk)) (go_keep)
      (first
        | (go_at_call 88; with_reducible refine HC1.out.mono ?_; rintro e w2 ⟨a1, n1, x1, rfl, ⟨j0, j1⟩, H2⟩)
        | (go_at_call 88; with_reducible refine H2.out.mono ?_; rintro e w3 ⟨a2, n2, x2, rfl, ⟨l0, l1⟩, H3⟩))
    clear HC1 H2 j0 j1 l0 l1 c0 c1 c2 c3 c4
    obtain ⟨-, -, c2, -, -⟩ := (HB1.out.1.keep H3.out.2).cells
    go_wp2_with fail
    refine (HP3.out _ _ H3.out.1).mono ?_
    rintro e w4 ⟨a3, n3, x3, rfl, H4⟩
    have g4 := gb_none H3.out.2 H4.out.2
    obtain ⟨-, -, -, c3, c4⟩ := (HB1.out.1.keep g4).cells
    have HW4 := hidJ (gb_none HB1.out.2 g4)
    have HO4 := hidJ (H4.out.1.mono (Nat.le_trans HB1.out.2.size H3.out.2.size))
    clear HP3 H3 H4 c2 g4 HB1
    have HL := hidJ (Go.heap_alloc_new w4 (.cells #[.slice fa nf fc, .slice sa ns sc] 32))
    have HG := hidJ (World.grownBy_alloc w4 (.cells #[.slice fa nf fc, .slice sa ns sc] 32) none)
    have HCe2 : Hid (∀ W, (w4.alloc (.cells #[.slice fa nf fc, .slice sa ns sc] 32)).grownBy W none → ∀ y, y < 2 → ∃ ya yc, W.cell? ⟨w4.heap.size, y, none⟩ = some (.slice ya (lsY m y).length yc) ∧ RdLL W (.slice ya (lsY m y).length yc) (lsY m y)) := fun W hW y hy => HCe.out W w4.heap.size (gb_none (gb_none HW4.out HG.out) hW) ((hW.block _ (some_lt HL.out) (by simp)).trans HL.out) y hy
    have HO5 := hidJ (HO4.out.keep HG.out)
    have HW5 := hidJ (gb_none HW4.out HG.out)
    go_wp2
    clear c3 c4 HL HG HO4 HCe HW4
    generalize w4.alloc (.cells #[.slice fa nf fc, .slice sa ns sc] 32) = WL at *
    generalize w4.heap.size = lb at *
    go_loopw [5, 33] (fun o i wr => ∃ (y : Nat) (a : Option Addr) (n c : Nat), y ≤ 2 ∧ i = .int .i64 y ∧ o = .slice a n c ∧ Hid (Own wr w.heap.size (.slice a n c) (ouB m y) ∧ WL.grownBy wr none)) (fun _ i _ => 2 - (intOf i).toNat)
    case atStart => exact ⟨0, a3, n3, x3, by omega, rfl, rfl, HO5.out, gb_refl _ _⟩
    case round =>
      obtain ⟨y, oa, on, oc, hy2, rfl, rfl, hr⟩ := hrel
      clear HO5
      by_cases hyl : y < 2
      · have hyi : (y : Int) < 2 := by omega
        obtain ⟨ya, yc, d0, hrd⟩ := HCe2.out wr hr.out.2 y hyl
        have HRd := hidJ hrd
        have HG := hidJ hr.out.2
        have HZ := hidJ (Nat.le_trans HW5.out.size hr.out.2.size)
        have HPu2 := hidJ (HPu.out wr (.slice oa on oc) y hyl hr.out.1.rd)
        have HPt2 := hidJ (fun W v u z => HPt.out W v u y z hyl)
        have HNx2 := hidJ (HNx.out y hyl)
        have HYl5 := hidJ (HYl.out y hyl)
        clear hr hrd HPu HPt HNx HCe2
        obtain ⟨L, hL⟩ : ∃ L, L = lsY m y := ⟨_, rfl⟩
        obtain ⟨O, hO⟩ : ∃ O, O = ouB m y := ⟨_, rfl⟩
        rw [← hL] at HRd d0 HPu2 HPt2 HNx2 HYl5
        rw [← hO] at HPu2 HPt2 HNx2
        clear hL hO
        obtain ⟨yn, hyn⟩ : ∃ yn, L.length = yn := ⟨_, rfl⟩
        have HLn := hidJ hyn
        rw [hyn] at HRd d0 HPu2 HPt2 HNx2
        clear hyn
        have hyn5 : yn ≤ 500 := by have := HYl5.out; have := HLn.out; omega
        go_wp2_with fail
        refine HPu2.out.mono ?_
        rintro e w5 ⟨a5, n5, x5, rfl, H5⟩
        have HO := hidJ (And.intro (H5.out.2.1.mono HZ.out) (gb_none HG.out H5.out.2.2))
        have HAt : Hid (∀ W z, w5.grownBy W none → z < yn → ∃ b o a' c', ya = some ⟨b, o, none⟩ ∧ W.cell? ⟨b, o + z, none⟩ = some (.slice a' (L.getD z []).length c') ∧ RdL W (.slice a' (L.getD z []).length c') (L.getD z [])) := fun W z hW hz => ((HRd.out.keep H5.out.2.2).keep hW).at (by rw [HLn.out]; exact hz)
        have HK5 := hidJ (gb_none HG.out H5.out.2.2)
        clear HPu2 H5 HRd d0 HG
        go_wp2
        go_loopw [5, 44] (fun o i wr => ∃ (z : Nat) (a : Option Addr) (n c : Nat), z ≤ yn ∧ i = .int .i64 z ∧ o = .slice a n c ∧ Hid (Own wr w.heap.size (.slice a n c) (O ++ (uv yn ++ (L.take z).flatMap setB)) ∧ w5.grownBy wr none)) (fun _ i _ => yn - (intOf i).toNat)
        case atStart => exact ⟨0, a5, n5, x5, by omega, rfl, rfl, HO.out.1, gb_refl _ _⟩
        case round =>
          obtain ⟨z, ra, rn, rc, hzN, rfl, rfl, hr⟩ := hrel
          clear HO
          by_cases hzl : z < yn
          · have hzi : (z : Int) < (yn : Int) := by omega
            obtain ⟨b, o, a', c', rfl, e0, hrd⟩ := HAt.out wr z hr.out.2 hzl
            have HP4 := hidJ (HPt2.out wr (.slice ra rn rc) _ z hzl hr.out.1.rd hrd)
            have HG := hidJ (And.intro hr.out.2 (Nat.le_trans (Nat.le_trans HW5.out.size HK5.out.size) hr.out.2.size))
            clear hrd hr HAt HPt2
            generalize (L.getD z []).length = hn at *
            go_wp2_with fail
            refine HP4.out.mono ?_
            rintro e w6 ⟨a6, n6, x6, rfl, H6⟩
            have H7 := hidJ (And.intro (H6.out.1.mono HG.out.2) (gb_none HG.out.1 H6.out.2))
            clear HP4 H6 HG e0
            go_wp2
            go_roundw
            case rel => exact ⟨z + 1, a6, n6, x6, by omega, by go_num, rfl, H7.out⟩
            case measure => simp [intOf]; omega
          · have hzi : ¬ (z : Int) < (yn : Int) := by omega
            have hzn : z = yn := by omega
            subst hzn
            have HG := hidJ (And.intro hr.out.1 (gb_none HK5.out hr.out.2))
            rw [HNx2.out] at HG
            clear hr HNx2 HAt HPt2
            go_wp2
            go_roundw
            case rel => exact ⟨y + 1, ra, rn, rc, by omega, by go_num, rfl, HG.out⟩
            case measure => simp [intOf]; omega
      · have hyi : ¬ (y : Int) < 2 := by omega
        have hy3 : y = 2 := by omega
        subst hy3
        have HF := hidJ (And.intro hr.out.1 (gb_none HW5.out hr.out.2))
        rw [HFin.out] at HF
        clear hr HCe2 HPu HPt HNx HFin HW5
        go_wp2
        go_ret2
        exact ⟨_, _, _, rfl, HF.out⟩
  · have hRb : (rightM m == 0) = false := by rw [beq_eq_false_iff_ne]; exact hR
    have HF := hidJ (HN.out hR)
    clear HN h
    unfold markV at HRi
    unfold markV
    generalize recS m = rB at *
    generalize rightM m = R at *
    generalize ByteArray.mk ⟨m.rcv⟩ = br at *
    generalize ByteArray.mk ⟨m.key⟩ = bk at *
    generalize m.tim = tm at *
    generalize m.fir.length = nf at *
    generalize m.res.length = ns at *
    go_enter Tryz.func59, Tryz.ntmps59
    go_wp2_with fail
    refine (HRi.out _ HB.out.2).mono ?_
    rintro e w1 ⟨rfl, q1⟩
    have HG := hidJ (And.intro (HF.out w1) (gb_none HB.out.2 q1))
    clear HB HRi q1 HF
    go_wp2
    go_ret2
    exact ⟨_, _, _, rfl, HG.out⟩
end Go.Proofs.YtpglhdnepmcahaaGreatDoor

/- Nha -/
namespace Go.Proofs.YtpglhdnepmcahaaGreatDoor
open Go.RowKit Go.Shelf Go.Sort

/-- the document's Read between two parts: the answer's cell, the mark so far -/
structure RD (w W : World) (gm : Nat) (x y z u v : Value) : Prop where
  gb : w.grownBy W none
  res : B5 W w.heap.size 34 (.string ⟨#[]⟩) (.string ⟨#[]⟩) (.int .i64 0) (.slice none 0 0) (.slice none 0 0)
  mrk : B5 W gm 34 x y z u v
  d1 : w.heap.size < gm
theorem RD.keep {w W W' : World} {gm : Nat} {x y z u v : Value} (h : RD w W gm x y z u v) (hg : W.grownBy W' none) : RD w W' gm x y z u v := ⟨gb_none h.gb hg, h.res.keep hg, h.mrk.keep hg, h.d1⟩
theorem RD.put {w W W' : World} {gm : Nat} {x y z u v x' y' z' u' v' : Value} (h : RD w W gm x y z u v) (hc : Ch W W' (fun k => k = gm)) (hm : B5 W' gm 34 x' y' z' u' v') : RD w W' gm x' y' z' u' v' := by
  have := h.d1
  exact ⟨gb_ch h.gb hc (fun k hk => by omega), h.res.ch hc (by omega), hm, h.d1⟩
theorem readM_no {l : List UInt8} (h : (partsM l).2.2 ≠ 0) : readM l = (mZ0, 3) := by
  unfold readM
  rw [if_neg (fun k => h k.1)]
/-- the places and faults between the two lists -/
def qP (l : List UInt8) (p f : Int) (y : Nat) : Int × Int := if y = 0 then (p, f) else if y = 1 then (setsF l p f).2 else (setsF l (setsF l p f).2.1 (setsF l p f).2.2).2
def qS (l : List UInt8) (p f : Int) (y : Nat) : List (List LbT) := if y = 0 then (setsF l p f).1 else (setsF l (setsF l p f).2.1 (setsF l p f).2.2).1
theorem q_next (l : List UInt8) (p f : Int) {y : Nat} (hy : y < 2) : setsF l (qP l p f y).1 (qP l p f y).2 = (qS l p f y, (qP l p f (y + 1)).1, (qP l p f (y + 1)).2) := by
  have : y = 0 ∨ y = 1 := by omega
  rcases this with rfl | rfl <;> rfl
theorem q_last {l : List UInt8} {p f : Int} {y : Nat} (hy : y < 2) (h : (qP l p f (y + 1)).2 ≠ 0) : (qP l p f 2).2 ≠ 0 := by
  have : y = 0 ∨ y = 1 := by omega
  rcases this with rfl | rfl
  · exact setsF_f h
  · exact h
theorem setsF_bad {l : List UInt8} {p : Int} (h : (uSpec l p).2.2 ≠ 0 ∨ 500 < (uSpec l p).1) : (setsF l p 0).2.2 ≠ 0 := by
  unfold setsF
  refine labsN_f l _ _ _ _ ?_
  unfold countF
  rw [if_neg (by simp)]
  by_cases h1 : (uSpec l p).2.2 = 0
  · have h2 : 500 < (uSpec l p).1 := by
      rcases h with h | h
      · exact absurd h1 h
      · exact h
    rw [if_pos ⟨h1, h2⟩]
    simp
  · rw [if_neg (fun k => h1 k.1)]
    exact h1
theorem setsF_good {l : List UInt8} {p : Int} (h1 : (uSpec l p).2.2 = 0) (h2 : ¬ 500 < (uSpec l p).1) : setsF l p 0 = labsN l (uSpec l p).1 (uSpec l p).2.1 0 [] := by
  unfold setsF countF
  rw [if_neg (by simp), if_neg (fun k => h2 k.2), h1]
/-- between two rounds of the inner loop -/
def RnJ (Wb : World) (l : List UInt8) (n : Nat) (p1 : Int) (z : Nat) (p : Int) (v : Value) (wr : World) : Prop :=
  ∃ acc, acc.length = z ∧ OwnLL wr Wb.heap.size v acc ∧ Wb.grownBy wr none ∧ labsN l n p1 0 [] = labsN l (n - z) p 0 acc
theorem RnJ.step {Wb wr w1 : World} {l : List UInt8} {n : Nat} {p1 p : Int} {z : Nat} {v u : Value} (hz : z < n) (hn : n ≤ 500) (h : RnJ Wb l n p1 z p v wr) (hok : (readS l p).2.2 = 0) (hu : OwnL w1 wr.heap.size u (readS l p).1) (h2 : wr.grownBy w1 none) :
    ∃ a2 c2 w2, (Builtin.append_ #[32, 32] 32 #[v, .slice (some ⟨w1.heap.size, 0, none⟩) 1 1]).run Tryz.prog (w1.alloc (.cells #[u] 52)) = .ok (.slice a2 (z + 1) c2) w2 ∧ RnJ Wb l n p1 (z + 1) (readS l p).2.1 (.slice a2 (z + 1) c2) w2 := by
  obtain ⟨acc, e1, e2, e3, e4⟩ := h
  have hb : Wb.heap.size ≤ w1.heap.size := Nat.le_trans e3.size h2.size
  obtain ⟨a2, c2, w2, q1, q2, q3⟩ := (e2.keep h2).push hb (hu.mono e3.size) (by omega)
  have hvb : ∀ k, v.ownBlock = some k → Wb.heap.size ≤ k := fun k hk => by
    obtain ⟨us, k1, -, -⟩ := e2
    exact (World.ownsRow.lt k1 k hk).1
  rw [e1] at q1 q2
  refine ⟨a2, c2, w2, q1, acc ++ [(readS l p).1], by simp [e1], q2, gb_ch (gb_none e3 h2) q3 hvb, ?_⟩
  have hf : labsF l p 0 = ((readS l p).1, (readS l p).2.1, 0) := by
    unfold labsF
    rw [if_neg (by simp), ← hok]
  rw [e4, show n - z = (n - (z + 1)) + 1 by omega, labsN, hf]
theorem RnJ.bad {Wb wr : World} {l : List UInt8} {n : Nat} {p1 p : Int} {z : Nat} {v : Value} (hz : z < n) (h : RnJ Wb l n p1 z p v wr) (hno : (readS l p).2.2 ≠ 0) : (labsN l n p1 0 []).2.2 ≠ 0 := by
  obtain ⟨acc, e1, e2, e3, e4⟩ := h
  rw [e4, show n - z = (n - (z + 1)) + 1 by omega, labsN]
  refine labsN_f l _ _ _ _ ?_
  unfold labsF
  rw [if_neg (by simp)]
  exact hno
/-- the mark's lists between two rounds of the outer loop -/
structure RoL (wr : World) (gm : Nat) (y : Nat) (ua : Option Addr) (un uc : Nat) (va : Option Addr) (vn vc : Nat) (l1 l2 : List (List LbT)) : Prop where
  fst : y = 0 → ua = none ∧ un = 0 ∧ uc = 0
  fst1 : 1 ≤ y → OwnLL wr (gm + 1) (.slice ua un uc) l1 ∧ un = l1.length
  snd : y ≤ 1 → va = none ∧ vn = 0 ∧ vc = 0
  snd1 : 2 ≤ y → OwnLL wr (gm + 1) (.slice va vn vc) l2 ∧ vn = l2.length
/-- the document's Read, the outer loop between two rounds -/
def RoJ (w : World) (gm : Nat) (x y' z' : Value) (l : List UInt8) (cp : Int) (y : Nat) (p : Int) (wr : World) : Prop :=
  p = (qP l cp 0 y).1 ∧ (qP l cp 0 y).2 = 0 ∧ ∃ ua un uc va vn vc, RD w wr gm x y' z' (.slice ua un uc) (.slice va vn vc) ∧ RoL wr gm y ua un uc va vn vc (qS l cp 0 0) (qS l cp 0 1)
theorem RoJ.bad {w wr : World} {gm : Nat} {x y' z' : Value} {l : List UInt8} {cp p : Int} {y : Nat} (hy : y < 2) (h : RoJ w gm x y' z' l cp y p wr) (hb : (setsF l p 0).2.2 ≠ 0) : (qP l cp 0 2).2 ≠ 0 := by
  have hq := q_next l cp 0 hy
  rw [← h.1, h.2.1] at hq
  rw [hq] at hb
  exact q_last hy hb
theorem ownLL_len {w : World} {base : Nat} {a : Option Addr} {n c : Nat} {lss : List (List LbT)} (h : OwnLL w base (.slice a n c) lss) : n = lss.length := by
  obtain ⟨a', c', e⟩ := h.shape
  simp only [Value.slice.injEq] at e
  exact e.2.1
/-- what the inner loop leaves -/
theorem RoJ.next {w Wb wr : World} {gm : Nat} {x y' z' : Value} {l : List UInt8} {cp p rp p' : Int} {y rn : Nat} {ra : Option Addr} {rc : Nat} (hy : y < 2) (h : RoJ w gm x y' z' l cp y p Wb) (hgm : gm < Wb.heap.size) (hs : setsF l p 0 = labsN l rn rp 0 []) (hj : RnJ Wb l rn rp rn p' (.slice ra rn rc) wr) :
    OwnLL wr (gm + 1) (.slice ra rn rc) (qS l cp 0 y) ∧ rn = (qS l cp 0 y).length ∧ p' = (qP l cp 0 (y + 1)).1 ∧ (qP l cp 0 (y + 1)).2 = 0 ∧ Wb.grownBy wr none := by
  obtain ⟨acc, e1, e2, e3, e4⟩ := hj
  rw [Nat.sub_self, labsN, ← hs] at e4
  have hq := q_next l cp 0 hy
  rw [← h.1, h.2.1, e4] at hq
  simp only [Prod.mk.injEq] at hq
  obtain ⟨h1, h2, h3⟩ := hq
  rw [← h1]
  exact ⟨e2.mono hgm, e1.symm, h2, h3.symm, e3⟩
/-- the list laid into the mark: the first, the second -/
theorem RoJ.lay0 {w Wb wr : World} {gm : Nat} {x y' z' : Value} {l : List UInt8} {cp p p' : Int} {ra : Option Addr} {rn rc : Nat} (h : RoJ w gm x y' z' l cp 0 p Wb) (h1 : OwnLL wr (gm + 1) (.slice ra rn rc) (qS l cp 0 0)) (h2 : rn = (qS l cp 0 0).length) (h3 : p' = (qP l cp 0 1).1) (h4 : (qP l cp 0 1).2 = 0) (h5 : Wb.grownBy wr none) : RoJ w gm x y' z' l cp 1 p' (wr.setCell ⟨gm, 3, none⟩ (.slice ra rn rc)) := by
  obtain ⟨-, -, ua, un, uc, va, vn, vc, k1, k2⟩ := h
  have hc := set_ch wr gm 3 (.slice ra rn rc)
  obtain ⟨e1, e2, e3⟩ := k2.snd (by omega)
  have kk := k1.keep h5
  refine ⟨h3, h4, ra, rn, rc, va, vn, vc, kk.put hc (kk.mrk.set3 (.slice ra rn rc)), ⟨fun e => by omega, fun _ => ⟨h1.ch hc (fun k hk => by omega), h2⟩, fun _ => ⟨e1, e2, e3⟩, fun e => by omega⟩⟩
theorem RoJ.lay1 {w Wb wr : World} {gm : Nat} {x y' z' : Value} {l : List UInt8} {cp p p' : Int} {ra : Option Addr} {rn rc : Nat} (h : RoJ w gm x y' z' l cp 1 p Wb) (h1 : OwnLL wr (gm + 1) (.slice ra rn rc) (qS l cp 0 1)) (h2 : rn = (qS l cp 0 1).length) (h3 : p' = (qP l cp 0 2).1) (h4 : (qP l cp 0 2).2 = 0) (h5 : Wb.grownBy wr none) : RoJ w gm x y' z' l cp 2 p' (wr.setCell ⟨gm, 4, none⟩ (.slice ra rn rc)) := by
  obtain ⟨-, -, ua, un, uc, va, vn, vc, k1, k2⟩ := h
  have hc := set_ch wr gm 4 (.slice ra rn rc)
  obtain ⟨e1, e2⟩ := k2.fst1 (by omega)
  have kk := k1.keep h5
  refine ⟨h3, h4, ua, un, uc, ra, rn, rc, kk.put hc (kk.mrk.set4 (.slice ra rn rc)), ⟨fun e => by omega, fun _ => ⟨(e1.keep h5).ch hc (fun k hk => by omega), e2⟩, fun e => by omega, fun _ => ⟨h1.ch hc (fun k hk => by omega), h2⟩⟩⟩
end Go.Proofs.YtpglhdnepmcahaaGreatDoor

/- Nhb -/
namespace Go.Proofs.YtpglhdnepmcahaaGreatDoor
open Go.RowKit Go.Shelf Go.Sort

set_option maxRecDepth 8000 in
set_option maxHeartbeats 25600000 in
theorem refReadM_any (w : World) (vb : Value) (l : List UInt8) (hv : Rd w vb l) (hl : l.length ≤ 1000000000000000000) :
    Calls Tryz.prog 13 #[vb] w fun e w' => RdQ w l e w' := by
  have HV := hidJ (And.intro hv hl)
  have hsh : ∃ a c, vb = .slice a l.length c := by
    obtain ⟨a, c, e, -⟩ := hv
    exact ⟨a, c, e⟩
  -- the parts
  obtain ⟨A, hA⟩ : ∃ A, A = tSpec l 0 64 := ⟨_, rfl⟩
  obtain ⟨B, hB⟩ : ∃ B, B = tSpec l A.2.1 65536 := ⟨_, rfl⟩
  obtain ⟨C, hC⟩ : ∃ C, C = uSpec l B.2.1 := ⟨_, rfl⟩
  have hAF : textF l 0 0 64 = A := by rw [hA]; unfold textF; rw [if_neg (by simp)]
  have hPA : A.2.2 ≠ 0 → readM l = (mZ0, 3) := fun h => by
    refine readM_no ?_
    unfold partsM
    simp only [hAF]
    exact setsF_f (setsF_f (intF_f (textF_f h)))
  have hBF : A.2.2 = 0 → textF l A.2.1 A.2.2 65536 = B := fun h => by rw [h, hB]; unfold textF; rw [if_neg (by simp)]
  have hPB : A.2.2 = 0 → B.2.2 ≠ 0 → readM l = (mZ0, 3) := fun h0 h => by
    refine readM_no ?_
    unfold partsM
    simp only [hAF, hBF h0]
    exact setsF_f (setsF_f (intF_f h))
  have hCF : B.2.2 = 0 → intF l B.2.1 B.2.2 = (uz C.1, C.2.1, C.2.2) := fun h => by rw [h, hC]; unfold intF; rw [if_neg (by simp)]
  have hPC : A.2.2 = 0 → B.2.2 = 0 → C.2.2 ≠ 0 → readM l = (mZ0, 3) := fun h0 h1 h => by
    refine readM_no ?_
    unfold partsM
    simp only [hAF, hBF h0, hCF h1]
    exact setsF_f (setsF_f h)
  have hPE : A.2.2 = 0 → B.2.2 = 0 → C.2.2 = 0 → partsM l = (⟨A.1, B.1, uz C.1, qS l C.2.1 0 0, qS l C.2.1 0 1⟩, (qP l C.2.1 0 2).1, (qP l C.2.1 0 2).2) := fun h0 h1 h2 => by
    unfold partsM
    simp only [hAF, hBF h0, hCF h1, h2]
    rfl
  have hPN : A.2.2 = 0 → B.2.2 = 0 → C.2.2 = 0 → (qP l C.2.1 0 2).2 ≠ 0 → readM l = (mZ0, 3) := fun h0 h1 h2 h => by
    refine readM_no ?_
    rw [hPE h0 h1 h2]
    exact h
  have hPM : A.2.2 = 0 → B.2.2 = 0 → C.2.2 = 0 → (qP l C.2.1 0 2).2 = 0 → readM l = if (qP l C.2.1 0 2).1 = (l.length : Int) ∧ rightM ⟨A.1, B.1, uz C.1, qS l C.2.1 0 0, qS l C.2.1 0 1⟩ = 0 then (⟨A.1, B.1, uz C.1, qS l C.2.1 0 0, qS l C.2.1 0 1⟩, 0) else (mZ0, 3) := fun h0 h1 h2 h3 => by
    unfold readM
    rw [hPE h0 h1 h2]
    dsimp only
    rw [h3]
    simp
  have HIn : Hid (LLIn (qS l C.2.1 0 0) ∧ LLIn (qS l C.2.1 0 1) ∧ A.1.length ≤ 1000000000000000000 ∧ B.1.length ≤ 1000000000000000000) := by
    rw [hA, hB]
    exact ⟨setsF_in _ _ _, setsF_in _ _ _, Nat.le_trans (tSpec_short _ _ _) hl, Nat.le_trans (tSpec_short _ _ _) hl⟩
  have HT1 : Hid (∀ W, w.grownBy W none → Calls Tryz.prog 43 #[vb, .int .i64 0, .int .i64 64] W fun e w' => e = .returned (.tuple #[.string (ByteArray.mk ⟨A.1⟩), .int .i64 A.2.1, .int .i64 A.2.2]) ∧ W.grownBy w' none) := fun W hW => by
    rw [hA]
    exact refText_any vb l 0 64 W (HV.out.1.keep hW) HV.out.2 (by omega)
  have HT2 : Hid (∀ W, w.grownBy W none → Calls Tryz.prog 43 #[vb, .int .i64 A.2.1, .int .i64 65536] W fun e w' => e = .returned (.tuple #[.string (ByteArray.mk ⟨B.1⟩), .int .i64 B.2.1, .int .i64 B.2.2]) ∧ W.grownBy w' none) := fun W hW => by
    rw [hB]
    exact refText_any vb l _ 65536 W (HV.out.1.keep hW) HV.out.2 (by omega)
  have HT3 : Hid (∀ W, w.grownBy W none → Calls Tryz.prog 44 #[vb, .int .i64 B.2.1] W fun e w' => e = .returned (.tuple #[.int .i64 (uz C.1), .int .i64 C.2.1, .int .i64 C.2.2]) ∧ w' = W) := fun W hW => by
    refine (refi_any vb l B.2.1 W (HV.out.1.keep hW)).mono ?_
    rintro e w' ⟨q1, q2⟩
    refine ⟨?_, q2⟩
    rw [q1, hC]
    unfold tup3i
    rw [show (BitVec.ofNat 64 (uSpec l B.2.1).1).toNat = (uSpec l B.2.1).1 by rw [BitVec.toNat_ofNat]; exact Nat.mod_eq_of_lt (uSpec_lt l _)]
  have HU : Hid (∀ W p, w.grownBy W none → Calls Tryz.prog 45 #[vb, .int .i64 p] W fun e w' => e = .returned (.tuple #[.int .u64 ((uSpec l p).1 : Int), .int .i64 (uSpec l p).2.1, .int .i64 (uSpec l p).2.2]) ∧ w' = W) := fun W p hW => by
    refine (refu_any vb l p W (HV.out.1.keep hW)).mono ?_
    rintro e w' ⟨q1, q2⟩
    refine ⟨?_, q2⟩
    rw [q1]
    unfold tup3
    rw [I64_of (uSpec_lt l p)]
  have HLb : Hid (∀ W p, w.grownBy W none → Calls Tryz.prog 46 #[vb, .int .i64 p] W fun e w' => ∃ a1 n1 c1, e = .returned (.tuple #[.slice a1 n1 c1, .int .i64 (readS l p).2.1, .int .i64 (readS l p).2.2]) ∧ Hid (OwnL w' W.heap.size (.slice a1 n1 c1) (readS l p).1 ∧ W.grownBy w' none)) := fun W p hW => by
    refine (refRead_any W vb l p (HV.out.1.keep hW) HV.out.2).mono ?_
    rintro e w' ⟨v', q1, q2, q3⟩
    obtain ⟨a1, c1, ev⟩ := RdL.shape q2.rd
    subst ev
    exact ⟨a1, _, c1, q1, q2, q3⟩
  obtain ⟨R, hR⟩ : ∃ R, R = rightM ⟨A.1, B.1, uz C.1, qS l C.2.1 0 0, qS l C.2.1 0 1⟩ := ⟨_, rfl⟩
  have HRi : Hid (∀ W a1 n1 c1 a2 n2 c2, w.grownBy W none → RdLL W (.slice a1 n1 c1) (qS l C.2.1 0 0) → RdLL W (.slice a2 n2 c2) (qS l C.2.1 0 1) → Calls Tryz.prog 47 #[.agg #[.string (ByteArray.mk ⟨A.1⟩), .string (ByteArray.mk ⟨B.1⟩), .int .i64 (uz C.1), .slice a1 n1 c1, .slice a2 n2 c2]] W fun e w' => e = .returned (.int .i64 R) ∧ W.grownBy w' none) := fun W a1 n1 c1 a2 n2 c2 hW h1 h2 => by
    rw [hR]
    have := refRightM_any W ⟨A.1, B.1, uz C.1, qS l C.2.1 0 0, qS l C.2.1 0 1⟩ (.slice a1 n1 c1) (.slice a2 n2 c2) ⟨h1, h2, HIn.out.1, HIn.out.2.1, HIn.out.2.2.1, HIn.out.2.2.2⟩
    unfold markV at this
    exact this
  rw [← hR] at hPM
  obtain ⟨RQ, hRQ⟩ : ∃ RQ : Ending → World → Prop, RQ = RdQ w l := ⟨_, rfl⟩
  have HNo : Hid (readM l = (mZ0, 3) → ∀ w', w.grownBy w' none → RQ (.returned (.tuple #[.agg #[.string ⟨#[]⟩, .string ⟨#[]⟩, .int .i64 0, .slice none 0 0, .slice none 0 0], .int .i64 3])) w') := fun h w' hg => by rw [hRQ]; exact rdq_no h hg
  have HYes : Hid (∀ w' a1 n1 c1 a2 n2 c2, readM l = (⟨A.1, B.1, uz C.1, qS l C.2.1 0 0, qS l C.2.1 0 1⟩, 0) → OwnLL w' w.heap.size (.slice a1 n1 c1) (qS l C.2.1 0 0) → OwnLL w' w.heap.size (.slice a2 n2 c2) (qS l C.2.1 0 1) → w.grownBy w' none → RQ (.returned (.tuple #[.agg #[.string (ByteArray.mk ⟨A.1⟩), .string (ByteArray.mk ⟨B.1⟩), .int .i64 (uz C.1), .slice a1 n1 c1, .slice a2 n2 c2], .int .i64 0])) w') := fun w' a1 n1 c1 a2 n2 c2 hh h3 h4 h5 => by
    rw [hRQ]
    unfold RdQ
    rw [hh]
    have e1 := ownLL_len h3
    have e2 := ownLL_len h4
    subst e1 e2
    exact ⟨a1, c1, a2, c2, rfl, h3, h4, h5⟩
  rw [show (fun e w' => RdQ w l e w') = (fun e w' => RQ e w') from by rw [hRQ]]
  have HPA := hidJ hPA
  have HPB := hidJ hPB
  have HPC := hidJ hPC
  have HPN := hidJ hPN
  have HPM := hidJ hPM
  obtain ⟨va, vc, rfl⟩ := hsh
  clear hRQ hPA hPB hPC hPN hPM hPE hAF hBF hCF hA hB hC hR HIn hv HV
  generalize ByteArray.mk ⟨A.1⟩ = ar at *
  generalize ByteArray.mk ⟨B.1⟩ = ak at *
  generalize uz C.1 = ct at *
  obtain ⟨ln, hln⟩ : ∃ ln, l.length = ln := ⟨_, rfl⟩
  rw [hln] at HT1 HT2 HT3 HU HLb HPM hl
  rw [hln]
  clear hln
  obtain ⟨Aa, Ap, Af⟩ := A
  obtain ⟨Ba, Bp, Bf⟩ := B
  obtain ⟨Ca, cp, cf⟩ := C
  dsimp only at *
  have k1 := World.grownBy_alloc w (.cells #[.string ⟨#[]⟩, .string ⟨#[]⟩, .int .i64 0, .slice none 0 0, .slice none 0 0] 34) none
  have k2 := World.grownBy_alloc (w.alloc (.cells #[.string ⟨#[]⟩, .string ⟨#[]⟩, .int .i64 0, .slice none 0 0, .slice none 0 0] 34)) (.cells #[.string ⟨#[]⟩, .string ⟨#[]⟩, .int .i64 0, .slice none 0 0, .slice none 0 0] 34) none
  have hb2 := B5.new (w.alloc (.cells #[.string ⟨#[]⟩, .string ⟨#[]⟩, .int .i64 0, .slice none 0 0, .slice none 0 0] 34)) 34 (.string ⟨#[]⟩) (.string ⟨#[]⟩) (.int .i64 0) (.slice none 0 0) (.slice none 0 0)
  rw [World.size_alloc] at hb2
  have H0 : Hid (RD w ((w.alloc (.cells #[.string ⟨#[]⟩, .string ⟨#[]⟩, .int .i64 0, .slice none 0 0, .slice none 0 0] 34)).alloc (.cells #[.string ⟨#[]⟩, .string ⟨#[]⟩, .int .i64 0, .slice none 0 0, .slice none 0 0] 34)) (w.heap.size + 1) (.string ⟨#[]⟩) (.string ⟨#[]⟩) (.int .i64 0) (.slice none 0 0) (.slice none 0 0)) := ⟨gb_none k1 k2, (B5.new w 34 _ _ _ _ _).keep k2, hb2, by omega⟩
  clear k1 k2 hb2
  go_enter Tryz.func13, Tryz.ntmps13
  go_wp2_with fail
  generalize ((w.alloc (.cells #[.string ⟨#[]⟩, .string ⟨#[]⟩, .int .i64 0, .slice none 0 0, .slice none 0 0] 34)).alloc (.cells #[.string ⟨#[]⟩, .string ⟨#[]⟩, .int .i64 0, .slice none 0 0, .slice none 0 0] 34)) = W0 at *
  generalize w.heap.size + 1 = gm at *
  refine (HT1.out _ H0.out.gb).mono ?_
  rintro e w1 ⟨rfl, q1⟩
  have H1 := hidJ (H0.out.keep q1)
  clear q1 H0 HT1
  by_cases hAf : Af = 0
  case neg =>
    have hAb : (Af == 0) = false := by rw [beq_eq_false_iff_ne]; exact hAf
    have HXa := hidJ (And.intro H1.out.res (And.intro H1.out.gb (HNo.out (HPA.out hAf))))
    obtain ⟨d0, d1, d2, d3, d4⟩ := HXa.out.1.cells
    obtain ⟨f0, f1, f2, f3, f4⟩ := HXa.out.1.froz
    go_wp2
    have hBa := set5_at (x := .string ⟨#[]⟩) (y := .string ⟨#[]⟩) (z := .int .i64 0) (u := .slice none 0 0) (v := .slice none 0 0) HXa.out.1
    obtain ⟨m0, m1, m2, m3, m4⟩ := B5.cells hBa
    unfold set5 at m0 m1 m2 m3 m4
    have HFa := hidJ (HXa.out.2.2 _ (gb_ch HXa.out.2.1 (set5_ch _ w.heap.size (.string ⟨#[]⟩) (.string ⟨#[]⟩) (.int .i64 0) (.slice none 0 0) (.slice none 0 0)) (fun k e => by omega)))
    unfold set5 at HFa
    (try simp only [Exit.inBlock, Exit.then])
    refine bodyPost_ret (v := .tuple #[.agg #[.string ⟨#[]⟩, .string ⟨#[]⟩, .int .i64 0, .slice none 0 0, .slice none 0 0], .int .i64 3]) ?_ rfl HFa.out
    simp [results, Tryz.f13, go_sem, m0, m1, m2, m3, m4]
  subst hAf
  obtain ⟨c0, -, -, -, -⟩ := H1.out.mrk.cells
  obtain ⟨f0, -, -, -, -⟩ := H1.out.mrk.froz
  go_wp2_with fail
  have H2 := hidJ (H1.out.put (set_ch _ gm 0 (.string ar)) (H1.out.mrk.put0 (.string ar)))
  clear H1 c0 f0 HPA
  generalize w1.setCell ⟨gm, 0, none⟩ (.string ar) = W1 at *
  refine (HT2.out _ H2.out.gb).mono ?_
  rintro e w2 ⟨rfl, q1⟩
  have H3 := hidJ (H2.out.keep q1)
  clear q1 H2 HT2
  by_cases hBf : Bf = 0
  case neg =>
    have hBb : (Bf == 0) = false := by rw [beq_eq_false_iff_ne]; exact hBf
    have HXb := hidJ (And.intro H3.out.res (And.intro H3.out.gb (HNo.out (HPB.out (by first | rfl | trivial) hBf))))
    obtain ⟨d0, d1, d2, d3, d4⟩ := HXb.out.1.cells
    obtain ⟨f0, f1, f2, f3, f4⟩ := HXb.out.1.froz
    go_wp2
    have hBb := set5_at (x := .string ⟨#[]⟩) (y := .string ⟨#[]⟩) (z := .int .i64 0) (u := .slice none 0 0) (v := .slice none 0 0) HXb.out.1
    obtain ⟨m0, m1, m2, m3, m4⟩ := B5.cells hBb
    unfold set5 at m0 m1 m2 m3 m4
    have HFb := hidJ (HXb.out.2.2 _ (gb_ch HXb.out.2.1 (set5_ch _ w.heap.size (.string ⟨#[]⟩) (.string ⟨#[]⟩) (.int .i64 0) (.slice none 0 0) (.slice none 0 0)) (fun k e => by omega)))
    unfold set5 at HFb
    (try simp only [Exit.inBlock, Exit.then])
    refine bodyPost_ret (v := .tuple #[.agg #[.string ⟨#[]⟩, .string ⟨#[]⟩, .int .i64 0, .slice none 0 0, .slice none 0 0], .int .i64 3]) ?_ rfl HFb.out
    simp [results, Tryz.f13, go_sem, m0, m1, m2, m3, m4]
  subst hBf
  obtain ⟨-, c1, -, -, -⟩ := H3.out.mrk.cells
  obtain ⟨-, f1, -, -, -⟩ := H3.out.mrk.froz
  go_wp2_with fail
  have H4 := hidJ (H3.out.put (set_ch _ gm 1 (.string ak)) (H3.out.mrk.put1 (.string ak)))
  clear H3 c1 f1 HPB
  generalize w2.setCell ⟨gm, 1, none⟩ (.string ak) = W2 at *
  refine (HT3.out _ H4.out.gb).mono ?_
  rintro e w3 ⟨rfl, q1⟩
  have q1 := q1.symm
  subst q1
  clear HT3
  by_cases hCf : cf = 0
  case neg =>
    have hCb : (cf == 0) = false := by rw [beq_eq_false_iff_ne]; exact hCf
    have HXc := hidJ (And.intro H4.out.res (And.intro H4.out.gb (HNo.out (HPC.out (by first | rfl | trivial) (by first | rfl | trivial) hCf))))
    obtain ⟨d0, d1, d2, d3, d4⟩ := HXc.out.1.cells
    obtain ⟨f0, f1, f2, f3, f4⟩ := HXc.out.1.froz
    go_wp2
    have hBc := set5_at (x := .string ⟨#[]⟩) (y := .string ⟨#[]⟩) (z := .int .i64 0) (u := .slice none 0 0) (v := .slice none 0 0) HXc.out.1
    obtain ⟨m0, m1, m2, m3, m4⟩ := B5.cells hBc
    unfold set5 at m0 m1 m2 m3 m4
    have HFc := hidJ (HXc.out.2.2 _ (gb_ch HXc.out.2.1 (set5_ch _ w.heap.size (.string ⟨#[]⟩) (.string ⟨#[]⟩) (.int .i64 0) (.slice none 0 0) (.slice none 0 0)) (fun k e => by omega)))
    unfold set5 at HFc
    (try simp only [Exit.inBlock, Exit.then])
    refine bodyPost_ret (v := .tuple #[.agg #[.string ⟨#[]⟩, .string ⟨#[]⟩, .int .i64 0, .slice none 0 0, .slice none 0 0], .int .i64 3]) ?_ rfl HFc.out
    simp [results, Tryz.f13, go_sem, m0, m1, m2, m3, m4]
  subst hCf
  obtain ⟨-, -, c2, -, -⟩ := H4.out.mrk.cells
  obtain ⟨-, -, f2, -, -⟩ := H4.out.mrk.froz
  have HPN2 := hidJ (HPN.out (by first | rfl | trivial) (by first | rfl | trivial) (by first | rfl | trivial))
  have HPM2 := hidJ (HPM.out (by first | rfl | trivial) (by first | rfl | trivial) (by first | rfl | trivial))
  go_wp2
  have H5 := hidJ (H4.out.put (set_ch _ gm 2 (.int .i64 ct)) (H4.out.mrk.put2 (.int .i64 ct)))
  clear H4 c2 f2 HPC HPN HPM
  generalize W2.setCell ⟨gm, 2, none⟩ (.int .i64 ct) = W3 at *
  have H6 : Hid (RoJ w gm (.string ar) (.string ak) (.int .i64 ct) l cp 0 cp W3) := ⟨rfl, rfl, none, 0, 0, none, 0, 0, H5.out, ⟨fun _ => ⟨rfl, rfl, rfl⟩, fun e => by omega, fun _ => ⟨rfl, rfl, rfl⟩, fun e => by omega⟩⟩
  clear H5
  go_loopw [6, 10] (fun o i wr => ∃ (y : Nat) (p : Int), y ≤ 2 ∧ i = .int .i64 y ∧ o = .int .i64 p ∧ Hid (RoJ w gm (.string ar) (.string ak) (.int .i64 ct) l cp y p wr)) (fun _ i _ => 2 - (intOf i).toNat)
  case atStart => exact ⟨0, cp, by omega, rfl, rfl, H6.out⟩
  case round =>
    obtain ⟨y, p, hy2, rfl, rfl, hr⟩ := hrel
    clear H6
    obtain ⟨Wb, hWb⟩ : ∃ Wb, Wb = wr := ⟨_, rfl⟩
    subst hWb
    have HR := hidJ hr.out
    clear hr
    have HG : Hid (w.grownBy Wb none ∧ gm < Wb.heap.size ∧ B5 Wb w.heap.size 34 (.string ⟨#[]⟩) (.string ⟨#[]⟩) (.int .i64 0) (.slice none 0 0) (.slice none 0 0) ∧ w.heap.size < gm) := by
      obtain ⟨-, -, ua, un, uc, va, vn, vc, k1, -⟩ := HR.out
      exact ⟨k1.gb, some_lt k1.mrk, k1.res, k1.d1⟩
    by_cases hyl : y < 2
    · have hyi : (y : Int) < 2 := by omega
      obtain ⟨rn, rp, rf, hU⟩ : ∃ rn rp rf, uSpec l p = (rn, rp, rf) := ⟨_, _, _, rfl⟩
      have HU2 := hidJ (HU.out Wb p HG.out.1)
      rw [hU] at HU2
      have HUU := hidJ hU
      have hrn : rn < 18446744073709551616 := by have := uSpec_lt l p; rw [hU] at this; exact this
      clear hU
      dsimp only at HU2
      by_cases hrf : rf = 0
      case neg =>
        have hrb : (rf == 0) = false := by rw [beq_eq_false_iff_ne]; exact hrf
        have HXd := hidJ (And.intro HG.out.2.2.1 (And.intro HG.out.1 (HNo.out (HPN2.out (HR.out.bad hyl (setsF_bad (.inl (by rw [HUU.out]; exact hrf))))))))
        clear HR HU HLb HYes HPM2 HRi HG
        go_wp2_with fail
        refine HU2.out.mono ?_
        rintro e w4 ⟨rfl, q1⟩
        have q1 := q1.symm
        subst q1
        obtain ⟨d0, d1, d2, d3, d4⟩ := HXd.out.1.cells
        obtain ⟨f0, f1, f2, f3, f4⟩ := HXd.out.1.froz
        go_wp2
        have hBd := set5_at (x := .string ⟨#[]⟩) (y := .string ⟨#[]⟩) (z := .int .i64 0) (u := .slice none 0 0) (v := .slice none 0 0) HXd.out.1
        obtain ⟨m0, m1, m2, m3, m4⟩ := B5.cells hBd
        unfold set5 at m0 m1 m2 m3 m4
        have HFd := hidJ (HXd.out.2.2 _ (gb_ch HXd.out.2.1 (set5_ch _ w.heap.size (.string ⟨#[]⟩) (.string ⟨#[]⟩) (.int .i64 0) (.slice none 0 0) (.slice none 0 0)) (fun k e => by omega)))
        unfold set5 at HFd
        (try simp only [Exit.inBlock, Exit.then])
        refine bodyPost_ret (v := .tuple #[.agg #[.string ⟨#[]⟩, .string ⟨#[]⟩, .int .i64 0, .slice none 0 0, .slice none 0 0], .int .i64 3]) ?_ rfl HFd.out
        simp [results, Tryz.f13, go_sem, m0, m1, m2, m3, m4]
      subst hrf
      by_cases h5 : 500 < rn
      · have h5i : (500 : Int) < (rn : Int) := by omega
        have HXe := hidJ (And.intro HG.out.2.2.1 (And.intro HG.out.1 (HNo.out (HPN2.out (HR.out.bad hyl (setsF_bad (.inr (by rw [HUU.out]; exact h5))))))))
        clear HR HU HLb HYes HPM2 HRi HG
        go_wp2_with fail
        refine HU2.out.mono ?_
        rintro e w4 ⟨rfl, q1⟩
        have q1 := q1.symm
        subst q1
        obtain ⟨d0, d1, d2, d3, d4⟩ := HXe.out.1.cells
        obtain ⟨f0, f1, f2, f3, f4⟩ := HXe.out.1.froz
        go_wp2
        have hBe := set5_at (x := .string ⟨#[]⟩) (y := .string ⟨#[]⟩) (z := .int .i64 0) (u := .slice none 0 0) (v := .slice none 0 0) HXe.out.1
        obtain ⟨m0, m1, m2, m3, m4⟩ := B5.cells hBe
        unfold set5 at m0 m1 m2 m3 m4
        have HFe := hidJ (HXe.out.2.2 _ (gb_ch HXe.out.2.1 (set5_ch _ w.heap.size (.string ⟨#[]⟩) (.string ⟨#[]⟩) (.int .i64 0) (.slice none 0 0) (.slice none 0 0)) (fun k e => by omega)))
        unfold set5 at HFe
        (try simp only [Exit.inBlock, Exit.then])
        refine bodyPost_ret (v := .tuple #[.agg #[.string ⟨#[]⟩, .string ⟨#[]⟩, .int .i64 0, .slice none 0 0, .slice none 0 0], .int .i64 3]) ?_ rfl HFe.out
        simp [results, Tryz.f13, go_sem, m0, m1, m2, m3, m4]
      · have h5i : ¬ (500 : Int) < (rn : Int) := by omega
        have HSg : Hid (setsF l p 0 = labsN l rn rp 0 []) := by
          have := setsF_good (l := l) (p := p) (by rw [HUU.out]) (by rw [HUU.out]; exact h5)
          rw [HUU.out] at this
          exact this
        have HJ0 : Hid (RnJ Wb l rn rp 0 rp (.slice none 0 0) Wb) := ⟨[], rfl, OwnLL.nil _ _, gb_refl _ _, rfl⟩
        go_wp2_with fail
        refine HU2.out.mono ?_
        rintro e w4 ⟨rfl, q1⟩
        have q1 := q1.symm
        subst q1
        clear HU2 HUU
        go_wp2
        go_loopw [6, 14, 15] (fun o v j wr => ∃ (z : Nat) (p' : Int) (a : Option Addr) (c : Nat), z ≤ rn ∧ o = .int .i64 p' ∧ v = .slice a z c ∧ j = .int .u64 z ∧ Hid (RnJ Wb l rn rp z p' (.slice a z c) wr)) (fun _ _ j _ => rn - (intOf j).toNat)
        case atStart => exact ⟨0, rp, none, 0, by omega, rfl, rfl, rfl, HJ0.out⟩
        case round =>
          obtain ⟨z, p', ra, rc, hzN, rfl, rfl, rfl, hj⟩ := hrel
          clear HJ0
          have HJ := hidJ hj.out
          clear hj
          have HGw : Hid (Wb.grownBy wr none) := by
            obtain ⟨acc, -, -, k, -⟩ := HJ.out
            exact k
          by_cases hzl : z < rn
          · have hzi : (z : Int) < (rn : Int) := by omega
            have HL2 := hidJ (HLb.out wr p' (gb_none HG.out.1 HGw.out))
            have HOk := hidJ (fun (h0 : (readS l p').2.2 = 0) w1 u hu hg => RnJ.step (u := u) (w1 := w1) hzl (by omega) HJ.out h0 hu hg)
            have HBd := hidJ (fun (h0 : (readS l p').2.2 ≠ 0) => HNo.out (HPN2.out (HR.out.bad hyl (by rw [HSg.out]; exact HJ.out.bad hzl h0))))
            clear HJ HR HLb HU HNo HPN2 HPM2 HYes HRi HSg
            generalize (readS l p').2.1 = sp at *
            generalize (readS l p').2.2 = sf at *
            generalize (readS l p').1 = sl at *
            go_wp2_with fail
            refine HL2.out.mono ?_
            rintro e w5 ⟨xa, xn, xc, rfl, H5⟩
            clear HL2
            by_cases hsf : sf = 0
            · subst hsf
              obtain ⟨a2, c2, w6, s1, s2⟩ := HOk.out (by first | rfl | trivial) w5 _ H5.out.1 H5.out.2
              have H7 := hidJ s2
              have R2 := hidJ s1
              have hwr : IntKind.u64.wrap ((z : Int) + 1) = ((z + 1 : Nat) : Int) := by rw [IntKind.wrap_u64]; omega
              clear s1 s2 H5 HOk HBd HG HGw
              go_wp2_with (at_builtin; refine wp_appRun rfl (.tmp 89) (.tmp 91) 32 rfl _ _ _ rfl rfl R2.out ?_)
              clear R2
              go_wp2
              go_roundw
              case rel => exact ⟨z + 1, sp, a2, c2, by omega, rfl, rfl, by first | rfl | go_num | simp [hwr], H7.out⟩
              case measure => simp [intOf]; omega
            · have hsb : (sf == 0) = false := by rw [beq_eq_false_iff_ne]; exact hsf
              have g5 := gb_none HGw.out H5.out.2
              have HXf := hidJ (And.intro (HG.out.2.2.1.keep g5) (And.intro (gb_none HG.out.1 g5) (HBd.out hsf)))
              clear HOk HBd HG HGw H5 g5
              obtain ⟨d0, d1, d2, d3, d4⟩ := HXf.out.1.cells
              obtain ⟨f0, f1, f2, f3, f4⟩ := HXf.out.1.froz
              go_wp2
              have hBf := set5_at (x := .string ⟨#[]⟩) (y := .string ⟨#[]⟩) (z := .int .i64 0) (u := .slice none 0 0) (v := .slice none 0 0) HXf.out.1
              obtain ⟨m0, m1, m2, m3, m4⟩ := B5.cells hBf
              unfold set5 at m0 m1 m2 m3 m4
              have HFf := hidJ (HXf.out.2.2 _ (gb_ch HXf.out.2.1 (set5_ch _ w.heap.size (.string ⟨#[]⟩) (.string ⟨#[]⟩) (.int .i64 0) (.slice none 0 0) (.slice none 0 0)) (fun k e => by omega)))
              unfold set5 at HFf
              (try simp only [Exit.inBlock, Exit.then])
              refine bodyPost_ret (v := .tuple #[.agg #[.string ⟨#[]⟩, .string ⟨#[]⟩, .int .i64 0, .slice none 0 0, .slice none 0 0], .int .i64 3]) ?_ rfl HFf.out
              simp [results, Tryz.f13, go_sem, m0, m1, m2, m3, m4]
          · have hzi : ¬ (z : Int) < (rn : Int) := by omega
            have hzn : z = rn := by omega
            subst hzn
            obtain ⟨n1, n2, n3, n4, n5⟩ := HR.out.next hyl HG.out.2.1 HSg.out HJ.out
            have hyy : y = 0 ∨ y = 1 := by omega
            rcases hyy with rfl | rfl
            · have HN := hidJ (HR.out.lay0 n1 n2 n3 n4 n5)
              have hc : ∃ u, wr.cell? ⟨gm, 3, none⟩ = some u ∧ wr.frozen? ⟨gm, 3, none⟩ = false := by
                obtain ⟨-, -, ua, un, uc, va, vn, vc, k1, -⟩ := HR.out
                exact ⟨_, (k1.mrk.keep n5).cells.2.2.2.1, (k1.mrk.keep n5).froz.2.2.2.1⟩
              obtain ⟨u3, c3, f3⟩ := hc
              clear n1 n2 n3 n4 n5 HR HJ HG HGw HSg HLb HU HNo HPN2 HPM2 HYes HRi
              go_wp2
              go_roundw
              case rel => exact ⟨1, p', by omega, by go_num, rfl, HN.out⟩
              case measure => simp [intOf]
            · have HN := hidJ (HR.out.lay1 n1 n2 n3 n4 n5)
              have hc : ∃ u, wr.cell? ⟨gm, 4, none⟩ = some u ∧ wr.frozen? ⟨gm, 4, none⟩ = false := by
                obtain ⟨-, -, ua, un, uc, va, vn, vc, k1, -⟩ := HR.out
                exact ⟨_, (k1.mrk.keep n5).cells.2.2.2.2, (k1.mrk.keep n5).froz.2.2.2.2⟩
              obtain ⟨u4, c4, f4⟩ := hc
              clear n1 n2 n3 n4 n5 HR HJ HG HGw HSg HLb HU HNo HPN2 HPM2 HYes HRi
              go_wp2
              go_roundw
              case rel => exact ⟨2, p', by omega, by go_num, rfl, HN.out⟩
              case measure => simp [intOf]
    · have hyi : ¬ (y : Int) < 2 := by omega
      have hy3 : y = 2 := by omega
      subst hy3
      obtain ⟨e1, e2, ua, un, uc, wa, wn, wc, k1, k2⟩ := HR.out
      have HK := hidJ (And.intro k1 (And.intro (k2.fst1 (by omega)).1 (k2.snd1 (by omega)).1))
      have HM3 := hidJ (HPM2.out e2)
      rw [← e1] at HM3
      clear e1 e2 k1 k2 HR HU HLb HPM2 HPN2
      have hlr : ∀ {x : List (List LbT)} {a n c}, OwnLL Wb (gm + 1) (.slice a n c) x → RdLL Wb (.slice a n c) x := fun h => h.rd
      have HRi2 := hidJ (HRi.out Wb ua un uc wa wn wc HG.out.1 HK.out.2.1.rd HK.out.2.2.rd)
      clear hlr HRi
      by_cases hpl : p = (ln : Int)
      · subst hpl
        obtain ⟨i0, i1, i2, i3, i4⟩ := HK.out.1.mrk.cells
        go_wp2_with fail
        refine HRi2.out.mono ?_
        rintro e w8 ⟨rfl, q1⟩
        have HB8 := hidJ (And.intro (HK.out.1.keep q1) (And.intro (HK.out.2.1.keep q1) (HK.out.2.2.keep q1)))
        clear q1 HK HRi2 i0 i1 i2 i3 i4 HG
        by_cases hR0 : R = 0
        · subst hR0
          obtain ⟨i0, i1, i2, i3, i4⟩ := HB8.out.1.mrk.cells
          obtain ⟨d0, d1, d2, d3, d4⟩ := HB8.out.1.res.cells
          obtain ⟨f0, f1, f2, f3, f4⟩ := HB8.out.1.res.froz
          go_wp2
          have hB := set5_at (x := .string ar) (y := .string ak) (z := .int .i64 ct) (u := .slice ua un uc) (v := .slice wa wn wc) HB8.out.1.res
          obtain ⟨m0, m1, m2, m3, m4⟩ := B5.cells hB
          unfold set5 at m0 m1 m2 m3 m4
          have hd := HB8.out.1.d1
          have hc5 := set5_ch w8 w.heap.size (.string ar) (.string ak) (.int .i64 ct) (.slice ua un uc) (.slice wa wn wc)
          have HF := hidJ (HYes.out _ ua un uc wa wn wc (by rw [HM3.out]; simp) ((HB8.out.2.1.ch hc5 (fun k e => by omega)).mono (by omega)) ((HB8.out.2.2.ch hc5 (fun k e => by omega)).mono (by omega)) (gb_ch HB8.out.1.gb hc5 (fun k e => by omega)))
          unfold set5 at HF
          (try simp only [Exit.inBlock, Exit.then])
          refine bodyPost_ret (v := .tuple #[.agg #[.string ar, .string ak, .int .i64 ct, .slice ua un uc, .slice wa wn wc], .int .i64 0]) ?_ rfl HF.out
          simp [results, Tryz.f13, go_sem, m0, m1, m2, m3, m4]
        · have hRb : (R == 0) = false := by rw [beq_eq_false_iff_ne]; exact hR0
          have HXg := hidJ (And.intro HB8.out.1.res (And.intro HB8.out.1.gb (HNo.out (by rw [HM3.out, if_neg (fun k => hR0 k.2)]))))
          clear HB8 HM3 HYes
          obtain ⟨d0, d1, d2, d3, d4⟩ := HXg.out.1.cells
          obtain ⟨f0, f1, f2, f3, f4⟩ := HXg.out.1.froz
          go_wp2
          have hBg := set5_at (x := .string ⟨#[]⟩) (y := .string ⟨#[]⟩) (z := .int .i64 0) (u := .slice none 0 0) (v := .slice none 0 0) HXg.out.1
          obtain ⟨m0, m1, m2, m3, m4⟩ := B5.cells hBg
          unfold set5 at m0 m1 m2 m3 m4
          have HFg := hidJ (HXg.out.2.2 _ (gb_ch HXg.out.2.1 (set5_ch _ w.heap.size (.string ⟨#[]⟩) (.string ⟨#[]⟩) (.int .i64 0) (.slice none 0 0) (.slice none 0 0)) (fun k e => by omega)))
          unfold set5 at HFg
          (try simp only [Exit.inBlock, Exit.then])
          refine bodyPost_ret (v := .tuple #[.agg #[.string ⟨#[]⟩, .string ⟨#[]⟩, .int .i64 0, .slice none 0 0, .slice none 0 0], .int .i64 3]) ?_ rfl HFg.out
          simp [results, Tryz.f13, go_sem, m0, m1, m2, m3, m4]
      · have hpb : (p == (ln : Int)) = false := by rw [beq_eq_false_iff_ne]; exact hpl
        have HXh := hidJ (And.intro HG.out.2.2.1 (And.intro HG.out.1 (HNo.out (by rw [HM3.out, if_neg (fun k => hpl k.1)]))))
        clear HK HRi2 HG HM3 HYes
        obtain ⟨d0, d1, d2, d3, d4⟩ := HXh.out.1.cells
        obtain ⟨f0, f1, f2, f3, f4⟩ := HXh.out.1.froz
        go_wp2
        have hBh := set5_at (x := .string ⟨#[]⟩) (y := .string ⟨#[]⟩) (z := .int .i64 0) (u := .slice none 0 0) (v := .slice none 0 0) HXh.out.1
        obtain ⟨m0, m1, m2, m3, m4⟩ := B5.cells hBh
        unfold set5 at m0 m1 m2 m3 m4
        have HFh := hidJ (HXh.out.2.2 _ (gb_ch HXh.out.2.1 (set5_ch _ w.heap.size (.string ⟨#[]⟩) (.string ⟨#[]⟩) (.int .i64 0) (.slice none 0 0) (.slice none 0 0)) (fun k e => by omega)))
        unfold set5 at HFh
        (try simp only [Exit.inBlock, Exit.then])
        refine bodyPost_ret (v := .tuple #[.agg #[.string ⟨#[]⟩, .string ⟨#[]⟩, .int .i64 0, .slice none 0 0, .slice none 0 0], .int .i64 3]) ?_ rfl HFh.out
        simp [results, Tryz.f13, go_sem, m0, m1, m2, m3, m4]
end Go.Proofs.YtpglhdnepmcahaaGreatDoor

/- Nk9 -/
namespace Go.Proofs.YtpglhdnepmcahaaGreatDoor
open Go.RowKit Go.Shelf Go.Sort

theorem infoBs : (Tryz.prog.info? 42).map (fun i => (i.zero, i.size, i.bytes)) = some (some (.slice none 0 0), 1, 24) := by kernel_rfl
/-- a row of bytes of bytes of the call's own -/
def OwnBB (w : World) (base : Nat) (v : Value) (bss : List (List UInt8)) : Prop := ∃ vs : List Value, w.ownsRow base 42 1 v vs.length vs ∧ vs.length = bss.length ∧ ∀ j, Own w base (vs.getD j nilV) (bss.getD j [])
theorem OwnBB.nil (w : World) (base : Nat) : OwnBB w base (.slice none 0 0) [] := ⟨[], World.ownsRow_nil _ _ _ _, rfl, fun j => by simp [nilV]; exact Own.nil _ _⟩
theorem OwnBB.keep {w w' : World} {base : Nat} {v : Value} {bss : List (List UInt8)} (h : OwnBB w base v bss) (hg : w.grownBy w' none) : OwnBB w' base v bss := by
  obtain ⟨vs, h1, h2, h3⟩ := h
  exact ⟨vs, World.ownsRow.kept h1 hg (by cases v.ownBlock <;> simp), h2, fun j => (h3 j).keep hg⟩
theorem OwnBB.shape {w : World} {base : Nat} {v : Value} {bss : List (List UInt8)} (h : OwnBB w base v bss) : ∃ a c, v = .slice a bss.length c := by
  obtain ⟨vs, h1, h2, h3⟩ := h
  rcases h1.2 with ⟨rfl, hn⟩ | ⟨g, cap, cur, rfl, _⟩
  · exact ⟨none, 0, by rw [← h2, hn]⟩
  · exact ⟨_, _, by rw [h2]⟩
theorem OwnBB.push {W : World} {base : Nat} {v u : Value} {bss : List (List UInt8)} {bs : List UInt8} (h : OwnBB W base v bss) (hb : base ≤ W.heap.size) (hu : Own W base u bs) (hl : bss.length ≤ 1000000) :
    ∃ a2 c2 W2, (Builtin.append_ #[22, 22] 22 #[v, .slice (some ⟨W.heap.size, 0, none⟩) 1 1]).run Tryz.prog (W.alloc (.cells #[u] 42)) = .ok (.slice a2 (bss.length + 1) c2) W2 ∧ OwnBB W2 base (.slice a2 (bss.length + 1) c2) (bss ++ [bs]) ∧ Ch W W2 (fun k => v.ownBlock = some k) := by
  obtain ⟨us, h2, h1, h3⟩ := h
  obtain ⟨i0, hi, hz0, hz1, hz2⟩ := info_parts infoBs
  have hX := World.grownBy_alloc W (.cells #[u] 42) none
  have hnew := Go.heap_alloc_new W (.cells #[u] 42)
  obtain ⟨a0, c0, eu⟩ := hu.shape
  obtain ⟨v2, W2, hrun, ho, hfr⟩ := run_appH (W.alloc (.cells #[u] 42)) 22 22 42 i0 _ 1 24 base Tryz.underlying22 hi hz0 hz1 hz2 rfl (by decide) v us.length us (World.ownsRow.kept h2 hX (by cases v.ownBlock <;> simp)) (some ⟨W.heap.size, 0, none⟩) 1 1 [u] rfl
    (fun j x hj => by
      refine ⟨_, rfl, ?_⟩
      rw [Go.WideShapes.add_plain]
      simp only [World.cell?, hnew]
      simpa using hj) (fun e => by cases e) (fun x hx => by rw [List.mem_singleton] at hx; subst hx; rw [eu]; rfl) (by omega) (by omega) (by simp; omega)
  obtain ⟨a2, cc, rfl⟩ : ∃ a c, v2 = .slice a (us.length + 1) c := by
    rcases ho.2 with ⟨e, e2⟩ | ⟨b, cap, cur, e, -⟩
    · omega
    · exact ⟨_, _, e⟩
  have hk : Ch W W2 (fun k => v.ownBlock = some k) := (Ch.of_gb (S := fun k => v.ownBlock = some k) hX (fun k hk => by cases hk)).trans (Ch.of_gb (S := fun k => v.ownBlock = some k) hfr.1 (fun k hk _ => hk)) (fun _ _ e => e)
  have hne : ∀ (x : Value) (l : List UInt8), Own W base x l → Own W2 base x l := fun x l hx => by
    refine row_ch hx hk (fun k hk' e => ?_)
    obtain ⟨cur, q1⟩ := row_objE hx hk'
    obtain ⟨cur', q2⟩ := row_objE h2 e
    rw [q1] at q2
    simp at q2
  rw [h1] at hrun ho
  refine ⟨a2, cc, W2, hrun, ⟨us ++ [u], ?_, by simp [h1], fun j => ?_⟩, hk⟩
  · rw [List.length_append, h1]
    exact ho
  · by_cases hj : j < us.length
    · have e1 : (us ++ [u]).getD j nilV = us.getD j nilV := by simp [List.getD, List.getElem?_append_left hj]
      have e2 : (bss ++ [bs]).getD j [] = bss.getD j [] := by simp [List.getD, List.getElem?_append_left (show j < bss.length by omega)]
      rw [e1, e2]
      exact hne _ _ (h3 j)
    · by_cases e : j = us.length
      · have e1 : (us ++ [u]).getD j nilV = u := by rw [e]; simp
        have e2 : (bss ++ [bs]).getD j [] = bs := by rw [e, h1]; simp
        rw [e1, e2]
        exact hne _ _ hu
      · have e1 : (us ++ [u]).getD j nilV = nilV := by simp only [List.getD]; rw [List.getElem?_eq_none (by simp; omega)]; rfl
        have e2 : (bss ++ [bs]).getD j [] = [] := by simp only [List.getD]; rw [List.getElem?_eq_none (by simp; omega)]; rfl
        rw [e1, e2]
        exact Own.nil _ _
end Go.Proofs.YtpglhdnepmcahaaGreatDoor

/- Nka -/
namespace Go.Proofs.YtpglhdnepmcahaaGreatDoor
open Go.RowKit Go.Shelf Go.Sort

/-- the records of a log's marks -/
def recsL (l : List MkX) : List (List UInt8) := l.map fun x => recS x.1
theorem recs_next {l : List MkX} {z : Nat} (hz : z < l.length) : recsL (l.take (z + 1)) = recsL (l.take z) ++ [recS (l.getD z xZ).1] := by
  have e : l.getD z xZ = l[z] := by simp [List.getD, hz]
  unfold recsL
  rw [List.take_succ_eq_append_getElem hz, List.map_append, e]
  rfl
set_option maxRecDepth 8000 in
set_option maxHeartbeats 12800000 in
theorem refRecordsX_any (w : World) (gr : Nat) (v : Value) (l : List MkX) (h : RefX w gr v l) :
    Calls Tryz.prog 30 #[.pointer (some ⟨gr, 0, none⟩)] w fun e w' => ∃ a c, e = .returned (.slice a l.length c) ∧ OwnBB w' w.heap.size (.slice a l.length c) (recsL l) ∧ w.grownBy w' none := by
  obtain ⟨va, vc, ev, hvc⟩ := h.row.shape
  subst ev
  have hlen := h.len
  have HE : Hid (∀ j, j < l.length → ∀ wr, w.grownBy wr none → ∃ g fa fn fc sa sn sc, va = some ⟨g, 0, none⟩ ∧ g < wr.heap.size ∧ (l.getD j xZ).2.1 = .slice fa fn fc ∧ (l.getD j xZ).2.2 = .slice sa sn sc ∧ wr.cell? ⟨g, j * 5, none⟩ = some (.string (ByteArray.mk ⟨(l.getD j xZ).1.rcv⟩)) ∧ wr.cell? ⟨g, j * 5 + 1, none⟩ = some (.string (ByteArray.mk ⟨(l.getD j xZ).1.key⟩)) ∧ wr.cell? ⟨g, j * 5 + 2, none⟩ = some (.int .i64 (l.getD j xZ).1.tim) ∧ wr.cell? ⟨g, j * 5 + 3, none⟩ = some (.slice fa fn fc) ∧ wr.cell? ⟨g, j * 5 + 4, none⟩ = some (.slice sa sn sc)) := fun j hj wr hg => by
    obtain ⟨g, c, e0, hgl, d0, d1, d2, d3, d4⟩ := (h.row.keep hg).cells hj
    have hm : l.getD j xZ ∈ l := by simp [List.getD, hj]
    obtain ⟨fa, fc, ef⟩ := (h.each _ hm).1.fir.shape
    obtain ⟨sa, sc, es⟩ := (h.each _ hm).1.res.shape
    rw [ef] at d3
    rw [es] at d4
    simp only [Value.slice.injEq] at e0
    exact ⟨g, fa, _, fc, sa, _, sc, e0.1, hgl, ef, es, d0, d1, d2, d3, d4⟩
  have HRc : Hid (∀ j, j < l.length → ∀ W, w.grownBy W none → Calls Tryz.prog 59 #[markV (l.getD j xZ).1 (l.getD j xZ).2.1 (l.getD j xZ).2.2] W fun e w' => ∃ a1 n1 c1, e = .returned (.tuple #[.slice a1 n1 c1, .int .i64 (rightM (l.getD j xZ).1)]) ∧ Hid (Own w' W.heap.size (.slice a1 n1 c1) (recS (l.getD j xZ).1) ∧ W.grownBy w' none)) := fun j hj W hW => by
    have hm : l.getD j xZ ∈ l := by simp [List.getD, hj]
    exact refRecord_any W _ _ _ (((h.each _ hm).1.keep hW).rd)
  have HBx := hidJ h
  obtain ⟨RQ, hRQ⟩ : ∃ RQ : Ending → World → Prop, RQ = fun e w' => ∃ a c, e = .returned (.slice a l.length c) ∧ OwnBB w' w.heap.size (.slice a l.length c) (recsL l) ∧ w.grownBy w' none := ⟨_, rfl⟩
  have HFin : Hid (∀ W a n c, n = l.length → OwnBB W w.heap.size (.slice a n c) (recsL l) → w.grownBy W none → RQ (.returned (.slice a n c)) W) := fun W a n c hn ho hg => by
    subst hn
    rw [hRQ]
    exact ⟨a, c, rfl, ho, hg⟩
  rw [show (fun e w' => ∃ a c, e = .returned (.slice a l.length c) ∧ OwnBB w' w.heap.size (.slice a l.length c) (recsL l) ∧ w.grownBy w' none) = (fun e w' => RQ e w') from by rw [hRQ]]
  clear hRQ h
  go_enter Tryz.func30, Tryz.ntmps30
  have g0 := HBx.out.box.cell
  have H0 : Hid (OwnBB w w.heap.size (.slice none 0 0) (recsL (l.take 0)) ∧ w.grownBy w none) := ⟨OwnBB.nil _ _, gb_refl _ _⟩
  go_wp2
  clear g0
  go_loopw [3, 13] (fun o i wr => ∃ (z : Nat) (a : Option Addr) (c : Nat), z ≤ l.length ∧ i = .int .i64 z ∧ o = .slice a z c ∧ Hid (OwnBB wr w.heap.size (.slice a z c) (recsL (l.take z)) ∧ w.grownBy wr none)) (fun _ i _ => l.length - (intOf i).toNat)
  case atStart => exact ⟨0, none, 0, by omega, rfl, rfl, H0.out⟩
  case round =>
    obtain ⟨z, oa, oc, hzN, rfl, rfl, hr⟩ := hrel
    clear H0
    by_cases hzl : z < l.length
    · have hzi : (z : Int) < (l.length : Int) := by omega
      obtain ⟨g, fa, fn, fc, sa, sn, sc, rfl, hgl, ef, es, d0, d1, d2, d3, d4⟩ := HE.out z hzl wr hr.out.2
      have HG : Hid (∀ C, w.grownBy (wr.alloc C) none ∧ OwnBB (wr.alloc C) w.heap.size (.slice oa z oc) (recsL (l.take z))) := fun C => ⟨gb_none hr.out.2 (World.grownBy_alloc _ _ none), hr.out.1.keep (World.grownBy_alloc _ _ none)⟩
      have HNx := hidJ (recs_next hzl)
      have hnl : z ≤ 1000 := by omega
      have hrl : (recsL (l.take z)).length = z := by unfold recsL; rw [List.length_map, List.length_take]; omega
      have HPu : Hid (∀ C W u, (wr.alloc C).grownBy W none → Own W (wr.alloc C).heap.size u (recS (l.getD z xZ).1) → ∃ a2 c2 W2, (Builtin.append_ #[22, 22] 22 #[.slice oa z oc, .slice (some ⟨W.heap.size, 0, none⟩) 1 1]).run Tryz.prog (W.alloc (.cells #[u] 42)) = .ok (.slice a2 (z + 1) c2) W2 ∧ Hid (OwnBB W2 w.heap.size (.slice a2 (z + 1) c2) (recsL (l.take (z + 1))) ∧ w.grownBy W2 none)) := fun C W u hg hu => by
        have hb := (HG.out C).1.size
        have hW := gb_none (HG.out C).1 hg
        obtain ⟨a2, c2, W2, q1, q2, q3⟩ := OwnBB.push ((HG.out C).2.keep hg) hW.size (hu.mono hb) (by rw [hrl]; omega)
        rw [hrl] at q1 q2
        refine ⟨a2, c2, W2, q1, ?_, ?_⟩
        · rw [HNx.out]
          exact q2
        · refine Ch.gb (S := fun k => (Value.slice oa z oc).ownBlock = some k) ((Ch.of_gb (S := fun k => (Value.slice oa z oc).ownBlock = some k) hW (fun k hk => by cases hk)).trans q3 (fun _ _ e => e)) (fun k hk e => ?_)
          obtain ⟨vs, p1, -⟩ := (HG.out C).2
          have := (World.ownsRow.lt p1 k e).1
          omega
      have HR2 : Hid (∀ C, Calls Tryz.prog 59 #[.agg #[.string (ByteArray.mk ⟨(l.getD z xZ).1.rcv⟩), .string (ByteArray.mk ⟨(l.getD z xZ).1.key⟩), .int .i64 (l.getD z xZ).1.tim, .slice fa fn fc, .slice sa sn sc]] (wr.alloc C) fun e w' => ∃ a1 n1 c1, e = .returned (.tuple #[.slice a1 n1 c1, .int .i64 (rightM (l.getD z xZ).1)]) ∧ Hid (Own w' (wr.alloc C).heap.size (.slice a1 n1 c1) (recS (l.getD z xZ).1) ∧ (wr.alloc C).grownBy w' none)) := fun C => by
        have := HRc.out z hzl (wr.alloc C) (HG.out C).1
        unfold markV at this
        rw [ef, es] at this
        exact this
      clear hr HE HG HNx HRc ef es hrl HBx HFin
      generalize ByteArray.mk ⟨(l.getD z xZ).1.rcv⟩ = br at *
      generalize ByteArray.mk ⟨(l.getD z xZ).1.key⟩ = bk at *
      generalize (l.getD z xZ).1.tim = tm at *
      generalize recS (l.getD z xZ).1 = rs at *
      generalize rightM (l.getD z xZ).1 = rm at *
      go_wp2_with fail
      refine (HR2.out _).mono ?_
      rintro e w1 ⟨a1, n1, c1, rfl, q0⟩
      obtain ⟨a2, c2, W2, q1, q2⟩ := HPu.out _ w1 _ q0.out.2 q0.out.1
      have R1 := hidJ q1
      clear HPu HR2 q1 q0
      go_wp2_with (at_builtin; refine wp_appRun rfl (.tmp 22) (.tmp 24) 22 rfl _ _ _ rfl rfl R1.out ?_)
      clear R1
      go_wp2
      go_roundw
      case rel => exact ⟨z + 1, a2, c2, by omega, by go_num, rfl, q2.out⟩
      case measure => simp [intOf]; omega
    · have hzi : ¬ (z : Int) < (l.length : Int) := by omega
      have hzn : z = l.length := by omega
      subst hzn
      have ho := hr.out.1
      rw [List.take_length] at ho
      have HF := hidJ (HFin.out wr oa l.length oc rfl ho hr.out.2)
      clear hr ho HFin HE HBx HRc
      go_wp2
      exact HF.out
end Go.Proofs.YtpglhdnepmcahaaGreatDoor
