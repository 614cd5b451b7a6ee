/-
  Nh7, Nh8, in one text.
-/
import Derived.Test.YtpglhdnepmcahaaGreatDoorHmA
import Derived.Test.YtpglhdnepmcahaaGreatDoorNmG
/- Nh7 -/
namespace Go.Proofs.YtpglhdnepmcahaaGreatDoor
open Go.RowKit Go.Shelf Go.Sort

theorem uv_10 {n : Nat} (h : n < 18446744073709551616) : (uv n).length ≤ 10 := by
  have := uv_len64 (BitVec.ofNat 64 n)
  rwa [show (BitVec.ofNat 64 n).toNat = n by rw [BitVec.toNat_ofNat]; exact Nat.mod_eq_of_lt h] at this
theorem fm_len {α : Type} (g : α → List UInt8) (B : Nat) : ∀ ls : List α, (∀ x ∈ ls, (g x).length ≤ B) → (ls.flatMap g).length ≤ ls.length * B
  | [], _ => by simp
  | x :: t, h => by
    have h1 := h x List.mem_cons_self
    have h2 := fm_len g B t (fun y hy => h y (List.mem_cons_of_mem _ hy))
    rw [List.flatMap_cons, List.length_append, List.length_cons, Nat.succ_mul]
    omega
theorem setB_len {ls : List LbT} (h : (rightS ls).1 = 0) : (setB ls).length ≤ 6000 := by
  have hl := right_16 h
  have h1 : (ls.flatMap lbB).length ≤ ls.length * 340 := fm_len lbB 340 ls (fun x hx => by
    have hf := one_facts (right_one h x hx)
    have hn := name_len hf.1
    have u1 := uv_10 (n := x.1.length) (by omega)
    have u2 := uv_10 (n := x.2.length) (by omega)
    unfold lbB
    simp only [List.length_append]
    omega)
  have u := uv_10 (n := ls.length) (by omega)
  unfold setB
  rw [List.length_append]
  omega
theorem allR_mem {lss : List (List LbT)} (h : allR lss = true) : ∀ ls ∈ lss, (rightS ls).1 = 0 := fun ls hls => of_decide_eq_true (List.all_eq_true.1 h ls hls)
theorem setsAt_len {lss : List (List LbT)} (h : allR lss = true) (hl : lss.length ≤ 500) (z : Nat) : (uv lss.length ++ (lss.take z).flatMap setB).length ≤ 4000000 := by
  have h1 := fm_len setB 6000 (lss.take z) (fun x hx => setB_len (allR_mem h x (List.mem_of_mem_take hx)))
  have u := uv_10 (n := lss.length) (by omega)
  rw [List.length_take] at h1
  rw [List.length_append]
  omega
theorem setsB_len {lss : List (List LbT)} (h : allR lss = true) (hl : lss.length ≤ 500) : (setsB lss).length ≤ 4000000 := by
  have := setsAt_len h hl lss.length
  rwa [List.take_length] at this
theorem putS_nil (l : List UInt8) {ls : List LbT} (h : (rightS ls).1 = 0) : putS l ls = (l ++ setB ls, 0) := by
  unfold putS
  rw [if_pos h]
  unfold putAt setB
  rw [List.take_length]
  simp
theorem sets_next {lss : List (List LbT)} {z : Nat} (hz : z < lss.length) : (lss.take (z + 1)).flatMap setB = (lss.take z).flatMap setB ++ setB (lss.getD z []) := by
  rw [List.take_add_one, List.flatMap_append]
  simp [List.getD, hz]
/-- the bytes so far, between two rounds -/
def WsJ (w : World) (out : List UInt8) (v : Value) (wr : World) : Prop := Own wr w.heap.size v out ∧ w.grownBy wr none
set_option maxRecDepth 8000 in
set_option maxHeartbeats 6400000 in
theorem wSets_any (w : World) (v : Value) (lss : List (List LbT)) (hv : RdLL w v lss) (hR : allR lss = true) (hl : lss.length ≤ 500) (hT : U8S w) :
    Calls Tryz.prog 65 #[v] w fun e w' => ∃ a1 n1 c1, e = .returned (.slice a1 n1 c1) ∧ Own w' w.heap.size (.slice a1 n1 c1) (setsB lss) ∧ w.grownBy w' none := by
  have HV := hidJ (And.intro hv (And.intro hR (And.intro hl hT)))
  obtain ⟨va, vc, rfl, hc1, hc2⟩ := hv.shape
  have HPu : Hid (Calls Tryz.prog 96 #[.slice none 0 0, .int .u64 (lss.length : Int)] w fun e w' => ∃ a1 n1 c1, e = .returned (.slice a1 n1 c1) ∧ Hid (WsJ w (uv lss.length ++ (lss.take 0).flatMap setB) (.slice a1 n1 c1) w')) := by
    have h := putU_any (.slice none 0 0) [] (BitVec.ofNat 64 lss.length) w (Rd.nil w) (by simp)
    rw [I64_of (by omega), show (BitVec.ofNat 64 lss.length).toNat = lss.length by rw [BitVec.toNat_ofNat]; exact Nat.mod_eq_of_lt (by omega)] at h
    refine h.mono ?_
    rintro e w' ⟨v', rfl, q1, q2⟩
    obtain ⟨a1, c1, e1⟩ := q1.shape
    subst e1
    exact ⟨a1, _, c1, rfl, by simpa using q1, q2⟩
  have HPt : Hid (∀ W z u, w.grownBy W none → z < lss.length → RdL W u (lss.getD z []) → Calls Tryz.prog 98 #[.slice none 0 0, u] W fun e w' => ∃ a1 n1 c1, e = .returned (.tuple #[.slice a1 n1 c1, .int .i64 0]) ∧ Hid (Rd w' (.slice a1 n1 c1) (setB (lss.getD z [])) ∧ W.grownBy w' none)) := fun W z u hW hz hu => by
    have hr : (rightS (lss.getD z [])).1 = 0 := by
      have : lss.getD z [] = lss[z] := by simp [List.getD, hz]
      rw [this]
      exact allR_mem HV.out.2.1 _ (by simp)
    have h := put_any W (.slice none 0 0) u [] (lss.getD z []) (Rd.nil W) (by simp) hu (right_in hr) (HV.out.2.2.2.keep hW)
    rw [putS_nil [] hr] at h
    refine h.mono ?_
    rintro e w' ⟨v', rfl, q1, q2⟩
    obtain ⟨a1, c1, e1⟩ := q1.shape
    subst e1
    exact ⟨a1, _, c1, rfl, by simpa using q1.rd, q2⟩
  have HSt : Hid (∀ W W2 z u x, z < lss.length → WsJ w (uv lss.length ++ (lss.take z).flatMap setB) u W → W.grownBy W2 none → Rd W2 x (setB (lss.getD z [])) → ∃ a1 n1 c1 w', (Builtin.append_ #[42, 42] 42 #[u, x]).run Tryz.prog W2 = .ok (.slice a1 n1 c1) w' ∧ WsJ w (uv lss.length ++ (lss.take (z + 1)).flatMap setB) (.slice a1 n1 c1) w') := fun W W2 z u x hz hj hg hx => by
    have hr : (rightS (lss.getD z [])).1 = 0 := by
      have : lss.getD z [] = lss[z] := by simp [List.getD, hz]
      rw [this]
      exact allR_mem HV.out.2.1 _ (by simp)
    have hb1 := setsAt_len HV.out.2.1 HV.out.2.2.1 z
    have hb2 := setB_len hr
    have hk := gb_none hj.2 hg
    obtain ⟨v', w', q1, q2, q3⟩ := run_app W2 42 w.heap.size u _ (hj.1.keep hg) x _ hx (by omega) hk.size
    obtain ⟨a1, c1, e1⟩ := q2.shape
    subst e1
    refine ⟨a1, _, c1, w', q1, ?_, Fr.new hk q3 (fun k hk' => (hj.1.lt k hk').1)⟩
    rw [sets_next hz]
    simpa using q2
  have HF : Hid (uv lss.length ++ (lss.take lss.length).flatMap setB = setsB lss) := by
    show _ = _
    rw [List.take_length]
    rfl
  have HAt : Hid (∀ W z, w.grownBy W none → z < lss.length → ∃ b o a' c', va = some ⟨b, o, none⟩ ∧ W.cell? ⟨b, o + z, none⟩ = some (.slice a' (lss.getD z []).length c') ∧ RdL W (.slice a' (lss.getD z []).length c') (lss.getD z [])) := fun W z hW hz => (HV.out.1.keep hW).at hz
  clear hv hR hT HV
  generalize setsB lss = SB at *
  go_enter Tryz.func65, Tryz.ntmps65
  go_wp2_with fail
  refine HPu.out.mono ?_
  rintro e w1 ⟨oa, on, oc, rfl, H1⟩
  clear HPu
  go_wp2
  go_loopw [3, 14] (fun o i wr => ∃ (z : Nat) (a : Option Addr) (n c : Nat), z ≤ lss.length ∧ i = .int .i64 z ∧ o = .slice a n c ∧ Hid (WsJ w (uv lss.length ++ (lss.take z).flatMap setB) (.slice a n c) wr)) (fun _ i _ => lss.length - (intOf i).toNat)
  case atStart => exact ⟨0, oa, on, oc, by omega, rfl, rfl, H1.out⟩
  case round =>
    obtain ⟨z, ra, rn, rc, hzN, rfl, rfl, hr⟩ := hrel
    clear H1
    by_cases hzl : z < lss.length
    · have hzi : (z : Int) < (lss.length : Int) := by omega
      obtain ⟨b, o, a', c', rfl, d0, hrd⟩ := HAt.out wr z hr.out.2 hzl
      have HRd := hidJ hrd
      have HP2 := hidJ (fun W (hW : wr.grownBy W none) => HPt.out W z _ (gb_none hr.out.2 hW) hzl (hrd.keep hW))
      clear hrd HAt HPt
      generalize (lss.getD z []).length = hn at *
      go_wp2_with fail
      refine (HP2.out _ (gb_refl _ _)).mono ?_
      rintro e w2 ⟨xa, xn, xc, rfl, H2⟩
      obtain ⟨a2, n2, c2, w3, s1, s2⟩ := HSt.out wr w2 z _ _ hzl hr.out H2.out.2 H2.out.1
      have H7 := hidJ s2
      have R2 := hidJ s1
      clear hr s1 s2 H2 HP2 HRd d0 HSt
      go_wp2_with (at_builtin; refine wp_appRun rfl (.tmp 23) (.tmp 24) 42 rfl _ _ _ rfl rfl R2.out ?_)
      clear R2
      go_wp2
      go_roundw
      case rel => exact ⟨z + 1, a2, n2, c2, by omega, by go_num, rfl, H7⟩
      case measure => simp [intOf]; omega
    · have hzi : ¬ (z : Int) < (lss.length : Int) := by omega
      have hzn : z = lss.length := by omega
      subst hzn
      have HG := hidJ hr.out
      rw [HF.out] at HG
      clear hr
      go_wp2
      go_ret
      exact ⟨_, _, _, rfl, HG.out⟩
end Go.Proofs.YtpglhdnepmcahaaGreatDoor

/- Nh8 -/
namespace Go.Proofs.YtpglhdnepmcahaaGreatDoor
open Go.RowKit Go.Shelf Go.Sort

theorem right_txt {m : MkR} (h : rightM m = 0) : (m.rcv.length ≤ 64 ∧ Go.Lib.validD m.rcv = true) ∧ (m.key.length ≤ 65536 ∧ Go.Lib.validD m.key = true) ∧ 0 ≤ m.tim ∧ m.tim ≤ 1125899906842624 := by
  unfold rightM at h
  split at h
  · omega
  rename_i h1
  split at h
  · omega
  rename_i h2
  split at h
  · omega
  rename_i h3
  unfold txtB at h1 h2
  unfold timB at h3
  simp only [Bool.and_eq_true, decide_eq_true_eq, Bool.not_eq_false] at h1 h2 h3
  exact ⟨⟨h1.2.1, h1.2.2⟩, ⟨h2.2.1, h2.2.2⟩, h3⟩
theorem right_sets {m : MkR} (h : rightM m = 0) : allR m.fir = true ∧ allR m.res = true := by
  obtain ⟨r1, r2⟩ := right_rise h
  unfold riseB at r1 r2
  rw [Bool.and_eq_true] at r1 r2
  exact ⟨r1.2, r2.2⟩
def headB (m : MkR) : List UInt8 := uv m.rcv.length ++ m.rcv ++ (uv m.key.length ++ m.key) ++ uv (zz m.tim)
theorem headB_len {m : MkR} (h : rightM m = 0) : (headB m).length ≤ 100000 := by
  obtain ⟨⟨h1, -⟩, ⟨h2, -⟩, h3, h4⟩ := right_txt h
  have u1 := uv_10 (n := m.rcv.length) (by omega)
  have u2 := uv_10 (n := m.key.length) (by omega)
  have u3 := uv_10 (uz_zz (n := m.tim) (by omega) (by omega)).2
  unfold headB
  simp only [List.length_append]
  omega
theorem recB_head (m : MkR) : recB m = headB m ++ setsB m.fir ++ setsB m.res := rfl
theorem zz_lt {m : MkR} (h : rightM m = 0) : -9223372036854775808 ≤ m.tim ∧ m.tim ≤ 9223372036854775807 := by
  obtain ⟨-, -, h3, h4⟩ := right_txt h
  omega
set_option maxRecDepth 8000 in
set_option maxHeartbeats 6400000 in
theorem written_any (w : World) (m : MkR) (f s : Value) (h : RdM w m f s) (hR : rightM m = 0) (hT : U8S w) :
    Calls Tryz.prog 32 #[markV m f s] w fun e w' => ∃ a1 n1 c1, e = .returned (.slice a1 n1 c1) ∧ Own w' w.heap.size (.slice a1 n1 c1) (recB m) ∧ w.grownBy w' none := by
  obtain ⟨fa, fc, ef, -⟩ := h.fir.shape
  obtain ⟨sa, sc, es, -⟩ := h.res.shape
  subst ef es
  have HB := hidJ (And.intro (B5.new w 34 (.string (ByteArray.mk ⟨m.rcv⟩)) (.string (ByteArray.mk ⟨m.key⟩)) (.int .i64 m.tim) (.slice fa m.fir.length fc) (.slice sa m.res.length sc)) (World.grownBy_alloc w (.cells #[.string (ByteArray.mk ⟨m.rcv⟩), .string (ByteArray.mk ⟨m.key⟩), .int .i64 m.tim, .slice fa m.fir.length fc, .slice sa m.res.length sc] 34) none))
  obtain ⟨W0, hW0⟩ : ∃ W0, W0 = w.alloc (.cells #[.string (ByteArray.mk ⟨m.rcv⟩), .string (ByteArray.mk ⟨m.key⟩), .int .i64 m.tim, .slice fa m.fir.length fc, .slice sa m.res.length sc] 34) := ⟨_, rfl⟩
  rw [← hW0] at HB
  have HM := hidJ (And.intro (h.keep HB.out.2) (And.intro hR (hT.keep HB.out.2)))
  obtain ⟨⟨t1, -⟩, ⟨t2, -⟩, t3⟩ := right_txt hR
  have HP1 : Hid (∀ W, W0.grownBy W none → Calls Tryz.prog 63 #[.slice none 0 0, .string (ByteArray.mk ⟨m.rcv⟩)] W fun e w' => ∃ a1 n1 c1, e = .returned (.slice a1 n1 c1) ∧ Hid (Own w' W0.heap.size (.slice a1 n1 c1) (uv m.rcv.length ++ m.rcv) ∧ W0.grownBy w' none)) := fun W hW => by
    refine (putText_any (.slice none 0 0) [] m.rcv W (Rd.nil W) (by simp; omega)).mono ?_
    rintro e w' ⟨v', rfl, q1, q2⟩
    obtain ⟨a1, c1, e1⟩ := q1.shape
    subst e1
    exact ⟨a1, _, c1, rfl, (by simpa using q1.mono hW.size), gb_none hW q2⟩
  have HP2 : Hid (∀ W v, W0.grownBy W none → Own W W0.heap.size v (uv m.rcv.length ++ m.rcv) → Calls Tryz.prog 63 #[v, .string (ByteArray.mk ⟨m.key⟩)] W fun e w' => ∃ a1 n1 c1, e = .returned (.slice a1 n1 c1) ∧ Hid (Own w' W0.heap.size (.slice a1 n1 c1) (uv m.rcv.length ++ m.rcv ++ (uv m.key.length ++ m.key)) ∧ W0.grownBy w' none)) := fun W v hW hv => by
    have u1 := uv_10 (n := m.rcv.length) (by omega)
    refine (putText_any v _ m.key W hv.rd (by simp only [List.length_append]; omega)).mono ?_
    rintro e w' ⟨v', rfl, q1, q2⟩
    obtain ⟨a1, c1, e1⟩ := q1.shape
    subst e1
    exact ⟨a1, _, c1, rfl, (by simpa using q1.mono hW.size), gb_none hW q2⟩
  have HP3 : Hid (∀ W v, W0.grownBy W none → Own W W0.heap.size v (uv m.rcv.length ++ m.rcv ++ (uv m.key.length ++ m.key)) → Calls Tryz.prog 64 #[v, .int .i64 m.tim] W fun e w' => ∃ a1 n1 c1, e = .returned (.slice a1 n1 c1) ∧ Hid (Own w' W0.heap.size (.slice a1 n1 c1) (headB m) ∧ W0.grownBy w' none)) := fun W v hW hv => by
    have u1 := uv_10 (n := m.rcv.length) (by omega)
    have u2 := uv_10 (n := m.key.length) (by omega)
    refine (putI_any v _ m.tim W hv.rd (by simp only [List.length_append]; omega) (zz_lt HM.out.2.1).1 (zz_lt HM.out.2.1).2).mono ?_
    rintro e w' ⟨v', rfl, q1, q2⟩
    obtain ⟨a1, c1, e1⟩ := q1.shape
    subst e1
    exact ⟨a1, _, c1, rfl, q1.mono hW.size, gb_none hW q2⟩
  have hset := right_sets hR
  have hlen := right_len hR
  have HS1 : Hid (∀ W, W0.grownBy W none → Calls Tryz.prog 65 #[.slice fa m.fir.length fc] W fun e w' => ∃ a1 n1 c1, e = .returned (.slice a1 n1 c1) ∧ Hid (Rd w' (.slice a1 n1 c1) (setsB m.fir) ∧ W.grownBy w' none)) := fun W hW => by
    refine (wSets_any W _ m.fir (HM.out.1.fir.keep hW) hset.1 hlen.1 (HM.out.2.2.keep hW)).mono ?_
    rintro e w' ⟨a1, n1, c1, rfl, q1, q2⟩
    exact ⟨a1, n1, c1, rfl, q1.rd, q2⟩
  have HS2 : Hid (∀ W, W0.grownBy W none → Calls Tryz.prog 65 #[.slice sa m.res.length sc] W fun e w' => ∃ a1 n1 c1, e = .returned (.slice a1 n1 c1) ∧ Hid (Rd w' (.slice a1 n1 c1) (setsB m.res) ∧ W.grownBy w' none)) := fun W hW => by
    refine (wSets_any W _ m.res (HM.out.1.res.keep hW) hset.2 hlen.2 (HM.out.2.2.keep hW)).mono ?_
    rintro e w' ⟨a1, n1, c1, rfl, q1, q2⟩
    exact ⟨a1, n1, c1, rfl, q1.rd, q2⟩
  have hb1 := headB_len hR
  have hb2 := setsB_len hset.1 hlen.1
  have hb3 := setsB_len hset.2 hlen.2
  have HA1 : Hid (∀ W v x, W0.grownBy W none → Own W W0.heap.size v (headB m) → Rd W x (setsB m.fir) → ∃ a1 n1 c1 w', (Builtin.append_ #[42, 42] 42 #[v, x]).run Tryz.prog W = .ok (.slice a1 n1 c1) w' ∧ Own w' W0.heap.size (.slice a1 n1 c1) (headB m ++ setsB m.fir) ∧ W0.grownBy w' none) := fun W v x hW hv hx => by
    obtain ⟨v', w', q1, q2, q3⟩ := run_app W 42 W0.heap.size v _ hv x _ hx (by omega) hW.size
    obtain ⟨a1, c1, e1⟩ := q2.shape
    subst e1
    exact ⟨a1, _, c1, w', q1, q2, Fr.new hW q3 (fun k hk' => (hv.lt k hk').1)⟩
  have HA2 : Hid (∀ W v x, W0.grownBy W none → Own W W0.heap.size v (headB m ++ setsB m.fir) → Rd W x (setsB m.res) → ∃ a1 n1 c1 w', (Builtin.append_ #[42, 42] 42 #[v, x]).run Tryz.prog W = .ok (.slice a1 n1 c1) w' ∧ Own w' W0.heap.size (.slice a1 n1 c1) (recB m) ∧ W0.grownBy w' none) := fun W v x hW hv hx => by
    obtain ⟨v', w', q1, q2, q3⟩ := run_app W 42 W0.heap.size v _ hv x _ hx (by rw [List.length_append]; omega) hW.size
    obtain ⟨a1, c1, e1⟩ := q2.shape
    subst e1
    exact ⟨a1, _, c1, w', q1, q2, Fr.new hW q3 (fun k hk' => (hv.lt k hk').1)⟩
  clear h hR hT hset hlen hb1 hb2 hb3 HM t1 t2 t3
  unfold markV
  generalize headB m = hB at *
  generalize recB m = rB at *
  generalize setsB m.fir = fB at *
  generalize setsB m.res = sB at *
  generalize uv m.rcv.length ++ m.rcv = b1 at *
  generalize uv m.key.length ++ m.key = b2 at *
  generalize ByteArray.mk ⟨m.rcv⟩ = br at *
  generalize ByteArray.mk ⟨m.key⟩ = bk at *
  generalize m.tim = tm at *
  generalize m.fir.length = nf at *
  generalize m.res.length = ns at *
  obtain ⟨c0, c1, c2, c3, c4⟩ := HB.out.1.cells
  go_enter Tryz.func32, Tryz.ntmps32
  rw [hW0] at c0
  go_wp2_with fail
  rw [← hW0]
  clear c0 hW0
  refine (HP1.out _ (gb_refl _ _)).mono ?_
  rintro e w1 ⟨a1, n1, x1, rfl, H1⟩
  clear HP1 c1 c2 c3 c4
  obtain ⟨-, c1, -, -, -⟩ := (HB.out.1.keep H1.out.2).cells
  go_wp2_with fail
  refine (HP2.out _ _ H1.out.2 H1.out.1).mono ?_
  rintro e w2 ⟨a2, n2, x2, rfl, H2⟩
  clear HP2 H1 c1
  obtain ⟨-, -, c2, -, -⟩ := (HB.out.1.keep H2.out.2).cells
  go_wp2_with fail
  refine (HP3.out _ _ H2.out.2 H2.out.1).mono ?_
  rintro e w3 ⟨a3, n3, x3, rfl, H3⟩
  clear HP3 H2 c2
  obtain ⟨-, -, -, c3, -⟩ := (HB.out.1.keep H3.out.2).cells
  go_wp2_with fail
  refine (HS1.out _ H3.out.2).mono ?_
  rintro e w4 ⟨a4, n4, x4, rfl, H4⟩
  obtain ⟨a5, n5, x5, w5, r5, s5⟩ := HA1.out w4 _ _ (gb_none H3.out.2 H4.out.2) (H3.out.1.keep H4.out.2) H4.out.1
  have R5 := hidJ r5
  have H5 := hidJ s5
  clear HS1 HA1 H3 H4 c3 r5 s5
  obtain ⟨-, -, -, -, c4⟩ := (HB.out.1.keep H5.out.2).cells
  go_wp2_with (at_builtin; refine wp_appRun rfl (.tmp 15) (.tmp 18) 42 rfl _ _ _ rfl rfl R5.out ?_)
  clear R5
  refine (HS2.out _ H5.out.2).mono ?_
  rintro e w6 ⟨a6, n6, x6, rfl, H6⟩
  obtain ⟨a7, n7, x7, w7, r7, s7⟩ := HA2.out w6 _ _ (gb_none H5.out.2 H6.out.2) (H5.out.1.keep H6.out.2) H6.out.1
  have R7 := hidJ r7
  have H7 := hidJ (And.intro (s7.1.mono HB.out.2.size) (gb_none HB.out.2 s7.2))
  clear HS2 HA2 H5 H6 c4 r7 s7 HB
  go_wp2_with (at_builtin; refine wp_appRun rfl (.tmp 20) (.tmp 23) 42 rfl _ _ _ rfl rfl R7.out ?_)
  clear R7
  go_wp2
  go_ret
  exact ⟨_, _, _, rfl, H7.out⟩
/-- what Record answers -/
def recS (m : MkR) : List UInt8 := if rightM m = 0 then recB m else []
end Go.Proofs.YtpglhdnepmcahaaGreatDoor
