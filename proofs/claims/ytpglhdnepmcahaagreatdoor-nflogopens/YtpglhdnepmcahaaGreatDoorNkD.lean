/-
  Nke, Nkf, in one text.
-/
import Derived.Test.YtpglhdnepmcahaaGreatDoorNkC
/- Nke -/
namespace Go.Proofs.YtpglhdnepmcahaaGreatDoor
open Go.RowKit Go.Shelf Go.Sort

theorem GoC.ch {w w' : World} {now kp : Int} {g1 g2 gc : Nat} {S : Nat → Prop} (h : GoC w now kp g1 g2 gc) (hc : Ch w w' S) (h1 : ¬ S g1) (h2 : ¬ S g2) (h3 : ¬ S gc) : GoC w' now kp g1 g2 gc :=
  ⟨(World.cell?_of_block (hc.block h.l1 h1)).trans h.c1, (World.cell?_of_block (hc.block h.l2 h2)).trans h.c2, (World.cell?_of_block (hc.block h.lc h3)).trans h.cc, Nat.lt_of_lt_of_le h.l1 hc.size, Nat.lt_of_lt_of_le h.l2 hc.size, Nat.lt_of_lt_of_le h.lc hc.size⟩
def ShX (l : List MkX) : Prop := ∀ x ∈ l, (∃ a n c, x.2.1 = .slice a n c) ∧ ∃ a n c, x.2.2 = .slice a n c
theorem ShX.at {l : List MkX} (h : ShX l) (j : Nat) : (∃ a n c, (l.getD j xZ).2.1 = .slice a n c) ∧ ∃ a n c, (l.getD j xZ).2.2 = .slice a n c := by
  by_cases hj : j < l.length
  · exact h _ (by simp [List.getD, hj])
  · have : l.getD j xZ = xZ := by simp [List.getD, List.getElem?_eq_none (by omega : l.length ≤ j)]
    rw [this]
    exact ⟨⟨_, _, _, rfl⟩, _, _, _, rfl⟩
/-- DeleteFunc between two rounds: z were looked at, k stay -/
structure DeJ (w0 : World) (g n cap : Nat) (l : List MkX) (d : Int) (k z : Nat) (cur : List MkX) (wr : World) : Prop where
  row : OwnE wr 0 (.slice (some ⟨g, 0, none⟩) n cap) cur
  len : cur.length = n
  pre : cur.take k = swpM (l.take z) d
  suf : ∀ m, z ≤ m → m < n → cur.getD m xZ = l.getD m xZ
  shp : ShX cur
  old : w0.grownBy wr (some g)
theorem DeJ.keep {w0 wr w1 : World} {g n cap k z : Nat} {l cur : List MkX} {d : Int} (h : DeJ w0 g n cap l d k z cur wr) (hg : wr.grownBy w1 none) : DeJ w0 g n cap l d k z cur w1 :=
  ⟨h.row.keep hg, h.len, h.pre, h.suf, h.shp, gb_none h.old hg⟩
theorem DeJ.skip {w0 wr w1 : World} {g n cap k z : Nat} {l cur : List MkX} {d : Int} (h : DeJ w0 g n cap l d k z cur wr) (hg : wr.grownBy w1 none) (hz : z < l.length) (ht : (l.getD z xZ).1.tim ≤ d) : DeJ w0 g n cap l d k (z + 1) cur w1 := by
  have hk := h.keep hg
  refine ⟨hk.row, hk.len, ?_, fun m h1 h2 => hk.suf m (by omega) h2, hk.shp, hk.old⟩
  rw [swp_next hz, if_neg (by omega)]
  exact hk.pre
theorem DeJ.put {w0 wr w1 : World} {g n cap k z : Nat} {l cur : List MkX} {d : Int} (h : DeJ w0 g n cap l d k z cur wr) (hg : wr.grownBy w1 none) (hz : z < l.length) (hl : l.length = n) (hk : k < z) (ht : ¬ (l.getD z xZ).1.tim ≤ d) (hsh : ShX l) :
    DeJ w0 g n cap l d (k + 1) (z + 1) (cur.set k (l.getD z xZ)) (setE7 w1 g (k * 7) (.string (ByteArray.mk ⟨(l.getD z xZ).1.rcv⟩)) (.string (ByteArray.mk ⟨(l.getD z xZ).1.key⟩)) (.string (ByteArray.mk ⟨(l.getD z xZ).1.rcv⟩)) (.string (ByteArray.mk ⟨(l.getD z xZ).1.key⟩)) (.int .i64 (l.getD z xZ).1.tim) (l.getD z xZ).2.1 (l.getD z xZ).2.2) := by
  have hh := h.keep hg
  have hkn : k < cur.length := by rw [hh.len]; omega
  refine ⟨hh.row.set7 _ hh.len.symm hkn, by rw [List.length_set]; exact hh.len, ?_, fun m h1 h2 => ?_, fun x hx => ?_, ?_⟩
  · rw [take_setE _ hkn, swp_next hz, if_pos (by omega), hh.pre]
  · rw [set_getDE _ (by omega)]
    exact hh.suf m (by omega) h2
  · rcases List.mem_or_eq_of_mem_set hx with hx | hx
    · exact hh.shp x hx
    · rw [hx]; exact hsh.at z
  · refine gb_trans hh.old ?_ (fun k' hk' _ => hk'.symm)
    have hc := setE7_ch w1 g (k * 7) (.string (ByteArray.mk ⟨(l.getD z xZ).1.rcv⟩)) (.string (ByteArray.mk ⟨(l.getD z xZ).1.key⟩)) (.string (ByteArray.mk ⟨(l.getD z xZ).1.rcv⟩)) (.string (ByteArray.mk ⟨(l.getD z xZ).1.key⟩)) (.int .i64 (l.getD z xZ).1.tim) (l.getD z xZ).2.1 (l.getD z xZ).2.2
    exact ⟨hc.1, hc.2.1, hc.2.2.1, hc.size, fun k hk hne => hc.block hk (fun e => hne (by rw [e]))⟩
set_option maxRecDepth 8000 in
set_option maxHeartbeats 12800000 in
theorem deleteE_any (w : World) (g n cap : Nat) (l : List MkX) (now kp : Int) (g1 g2 gc : Nat) (hv : OwnE w 0 (.slice (some ⟨g, 0, none⟩) n cap) l) (hl5 : l.length ≤ 500) (hsh : ShX l) (hC : GoC w now kp g1 g2 gc) (hne : g1 ≠ g ∧ g2 ≠ g ∧ gc ≠ g) (hnw : 0 ≤ now ∧ now ≤ 1125899906842624) (hkp : 0 ≤ kp ∧ kp ≤ 1099511627776) :
    Calls Tryz.prog 86 #[.slice (some ⟨g, 0, none⟩) n cap, .func (.func 87) #[] #[.pointer (some ⟨gc, 0, none⟩)]] w fun e w' => e = .returned (.slice (some ⟨g, 0, none⟩) (swpM l (now - kp)).length cap) ∧ OwnE w' 0 (.slice (some ⟨g, 0, none⟩) (swpM l (now - kp)).length cap) (swpM l (now - kp)) ∧ w.grownBy w' (some g) := by
  obtain ⟨d, hd⟩ : ∃ d, now - kp = d := ⟨_, rfl⟩
  rw [hd]
  have hnl : n = l.length := by
    obtain ⟨a', c', e'⟩ := hv.shape
    simp only [Value.slice.injEq] at e'
    exact e'.2.1
  have hcap : n ≤ cap ∧ cap ≤ 9223372036854775807 := by
    rcases hv.2 with ⟨h', _⟩ | ⟨g', c', cur, h', hgb, hh, hnc, hcm, hcs, htake⟩
    · simp at h'
    · simp only [Value.slice.injEq, Option.some.injEq, Addr.mk.injEq, and_true] at h'
      obtain ⟨rfl, -, rfl⟩ := h'
      unfold maxLen at hcm
      exact ⟨by omega, hcm⟩
  have HI := indexE_any w (.slice (some ⟨g, 0, none⟩) n cap) l now kp g1 g2 gc hv hl5 hsh hC hnw hkp
  rw [hd] at HI
  have HI := hidJ HI
  obtain ⟨RQ, hRQ⟩ : ∃ RQ : Ending → World → Prop, RQ = fun e w' => e = .returned (.slice (some ⟨g, 0, none⟩) (swpM l d).length cap) ∧ OwnE w' 0 (.slice (some ⟨g, 0, none⟩) (swpM l d).length cap) (swpM l d) ∧ w.grownBy w' (some g) := ⟨_, rfl⟩
  have HF : Hid (∀ w' k, k = (swpM l d).length → OwnE w' 0 (.slice (some ⟨g, 0, none⟩) k cap) (swpM l d) → w.grownBy w' (some g) → RQ (.returned (.slice (some ⟨g, 0, none⟩) k cap)) w') := fun w' k hk ho hg => by
    subst hk
    rw [hRQ]
    exact ⟨rfl, ho, hg⟩
  rw [show (fun e w' => e = .returned (.slice (some ⟨g, 0, none⟩) (swpM l d).length cap) ∧ OwnE w' 0 (.slice (some ⟨g, 0, none⟩) (swpM l d).length cap) (swpM l d) ∧ w.grownBy w' (some g)) = (fun e w' => RQ e w') from by rw [hRQ]]
  clear hRQ
  obtain ⟨hcap1, hcap2⟩ := hcap
  have HV : Hid (OwnE w 0 (.slice (some ⟨g, 0, none⟩) n cap) l ∧ n = l.length ∧ ShX l) := ⟨hv, hnl, hsh⟩
  have hn5 : n ≤ 500 := by omega
  -- an entry of a row that is under way, and whether it goes
  have HE : Hid (∀ k z cur wr, DeJ w g n cap l d k z cur wr → k < n → z < n → ∃ fa fn fc sa sn sc fa' fn' fc' sa' sn' sc', ∃ (r' k' : ByteArray) (t' : Int), (l.getD z xZ).2.1 = .slice fa fn fc ∧ (l.getD z xZ).2.2 = .slice sa sn sc ∧ g < wr.heap.size ∧
      (wr.cell? ⟨g, z * 7, none⟩ = some (.string (ByteArray.mk ⟨(l.getD z xZ).1.rcv⟩)) ∧ wr.cell? ⟨g, z * 7 + 1, none⟩ = some (.string (ByteArray.mk ⟨(l.getD z xZ).1.key⟩)) ∧ wr.cell? ⟨g, z * 7 + 2, none⟩ = some (.string (ByteArray.mk ⟨(l.getD z xZ).1.rcv⟩)) ∧ wr.cell? ⟨g, z * 7 + 3, none⟩ = some (.string (ByteArray.mk ⟨(l.getD z xZ).1.key⟩)) ∧ wr.cell? ⟨g, z * 7 + 4, none⟩ = some (.int .i64 (l.getD z xZ).1.tim) ∧ wr.cell? ⟨g, z * 7 + 5, none⟩ = some (.slice fa fn fc) ∧ wr.cell? ⟨g, z * 7 + 6, none⟩ = some (.slice sa sn sc)) ∧
      Hid (∀ W, wr.grownBy W none → W.heap[wr.heap.size]? = some (.cells #[.string (ByteArray.mk ⟨(l.getD z xZ).1.rcv⟩), .string (ByteArray.mk ⟨(l.getD z xZ).1.key⟩), .string (ByteArray.mk ⟨(l.getD z xZ).1.rcv⟩), .string (ByteArray.mk ⟨(l.getD z xZ).1.key⟩), .int .i64 (l.getD z xZ).1.tim, .slice fa fn fc, .slice sa sn sc] 117 (0, 0)) → Calls Tryz.prog 87 #[.agg #[.string (ByteArray.mk ⟨(l.getD z xZ).1.rcv⟩), .string (ByteArray.mk ⟨(l.getD z xZ).1.key⟩), .string (ByteArray.mk ⟨(l.getD z xZ).1.rcv⟩), .string (ByteArray.mk ⟨(l.getD z xZ).1.key⟩), .int .i64 (l.getD z xZ).1.tim, .slice fa fn fc, .slice sa sn sc], .pointer (some ⟨gc, 0, none⟩)] W fun e w' => e = .returned (.bool (decide ((l.getD z xZ).1.tim ≤ d))) ∧
        ((w'.cell? ⟨wr.heap.size, 0, none⟩ = some (.string (ByteArray.mk ⟨(l.getD z xZ).1.rcv⟩)) ∧ w'.cell? ⟨wr.heap.size, 1, none⟩ = some (.string (ByteArray.mk ⟨(l.getD z xZ).1.key⟩)) ∧ w'.cell? ⟨wr.heap.size, 2, none⟩ = some (.string (ByteArray.mk ⟨(l.getD z xZ).1.rcv⟩)) ∧ w'.cell? ⟨wr.heap.size, 3, none⟩ = some (.string (ByteArray.mk ⟨(l.getD z xZ).1.key⟩)) ∧ w'.cell? ⟨wr.heap.size, 4, none⟩ = some (.int .i64 (l.getD z xZ).1.tim) ∧ w'.cell? ⟨wr.heap.size, 5, none⟩ = some (.slice fa fn fc) ∧ w'.cell? ⟨wr.heap.size, 6, none⟩ = some (.slice sa sn sc)) ∧
         (w'.cell? ⟨g, k * 7, none⟩ = some (.string r') ∧ w'.cell? ⟨g, k * 7 + 1, none⟩ = some (.string k') ∧ w'.cell? ⟨g, k * 7 + 2, none⟩ = some (.string r') ∧ w'.cell? ⟨g, k * 7 + 3, none⟩ = some (.string k') ∧ w'.cell? ⟨g, k * 7 + 4, none⟩ = some (.int .i64 t') ∧ w'.cell? ⟨g, k * 7 + 5, none⟩ = some (.slice fa' fn' fc') ∧ w'.cell? ⟨g, k * 7 + 6, none⟩ = some (.slice sa' sn' sc')) ∧
         ∀ j, w'.frozen? ⟨g, j, none⟩ = false) ∧ Hid (wr.grownBy w' none))) := fun k z cur wr hJ hkn hzn => by
    have hzl : z < cur.length := by rw [hJ.len]; exact hzn
    have hkl : k < cur.length := by rw [hJ.len]; exact hkn
    obtain ⟨gg, cc, e0, -, -, hgl, d0, d1, d2, d3, d4, d5, d6⟩ := hJ.row.cells hzl
    obtain ⟨gg', cc', e0', -, -, -, k0, k1, k2, k3, k4, k5, k6⟩ := hJ.row.cells hkl
    simp only [Value.slice.injEq, Option.some.injEq, Addr.mk.injEq, and_true] at e0 e0'
    obtain ⟨rfl, -, -⟩ := e0
    obtain ⟨rfl, -, -⟩ := e0'
    have hl0 := hJ.suf z (Nat.le_refl _) hzn
    have hsx := HV.out.2.2.at z
    obtain ⟨⟨fa, fn, fc, ef⟩, sa, sn, sc, es⟩ := hsx
    obtain ⟨⟨fa', fn', fc', ef'⟩, sa', sn', sc', es'⟩ := hJ.shp.at k
    rw [hl0] at d0 d1 d2 d3 d4 d5 d6
    rw [ef] at d5
    rw [es] at d6
    rw [ef'] at k5
    rw [es'] at k6
    refine ⟨fa, fn, fc, sa, sn, sc, fa', fn', fc', sa', sn', sc', ByteArray.mk ⟨(cur.getD k xZ).1.rcv⟩, ByteArray.mk ⟨(cur.getD k xZ).1.key⟩, (cur.getD k xZ).1.tim, ef, es, hgl, ⟨d0, d1, d2, d3, d4, d5, d6⟩, fun W hW hb => ?_⟩
    have hCW : GoC W now kp g1 g2 gc := by
      refine (hC.ch (S := fun k => k = g) ⟨hJ.old.os, hJ.old.tape, hJ.old.output, hJ.old.size, fun k hk hs => hJ.old.block k hk (fun e => hs (by cases e; rfl))⟩ hne.1 hne.2.1 hne.2.2).keep hW
    have hc := drop1_any W (l.getD z xZ) now kp g1 g2 gc hCW (HV.out.2.2.at z) hnw hkp
    unfold entV at hc
    rw [ef, es, hd] at hc
    refine hc.mono ?_
    rintro e w' ⟨q1, q2⟩
    have hG := gb_none hW q2
    have hb' := (q2.block wr.heap.size (some_lt hb) (by simp)).trans hb
    have kc : ∀ {o : Nat} {u : Value}, wr.cell? ⟨g, o, none⟩ = some u → w'.cell? ⟨g, o, none⟩ = some u := fun h => (World.cell?_of_block (hG.block _ hgl (by simp))).trans h
    refine ⟨q1, ⟨⟨by simp only [World.cell?, hb']; rfl, by simp only [World.cell?, hb']; rfl, by simp only [World.cell?, hb']; rfl, by simp only [World.cell?, hb']; rfl, by simp only [World.cell?, hb']; rfl, by simp only [World.cell?, hb']; rfl, by simp only [World.cell?, hb']; rfl⟩, ⟨kc k0, kc k1, kc k2, kc k3, kc k4, kc k5, kc k6⟩, fun j => ?_⟩, hG⟩
    obtain ⟨cur', hcur⟩ := row_objE (hJ.row.keep hG) rfl
    simp [World.frozen?, hcur]
  clear hC hne hnw hkp
  by_cases hno : goI l d = -1
  · have hs := swp_none hno
    rw [hno] at HI
    have HFN : Hid (∀ w', w.grownBy w' none → RQ (.returned (.slice (some ⟨g, 0, none⟩) n cap)) w') := fun w' hg => HF.out w' n (by rw [hs]; exact HV.out.2.1) (by rw [hs]; exact HV.out.1.keep hg) (gb_any hg _)
    clear hs hno HF HE hv hsh hnl
    go_enter Tryz.func86, Tryz.ntmps86
    go_wp2_with fail
    refine HI.out.mono ?_
    rintro e w1 ⟨rfl, hg1⟩
    have HFF := hidJ (HFN.out w1 hg1)
    clear HI HFN hg1
    go_wp2
    exact HFF.out
  · obtain ⟨k0, hk0⟩ : ∃ k0 : Nat, goI l d = k0 := by
      unfold goI at hno ⊢
      split
      · exact ⟨_, rfl⟩
      · rename_i h
        rw [if_neg h] at hno
        exact absurd rfl hno
    obtain ⟨hk1, hk2, hk3⟩ := swp_first hk0
    rw [hk0] at HI
    have hkn : k0 < n := by omega
    have hkb : ((k0 : Int) == -1) = false := by rw [beq_eq_false_iff_ne]; omega
    have H0 : Hid (∀ w1, w.grownBy w1 none → DeJ w g n cap l d k0 (k0 + 1) l w1) := fun w1 hg => ⟨HV.out.1.keep hg, HV.out.2.1.symm, by rw [hk3], fun _ _ _ => rfl, HV.out.2.2, gb_any hg _⟩
    clear hk0 hk1 hk2 hk3 hno hv hsh hnl
    go_enter Tryz.func86, Tryz.ntmps86
    go_wp2_with fail
    refine HI.out.mono ?_
    rintro e w1 ⟨rfl, hg1⟩
    have H1 := hidJ (H0.out w1 hg1)
    clear hg1 HI H0
    go_wp2
    go_loopw [5, 6] (fun ui uj wr => ∃ k z : Nat, k < z ∧ z ≤ n ∧ ui = .int .i64 k ∧ uj = .int .i64 z ∧ Hid (∃ cur, DeJ w g n cap l d k z cur wr)) (fun _ uj _ => n - (intOf uj).toNat)
    case atStart => exact ⟨k0, k0 + 1, by omega, by omega, rfl, by simp, l, H1.out⟩
    case round =>
      obtain ⟨k, z, hkz, hzn, rfl, rfl, hr⟩ := hrel
      clear H1
      obtain ⟨cur, hJ⟩ := hr.out
      have HJ := hidJ hJ
      clear hJ hr
      by_cases hzl : z < n
      · have hzi : (z : Int) < (n : Int) := by omega
        have hki : (k : Int) < (n : Int) := by omega
        obtain ⟨fa, fn, fc, sa, sn, sc, fa', fn', fc', sa', sn', sc', r', k', t', ef, es, hgl, ⟨d0, d1, d2, d3, d4, d5, d6⟩, HC⟩ := HE.out k z cur wr HJ.out (by omega) hzl
        have hgl2 : ¬ g = wr.heap.size := by omega
        have hgl3 : ¬ wr.heap.size = g := by omega
        have HSk : Hid (∀ w1, wr.grownBy w1 none → (l.getD z xZ).1.tim ≤ d → DeJ w g n cap l d k (z + 1) cur w1) := fun w1 hg ht => HJ.out.skip hg (by rw [← HV.out.2.1]; exact hzl) ht
        have HPu : Hid (∀ w1, wr.grownBy w1 none → ¬ (l.getD z xZ).1.tim ≤ d → ∃ cur', DeJ w g n cap l d (k + 1) (z + 1) cur' (setE7 w1 g (k * 7) (.string (ByteArray.mk ⟨(l.getD z xZ).1.rcv⟩)) (.string (ByteArray.mk ⟨(l.getD z xZ).1.key⟩)) (.string (ByteArray.mk ⟨(l.getD z xZ).1.rcv⟩)) (.string (ByteArray.mk ⟨(l.getD z xZ).1.key⟩)) (.int .i64 (l.getD z xZ).1.tim) (.slice fa fn fc) (.slice sa sn sc))) := fun w1 hg ht => by
          have := HJ.out.put hg (by rw [← HV.out.2.1]; exact hzl) HV.out.2.1.symm hkz ht HV.out.2.2
          rw [ef, es] at this
          exact ⟨_, this⟩
        unfold setE7 setE at HPu
        clear HJ HE HF ef es
        generalize ByteArray.mk ⟨(l.getD z xZ).1.rcv⟩ = br at *
        generalize ByteArray.mk ⟨(l.getD z xZ).1.key⟩ = bk at *
        generalize (l.getD z xZ).1.tim = tm at *
        go_wp2_with fail
        refine (HC.out _ (World.grownBy_alloc _ _ none) (Go.heap_alloc_new wr _)).mono ?_
        rintro e w2 ⟨rfl, ⟨⟨p0, p1, p2, p3, p4, p5, p6⟩, ⟨q0, q1, q2, q3, q4, q5, q6⟩, fz⟩, hg2⟩
        clear HC d0 d1 d2 d3 d4 d5 d6
        by_cases h5 : tm ≤ d
        · rw [decide_eq_true h5]
          have H2 := hidJ (HSk.out w2 hg2.out h5)
          clear HSk HPu hg2 h5 p0 p1 p2 p3 p4 p5 p6 q0 q1 q2 q3 q4 q5 q6 fz
          go_wp2
          go_roundw
          case rel => exact ⟨k, z + 1, by omega, by omega, rfl, by simp, cur, H2.out⟩
          case measure => simp [intOf]; omega
        · rw [decide_eq_false h5]
          have H2 := hidJ (HPu.out w2 hg2.out (by omega))
          have f0 := fz (k * 7)
          have f1 := fz (k * 7 + 1)
          have f2 := fz (k * 7 + 2)
          have f3 := fz (k * 7 + 3)
          have f4 := fz (k * 7 + 4)
          have f5 := fz (k * 7 + 5)
          have f6 := fz (k * 7 + 6)
          clear HSk HPu hg2 h5 fz
          go_wp2
          go_roundw
          case rel => exact ⟨k + 1, z + 1, by omega, by omega, by simp, by simp, H2.out⟩
          case measure => simp [intOf]; omega
      · have hzi : ¬ (z : Int) < (n : Int) := by omega
        have hzn' : z = n := by omega
        obtain ⟨w2, hcl, ho2, hg2⟩ := run_clearE HJ.out.row HJ.out.len.symm k (by omega)
        have e : cur.take k = swpM l d := by rw [HJ.out.pre, List.take_of_length_le (by have := HV.out.2.1; omega)]
        have ek : k = (swpM l d).length := by rw [← e, List.length_take, HJ.out.len]; omega
        have HFF := hidJ (HF.out w2 k ek (by rw [← e]; exact ho2) (gb_trans HJ.out.old hg2 (fun k' hk' _ => hk'.symm)))
        clear HJ ho2 hg2 e hzn' ek HF HE
        have hkc : (k : Int) ≤ (cap : Int) := by omega
        have hkc2 : (k : Int) ≤ (n : Int) := by omega
        have hn1 : ¬ k = n := by omega
        go_wp2
        exact HFF.out
end Go.Proofs.YtpglhdnepmcahaaGreatDoor

/- Nkf -/
namespace Go.Proofs.YtpglhdnepmcahaaGreatDoor
open Go.RowKit Go.Shelf Go.Sort

set_option maxRecDepth 8000 in
set_option maxHeartbeats 3200000 in
theorem deleteE_nil (w : World) (now kp : Int) (g1 g2 gc : Nat) (hC : GoC w now kp g1 g2 gc) (hnw : 0 ≤ now ∧ now ≤ 1125899906842624) (hkp : 0 ≤ kp ∧ kp ≤ 1099511627776) :
    Calls Tryz.prog 86 #[.slice none 0 0, .func (.func 87) #[] #[.pointer (some ⟨gc, 0, none⟩)]] w fun e w' => e = .returned (.slice none 0 0) ∧ w.grownBy w' none := by
  have HI := hidJ (indexE_any w (.slice none 0 0) [] now kp g1 g2 gc (OwnE.nil _ _) (by simp) (fun x hx => by cases hx) hC hnw hkp)
  rw [show goI [] (now - kp) = -1 from rfl] at HI
  clear hC hnw hkp
  go_enter Tryz.func86, Tryz.ntmps86
  go_wp2_with fail
  refine HI.out.mono ?_
  rintro e w1 ⟨rfl, hg1⟩
  have HG := hidJ hg1
  clear HI hg1
  go_wp2
  go_ret
  exact ⟨rfl, HG.out⟩
theorem deleteE_all (w : World) (v : Value) (l : List MkX) (now kp : Int) (g1 g2 gc : Nat) (hv : OwnE w 0 v l) (hl5 : l.length ≤ 500) (hsh : ShX l) (hC : GoC w now kp g1 g2 gc) (hne : ∀ g, v.ownBlock = some g → g1 ≠ g ∧ g2 ≠ g ∧ gc ≠ g) (hnw : 0 ≤ now ∧ now ≤ 1125899906842624) (hkp : 0 ≤ kp ∧ kp ≤ 1099511627776) :
    Calls Tryz.prog 86 #[v, .func (.func 87) #[] #[.pointer (some ⟨gc, 0, none⟩)]] w fun e w' => ∃ a c, e = .returned (.slice a (swpM l (now - kp)).length c) ∧ OwnE w' 0 (.slice a (swpM l (now - kp)).length c) (swpM l (now - kp)) ∧ Ch w w' (fun k => v.ownBlock = some k) ∧ (Value.slice a (swpM l (now - kp)).length c).ownBlock = v.ownBlock := by
  rcases hv.2 with ⟨rfl, hn⟩ | ⟨g, cap, cur, rfl, _⟩
  · have : l = [] := List.eq_nil_of_length_eq_zero hn
    subst this
    refine (deleteE_nil w now kp g1 g2 gc hC hnw hkp).mono ?_
    rintro e w' ⟨rfl, hg⟩
    exact ⟨none, 0, rfl, OwnE.nil _ _, Ch.of_gb hg (fun k hk => by cases hk), rfl⟩
  · refine (deleteE_any w g l.length cap l now kp g1 g2 gc hv hl5 hsh hC (hne g rfl) hnw hkp).mono ?_
    rintro e w' ⟨rfl, ho, hg⟩
    exact ⟨_, cap, rfl, ho, Ch.of_gb hg (fun k hk _ => hk ▸ rfl), rfl⟩
theorem LgX.shx {w : World} {gx : Nat} {v : Value} {l : List MkX} (h : LgX w gx v l) : ShX l := fun x hx => by
  obtain ⟨fa, fc, ef⟩ := (h.each x hx).1.fir.shape
  obtain ⟨sa, sc, es⟩ := (h.each x hx).1.res.shape
  exact ⟨⟨fa, _, fc, ef⟩, sa, _, sc, es⟩
/-- behind DeleteFunc, and the new row laid into the box -/
theorem LgX.swept {w W W2 : World} {gx : Nat} {v v' : Value} {l : List MkX} (h : LgX w gx v l) (hW : w.grownBy W none) (d : Int) (hc : Ch W W2 (fun k => v.ownBlock = some k)) (ho : OwnE W2 0 v' (swpM l d)) (hb : v'.ownBlock = v.ownBlock) : LgX (W2.setCell ⟨gx, 0, none⟩ v') gx v' (swpM l d) ∧ LFr gx w (W2.setCell ⟨gx, 0, none⟩ v') v v' := by
  have hk := h.keep hW
  have e1 := hk.enl
  have hc2 : Ch W W2 (FpL gx v) := hc.mono (fun k _ e => .inr e)
  have hbx : Boxed W2 gx 74 v := bxch hk.box hc (fun e => h.row_ne e)
  have hs := set_ch W2 gx 0 v'
  have hc3 : Ch W (W2.setCell ⟨gx, 0, none⟩ v') (FpL gx v) := hc2.trans hs (fun k _ e => .inl e)
  refine ⟨⟨hbx.set v', row_ch ho hs (fun k hk' e => h.row_ne (by rw [← hb, hk', e])), List.Pairwise.filter _ h.ris, fun x hx => ?_, Nat.le_trans (swp_len l d) h.len⟩, ?_⟩
  · have hx := (List.mem_filter.1 hx).1
    exact ⟨((h.each x hx).1.keep hW).chT hc3 e1, (h.each x hx).2⟩
  · exact ⟨(Ch.of_gb (S := FpL gx v) hW (fun k hk => by cases hk)).trans hc3 (fun k _ e => e), fun k hk' => .inl (by rw [← hb]; exact hk')⟩
/-- what drop leaves -/
def DrpP (w : World) (gx : Nat) (v : Value) (l : List MkX) (d : Int) (e : Ending) (w' : World) : Prop := e = .returned (.int .i64 ((l.length : Int) - ((swpM l d).length : Int))) ∧ ∃ v', LgX w' gx v' (swpM l d) ∧ LFr gx w w' v v'
set_option maxRecDepth 8000 in
set_option maxHeartbeats 3200000 in
theorem dropL_any (w : World) (gx : Nat) (v : Value) (l : List MkX) (now kp : Int) (g1 g2 : Nat) (h : LgX w gx v l) (h1 : w.cell? ⟨g1, 0, none⟩ = some (.int .i64 now)) (h2 : w.cell? ⟨g2, 0, none⟩ = some (.int .i64 kp)) (hne : ∀ g, v.ownBlock = some g → g1 ≠ g ∧ g2 ≠ g) (hnw : 0 ≤ now ∧ now ≤ 1125899906842624) (hkp : 0 ≤ kp ∧ kp ≤ 1099511627776) :
    Calls Tryz.prog 56 #[.pointer (some ⟨gx, 0, none⟩), .func (.func 57) #[] #[.pointer (some ⟨g1, 0, none⟩), .pointer (some ⟨g2, 0, none⟩)]] w fun e w' => DrpP w gx v l (now - kp) e w' := by
  obtain ⟨va, vc, ev⟩ := h.row.shape
  have hlen := h.len
  have HX := hidJ h
  obtain ⟨FT, hFT⟩ : ∃ t, t = 100 := ⟨_, rfl⟩
  obtain ⟨C, hCd⟩ : ∃ C : Obj, C = .cells #[.func (.func 57) #[] #[.pointer (some ⟨g1, 0, none⟩), .pointer (some ⟨g2, 0, none⟩)]] FT := ⟨_, rfl⟩
  have hg := World.grownBy_alloc w C none
  have hb := Go.heap_alloc_new w C
  have HD : Hid (Calls Tryz.prog 86 #[v, .func (.func 87) #[] #[.pointer (some ⟨w.heap.size, 0, none⟩)]] (w.alloc C) fun e w' => ∃ a n c, e = .returned (.slice a n c) ∧ n = (swpM l (now - kp)).length ∧ Hid (LgX (w'.setCell ⟨gx, 0, none⟩ (.slice a n c)) gx (.slice a n c) (swpM l (now - kp)) ∧ LFr gx w (w'.setCell ⟨gx, 0, none⟩ (.slice a n c)) v (.slice a n c)) ∧ Boxed w' gx 74 v) := by
    have hC : GoC (w.alloc C) now kp g1 g2 w.heap.size := by
      refine ⟨World.grownBy.cell hg h1 (by simp), World.grownBy.cell hg h2 (by simp), ?_, Nat.lt_of_lt_of_le (block_lt h1) hg.size, Nat.lt_of_lt_of_le (block_lt h2) hg.size, by simp⟩
      rw [World.cell?, hb, hCd]
      rfl
    refine (deleteE_all (w.alloc C) v l now kp g1 g2 w.heap.size (h.row.keep hg) hlen h.shx hC (fun g hg' => ⟨(hne g hg').1, (hne g hg').2, fun e => by have := (World.ownsRow.lt h.row g hg').2; omega⟩) hnw hkp).mono ?_
    rintro e w' ⟨a, c, rfl, q1, q2, q3⟩
    exact ⟨a, _, c, rfl, rfl, h.swept hg _ q2 q1 q3, bxch (h.box.kept hg (by simp)) q2 (fun e => h.row_ne e)⟩
  obtain ⟨d, hd⟩ : ∃ d, now - kp = d := ⟨_, rfl⟩
  rw [hd] at HD ⊢
  obtain ⟨RQ, hRQ⟩ : ∃ RQ : Ending → World → Prop, RQ = DrpP w gx v l d := ⟨_, rfl⟩
  have HF : Hid (∀ w' a n c, n = (swpM l d).length → LgX w' gx (.slice a n c) (swpM l d) → LFr gx w w' v (.slice a n c) → RQ (.returned (.int .i64 ((l.length : Int) - (n : Int)))) w') := fun w' a n c hn q1 q2 => by
    subst hn
    rw [hRQ]
    exact ⟨rfl, _, q1, q2⟩
  rw [show (fun e w' => DrpP w gx v l d e w') = (fun e w' => RQ e w') from by rw [hRQ]]
  have HLn := hidJ (swp_len l d)
  have g0 := h.box.cell
  have kc := (h.box.kept hg (by simp)).cell
  clear hRQ hd h1 h2 hne hnw hkp h hg hb
  subst hCd hFT ev
  generalize l.length = N at *
  go_enter Tryz.func56, Tryz.ntmps56
  go_wp2_with fail
  refine HD.out.mono ?_
  rintro e w1 ⟨a, n, c, rfl, hn, q1, q2⟩
  have hnl := HLn.out
  rw [← hn] at hnl
  have f0 := q2.cell
  have f1 := q2.frozen
  have HFF := hidJ (HF.out _ a n c hn q1.out.1 q1.out.2)
  have b0 := q1.out.1.box.cell
  have hw1 : -9223372036854775808 ≤ (N : Int) - (n : Int) := by omega
  have hw2 : (N : Int) - (n : Int) ≤ 9223372036854775807 := by omega
  clear HD HF HLn hn q1 q2 g0 kc HX
  go_wp2
  exact HFF.out
/-- what the project's Sweep leaves -/
def PSwp (w : World) (gx : Nat) (v : Value) (l : List MkX) (now kp : Int) (e : Ending) (w' : World) : Prop :=
  (swpB now kp = false ∧ e = .returned (.tuple #[.int .i64 0, .int .i64 1]) ∧ w.grownBy w' none) ∨ (swpB now kp = true ∧ e = .returned (.tuple #[.int .i64 ((l.length : Int) - ((swpM l (now - kp)).length : Int)), .int .i64 0]) ∧ ∃ v', LgX w' gx v' (swpM l (now - kp)) ∧ LFr gx w w' v v')
set_option maxRecDepth 8000 in
set_option maxHeartbeats 3200000 in
theorem sweepX_any (w : World) (gx : Nat) (v : Value) (l : List MkX) (now kp : Int) (h : LgX w gx v l) :
    Calls Tryz.prog 24 #[.pointer (some ⟨gx, 0, none⟩), .int .i64 now, .int .i64 kp] w fun e w' => PSwp w gx v l now kp e w' := by
  obtain ⟨T, hT⟩ : ∃ T, T = 2 := ⟨_, rfl⟩
  obtain ⟨W2, hW2⟩ : ∃ W2, W2 = (w.alloc (.cells #[.int .i64 now] T)).alloc (.cells #[.int .i64 kp] T) := ⟨_, rfl⟩
  have k1 := World.grownBy_alloc w (.cells #[.int .i64 now] T) none
  have k2 := World.grownBy_alloc (w.alloc (.cells #[.int .i64 now] T)) (.cells #[.int .i64 kp] T) none
  rw [← hW2] at k2
  have hg : w.grownBy W2 none := gb_none k1 k2
  have c1 : W2.cell? ⟨w.heap.size, 0, none⟩ = some (.int .i64 now) := by
    refine World.grownBy.cell k2 ?_ (by simp)
    rw [World.cell?, Go.heap_alloc_new]
    rfl
  have c2 : W2.cell? ⟨w.heap.size + 1, 0, none⟩ = some (.int .i64 kp) := by
    have := Go.heap_alloc_new (w.alloc (.cells #[.int .i64 now] T)) (.cells #[.int .i64 kp] T)
    rw [World.size_alloc] at this
    rw [World.cell?, hW2, this]
    rfl
  have HTm := hidJ (time_any now)
  have HSp := hidJ (spanR_any kp)
  have hsp : swpB now kp = (timB now && spnB kp) := rfl
  have HNo : Hid (∀ w', swpB now kp = false → w.grownBy w' none → PSwp w gx v l now kp (.returned (.tuple #[.int .i64 0, .int .i64 1])) w') := fun w' h1 h2 => .inl ⟨h1, rfl, h2⟩
  have HDr : Hid (swpB now kp = true → Calls Tryz.prog 56 #[.pointer (some ⟨gx, 0, none⟩), .func (.func 57) #[] #[.pointer (some ⟨w.heap.size, 0, none⟩), .pointer (some ⟨w.heap.size + 1, 0, none⟩)]] W2 fun e w' => ∃ n : Int, e = .returned (.int .i64 n) ∧ Hid (PSwp w gx v l now kp (.returned (.tuple #[.int .i64 n, .int .i64 0])) w')) := fun hb => by
    have hb2 := hb
    rw [hsp, Bool.and_eq_true] at hb2
    have t1 : 0 ≤ now ∧ now ≤ 1125899906842624 := by
      have := hb2.1
      unfold timB at this
      rw [Bool.and_eq_true, decide_eq_true_eq, decide_eq_true_eq] at this
      exact this
    have t2 : 0 ≤ kp ∧ kp ≤ 1099511627776 := by
      have := hb2.2
      unfold spnB at this
      rw [Bool.and_eq_true, decide_eq_true_eq, decide_eq_true_eq] at this
      exact this
    refine (dropL_any W2 gx v l now kp _ _ (h.keep hg) c1 c2 (fun g hg' => ?_) t1 t2).mono ?_
    · have := (World.ownsRow.lt h.row g hg').2
      exact ⟨by omega, by omega⟩
    · rintro e w' ⟨q1, v', q2, q3⟩
      exact ⟨_, q1, .inr ⟨hb, rfl, v', q2, q3.pre hg⟩⟩
  obtain ⟨RQ, hRQ⟩ : ∃ RQ : Ending → World → Prop, RQ = PSwp w gx v l now kp := ⟨_, rfl⟩
  rw [← hRQ] at HNo HDr
  rw [show (fun e w' => PSwp w gx v l now kp e w') = (fun e w' => RQ e w') from by rw [hRQ]]
  have HG := hidJ hg
  have HS := hidJ hsp
  clear hRQ h k1 k2 c1 c2 hsp hg
  subst hW2 hT
  have HT0 := hidJ (fun W => HTm.out W)
  generalize timB now = tb at *
  generalize spnB kp = sb at *
  have d1 : ∀ C, ((w.alloc (.cells #[.int .i64 now] 2)).alloc C).cell? ⟨w.heap.size, 0, none⟩ = some (.int .i64 now) := fun C => by
    refine World.grownBy.cell (World.grownBy_alloc _ _ none) ?_ (by simp)
    rw [World.cell?, Go.heap_alloc_new]
    rfl
  go_enter Tryz.func24, Tryz.ntmps24
  go_wp2_with fail
  refine (HTm.out _).mono ?_
  rintro e w1 ⟨rfl, hw1⟩
  have hw1 := hw1.symm
  subst hw1
  clear HTm HT0
  cases tb with
  | false =>
    have HF := hidJ (HNo.out _ (by rw [HS.out]; rfl) HG.out)
    clear HNo HDr HSp
    go_wp2
    exact HF.out
  | true =>
    go_wp2_with fail
    refine (HSp.out _).mono ?_
    rintro e w1 ⟨rfl, hw1⟩
    have hw1 := hw1.symm
    subst hw1
    clear HSp
    cases sb with
    | false =>
      have HF := hidJ (HNo.out _ (by rw [HS.out]; rfl) HG.out)
      clear HNo HDr
      go_wp2
      exact HF.out
    | true =>
      have HD := hidJ (HDr.out (by rw [HS.out]; rfl))
      clear HNo HDr
      go_wp2_with fail
      refine HD.out.mono ?_
      rintro e w1 ⟨n, rfl, q1⟩
      clear HD
      go_wp2
      exact q1.out
end Go.Proofs.YtpglhdnepmcahaaGreatDoor
