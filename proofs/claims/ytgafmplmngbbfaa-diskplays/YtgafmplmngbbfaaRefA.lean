/-
  Append, of the document's disk: the walk.
-/
import Derived.Test.YtgafmplmngbbfaaRefL
import Derived.Test.YtgafmplmngbbfaaDiskY
namespace Go.Proofs.Ytgafmplmngbbfaa
open Go.RowKit Go.Maps Go.WideMaps

set_option maxHeartbeats 1600000 in
theorem refAppend_bad (w : World) (gr : Nat) (l : Bs) (v : Value) (hl : l.length ≤ 9223372036854775807) (hok : nameOk l = false) :
    Calls Try.prog 26 #[.pointer (some ⟨gr, 0, none⟩), .string (ByteArray.mk ⟨l⟩), v] w fun e w' => e = .returned (.int .i64 40) ∧ w' = w := by
  have HN := refName_any l w hl
  rw [hok] at HN
  have HN2 : Hid (Calls Try.prog 24 #[.string (ByteArray.mk ⟨l⟩)] w fun e w' => e = .returned (.bool false) ∧ w' = w) := HN
  clear HN hok hl
  generalize ByteArray.mk ⟨l⟩ = s at *
  go_enter Try.func26, Try.ntmps26
  go_wp2_with fail
  refine HN2.out.mono ?_
  rintro e w1 ⟨rfl, hw1⟩
  rw [hw1]
  clear hw1 w1
  go_wp2
  go_ret
  exact ⟨rfl, rfl⟩

set_option maxRecDepth 8000 in
set_option maxHeartbeats 1600000 in
theorem refAppend_no (w : World) (gr : Nat) (s : ByteArray) (a : Option Addr) (L cap : Nat) (av : Option Addr) (bl cv : Nat) (hbl : (bl : Int) ≤ 9223372036854775807) (hcell : w.cell? ⟨gr, 0, none⟩ = some (.slice a L cap))
    (HN2 : Hid (Calls Try.prog 24 #[.string s] w fun e w' => e = .returned (.bool true) ∧ w' = w)) (HA : Hid (Calls Try.prog 49 #[.pointer (some ⟨gr, 0, none⟩), .string s] w fun e w' => e = .returned (.int .i64 (-1)) ∧ w' = w))
    (h : 256 ≤ L ∨ 1048576 < bl) :
    Calls Try.prog 26 #[.pointer (some ⟨gr, 0, none⟩), .string s, .slice av bl cv] w fun e w' => e = .returned (.int .i64 (if 256 ≤ L then 8 else 4)) ∧ w' = w := by
  by_cases hL : 256 ≤ L
  · rw [if_pos hL]
    have hL2 : (256 : Int) ≤ (L : Int) := by omega
    clear h hL
    go_enter Try.func26, Try.ntmps26
    go_wp2_with fail
    refine HN2.out.mono ?_
    rintro e w1 ⟨rfl, hw1⟩
    rw [hw1]
    clear hw1 w1
    go_wp2_with fail
    refine HA.out.mono ?_
    rintro e w1 ⟨rfl, hw1⟩
    rw [hw1]
    clear hw1 w1
    go_wp2
    go_ret
    exact ⟨rfl, rfl⟩
  · rw [if_neg hL]
    have hL2 : ¬ (256 : Int) ≤ (L : Int) := by omega
    have hb2 : (1048576 : Int) < (bl : Int) := by omega
    clear h hL
    go_enter Try.func26, Try.ntmps26
    go_wp2_with fail
    refine HN2.out.mono ?_
    rintro e w1 ⟨rfl, hw1⟩
    rw [hw1]
    clear hw1 w1
    go_wp2_with fail
    refine HA.out.mono ?_
    rintro e w1 ⟨rfl, hw1⟩
    rw [hw1]
    clear hw1 w1
    go_wp2
    go_ret
    exact ⟨rfl, rfl⟩

set_option maxRecDepth 8000 in
set_option maxHeartbeats 1600000 in
theorem refAppend_long (w : World) (gr g kt : Nat) (s : ByteArray) (L cap : Nat) (av a1 : Option Addr) (bl cv L1 c1 : Nat) (hL1 : (L1 : Int) ≤ 1048576) (hcell : w.cell? ⟨gr, 0, none⟩ = some (.slice (some ⟨g, 0, none⟩) L cap)) (hkL : (kt : Int) < (L : Int)) (hc1 : w.cell? ⟨g, kt * 3 + 1, none⟩ = some (.slice a1 L1 c1))
    (HN2 : Hid (Calls Try.prog 24 #[.string s] w fun e w' => e = .returned (.bool true) ∧ w' = w)) (HA : Hid (Calls Try.prog 49 #[.pointer (some ⟨gr, 0, none⟩), .string s] w fun e w' => e = .returned (.int .i64 (kt : Int)) ∧ w' = w))
    (h : (1048576 : Int) - (L1 : Int) < (bl : Int)) :
    Calls Try.prog 26 #[.pointer (some ⟨gr, 0, none⟩), .string s, .slice av bl cv] w fun e w' => e = .returned (.int .i64 4) ∧ w' = w := by
  go_enter Try.func26, Try.ntmps26
  go_wp2_with fail
  refine HN2.out.mono ?_
  rintro e w1 ⟨rfl, hw1⟩
  rw [hw1]
  clear hw1 w1
  go_wp2_with fail
  refine HA.out.mono ?_
  rintro e w1 ⟨rfl, hw1⟩
  rw [hw1]
  clear hw1 w1
  go_wp2
  go_ret
  exact ⟨rfl, rfl⟩

set_option maxRecDepth 8000 in
set_option maxHeartbeats 3200000 in
theorem refAppend_there (w : World) (St : Nat → Prop) (gr g kt : Nat) (l : Bs) (rt : List RF) (L cap : Nat) (av : Option Addr) (cv : Nat) (b cb : Bs) (zb : Nat) (hl : l.length ≤ 9223372036854775807) (hok : nameOk l = true) (hv : Rd w (.slice av b.length cv) b) (h : RefW w St gr (.slice (some ⟨g, 0, none⟩) L cap) rt) (hL : rt.length = L)
    (hp : posR rt l = (kt : Int)) (hk : kt < rt.length) (hnm : (rt.getD kt rfZ).name = l) (hby : (rt.getD kt rfZ).bytes = cb) (hsy : (rt.getD kt rfZ).synced = zb) (hlen : cb.length + b.length ≤ 1048576) :
    Calls Try.prog 26 #[.pointer (some ⟨gr, 0, none⟩), .string (ByteArray.mk ⟨l⟩), .slice av b.length cv] w fun e w' => e = .returned (.int .i64 0) ∧ ∃ v' rs2, RefW w' (Gr St w w') gr v' rs2 ∧ (fun l' => lkR rs2 l') = upd (fun l' => lkR rt l') l (some (cb ++ b, zb)) ∧ rs2.length = rt.length ∧ Ch w w' St := by
  have HN := refName_any l w hl
  rw [hok] at HN
  have HN2 : Hid (Calls Try.prog 24 #[.string (ByteArray.mk ⟨l⟩)] w fun e w' => e = .returned (.bool true) ∧ w' = w) := HN
  have HAt := at_any w St gr _ rt l h
  rw [hp] at HAt
  have HA : Hid (Calls Try.prog 49 #[.pointer (some ⟨gr, 0, none⟩), .string (ByteArray.mk ⟨l⟩)] w fun e w' => e = .returned (.int .i64 (kt : Int)) ∧ w' = w) := HAt
  have HT : Hid (RefW w St gr (.slice (some ⟨g, 0, none⟩) L cap) rt) := h
  obtain ⟨g', cap', hvv, -, -, hcells⟩ := h.cells (by intro e; rw [e] at hk; simp at hk)
  obtain ⟨rfl, -, rfl⟩ : g = g' ∧ L = rt.length ∧ cap = cap' := by simpa using hvv
  have hfit := h.fits _ (getD_mem hk)
  have HVL : Hid (Rd w (rt.getD kt rfZ).val cb ∧ w.cell? ⟨g, kt * 3 + 1, none⟩ = some (rt.getD kt rfZ).val ∧ kt < L ∧ cb.length + b.length ≤ 1048576) := ⟨by rw [← hby]; exact (h.each _ (getD_mem hk)).1, (hcells kt hk).2.1, by omega, hlen⟩
  have HVb : Hid (Rd w (.slice av b.length cv) b) := hv
  have HKT : Hid (kt < rt.length ∧ (rt.getD kt rfZ).name = l ∧ (rt.getD kt rfZ).bytes = cb ∧ (rt.getD kt rfZ).synced = zb ∧ zb ≤ cb.length) := ⟨hk, hnm, hby, hsy, by rw [← hsy, ← hby]; exact hfit.2.1⟩
  have HLt : Hid (rt.length = L) := hL
  have hbl : ¬ (1048576 : Int) - (cb.length : Int) < (b.length : Int) := by omega
  clear HN HAt h hvv hcells hp hk hnm hby hsy hlen hv hfit hok hl hL
  generalize ByteArray.mk ⟨l⟩ = s at *
  go_enter Try.func26, Try.ntmps26
  go_wp2_with fail
  refine HN2.out.mono ?_
  rintro e w1 ⟨rfl, hw1⟩
  rw [hw1]
  clear hw1 w1
  go_wp2_with fail
  refine HA.out.mono ?_
  rintro e w1 ⟨rfl, hw1⟩
  rw [hw1]
  clear hw1 w1
  · skip
    have hcb : w.cell? ⟨gr, 0, none⟩ = some (.slice (some ⟨g, 0, none⟩) L cap) := by simp [World.cell?, HT.out.box]
    obtain ⟨a0, c0, hvs, -, -, -, -⟩ := HVL.out.1
    have hcv : w.cell? ⟨g, kt * 3 + 1, none⟩ = some (.slice a0 cb.length c0) := by rw [HVL.out.2.1, hvs]
    have HVR : Hid (Rd w (.slice a0 cb.length c0) cb) := by rw [← hvs]; exact HVL.out.1
    have hkL : (kt : Int) < (L : Int) := by have := HVL.out.2.2.1; omega
    have hcL : (cb.length : Int) ≤ 1048576 := by have := HVL.out.2.2.2; omega
    clear hvs
    go_wp2_with (at_builtin; refine wp_app rfl _ _ rfl w.heap.size _ _ [] cb rfl rfl (Own.nil _ _) HVR.out ?f1w (Nat.le_refl _) ?_)
    case f1w => have := HVL.out.2.2.2; simp; omega
    intro v2 w2 ho2 hf2
    have H2 : Hid (Own w2 w.heap.size v2 cb ∧ w.grownBy w2 none) := ⟨by simpa using ho2, hf2.1⟩
    clear ho2 hf2
    go_wp2_with (at_builtin; refine wp_app rfl _ _ rfl w.heap.size _ _ cb b rfl rfl H2.out.1 (HVb.out.keep H2.out.2) ?f3w ?f4w ?_)
    case f3w => have := HVL.out.2.2.2; omega
    case f4w => exact H2.out.2.size
    intro v3 w3 ho3 hf3
    have hg3 : w.grownBy w3 none := gb_new H2.out.2 hf3.1 (fun k hk => (H2.out.1.lt k hk).1)
    have hT3 := HT.out.frame (T := fun _ => False) (Ch.of_gb hg3 (fun k hk => by cases hk)) (fun _ _ _ => id)
    have hcb3 : w3.cell? ⟨gr, 0, none⟩ = some (.slice (some ⟨g, 0, none⟩) L cap) := by simp [World.cell?, hT3.box]
    have hcv3 : w3.cell? ⟨g, kt * 3 + 1, none⟩ = some (.slice a0 cb.length c0) := cell_keep hcv hg3
    have hfr3 : w3.frozen? ⟨g, kt * 3 + 1, none⟩ = false := by
      obtain ⟨cur, hc⟩ := hT3.row_obj (k := g) rfl
      simp [World.frozen?, hc]
    have H4 : Hid (∃ rs2, RefW (w3.setCell ⟨g, kt * 3 + 1, none⟩ v3) (Gr St w (w3.setCell ⟨g, kt * 3 + 1, none⟩ v3)) gr (.slice (some ⟨g, 0, none⟩) L cap) rs2 ∧ (fun l' => lkR rs2 l') = upd (fun l' => lkR rt l') l (some (cb ++ b, zb)) ∧ rs2.length = rt.length ∧ Ch w (w3.setCell ⟨g, kt * 3 + 1, none⟩ v3) St) := by
      obtain ⟨hk, hnm, hby, hsy, hzz⟩ := HKT.out
      have hsp := split_at hk
      have hAl : (rt.take kt).length = kt := by rw [List.length_take]; omega
      have hL2 : L = (rt.take kt ++ rt.getD kt rfZ :: rt.drop (kt + 1)).length := by rw [← hsp]; exact HLt.out.symm
      have hT4 : RefW w3 St gr (.slice (some ⟨g, 0, none⟩) (rt.take kt ++ rt.getD kt rfZ :: rt.drop (kt + 1)).length cap) (rt.take kt ++ rt.getD kt rfZ :: rt.drop (kt + 1)) := by
        rw [← hL2, ← hsp]; exact hT3
      have hsz : (w3.setCell ⟨g, kt * 3 + 1, none⟩ v3).heap.size = w3.heap.size := by simp [World.setCell]
      have hturn := hT4.turn (r' := ⟨l, v3, cb ++ b, zb⟩) (S' := Gr St w (w3.setCell ⟨g, kt * 3 + 1, none⟩ v3)) hnm.symm 1 v3 (by omega) (by
          simp only [rfc, List.set_cons_succ, List.set_cons_zero]
          rw [hnm, hsy]) (fun k hk => .inl hk) (ho3.rb (fun k hk => .inr ⟨(ho3.lt k hk).1, by rw [hsz]; exact (ho3.lt k hk).2⟩)) ⟨by simp only [List.length_append]; omega, by simp only [List.length_append]; exact HVL.out.2.2.2⟩
      rw [hAl, ← hL2] at hturn
      refine ⟨_, hturn, ?_, ?_, ?_⟩
      · have := lkR_set (r' := ⟨l, v3, cb ++ b, zb⟩) hT4.srt hnm.symm
        rw [this, hnm, ← hsp]
      · conv => rhs; rw [hsp]
        simp
      · refine (Ch.of_gb (S := St) hg3 (fun k hk => by cases hk)).trans (Ch.of_gb (S := fun k => k = g) (gb_set0 w3 g _ v3) (fun k hk _ => by cases hk; rfl)) (fun k _ e => by rw [e]; exact HT.out.inR g rfl)
    obtain ⟨a3, c3, hv3⟩ := ho3.shape
    rw [List.length_append] at hv3
    clear ho3 hf3 hg3 hT3 H2 HVR
    subst hv3
    go_wp2
    go_ret

    exact ⟨rfl, _, H4.out⟩

/-- bytes that are read lie in no disk's box -/
theorem Rd.off_box {w w1 : World} {gr n c : Nat} {a : Option Addr} {v : Value} {l : Bs} {t : TypeId} (h : Rd w v l) (hb : w.heap[gr]? = some (.cells #[.slice a n c] t)) (hc : Ch w w1 (fun k => k = gr)) : Rd w1 v l := by
  obtain ⟨av, cv, rfl, h1, h2, h3, h4⟩ := h
  refine ⟨av, cv, rfl, h1, h2, fun j hj => ?_, h4⟩
  obtain ⟨b, o, rfl, hcell⟩ := h3 j hj
  refine ⟨b, o, rfl, ?_⟩
  rw [← hcell]
  refine World.cell?_of_block (hc.block (block_lt hcell) (fun e => ?_))
  have e' : b = gr := e
  rw [e'] at hcell
  simp only [World.cell?, hb] at hcell
  cases hq : o + j with
  | zero => rw [hq] at hcell; simp at hcell
  | succ m => rw [hq] at hcell; simp at hcell

theorem upd_upd (M : Fls) (l : Bs) (x y : Option (Bs × Nat)) : upd (upd M l x) l y = upd M l y := by
  funext k
  by_cases e : k = l
  · subst e; rw [upd_same, upd_same]
  · rw [upd_other _ _ e, upd_other _ _ e, upd_other _ _ e]

set_option maxRecDepth 8000 in
set_option maxHeartbeats 3200000 in
theorem refAppend_new (w : World) (S : Nat → Prop) (gr : Nat) (l : Bs) (v : Value) (rs : List RF) (av : Option Addr) (cv : Nat) (b : Bs) (hl : l.length ≤ 9223372036854775807) (hok : nameOk l = true) (hv : Rd w (.slice av b.length cv) b) (h : RefW w S gr v rs)
    (hno : ∀ q ∈ rs, q.name ≠ l) (hp : posR rs l = -1) (hN : rs.length < 256) (hlen : b.length ≤ 1048576) :
    Calls Try.prog 26 #[.pointer (some ⟨gr, 0, none⟩), .string (ByteArray.mk ⟨l⟩), .slice av b.length cv] w fun e w' => e = .returned (.int .i64 0) ∧ ∃ v' rs2, RefW w' (Gr S w w') gr v' rs2 ∧ (fun l' => lkR rs2 l') = upd (fun l' => lkR rs l') l (some (b, 0)) ∧ rs2.length = rs.length + 1 ∧ Ch w w' S := by
  have HN := refName_any l w hl
  rw [hok] at HN
  have HN2 : Hid (Calls Try.prog 24 #[.string (ByteArray.mk ⟨l⟩)] w fun e w' => e = .returned (.bool true) ∧ w' = w) := HN
  have HAt := at_any w S gr v rs l h
  rw [hp] at HAt
  have HA : Hid (Calls Try.prog 49 #[.pointer (some ⟨gr, 0, none⟩), .string (ByteArray.mk ⟨l⟩)] w fun e w' => e = .returned (.int .i64 (-1)) ∧ w' = w) := HAt
  have HP : Hid (Calls Try.prog 50 #[.pointer (some ⟨gr, 0, none⟩), .agg #[.string (ByteArray.mk ⟨l⟩), .slice none 0 0, .int .i64 0]] w fun e w' => e = .returned (.tuple #[]) ∧ Ch w w' (fun k => k = gr) ∧ ∃ v' K, RefW w' (Gr S w w') gr v' (rs.take K ++ ⟨l, .slice none 0 0, [], 0⟩ :: rs.drop K)) :=
    putR_ok w S gr v rs ⟨l, .slice none 0 0, [], 0⟩ h (Rb.nil _ _) ⟨hok, Nat.le_refl _, by simp⟩ hno hN
  have HA2 : Hid (∀ (w' : World) (S' : Nat → Prop) (v' : Value) (rs' : List RF), RefW w' S' gr v' rs' → Calls Try.prog 49 #[.pointer (some ⟨gr, 0, none⟩), .string (ByteArray.mk ⟨l⟩)] w' fun e w'' => e = .returned (.int .i64 (posR rs' l)) ∧ w'' = w') := fun w' S' v' rs' h' => at_any w' S' gr v' rs' l h'
  have HW : Hid (RefW w S gr v rs) := h
  have hcell : w.cell? ⟨gr, 0, none⟩ = some v := by simp [World.cell?, h.box]
  obtain ⟨aw, cw, rfl, -, -⟩ := h.shape
  have hNi : ¬ (256 : Int) ≤ (rs.length : Int) := by omega
  have HVb0 : Hid (Rd w (.slice av b.length cv) b) := hv
  have hbl : ¬ (1048576 : Int) < (b.length : Int) := by omega
  have HBl : Hid (b.length ≤ 1048576) := hlen
  clear HN HAt h hp hno hN hv hlen hok hl
  generalize hLr : rs.length = Lr at *
  have HLr : Hid (rs.length = Lr) := hLr
  clear hLr
  generalize ByteArray.mk ⟨l⟩ = s at *
  go_enter Try.func26, Try.ntmps26
  go_wp2_with fail
  refine HN2.out.mono ?_
  rintro e w1 ⟨rfl, hw1⟩
  rw [hw1]
  clear hw1 w1
  go_wp2_with fail
  refine HA.out.mono ?_
  rintro e w1 ⟨rfl, hw1⟩
  rw [hw1]
  clear hw1 w1
  go_wp2_with fail
  refine HP.out.mono ?_
  rintro e w1 ⟨rfl, hch1, v1, K, hW1⟩
  have hpc := posR_cases (rs.take K ++ ⟨l, .slice none 0 0, [], 0⟩ :: rs.drop K) l
  have hin : (⟨l, .slice none 0 0, [], 0⟩ : RF) ∈ rs.take K ++ ⟨l, .slice none 0 0, [], 0⟩ :: rs.drop K := by simp
  obtain ⟨kt, hpos, hkt, hnm, hlk⟩ := hpc.resolve_left (fun h => h.2.1 _ hin rfl)
  rw [lkR_mid hW1.srt, if_pos rfl] at hlk
  have HAk := HA2.out w1 _ _ _ hW1
  rw [hpos] at HAk
  have HA3 : Hid (Calls Try.prog 49 #[.pointer (some ⟨gr, 0, none⟩), .string s] w1 fun e w' => e = .returned (.int .i64 (kt : Int)) ∧ w' = w1) := HAk
  have hlen1 : (rs.take K ++ ⟨l, .slice none 0 0, [], 0⟩ :: rs.drop K).length = Lr + 1 := by
    rw [List.length_append, List.length_cons, List.length_take, List.length_drop, HLr.out]; omega
  have hlk1 : (fun l' => lkR (rs.take K ++ ⟨l, .slice none 0 0, [], 0⟩ :: rs.drop K) l') = upd (fun l' => lkR rs l') l (some ([], 0)) := by
    have := lkR_ins hW1.srt
    rw [this, List.take_append_drop]
  generalize hrt : rs.take K ++ ⟨l, .slice none 0 0, [], 0⟩ :: rs.drop K = rt at *
  obtain ⟨St, hSt⟩ : ∃ St, St = Gr S w w1 := ⟨_, rfl⟩
  rw [← hSt] at hW1
  obtain ⟨g, cap, hvv, -, -, hcells⟩ := hW1.cells (by intro e; rw [e] at hkt; simp at hkt)
  generalize hL : rt.length = L at *
  have HLt : Hid (rt.length = L) := hL
  subst hvv
  have HT : Hid (RefW w1 St gr (.slice (some ⟨g, 0, none⟩) L cap) rt) := hW1
  obtain ⟨cb, hcbd⟩ : ∃ cb : Bs, cb = [] := ⟨[], rfl⟩
  obtain ⟨zb, hzbd⟩ : ∃ zb : Nat, zb = 0 := ⟨0, rfl⟩
  have hbz : (rt.getD kt rfZ).bytes = cb ∧ (rt.getD kt rfZ).synced = zb := by
    rw [hcbd, hzbd]
    simp only [Option.some.injEq, Prod.mk.injEq] at hlk
    exact ⟨hlk.1.symm, hlk.2.symm⟩
  have HVL : Hid (Rd w1 (rt.getD kt rfZ).val cb ∧ w1.cell? ⟨g, kt * 3 + 1, none⟩ = some (rt.getD kt rfZ).val ∧ kt < L ∧ cb.length + b.length ≤ 1048576) := ⟨by rw [← hbz.1]; exact (hW1.each _ (getD_mem (by rw [HLt.out]; exact hkt))).1, (hcells kt hkt).2.1, hkt, by rw [hcbd]; have := HBl.out; simp; exact this⟩
  have HVb : Hid (Rd w1 (.slice av b.length cv) b) := HVb0.out.off_box HW.out.box hch1
  have HKT : Hid (kt < rt.length ∧ (rt.getD kt rfZ).name = l ∧ (rt.getD kt rfZ).bytes = cb ∧ (rt.getD kt rfZ).synced = zb ∧ zb ≤ cb.length) := ⟨by rw [HLt.out]; exact hkt, hnm, hbz.1, hbz.2, by rw [hzbd]; exact Nat.zero_le _⟩
  have HX : Hid (Ch w w1 (fun k => k = gr) ∧ L = Lr + 1 ∧ (fun l' => lkR rt l') = upd (fun l' => lkR rs l') l (some ([], 0)) ∧ cb = [] ∧ zb = 0 ∧ St = Gr S w w1) := ⟨hch1, hlen1, hlk1, hcbd, hzbd, hSt⟩
  clear hch1 hlen1 hlk1 hcbd hzbd hSt hbz hlk hnm hW1 hcells hkt hrt hL hpc hin hpos HAk HA2
  go_wp2_with fail
  refine HA3.out.mono ?_
  rintro e w9 ⟨rfl, hw9⟩
  rw [hw9]
  clear hw9 w9
  · skip
    have hcb : w1.cell? ⟨gr, 0, none⟩ = some (.slice (some ⟨g, 0, none⟩) L cap) := by simp [World.cell?, HT.out.box]
    obtain ⟨a0, c0, hvs, -, -, -, -⟩ := HVL.out.1
    have hcv : w1.cell? ⟨g, kt * 3 + 1, none⟩ = some (.slice a0 cb.length c0) := by rw [HVL.out.2.1, hvs]
    have HVR : Hid (Rd w1 (.slice a0 cb.length c0) cb) := by rw [← hvs]; exact HVL.out.1
    have hkL : (kt : Int) < (L : Int) := by have := HVL.out.2.2.1; omega
    have hcL : (cb.length : Int) ≤ 1048576 := by have := HVL.out.2.2.2; omega
    clear hvs
    go_wp2_with (at_builtin; refine wp_app rfl _ _ rfl w1.heap.size _ _ [] cb rfl rfl (Own.nil _ _) HVR.out ?f1w1 (Nat.le_refl _) ?_)
    case f1w1 => have := HVL.out.2.2.2; simp; omega
    intro v2 w2 ho2 hf2
    have H2 : Hid (Own w2 w1.heap.size v2 cb ∧ w1.grownBy w2 none) := ⟨by simpa using ho2, hf2.1⟩
    clear ho2 hf2
    go_wp2_with (at_builtin; refine wp_app rfl _ _ rfl w1.heap.size _ _ cb b rfl rfl H2.out.1 (HVb.out.keep H2.out.2) ?f3w1 ?f4w1 ?_)
    case f3w1 => have := HVL.out.2.2.2; omega
    case f4w1 => exact H2.out.2.size
    intro v3 w3 ho3 hf3
    have hg3 : w1.grownBy w3 none := gb_new H2.out.2 hf3.1 (fun k hk => (H2.out.1.lt k hk).1)
    have hT3 := HT.out.frame (T := fun _ => False) (Ch.of_gb hg3 (fun k hk => by cases hk)) (fun _ _ _ => id)
    have hcb3 : w3.cell? ⟨gr, 0, none⟩ = some (.slice (some ⟨g, 0, none⟩) L cap) := by simp [World.cell?, hT3.box]
    have hcv3 : w3.cell? ⟨g, kt * 3 + 1, none⟩ = some (.slice a0 cb.length c0) := cell_keep hcv hg3
    have hfr3 : w3.frozen? ⟨g, kt * 3 + 1, none⟩ = false := by
      obtain ⟨cur, hc⟩ := hT3.row_obj (k := g) rfl
      simp [World.frozen?, hc]
    have H4 : Hid (∃ rs2, RefW (w3.setCell ⟨g, kt * 3 + 1, none⟩ v3) (Gr St w1 (w3.setCell ⟨g, kt * 3 + 1, none⟩ v3)) gr (.slice (some ⟨g, 0, none⟩) L cap) rs2 ∧ (fun l' => lkR rs2 l') = upd (fun l' => lkR rt l') l (some (cb ++ b, zb)) ∧ rs2.length = rt.length ∧ Ch w1 (w3.setCell ⟨g, kt * 3 + 1, none⟩ v3) St) := by
      obtain ⟨hk, hnm, hby, hsy, hzz⟩ := HKT.out
      have hsp := split_at hk
      have hAl : (rt.take kt).length = kt := by rw [List.length_take]; omega
      have hL2 : L = (rt.take kt ++ rt.getD kt rfZ :: rt.drop (kt + 1)).length := by rw [← hsp]; exact HLt.out.symm
      have hT4 : RefW w3 St gr (.slice (some ⟨g, 0, none⟩) (rt.take kt ++ rt.getD kt rfZ :: rt.drop (kt + 1)).length cap) (rt.take kt ++ rt.getD kt rfZ :: rt.drop (kt + 1)) := by
        rw [← hL2, ← hsp]; exact hT3
      have hsz : (w3.setCell ⟨g, kt * 3 + 1, none⟩ v3).heap.size = w3.heap.size := by simp [World.setCell]
      have hturn := hT4.turn (r' := ⟨l, v3, cb ++ b, zb⟩) (S' := Gr St w1 (w3.setCell ⟨g, kt * 3 + 1, none⟩ v3)) hnm.symm 1 v3 (by omega) (by
          simp only [rfc, List.set_cons_succ, List.set_cons_zero]
          rw [hnm, hsy]) (fun k hk => .inl hk) (ho3.rb (fun k hk => .inr ⟨(ho3.lt k hk).1, by rw [hsz]; exact (ho3.lt k hk).2⟩)) ⟨by simp only [List.length_append]; omega, by simp only [List.length_append]; exact HVL.out.2.2.2⟩
      rw [hAl, ← hL2] at hturn
      refine ⟨_, hturn, ?_, ?_, ?_⟩
      · have := lkR_set (r' := ⟨l, v3, cb ++ b, zb⟩) hT4.srt hnm.symm
        rw [this, hnm, ← hsp]
      · conv => rhs; rw [hsp]
        simp
      · refine (Ch.of_gb (S := St) hg3 (fun k hk => by cases hk)).trans (Ch.of_gb (S := fun k => k = g) (gb_set0 w3 g _ v3) (fun k hk _ => by cases hk; rfl)) (fun k _ e => by rw [e]; exact HT.out.inR g rfl)
    obtain ⟨a3, c3, hv3⟩ := ho3.shape
    rw [List.length_append] at hv3
    clear ho3 hf3 hg3 hT3 H2 HVR
    subst hv3
    go_wp2
    go_ret

    obtain ⟨rs2, h1, h2, h3, h4⟩ := H4.out
    obtain ⟨x1, x2, x3, x4, x5, x6⟩ := HX.out
    refine ⟨rfl, _, rs2, h1.mono (fun k hk hg => ?_), ?_, ?_, ?_⟩
    · rw [x6] at hg
      rcases hg with (hg | hg) | hg
      · exact .inl hg
      · exact .inr ⟨hg.1, hk⟩
      · exact .inr ⟨by have := x1.size; omega, hk⟩
    · rw [h2, x3, upd_upd, x4, x5, List.nil_append]
    · rw [h3, HLt.out, x2]
    · refine (x1.mono (fun k _ e => by rw [e]; exact HW.out.inB)).trans h4 (fun k hk hs => ?_)
      rw [x6] at hs
      rcases hs with hs | hs
      · exact hs
      · omega

/-- APPEND, of the document's disk -/
theorem refAppend_ok (w : World) (S : Nat → Prop) (gr N : Nat) (M : Fls) (l b : Bs) (v : Value) (hl : l.length ≤ 9223372036854775807) (h : RefOK w S gr M N) (hv : Rd w v b) :
    Calls Try.prog 26 #[.pointer (some ⟨gr, 0, none⟩), .string (ByteArray.mk ⟨l⟩), v] w fun e w' =>
      e = .returned (.int .i64 (appendE M N l b : Int)) ∧ Ch w w' S ∧ RefOK w' (Gr S w w') gr (if appendE M N l b = 0 then upd M l (some (appendF M l b)) else M) (if appendE M N l b = 0 ∧ (M l).isSome = false then N + 1 else N) := by
  obtain ⟨vr, rs, hW, hM, rfl⟩ := h
  have hMf : M = fun l' => lkR rs l' := funext hM
  have stay : ∀ E : Nat, appendE M rs.length l b = E → E ≠ 0 → (∀ e w', e = Ending.returned (.int .i64 (E : Int)) ∧ w' = w → e = .returned (.int .i64 (appendE M rs.length l b : Int)) ∧ Ch w w' S ∧ RefOK w' (Gr S w w') gr (if appendE M rs.length l b = 0 then upd M l (some (appendF M l b)) else M) (if appendE M rs.length l b = 0 ∧ (M l).isSome = false then rs.length + 1 else rs.length)) := by
    rintro E hE h0 e w' ⟨rfl, rfl⟩
    rw [hE, if_neg h0, if_neg (fun h => h0 h.1)]
    exact ⟨rfl, Ch.refl _ _, RefOK.gr ⟨vr, rs, hW, hM, rfl⟩⟩
  by_cases hok : nameOk l = true
  · have HN := refName_any l w hl
    rw [hok] at HN
    have HAt := at_any w S gr vr rs l hW
    have hcell : w.cell? ⟨gr, 0, none⟩ = some vr := by simp [World.cell?, hW.box]
    obtain ⟨av, cv, rfl, hbc, hcm, hrr, hnn⟩ := hv
    have hv : Rd w (.slice av b.length cv) b := ⟨av, cv, rfl, hbc, hcm, hrr, hnn⟩
    have hble : (b.length : Int) ≤ 9223372036854775807 := by unfold maxLen at hcm; omega
    rcases posR_cases rs l with ⟨hp, hno, hlk⟩ | ⟨k, hp, hk, hnm, hlk⟩
    · rw [hp] at HAt
      have hMl : M l = none := by rw [hM]; exact hlk
      by_cases hbad : 256 ≤ rs.length ∨ 1048576 < b.length
      · obtain ⟨aw, cw, rfl, -, -⟩ := hW.shape
        have hE : appendE M rs.length l b = if 256 ≤ rs.length then 8 else 4 := by
          simp only [appendE, hok, if_true, hMl]
          by_cases h1 : 256 ≤ rs.length
          · rw [if_pos h1, if_pos h1]
          · rw [if_neg h1, if_neg h1, if_pos (hbad.resolve_left h1)]
        refine (refAppend_no w gr _ aw rs.length cw av b.length cv hble hcell HN HAt hbad).mono (fun e w' h => stay _ hE (by split <;> omega) e w' ⟨?_, h.2⟩)
        rw [h.1]
        split <;> rfl
      · have hE : appendE M rs.length l b = 0 := by
          simp only [appendE, hok, if_true, hMl]
          rw [if_neg (fun h => hbad (.inl h)), if_neg (fun h => hbad (.inr h))]
        have hF : appendF M l b = (b, 0) := by simp [appendF, hMl]
        refine (refAppend_new w S gr l vr rs av cv b hl hok hv hW hno hp (by omega) (by omega)).mono ?_
        rintro e w' ⟨rfl, v', rs2, h1, h2, h3, h4⟩
        rw [hE, hF]
        refine ⟨rfl, h4, v', rs2, h1, fun l' => ?_, ?_⟩
        · rw [if_pos rfl, hMf, ← h2]
        · rw [h3, if_pos ⟨rfl, by rw [hMl]; rfl⟩]
    · rw [hp] at HAt
      have hMl : M l = some ((rs.getD k rfZ).bytes, (rs.getD k rfZ).synced) := by rw [hM]; exact hlk
      have hne : rs ≠ [] := by intro e; rw [e] at hk; simp at hk
      obtain ⟨g, cap, rfl, hcp, hcm2, hcells⟩ := hW.cells hne
      have hfit := hW.fits _ (getD_mem hk)
      obtain ⟨a1, c1, hval⟩ : ∃ a1 c1, (rs.getD k rfZ).val = .slice a1 (rs.getD k rfZ).bytes.length c1 := by obtain ⟨⟨a, c, e, _⟩, _⟩ := hW.each _ (getD_mem hk); exact ⟨a, c, e⟩
      by_cases hlong : 1048576 < (rs.getD k rfZ).bytes.length + b.length
      · have hE : appendE M rs.length l b = 4 := by
          simp only [appendE, hok, if_true, hMl]
          rw [if_pos hlong]
        have hc1 := (hcells k hk).2.1
        rw [hval] at hc1
        exact (refAppend_long w gr g k _ rs.length cap av a1 b.length cv _ c1 (by omega) hcell (by omega) hc1 HN HAt (by omega)).mono (stay 4 hE (by omega))
      · have hE : appendE M rs.length l b = 0 := by
          simp only [appendE, hok, if_true, hMl]
          rw [if_neg hlong]
        have hF : appendF M l b = ((rs.getD k rfZ).bytes ++ b, (rs.getD k rfZ).synced) := by simp only [appendF, hMl]
        refine (refAppend_there w S gr g k l rs rs.length cap av cv b _ _ hl hok hv hW rfl hp hk hnm rfl rfl (by omega)).mono ?_
        rintro e w' ⟨rfl, v', rs2, h1, h2, h3, h4⟩
        rw [hE, hF]
        refine ⟨rfl, h4, v', rs2, h1, fun l' => ?_, ?_⟩
        · rw [if_pos rfl, hMf, ← h2]
        · rw [h3, if_neg (fun h => by rw [hMl] at h; simp at h)]
  · have hok' : nameOk l = false := by simpa using hok
    have hE : appendE M rs.length l b = 40 := by simp [appendE, hok']
    exact (refAppend_bad w gr l v hl hok').mono (stay 40 hE (by omega))
end Go.Proofs.Ytgafmplmngbbfaa
