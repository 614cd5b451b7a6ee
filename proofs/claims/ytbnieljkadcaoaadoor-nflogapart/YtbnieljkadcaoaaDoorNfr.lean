/-
  The document's SameSets, Same: the walks.
-/
import Derived.Test.YtbnieljkadcaoaaDoorNfk
namespace Go.Proofs.YtbnieljkadcaoaaDoor
open Go.RowKit Go.Shelf Go.Sort

theorem ll_ext {a b : List (List LbT)} (hl : a.length = b.length) (h : ∀ j, j < a.length → a.getD j [] = b.getD j []) : a = b := by
  apply List.ext_getElem hl
  intro j h1 h2
  have := h j h1
  simpa [List.getD, h1, h2] using this
set_option maxRecDepth 8000 in
set_option maxHeartbeats 6400000 in
theorem sameSets_any (w : World) (va vb : Value) (xs bs : List (List LbT)) (ha : RdLL w va xs) (hb : RdLL w vb bs) :
    Calls Tryd.prog 16 #[va, vb] w fun e w' => e = .returned (.bool (decide (xs = bs))) ∧ w.grownBy w' none := by
  have HA := hidJ (And.intro ha hb)
  obtain ⟨a, c, rfl, hc1, hc2⟩ := ha.shape
  obtain ⟨b, d, rfl, hd1, hd2⟩ := hb.shape
  clear ha hb
  by_cases hlen : xs.length = bs.length
  · have hli : (xs.length : Int) = (bs.length : Int) := by omega
    have HT : Hid ((∀ j, j < xs.length → xs.getD j [] = bs.getD j []) → decide (xs = bs) = true) := fun h => decide_eq_true (ll_ext hlen h)
    have HF : Hid (∀ j, j < xs.length → xs.getD j [] ≠ bs.getD j [] → decide (xs = bs) = false) := fun j _ h => decide_eq_false (fun e => h (by rw [e]))
    have HL := hidJ hlen
    generalize decide (xs = bs) = B at *
    clear hlen
    go_enter Tryd.func16, Tryd.ntmps16
    go_wp2
    go_loopw [13] (fun i wr => ∃ z : Nat, z ≤ xs.length ∧ i = .int .i64 z ∧ Hid (w.grownBy wr none ∧ ∀ j, j < z → xs.getD j [] = bs.getD j [])) (fun i _ => xs.length - (intOf i).toNat)
    case atStart => exact ⟨0, by omega, rfl, gb_refl _ _, fun j hj => by omega⟩
    case round =>
      obtain ⟨z, hzN, rfl, hr⟩ := hrel
      have HG : Hid (w.grownBy wr none) := hr.out.1
      by_cases hzl : z < xs.length
      · have hzi : (z : Int) < (xs.length : Int) := by omega
        have hzb : z < bs.length := by have := HL.out; omega
        have hzj : (z : Int) < (bs.length : Int) := by omega
        obtain ⟨b1, o1, ha', hac, rfl, c0, hrd⟩ := (HA.out.1.keep HG.out).at (j := z) hzl
        obtain ⟨b2, o2, hb', hbc, rfl, d0, hrd2⟩ := (HA.out.2.keep HG.out).at (j := z) hzb
        have HS : Hid (∀ W, wr.grownBy W none → Calls Tryd.prog 38 #[.slice ha' (xs.getD z []).length hac, .slice hb' (bs.getD z []).length hbc] W fun e w' => e = .returned (.bool (decide (xs.getD z [] = bs.getD z []))) ∧ (w'.cell? ⟨b1, o1 + z, none⟩ = some (.slice ha' (xs.getD z []).length hac) ∧ w'.cell? ⟨b2, o2 + z, none⟩ = some (.slice hb' (bs.getD z []).length hbc)) ∧ Hid (w.grownBy w' none)) := fun W hW => (refSameN_any W _ _ _ _ (hrd.keep hW) (hrd2.keep hW)).mono fun e w' ⟨h1, h2⟩ => ⟨h1, ⟨(World.cell?_of_block ((gb_none hW h2).block b1 (block_lt c0) (by simp))).trans c0, (World.cell?_of_block ((gb_none hW h2).block b2 (block_lt d0) (by simp))).trans d0⟩, gb_none (gb_none HG.out hW) h2⟩
        have HD : Hid (wr.grownBy wr.drew none) := gb_drew _ _
        have HE := hidJ hr.out.2
        clear hrd hrd2 hr
        generalize (xs.getD z []).length = n1 at *
        generalize (bs.getD z []).length = n2 at *
        by_cases heq : xs.getD z [] = bs.getD z []
        · have H2 : Hid (∀ j, j < z + 1 → xs.getD j [] = bs.getD j []) := fun j hj => by
            by_cases e : j = z
            · rw [e]; exact heq
            · exact HE.out j (by omega)
          rw [decide_eq_true heq] at HS
          clear heq HT HF
          go_wp2
          go_region_held3 (fun w' => w'.cell? ⟨b1, o1 + z, none⟩ = some (.slice ha' n1 hac) ∧ w'.cell? ⟨b2, o2 + z, none⟩ = some (.slice hb' n2 hbc)) (go_keep)
            (first | (go_at_call 38; with_reducible refine (HS.out _ HD.out).mono ?_; rintro e w3 ⟨rfl, ⟨k0, k1⟩, H3⟩))
          go_wp2
          go_roundw
          case rel => exact ⟨z + 1, by omega, by go_num, H3.out, H2.out⟩
          case measure => simp [intOf]; omega
        · have hB : B = false := HF.out z hzl heq
          subst hB
          rw [decide_eq_false heq] at HS
          clear heq HT HF
          go_wp2
          go_region_held3 (fun w' => w'.cell? ⟨b1, o1 + z, none⟩ = some (.slice ha' n1 hac) ∧ w'.cell? ⟨b2, o2 + z, none⟩ = some (.slice hb' n2 hbc)) (go_keep)
            (first | (go_at_call 38; with_reducible refine (HS.out _ HD.out).mono ?_; rintro e w3 ⟨rfl, ⟨k0, k1⟩, H3⟩))
          go_wp2
          go_ret
          exact ⟨rfl, H3.out⟩
      · have hB : B = true := HT.out (fun j hj => hr.out.2 j (by omega))
        subst hB
        have hzi : ¬ (z : Int) < (xs.length : Int) := by omega
        clear hr HT HF
        go_wp2
        go_ret
        exact ⟨rfl, HG.out⟩
  · have hli : ((xs.length : Int) == (bs.length : Int)) = false := by rw [beq_eq_false_iff_ne]; omega
    have hB : decide (xs = bs) = false := decide_eq_false (fun e => hlen (by rw [e]))
    rw [hB]
    clear hB
    go_enter Tryd.func16, Tryd.ntmps16
    go_wp2
    go_ret
    exact ⟨rfl, gb_refl _ _⟩
set_option maxRecDepth 8000 in
set_option maxHeartbeats 6400000 in
theorem sameM_refl (w : World) (m : MkR) (f s f' s' : Value) (hf : RdLL w f m.fir) (hs : RdLL w s m.res) (hf' : RdLL w f' m.fir) (hs' : RdLL w s' m.res) :
    Calls Tryd.prog 18 #[markV m f s, markV m f' s'] w fun e w' => e = .returned (.bool true) ∧ w.grownBy w' none := by
  have H1 : Hid (∀ W, w.grownBy W none → Calls Tryd.prog 16 #[f, f'] W fun e w' => e = .returned (.bool true) ∧ W.grownBy w' none) := fun W hW => by
    have h := sameSets_any W f f' m.fir m.fir (hf.keep hW) (hf'.keep hW)
    rw [decide_eq_true rfl] at h
    exact h
  have H2 : Hid (∀ W, w.grownBy W none → Calls Tryd.prog 16 #[s, s'] W fun e w' => e = .returned (.bool true) ∧ W.grownBy w' none) := fun W hW => by
    have h := sameSets_any W s s' m.res m.res (hs.keep hW) (hs'.keep hW)
    rw [decide_eq_true rfl] at h
    exact h
  obtain ⟨fa, fc, e1, -⟩ := hf.shape
  obtain ⟨sa, sc, e2, -⟩ := hs.shape
  obtain ⟨fa', fc', e3, -⟩ := hf'.shape
  obtain ⟨sa', sc', e4, -⟩ := hs'.shape
  subst e1 e2 e3 e4
  clear hf hs hf' hs'
  unfold markV
  generalize ByteArray.mk ⟨m.rcv⟩ = br at *
  generalize ByteArray.mk ⟨m.key⟩ = bk at *
  generalize m.tim = tm at *
  generalize m.fir.length = nf at *
  generalize m.res.length = ns at *
  have k1 := World.grownBy_alloc w (.cells #[.string br, .string bk, .int .i64 tm, .slice fa nf fc, .slice sa ns sc] 24) none
  have k2 := World.grownBy_alloc (w.alloc (.cells #[.string br, .string bk, .int .i64 tm, .slice fa nf fc, .slice sa ns sc] 24)) (.cells #[.string br, .string bk, .int .i64 tm, .slice fa' nf fc', .slice sa' ns sc'] 24) none
  have hb1 := (B5.new w 24 (.string br) (.string bk) (.int .i64 tm) (.slice fa nf fc) (.slice sa ns sc)).keep k2
  have hb2 := B5.new (w.alloc (.cells #[.string br, .string bk, .int .i64 tm, .slice fa nf fc, .slice sa ns sc] 24)) 24 (.string br) (.string bk) (.int .i64 tm) (.slice fa' nf fc') (.slice sa' ns sc')
  rw [World.size_alloc] at hb2
  have HB := hidJ (And.intro (gb_none k1 k2) (And.intro hb1 hb2))
  have q1 : (br.toList == br.toList) = true := by simp
  have q2 : (bk.toList == bk.toList) = true := by simp
  clear k1 k2 hb1 hb2
  go_enter Tryd.func18, Tryd.ntmps18
  go_wp2_with fail
  refine (H1.out _ HB.out.1).mono ?_
  rintro e w1 ⟨rfl, g1⟩
  have HB1 := hidJ (And.intro (gb_none HB.out.1 g1) (And.intro (HB.out.2.1.keep g1) (HB.out.2.2.keep g1)))
  clear H1 g1 HB
  obtain ⟨-, -, -, -, c4⟩ := HB1.out.2.1.cells
  obtain ⟨-, -, -, -, d4⟩ := HB1.out.2.2.cells
  go_wp2_with fail
  refine (H2.out _ HB1.out.1).mono ?_
  rintro e w2 ⟨rfl, g2⟩
  have HB2 := hidJ (gb_none HB1.out.1 g2)
  clear H2 g2 HB1 c4 d4
  go_wp2
  go_ret
  exact ⟨rfl, HB2.out⟩
end Go.Proofs.YtbnieljkadcaoaaDoor
