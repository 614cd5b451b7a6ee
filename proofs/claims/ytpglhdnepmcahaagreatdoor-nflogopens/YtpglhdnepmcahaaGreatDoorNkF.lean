/-
  Nfr, Nk8, in one text.
-/
import Derived.Test.YtpglhdnepmcahaaGreatDoorNgA
import Derived.Test.YtpglhdnepmcahaaGreatDoorNkA
/- Nfr -/
namespace Go.Proofs.YtpglhdnepmcahaaGreatDoor
open Go.RowKit Go.Shelf Go.Sort

theorem ll_ext {a b : List (List LbT)} (hl : a.length = b.length) (h : ∀ j, j < a.length → a.getD j [] = b.getD j []) : a = b := by
  apply List.ext_getElem hl
  intro j h1 h2
  have := h j h1
  simpa [List.getD, h1, h2] using this
set_option maxRecDepth 8000 in
set_option maxHeartbeats 6400000 in
theorem sameSets_any (w : World) (va vb : Value) (xs bs : List (List LbT)) (ha : RdLL w va xs) (hb : RdLL w vb bs) :
    Calls Tryz.prog 52 #[va, vb] w fun e w' => e = .returned (.bool (decide (xs = bs))) ∧ w.grownBy w' none := by
  have HA := hidJ (And.intro ha hb)
  obtain ⟨a, c, rfl, hc1, hc2⟩ := ha.shape
  obtain ⟨b, d, rfl, hd1, hd2⟩ := hb.shape
  clear ha hb
  by_cases hlen : xs.length = bs.length
  · have hli : (xs.length : Int) = (bs.length : Int) := by omega
    have HT : Hid ((∀ j, j < xs.length → xs.getD j [] = bs.getD j []) → decide (xs = bs) = true) := fun h => decide_eq_true (ll_ext hlen h)
    have HF : Hid (∀ j, j < xs.length → xs.getD j [] ≠ bs.getD j [] → decide (xs = bs) = false) := fun j _ h => decide_eq_false (fun e => h (by rw [e]))
    have HL := hidJ hlen
    generalize decide (xs = bs) = B at *
    clear hlen
    go_enter Tryz.func52, Tryz.ntmps52
    go_wp2
    go_loopw [13] (fun i wr => ∃ z : Nat, z ≤ xs.length ∧ i = .int .i64 z ∧ Hid (w.grownBy wr none ∧ ∀ j, j < z → xs.getD j [] = bs.getD j [])) (fun i _ => xs.length - (intOf i).toNat)
    case atStart => exact ⟨0, by omega, rfl, gb_refl _ _, fun j hj => by omega⟩
    case round =>
      obtain ⟨z, hzN, rfl, hr⟩ := hrel
      have HG : Hid (w.grownBy wr none) := hr.out.1
      by_cases hzl : z < xs.length
      · have hzi : (z : Int) < (xs.length : Int) := by omega
        have hzb : z < bs.length := by have := HL.out; omega
        have hzj : (z : Int) < (bs.length : Int) := by omega
        obtain ⟨b1, o1, ha', hac, rfl, c0, hrd⟩ := (HA.out.1.keep HG.out).at (j := z) hzl
        obtain ⟨b2, o2, hb', hbc, rfl, d0, hrd2⟩ := (HA.out.2.keep HG.out).at (j := z) hzb
        have HS : Hid (∀ W, wr.grownBy W none → Calls Tryz.prog 82 #[.slice ha' (xs.getD z []).length hac, .slice hb' (bs.getD z []).length hbc] W fun e w' => e = .returned (.bool (decide (xs.getD z [] = bs.getD z []))) ∧ (w'.cell? ⟨b1, o1 + z, none⟩ = some (.slice ha' (xs.getD z []).length hac) ∧ w'.cell? ⟨b2, o2 + z, none⟩ = some (.slice hb' (bs.getD z []).length hbc)) ∧ Hid (w.grownBy w' none)) := fun W hW => (refSameN_any W _ _ _ _ (hrd.keep hW) (hrd2.keep hW)).mono fun e w' ⟨h1, h2⟩ => ⟨h1, ⟨(World.cell?_of_block ((gb_none hW h2).block b1 (block_lt c0) (by simp))).trans c0, (World.cell?_of_block ((gb_none hW h2).block b2 (block_lt d0) (by simp))).trans d0⟩, gb_none (gb_none HG.out hW) h2⟩
        have HD : Hid (wr.grownBy wr.drew none) := gb_drew _ _
        have HE := hidJ hr.out.2
        clear hrd hrd2 hr
        generalize (xs.getD z []).length = n1 at *
        generalize (bs.getD z []).length = n2 at *
        by_cases heq : xs.getD z [] = bs.getD z []
        · have H2 : Hid (∀ j, j < z + 1 → xs.getD j [] = bs.getD j []) := fun j hj => by
            by_cases e : j = z
            · rw [e]; exact heq
            · exact HE.out j (by omega)
          rw [decide_eq_true heq] at HS
          clear heq HT HF
          go_wp2
          go_region_held3 (fun w' => w'.cell? ⟨b1, o1 + z, none⟩ = some (.slice ha' n1 hac) ∧ w'.cell? ⟨b2, o2 + z, none⟩ = some (.slice hb' n2 hbc)) (go_keep)
            (first | (go_at_call 82; with_reducible refine (HS.out _ HD.out).mono ?_; rintro e w3 ⟨rfl, ⟨k0, k1⟩, H3⟩))
          go_wp2
          go_roundw
          case rel => exact ⟨z + 1, by omega, by go_num, H3.out, H2.out⟩
          case measure => simp [intOf]; omega
        · have hB : B = false := HF.out z hzl heq
          subst hB
          rw [decide_eq_false heq] at HS
          clear heq HT HF
          go_wp2
          go_region_held3 (fun w' => w'.cell? ⟨b1, o1 + z, none⟩ = some (.slice ha' n1 hac) ∧ w'.cell? ⟨b2, o2 + z, none⟩ = some (.slice hb' n2 hbc)) (go_keep)
            (first | (go_at_call 82; with_reducible refine (HS.out _ HD.out).mono ?_; rintro e w3 ⟨rfl, ⟨k0, k1⟩, H3⟩))
          go_wp2
          go_ret
          exact ⟨rfl, H3.out⟩
      · have hB : B = true := HT.out (fun j hj => hr.out.2 j (by omega))
        subst hB
        have hzi : ¬ (z : Int) < (xs.length : Int) := by omega
        clear hr HT HF
        go_wp2
        go_ret
        exact ⟨rfl, HG.out⟩
  · have hli : ((xs.length : Int) == (bs.length : Int)) = false := by rw [beq_eq_false_iff_ne]; omega
    have hB : decide (xs = bs) = false := decide_eq_false (fun e => hlen (by rw [e]))
    rw [hB]
    clear hB
    go_enter Tryz.func52, Tryz.ntmps52
    go_wp2
    go_ret
    exact ⟨rfl, gb_refl _ _⟩
set_option maxRecDepth 8000 in
set_option maxHeartbeats 6400000 in
theorem sameM_refl (w : World) (m : MkR) (f s f' s' : Value) (hf : RdLL w f m.fir) (hs : RdLL w s m.res) (hf' : RdLL w f' m.fir) (hs' : RdLL w s' m.res) :
    Calls Tryz.prog 19 #[markV m f s, markV m f' s'] w fun e w' => e = .returned (.bool true) ∧ w.grownBy w' none := by
  have H1 : Hid (∀ W, w.grownBy W none → Calls Tryz.prog 52 #[f, f'] W fun e w' => e = .returned (.bool true) ∧ W.grownBy w' none) := fun W hW => by
    have h := sameSets_any W f f' m.fir m.fir (hf.keep hW) (hf'.keep hW)
    rw [decide_eq_true rfl] at h
    exact h
  have H2 : Hid (∀ W, w.grownBy W none → Calls Tryz.prog 52 #[s, s'] W fun e w' => e = .returned (.bool true) ∧ W.grownBy w' none) := fun W hW => by
    have h := sameSets_any W s s' m.res m.res (hs.keep hW) (hs'.keep hW)
    rw [decide_eq_true rfl] at h
    exact h
  obtain ⟨fa, fc, e1, -⟩ := hf.shape
  obtain ⟨sa, sc, e2, -⟩ := hs.shape
  obtain ⟨fa', fc', e3, -⟩ := hf'.shape
  obtain ⟨sa', sc', e4, -⟩ := hs'.shape
  subst e1 e2 e3 e4
  clear hf hs hf' hs'
  unfold markV
  generalize ByteArray.mk ⟨m.rcv⟩ = br at *
  generalize ByteArray.mk ⟨m.key⟩ = bk at *
  generalize m.tim = tm at *
  generalize m.fir.length = nf at *
  generalize m.res.length = ns at *
  have k1 := World.grownBy_alloc w (.cells #[.string br, .string bk, .int .i64 tm, .slice fa nf fc, .slice sa ns sc] 34) none
  have k2 := World.grownBy_alloc (w.alloc (.cells #[.string br, .string bk, .int .i64 tm, .slice fa nf fc, .slice sa ns sc] 34)) (.cells #[.string br, .string bk, .int .i64 tm, .slice fa' nf fc', .slice sa' ns sc'] 34) none
  have hb1 := (B5.new w 34 (.string br) (.string bk) (.int .i64 tm) (.slice fa nf fc) (.slice sa ns sc)).keep k2
  have hb2 := B5.new (w.alloc (.cells #[.string br, .string bk, .int .i64 tm, .slice fa nf fc, .slice sa ns sc] 34)) 34 (.string br) (.string bk) (.int .i64 tm) (.slice fa' nf fc') (.slice sa' ns sc')
  rw [World.size_alloc] at hb2
  have HB := hidJ (And.intro (gb_none k1 k2) (And.intro hb1 hb2))
  have q1 : (br.toList == br.toList) = true := by simp
  have q2 : (bk.toList == bk.toList) = true := by simp
  clear k1 k2 hb1 hb2
  go_enter Tryz.func19, Tryz.ntmps19
  go_wp2_with fail
  refine (H1.out _ HB.out.1).mono ?_
  rintro e w1 ⟨rfl, g1⟩
  have HB1 := hidJ (And.intro (gb_none HB.out.1 g1) (And.intro (HB.out.2.1.keep g1) (HB.out.2.2.keep g1)))
  clear H1 g1 HB
  obtain ⟨-, -, -, -, c4⟩ := HB1.out.2.1.cells
  obtain ⟨-, -, -, -, d4⟩ := HB1.out.2.2.cells
  go_wp2_with fail
  refine (H2.out _ HB1.out.1).mono ?_
  rintro e w2 ⟨rfl, g2⟩
  have HB2 := hidJ (gb_none HB1.out.1 g2)
  clear H2 g2 HB1 c4 d4
  go_wp2
  go_ret
  exact ⟨rfl, HB2.out⟩
end Go.Proofs.YtpglhdnepmcahaaGreatDoor

/- Nk8 -/
namespace Go.Proofs.YtpglhdnepmcahaaGreatDoor
open Go.RowKit Go.Shelf Go.Sort

/-- a row of marks that can be read -/
def RdK (w : World) (v : Value) (l : List MkX) : Prop := ∃ a c, v = .slice a l.length c ∧ l.length ≤ c ∧ ∀ j, j < l.length → ∃ b o, a = some ⟨b, o, none⟩ ∧ w.cell? ⟨b, o + j * 5, none⟩ = some (.string (ByteArray.mk ⟨(l.getD j xZ).1.rcv⟩)) ∧ w.cell? ⟨b, o + j * 5 + 1, none⟩ = some (.string (ByteArray.mk ⟨(l.getD j xZ).1.key⟩)) ∧ w.cell? ⟨b, o + j * 5 + 2, none⟩ = some (.int .i64 (l.getD j xZ).1.tim) ∧ w.cell? ⟨b, o + j * 5 + 3, none⟩ = some (l.getD j xZ).2.1 ∧ w.cell? ⟨b, o + j * 5 + 4, none⟩ = some (l.getD j xZ).2.2 ∧ RdLL w (l.getD j xZ).2.1 (l.getD j xZ).1.fir ∧ RdLL w (l.getD j xZ).2.2 (l.getD j xZ).1.res
theorem RdK.keep {w w' : World} {v : Value} {l : List MkX} (h : RdK w v l) (hg : w.grownBy w' none) : RdK w' v l := by
  obtain ⟨a, c, h1, h2, h3⟩ := h
  refine ⟨a, c, h1, h2, fun j hj => ?_⟩
  obtain ⟨b, o, e, d0, d1, d2, d3, d4, d5, d6⟩ := h3 j hj
  have kc : ∀ {i : Nat} {u : Value}, w.cell? ⟨b, i, none⟩ = some u → w'.cell? ⟨b, i, none⟩ = some u := fun h => (World.cell?_of_block (hg.block _ (block_lt h) (by simp))).trans h
  exact ⟨b, o, e, kc d0, kc d1, kc d2, kc d3, kc d4, d5.keep hg, d6.keep hg⟩
theorem OwnK.rd {w : World} {base : Nat} {v : Value} {l : List MkX} (h : OwnK w base v l) (hm : ∀ x ∈ l, MkO w x) : RdK w v l := by
  obtain ⟨a, c, e, hc⟩ := h.shape
  refine ⟨a, c, e, hc, fun j hj => ?_⟩
  obtain ⟨g, c', e', -, d0, d1, d2, d3, d4⟩ := h.cells hj
  rw [e] at e'
  simp only [Value.slice.injEq] at e'
  have hx : l.getD j xZ ∈ l := by simp [List.getD, hj]
  have := hm _ hx
  exact ⟨g, 0, e'.1, by simpa using d0, by simpa using d1, by simpa using d2, by simpa using d3, by simpa using d4, this.fir.rd, this.res.rd⟩
set_option maxRecDepth 8000 in
set_option maxHeartbeats 6400000 in
theorem sameAll_refl (w : World) (va vb : Value) (xs ys : List MkX) (hx : RdK w va xs) (hy : RdK w vb ys) (hn : xs.length ≤ 1000000) (he : xs.map (·.1) = ys.map (·.1)) :
    Calls Tryz.prog 28 #[va, vb] w fun e w' => e = .returned (.bool true) ∧ w.grownBy w' none := by
  have hlen : xs.length = ys.length := by simpa using congrArg List.length he
  have hat : ∀ j, j < xs.length → (xs.getD j xZ).1 = (ys.getD j xZ).1 := fun j hj => by
    have h1 := congrArg (fun l : List MkR => l[j]?) he
    simp only [List.getElem?_map] at h1
    rw [List.getElem?_eq_getElem hj, List.getElem?_eq_getElem (by omega)] at h1
    simp only [Option.map_some, Option.some.injEq] at h1
    simp [List.getD, hj, show j < ys.length by omega, h1]
  have HX := hidJ (And.intro hx (And.intro hy hat))
  obtain ⟨aa, ac, rfl, hac, -⟩ := hx
  obtain ⟨ba, bc, rfl, hbc, -⟩ := hy
  have HC : Hid (∀ j, j < xs.length → ∀ wr, w.grownBy wr none → ∃ b o b' o' fa fn fc sa sn sc fa' fn' fc' sa' sn' sc', ∃ (r k : ByteArray) (t : Int), aa = some ⟨b, o, none⟩ ∧ ba = some ⟨b', o', none⟩ ∧ (wr.cell? ⟨b, o + j * 5, none⟩ = some (.string r) ∧ wr.cell? ⟨b, o + j * 5 + 1, none⟩ = some (.string k) ∧ wr.cell? ⟨b, o + j * 5 + 2, none⟩ = some (.int .i64 t) ∧ wr.cell? ⟨b, o + j * 5 + 3, none⟩ = some (.slice fa fn fc) ∧ wr.cell? ⟨b, o + j * 5 + 4, none⟩ = some (.slice sa sn sc)) ∧ (wr.cell? ⟨b', o' + j * 5, none⟩ = some (.string r) ∧ wr.cell? ⟨b', o' + j * 5 + 1, none⟩ = some (.string k) ∧ wr.cell? ⟨b', o' + j * 5 + 2, none⟩ = some (.int .i64 t) ∧ wr.cell? ⟨b', o' + j * 5 + 3, none⟩ = some (.slice fa' fn' fc') ∧ wr.cell? ⟨b', o' + j * 5 + 4, none⟩ = some (.slice sa' sn' sc')) ∧ Hid (∀ W, wr.grownBy W none → Calls Tryz.prog 19 #[.agg #[.string r, .string k, .int .i64 t, .slice fa fn fc, .slice sa sn sc], .agg #[.string r, .string k, .int .i64 t, .slice fa' fn' fc', .slice sa' sn' sc']] W fun e w' => e = .returned (.bool true) ∧ Hid (W.grownBy w' none))) := fun j hj wr hg => by
    obtain ⟨q1, q2, q3⟩ := HX.out
    obtain ⟨a, c, e1, -, h1⟩ := q1.keep hg
    obtain ⟨a', c', e2, -, h2⟩ := q2.keep hg
    simp only [Value.slice.injEq] at e1 e2
    obtain ⟨b, o, eb, d0, d1, d2, d3, d4, d5, d6⟩ := h1 j hj
    obtain ⟨b', o', eb', k0, k1, k2, k3, k4, k5, k6⟩ := h2 j (by omega)
    obtain ⟨fa, fc, ef, -⟩ := d5.shape
    obtain ⟨sa, sc, es, -⟩ := d6.shape
    obtain ⟨fa', fc', ef', -⟩ := k5.shape
    obtain ⟨sa', sc', es', -⟩ := k6.shape
    have em := q3 j hj
    rw [ef] at d3 d5
    rw [es] at d4 d6
    rw [ef'] at k3 k5
    rw [es'] at k4 k6
    rw [← em] at k0 k1 k2 k3 k4 k5 k6
    refine ⟨b, o, b', o', fa, _, fc, sa, _, sc, fa', _, fc', sa', _, sc', _, _, _, e1.1.trans eb, e2.1.trans eb', ⟨d0, d1, d2, d3, d4⟩, ⟨k0, k1, k2, k3, k4⟩, fun W hW => ?_⟩
    have := sameM_refl W (xs.getD j xZ).1 _ _ _ _ (d5.keep hW) (d6.keep hW) (k5.keep hW) (k6.keep hW)
    unfold markV at this
    exact this
  rw [← hlen]
  clear HX hat he hbc
  have hne : (xs.length : Int) = (xs.length : Int) := rfl
  clear hne hlen
  generalize xs.length = n at *
  go_enter Tryz.func28, Tryz.ntmps28
  go_wp2
  go_loopw [13] (fun i wr => ∃ z : Nat, z ≤ n ∧ i = .int .i64 z ∧ Hid (w.grownBy wr none)) (fun i _ => n - (intOf i).toNat)
  case atStart => exact ⟨0, by omega, rfl, gb_refl _ _⟩
  case round =>
    obtain ⟨z, hzN, rfl, hr⟩ := hrel
    by_cases hzl : z < n
    · have hzi : (z : Int) < (n : Int) := by omega
      obtain ⟨b, o, b', o', fa, fn, fc, sa, sn, sc, fa', fn', fc', sa', sn', sc', r, k, t, rfl, rfl, ⟨d0, d1, d2, d3, d4⟩, ⟨k0, k1, k2, k3, k4⟩, HS⟩ := HC.out z hzl wr hr.out
      have HS2 : Hid (Calls Tryz.prog 19 #[.agg #[.string r, .string k, .int .i64 t, .slice fa fn fc, .slice sa sn sc], .agg #[.string r, .string k, .int .i64 t, .slice fa' fn' fc', .slice sa' sn' sc']] wr.drew fun e w' => e = .returned (.bool true) ∧ (w'.cell? ⟨b, o + z * 5, none⟩ = some (.string r) ∧ w'.cell? ⟨b, o + z * 5 + 1, none⟩ = some (.string k) ∧ w'.cell? ⟨b, o + z * 5 + 2, none⟩ = some (.int .i64 t) ∧ w'.cell? ⟨b, o + z * 5 + 3, none⟩ = some (.slice fa fn fc) ∧ w'.cell? ⟨b, o + z * 5 + 4, none⟩ = some (.slice sa sn sc) ∧ w'.cell? ⟨b', o' + z * 5, none⟩ = some (.string r) ∧ w'.cell? ⟨b', o' + z * 5 + 1, none⟩ = some (.string k) ∧ w'.cell? ⟨b', o' + z * 5 + 2, none⟩ = some (.int .i64 t) ∧ w'.cell? ⟨b', o' + z * 5 + 3, none⟩ = some (.slice fa' fn' fc') ∧ w'.cell? ⟨b', o' + z * 5 + 4, none⟩ = some (.slice sa' sn' sc')) ∧ Hid (w.grownBy w' none)) := by
        refine (HS.out wr.drew (gb_drew _ none)).mono ?_
        rintro e w' ⟨q1, q2⟩
        have hg := gb_none (gb_drew wr none) q2.out
        have kc : ∀ {x i : Nat} {u : Value}, wr.cell? ⟨x, i, none⟩ = some u → w'.cell? ⟨x, i, none⟩ = some u := fun h => (World.cell?_of_block (hg.block _ (block_lt h) (by simp))).trans h
        exact ⟨q1, ⟨kc d0, kc d1, kc d2, kc d3, kc d4, kc k0, kc k1, kc k2, kc k3, kc k4⟩, gb_none hr.out hg⟩
      clear HC HS
      go_wp2
      go_region_held3 (fun w' => w'.cell? ⟨b, o + z * 5, none⟩ = some (.string r) ∧ w'.cell? ⟨b, o + z * 5 + 1, none⟩ = some (.string k) ∧ w'.cell? ⟨b, o + z * 5 + 2, none⟩ = some (.int .i64 t) ∧ w'.cell? ⟨b, o + z * 5 + 3, none⟩ = some (.slice fa fn fc) ∧ w'.cell? ⟨b, o + z * 5 + 4, none⟩ = some (.slice sa sn sc) ∧ w'.cell? ⟨b', o' + z * 5, none⟩ = some (.string r) ∧ w'.cell? ⟨b', o' + z * 5 + 1, none⟩ = some (.string k) ∧ w'.cell? ⟨b', o' + z * 5 + 2, none⟩ = some (.int .i64 t) ∧ w'.cell? ⟨b', o' + z * 5 + 3, none⟩ = some (.slice fa' fn' fc') ∧ w'.cell? ⟨b', o' + z * 5 + 4, none⟩ = some (.slice sa' sn' sc')) (go_keep)
        (first | (go_at_call 19; with_reducible refine HS2.out.mono ?_; rintro e w2 ⟨rfl, ⟨p0, p1, p2, p3, p4, p5, p6, p7, p8, p9⟩, H2⟩))
      clear HS2 d0 d1 d2 d3 d4 k0 k1 k2 k3 k4 p0 p1 p2 p3 p4 p5 p6 p7 p8 p9
      go_wp2
      go_roundw
      case rel => exact ⟨z + 1, by omega, by go_num, H2.out⟩
      case measure => simp [intOf]; omega
    · have hzi : ¬ (z : Int) < (n : Int) := by omega
      go_wp2
      go_ret
      exact ⟨rfl, hr.out⟩
end Go.Proofs.YtpglhdnepmcahaaGreatDoor
