/-
  Nkb, Nkc, Nkd, in one text.
-/
import Derived.Test.YtpglhdnepmcahaaGreatDoorNkB
/- Nkb -/
namespace Go.Proofs.YtpglhdnepmcahaaGreatDoor
open Go.RowKit Go.Shelf Go.Sort

/-- does a mark go? -/
theorem goes_any (W : World) (m : MkR) (f s : Value) (now kp : Int) (g1 g2 : Nat) (h1 : W.cell? ⟨g1, 0, none⟩ = some (.int .i64 now)) (h2 : W.cell? ⟨g2, 0, none⟩ = some (.int .i64 kp)) (l1 : g1 < W.heap.size) (l2 : g2 < W.heap.size) (hn : 0 ≤ now ∧ now ≤ 1125899906842624) (hk : 0 ≤ kp ∧ kp ≤ 1099511627776) :
    Calls Tryz.prog 57 #[markV m f s, .pointer (some ⟨g1, 0, none⟩), .pointer (some ⟨g2, 0, none⟩)] W fun e w' => e = .returned (.bool (decide (m.tim ≤ now - kp))) ∧ W.grownBy w' none := by
  unfold markV
  have hz1 : -9223372036854775808 ≤ now - kp := by omega
  have hz2 : now - kp ≤ 9223372036854775807 := by omega
  obtain ⟨RQ, hRQ⟩ : ∃ RQ : Ending → World → Prop, RQ = fun e w' => e = .returned (.bool (decide (m.tim ≤ now - kp))) ∧ W.grownBy w' none := ⟨_, rfl⟩
  have HG : Hid (∀ C, RQ (.returned (.bool (decide (m.tim ≤ now - kp)))) (W.alloc C)) := fun C => by
    rw [hRQ]
    exact ⟨rfl, World.grownBy_alloc _ _ none⟩
  rw [show (fun e w' => e = .returned (.bool (decide (m.tim ≤ now - kp))) ∧ W.grownBy w' none) = (fun e w' => RQ e w') from by rw [hRQ]]
  clear hRQ
  clear hn hk
  go_enter Tryz.func57, Tryz.ntmps57
  go_wp2
  exact HG.out _
/-- the cells that tell which marks go -/
structure GoC (w : World) (now kp : Int) (g1 g2 gc : Nat) : Prop where
  c1 : w.cell? ⟨g1, 0, none⟩ = some (.int .i64 now)
  c2 : w.cell? ⟨g2, 0, none⟩ = some (.int .i64 kp)
  cc : w.cell? ⟨gc, 0, none⟩ = some (.func (.func 57) #[] #[.pointer (some ⟨g1, 0, none⟩), .pointer (some ⟨g2, 0, none⟩)])
  l1 : g1 < w.heap.size
  l2 : g2 < w.heap.size
  lc : gc < w.heap.size
theorem GoC.keep {w w' : World} {now kp : Int} {g1 g2 gc : Nat} (h : GoC w now kp g1 g2 gc) (hg : w.grownBy w' none) : GoC w' now kp g1 g2 gc :=
  ⟨World.grownBy.cell hg h.c1 (by simp), World.grownBy.cell hg h.c2 (by simp), World.grownBy.cell hg h.cc (by simp), Nat.lt_of_lt_of_le h.l1 hg.size, Nat.lt_of_lt_of_le h.l2 hg.size, Nat.lt_of_lt_of_le h.lc hg.size⟩
set_option maxRecDepth 8000 in
set_option maxHeartbeats 1600000 in
theorem drop1_any (W : World) (x : MkX) (now kp : Int) (g1 g2 gc : Nat) (h : GoC W now kp g1 g2 gc) (hs : (∃ a n c, x.2.1 = .slice a n c) ∧ ∃ a n c, x.2.2 = .slice a n c) (hn : 0 ≤ now ∧ now ≤ 1125899906842624) (hk : 0 ≤ kp ∧ kp ≤ 1099511627776) :
    Calls Tryz.prog 87 #[entV x, .pointer (some ⟨gc, 0, none⟩)] W fun e w' => e = .returned (.bool (decide (x.1.tim ≤ now - kp))) ∧ W.grownBy w' none := by
  obtain ⟨m, f, s⟩ := x
  obtain ⟨⟨fa, fn, fc, e1⟩, sa, sn, sc, e2⟩ := hs
  dsimp only at e1 e2
  subst e1 e2
  unfold entV
  dsimp only
  have HC : Hid (∀ C, Calls Tryz.prog 57 #[.agg #[.string (ByteArray.mk ⟨m.rcv⟩), .string (ByteArray.mk ⟨m.key⟩), .int .i64 m.tim, .slice fa fn fc, .slice sa sn sc], .pointer (some ⟨g1, 0, none⟩), .pointer (some ⟨g2, 0, none⟩)] (W.alloc C) fun e w' => e = .returned (.bool (decide (m.tim ≤ now - kp))) ∧ Hid (W.grownBy w' none)) := fun C => by
    have hg := World.grownBy_alloc W C none
    have hq := h.keep hg
    refine (goes_any (W.alloc C) m (.slice fa fn fc) (.slice sa sn sc) now kp g1 g2 hq.c1 hq.c2 hq.l1 hq.l2 hn hk).mono ?_
    rintro e w' ⟨q1, q2⟩
    exact ⟨q1, gb_none hg q2⟩
  obtain ⟨RQ, hRQ⟩ : ∃ RQ : Ending → World → Prop, RQ = fun e w' => e = .returned (.bool (decide (m.tim ≤ now - kp))) ∧ W.grownBy w' none := ⟨_, rfl⟩
  have HG : Hid (∀ w', W.grownBy w' none → RQ (.returned (.bool (decide (m.tim ≤ now - kp)))) w') := fun w' hg => by
    rw [hRQ]
    exact ⟨rfl, hg⟩
  rw [show (fun e w' => e = .returned (.bool (decide (m.tim ≤ now - kp))) ∧ W.grownBy w' none) = (fun e w' => RQ e w') from by rw [hRQ]]
  have cc := h.cc
  have lc := h.lc
  clear hRQ hn hk h
  generalize ByteArray.mk ⟨m.rcv⟩ = br at *
  generalize ByteArray.mk ⟨m.key⟩ = bk at *
  generalize decide (m.tim ≤ now - kp) = bd at *
  go_enter Tryz.func87, Tryz.ntmps87
  go_wp2_with fail
  refine (HC.out _).mono ?_
  rintro e w1 ⟨rfl, q1⟩
  go_wp2
  exact HG.out _ q1.out
end Go.Proofs.YtpglhdnepmcahaaGreatDoor

/- Nkc -/
namespace Go.Proofs.YtpglhdnepmcahaaGreatDoor
open Go.RowKit Go.Shelf Go.Sort

/-- the first that goes; -1: none does -/
def goI (l : List MkX) (d : Int) : Int := if (l.any fun x => decide (x.1.tim ≤ d)) = true then ((l.findIdx fun x => decide (x.1.tim ≤ d)) : Int) else -1
theorem goI_at {l : List MkX} {d : Int} {z : Nat} (hz : z < l.length) (hn : ∀ j, j < z → ¬ (l.getD j xZ).1.tim ≤ d) (h : (l.getD z xZ).1.tim ≤ d) : goI l d = z := by
  have e : l.getD z xZ = l[z] := by simp [List.getD, hz]
  rw [e] at h
  have h1 : (l.any fun x => decide (x.1.tim ≤ d)) = true := List.any_eq_true.2 ⟨l[z], List.getElem_mem hz, by simpa using h⟩
  unfold goI
  rw [if_pos h1]
  have : (l.findIdx fun x => decide (x.1.tim ≤ d)) = z := by
    rw [List.findIdx_eq hz]
    refine ⟨by simpa using h, fun j hj => ?_⟩
    have := hn j hj
    have ej : l.getD j xZ = l[j] := by simp [List.getD, show j < l.length by omega]
    rw [ej] at this
    simpa using this
  rw [this]
theorem goI_none {l : List MkX} {d : Int} (hn : ∀ j, j < l.length → ¬ (l.getD j xZ).1.tim ≤ d) : goI l d = -1 := by
  unfold goI
  rw [if_neg]
  intro h
  obtain ⟨x, hx, h⟩ := List.any_eq_true.1 h
  obtain ⟨j, hj, rfl⟩ := List.mem_iff_getElem.1 hx
  have := hn j hj
  have ej : l.getD j xZ = l[j] := by simp [List.getD, hj]
  rw [ej] at this
  exact this (by simpa using h)
set_option maxRecDepth 8000 in
set_option maxHeartbeats 3200000 in
theorem indexE_any (w : World) (v : Value) (l : List MkX) (now kp : Int) (g1 g2 gc : Nat) (hv : OwnE w 0 v l) (hl : l.length ≤ 500) (hsh : ∀ x ∈ l, (∃ a n c, x.2.1 = .slice a n c) ∧ ∃ a n c, x.2.2 = .slice a n c) (hC : GoC w now kp g1 g2 gc) (hn : 0 ≤ now ∧ now ≤ 1125899906842624) (hk : 0 ≤ kp ∧ kp ≤ 1099511627776) :
    Calls Tryz.prog 115 #[v, .func (.func 87) #[] #[.pointer (some ⟨gc, 0, none⟩)]] w fun e w' => e = .returned (.int .i64 (goI l (now - kp))) ∧ w.grownBy w' none := by
  obtain ⟨va, vc, rfl⟩ := hv.shape
  obtain ⟨d, hd⟩ : ∃ d, now - kp = d := ⟨_, rfl⟩
  rw [hd]
  obtain ⟨RQ, hRQ⟩ : ∃ RQ : Ending → World → Prop, RQ = fun e w' => e = .returned (.int .i64 (goI l d)) ∧ w.grownBy w' none := ⟨_, rfl⟩
  have HF : Hid (∀ w' i, i = goI l d → w.grownBy w' none → RQ (.returned (.int .i64 i)) w') := fun w' i hi hg => by
    rw [hRQ, hi]
    exact ⟨rfl, hg⟩
  rw [show (fun e w' => e = .returned (.int .i64 (goI l d)) ∧ w.grownBy w' none) = (fun e w' => RQ e w') from by rw [hRQ]]
  have HE : Hid (∀ j, j < l.length → ∀ wr, w.grownBy wr none → ∃ g fa fn fc sa sn sc, va = some ⟨g, 0, none⟩ ∧ g < wr.heap.size ∧ wr.cell? ⟨g, j * 7, none⟩ = some (.string (ByteArray.mk ⟨(l.getD j xZ).1.rcv⟩)) ∧ wr.cell? ⟨g, j * 7 + 1, none⟩ = some (.string (ByteArray.mk ⟨(l.getD j xZ).1.key⟩)) ∧ wr.cell? ⟨g, j * 7 + 2, none⟩ = some (.string (ByteArray.mk ⟨(l.getD j xZ).1.rcv⟩)) ∧ wr.cell? ⟨g, j * 7 + 3, none⟩ = some (.string (ByteArray.mk ⟨(l.getD j xZ).1.key⟩)) ∧ wr.cell? ⟨g, j * 7 + 4, none⟩ = some (.int .i64 (l.getD j xZ).1.tim) ∧ wr.cell? ⟨g, j * 7 + 5, none⟩ = some (.slice fa fn fc) ∧ wr.cell? ⟨g, j * 7 + 6, none⟩ = some (.slice sa sn sc) ∧
      Hid (Calls Tryz.prog 87 #[.agg #[.string (ByteArray.mk ⟨(l.getD j xZ).1.rcv⟩), .string (ByteArray.mk ⟨(l.getD j xZ).1.key⟩), .string (ByteArray.mk ⟨(l.getD j xZ).1.rcv⟩), .string (ByteArray.mk ⟨(l.getD j xZ).1.key⟩), .int .i64 (l.getD j xZ).1.tim, .slice fa fn fc, .slice sa sn sc], .pointer (some ⟨gc, 0, none⟩)] wr fun e w' => e = .returned (.bool (decide ((l.getD j xZ).1.tim ≤ d))) ∧ Hid (w.grownBy w' none))) := fun j hj wr hg => by
    obtain ⟨g, c, e0, -, -, hgl, d0, d1, d2, d3, d4, d5, d6⟩ := (hv.keep hg).cells hj
    have hm : l.getD j xZ ∈ l := by simp [List.getD, hj]
    have hq := hsh _ hm
    obtain ⟨⟨fa, fn, fc, ef⟩, sa, sn, sc, es⟩ := hq
    rw [ef] at d5
    rw [es] at d6
    simp only [Value.slice.injEq] at e0
    refine ⟨g, fa, fn, fc, sa, sn, sc, e0.1, hgl, d0, d1, d2, d3, d4, d5, d6, ?_⟩
    have := drop1_any wr (l.getD j xZ) now kp g1 g2 gc (hC.keep hg) (hsh _ hm) hn hk
    unfold entV at this
    rw [ef, es, hd] at this
    refine this.mono ?_
    rintro e w' ⟨q1, q2⟩
    exact ⟨q1, gb_none hg q2⟩
  have H0 : Hid ((∀ j, j < 0 → d < (l.getD j xZ).1.tim) ∧ w.grownBy w none) := ⟨fun j hj => by omega, gb_refl _ _⟩
  clear hRQ hn hk hC hsh hv hd
  go_enter Tryz.func115, Tryz.ntmps115
  go_wp2
  go_loopw [8] (fun i wr => ∃ z : Nat, z ≤ l.length ∧ i = .int .i64 z ∧ Hid ((∀ j, j < z → d < (l.getD j xZ).1.tim) ∧ w.grownBy wr none)) (fun i _ => l.length - (intOf i).toNat)
  case atStart => exact ⟨0, by omega, rfl, H0.out⟩
  case round =>
    obtain ⟨z, hzN, rfl, hr⟩ := hrel
    clear H0
    by_cases hzl : z < l.length
    · have hzi : (z : Int) < (l.length : Int) := by omega
      obtain ⟨g, fa, fn, fc, sa, sn, sc, rfl, hgl, d0, d1, d2, d3, d4, d5, d6, HC⟩ := HE.out z hzl wr hr.out.2
      have HY : Hid ((l.getD z xZ).1.tim ≤ d → (z : Int) = goI l d) := fun h => (goI_at hzl (fun j hj => by have := hr.out.1 j hj; omega) h).symm
      have HN : Hid (¬ (l.getD z xZ).1.tim ≤ d → ∀ j, j < z + 1 → d < (l.getD j xZ).1.tim) := fun h j hj => by
        by_cases e : j = z
        · rw [e]
          omega
        · exact hr.out.1 j (by omega)
      clear hr HE
      generalize ByteArray.mk ⟨(l.getD z xZ).1.rcv⟩ = br at *
      generalize ByteArray.mk ⟨(l.getD z xZ).1.key⟩ = bk at *
      generalize (l.getD z xZ).1.tim = tm at *
      go_wp2_with fail
      refine HC.out.mono ?_
      rintro e w1 ⟨rfl, q1⟩
      clear HC d0 d1 d2 d3 d4 d5 d6
      by_cases h5 : tm ≤ d
      · rw [decide_eq_true h5]
        have HFF := hidJ (HF.out w1 z (HY.out h5) q1.out)
        clear HY HN HF h5
        go_wp2
        exact HFF.out
      · rw [decide_eq_false h5]
        have HR := hidJ (And.intro (HN.out (by omega)) q1.out)
        clear HY HN HF h5
        go_wp2
        go_roundw
        case rel => exact ⟨z + 1, by omega, by go_num, HR.out⟩
        case measure => simp [intOf]; omega
    · have hzi : ¬ (z : Int) < (l.length : Int) := by omega
      have hzn : z = l.length := by omega
      subst hzn
      have HFF := hidJ (HF.out wr (-1) (goI_none (fun j hj => by have := hr.out.1 j hj; omega)).symm hr.out.2)
      clear hr HF HE
      go_wp2
      exact HFF.out
end Go.Proofs.YtpglhdnepmcahaaGreatDoor

/- Nkd -/
namespace Go.Proofs.YtpglhdnepmcahaaGreatDoor
open Go.RowKit Go.Shelf Go.Sort

def setE7 (W : World) (g o : Nat) (p q x y z u v : Value) : World := setE ((W.setCell ⟨g, o, none⟩ p).setCell ⟨g, o + 1, none⟩ q) g o x y z u v
theorem setE7_ch (W : World) (g o : Nat) (p q x y z u v : Value) : Ch W (setE7 W g o p q x y z u v) (fun k => k = g) := by
  unfold setE7
  exact ((set_ch _ _ _ _).trans (set_ch _ _ _ _) (fun _ _ h => h)).trans (setE_ch _ _ _ _ _ _ _ _) (fun _ _ h => h)
theorem entF_set7 (l : List MkX) (p : Nat) (x : MkX) (hp : p < l.length) : entF (l.set p x) = (((((((entF l).set (p * 7) (.string (ByteArray.mk ⟨x.1.rcv⟩))).set (p * 7 + 1) (.string (ByteArray.mk ⟨x.1.key⟩))).set (p * 7 + 2) (.string (ByteArray.mk ⟨x.1.rcv⟩))).set (p * 7 + 3) (.string (ByteArray.mk ⟨x.1.key⟩))).set (p * 7 + 4) (.int .i64 x.1.tim)).set (p * 7 + 5) x.2.1).set (p * 7 + 6) x.2.2 := by
  refine List.ext_getElem? (fun i => ?_)
  by_cases hi : i < l.length * 7
  · obtain ⟨j, f, hf, rfl⟩ : ∃ j f, f < 7 ∧ i = j * 7 + f := ⟨i / 7, i % 7, Nat.mod_lt _ (by omega), by omega⟩
    have hj : j < l.length := by omega
    rw [entF_get _ j f (by simpa using hj) hf]
    have hget := entF_get l j f hj hf
    by_cases hjp : j = p
    · subst hjp
      have e : (l.set j x).getD j xZ = x := by simp [List.getD, hj]
      rw [e]
      have hlen : (entF l).length = l.length * 7 := entF_len l
      have hb : f = 0 ∨ f = 1 ∨ f = 2 ∨ f = 3 ∨ f = 4 ∨ f = 5 ∨ f = 6 := by omega
      rcases hb with rfl | rfl | rfl | rfl | rfl | rfl | rfl <;> (simp [List.getElem?_set, entC, hlen]; try omega)
    · have e : (l.set p x).getD j xZ = l.getD j xZ := by simp [List.getD, show ¬ p = j from fun e => hjp e.symm]
      rw [e, ← hget]
      simp only [List.getElem?_set]
      rw [if_neg (by omega), if_neg (by omega), if_neg (by omega), if_neg (by omega), if_neg (by omega), if_neg (by omega), if_neg (by omega)]
  · rw [List.getElem?_eq_none (by rw [entF_len]; simp; omega), List.getElem?_eq_none (by simp [entF_len]; omega)]
theorem OwnE.set7 {w : World} {g c n p : Nat} {l : List MkX} (x : MkX) (h : OwnE w 0 (.slice (some ⟨g, 0, none⟩) n c) l) (hn : n = l.length) (hp : p < l.length) : OwnE (setE7 w g (p * 7) (.string (ByteArray.mk ⟨x.1.rcv⟩)) (.string (ByteArray.mk ⟨x.1.key⟩)) (.string (ByteArray.mk ⟨x.1.rcv⟩)) (.string (ByteArray.mk ⟨x.1.key⟩)) (.int .i64 x.1.tim) x.2.1 x.2.2) 0 (.slice (some ⟨g, 0, none⟩) n c) (l.set p x) := by
  subst hn
  rcases h.2 with ⟨h', _⟩ | ⟨g', c', cur, h', hgb, hh, hnc, hcm, hcs, htake⟩
  · simp at h'
  · simp only [Value.slice.injEq, Option.some.injEq, Addr.mk.injEq, and_true, true_and] at h'
    obtain ⟨rfl, rfl⟩ := h'
    refine OwnE.of (cur := ((((((cur.setIfInBounds (p * 7) (.string (ByteArray.mk ⟨x.1.rcv⟩))).setIfInBounds (p * 7 + 1) (.string (ByteArray.mk ⟨x.1.key⟩))).setIfInBounds (p * 7 + 2) (.string (ByteArray.mk ⟨x.1.rcv⟩))).setIfInBounds (p * 7 + 3) (.string (ByteArray.mk ⟨x.1.key⟩))).setIfInBounds (p * 7 + 4) (.int .i64 x.1.tim)).setIfInBounds (p * 7 + 5) x.2.1).setIfInBounds (p * 7 + 6) x.2.2) ?_ hgb (by simp) hnc hcm (by simpa using hcs) ?_
    · unfold setE7 setE
      exact set_blk (set_blk (set_blk (set_blk (set_blk (set_blk (set_blk hh _) _) _) _) _) _) _
    · rw [entF_set7 l p x hp, ← htake]
      simp only [Array.toList_setIfInBounds]
      rw [List.take_set, List.take_set, List.take_set, List.take_set, List.take_set, List.take_set, List.take_set]
def zE : Array Value := #[.string ⟨#[]⟩, .string ⟨#[]⟩, .string ⟨#[]⟩, .string ⟨#[]⟩, .int .i64 0, .slice none 0 0, .slice none 0 0]
theorem zeroE_len (n : Nat) : (Builtin.zeroCells zE n).size = n * 7 := by
  simp [Builtin.zeroCells, zE]
theorem zeroE_one (n : Nat) : ∀ u ∈ (Builtin.zeroCells zE n).toList, u.oneCell' = true := by
  intro u hu
  obtain ⟨i, hi, rfl⟩ := List.getElem_of_mem hu
  have hb : i % 7 < 7 := Nat.mod_lt _ (by omega)
  simp [Builtin.zeroCells, zE] at hi ⊢
  generalize i % 7 = f at hb
  have : f = 0 ∨ f = 1 ∨ f = 2 ∨ f = 3 ∨ f = 4 ∨ f = 5 ∨ f = 6 := by omega
  rcases this with rfl | rfl | rfl | rfl | rfl | rfl | rfl <;> rfl
/-- clear of the end of a row of entries -/
theorem run_clearE {w : World} {g n cap : Nat} {l : List MkX} (h : OwnE w 0 (.slice (some ⟨g, 0, none⟩) n cap) l) (hn : n = l.length) (k : Nat) (hk : k < n) :
    ∃ w', (∀ ty c, (Builtin.clear_ #[70] ty #[.slice (some ⟨g, k * 7, none⟩) (n - k) c]).run Tryz.prog w = .ok (.tuple #[]) w') ∧ OwnE w' 0 (.slice (some ⟨g, 0, none⟩) k cap) (l.take k) ∧ w.grownBy w' (some g) := by
  subst hn
  rcases h.2 with ⟨h', _⟩ | ⟨g', cap', cur, h', hbg, hh, hnc, hcm, hcs, htake⟩
  · simp at h'
  · simp only [Value.slice.injEq, Option.some.injEq, Addr.mk.injEq, and_true, true_and] at h'
    obtain ⟨rfl, rfl⟩ := h'
    have hv : ∀ w, (zeroValue 117).run Tryz.prog w = .ok (.agg zE) w := Tryz.zeroValue117
    have hlen2 : (Builtin.zeroCells zE (l.length - k)).toList.length = (l.length - k) * 7 := by rw [Array.length_toList]; exact zeroE_len _
    have hst := run_storeCells_at Tryz.prog g (k * 7) 117 (Builtin.zeroCells zE (l.length - k)).toList 0 cur w hh (by rw [hlen2]; omega) (zeroE_one _)
    obtain ⟨m, hm⟩ : ∃ m, l.length - k = m + 1 := ⟨l.length - k - 1, by omega⟩
    rw [Nat.add_zero, hlen2] at hst
    have htk : (cur.toList.take (k * 7)).length = k * 7 := by rw [List.length_take, Array.length_toList]; omega
    refine ⟨w.setRow g (cur.toList.take (k * 7) ++ (Builtin.zeroCells zE (l.length - k)).toList ++ cur.toList.drop (k * 7 + (l.length - k) * 7)).toArray, fun ty c => ?_, ?_, ?_⟩
    · rw [hm] at hst ⊢
      simp [Builtin.clear_, run_underlying Tryz.underlying70, hv, Value.cells, hst]
    · refine OwnE.of (setRow_heap w g cur _ 117 _ hh) hbg (by simp; omega) (by omega) hcm ?_ ?_
      · simp only [List.size_toArray, List.length_append, htk, hlen2, List.length_drop, Array.length_toList]
        omega
      · rw [List.append_assoc, List.take_append_of_le_length (by omega), List.take_of_length_le (by omega)]
        rw [← entF_take, ← htake, List.take_take, Nat.min_eq_left (by omega)]
    · exact ⟨rfl, rfl, rfl, by simp [World.setRow], fun j hj hne => setRow_other w g j _ (fun e => hne (by rw [e]))⟩
theorem set_getDE {cur : List MkX} {k m : Nat} (x : MkX) (h : k ≠ m) : (cur.set k x).getD m xZ = cur.getD m xZ := by
  simp only [List.getD, List.getElem?_set_ne h]
theorem take_setE {cur : List MkX} {k : Nat} (x : MkX) (hk : k < cur.length) : (cur.set k x).take (k + 1) = cur.take k ++ [x] := by
  rw [List.take_succ_eq_append_getElem (by simpa using hk), List.getElem_set_self, List.take_set_of_le (Nat.le_refl _)]
theorem swp_none {l : List MkX} {d : Int} (hn : goI l d = -1) : swpM l d = l := by
  unfold goI at hn
  split at hn
  · omega
  · rename_i h
    refine List.filter_eq_self.2 fun x hx => ?_
    have h2 : ¬ decide (x.1.tim ≤ d) = true := fun e => h (List.any_eq_true.2 ⟨x, hx, e⟩)
    simp at h2 ⊢
    exact h2
theorem swp_first {l : List MkX} {d : Int} {z : Nat} (hn : goI l d = z) : z < l.length ∧ (l.getD z xZ).1.tim ≤ d ∧ swpM (l.take (z + 1)) d = l.take z := by
  unfold goI at hn
  split at hn
  · rename_i h
    have hz : (l.findIdx fun x => decide (x.1.tim ≤ d)) = z := by omega
    have hlt : z < l.length := by
      rw [← hz]
      rw [List.findIdx_lt_length]
      rw [List.any_eq_true] at h
      exact h
    have e : l.getD z xZ = l[z] := by simp [List.getD, hlt]
    have h1 : l[z].1.tim ≤ d := by
      have := (List.findIdx_eq hlt).1 hz
      simpa using this.1
    refine ⟨hlt, by rw [e]; exact h1, ?_⟩
    rw [swp_next hlt, e, if_neg (by omega)]
    refine List.filter_eq_self.2 fun x hx => ?_
    obtain ⟨j, hj, rfl⟩ := List.mem_iff_getElem.1 hx
    rw [List.length_take] at hj
    have := ((List.findIdx_eq hlt).1 hz).2 j (by omega)
    rw [List.getElem_take]
    simp at this ⊢
    exact this
  · omega
end Go.Proofs.YtpglhdnepmcahaaGreatDoor
