/-
  Nk1, Nk2, Nk3, in one text.
-/
import Derived.Test.YtpglhdnepmcahaaGreatDoorNg9
import Derived.Test.YtpglhdnepmcahaaGreatDoorNgA
/- Nk1 -/
namespace Go.Proofs.YtpglhdnepmcahaaGreatDoor
open Go.RowKit Go.Shelf Go.Sort

def mkC (x : MkX) : List Value := [.string (ByteArray.mk ⟨x.1.rcv⟩), .string (ByteArray.mk ⟨x.1.key⟩), .int .i64 x.1.tim, x.2.1, x.2.2]
def mkF (l : List MkX) : List Value := l.flatMap mkC
theorem mkF_len (l : List MkX) : (mkF l).length = l.length * 5 := by
  induction l with
  | nil => rfl
  | cons o xs ih =>
    have : mkF (o :: xs) = mkC o ++ mkF xs := rfl
    rw [this, List.length_append, ih]
    simp [mkC]
    omega
theorem mkF_append (a b : List MkX) : mkF (a ++ b) = mkF a ++ mkF b := by simp [mkF]
theorem mkF_get (xs : List MkX) : ∀ j f, j < xs.length → f < 5 → (mkF xs)[j * 5 + f]? = (mkC (xs.getD j xZ))[f]? := by
  induction xs with
  | nil => intro j f hj; simp at hj
  | cons o xs ih =>
    intro j f hj hf
    have e : mkF (o :: xs) = mkC o ++ mkF xs := rfl
    have hl : (mkC o).length = 5 := rfl
    rw [e]
    cases j with
    | zero =>
      rw [Nat.zero_mul, Nat.zero_add, List.getElem?_append_left (by omega)]
      rfl
    | succ j =>
      rw [List.getElem?_append_right (by omega), hl]
      have e2 : (j + 1) * 5 + f - 5 = j * 5 + f := by omega
      rw [e2, ih j f (by simpa using hj) hf]
      rfl
/-- a row of marks of the log's own -/
def OwnK (w : World) (base : Nat) (v : Value) (l : List MkX) : Prop := w.ownsRow base 34 5 v l.length (mkF l)
theorem OwnK.nil (w : World) (base : Nat) : OwnK w base (.slice none 0 0) [] := World.ownsRow_nil w base _ _
theorem OwnK.keep {w w' : World} {base : Nat} {v : Value} {l : List MkX} (h : OwnK w base v l) (hg : w.grownBy w' none) : OwnK w' base v l := World.ownsRow.kept h hg (by cases v.ownBlock <;> simp)
theorem OwnK.shape {w : World} {base : Nat} {v : Value} {l : List MkX} (h : OwnK w base v l) : ∃ a c, v = .slice a l.length c ∧ l.length ≤ c := by
  rcases h.2 with ⟨rfl, hn⟩ | ⟨g, cap, cur, rfl, -, -, hnc, -⟩
  · exact ⟨none, 0, by rw [hn], by omega⟩
  · exact ⟨_, _, rfl, hnc⟩
theorem OwnK.cells {w : World} {base : Nat} {v : Value} {l : List MkX} (h : OwnK w base v l) {j : Nat} (hj : j < l.length) : ∃ g c, v = .slice (some ⟨g, 0, none⟩) l.length c ∧ g < w.heap.size ∧ w.cell? ⟨g, j * 5, none⟩ = some (.string (ByteArray.mk ⟨(l.getD j xZ).1.rcv⟩)) ∧ w.cell? ⟨g, j * 5 + 1, none⟩ = some (.string (ByteArray.mk ⟨(l.getD j xZ).1.key⟩)) ∧ w.cell? ⟨g, j * 5 + 2, none⟩ = some (.int .i64 (l.getD j xZ).1.tim) ∧ w.cell? ⟨g, j * 5 + 3, none⟩ = some (l.getD j xZ).2.1 ∧ w.cell? ⟨g, j * 5 + 4, none⟩ = some (l.getD j xZ).2.2 := by
  have h0 := h
  rcases h.2 with ⟨-, hn⟩ | ⟨g, cap, cur, rfl, hg, hh, hnc, hcm, hcs, ht⟩
  · omega
  · have hc := fun f (hf : f < 5) => World.ownsRow.cellAt h0 (j * 5 + f) (by omega)
    have e := fun f (hf : f < 5) => (hc f hf).trans (mkF_get l j f hj hf)
    exact ⟨g, cap, rfl, some_lt hh, e 0 (by omega), e 1 (by omega), e 2 (by omega), e 3 (by omega), e 4 (by omega)⟩
/-- the document's log at gr, its row v, holds these marks -/
structure RefX (w : World) (gr : Nat) (v : Value) (l : List MkX) : Prop where
  box : Boxed w gr 48 v
  row : OwnK w 0 v l
  ris : risM l
  each : ∀ x ∈ l, MkO w x ∧ rightM x.1 = 0
  len : l.length ≤ 1000
theorem RefX.keep {w w' : World} {gr : Nat} {v : Value} {l : List MkX} (h : RefX w gr v l) (hg : w.grownBy w' none) : RefX w' gr v l := ⟨h.box.kept hg (by simp), h.row.keep hg, h.ris, fun x hx => ⟨(h.each x hx).1.keep hg, (h.each x hx).2⟩, h.len⟩
/-- lists of label sets of their own stay -/
def LLk (W W' : World) : Prop := ∀ (b : Nat) (u : Value) (lss : List (List LbT)), OwnLL W b u lss → OwnLL W' b u lss
theorem LLk.gb {W W' : World} (h : W.grownBy W' none) : LLk W W' := fun _ _ _ q => q.keep h
theorem LLk.trans {W W1 W2 : World} (h1 : LLk W W1) (h2 : LLk W1 W2) : LLk W W2 := fun b u lss q => h2 b u lss (h1 b u lss q)
theorem LLk.ch {W W' : World} {S : Nat → Prop} (hc : Ch W W' S) (hS : EnL W S) : LLk W W' := fun _ _ _ q => q.chT hc hS
theorem LLk.rec {W : World} {r : Nat} {rc : Loop} (hr : W.heap[r]? = some (.loop rc)) (o : Obj) : LLk W (W.putObj r o) := by
  intro b u lss hq
  have hc := putRec_ch W r o
  obtain ⟨vs, h1, h2, h3⟩ := hq
  refine ⟨vs, row_ch h1 hc (fun k hk e => ?_), h2, fun j => row_ch (h3 j) hc (fun k hk e => ?_)⟩
  · obtain ⟨cur, q⟩ := row_objE h1 hk
    rw [show k = r from e, hr] at q
    cases q
  · obtain ⟨cur, q⟩ := row_objE (h3 j) hk
    rw [show k = r from e, hr] at q
    cases q
theorem MkO.llk {W W' : World} {x : MkX} (h : MkO W x) (hk : LLk W W') : MkO W' x := ⟨hk _ _ _ h.fir, hk _ _ _ h.res, h.inF, h.inR, h.inr, h.ink⟩
/-- where a mark of an address stands; -1: none does -/
def posI (l : List MkX) (a : LbT) : Int := if hasM l a = true then ((l.findIdx fun x => decide (keyX x = a)) : Int) else -1
theorem pos_hit {l : List MkX} {a : LbT} {z : Nat} (hz : z < l.length) (hk : keyX (l.getD z xZ) = a) (hb : ∀ k, k < z → keyX (l.getD k xZ) ≠ a) : posI l a = (z : Int) := by
  have e : ∀ k (hk : k < l.length), l.getD k xZ = l[k] := fun k hk => by simp [List.getD, hk]
  have hh : hasM l a = true := List.any_eq_true.2 ⟨l[z], by simp, decide_eq_true (by rw [← e z hz]; exact hk)⟩
  unfold posI
  rw [if_pos hh]
  have : (l.findIdx fun x => decide (keyX x = a)) = z := by
    rw [List.findIdx_eq hz]
    refine ⟨decide_eq_true (by rw [← e z hz]; exact hk), fun j hj => ?_⟩
    have := hb j hj
    rw [e j (by omega)] at this
    exact decide_eq_false this
  rw [this]
theorem pos_none {l : List MkX} {a : LbT} (hb : ∀ k, k < l.length → keyX (l.getD k xZ) ≠ a) : posI l a = -1 ∧ hasM l a = false := by
  have hh : hasM l a = false := by
    unfold hasM
    rw [List.any_eq_false]
    intro x hx
    obtain ⟨k, hk, rfl⟩ := List.mem_iff_getElem.1 hx
    have := hb k hk
    rw [show l.getD k xZ = l[k] by simp [List.getD, hk]] at this
    simpa using this
  unfold posI
  rw [hh]
  exact ⟨rfl, rfl⟩
theorem toList_beq (x y : List UInt8) : ((ByteArray.mk ⟨x⟩).toList == (ByteArray.mk ⟨y⟩).toList) = decide (x = y) := by
  have h : ∀ z : List UInt8, (ByteArray.mk ⟨z⟩).toList = z := fun z => by simp
  rw [h, h]
  by_cases e : x = y
  · simp [e]
  · simp [e]
set_option maxRecDepth 8000 in
set_option maxHeartbeats 6400000 in
theorem refPos_any (w : World) (gr : Nat) (v : Value) (l : List MkX) (a : LbT) (h : RefX w gr v l) :
    Calls Tryz.prog 49 #[.pointer (some ⟨gr, 0, none⟩), .string (ByteArray.mk ⟨a.1⟩), .string (ByteArray.mk ⟨a.2⟩)] w fun e w' => e = .returned (.int .i64 (posI l a)) ∧ w.grownBy w' none := by
  have HX := hidJ h
  have c0 := h.box.cell
  have hl := h.len
  obtain ⟨va, vc, ev, hvc⟩ := h.row.shape
  subst ev
  clear h
  obtain ⟨P, hP⟩ : ∃ P, P = posI l a := ⟨_, rfl⟩
  rw [← hP]
  have HP := hidJ hP
  clear hP
  have HE : Hid (∀ j, j < l.length → ∀ wr, w.grownBy wr none → ∃ g fa fn fc sa sn sc, va = some ⟨g, 0, none⟩ ∧ g < wr.heap.size ∧ wr.cell? ⟨g, j * 5, none⟩ = some (.string (ByteArray.mk ⟨(l.getD j xZ).1.rcv⟩)) ∧ wr.cell? ⟨g, j * 5 + 1, none⟩ = some (.string (ByteArray.mk ⟨(l.getD j xZ).1.key⟩)) ∧ wr.cell? ⟨g, j * 5 + 2, none⟩ = some (.int .i64 (l.getD j xZ).1.tim) ∧ wr.cell? ⟨g, j * 5 + 3, none⟩ = some (.slice fa fn fc) ∧ wr.cell? ⟨g, j * 5 + 4, none⟩ = some (.slice sa sn sc)) := fun j hj wr hg => by
    obtain ⟨g, c, e0, hgl, d0, d1, d2, d3, d4⟩ := (HX.out.row.keep hg).cells hj
    have hm : l.getD j xZ ∈ l := by simp [List.getD, hj]
    obtain ⟨fa, fc, ef⟩ := (HX.out.each _ hm).1.fir.shape
    obtain ⟨sa, sc, es⟩ := (HX.out.each _ hm).1.res.shape
    rw [ef] at d3
    rw [es] at d4
    simp only [Value.slice.injEq] at e0
    exact ⟨g, fa, _, fc, sa, _, sc, e0.1, hgl, d0, d1, d2, d3, d4⟩
  obtain ⟨N, hN⟩ : ∃ N, l.length = N := ⟨_, rfl⟩
  have HN := hidJ hN
  rw [hN] at c0 hl HE hvc
  clear hN HX
  have HB0 := hidJ (fun x => toList_beq x a.1)
  have HB1 := hidJ (fun x => toList_beq x a.2)
  generalize ByteArray.mk ⟨a.1⟩ = ar at *
  generalize ByteArray.mk ⟨a.2⟩ = ak at *
  go_enter Tryz.func49, Tryz.ntmps49
  go_wp2
  clear c0
  go_loopw [14] (fun i wr => ∃ z : Nat, z ≤ N ∧ i = .int .i64 z ∧ Hid (w.grownBy wr none ∧ ∀ k, k < z → keyX (l.getD k xZ) ≠ a)) (fun i _ => N - (intOf i).toNat)
  case atStart => exact ⟨0, by omega, rfl, gb_refl _ _, fun k hk => by omega⟩
  case round =>
    obtain ⟨z, hzN, rfl, hr⟩ := hrel
    by_cases hzl : z < N
    · have hzi : (z : Int) < (N : Int) := by omega
      obtain ⟨g, fa, fn, fc, sa, sn, sc, rfl, hgl, d0, d1, d2, d3, d4⟩ := HE.out z hzl wr hr.out.1
      have HG := hidJ (gb_none hr.out.1 (World.grownBy_alloc wr (.cells #[.string (ByteArray.mk ⟨(l.getD z xZ).1.rcv⟩), .string (ByteArray.mk ⟨(l.getD z xZ).1.key⟩), .int .i64 (l.getD z xZ).1.tim, .slice fa fn fc, .slice sa sn sc] 34) none))
      have hb0 := HB0.out (l.getD z xZ).1.rcv
      have hb1 := HB1.out (l.getD z xZ).1.key
      have HK := hidJ hr.out.2
      clear hr HE HB0 HB1
      by_cases h1 : (l.getD z xZ).1.rcv = a.1
      · rw [decide_eq_true h1] at hb0
        by_cases h2 : (l.getD z xZ).1.key = a.2
        · rw [decide_eq_true h2] at hb1
          have HF : Hid (P = (z : Int)) := by
            show P = _
            rw [HP.out]
            exact pos_hit (by rw [HN.out]; exact hzl) (Prod.ext h1 h2) HK.out
          clear HP HK h1 h2
          generalize ByteArray.mk ⟨(l.getD z xZ).1.rcv⟩ = br at *
          generalize ByteArray.mk ⟨(l.getD z xZ).1.key⟩ = bk at *
          generalize (l.getD z xZ).1.tim = tm at *
          go_wp2
          go_ret
          exact ⟨by rw [HF.out]; rfl, HG.out⟩
        · rw [decide_eq_false h2] at hb1
          have HK2 : Hid (∀ k, k < z + 1 → keyX (l.getD k xZ) ≠ a) := fun k hk e => by
            by_cases hkz : k = z
            · rw [hkz] at e
              exact h2 (congrArg Prod.snd e)
            · exact HK.out k (by omega) e
          clear HK h1 h2
          generalize ByteArray.mk ⟨(l.getD z xZ).1.rcv⟩ = br at *
          generalize ByteArray.mk ⟨(l.getD z xZ).1.key⟩ = bk at *
          generalize (l.getD z xZ).1.tim = tm at *
          go_wp2
          go_roundw
          case rel => exact ⟨z + 1, by omega, by go_num, HG.out, HK2.out⟩
          case measure => simp [intOf]; omega
      · rw [decide_eq_false h1] at hb0
        have HK2 : Hid (∀ k, k < z + 1 → keyX (l.getD k xZ) ≠ a) := fun k hk e => by
          by_cases hkz : k = z
          · rw [hkz] at e
            exact h1 (congrArg Prod.fst e)
          · exact HK.out k (by omega) e
        clear HK h1
        generalize ByteArray.mk ⟨(l.getD z xZ).1.rcv⟩ = br at *
        generalize ByteArray.mk ⟨(l.getD z xZ).1.key⟩ = bk at *
        generalize (l.getD z xZ).1.tim = tm at *
        go_wp2
        go_roundw
        case rel => exact ⟨z + 1, by omega, by go_num, HG.out, HK2.out⟩
        case measure => simp [intOf]; omega
    · have hzi : ¬ (z : Int) < (N : Int) := by omega
      have hzn : z = N := by omega
      have HF : Hid (P = -1) := by
        show P = _
        rw [HP.out]
        exact (pos_none (fun k hk => hr.out.2 k (by rw [HN.out] at hk; omega))).1
      have HG := hidJ hr.out.1
      clear hr HP
      go_wp2
      go_ret
      exact ⟨by rw [HF.out]; rfl, HG.out⟩
end Go.Proofs.YtpglhdnepmcahaaGreatDoor

/- Nk2 -/
namespace Go.Proofs.YtpglhdnepmcahaaGreatDoor
open Go.RowKit Go.Shelf Go.Sort

set_option maxRecDepth 8000 in
set_option maxHeartbeats 3200000 in
theorem ownS_any (w : World) (v : Value) (lss : List (List LbT)) (hv : RdLL w v lss) (hl : LLs lss) :
    Calls Tryz.prog 48 #[v] w fun e w' => ∃ v', e = .returned v' ∧ OwnLL w' w.heap.size v' lss ∧ w.grownBy w' none := by
  have HV := hidJ (And.intro hv hl)
  obtain ⟨va, vc, rfl, hc1, hc2⟩ := hv.shape
  have hl6 := hl.1
  clear hv hl
  have H0 : Hid (LeJ w lss 0 (.slice none 0 0) w) := ⟨gb_refl _ _, [], rfl, OwnVs.nil _ _, fun j hj => by omega⟩
  go_enter Tryz.func48, Tryz.ntmps48
  go_wp2
  go_loopw [3, 9] (fun o i wr => ∃ (z : Nat) (a : Option Addr) (c : Nat), z ≤ lss.length ∧ i = .int .i64 z ∧ o = .slice a z c ∧ Hid (LeJ w lss z (.slice a z c) wr)) (fun _ i _ => lss.length - (intOf i).toNat)
  case atStart => exact ⟨0, none, 0, by omega, rfl, rfl, H0.out⟩
  case round =>
    obtain ⟨z, oa, oc, hzN, rfl, rfl, hr⟩ := hrel
    by_cases hzl : z < lss.length
    · have hzi : (z : Int) < (lss.length : Int) := by omega
      obtain ⟨b, o, ha', hcc, rfl, c0, hrd⟩ := (HV.out.1.keep hr.out.old).at (j := z) hzl
      obtain ⟨ua, un, uc, w1, a2, c2, w2, r1, r2, hj⟩ := hr.out.step (by omega) _ hrd (HV.out.2.2 z)
      have H7 := hidJ hj
      have R1 := hidJ r1
      have R2 := hidJ r2
      clear hr hrd hj r1 r2 H0
      generalize (lss.getD z []).length = hn at *
      go_wp2_with (first
        | (at_builtin; refine wp_appRun rfl (.tmp 14) (.tmp 15) 52 rfl _ _ _ rfl rfl R1.out ?_)
        | (at_builtin; refine wp_appRun rfl (.tmp 13) (.tmp 17) 32 rfl _ _ _ rfl rfl R2.out ?_))
      clear R1 R2 c0
      go_wp2
      go_roundw
      case rel => exact ⟨z + 1, a2, c2, by omega, by go_num, rfl, H7⟩
      case measure => simp [intOf]; omega
    · have hzi : ¬ (z : Int) < (lss.length : Int) := by omega
      have HF : Hid (OwnLL wr w.heap.size (.slice oa z oc) lss ∧ w.grownBy wr none) := by
        obtain ⟨us, k1, k2, k3⟩ := hr.out.row
        refine ⟨⟨us, k2, by omega, fun j => ?_⟩, hr.out.old⟩
        by_cases hj : j < z
        · exact k3 j hj
        · have e1 : us.getD j nilV = nilV := by simp only [List.getD, List.getElem?_eq_none (show us.length ≤ j by omega), Option.getD_none]
          have e2 : lss.getD j [] = [] := by simp only [List.getD, List.getElem?_eq_none (show lss.length ≤ j by omega), Option.getD_none]
          rw [e1, e2]
          exact World.ownsRow_nil _ _ _ _
      clear hr H0
      go_wp2
      go_ret
      exact ⟨_, rfl, HF.out⟩

/-- a mark written over in its place -/
def setK (W : World) (g o : Nat) (x y z u v : Value) : World := ((((W.setCell ⟨g, o, none⟩ x).setCell ⟨g, o + 1, none⟩ y).setCell ⟨g, o + 2, none⟩ z).setCell ⟨g, o + 3, none⟩ u).setCell ⟨g, o + 4, none⟩ v
def setM (W : World) (g o : Nat) (x : MkX) : World := setK W g o (.string (ByteArray.mk ⟨x.1.rcv⟩)) (.string (ByteArray.mk ⟨x.1.key⟩)) (.int .i64 x.1.tim) x.2.1 x.2.2
theorem setK_ch (W : World) (g o : Nat) (x y z u v : Value) : Ch W (setK W g o x y z u v) (fun k => k = g) := by
  unfold setK
  exact ((((set_ch _ _ _ _).trans (set_ch _ _ _ _) (fun _ _ h => h)).trans (set_ch _ _ _ _) (fun _ _ h => h)).trans (set_ch _ _ _ _) (fun _ _ h => h)).trans (set_ch _ _ _ _) (fun _ _ h => h)
theorem mkF_set (l : List MkX) (p : Nat) (x : MkX) (hp : p < l.length) : mkF (l.set p x) = (((((mkF l).set (p * 5) (.string (ByteArray.mk ⟨x.1.rcv⟩))).set (p * 5 + 1) (.string (ByteArray.mk ⟨x.1.key⟩))).set (p * 5 + 2) (.int .i64 x.1.tim)).set (p * 5 + 3) x.2.1).set (p * 5 + 4) x.2.2 := by
  refine List.ext_getElem? (fun i => ?_)
  by_cases hi : i < l.length * 5
  · obtain ⟨j, f, hf, rfl⟩ : ∃ j f, f < 5 ∧ i = j * 5 + f := ⟨i / 5, i % 5, Nat.mod_lt _ (by omega), by omega⟩
    have hj : j < l.length := by omega
    rw [mkF_get _ j f (by simpa using hj) hf]
    have hget := mkF_get l j f hj hf
    by_cases hjp : j = p
    · subst hjp
      have e : (l.set j x).getD j xZ = x := by simp [List.getD, hj]
      rw [e]
      have hlen : (mkF l).length = l.length * 5 := mkF_len l
      have hb : f = 0 ∨ f = 1 ∨ f = 2 ∨ f = 3 ∨ f = 4 := by omega
      rcases hb with rfl | rfl | rfl | rfl | rfl
      · simp [List.getElem?_set, mkC, hlen]
        omega
      · simp [List.getElem?_set, mkC, hlen]
        omega
      · simp [List.getElem?_set, mkC, hlen]
        omega
      · simp [List.getElem?_set, mkC, hlen]
        omega
      · simp [List.getElem?_set, mkC, hlen]
        omega
    · have e : (l.set p x).getD j xZ = l.getD j xZ := by simp [List.getD, show ¬ p = j from fun e => hjp e.symm]
      rw [e, ← hget]
      simp only [List.getElem?_set]
      rw [if_neg (by omega), if_neg (by omega), if_neg (by omega), if_neg (by omega), if_neg (by omega)]
  · rw [List.getElem?_eq_none (by rw [mkF_len]; simp; omega), List.getElem?_eq_none (by simp [mkF_len]; omega)]
theorem OwnK.put {w : World} {base g c n : Nat} {l : List MkX} (x : MkX) {p : Nat} (h : OwnK w base (.slice (some ⟨g, 0, none⟩) n c) l) (hp : p < l.length) : OwnK (setM w g (p * 5) x) base (.slice (some ⟨g, 0, none⟩) n c) (l.set p x) := by
  rcases h.2 with ⟨h', _⟩ | ⟨g', c', cur, h', hgb, hh, hnc, hcm, hcs, htake⟩
  · simp at h'
  · simp only [Value.slice.injEq, Option.some.injEq, Addr.mk.injEq, and_true] at h'
    obtain ⟨rfl, rfl, rfl⟩ := h'
    refine ⟨by rw [mkF_len], .inr ⟨g, c, ((((cur.setIfInBounds (p * 5) (.string (ByteArray.mk ⟨x.1.rcv⟩))).setIfInBounds (p * 5 + 1) (.string (ByteArray.mk ⟨x.1.key⟩))).setIfInBounds (p * 5 + 2) (.int .i64 x.1.tim)).setIfInBounds (p * 5 + 3) x.2.1).setIfInBounds (p * 5 + 4) x.2.2, by rw [List.length_set], hgb, ?_, by rw [List.length_set]; exact hnc, hcm, by simpa using hcs, ?_⟩⟩
    · unfold setM setK
      exact set_blk (set_blk (set_blk (set_blk (set_blk hh _) _) _) _) _
    · rw [mkF_set l p x hp, ← htake]
      simp only [Array.toList_setIfInBounds, List.length_set]
      rw [List.take_set, List.take_set, List.take_set, List.take_set, List.take_set]
theorem infoMk : (Tryz.prog.info? 34).map (fun i => (i.zero, i.size, i.bytes)) = some (some (.agg #[.string ⟨#[]⟩, .string ⟨#[]⟩, .int .i64 0, .slice none 0 0, .slice none 0 0]), 5, 88) := by kernel_rfl
theorem OwnK.push {W X : World} {base : Nat} {v : Value} {l : List MkX} (h : OwnK W base v l) (x : MkX) (h1 : x.2.1.oneCell' = true) (h2 : x.2.2.oneCell' = true) (hl : l.length ≤ 1000) (hb : base ≤ W.heap.size) (hX : W.grownBy X none) (hh : X.heap = (W.alloc (.cells (mkC x).toArray 34)).heap) :
    ∃ a2 c2 W2, (Builtin.append_ #[46, 46] 46 #[v, .slice (some ⟨W.heap.size, 0, none⟩) 1 1]).run Tryz.prog X = .ok (.slice a2 (l.length + 1) c2) W2 ∧ OwnK W2 base (.slice a2 (l.length + 1) c2) (l ++ [x]) ∧ Fr X W2 v (.slice a2 (l.length + 1) c2) := by
  obtain ⟨i0, hi, hz0, hz1, hz2⟩ := info_parts infoMk
  have hnew : X.heap[W.heap.size]? = some (.cells (mkC x).toArray 34 (0, 0)) := by rw [hh]; exact Go.heap_alloc_new W _
  have hsz : X.heap.size = W.heap.size + 1 := by rw [hh]; simp
  obtain ⟨v2, W2, hrun, ho, hfr⟩ := run_appH X 46 46 34 i0 _ 5 88 base Tryz.underlying46 hi hz0 hz1 hz2 rfl (by decide) v l.length (mkF l) (World.ownsRow.kept h hX (by cases v.ownBlock <;> simp)) (some ⟨W.heap.size, 0, none⟩) 1 1 (mkC x) rfl
    (fun j u hj => by
      refine ⟨_, rfl, ?_⟩
      rw [Go.WideShapes.add_plain]
      simp only [World.cell?, hnew]
      simpa using hj) (fun e => by cases e)
    (fun u hu => by
      unfold mkC at hu
      simp only [List.mem_cons, List.not_mem_nil, or_false] at hu
      rcases hu with rfl | rfl | rfl | rfl | rfl <;> first | rfl | exact h1 | exact h2) (by omega) (by omega) (by omega)
  obtain ⟨a2, cc, rfl⟩ : ∃ a c, v2 = .slice a (l.length + 1) c := by
    rcases ho.2 with ⟨e, e2⟩ | ⟨b, cap, cur, e, -⟩
    · omega
    · exact ⟨_, _, e⟩
  refine ⟨a2, cc, W2, hrun, ?_, hfr⟩
  unfold OwnK
  rw [List.length_append, mkF_append]
  have e : mkF [x] = mkC x := by simp [mkF]
  rw [e]
  exact ho
theorem RefX.row_ne {w : World} {gr : Nat} {v : Value} {l : List MkX} (h : RefX w gr v l) : v.ownBlock ≠ some gr := by
  intro e
  obtain ⟨cur, hb⟩ := row_objE h.row e
  have := h.box
  unfold Boxed at this
  rw [hb] at this
  simp at this
theorem RefX.enl {w : World} {gr : Nat} {v : Value} {l : List MkX} (h : RefX w gr v l) : EnL w (FpL gr v) := by
  intro k hk
  rcases hk with rfl | hk
  · exact ⟨_, _, _, h.box, by decide, by decide⟩
  · obtain ⟨cur, hb⟩ := row_objE h.row hk
    exact ⟨_, _, _, hb, by decide, by decide⟩
theorem RefX.lt {w : World} {gr : Nat} {v : Value} {l : List MkX} (h : RefX w gr v l) : ∀ k, FpL gr v k → k < w.heap.size := fun k hk => by
  rcases hk with rfl | hk
  · exact h.box.lt
  · exact (World.ownsRow.lt h.row k hk).2
theorem RefX.ch {w w' : World} {gr : Nat} {v : Value} {l : List MkX} {S : Nat → Prop} (h : RefX w gr v l) (hc : Ch w w' S) (hd : ∀ k, FpL gr v k → ¬ S k) (hS : EnL w S) : RefX w' gr v l :=
  ⟨bxch h.box hc (hd _ (.inl rfl)), row_ch h.row hc (fun k hk => hd k (.inr hk)), h.ris, fun x hx => ⟨(h.each x hx).1.chT hc hS, (h.each x hx).2⟩, h.len⟩
/-- a mark in the place of another -/
theorem RefX.seted {w W : World} {gr g c n p : Nat} {l : List MkX} {x : MkX} (h : RefX w gr (.slice (some ⟨g, 0, none⟩) n c) l) (hW : w.grownBy W none) (hx : MkO W x) (hR : rightM x.1 = 0) (hb : hasM l (keyX x) = true) (hp : AtE l (keyX x) p) :
    RefX (setM W g (p * 5) x) gr (.slice (some ⟨g, 0, none⟩) n c) (putM l x p) ∧ LFr gr w (setM W g (p * 5) x) (.slice (some ⟨g, 0, none⟩) n c) (.slice (some ⟨g, 0, none⟩) n c) ∧ LLk W (setM W g (p * 5) x) := by
  have hk := h.keep hW
  obtain ⟨hpl, hke⟩ := has_key h.ris hp hb
  have c1 : Ch W (setM W g (p * 5) x) (fun k => k = g) := setK_ch _ _ _ _ _ _ _ _
  have e1 : EnL W (fun k => k = g) := fun k hk' => hk.enl k (.inr (by rw [hk']; rfl))
  have ep : putM l x p = l.set p x := by unfold putM; rw [if_pos hb]
  refine ⟨⟨bxch hk.box c1 (fun e => hk.row_ne (by rw [e]; rfl)), ?_, putM_ris h.ris hp, fun y hy => ?_, ?_⟩, ?_⟩
  · rw [ep]
    exact hk.row.put x hpl
  · rcases putM_mem hy with hy | rfl
    · exact ⟨((h.each y hy).1.keep hW).chT c1 e1, (h.each y hy).2⟩
    · exact ⟨hx.chT c1 e1, hR⟩
  · rw [ep, List.length_set]
    exact h.len
  · exact ⟨⟨(Ch.of_gb (S := FpL gr (.slice (some ⟨g, 0, none⟩) n c)) hW (fun k hk => by cases hk)).trans c1 (fun k _ hk' => .inr (by rw [hk']; rfl)), fun k hk' => .inl hk'⟩, LLk.ch c1 e1⟩
/-- a mark among the others -/
theorem RefX.insd {w W W1 w' : World} {gr g p : Nat} {v v1 : Value} {l : List MkX} {x : MkX} (h : RefX w gr v l) (hW : w.grownBy W none) (hx : MkO W x) (hR : rightM x.1 = 0) (hl : l.length < 1000) (hb : hasM l (keyX x) = false) (hp : AtE l (keyX x) p)
    (b1 : Boxed W1 gr 48 v1) (hf : LFr gr W W1 v v1) (hg : v1.ownBlock = some g) (hgr : g ≠ gr) (hty : ∃ cur, W1.heap[g]? = some (.cells cur 34 (0, 0))) (hc : Ch W1 w' (fun k => k = g)) (ho : OwnK w' 0 v1 (l.take p ++ [x] ++ l.drop p)) :
    RefX w' gr v1 (putM l x p) ∧ LFr gr w w' v v1 ∧ LLk W w' := by
  have hk := h.keep hW
  have e0 : EnL W (FpL gr v) := hk.enl
  have e1 : EnL W1 (fun k => k = g) := fun k hk' => by
    obtain ⟨cur, hc⟩ := hty
    rw [hk']
    exact ⟨_, _, _, hc, by decide, by decide⟩
  have ep : putM l x p = l.take p ++ [x] ++ l.drop p := by unfold putM; rw [hb]; rfl
  refine ⟨⟨bxch b1 hc (fun e => hgr e.symm), by rw [ep]; exact ho, putM_ris h.ris hp, fun y hy => ?_, ?_⟩, ?_⟩
  · rcases putM_mem hy with hy | rfl
    · exact ⟨(((h.each y hy).1.keep hW).chT hf.1 e0).chT hc e1, (h.each y hy).2⟩
    · exact ⟨(hx.chT hf.1 e0).chT hc e1, hR⟩
  · rw [putM_len l x p hp.1, hb]
    simp
    omega
  · have h1 := LFr.pre hW hf
    refine ⟨⟨h1.1.trans hc (fun k hk' e => ?_), h1.2⟩, (LLk.ch hf.1 e0).trans (LLk.ch hc e1)⟩
    subst e
    rcases h1.2 _ hg with h2 | h2
    · exact .inr h2
    · omega
/-- a row with a gap -/
def gapK (l : List MkX) (k : Nat) (st : MkX) : List MkX := l.take k ++ [st] ++ l.drop k
theorem gapK_len (l : List MkX) {k : Nat} (hk : k ≤ l.length) (st : MkX) : (gapK l k st).length = l.length + 1 := by
  unfold gapK
  simp
  omega
theorem gapK_set (l : List MkX) {k : Nat} (hk : k ≤ l.length) (st x : MkX) : (gapK l k st).set k x = gapK l k x := by
  unfold gapK
  have h1 : (l.take k).length = k := by simp; omega
  rw [List.append_assoc, List.set_append_right k x (by omega), h1]
  simp
theorem gapK_lo (l : List MkX) {k j : Nat} (hk : k ≤ l.length) (hj : j < k) (st : MkX) : (gapK l k st).getD j xZ = l.getD j xZ := by
  unfold gapK
  have h1 : (l.take k).length = k := by simp; omega
  simp only [List.getD]
  rw [List.append_assoc, List.getElem?_append_left (by omega), List.getElem?_take, if_pos hj]
theorem gapK_move (l : List MkX) {k : Nat} (hk : k < l.length) : gapK l (k + 1) (l.getD k xZ) = gapK l k (l.getD k xZ) := by
  have e : l.getD k xZ = l[k] := by simp [List.getD, hk]
  unfold gapK
  rw [e, List.take_succ_eq_append_getElem hk, List.drop_eq_getElem_cons hk]
  simp
/-- where the gap ends -/
theorem gap_stop {l : List MkX} {a : LbT} {k : Nat} (hs : risM l) (hn : hasM l a = false) (hk : k ≤ l.length) (hb : ∀ j, k ≤ j → j < l.length → 0 < cmpL (keyX (l.getD j xZ)) a) (ha : k = 0 ∨ cmpL (keyX (l.getD (k - 1) xZ)) a ≤ 0) : AtE l a k := by
  refine ⟨hk, fun j hj => ?_, fun j h1 h2 => by have := hb j h1 h2; omega⟩
  have ha : cmpL (keyX (l.getD (k - 1) xZ)) a ≤ 0 := by
    rcases ha with ha | ha
    · omega
    · exact ha
  have hne : cmpL (keyX (l.getD (k - 1) xZ)) a ≠ 0 := fun e => by
    have : hasM l a = true := List.any_eq_true.2 ⟨l[k - 1], by simp, decide_eq_true (by have := cmpL_zero.1 e; rwa [show l.getD (k - 1) xZ = l[k - 1] by simp [List.getD, show k - 1 < l.length by omega]] at this)⟩
    rw [hn] at this
    cases this
  by_cases e : j = k - 1
  · rw [e]
    omega
  · exact cmpL_trans (risM_at hs (show j < k - 1 by omega) (by omega)) (by omega)
end Go.Proofs.YtpglhdnepmcahaaGreatDoor

/- Nk3 -/
namespace Go.Proofs.YtpglhdnepmcahaaGreatDoor
open Go.RowKit Go.Shelf Go.Sort

theorem pos_at {l : List MkX} {a : LbT} (hs : risM l) (h : hasM l a = true) : ∃ p : Nat, posI l a = (p : Int) ∧ p < l.length ∧ AtE l a p := by
  obtain ⟨x, hx, he⟩ := List.any_eq_true.1 h
  have he := of_decide_eq_true he
  obtain ⟨k, hk, rfl⟩ := List.mem_iff_getElem.1 hx
  have ek : l.getD k xZ = l[k] := by simp [List.getD, hk]
  rw [← ek] at he
  have hat : AtE l a k := by
    refine ⟨by omega, fun j hj => ?_, fun j h1 h2 => ?_⟩
    · have := risM_at hs hj hk
      rwa [he] at this
    · by_cases e : j = k
      · rw [e, he, cmpL_zero.2 rfl]
        exact Int.le_refl _
      · have := risM_at hs (show k < j by omega) h2
        rw [he, cmpL_neg] at this
        omega
  refine ⟨k, pos_hit hk he (fun j hj e => ?_), hk, hat⟩
  have := risM_at hs hj hk
  rw [e, he, cmpL_zero.2 rfl] at this
  omega
theorem str_less (x y : List UInt8) : Op.bytesLess (ByteArray.mk ⟨x⟩).toList (ByteArray.mk ⟨y⟩).toList = decide (x < y) := by rw [ByteArray.toList_eq, ByteArray.toList_eq, bytesLess_eq]
theorem triK (a b : List UInt8) : a < b ∨ a = b ∨ b < a := by
  by_cases h : a < b
  · exact .inl h
  · by_cases h2 : b < a
    · exact .inr (.inr h2)
    · right; left
      rcases List.le_total a b with h' | h'
      · exact List.le_antisymm h' (List.not_lt.1 h)
      · exact List.le_antisymm (List.not_lt.1 h2) h'
theorem cmpS_ways (a b : List UInt8) : (decide (a < b) = true ∧ decide (a = b) = false ∧ cmpS a b = -1) ∨ (decide (a < b) = false ∧ decide (a = b) = true ∧ cmpS a b = 0) ∨ (decide (a < b) = false ∧ decide (a = b) = false ∧ cmpS a b = 1) := by
  rcases triK a b with h | h | h
  · refine .inl ⟨decide_eq_true h, decide_eq_false (fun e => ?_), by unfold cmpS; rw [if_pos h]⟩
    rw [e] at h
    exact List.lt_irrefl _ h
  · subst h
    exact .inr (.inl ⟨decide_eq_false (List.lt_irrefl _), decide_eq_true rfl, by unfold cmpS; rw [if_neg (List.lt_irrefl _), if_neg (List.lt_irrefl _)]⟩)
  · have hn : ¬ a < b := fun h2 => List.lt_irrefl _ (List.lt_trans h h2)
    refine .inr (.inr ⟨decide_eq_false hn, decide_eq_false (fun e => ?_), by unfold cmpS; rw [if_neg hn, if_pos h]⟩)
    rw [e] at h
    exact List.lt_irrefl _ h
theorem cmp_ways (x y : LbT) : (decide (x.1 < y.1) = true ∧ decide (x.1 = y.1) = false ∧ cmpL x y ≤ 0) ∨ (decide (x.1 < y.1) = false ∧ decide (x.1 = y.1) = false ∧ 0 < cmpL x y) ∨ (decide (x.1 < y.1) = false ∧ decide (x.1 = y.1) = true ∧ ((decide (x.2 < y.2) = true ∧ decide (x.2 = y.2) = false ∧ cmpL x y ≤ 0) ∨ (decide (x.2 < y.2) = false ∧ decide (x.2 = y.2) = true ∧ cmpL x y ≤ 0) ∨ (decide (x.2 < y.2) = false ∧ decide (x.2 = y.2) = false ∧ 0 < cmpL x y))) := by
  rcases cmpS_ways x.1 y.1 with ⟨h1, h2, h3⟩ | ⟨h1, h2, h3⟩ | ⟨h1, h2, h3⟩
  · exact .inl ⟨h1, h2, by unfold cmpL; rw [h3]; simp⟩
  · have e : cmpL x y = cmpS x.2 y.2 := by unfold cmpL; rw [h3]; rfl
    rw [e]
    rcases cmpS_ways x.2 y.2 with ⟨k1, k2, k3⟩ | ⟨k1, k2, k3⟩ | ⟨k1, k2, k3⟩
    · exact .inr (.inr ⟨h1, h2, .inl ⟨k1, k2, by rw [k3]; decide⟩⟩)
    · exact .inr (.inr ⟨h1, h2, .inr (.inl ⟨k1, k2, by rw [k3]; decide⟩)⟩)
    · exact .inr (.inr ⟨h1, h2, .inr (.inr ⟨k1, k2, by rw [k3]; decide⟩)⟩)
  · exact .inr (.inl ⟨h1, h2, by unfold cmpL; rw [h3]; simp⟩)
/-- what put leaves -/
def RPut (w : World) (gr : Nat) (v : Value) (l : List MkX) (m : MkR) (w' : World) : Prop := ∃ f' s' v' p, AtE l (m.rcv, m.key) p ∧ RefX w' gr v' (putM l (m, f', s') p) ∧ LFr gr w w' v v' ∧ NewL w' w.heap.size m f' s'
/-- put behind its append: the row, the mark's box -/
structure PaJ (w W WA : World) (gr g c bm : Nat) (l : List MkX) (v : Value) (x : MkX) : Prop where
  box : Boxed WA gr 48 (.slice (some ⟨g, 0, none⟩) (l.length + 1) c)
  row : OwnK WA 0 (.slice (some ⟨g, 0, none⟩) (l.length + 1) c) (l ++ [x])
  fr : LFr gr W WA v (.slice (some ⟨g, 0, none⟩) (l.length + 1) c)
  mrk : B5 WA bm 34 (.string (ByteArray.mk ⟨x.1.rcv⟩)) (.string (ByteArray.mk ⟨x.1.key⟩)) (.int .i64 x.1.tim) x.2.1 x.2.2
  ne1 : g ≠ gr
  ne2 : g ≠ bm
/-- the append of put, as the region asks for it -/
theorem put_app {w W : World} {gr bm : Nat} {l : List MkX} {va : Option Addr} {n vc : Nat} {x : MkX} (h : RefX w gr (.slice va n vc) l) (hl : l.length < 1000) (hW : w.grownBy W none) (hb : B5 W bm 34 (.string (ByteArray.mk ⟨x.1.rcv⟩)) (.string (ByteArray.mk ⟨x.1.key⟩)) (.int .i64 x.1.tim) x.2.1 x.2.2) (hbm : w.heap.size ≤ bm) (h1 : x.2.1.oneCell' = true) (h2 : x.2.2.oneCell' = true) (X : World) (hX : W.grownBy X none) (hh : X.heap = (W.alloc (.cells (mkC x).toArray 34)).heap) :
    ∃ a2 c2 W2, (Builtin.append_ #[46, 46] 46 #[.slice va n vc, .slice (some ⟨W.heap.size, 0, none⟩) 1 1]).run Tryz.prog X = .ok (.slice a2 (l.length + 1) c2) W2 ∧ W2.cell? ⟨gr, 0, none⟩ = some (.slice va n vc) ∧ W2.frozen? ⟨gr, 0, none⟩ = false ∧ Hid (∃ g, a2 = some ⟨g, 0, none⟩ ∧ PaJ w W (W2.setCell ⟨gr, 0, none⟩ (.slice a2 (l.length + 1) c2)) gr g c2 bm l (.slice va n vc) x) := by
  have hk := h.keep hW
  obtain ⟨a2, c2, W2, q1, q2, q3⟩ := hk.row.push x h1 h2 (by omega) (Nat.zero_le _) hX hh
  have hbx : Boxed W2 gr 48 (.slice va n vc) := (hk.box.kept hX (by simp)).kept q3.1 (fun e => hk.row_ne e.symm)
  obtain ⟨g, rfl⟩ : ∃ g, a2 = some ⟨g, 0, none⟩ := by
    rcases q2.2 with ⟨e, e2⟩ | ⟨g, cap, cur, e, -⟩
    · simp at e2
    · simp only [Value.slice.injEq] at e
      exact ⟨g, e.1⟩
  have hg := q3.2 g rfl
  have hgr : gr < w.heap.size := h.box.lt
  have hXs : X.heap.size = W.heap.size + 1 := by rw [hh]; simp
  have hbl : bm < W.heap.size := some_lt hb
  have n1 : g ≠ gr := fun e => by
    subst e
    rcases hg with hg | hg
    · exact hk.row_ne hg.symm
    · have := hW.size
      omega
  have n2 : g ≠ bm := fun e => by
    subst e
    rcases hg with hg | hg
    · have := (World.ownsRow.lt h.row g hg.symm).2
      omega
    · omega
  have hb2 : B5 W2 bm 34 (.string (ByteArray.mk ⟨x.1.rcv⟩)) (.string (ByteArray.mk ⟨x.1.key⟩)) (.int .i64 x.1.tim) x.2.1 x.2.2 := (q3.1.block bm (by omega) (fun e => by
    have := (World.ownsRow.lt h.row bm e.symm).2
    omega)).trans (hb.keep hX)
  refine ⟨some ⟨g, 0, none⟩, c2, W2, q1, hbx.cell, hbx.frozen, g, rfl, ⟨hbx.set _, row_ch q2 (set_ch _ _ _ _) (fun k hk' e => ?_), ?_, hb2.ch (set_ch _ _ _ _) (by omega), n1, n2⟩⟩
  · simp only [Value.ownBlock, Option.some.injEq] at hk'
    omega
  · refine ⟨((Ch.of_gb (S := FpL gr (.slice va n vc)) hX (fun k hk => by cases hk)).trans (Ch.of_gb (S := FpL gr (.slice va n vc)) q3.1 (fun k hk' _ => .inr hk')) (fun _ _ e => e)).trans (set_ch _ _ _ _) (fun k _ e => .inl e), fun k hk' => ?_⟩
    rcases q3.2 k hk' with h3 | h3
    · exact .inl h3.symm
    · exact .inr (by omega)
theorem ne_cell {W : World} {g c n j : Nat} {l : List MkX} (h : OwnK W 0 (.slice (some ⟨g, 0, none⟩) n c) l) (hj : j < l.length) : ∃ u0 u1 u2 u3 u4, W.cell? ⟨g, j * 5, none⟩ = some u0 ∧ W.cell? ⟨g, j * 5 + 1, none⟩ = some u1 ∧ W.cell? ⟨g, j * 5 + 2, none⟩ = some u2 ∧ W.cell? ⟨g, j * 5 + 3, none⟩ = some u3 ∧ W.cell? ⟨g, j * 5 + 4, none⟩ = some u4 := by
  obtain ⟨g', c', e, -, d0, d1, d2, d3, d4⟩ := h.cells hj
  simp only [Value.slice.injEq, Option.some.injEq, Addr.mk.injEq, and_true] at e
  obtain ⟨rfl, -⟩ := e
  exact ⟨_, _, _, _, _, d0, d1, d2, d3, d4⟩
theorem OwnK.froz {W : World} {g c n : Nat} {l : List MkX} (h : OwnK W 0 (.slice (some ⟨g, 0, none⟩) n c) l) (j : Nat) : W.frozen? ⟨g, j, none⟩ = false := by
  rcases h.2 with ⟨h', _⟩ | ⟨g', c', cur, h', hgb, hh, -⟩
  · simp at h'
  · simp only [Value.slice.injEq, Option.some.injEq, Addr.mk.injEq, and_true] at h'
    obtain ⟨rfl, -⟩ := h'
    simp [World.frozen?, hh]
end Go.Proofs.YtpglhdnepmcahaaGreatDoor
