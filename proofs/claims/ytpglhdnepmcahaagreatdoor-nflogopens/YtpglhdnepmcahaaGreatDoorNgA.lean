/-
  Nfk, Ng1, Ng2, Ng3, Ng4, in one text.
-/
import Derived.Test.YtpglhdnepmcahaaGreatDoorNmH
import Derived.Test.YtpglhdnepmcahaaGreatDoorLhA
import Derived.Lib.AppendZeros
import Derived.Lib.Overlaps
import Derived.Laws.Externs
/- Nfk -/
namespace Go.Proofs.YtpglhdnepmcahaaGreatDoor
open Go.RowKit Go.Shelf Go.Sort

/-- lent between two rounds -/
structure LeJ (w : World) (lss : List (List LbT)) (z : Nat) (v : Value) (wr : World) : Prop where
  old : w.grownBy wr none
  row : ∃ us, us.length = z ∧ OwnVs wr w.heap.size v us ∧ ∀ j, j < z → OwnL wr w.heap.size (us.getD j nilV) (lss.getD j [])
theorem LeJ.step {w wr : World} {lss : List (List LbT)} {z : Nat} {v : Value} (h : LeJ w lss z v wr) (hz : z ≤ 6000000000000) (s : Value) (hs : RdL wr s (lss.getD z [])) (hl : (lss.getD z []).length ≤ 4398046511104) :
    ∃ ua un uc w1 a2 c2 w2, (Builtin.append_ #[52, 52] 52 #[.slice none 0 0, s]).run Tryz.prog wr = .ok (.slice ua un uc) w1 ∧ (Builtin.append_ #[32, 32] 32 #[v, .slice (some ⟨w1.heap.size, 0, none⟩) 1 1]).run Tryz.prog (w1.alloc (.cells #[.slice ua un uc] 52)) = .ok (.slice a2 (z + 1) c2) w2 ∧ LeJ w lss (z + 1) (.slice a2 (z + 1) c2) w2 := by
  obtain ⟨i0, hi, hz0, hz1, hz2⟩ := info_parts infoLb
  obtain ⟨a, c, e1, e2, e3, e4, e5⟩ := hs
  have hs' : RdL wr (.slice a (lss.getD z []).length c) (lss.getD z []) := ⟨a, c, rfl, e2, e3, e4, e5⟩
  subst e1
  obtain ⟨u, w1, hrun, k2, k3⟩ := run_appH wr 52 52 51 i0 _ 2 32 wr.heap.size Tryz.underlying52 hi hz0 hz1 hz2 rfl (by decide) (.slice none 0 0) 0 [] (World.ownsRow_nil _ _ _ _) a (lss.getD z []).length c (lbf (lss.getD z [])) (lbf_len _) hs'.rdc (fun e => ⟨by have := e5 e; omega, e5 e⟩) (lbf_one _) (by omega) (by omega) (Nat.le_refl _)
  have hu : OwnL w1 wr.heap.size u (lss.getD z []) := by
    unfold OwnL
    simpa using k2
  have g1 : wr.grownBy w1 none := gb_trans (gb_refl _ _) k3.1 (fun k hk => by simp [Value.ownBlock] at hk)
  obtain ⟨ua, uc, e⟩ := hu.shape
  subst e
  obtain ⟨us, h1, h2, h3⟩ := h.row
  have hb := h.old.size
  obtain ⟨a2, c2, w2, hrun2, ho, hfr⟩ := OwnVs.push (h2.keep g1) (.slice ua (lss.getD z []).length uc) rfl (by omega) (Nat.le_trans hb g1.size) (World.grownBy_alloc w1 (.cells #[.slice ua (lss.getD z []).length uc] 52) none) rfl
  rw [h1] at hrun2 ho hfr
  have hvb : ∀ k, v.ownBlock = some k → w.heap.size ≤ k ∧ k < wr.heap.size := World.ownsRow.lt h2
  have hk : Ch w1 w2 (fun k => v.ownBlock = some k) := (Ch.of_gb (S := fun k => v.ownBlock = some k) (World.grownBy_alloc w1 (.cells #[.slice ua (lss.getD z []).length uc] 52) none) (fun k hk => by cases hk)).trans (Ch.of_gb (S := fun k => v.ownBlock = some k) hfr.1 (fun k hk _ => hk)) (fun _ _ e => e)
  have hne : ∀ (x : Value) (ls : List LbT), OwnL w1 w.heap.size x ls → OwnL w2 w.heap.size x ls := fun x ls hx => by
    refine row_ch hx hk (fun k hk' e => ?_)
    obtain ⟨cur, q1⟩ := row_objE hx hk'
    obtain ⟨cur', q2⟩ := row_objE (h2.keep g1) e
    rw [q1] at q2
    simp at q2
  refine ⟨ua, _, uc, w1, a2, c2, w2, hrun, hrun2, gb_ch (gb_none h.old g1) hk (fun k e => (hvb k e).1), us ++ [.slice ua (lss.getD z []).length uc], by simp [h1], ?_, fun j hj => ?_⟩
  · exact ho
  · by_cases e : j = z
    · have e2 : (us ++ [Value.slice ua (lss.getD z []).length uc]).getD j nilV = .slice ua (lss.getD z []).length uc := by rw [e, ← h1]; simp
      rw [e2, e]
      exact hne _ _ (hu.mono hb)
    · have e2 : (us ++ [Value.slice ua (lss.getD z []).length uc]).getD j nilV = us.getD j nilV := by simp [List.getD, List.getElem?_append_left (show j < us.length by omega)]
      rw [e2]
      exact hne _ _ ((h3 j (by omega)).keep g1)
set_option maxRecDepth 8000 in
set_option maxHeartbeats 3200000 in
theorem lentS_any (w : World) (v : Value) (lss : List (List LbT)) (hv : RdLL w v lss) (hl : LLs lss) :
    Calls Tryz.prog 51 #[v] w fun e w' => ∃ v', e = .returned v' ∧ OwnLL w' w.heap.size v' lss ∧ w.grownBy w' none := by
  have HV := hidJ (And.intro hv hl)
  obtain ⟨va, vc, rfl, hc1, hc2⟩ := hv.shape
  have hl6 := hl.1
  clear hv hl
  have H0 : Hid (LeJ w lss 0 (.slice none 0 0) w) := ⟨gb_refl _ _, [], rfl, OwnVs.nil _ _, fun j hj => by omega⟩
  go_enter Tryz.func51, Tryz.ntmps51
  go_wp2
  go_loopw [3, 9] (fun o i wr => ∃ (z : Nat) (a : Option Addr) (c : Nat), z ≤ lss.length ∧ i = .int .i64 z ∧ o = .slice a z c ∧ Hid (LeJ w lss z (.slice a z c) wr)) (fun _ i _ => lss.length - (intOf i).toNat)
  case atStart => exact ⟨0, none, 0, by omega, rfl, rfl, H0.out⟩
  case round =>
    obtain ⟨z, oa, oc, hzN, rfl, rfl, hr⟩ := hrel
    by_cases hzl : z < lss.length
    · have hzi : (z : Int) < (lss.length : Int) := by omega
      obtain ⟨b, o, ha', hcc, rfl, c0, hrd⟩ := (HV.out.1.keep hr.out.old).at (j := z) hzl
      obtain ⟨ua, un, uc, w1, a2, c2, w2, r1, r2, hj⟩ := hr.out.step (by omega) _ hrd (HV.out.2.2 z)
      have H7 := hidJ hj
      have R1 := hidJ r1
      have R2 := hidJ r2
      clear hr hrd hj r1 r2 H0
      generalize (lss.getD z []).length = hn at *
      go_wp2_with (first
        | (at_builtin; refine wp_appRun rfl (.tmp 14) (.tmp 15) 52 rfl _ _ _ rfl rfl R1.out ?_)
        | (at_builtin; refine wp_appRun rfl (.tmp 13) (.tmp 17) 32 rfl _ _ _ rfl rfl R2.out ?_))
      clear R1 R2 c0
      go_wp2
      go_roundw
      case rel => exact ⟨z + 1, a2, c2, by omega, by go_num, rfl, H7⟩
      case measure => simp [intOf]; omega
    · have hzi : ¬ (z : Int) < (lss.length : Int) := by omega
      have HF : Hid (OwnLL wr w.heap.size (.slice oa z oc) lss ∧ w.grownBy wr none) := by
        obtain ⟨us, k1, k2, k3⟩ := hr.out.row
        refine ⟨⟨us, k2, by omega, fun j => ?_⟩, hr.out.old⟩
        by_cases hj : j < z
        · exact k3 j hj
        · have e1 : us.getD j nilV = nilV := by simp only [List.getD, List.getElem?_eq_none (show us.length ≤ j by omega), Option.getD_none]
          have e2 : lss.getD j [] = [] := by simp only [List.getD, List.getElem?_eq_none (show lss.length ≤ j by omega), Option.getD_none]
          rw [e1, e2]
          exact World.ownsRow_nil _ _ _ _
      clear hr H0
      go_wp2
      go_ret
      exact ⟨_, rfl, HF.out⟩
set_option maxHeartbeats 1600000 in
theorem refSameN_any (w : World) (v u : Value) (ls ms : List LbT) (hv : RdL w v ls) (hu : RdL w u ms) :
    Calls Tryz.prog 82 #[v, u] w fun e w' => e = .returned (.bool (decide (ls = ms))) ∧ w.grownBy w' none := by
  have HC := hidJ (refCompare_any w v u ls ms hv hu)
  have HE : Hid (decide (ls = ms) = (cmpLs ls ms == 0)) := by
    show _ = _
    rw [Bool.eq_iff_iff, decide_eq_true_eq, beq_iff_eq, cmpLs_zero]
  obtain ⟨a, c, rfl⟩ := hv.shape
  obtain ⟨b, d, rfl⟩ := hu.shape
  clear hv hu
  generalize cmpLs ls ms = r at *
  generalize decide (ls = ms) = q at *
  go_enter Tryz.func82, Tryz.ntmps82
  go_wp2_with fail
  refine HC.out.mono ?_
  rintro e w1 ⟨rfl, H1⟩
  have H1 := hidJ H1
  clear HC
  go_wp2
  go_ret
  exact ⟨by rw [HE.out]; rfl, H1.out⟩
theorem any_take {b : List (List LbT)} {x : List LbT} {y : Nat} (hy : y < b.length) : decide (x ∈ b.take (y + 1)) = (decide (x ∈ b.take y) || decide (x = b.getD y [])) := by
  have e1 : b.getD y [] = b[y] := by simp [List.getD, hy]
  rw [e1, List.take_succ_eq_append_getElem hy, Bool.eq_iff_iff, Bool.or_eq_true, decide_eq_true_eq, decide_eq_true_eq, decide_eq_true_eq, List.mem_append, List.mem_singleton]
set_option maxRecDepth 8000 in
set_option maxHeartbeats 6400000 in
theorem refWithin_any (w : World) (va vb : Value) (xs bs : List (List LbT)) (ha : RdLL w va xs) (hb : RdLL w vb bs) :
    Calls Tryz.prog 84 #[va, vb] w fun e w' => e = .returned (.bool (withinB xs bs)) ∧ w.grownBy w' none := by
  have HA := hidJ (And.intro ha hb)
  obtain ⟨a, c, rfl, hc1, hc2⟩ := ha.shape
  obtain ⟨b, d, rfl, hd1, hd2⟩ := hb.shape
  obtain ⟨R, hR⟩ : ∃ R, R = withinB xs bs := ⟨_, rfl⟩
  rw [← hR]
  have HR : Hid (R = withinB (xs.drop 0) bs) := by show R = _; rw [hR]; simp
  clear ha hb hR
  go_enter Tryz.func84, Tryz.ntmps84
  go_wp2
  go_loopw [12] (fun i wr => ∃ z : Nat, z ≤ xs.length ∧ i = .int .i64 z ∧ Hid (w.grownBy wr none ∧ R = withinB (xs.drop z) bs)) (fun i _ => xs.length - (intOf i).toNat)
  case atStart => exact ⟨0, by omega, rfl, gb_refl _ _, HR.out⟩
  case round =>
    obtain ⟨z, hzN, rfl, hr⟩ := hrel
    have HG : Hid (w.grownBy wr none) := hr.out.1
    by_cases hzl : z < xs.length
    · have hzi : (z : Int) < (xs.length : Int) := by omega
      obtain ⟨b1, o1, ha', hcc, rfl, c0, hrd⟩ := (HA.out.1.keep HG.out).at (j := z) hzl
      have HW : Hid (R = (decide (xs.getD z [] ∈ bs) && withinB (xs.drop (z + 1)) bs)) := by
        show _ = _
        rw [← within_drop hzl]
        exact hr.out.2
      have HX := hidJ hrd
      have HW0 := hidJ HG.out
      clear hr hrd HR
      obtain ⟨x, hx⟩ : ∃ x, xs.getD z [] = x := ⟨_, rfl⟩
      rw [hx] at c0 HW HX
      clear hx
      obtain ⟨wz, hwz⟩ : ∃ wz, wr = wz := ⟨_, rfl⟩
      rw [hwz] at c0 HX HW0 HG ⊢
      clear hwz
      generalize hxl : x.length = nx at *
      have HXL := hidJ hxl
      clear hxl
      go_wp2
      go_loopw [7, 18] (fun q i wr => ∃ y : Nat, y ≤ bs.length ∧ i = .int .i64 y ∧ q = .bool (decide (x ∈ bs.take y)) ∧ Hid (wz.grownBy wr none)) (fun _ i _ => bs.length - (intOf i).toNat)
      case atStart => exact ⟨0, by omega, rfl, by simp, gb_refl _ _⟩
      case round =>
        obtain ⟨y, hyN, rfl, rfl, hr⟩ := hrel
        by_cases hyl : y < bs.length
        · have hyi : (y : Int) < (bs.length : Int) := by omega
          obtain ⟨b2, o2, hb', hbc, rfl, d0, hrd2⟩ := (HA.out.2.keep (gb_none HW0.out hr.out)).at (j := y) hyl
          have HT := hidJ (any_take (x := x) hyl)
          have hxr : RdL wr (.slice ha' nx hcc) x := HX.out.keep hr.out
          have HS : Hid (Calls Tryz.prog 82 #[.slice ha' nx hcc, .slice hb' (bs.getD y []).length hbc] wr fun e w' => e = .returned (.bool (decide (x = bs.getD y []))) ∧ Hid (wz.grownBy w' none)) := (refSameN_any wr _ _ _ _ hxr hrd2).mono fun e w' ⟨h1, h2⟩ => ⟨h1, gb_none hr.out h2⟩
          clear hrd2 hxr
          generalize (bs.getD y []).length = nb at *
          generalize decide (x = bs.getD y []) = q1 at *
          generalize decide (x ∈ bs.take y) = q0 at *
          generalize hq2 : decide (x ∈ bs.take (y + 1)) = q2 at *
          have HQ2 := hidJ hq2
          clear hq2
          cases q0
          · go_wp2_with fail
            refine HS.out.mono ?_
            rintro e w5 ⟨rfl, H5⟩
            clear HS
            go_wp2
            go_roundw
            case rel => exact ⟨y + 1, by omega, by go_num, by rw [HQ2.out, HT.out]; simp, H5⟩
            case measure => simp [intOf]; omega
          · clear HS
            go_wp2
            go_roundw
            case rel => exact ⟨y + 1, by omega, by go_num, by rw [HQ2.out, HT.out]; simp, hr⟩
            case measure => simp [intOf]; omega
        · have hyi : ¬ (y : Int) < (bs.length : Int) := by omega
          have hall : decide (x ∈ bs.take y) = decide (x ∈ bs) := by rw [List.take_of_length_le (by omega)]
          rw [hall]
          have HG2 := hidJ (gb_none HW0.out hr.out)
          clear hr hall
          by_cases hm : x ∈ bs
          · rw [decide_eq_true hm] at HW
            rw [Bool.true_and] at HW
            have hmb : decide (x ∈ bs) = true := decide_eq_true hm
            rw [hmb]
            clear hm hmb
            go_wp2
            go_roundw
            case rel => exact ⟨z + 1, by omega, by go_num, HG2.out, HW.out⟩
            case measure => simp [intOf]; omega
          · rw [decide_eq_false hm] at HW
            rw [Bool.false_and] at HW
            have hmb : decide (x ∈ bs) = false := decide_eq_false hm
            rw [hmb]
            clear hm hmb
            go_wp2
            go_ret
            exact ⟨by rw [HW.out]; rfl, HG2.out⟩
    · have hzi : ¬ (z : Int) < (xs.length : Int) := by omega
      have HW : Hid (R = true) := by
        show _ = _
        rw [hr.out.2, List.drop_eq_nil_of_le (by omega)]
        rfl
      clear hr HR
      go_wp2
      go_ret
      exact ⟨by rw [HW.out]; rfl, HG.out⟩
end Go.Proofs.YtpglhdnepmcahaaGreatDoor

/- Ng1 -/
namespace Go.Proofs.YtpglhdnepmcahaaGreatDoor
open Go.RowKit Go.Shelf Go.Sort

/-- copy into a row that is known whole, of elements of several cells -/
theorem run_copyE {P : Program} (w : World) (dT sT ty elem : TypeId) (size : Nat) (g o dLen dCap : Nat) (a : Addr) (sLen sCap : Nat) (cur : Array Value) (t : TypeId) (cs : List Value)
    (hu : P.underlying dT = some (.slice elem)) (hs : (P.info? elem).map (·.size) = some size)
    (hg : w.heap[g]? = some (.cells cur t (0, 0))) (hn : cs.length = Nat.min sLen dLen * size)
    (hsrc : ∀ j v, cs[j]? = some v → w.cell? (a.add j) = some v) (hfit : o + cs.length ≤ cur.size) (h1 : ∀ v ∈ cs, v.oneCell' = true) :
    (Builtin.copy_ #[dT, sT] ty #[.slice (some ⟨g, o, none⟩) dLen dCap, .slice (some a) sLen sCap]).run P w =
      .ok (goInt (Nat.min sLen dLen : Nat)) (w.setRow g (cur.toList.take o ++ cs ++ cur.toList.drop (o + cs.length)).toArray) := by
  have hst := run_storeCells_at P g o t cs 0 cur w hg (by simpa using hfit) h1
  cases hq : P.info? elem with
  | none => simp [hq] at hs
  | some i =>
    have hi : i.size = size := by simpa [hq] using hs
    have hf := run_firstCells_some (P := P) w size (Nat.min sLen dLen) a sLen sCap cs hn hsrc
    simp [Builtin.copy_, run_underlying hu, Builtin.lenOf, sizeOf, typeInfo, hq, hi, hf, hst]
/-- append of so many zeros, where there is no room -/
theorem run_growZ {P : Program} (w : World) (t tn ty e : TypeId) (i : TypeInfo) (z : Value) (k kn : IntKind) (ht : P.underlying t = some (.slice e)) (htn : P.underlying tn = some (.int kn)) (hi : P.info? e = some i) (hz : i.zero = some z)
    (b : Addr) (sLen sCap : Nat) (olds : List Value) (hlo : olds.length = sLen * i.size) (holds : ∀ j v, olds[j]? = some v → w.cell? (b.add j) = some v)
    (n : Nat) (h0 : 0 < n) (hs : 0 < i.size) (hg : sCap < sLen + n) (h63 : ((sLen + n : Nat) : Int) ≤ 9223372036854775807) (h48 : n * i.bytes ≤ 281474976710656) (hfit : Builtin.nextslicecap (sLen + n) sCap * i.bytes ≤ 281474976710656) :
    (Builtin.append_ #[t, tn] ty #[.slice (some b) sLen sCap, .int k n]).run P w =
      .ok (.slice (some ⟨w.heap.size, 0, none⟩) (sLen + n) (grownCap w (sLen + n) sCap e))
        (w.drew.alloc (.cells (olds.toArray ++ Builtin.zeroCells z.cells n ++ Builtin.zeroCells z.cells (grownCap w (sLen + n) sCap e - (sLen + n))) e)) := by
  have hn : n ≠ 0 := by omega
  have hroom : ¬ (sLen + n ≤ sCap) := by omega
  have hw : IntKind.i64.wrap (n : Int) = n := by rw [IntKind.wrap_i64]; omega
  have h63' : ¬ (9223372036854775807 < ((sLen : Int) + (n : Int))) := by omega
  have h48' : ¬ (281474976710656 < Builtin.nextslicecap (sLen + n) sCap * i.bytes) := by omega
  have h48i : ¬ (281474976710656 < (n : Int) * (i.bytes : Int)) := by
    rw [← Int.natCast_mul]
    omega
  have hneg : ¬ ((n : Int) < 0) := by omega
  have hns : ¬ (n * i.size = 0) := Nat.mul_ne_zero hn (by omega)
  have hfo := run_firstCells_some (P := P) w.drew i.size sLen b sLen sCap olds hlo (by simpa using holds)
  simp [Builtin.append_, run_underlying ht, run_underlying htn, sizeOf, typeInfo, zeroValue, hi, hz, asInt, asIntOf, hw, hneg, hns, hroom, h63', h48', h48i, Question.forced, hfo, newRow, grownCap]
theorem entF_take (l : List MkX) (k : Nat) : (entF l).take (k * 7) = entF (l.take k) := by
  induction l generalizing k with
  | nil => simp [entF]
  | cons x l ih =>
    cases k with
    | zero => simp [entF]
    | succ k =>
      have e : entF (x :: l) = entC x ++ entF l := rfl
      have e2 : entF ((x :: l).take (k + 1)) = entC x ++ entF (l.take k) := rfl
      have hl : (entC x).length = 7 := rfl
      rw [e, e2, List.take_append, hl, show (k + 1) * 7 - 7 = k * 7 by omega, ih, List.take_of_length_le (by omega)]
theorem entF_drop (l : List MkX) (k : Nat) : (entF l).drop (k * 7) = entF (l.drop k) := by
  induction l generalizing k with
  | nil => simp [entF]
  | cons x l ih =>
    cases k with
    | zero => simp [entF]
    | succ k =>
      have e : entF (x :: l) = entC x ++ entF l := rfl
      have hl : (entC x).length = 7 := rfl
      rw [e, List.drop_append, hl, show (k + 1) * 7 - 7 = k * 7 by omega, ih, List.drop_of_length_le (by omega)]
      rfl
/-- one entry laid over what stands at its place, then others behind it -/
theorem splice2 {α : Type} (cur X Y : List α) (o : Nat) (ho : o + X.length + Y.length ≤ cur.length) :
    (((cur.take o ++ X ++ cur.drop (o + X.length)).take (o + X.length) ++ Y ++ (cur.take o ++ X ++ cur.drop (o + X.length)).drop (o + X.length + Y.length)).take (o + X.length + Y.length)) = cur.take o ++ X ++ Y := by
  have h1 : (cur.take o ++ X).length = o + X.length := by rw [List.length_append, List.length_take]; omega
  have h2 : (cur.take o ++ X ++ cur.drop (o + X.length)).take (o + X.length) = cur.take o ++ X := by
    rw [List.take_append_of_le_length (by omega), List.take_of_length_le (by omega)]
  rw [h2, List.take_append_of_le_length (by rw [List.length_append]; omega), List.take_of_length_le (by rw [List.length_append]; omega)]
/-- in place: those behind are laid one further first, then the entry -/
theorem splice3 {α : Type} (cur X Y : List α) (o : Nat) (ho : o + X.length + Y.length ≤ cur.length) :
    (((cur.take (o + X.length) ++ Y ++ cur.drop (o + X.length + Y.length)).take o ++ X ++ (cur.take (o + X.length) ++ Y ++ cur.drop (o + X.length + Y.length)).drop (o + X.length)).take (o + X.length + Y.length)) = cur.take o ++ X ++ Y := by
  have h1 : (cur.take (o + X.length)).length = o + X.length := by rw [List.length_take]; omega
  have h2 : (cur.take (o + X.length) ++ Y ++ cur.drop (o + X.length + Y.length)).take o = cur.take o := by
    rw [List.append_assoc, List.take_append_of_le_length (by omega), List.take_take, Nat.min_eq_left (by omega)]
  have h3 : (cur.take (o + X.length) ++ Y ++ cur.drop (o + X.length + Y.length)).drop (o + X.length) = Y ++ cur.drop (o + X.length + Y.length) := by
    rw [List.append_assoc, List.drop_append, h1, Nat.sub_self, List.drop_of_length_le (by omega)]
    rfl
  have h4 : (cur.take o).length = o := by rw [List.length_take]; omega
  rw [h2, h3, ← List.append_assoc, List.take_append_of_le_length (by rw [List.length_append, List.length_append]; omega), List.take_of_length_le (by rw [List.length_append, List.length_append]; omega)]
/-- a row that is known whole -/
theorem OwnE.of {w : World} {base g n c : Nat} {l : List MkX} {cur : Array Value} (hh : w.heap[g]? = some (.cells cur 117 (0, 0))) (hb : base ≤ g) (hn : n = l.length) (hc : n ≤ c) (hcm : c ≤ maxLen) (hs : cur.size = c * 7) (ht : cur.toList.take (n * 7) = entF l) : OwnE w base (.slice (some ⟨g, 0, none⟩) n c) l := by
  subst hn
  exact ⟨entF_len l, .inr ⟨g, c, cur, rfl, hb, hh, hc, hcm, hs, ht⟩⟩
end Go.Proofs.YtpglhdnepmcahaaGreatDoor

/- Ng2 -/
namespace Go.Proofs.YtpglhdnepmcahaaGreatDoor
open Go.RowKit Go.Shelf Go.Sort

set_option maxRecDepth 8000 in
set_option maxHeartbeats 3200000 in
theorem insert_end (w : World) (base b : Nat) (v : Value) (l : List MkX) (x : MkX) (hv : OwnE w base v l) (hl : l.length ≤ 1000) (hbw : base ≤ w.heap.size) (hb : w.heap[b]? = some (.cells (entC x).toArray 117 (0, 0))) (h1 : x.2.1.oneCell' = true) (h2 : x.2.2.oneCell' = true) :
    Calls Tryz.prog 73 #[v, .int .i64 (l.length : Int), .slice (some ⟨b, 0, none⟩) 1 1] w fun e w' => ∃ v', e = .returned v' ∧ OwnE w' base v' (l ++ [x]) ∧ Fr w w' v v' := by
  obtain ⟨i0, hi, hz0, hz1, hz2⟩ := info_parts infoEn
  obtain ⟨v', w', hrun, k2, k3⟩ := run_appH w 70 70 117 i0 _ 7 120 base Tryz.underlying70 hi hz0 hz1 hz2 rfl (by decide) v l.length (entF l) hv (some ⟨b, 0, none⟩) 1 1 (entC x) rfl
    (fun j u hj => by
      refine ⟨_, rfl, ?_⟩
      rw [Go.WideShapes.add_plain]
      simp only [World.cell?, hb]
      simpa using hj) (fun e => by cases e)
    (fun u hu => by
      unfold entC at hu
      simp only [List.mem_cons, List.not_mem_nil, or_false] at hu
      rcases hu with rfl | rfl | rfl | rfl | rfl | rfl | rfl <;> first | rfl | exact h1 | exact h2) (by omega) (by omega) hbw
  have HO : Hid (OwnE w' base v' (l ++ [x]) ∧ Fr w w' v v') := by
    refine ⟨?_, k3⟩
    unfold OwnE
    rw [entF_append, List.length_append]
    have e : entF [x] = entC x := by simp [entF]
    rw [e]
    exact k2
  obtain ⟨a2, n2, c2, rfl⟩ : ∃ a n c, v' = .slice a n c := by
    obtain ⟨a, c, e⟩ := HO.out.1.shape
    exact ⟨a, _, c, e⟩
  have hsh : ∃ a c, v = .slice a l.length c ∧ l.length ≤ c := by
    rcases hv.2 with ⟨rfl, hn⟩ | ⟨g, cap, cur, rfl, hg, hh, hnc, -⟩
    · exact ⟨none, 0, by rw [hn], by omega⟩
    · exact ⟨_, _, rfl, hnc⟩
  obtain ⟨a, c, rfl, hc⟩ := hsh
  have HRun := hidJ hrun
  clear k2 k3 hrun hz0 hz1 hz2 hi hb h1 h2 hv
  generalize l.length = n at *
  have ht' : Tryz.prog.underlying 70 = some (.slice (Tryz.prog.elem 70)) := by simp [Program.elem, Tryz.underlying70]
  have hsl : ∀ W, ∃ u, (Instr.slice 70 (.slice a n c) (some (.int .i64 (n : Int))) none none).run Tryz.prog W = .ok u W := fun W => by
    rw [run_slice_l W _ _ _ _ ht' .i64 _ (by omega) (by omega)]
    exact ⟨_, rfl⟩
  obtain ⟨u, hu⟩ := hsl w
  clear hsl ht'
  go_enter Tryz.func73, Tryz.ntmps73
  go_wp2_with (at_builtin; refine wp_appRun rfl _ _ 70 rfl _ _ _ rfl rfl HRun.out ?_)
  go_wp2
  go_ret
  exact ⟨_, rfl, HO.out⟩
end Go.Proofs.YtpglhdnepmcahaaGreatDoor

/- Ng3 -/
namespace Go.Proofs.YtpglhdnepmcahaaGreatDoor
open Go.RowKit Go.Shelf Go.Sort

theorem wp_copyRun {w w' : World} {ops : Array Oper} {rest : List Oper} {o : Oper} {a : Act} {Q : Exit → Act → World → Prop} (hgd : o.guard = none) (s x : Operand) (T : TypeId)
    (ho : o.op = .call { callee := .builtin .copy, args := #[s, x], argTypes := #[T, T] }) (vs vx v' : Value) (hs : a.eval s = vs) (hx : a.eval x = vx)
    (hr : (Builtin.copy_ #[T, T] o.type #[vs, vx]).run Tryz.prog w = .ok v' w') (h : wpList Tryz.prog ops Q rest (a.put o.dst v') w') : wpList Tryz.prog ops Q (o :: rest) a w := by
  refine wpList_plain hgd fun K hK => ?_
  unfold Oper.wp execOp
  simp only [ho, resolve, invoke, builtin, Sem.run_bind, Sem.run_pure, Result.andThen_ok, List.map_toArray, List.map_cons, List.map_nil, hs, hx, hr]
  exact hK _ _ h
theorem step_copyRun {w w' : World} {ops : Array Oper} {o : Oper} {a : Act} {K : Act → World → Prop} {Q : Exit → Act → World → Prop} {E : Prop} (hgd : o.guard = none) (s x : Operand) (T : TypeId)
    (ho : o.op = .call { callee := .builtin .copy, args := #[s, x], argTypes := #[T, T] }) (vs vx v' : Value) (hs : a.eval s = vs) (hx : a.eval x = vx)
    (hr : (Builtin.copy_ #[T, T] o.type #[vs, vx]).run Tryz.prog w = .ok v' w') (h : K (a.put o.dst v') w') :
    if Region.wanted o (yielded ops a.tmps) = true then Oper.wp Tryz.prog o a w K Q else E := by
  have hw : Region.wanted o (yielded ops a.tmps) = true := by simp [Region.wanted, hgd]
  rw [if_pos hw]
  unfold Oper.wp execOp
  simp only [ho, resolve, invoke, builtin, Sem.run_bind, Sem.run_pure, Result.andThen_ok, List.map_toArray, List.map_cons, List.map_nil, hs, hx, hr]
  exact h
/-- a cut of a row of entries -/
theorem run_tailE (W : World) (g n c i : Nat) (hi : i ≤ n) (hic : ¬ c = i) : (Instr.slice 70 (.slice (some ⟨g, 0, none⟩) n c) (some (.int .i64 (i : Int))) none none).run Tryz.prog W = .ok (.slice (some ⟨g, i * 7, none⟩) (n - i) (c - i)) W := by
  have ht' : Tryz.prog.underlying 70 = some (.slice (Tryz.prog.elem 70)) := by simp [Program.elem, Tryz.underlying70]
  have he : Tryz.prog.elem 70 = 117 := by simp [Program.elem, Tryz.underlying70]
  rw [run_slice_l W _ _ _ _ ht' .i64 _ (by omega) (by omega), he, Tryz.sizeOf117]
  simp [Result.andThen, sliced, Addr.add, hic]
  intro h; omega
theorem run_headE (W : World) (g n c p : Nat) (hp : p ≤ c) : (Instr.slice 70 (.slice (some ⟨g, 0, none⟩) n c) none (some (.int .i64 (p : Int))) none).run Tryz.prog W = .ok (.slice (some ⟨g, 0, none⟩) p c) W := by
  have ht' : Tryz.prog.underlying 70 = some (.slice (Tryz.prog.elem 70)) := by simp [Program.elem, Tryz.underlying70]
  have he : Tryz.prog.elem 70 = 117 := by simp [Program.elem, Tryz.underlying70]
  rw [run_slice_h W _ _ _ _ ht' .i64 _ (by omega) (by omega), he, Tryz.sizeOf117]
  simp [Result.andThen, sliced, Addr.add]
theorem entC_one {x : MkX} (h1 : x.2.1.oneCell' = true) (h2 : x.2.2.oneCell' = true) : ∀ u ∈ entC x, u.oneCell' = true := by
  intro u hu
  unfold entC at hu
  simp only [List.mem_cons, List.not_mem_nil, or_false] at hu
  rcases hu with rfl | rfl | rfl | rfl | rfl | rfl | rfl <;> first | rfl | exact h1 | exact h2
set_option maxRecDepth 8000 in
set_option maxHeartbeats 6400000 in
theorem insert_shift (w : World) (base b g c i : Nat) (l : List MkX) (x : MkX) (hv : OwnE w base (.slice (some ⟨g, 0, none⟩) l.length c) l) (hi : i < l.length) (hroom : l.length + 1 ≤ c) (hone : ∀ u ∈ entF l, u.oneCell' = true) (hbg : b ≠ g) (hb : w.heap[b]? = some (.cells (entC x).toArray 117 (0, 0))) (h1 : x.2.1.oneCell' = true) (h2 : x.2.2.oneCell' = true) :
    Calls Tryz.prog 73 #[.slice (some ⟨g, 0, none⟩) l.length c, .int .i64 (i : Int), .slice (some ⟨b, 0, none⟩) 1 1] w fun e w' => ∃ v', e = .returned v' ∧ OwnE w' base v' (l.take i ++ [x] ++ l.drop i) ∧ w.grownBy w' (some g) ∧ v'.ownBlock = some g := by
  have hv0 := hv
  rcases hv.2 with ⟨h', _⟩ | ⟨g', c', cur, h', hgb, hh, hnc, hcm, hcs, htake⟩
  · simp at h'
  · simp only [Value.slice.injEq, Option.some.injEq, Addr.mk.injEq, and_true, true_and] at h'
    obtain ⟨rfl, rfl⟩ := h'
    have hcm' : c ≤ 9223372036854775807 := by unfold maxLen at hcm; exact hcm
    obtain ⟨n, hn⟩ : ∃ n, l.length = n := ⟨_, rfl⟩
    obtain ⟨n1, hn1⟩ : ∃ n1, n + 1 = n1 := ⟨_, rfl⟩
    obtain ⟨i1, hi1⟩ : ∃ i1, i + 1 = i1 := ⟨_, rfl⟩
    rw [hn] at hi hroom hnc htake
    have hsz : (Tryz.prog.info? 117).map (·.size) = some 7 := by
      obtain ⟨i0, q1, q2, q3, q4⟩ := info_parts infoEn
      rw [q1]
      simp [q3]
    have hdl : (entF (l.drop i)).length = (n - i) * 7 := by rw [entF_len, List.length_drop, hn]
    have hxl : (entC x).length = 7 := rfl
    have hcl : cur.toList.length = c * 7 := by rw [Array.length_toList]; exact hcs
    -- the two copies
    obtain ⟨cur1, hcur1⟩ : ∃ cur1, cur1 = cur.toList.take (i1 * 7) ++ entF (l.drop i) ++ cur.toList.drop (i1 * 7 + (entF (l.drop i)).length) := ⟨_, rfl⟩
    have hcp1 : ∀ ty, (Builtin.copy_ #[70, 70] ty #[.slice (some ⟨g, i1 * 7, none⟩) (n1 - i1) (c - i1), .slice (some ⟨g, i * 7, none⟩) (n1 - i) (c - i)]).run Tryz.prog w.drew = .ok (goInt (Nat.min (n1 - i) (n1 - i1) : Nat)) (w.drew.setRow g cur1.toArray) := fun ty => by
      have hmin : Nat.min (n1 - i) (n1 - i1) = n - i := by simp only [Nat.min_def]; split <;> omega
      rw [hcur1]
      refine run_copyE w.drew _ _ ty _ 7 g (i1 * 7) (n1 - i1) (c - i1) ⟨g, i * 7, none⟩ (n1 - i) (c - i) cur _ (entF (l.drop i)) Tryz.underlying70 hsz hh (by rw [hmin]; exact hdl) (fun j v hj => ?_) (by omega) (fun u hu => hone u (by rw [← entF_drop] at hu; exact List.mem_of_mem_drop hu))
      rw [Go.WideShapes.add_plain]
      rw [← entF_drop, List.getElem?_drop] at hj
      have := World.ownsRow.cellAt hv0 (i * 7 + j) (by have := (List.getElem?_eq_some_iff.1 hj).1; rw [entF_len] at this; exact this)
      exact (show w.drew.cell? ⟨g, i * 7 + j, none⟩ = w.cell? ⟨g, i * 7 + j, none⟩ from rfl).trans (this.trans hj)
    have hh1 : (w.drew.setRow g cur1.toArray).heap[g]? = some (.cells cur1.toArray 117 (0, 0)) := setRow_heap w.drew g cur _ _ _ hh
    have hl1 : cur1.length = c * 7 := by
      rw [hcur1, List.length_append, List.length_append, List.length_take, List.length_drop, hdl, hcl]
      omega
    obtain ⟨cur2, hcur2⟩ : ∃ cur2, cur2 = cur1.take (i * 7) ++ entC x ++ cur1.drop (i * 7 + (entC x).length) := ⟨_, rfl⟩
    have hcp2 : ∀ ty, (Builtin.copy_ #[70, 70] ty #[.slice (some ⟨g, i * 7, none⟩) (n1 - i) (c - i), .slice (some ⟨b, 0, none⟩) 1 1]).run Tryz.prog (w.drew.setRow g cur1.toArray) = .ok (goInt (Nat.min 1 (n1 - i) : Nat)) ((w.drew.setRow g cur1.toArray).setRow g cur2.toArray) := fun ty => by
      have hmin : Nat.min 1 (n1 - i) = 1 := by simp only [Nat.min_def]; split <;> omega
      rw [hcur2]
      refine run_copyE (w.drew.setRow g cur1.toArray) _ _ ty _ 7 g (i * 7) (n1 - i) (c - i) ⟨b, 0, none⟩ 1 1 cur1.toArray _ (entC x) Tryz.underlying70 hsz hh1 (by rw [hmin]; rfl) (fun j v hj => ?_) (by rw [List.size_toArray, hl1, hxl]; omega) (entC_one h1 h2)
      rw [Go.WideShapes.add_plain]
      have hb1 : (w.drew.setRow g cur1.toArray).heap[b]? = some (.cells (entC x).toArray 117 (0, 0)) := (setRow_other w.drew g b _ hbg).trans hb
      simp only [World.cell?, hb1]
      simpa using hj
    have HF : Hid (OwnE ((w.drew.setRow g cur1.toArray).setRow g cur2.toArray) base (.slice (some ⟨g, 0, none⟩) n1 c) (l.take i ++ [x] ++ l.drop i) ∧ w.grownBy ((w.drew.setRow g cur1.toArray).setRow g cur2.toArray) (some g)) := by
      refine ⟨OwnE.of (setRow_heap _ g _ _ _ _ hh1) hgb (by simp; omega) (by omega) hcm ?_ ?_, ?_⟩
      · rw [List.size_toArray, hcur2, List.length_append, List.length_append, List.length_take, List.length_drop, hl1, hxl]
        omega
      · have hs3 := splice3 cur.toList (entC x) (entF (l.drop i)) (i * 7) (by rw [hcl, hxl, hdl]; omega)
        rw [hxl, show i * 7 + 7 = i1 * 7 by omega] at hs3
        rw [hcur2, hcur1, hxl, show i * 7 + 7 = i1 * 7 by omega]
        rw [show n1 * 7 = i1 * 7 + (entF (l.drop i)).length by rw [hdl]; omega]
        rw [hs3]
        have ht2 : cur.toList.take (i * 7) = entF (l.take i) := by
          rw [← entF_take, ← htake, List.take_take, Nat.min_eq_left (by omega)]
        rw [ht2, entF_append, entF_append]
        simp [entF]
      · refine ⟨rfl, rfl, ?_, ?_, fun j hj hne => ?_⟩
        · first | rfl | simp [World.setRow]
        · simp [World.setRow]
        · rw [setRow_other _ g j _ (fun e => hne (by rw [e])), setRow_other _ g j _ (fun e => hne (by rw [e]))]
          rfl
    have hov : ∀ lb cb, (callFunc 107 #[.slice (some ⟨b, 0, none⟩) 1 1, .slice (some ⟨g, i1 * 7, none⟩) lb cb]).run Tryz.prog w = .ok (.value (.bool false)) w := fun lb cb => by
      rw [run_callFunc_extern Tryz.func107 (by kernel_rfl) (by kernel_rfl) (by kernel_rfl) (e := Extern.SlicesOverlaps.overlaps #[70, 70] #[4]) (by kernel_rfl),
        Lib.run_overlaps_apart w 70 4 117 Tryz.underlying70 7 Tryz.sizeOf117 ⟨b, 0, none⟩ ⟨g, i1 * 7, none⟩ 1 1 lb cb hbg 117 117 7 (c * 7) (by simp only [World.shape?, hb]; rfl) (by simp only [World.shape?, hh, hcs]) (by omega) (by simp [World.frozen?, hb]) (by simp [World.frozen?, hb])]
      rfl
    have hs0 : ∀ W, (Instr.slice 70 (.slice (some ⟨g, 0, none⟩) n c) (some (.int .i64 (i : Int))) none none).run Tryz.prog W = .ok (.slice (some ⟨g, i * 7, none⟩) (n - i) (c - i)) W := fun W => run_tailE W g n c i (by omega) (by omega)
    have hs1 : ∀ W, (Instr.slice 70 (.slice (some ⟨g, 0, none⟩) n c) none (some (.int .i64 (n1 : Int))) none).run Tryz.prog W = .ok (.slice (some ⟨g, 0, none⟩) n1 c) W := fun W => run_headE W g n c n1 (by omega)
    have hs2 : ∀ W, (Instr.slice 70 (.slice (some ⟨g, 0, none⟩) n1 c) (some (.int .i64 (i1 : Int))) none none).run Tryz.prog W = .ok (.slice (some ⟨g, i1 * 7, none⟩) (n1 - i1) (c - i1)) W := fun W => run_tailE W g n1 c i1 (by omega) (by omega)
    have hs3 : ∀ W, (Instr.slice 70 (.slice (some ⟨g, 0, none⟩) n1 c) (some (.int .i64 (i : Int))) none none).run Tryz.prog W = .ok (.slice (some ⟨g, i * 7, none⟩) (n1 - i) (c - i)) W := fun W => run_tailE W g n1 c i (by omega) (by omega)
    have hwn : IntKind.i64.wrap ((n : Int) + 1) = (n1 : Int) := by rw [IntKind.wrap_i64]; omega
    have hwi : IntKind.i64.wrap ((i : Int) + 1) = (i1 : Int) := by rw [IntKind.wrap_i64]; omega
    have hin : ¬ (i : Int) = (n : Int) := by omega
    have hcap : ¬ (c : Int) < (n1 : Int) := by omega
    rw [hn]
    have HC1 := hidJ hcp1
    have HC2 := hidJ hcp2
    obtain ⟨W1, hW1⟩ : ∃ W1, W1 = w.drew.setRow g cur1.toArray := ⟨_, rfl⟩
    obtain ⟨W2, hW2⟩ : ∃ W2, W2 = (w.drew.setRow g cur1.toArray).setRow g cur2.toArray := ⟨_, rfl⟩
    rw [← hW2, ← hW1] at HC2
    rw [← hW1] at HC1
    rw [← hW2] at HF
    clear hv hv0 hh htake hgb hcs hcl hdl hxl hcur1 hcur2 hcp1 hcp2 hh1 hl1 hW1 hW2 hone hb h1 h2 hsz hn hbg hcm
    go_enter Tryz.func73, Tryz.ntmps73
    go_wp2_with (simp only [hov])
    go_region_law (refine step_copyRun rfl _ _ 70 rfl _ _ _ (by simp [Act.eval, Act.put]) (by simp [Act.eval, Act.put]) (HC1.out _) ?_)
    have hc2 := HC2.out
    go_wp2
    go_ret
    exact ⟨_, rfl, HF.out.1, HF.out.2, rfl⟩
end Go.Proofs.YtpglhdnepmcahaaGreatDoor

/- Ng4 -/
namespace Go.Proofs.YtpglhdnepmcahaaGreatDoor
open Go.RowKit Go.Shelf Go.Sort

theorem zeroE_size (n : Nat) : (Builtin.zeroCells (Value.cells (.agg #[.string ⟨#[]⟩, .string ⟨#[]⟩, .string ⟨#[]⟩, .string ⟨#[]⟩, .int .i64 0, .slice none 0 0, .slice none 0 0])) n).size = n * 7 := by
  simp [Builtin.zeroCells, Value.cells]
set_option maxRecDepth 8000 in
set_option maxHeartbeats 6400000 in
theorem insert_grow (w : World) (base b g c i : Nat) (l : List MkX) (x : MkX) (hv : OwnE w base (.slice (some ⟨g, 0, none⟩) l.length c) l) (hbw : base ≤ w.heap.size) (hi : i < l.length) (hl5 : l.length ≤ 1000) (hroom : c < l.length + 1) (hone : ∀ u ∈ entF l, u.oneCell' = true) (hb : w.heap[b]? = some (.cells (entC x).toArray 117 (0, 0))) (h1 : x.2.1.oneCell' = true) (h2 : x.2.2.oneCell' = true) :
    Calls Tryz.prog 73 #[.slice (some ⟨g, 0, none⟩) l.length c, .int .i64 (i : Int), .slice (some ⟨b, 0, none⟩) 1 1] w fun e w' => ∃ v', e = .returned v' ∧ OwnE w' base v' (l.take i ++ [x] ++ l.drop i) ∧ w.grownBy w' none ∧ v'.ownBlock = some w.heap.size := by
  have hv0 := hv
  rcases hv.2 with ⟨h', _⟩ | ⟨g', c', cur, h', hgb, hh, hnc, hcm, hcs, htake⟩
  · simp at h'
  · simp only [Value.slice.injEq, Option.some.injEq, Addr.mk.injEq, and_true, true_and] at h'
    obtain ⟨rfl, rfl⟩ := h'
    have hbl := some_lt hb
    have hgl := some_lt hh
    obtain ⟨n, hn⟩ : ∃ n, l.length = n := ⟨_, rfl⟩
    obtain ⟨n1, hn1⟩ : ∃ n1, n + 1 = n1 := ⟨_, rfl⟩
    obtain ⟨i1, hi1⟩ : ∃ i1, i + 1 = i1 := ⟨_, rfl⟩
    obtain ⟨k, hk⟩ : ∃ k, n1 - i = k := ⟨_, rfl⟩
    rw [hn] at hi hroom hnc hl5
    obtain ⟨i0, q1, q2, q3, q4⟩ := info_parts infoEn
    have hsz : (Tryz.prog.info? 117).map (·.size) = some 7 := by
      rw [q1]
      simp [q3]
    have hdl : (entF (l.drop i)).length = (n - i) * 7 := by rw [entF_len, List.length_drop, hn]
    have htl : (entF (l.take i)).length = i * 7 := by rw [entF_len, List.length_take, hn, Nat.min_eq_left (by omega)]
    have hxl : (entC x).length = 7 := rfl
    have hcell : ∀ j v, (entF l)[j]? = some v → w.cell? ⟨g, j, none⟩ = some v := fun j v hj => by
      have := World.ownsRow.cellAt hv0 j (by have := (List.getElem?_eq_some_iff.1 hj).1; rw [entF_len] at this; exact this)
      exact this.trans hj
    -- the new row
    obtain ⟨C, hC⟩ : ∃ C, C = grownCap w n1 c 117 := ⟨_, rfl⟩
    have hCn : n1 ≤ C := by rw [hC]; exact grownCap_ge _ _ _ _
    have hCm : C ≤ maxLen := by rw [hC]; exact grownCap_le_maxLen _ _ _ _ (by unfold maxLen; omega)
    have hCm2 : C ≤ 9223372036854775807 := by unfold maxLen at hCm; exact hCm
    obtain ⟨cA, hcA⟩ : ∃ cA : Array Value, cA = (entF (l.take i)).toArray ++ Builtin.zeroCells (Value.cells (.agg #[.string ⟨#[]⟩, .string ⟨#[]⟩, .string ⟨#[]⟩, .string ⟨#[]⟩, .int .i64 0, .slice none 0 0, .slice none 0 0])) k ++ Builtin.zeroCells (Value.cells (.agg #[.string ⟨#[]⟩, .string ⟨#[]⟩, .string ⟨#[]⟩, .string ⟨#[]⟩, .int .i64 0, .slice none 0 0, .slice none 0 0])) (C - n1) := ⟨_, rfl⟩
    have hik : i + k = n1 := by omega
    have hgr := run_growZ (P := Tryz.prog) w 70 3 70 117 i0 (.agg #[.string ⟨#[]⟩, .string ⟨#[]⟩, .string ⟨#[]⟩, .string ⟨#[]⟩, .int .i64 0, .slice none 0 0, .slice none 0 0]) .i64 .i64 Tryz.underlying70 Tryz.underlying3 q1 q2 ⟨g, 0, none⟩ i c (entF (l.take i)) (by rw [q3]; exact htl) (fun j v hj => by
        rw [Go.WideShapes.add_plain, Nat.zero_add]
        refine hcell j v ?_
        rw [← entF_take, List.getElem?_take] at hj
        split at hj
        · exact hj
        · cases hj) k (by omega) (by omega) (by omega) (by omega) (by rw [q4]; omega) (by rw [q4]; exact growslice_fits_wide (by omega) (by omega))
    rw [hik, ← hC, ← hcA] at hgr
    have hsA : cA.size = C * 7 := by
      rw [hcA, Array.size_append, Array.size_append, List.size_toArray, zeroE_size, zeroE_size, htl]
      omega
    have hlA : cA.toList.length = C * 7 := by rw [Array.length_toList]; exact hsA
    obtain ⟨WA, hWA⟩ : ∃ WA, WA = w.drew.alloc (.cells cA 117) := ⟨_, rfl⟩
    rw [← hWA] at hgr
    have gA : w.grownBy WA none := by rw [hWA]; exact gb_none (gb_drew w none) (World.grownBy_alloc w.drew _ none)
    have hhA : WA.heap[w.heap.size]? = some (.cells cA 117 (0, 0)) := by rw [hWA]; exact Go.heap_alloc_new w.drew _
    -- the entry
    obtain ⟨cur1, hcur1⟩ : ∃ cur1, cur1 = cA.toList.take (i * 7) ++ entC x ++ cA.toList.drop (i * 7 + (entC x).length) := ⟨_, rfl⟩
    have hcp1 : ∀ ty, (Builtin.copy_ #[70, 70] ty #[.slice (some ⟨w.heap.size, i * 7, none⟩) (n1 - i) (C - i), .slice (some ⟨b, 0, none⟩) 1 1]).run Tryz.prog WA = .ok (goInt (Nat.min 1 (n1 - i) : Nat)) (WA.setRow w.heap.size cur1.toArray) := fun ty => by
      have hmin : Nat.min 1 (n1 - i) = 1 := by simp only [Nat.min_def]; split <;> omega
      rw [hcur1]
      refine run_copyE WA _ _ ty _ 7 w.heap.size (i * 7) (n1 - i) (C - i) ⟨b, 0, none⟩ 1 1 cA _ (entC x) Tryz.underlying70 hsz hhA (by rw [hmin]; rfl) (fun j v hj => ?_) (by rw [hsA, hxl]; omega) (entC_one h1 h2)
      rw [Go.WideShapes.add_plain]
      have hb1 := (gA.block b hbl (by simp)).trans hb
      simp only [World.cell?, hb1]
      simpa using hj
    obtain ⟨WB, hWB⟩ : ∃ WB, WB = WA.setRow w.heap.size cur1.toArray := ⟨_, rfl⟩
    have hhB : WB.heap[w.heap.size]? = some (.cells cur1.toArray 117 (0, 0)) := by rw [hWB]; exact setRow_heap WA w.heap.size cA _ _ _ hhA
    have hl1 : cur1.length = C * 7 := by
      rw [hcur1, List.length_append, List.length_append, List.length_take, List.length_drop, hlA, hxl]
      omega
    have hgB : WB.heap[g]? = w.heap[g]? := by rw [hWB, setRow_other _ _ g _ (by omega)]; exact gA.block g hgl (by simp)
    -- those behind it
    obtain ⟨cur2, hcur2⟩ : ∃ cur2, cur2 = cur1.take (i1 * 7) ++ entF (l.drop i) ++ cur1.drop (i1 * 7 + (entF (l.drop i)).length) := ⟨_, rfl⟩
    have hcp2 : ∀ ty, (Builtin.copy_ #[70, 70] ty #[.slice (some ⟨w.heap.size, i1 * 7, none⟩) (n1 - i1) (C - i1), .slice (some ⟨g, i * 7, none⟩) (n - i) (c - i)]).run Tryz.prog WB.drew = .ok (goInt (Nat.min (n - i) (n1 - i1) : Nat)) (WB.drew.setRow w.heap.size cur2.toArray) := fun ty => by
      have hmin : Nat.min (n - i) (n1 - i1) = n - i := by simp only [Nat.min_def]; split <;> omega
      rw [hcur2]
      refine run_copyE WB.drew _ _ ty _ 7 w.heap.size (i1 * 7) (n1 - i1) (C - i1) ⟨g, i * 7, none⟩ (n - i) (c - i) cur1.toArray _ (entF (l.drop i)) Tryz.underlying70 hsz hhB (by rw [hmin]; exact hdl) (fun j v hj => ?_) (by rw [List.size_toArray, hl1, hdl]; omega) (fun u hu => hone u (by rw [← entF_drop] at hu; exact List.mem_of_mem_drop hu))
      rw [Go.WideShapes.add_plain]
      rw [← entF_drop, List.getElem?_drop] at hj
      have h3 := hcell _ _ hj
      exact (show WB.drew.cell? ⟨g, i * 7 + j, none⟩ = w.cell? ⟨g, i * 7 + j, none⟩ from World.cell?_of_block hgB).trans h3
    obtain ⟨WC, hWC⟩ : ∃ WC, WC = WB.drew.setRow w.heap.size cur2.toArray := ⟨_, rfl⟩
    have HF : Hid (OwnE WC base (.slice (some ⟨w.heap.size, 0, none⟩) n1 C) (l.take i ++ [x] ++ l.drop i) ∧ w.grownBy WC none) := by
      refine ⟨OwnE.of (cur := cur2.toArray) (by rw [hWC]; exact setRow_heap WB.drew w.heap.size _ _ _ _ hhB) hbw (by simp; omega) hCn hCm ?_ ?_, ?_⟩
      · rw [List.size_toArray, hcur2, List.length_append, List.length_append, List.length_take, List.length_drop, hl1, hdl]
        omega
      · have hs2 := splice2 cA.toList (entC x) (entF (l.drop i)) (i * 7) (by rw [hlA, hxl, hdl]; omega)
        rw [hxl, show i * 7 + 7 = i1 * 7 by omega] at hs2
        rw [hcur2, hcur1, hxl, show i * 7 + 7 = i1 * 7 by omega]
        rw [show n1 * 7 = i1 * 7 + (entF (l.drop i)).length by rw [hdl]; omega]
        rw [hs2]
        have ht2 : cA.toList.take (i * 7) = entF (l.take i) := by
          rw [hcA]
          simp only [Array.toList_append]
          rw [List.append_assoc, List.take_append_of_le_length (by simp [htl]), List.take_of_length_le (by simp [htl])]
        rw [ht2, entF_append, entF_append]
        simp [entF]
      · have e1 : WB = WA.setRow w.heap.size cur1.toArray := hWB
        have gB : w.grownBy WB none := gb_new gA (g' := some w.heap.size) (by rw [e1]; exact ⟨rfl, rfl, by first | rfl | simp [World.setRow], by simp [World.setRow], fun j hj hne => setRow_other _ _ j _ (fun e => hne (by rw [e]))⟩) (fun j hj => by cases hj; exact Nat.le_refl _)
        exact gb_new (gb_none gB (gb_drew WB none)) (g' := some w.heap.size) (by rw [hWC]; exact ⟨rfl, rfl, by first | rfl | simp [World.setRow], by simp [World.setRow], fun j hj hne => setRow_other _ _ j _ (fun e => hne (by rw [e]))⟩) (fun j hj => by cases hj; exact Nat.le_refl _)
    rw [← hWB] at hcp1
    rw [← hWC] at hcp2
    have hs0 : ∀ W, (Instr.slice 70 (.slice (some ⟨g, 0, none⟩) n c) (some (.int .i64 (i : Int))) none none).run Tryz.prog W = .ok (.slice (some ⟨g, i * 7, none⟩) (n - i) (c - i)) W := fun W => run_tailE W g n c i (by omega) (by omega)
    have hs1 : ∀ W, (Instr.slice 70 (.slice (some ⟨g, 0, none⟩) n c) none (some (.int .i64 (i : Int))) none).run Tryz.prog W = .ok (.slice (some ⟨g, 0, none⟩) i c) W := fun W => run_headE W g n c i (by omega)
    have hs2 : ∀ W, (Instr.slice 70 (.slice (some ⟨w.heap.size, 0, none⟩) n1 C) (some (.int .i64 (i1 : Int))) none none).run Tryz.prog W = .ok (.slice (some ⟨w.heap.size, i1 * 7, none⟩) (n1 - i1) (C - i1)) W := fun W => run_tailE W w.heap.size n1 C i1 (by omega) (by omega)
    have hs3 : ∀ W, (Instr.slice 70 (.slice (some ⟨w.heap.size, 0, none⟩) n1 C) (some (.int .i64 (i : Int))) none none).run Tryz.prog W = .ok (.slice (some ⟨w.heap.size, i * 7, none⟩) (n1 - i) (C - i)) W := fun W => run_tailE W w.heap.size n1 C i (by omega) (by omega)
    have hwn : IntKind.i64.wrap ((n : Int) + 1) = (n1 : Int) := by rw [IntKind.wrap_i64]; omega
    have hwi : IntKind.i64.wrap ((i : Int) + 1) = (i1 : Int) := by rw [IntKind.wrap_i64]; omega
    have hwk : IntKind.i64.wrap ((n1 : Int) - (i : Int)) = (k : Int) := by rw [IntKind.wrap_i64]; omega
    have hin : ¬ (i : Int) = (n : Int) := by omega
    have hcap : (c : Int) < (n1 : Int) := by omega
    rw [hn]
    rw [hk] at hcp1
    simp only [hk] at hs3
    have HC2 := hidJ hcp2
    have HGr := hidJ hgr
    clear hv hv0 hh htake hgb hcs hdl htl hxl hcur1 hcur2 hcp2 hhA hhB hl1 hlA hsA hcA hWA hWB hWC gA hgB hcell hone hb h1 h2 hsz hn hcm q1 q2 q3 q4 hgr hC hCm hbl hgl hik hbw
    generalize w.heap.size = G at *
    go_enter Tryz.func73, Tryz.ntmps73
    go_wp2_with (at_builtin; refine Lib.wpList_append_run _ rfl _ _ _ _ rfl _ _ rfl rfl _ _ HGr.out ?_)
    go_wp2
    go_region_law (refine step_copyRun rfl _ _ 70 rfl _ _ _ (by simp [Act.eval, Act.put]) (by simp [Act.eval, Act.put]) (HC2.out _) ?_)
    go_wp2
    go_ret
    exact ⟨_, rfl, HF.out.1, HF.out.2, rfl⟩
end Go.Proofs.YtpglhdnepmcahaaGreatDoor
