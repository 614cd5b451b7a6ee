/-
  U8Put2, LbBy, in one text.
-/
import Derived.Test.YtbnieljkadcaoaaGreatDoorVmC
import Derived.Test.YtbnieljkadcaoaaGreatDoorVmB
import Derived.Lib.ConvBytes
import Derived.Test.YtbnieljkadcaoaaGreatDoorLbP2
import Derived.Test.YtbnieljkadcaoaaGreatDoorLbLent
import Derived.Deep.RegionHeld3
/- U8Put2 -/
namespace Go.Proofs.YtbnieljkadcaoaaGreatDoor
open Go.RowKit Go.Lib

/-- '[]byte(s)' -/
theorem conv_str (W : World) (s : List UInt8) (hs : s.length ≤ 175921840000000) : ∃ u W', (convert 9 41 (.string (ByteArray.mk ⟨s⟩))).run Tryz.prog W = .ok u W' ∧ Rd W' u s ∧ W.grownBy W' none := by
  refine ⟨_, _, Go.Lib.run_convert_string_bytes (P := Tryz.prog) W 9 41 5 _ Tryz.underlying9 Tryz.underlying41 Tryz.underlying5, ?_, ?_⟩
  · have hsz : (ByteArray.mk ⟨s⟩).size = s.length := rfl
    rw [hsz]
    refine ⟨_, _, rfl, grownCap_ge W s.length 0 _, grownCap_le_maxLen W s.length 0 _ (by unfold maxLen; omega), fun j hj => ⟨W.heap.size, 0, rfl, ?_⟩, fun h => by cases h⟩
    rw [Nat.zero_add]
    exact Go.Lib.bytesWorld_cell W 5 (ByteArray.mk ⟨s⟩) j hj
  · exact ⟨rfl, rfl, rfl, by rw [Go.Lib.bytesWorld_size]; omega, fun k hk _ => Go.Lib.bytesWorld_at_old W _ _ k hk⟩
set_option maxHeartbeats 3200000 in
/-- PUTTEXT, the document's -/
theorem refPutText_any (v : Value) (l s : List UInt8) (w : World) (hv : Rd w v l) (hsz : l.length + s.length ≤ 175921840000000) :
    Calls Tryz.prog 38 #[v, .string (ByteArray.mk ⟨s⟩)] w fun e w' => ∃ v', e = .returned v' ∧ Own w' w.heap.size v' (l ++ uv s.length ++ s) ∧ w.grownBy w' none := by
  have HV : Hid (Rd w v l) := hv
  clear hv
  have hz : (ByteArray.mk ⟨s⟩).size = s.length := rfl
  obtain ⟨SL, hSL⟩ : ∃ SL, s.length = SL := ⟨_, rfl⟩
  have HSL : Hid (s.length = SL) := hSL
  have hI : (SL : Int) = I64 (BitVec.ofNat 64 SL) := by rw [I64_of (by omega)]
  have hN : (BitVec.ofNat 64 SL).toNat = SL := by simp; omega
  have H2 : Hid (∀ W, w.grownBy W none → Calls Tryz.prog 40 #[v, .int .u64 (SL : Int)] W fun e w' => ∃ v', e = .returned v' ∧ Hid (Own w' W.heap.size v' (l ++ uv SL) ∧ W.grownBy w' none)) := fun W hg => by
    rw [hI]
    refine (refPutU_any v l (BitVec.ofNat 64 SL) W (HV.out.keep hg) (by omega)).mono ?_
    rintro e w' ⟨v', he, ho, hf⟩
    rw [hN] at ho
    exact ⟨v', he, ho, hf⟩
  clear hI hN
  rw [hSL] at hz hsz ⊢
  clear hSL
  go_enter Tryz.func38, Tryz.ntmps38
  go_wp2_with fail
  refine (H2.out _ (gb_refl _ _)).mono ?_
  rintro e w1 ⟨v1, rfl, R1⟩
  obtain ⟨u2, w2, hcv, hu2, hg2⟩ := conv_str w1 s (by have := HSL.out; omega)
  have R2 : Hid (Rd w2 u2 s ∧ w1.grownBy w2 none) := ⟨hu2, hg2⟩
  clear hu2 hg2
  have HJ : Hid (Calls Tryz.prog 75 #[v1, u2] w2 fun e w' => ∃ v', e = .returned v' ∧ Own w' w2.heap.size v' (l ++ uv SL ++ s) ∧ w2.grownBy w' none) := by
    refine joined_any v1 u2 (l ++ uv SL) s w2 (R1.out.1.rd.keep R2.out.2) R2.out.1 ?_
    have hul := uv_len64 (BitVec.ofNat 64 SL)
    have e : (BitVec.ofNat 64 SL).toNat = SL := by simp; omega
    rw [e] at hul
    rw [List.length_append, HSL.out]
    omega
  go_wp2_with fail
  refine HJ.out.mono ?_
  rintro e w3 ⟨v3, rfl, ho3, hg3⟩
  have H3 : Hid (Own w3 w.heap.size v3 (l ++ uv SL ++ s) ∧ w.grownBy w3 none) := ⟨ho3.mono (by have := R1.out.2.size; have := R2.out.2.size; omega), gb_none (gb_none R1.out.2 R2.out.2) hg3⟩
  clear ho3 hg3 hcv
  go_wp2
  go_ret
  exact ⟨_, rfl, H3.out⟩
end Go.Proofs.YtbnieljkadcaoaaGreatDoor

/- LbBy -/
namespace Go.Proofs.YtbnieljkadcaoaaGreatDoor
open Go.RowKit

/-- a label's bytes -/
def lbB (x : LbT) : List UInt8 := uv x.1.length ++ x.1 ++ (uv x.2.length ++ x.2)
def putAt (l : List UInt8) (ls : List LbT) (z : Nat) : List UInt8 := l ++ uv ls.length ++ (ls.take z).flatMap lbB
def putS (l : List UInt8) (ls : List LbT) : List UInt8 × Int := if (rightS ls).1 = 0 then (putAt l ls ls.length, 0) else ([], (rightS ls).1)
theorem uv_short {n : Nat} (h : n < 18446744073709551616) : (uv n).length ≤ 10 := by
  have := uv_len64 (BitVec.ofNat 64 n)
  have e : (BitVec.ofNat 64 n).toNat = n := by simp; omega
  rwa [e] at this
theorem put_step (l : List UInt8) {ls : List LbT} {z : Nat} (hz : z < ls.length) : putAt l ls (z + 1) = putAt l ls z ++ uv (ls.getD z ([], [])).1.length ++ (ls.getD z ([], [])).1 ++ uv (ls.getD z ([], [])).2.length ++ (ls.getD z ([], [])).2 := by
  have e1 : ls.getD z ([], []) = ls[z] := by simp [List.getD, hz]
  unfold putAt
  rw [List.take_succ_eq_append_getElem hz, List.flatMap_append, e1]
  simp [lbB]
theorem firstOk (ls : List LbT) : ∀ (f i : Nat), (firstAt ls f i).1 = 0 → ∀ j, i ≤ j → j < i + f → errAt ls j = 0
  | 0, i, _, j, h1, h2 => by omega
  | f + 1, i, h, j, h1, h2 => by
    rw [firstAt] at h
    by_cases he : errAt ls i = 0
    · rw [if_neg (by simpa using he)] at h
      by_cases hj : j = i
      · rw [hj]; exact he
      · exact firstOk ls f (i + 1) h j (by omega) (by omega)
    · rw [if_pos he] at h
      exact absurd h he
/-- a right label set's texts are short -/
theorem right_short {ls : List LbT} (h : (rightS ls).1 = 0) : ls.length ≤ 16 ∧ ∀ j, (ls.getD j ([], [])).1.length ≤ 64 ∧ (ls.getD j ([], [])).2.length ≤ 256 := by
  unfold rightS at h
  by_cases h16 : 16 < ls.length
  · rw [if_pos h16] at h; cases h
  · rw [if_neg h16] at h
    refine ⟨by omega, fun j => ?_⟩
    by_cases hj : j < ls.length
    · have he := firstOk ls _ _ h j (by omega) (by omega)
      unfold errAt at he
      by_cases h3 : oneE (ls.getD j ([], [])).1 (ls.getD j ([], [])).2 = 0
      · generalize ls.getD j ([], []) = x at *
        unfold oneE at h3
        by_cases h4 : nameB x.1 = false
        · rw [if_pos h4] at h3; cases h3
        · rw [if_neg h4] at h3
          refine ⟨?_, ?_⟩
          · by_cases h5 : 64 < x.1.length
            · exact absurd (longName x.1 h5) h4
            · omega
          · by_cases h5 : x.2 = []
            · rw [h5]; simp
            · rw [if_neg h5] at h3
              by_cases h6 : 256 < x.2.length
              · rw [if_pos h6] at h3; cases h3
              · omega
      · rw [if_pos h3] at he
        exact absurd he h3
    · have : ls.getD j ([], []) = ([], []) := by simp [List.getD, hj]
      rw [this]; simp
theorem put_len (l : List UInt8) {ls : List LbT} (h : (rightS ls).1 = 0) : ∀ z, z ≤ ls.length → (putAt l ls z).length ≤ l.length + 10 + z * 340
  | 0, _ => by
    have := uv_short (n := ls.length) (by have := (right_short h).1; omega)
    simp [putAt]; omega
  | z + 1, hz => by
    have ih := put_len l h z (by omega)
    have hs := (right_short h).2 z
    have h1 := uv_short (n := (ls.getD z ([], [])).1.length) (by omega)
    have h2 := uv_short (n := (ls.getD z ([], [])).2.length) (by omega)
    rw [put_step l (by omega)]
    simp only [List.length_append]
    omega

set_option maxRecDepth 8000 in
set_option maxHeartbeats 6400000 in
theorem put_any (w : World) (vb v : Value) (l : List UInt8) (ls : List LbT) (hb : Rd w vb l) (hsz : l.length ≤ 140737488355328) (hv : RdL w v ls) (hl : LbIn ls) (hT : U8S w) :
    Calls Tryz.prog 104 #[vb, v] w fun e w' => ∃ v', e = .returned (.tuple #[v', .int .i64 (putS l ls).2]) ∧ Own w' w.heap.size v' (putS l ls).1 ∧ w.grownBy w' none := by
  have HR : Hid (Calls Tryz.prog 116 #[v] w fun e w' => e = .returned (.tuple #[.int .i64 (rightS ls).1, .int .i64 ((rightS ls).2 : Int)]) ∧ w.grownBy w' none) := right_any w v ls hv hl hT
  have HV : Hid (Rd w vb l ∧ RdL w v ls) := ⟨hb, hv⟩
  obtain ⟨a, c, rfl, hc1, hc2, -, hc4⟩ := hv
  obtain ⟨ba, bc, rfl, -, -, -, -⟩ := hb
  unfold maxLen at hc2
  clear hl hT
  by_cases hr1 : (rightS ls).1 = 0
  · have hS : putS l ls = (putAt l ls ls.length, 0) := by unfold putS; rw [if_pos hr1]
    obtain ⟨h16, hsh⟩ := right_short hr1
    have HL : Hid (∀ z, z ≤ ls.length → (putAt l ls z).length ≤ l.length + 10 + z * 340) := put_len l hr1
    have HSH : Hid (∀ j, (ls.getD j ([], [])).1.length ≤ 64 ∧ (ls.getD j ([], [])).2.length ≤ 256) := hsh
    have hI : (ls.length : Int) = I64 (BitVec.ofNat 64 ls.length) := by rw [I64_of (by omega)]
    have HP : Hid (∀ W, w.grownBy W none → Calls Tryz.prog 102 #[.slice ba l.length bc, .int .u64 (ls.length : Int)] W fun e w' => ∃ v', e = .returned v' ∧ Own w' W.heap.size v' (putAt l ls 0) ∧ W.grownBy w' none) := fun W hg => by
      have h := putU_eq (.slice ba l.length bc) l (BitVec.ofNat 64 ls.length) _ hI W (HV.out.1.keep hg) (by omega)
      have e : (BitVec.ofNat 64 ls.length).toNat = ls.length := by simp; omega
      rw [e] at h
      simpa [putAt] using h
    rw [hS]
    rw [hr1] at HR
    dsimp only
    clear hI hS hsh hr1
    generalize (rightS ls).2 = r2 at *
    go_enter Tryz.func104, Tryz.ntmps104
    go_wp2_with fail
    refine HR.out.mono ?_
    rintro e w1 ⟨rfl, hg1⟩
    have H1 : Hid (w.grownBy w1 none) := hg1
    clear HR hg1
    go_wp2_with fail
    refine (HP.out _ H1.out).mono ?_
    rintro e w2 ⟨v2, rfl, ho2, hg2⟩
    have H2 : Hid (Own w2 w.heap.size v2 (putAt l ls 0) ∧ w.grownBy w2 none) := ⟨ho2.mono H1.out.size, gb_none H1.out hg2⟩
    clear HP ho2 hg2 H1
    go_wp2
    go_loopw [0, 25] (fun u i wr => ∃ z : Nat, z ≤ ls.length ∧ i = .int .i64 z ∧ Hid (Own wr w.heap.size u (putAt l ls z) ∧ w.grownBy wr none)) (fun _ i _ => ls.length - (intOf i).toNat)
    case atStart => exact ⟨0, by omega, rfl, H2.out⟩
    case round =>
      obtain ⟨z, hzN, rfl, hr⟩ := hrel
      by_cases hzl : z < ls.length
      · obtain ⟨a', c', he, -, -, h3, -⟩ := HV.out.2.keep hr.out.2
        simp only [Value.slice.injEq] at he
        obtain ⟨rfl, -, rfl⟩ := he
        obtain ⟨b, o, rfl, c0, c1⟩ := h3 z hzl
        have hzi : (z : Int) < (ls.length : Int) := by omega
        have hbl : ¬ b = wr.heap.size := by have := block_lt c0; omega
        have hbl2 : ¬ wr.heap.size = b := by omega
        have hlz := HL.out z (by omega)
        have hshz := HSH.out z
        have hus := uv_short (n := (ls.getD z ([], [])).1.length) (by omega)
        have HST : Hid (putAt l ls (z + 1) = putAt l ls z ++ uv (ls.getD z ([], [])).1.length ++ (ls.getD z ([], [])).1 ++ uv (ls.getD z ([], [])).2.length ++ (ls.getD z ([], [])).2) := put_step l hzl
        have HT1 : Hid (∀ W, Own W w.heap.size u0 (putAt l ls z) → Bx w wr.heap.size (ByteArray.mk ⟨(ls.getD z ([], [])).1⟩) (ByteArray.mk ⟨(ls.getD z ([], [])).2⟩) W → Calls Tryz.prog 70 #[u0, .string (ByteArray.mk ⟨(ls.getD z ([], [])).1⟩)] W fun e w' => ∃ v', e = .returned v' ∧ Hid (Own w' w.heap.size v' (putAt l ls z ++ uv (ls.getD z ([], [])).1.length ++ (ls.getD z ([], [])).1) ∧ w.grownBy w' none) ∧ w'.cell? ⟨wr.heap.size, 0, none⟩ = some (.string (ByteArray.mk ⟨(ls.getD z ([], [])).1⟩)) ∧ w'.cell? ⟨wr.heap.size, 1, none⟩ = some (.string (ByteArray.mk ⟨(ls.getD z ([], [])).2⟩))) := fun W h1 h2 => (putText_full u0 _ _ W h1.rd (by omega)).mono fun e w' ⟨v', e1, e2, e3⟩ => ⟨v', e1, ⟨e2.mono h2.2.size, gb_none h2.2 e3⟩, (h2.keep e3).cells.1, (h2.keep e3).cells.2⟩
        have HT2 : Hid (∀ W u, Own W w.heap.size u (putAt l ls z ++ uv (ls.getD z ([], [])).1.length ++ (ls.getD z ([], [])).1) → w.grownBy W none → Calls Tryz.prog 70 #[u, .string (ByteArray.mk ⟨(ls.getD z ([], [])).2⟩)] W fun e w' => ∃ v', e = .returned v' ∧ Hid (Own w' w.heap.size v' (putAt l ls (z + 1)) ∧ w.grownBy w' none)) := fun W u h1 h2 => (putText_full u _ _ W h1.rd (by simp only [List.length_append]; omega)).mono fun e w' ⟨v', e1, e2, e3⟩ => ⟨v', e1, by rw [HST.out]; exact e2.mono h2.size, gb_none h2 e3⟩
        have HB0 : Hid (Own (wr.alloc (.cells #[.string (ByteArray.mk ⟨(ls.getD z ([], [])).1⟩), .string (ByteArray.mk ⟨(ls.getD z ([], [])).2⟩)] 75)) w.heap.size u0 (putAt l ls z) ∧ Bx w wr.heap.size (ByteArray.mk ⟨(ls.getD z ([], [])).1⟩) (ByteArray.mk ⟨(ls.getD z ([], [])).2⟩) (wr.alloc (.cells #[.string (ByteArray.mk ⟨(ls.getD z ([], [])).1⟩), .string (ByteArray.mk ⟨(ls.getD z ([], [])).2⟩)] 75))) := ⟨hr.out.1.keep (World.grownBy_alloc _ _ none), Go.heap_alloc_new wr _, gb_none hr.out.2 (World.grownBy_alloc _ _ none)⟩
        clear h3 hr hlz hshz hus HST
        generalize ByteArray.mk ⟨(ls.getD z ([], [])).1⟩ = sn at *
        generalize ByteArray.mk ⟨(ls.getD z ([], [])).2⟩ = sv at *
        go_wp2_with fail
        refine (HT1.out _ HB0.out.1 HB0.out.2).mono ?_
        rintro e w3 ⟨v3, rfl, H3, d0, d1⟩
        clear HT1 HB0 c0 c1 hbl hbl2
        go_wp2_with fail
        refine (HT2.out _ _ H3.out.1 H3.out.2).mono ?_
        rintro e w4 ⟨v4, rfl, H4⟩
        clear HT2 H3 d0 d1
        go_wp2
        go_roundw
        case rel => exact ⟨z + 1, by omega, by simp, H4.out⟩
        case measure => simp [intOf]; omega
      · have hzi : ¬ (z : Int) < (ls.length : Int) := by omega
        have HE : Hid (Own wr w.heap.size u0 (putAt l ls ls.length) ∧ w.grownBy wr none) := by
          have e : z = ls.length := by omega
          rw [← e]
          exact hr.out
        clear hr
        go_wp2
        go_ret2
        exact ⟨_, rfl, HE.out⟩
  · have hS : putS l ls = ([], (rightS ls).1) := by unfold putS; rw [if_neg hr1]
    rw [hS]
    dsimp only
    generalize (rightS ls).1 = r1 at *
    generalize (rightS ls).2 = r2 at *
    have hrb : (r1 == 0) = false := by rw [beq_eq_false_iff_ne]; exact hr1
    go_enter Tryz.func104, Tryz.ntmps104
    go_wp2_with fail
    refine HR.out.mono ?_
    rintro e w1 ⟨rfl, hg1⟩
    have H1 : Hid (w.grownBy w1 none) := hg1
    clear HR hg1
    go_wp2
    go_ret2
    exact ⟨_, rfl, Own.nil _ _, H1.out⟩
set_option maxRecDepth 8000 in
set_option maxHeartbeats 6400000 in
theorem refPut_any (w : World) (vb v : Value) (l : List UInt8) (ls : List LbT) (hb : Rd w vb l) (hsz : l.length ≤ 140737488355328) (hv : RdL w v ls) (hl : LbIn ls) :
    Calls Tryz.prog 41 #[vb, v] w fun e w' => ∃ v', e = .returned (.tuple #[v', .int .i64 (putS l ls).2]) ∧ Own w' w.heap.size v' (putS l ls).1 ∧ w.grownBy w' none := by
  have HR : Hid (Calls Tryz.prog 77 #[v] w fun e w' => e = .returned (.tuple #[.int .i64 (rightS ls).1, .int .i64 ((rightS ls).2 : Int)]) ∧ w.grownBy w' none) := refRight_any w v ls hv hl
  have HV : Hid (Rd w vb l ∧ RdL w v ls) := ⟨hb, hv⟩
  obtain ⟨a, c, rfl, hc1, hc2, -, hc4⟩ := hv
  obtain ⟨ba, bc, rfl, -, -, -, -⟩ := hb
  unfold maxLen at hc2
  clear hl
  by_cases hr1 : (rightS ls).1 = 0
  · have hS : putS l ls = (putAt l ls ls.length, 0) := by unfold putS; rw [if_pos hr1]
    obtain ⟨h16, hsh⟩ := right_short hr1
    have HL : Hid (∀ z, z ≤ ls.length → (putAt l ls z).length ≤ l.length + 10 + z * 340) := put_len l hr1
    have HSH : Hid (∀ j, (ls.getD j ([], [])).1.length ≤ 64 ∧ (ls.getD j ([], [])).2.length ≤ 256) := hsh
    have hI : (ls.length : Int) = I64 (BitVec.ofNat 64 ls.length) := by rw [I64_of (by omega)]
    have HP : Hid (∀ W, w.grownBy W none → Calls Tryz.prog 40 #[.slice ba l.length bc, .int .u64 (ls.length : Int)] W fun e w' => ∃ v', e = .returned v' ∧ Own w' W.heap.size v' (putAt l ls 0) ∧ W.grownBy w' none) := fun W hg => by
      rw [hI]
      have h := refPutU_any (.slice ba l.length bc) l (BitVec.ofNat 64 ls.length) W (HV.out.1.keep hg) (by omega)
      have e : (BitVec.ofNat 64 ls.length).toNat = ls.length := by simp; omega
      rw [e] at h
      simpa [putAt] using h
    rw [hS]
    rw [hr1] at HR
    dsimp only
    clear hI hS hsh hr1
    generalize (rightS ls).2 = r2 at *
    go_enter Tryz.func41, Tryz.ntmps41
    go_wp2_with fail
    refine HR.out.mono ?_
    rintro e w1 ⟨rfl, hg1⟩
    have H1 : Hid (w.grownBy w1 none) := hg1
    clear HR hg1
    go_wp2_with fail
    refine (HP.out _ H1.out).mono ?_
    rintro e w2 ⟨v2, rfl, ho2, hg2⟩
    have H2 : Hid (Own w2 w.heap.size v2 (putAt l ls 0) ∧ w.grownBy w2 none) := ⟨ho2.mono H1.out.size, gb_none H1.out hg2⟩
    clear HP ho2 hg2 H1
    go_wp2
    go_loopw [8, 26] (fun u i wr => ∃ z : Nat, z ≤ ls.length ∧ i = .int .i64 z ∧ Hid (Own wr w.heap.size u (putAt l ls z) ∧ w.grownBy wr none)) (fun _ i _ => ls.length - (intOf i).toNat)
    case atStart => exact ⟨0, by omega, rfl, H2.out⟩
    case round =>
      obtain ⟨z, hzN, rfl, hr⟩ := hrel
      by_cases hzl : z < ls.length
      · obtain ⟨a', c', he, -, -, h3, -⟩ := HV.out.2.keep hr.out.2
        simp only [Value.slice.injEq] at he
        obtain ⟨rfl, -, rfl⟩ := he
        obtain ⟨b, o, rfl, c0, c1⟩ := h3 z hzl
        have hzi : (z : Int) < (ls.length : Int) := by omega
        have hbl : ¬ b = wr.heap.size := by have := block_lt c0; omega
        have hbl2 : ¬ wr.heap.size = b := by omega
        have hlz := HL.out z (by omega)
        have hshz := HSH.out z
        have hus := uv_short (n := (ls.getD z ([], [])).1.length) (by omega)
        have HST : Hid (putAt l ls (z + 1) = putAt l ls z ++ uv (ls.getD z ([], [])).1.length ++ (ls.getD z ([], [])).1 ++ uv (ls.getD z ([], [])).2.length ++ (ls.getD z ([], [])).2) := put_step l hzl
        have HT1 : Hid (∀ W, Own W w.heap.size u8 (putAt l ls z) → Bx w wr.heap.size (ByteArray.mk ⟨(ls.getD z ([], [])).1⟩) (ByteArray.mk ⟨(ls.getD z ([], [])).2⟩) W → Calls Tryz.prog 38 #[u8, .string (ByteArray.mk ⟨(ls.getD z ([], [])).1⟩)] W fun e w' => ∃ v', e = .returned v' ∧ Hid (Own w' w.heap.size v' (putAt l ls z ++ uv (ls.getD z ([], [])).1.length ++ (ls.getD z ([], [])).1) ∧ Bx w wr.heap.size (ByteArray.mk ⟨(ls.getD z ([], [])).1⟩) (ByteArray.mk ⟨(ls.getD z ([], [])).2⟩) w') ∧ w'.cell? ⟨wr.heap.size, 0, none⟩ = some (.string (ByteArray.mk ⟨(ls.getD z ([], [])).1⟩)) ∧ w'.cell? ⟨wr.heap.size, 1, none⟩ = some (.string (ByteArray.mk ⟨(ls.getD z ([], [])).2⟩))) := fun W h1 h2 => (refPutText_any u8 _ _ W h1.rd (by omega)).mono fun e w' ⟨v', e1, e2, e3⟩ => ⟨v', e1, ⟨e2.mono h2.2.size, h2.keep e3⟩, (h2.keep e3).cells.1, (h2.keep e3).cells.2⟩
        have HT2 : Hid (∀ W u, Own W w.heap.size u (putAt l ls z ++ uv (ls.getD z ([], [])).1.length ++ (ls.getD z ([], [])).1) → Bx w wr.heap.size (ByteArray.mk ⟨(ls.getD z ([], [])).1⟩) (ByteArray.mk ⟨(ls.getD z ([], [])).2⟩) W → Calls Tryz.prog 38 #[u, .string (ByteArray.mk ⟨(ls.getD z ([], [])).2⟩)] W fun e w' => ∃ v', e = .returned v' ∧ Hid (Own w' w.heap.size v' (putAt l ls (z + 1)) ∧ w.grownBy w' none) ∧ w'.cell? ⟨wr.heap.size, 0, none⟩ = some (.string (ByteArray.mk ⟨(ls.getD z ([], [])).1⟩)) ∧ w'.cell? ⟨wr.heap.size, 1, none⟩ = some (.string (ByteArray.mk ⟨(ls.getD z ([], [])).2⟩))) := fun W u h1 h2 => (refPutText_any u _ _ W h1.rd (by simp only [List.length_append]; omega)).mono fun e w' ⟨v', e1, e2, e3⟩ => ⟨v', e1, ⟨by rw [HST.out]; exact e2.mono h2.2.size, gb_none h2.2 e3⟩, (h2.keep e3).cells.1, (h2.keep e3).cells.2⟩
        have HB0 : Hid (Own (wr.alloc (.cells #[.string (ByteArray.mk ⟨(ls.getD z ([], [])).1⟩), .string (ByteArray.mk ⟨(ls.getD z ([], [])).2⟩)] 75)) w.heap.size u8 (putAt l ls z) ∧ Bx w wr.heap.size (ByteArray.mk ⟨(ls.getD z ([], [])).1⟩) (ByteArray.mk ⟨(ls.getD z ([], [])).2⟩) (wr.alloc (.cells #[.string (ByteArray.mk ⟨(ls.getD z ([], [])).1⟩), .string (ByteArray.mk ⟨(ls.getD z ([], [])).2⟩)] 75))) := ⟨hr.out.1.keep (World.grownBy_alloc _ _ none), Go.heap_alloc_new wr _, gb_none hr.out.2 (World.grownBy_alloc _ _ none)⟩
        clear h3 hr hlz hshz hus HST
        generalize ByteArray.mk ⟨(ls.getD z ([], [])).1⟩ = sn at *
        generalize ByteArray.mk ⟨(ls.getD z ([], [])).2⟩ = sv at *
        go_wp2_with fail
        have q0 := HB0.out.2.cells.1
        have q1 := HB0.out.2.cells.2
        have HB1 : Hid (Own (wr.alloc (.cells #[.string sn, .string sv] 75)).drew w.heap.size u8 (putAt l ls z) ∧ Bx w wr.heap.size sn sv (wr.alloc (.cells #[.string sn, .string sv] 75)).drew) := ⟨HB0.out.1.keep (gb_drew _ none), HB0.out.2.keep (gb_drew _ none)⟩
        clear c0 c1 hbl hbl2
        generalize wr.alloc (.cells #[.string sn, .string sv] 75) = W1 at *
        generalize wr.heap.size = b0 at *
        go_region_held3 (fun w' => w'.cell? ⟨b0, 0, none⟩ = some (.string sn) ∧ w'.cell? ⟨b0, 1, none⟩ = some (.string sv)) (go_keep)
          (first
            | (go_at_call_of 38 sn; with_reducible refine (HT1.out _ ?_ ?_).mono ?_; (first | exact HB0.out.1 | exact HB1.out.1); (first | exact HB0.out.2 | exact HB1.out.2); rintro e w3 ⟨v3, rfl, H3, d0, d1⟩)
            | (go_at_call_of 38 sv; with_reducible refine (HT2.out _ _ H3.out.1 H3.out.2).mono ?_; rintro e w4 ⟨v4, rfl, H4, d2, d3⟩))
        clear HT1 HT2
        go_wp2
        go_roundw
        case rel => exact ⟨z + 1, by omega, by simp, by first | exact H4.out.1 | exact H4.out.1.keep (gb_drew _ none), by first | exact H4.out.2 | exact gb_none H4.out.2 (gb_drew _ none)⟩
        case measure => simp [intOf]; omega
      · have hzi : ¬ (z : Int) < (ls.length : Int) := by omega
        have HE : Hid (Own wr w.heap.size u8 (putAt l ls ls.length) ∧ w.grownBy wr none) := by
          have e : z = ls.length := by omega
          rw [← e]
          exact hr.out
        clear hr
        go_wp2
        go_ret2
        exact ⟨_, rfl, HE.out⟩
  · have hS : putS l ls = ([], (rightS ls).1) := by unfold putS; rw [if_neg hr1]
    rw [hS]
    dsimp only
    generalize (rightS ls).1 = r1 at *
    generalize (rightS ls).2 = r2 at *
    have hrb : (r1 == 0) = false := by rw [beq_eq_false_iff_ne]; exact hr1
    go_enter Tryz.func41, Tryz.ntmps41
    go_wp2_with fail
    refine HR.out.mono ?_
    rintro e w1 ⟨rfl, hg1⟩
    have H1 : Hid (w.grownBy w1 none) := hg1
    clear HR hg1
    go_wp2
    go_ret2
    exact ⟨_, rfl, Own.nil _ _, H1.out⟩
end Go.Proofs.YtbnieljkadcaoaaGreatDoor
