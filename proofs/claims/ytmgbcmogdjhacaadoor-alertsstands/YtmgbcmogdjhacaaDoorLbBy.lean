/-
  Label sets as bytes, by the project and by the document: what Put comes to: the walks.
-/
import Derived.Test.YtmgbcmogdjhacaaDoorLbP2
import Derived.Test.YtmgbcmogdjhacaaDoorLbLent
import Derived.Test.YtmgbcmogdjhacaaDoorVRoom
import Derived.Deep.RegionHeld3
namespace Go.Proofs.YtmgbcmogdjhacaaDoor
open Go.RowKit

/-- a label's bytes -/
def lbB (x : LbT) : List UInt8 := uv x.1.length ++ x.1 ++ (uv x.2.length ++ x.2)
def putAt (l : List UInt8) (ls : List LbT) (z : Nat) : List UInt8 := l ++ uv ls.length ++ (ls.take z).flatMap lbB
def putS (l : List UInt8) (ls : List LbT) : List UInt8 × Int := if (rightS ls).1 = 0 then (putAt l ls ls.length, 0) else ([], (rightS ls).1)
theorem uv_short {n : Nat} (h : n < 18446744073709551616) : (uv n).length ≤ 10 := by
  have := uv_len64 (BitVec.ofNat 64 n)
  have e : (BitVec.ofNat 64 n).toNat = n := by simp; omega
  rwa [e] at this
theorem put_step (l : List UInt8) {ls : List LbT} {z : Nat} (hz : z < ls.length) : putAt l ls (z + 1) = putAt l ls z ++ uv (ls.getD z ([], [])).1.length ++ (ls.getD z ([], [])).1 ++ uv (ls.getD z ([], [])).2.length ++ (ls.getD z ([], [])).2 := by
  have e1 : ls.getD z ([], []) = ls[z] := by simp [List.getD, hz]
  unfold putAt
  rw [List.take_succ_eq_append_getElem hz, List.flatMap_append, e1]
  simp [lbB]
theorem firstOk (ls : List LbT) : ∀ (f i : Nat), (firstAt ls f i).1 = 0 → ∀ j, i ≤ j → j < i + f → errAt ls j = 0
  | 0, i, _, j, h1, h2 => by omega
  | f + 1, i, h, j, h1, h2 => by
    rw [firstAt] at h
    by_cases he : errAt ls i = 0
    · rw [if_neg (by simpa using he)] at h
      by_cases hj : j = i
      · rw [hj]; exact he
      · exact firstOk ls f (i + 1) h j (by omega) (by omega)
    · rw [if_pos he] at h
      exact absurd h he
/-- a right label set's texts are short -/
theorem right_short {ls : List LbT} (h : (rightS ls).1 = 0) : ls.length ≤ 16 ∧ ∀ j, (ls.getD j ([], [])).1.length ≤ 64 ∧ (ls.getD j ([], [])).2.length ≤ 256 := by
  unfold rightS at h
  by_cases h16 : 16 < ls.length
  · rw [if_pos h16] at h; cases h
  · rw [if_neg h16] at h
    refine ⟨by omega, fun j => ?_⟩
    by_cases hj : j < ls.length
    · have he := firstOk ls _ _ h j (by omega) (by omega)
      unfold errAt at he
      by_cases h3 : oneE (ls.getD j ([], [])).1 (ls.getD j ([], [])).2 = 0
      · generalize ls.getD j ([], []) = x at *
        unfold oneE at h3
        by_cases h4 : nameB x.1 = false
        · rw [if_pos h4] at h3; cases h3
        · rw [if_neg h4] at h3
          refine ⟨?_, ?_⟩
          · by_cases h5 : 64 < x.1.length
            · exact absurd (longName x.1 h5) h4
            · omega
          · by_cases h5 : x.2 = []
            · rw [h5]; simp
            · rw [if_neg h5] at h3
              by_cases h6 : 256 < x.2.length
              · rw [if_pos h6] at h3; cases h3
              · omega
      · rw [if_pos h3] at he
        exact absurd he h3
    · have : ls.getD j ([], []) = ([], []) := by simp [List.getD, hj]
      rw [this]; simp
theorem put_len (l : List UInt8) {ls : List LbT} (h : (rightS ls).1 = 0) : ∀ z, z ≤ ls.length → (putAt l ls z).length ≤ l.length + 10 + z * 340
  | 0, _ => by
    have := uv_short (n := ls.length) (by have := (right_short h).1; omega)
    simp [putAt]; omega
  | z + 1, hz => by
    have ih := put_len l h z (by omega)
    have hs := (right_short h).2 z
    have h1 := uv_short (n := (ls.getD z ([], [])).1.length) (by omega)
    have h2 := uv_short (n := (ls.getD z ([], [])).2.length) (by omega)
    rw [put_step l (by omega)]
    simp only [List.length_append]
    omega

set_option maxRecDepth 8000 in
set_option maxHeartbeats 6400000 in
theorem put_any (w : World) (vb v : Value) (l : List UInt8) (ls : List LbT) (hb : Rd w vb l) (hsz : l.length ≤ 140737488355328) (hv : RdL w v ls) (hl : LbIn ls) (hT : U8S w) :
    Calls Tryd.prog 46 #[vb, v] w fun e w' => ∃ v', e = .returned (.tuple #[v', .int .i64 (putS l ls).2]) ∧ Own w' w.heap.size v' (putS l ls).1 ∧ w.grownBy w' none := by
  have HR : Hid (Calls Tryd.prog 47 #[v] w fun e w' => e = .returned (.tuple #[.int .i64 (rightS ls).1, .int .i64 ((rightS ls).2 : Int)]) ∧ w.grownBy w' none) := right_any w v ls hv hl hT
  have HV : Hid (Rd w vb l ∧ RdL w v ls) := ⟨hb, hv⟩
  obtain ⟨a, c, rfl, hc1, hc2, -, hc4⟩ := hv
  obtain ⟨ba, bc, rfl, -, -, -, -⟩ := hb
  unfold maxLen at hc2
  clear hl hT
  by_cases hr1 : (rightS ls).1 = 0
  · have hS : putS l ls = (putAt l ls ls.length, 0) := by unfold putS; rw [if_pos hr1]
    obtain ⟨h16, hsh⟩ := right_short hr1
    have HL : Hid (∀ z, z ≤ ls.length → (putAt l ls z).length ≤ l.length + 10 + z * 340) := put_len l hr1
    have HSH : Hid (∀ j, (ls.getD j ([], [])).1.length ≤ 64 ∧ (ls.getD j ([], [])).2.length ≤ 256) := hsh
    have hI : (ls.length : Int) = I64 (BitVec.ofNat 64 ls.length) := by rw [I64_of (by omega)]
    have HP : Hid (∀ W, w.grownBy W none → Calls Tryd.prog 55 #[.slice ba l.length bc, .int .u64 (ls.length : Int)] W fun e w' => ∃ v', e = .returned v' ∧ Own w' W.heap.size v' (putAt l ls 0) ∧ W.grownBy w' none) := fun W hg => by
      have h := putU_eq (.slice ba l.length bc) l (BitVec.ofNat 64 ls.length) _ hI W (HV.out.1.keep hg) (by omega)
      have e : (BitVec.ofNat 64 ls.length).toNat = ls.length := by simp; omega
      rw [e] at h
      simpa [putAt] using h
    rw [hS]
    rw [hr1] at HR
    dsimp only
    clear hI hS hsh hr1
    generalize (rightS ls).2 = r2 at *
    go_enter Tryd.func46, Tryd.ntmps46
    go_wp2_with fail
    refine HR.out.mono ?_
    rintro e w1 ⟨rfl, hg1⟩
    have H1 : Hid (w.grownBy w1 none) := hg1
    clear HR hg1
    go_wp2_with fail
    refine (HP.out _ H1.out).mono ?_
    rintro e w2 ⟨v2, rfl, ho2, hg2⟩
    have H2 : Hid (Own w2 w.heap.size v2 (putAt l ls 0) ∧ w.grownBy w2 none) := ⟨ho2.mono H1.out.size, gb_none H1.out hg2⟩
    clear HP ho2 hg2 H1
    go_wp2
    go_loopw [0, 25] (fun u i wr => ∃ z : Nat, z ≤ ls.length ∧ i = .int .i64 z ∧ Hid (Own wr w.heap.size u (putAt l ls z) ∧ w.grownBy wr none)) (fun _ i _ => ls.length - (intOf i).toNat)
    case atStart => exact ⟨0, by omega, rfl, H2.out⟩
    case round =>
      obtain ⟨z, hzN, rfl, hr⟩ := hrel
      by_cases hzl : z < ls.length
      · obtain ⟨a', c', he, -, -, h3, -⟩ := HV.out.2.keep hr.out.2
        simp only [Value.slice.injEq] at he
        obtain ⟨rfl, -, rfl⟩ := he
        obtain ⟨b, o, rfl, c0, c1⟩ := h3 z hzl
        have hzi : (z : Int) < (ls.length : Int) := by omega
        have hbl : ¬ b = wr.heap.size := by have := block_lt c0; omega
        have hbl2 : ¬ wr.heap.size = b := by omega
        have hlz := HL.out z (by omega)
        have hshz := HSH.out z
        have hus := uv_short (n := (ls.getD z ([], [])).1.length) (by omega)
        have HST : Hid (putAt l ls (z + 1) = putAt l ls z ++ uv (ls.getD z ([], [])).1.length ++ (ls.getD z ([], [])).1 ++ uv (ls.getD z ([], [])).2.length ++ (ls.getD z ([], [])).2) := put_step l hzl
        have HT1 : Hid (∀ W, Own W w.heap.size u0 (putAt l ls z) → Bx w wr.heap.size (ByteArray.mk ⟨(ls.getD z ([], [])).1⟩) (ByteArray.mk ⟨(ls.getD z ([], [])).2⟩) W → Calls Tryd.prog 56 #[u0, .string (ByteArray.mk ⟨(ls.getD z ([], [])).1⟩)] W fun e w' => ∃ v', e = .returned v' ∧ Hid (Own w' w.heap.size v' (putAt l ls z ++ uv (ls.getD z ([], [])).1.length ++ (ls.getD z ([], [])).1) ∧ w.grownBy w' none) ∧ w'.cell? ⟨wr.heap.size, 0, none⟩ = some (.string (ByteArray.mk ⟨(ls.getD z ([], [])).1⟩)) ∧ w'.cell? ⟨wr.heap.size, 1, none⟩ = some (.string (ByteArray.mk ⟨(ls.getD z ([], [])).2⟩))) := fun W h1 h2 => (putText_full u0 _ _ W h1.rd (by omega)).mono fun e w' ⟨v', e1, e2, e3⟩ => ⟨v', e1, ⟨e2.mono h2.2.size, gb_none h2.2 e3⟩, (h2.keep e3).cells.1, (h2.keep e3).cells.2⟩
        have HT2 : Hid (∀ W u, Own W w.heap.size u (putAt l ls z ++ uv (ls.getD z ([], [])).1.length ++ (ls.getD z ([], [])).1) → w.grownBy W none → Calls Tryd.prog 56 #[u, .string (ByteArray.mk ⟨(ls.getD z ([], [])).2⟩)] W fun e w' => ∃ v', e = .returned v' ∧ Hid (Own w' w.heap.size v' (putAt l ls (z + 1)) ∧ w.grownBy w' none)) := fun W u h1 h2 => (putText_full u _ _ W h1.rd (by simp only [List.length_append]; omega)).mono fun e w' ⟨v', e1, e2, e3⟩ => ⟨v', e1, by rw [HST.out]; exact e2.mono h2.size, gb_none h2 e3⟩
        have HB0 : Hid (Own (wr.alloc (.cells #[.string (ByteArray.mk ⟨(ls.getD z ([], [])).1⟩), .string (ByteArray.mk ⟨(ls.getD z ([], [])).2⟩)] 63)) w.heap.size u0 (putAt l ls z) ∧ Bx w wr.heap.size (ByteArray.mk ⟨(ls.getD z ([], [])).1⟩) (ByteArray.mk ⟨(ls.getD z ([], [])).2⟩) (wr.alloc (.cells #[.string (ByteArray.mk ⟨(ls.getD z ([], [])).1⟩), .string (ByteArray.mk ⟨(ls.getD z ([], [])).2⟩)] 63))) := ⟨hr.out.1.keep (World.grownBy_alloc _ _ none), Go.heap_alloc_new wr _, gb_none hr.out.2 (World.grownBy_alloc _ _ none)⟩
        clear h3 hr hlz hshz hus HST
        generalize ByteArray.mk ⟨(ls.getD z ([], [])).1⟩ = sn at *
        generalize ByteArray.mk ⟨(ls.getD z ([], [])).2⟩ = sv at *
        go_wp2_with fail
        refine (HT1.out _ HB0.out.1 HB0.out.2).mono ?_
        rintro e w3 ⟨v3, rfl, H3, d0, d1⟩
        clear HT1 HB0 c0 c1 hbl hbl2
        go_wp2_with fail
        refine (HT2.out _ _ H3.out.1 H3.out.2).mono ?_
        rintro e w4 ⟨v4, rfl, H4⟩
        clear HT2 H3 d0 d1
        go_wp2
        go_roundw
        case rel => exact ⟨z + 1, by omega, by simp, H4.out⟩
        case measure => simp [intOf]; omega
      · have hzi : ¬ (z : Int) < (ls.length : Int) := by omega
        have HE : Hid (Own wr w.heap.size u0 (putAt l ls ls.length) ∧ w.grownBy wr none) := by
          have e : z = ls.length := by omega
          rw [← e]
          exact hr.out
        clear hr
        go_wp2
        go_ret2
        exact ⟨_, rfl, HE.out⟩
  · have hS : putS l ls = ([], (rightS ls).1) := by unfold putS; rw [if_neg hr1]
    rw [hS]
    dsimp only
    generalize (rightS ls).1 = r1 at *
    generalize (rightS ls).2 = r2 at *
    have hrb : (r1 == 0) = false := by rw [beq_eq_false_iff_ne]; exact hr1
    go_enter Tryd.func46, Tryd.ntmps46
    go_wp2_with fail
    refine HR.out.mono ?_
    rintro e w1 ⟨rfl, hg1⟩
    have H1 : Hid (w.grownBy w1 none) := hg1
    clear HR hg1
    go_wp2
    go_ret2
    exact ⟨_, rfl, Own.nil _ _, H1.out⟩
end Go.Proofs.YtmgbcmogdjhacaaDoor
