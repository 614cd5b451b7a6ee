/-
  What the document's back, joined, PutU, PutI and vint.PutI, I come to: the walks.
-/
import Derived.Test.YtfggcmkoihemoaaDoorNums
namespace Go.Proofs.YtfggcmkoihemoaaDoor
open Go.RowKit

theorem back_any (x : BitVec 64) (w : World) : Calls Tryd.prog 45 #[.int .u64 (I64 x)] w fun e w' => e = .returned (.int .i64 (uz x.toNat)) ∧ w' = w := by
  have e1 := back_t x
  have e2 := back_d x
  have hx := x.isLt
  have hlt : x.toNat / 2 < 9223372036854775808 := by omega
  have e3 := wrap_u64_nat hlt
  have e4 : Hid (wrap64 ((x.toNat / 2 : Nat) : Int) = ((x.toNat / 2 : Nat) : Int)) := wrap_i64_nat hlt
  have e5 : Hid (wrap64 (wrap64 (-((x.toNat / 2 : Nat) : Int)) - 1) = -((x.toNat / 2 : Nat) : Int) - 1) := neg_half hlt
  clear hx hlt
  by_cases h : x.toNat % 2 = 1
  · have H : Hid (uz x.toNat = -((x.toNat / 2 : Nat) : Int) - 1) := if_pos h
    rw [h] at e1
    clear h
    generalize x.toNat / 2 = y at *
    generalize uz x.toNat = z at *
    go_enter Tryd.func45, Tryd.ntmps45
    go_wp2
    go_ret
    exact ⟨ret_int (by rw [e4.out, e5.out, H.out]), rfl⟩
  · have H : Hid (uz x.toNat = ((x.toNat / 2 : Nat) : Int)) := if_neg h
    have h0 : x.toNat % 2 = 0 := by omega
    rw [h0] at e1
    clear h h0
    generalize x.toNat / 2 = y at *
    generalize uz x.toNat = z at *
    go_enter Tryd.func45, Tryd.ntmps45
    go_wp2
    go_ret
    exact ⟨ret_int (e4.out.trans H.out.symm), rfl⟩

set_option maxHeartbeats 800000 in
theorem joined_any (v u : Value) (l m : List UInt8) (w : World) (hv : Rd w v l) (hu : Rd w u m) (hsz : l.length + m.length ≤ 175921860000000) :
    Calls Tryd.prog 42 #[v, u] w fun e w' => ∃ v', e = .returned v' ∧ Own w' w.heap.size v' (l ++ m) ∧ w.grownBy w' none := by
  have hv2 : Hid (Rd w v l) := hv
  have hu2 : Hid (Rd w u m) := hu
  clear hv hu
  go_enter Tryd.func42, Tryd.ntmps42
  go_wp2_with (at_builtin; refine wp_app rfl _ _ rfl w.heap.size _ _ [] l rfl rfl (Own.nil _ _) hv2.out ?c1 ?c2 ?_)
  case c1 => first | omega | (simp; omega)
  case c2 => omega
  intro v1 w1 ho1 hf1
  have H1 : Hid (Own w1 w.heap.size v1 l ∧ w.grownBy w1 none) := ⟨by simpa using ho1, hf1.1⟩
  clear ho1 hf1
  go_wp2_with (at_builtin; refine wp_app rfl _ _ rfl w.heap.size _ _ l m rfl rfl H1.out.1 (hu2.out.keep H1.out.2) ?c3 ?c4 ?_)
  case c3 => first | omega | (simp; omega)
  case c4 => exact H1.out.2.size
  intro v2 w2 ho2 hf2
  have H2 : Hid (Own w2 w.heap.size v2 (l ++ m) ∧ w.grownBy w2 none) := ⟨ho2, Fr.new H1.out.2 hf2 (fun k hk => (H1.out.1.lt k hk).1)⟩
  clear ho2 hf2 H1
  go_wp2
  go_ret
  exact ⟨_, rfl, H2.out.1, H2.out.2⟩

theorem low_mod (x : BitVec 64) : (I64 x).tmod 128 = ((x.toNat % 128 : Nat) : Int) := by
  simp only [I64]
  rw [Int.tmod_eq_emod_of_nonneg (by omega)]
  omega
theorem wrap_I64 (x : BitVec 64) : IntKind.u64.wrap (I64 x) = I64 x := by
  have := I64_lt x
  have := I64_nonneg x
  rw [IntKind.wrap_u64]; omega
theorem low_div (x : BitVec 64) : (I64 x).tdiv 128 = I64 (x >>> 7) := by
  rw [Int.tdiv_eq_ediv_of_nonneg (I64_nonneg x)]
  exact I64_shr7 x

set_option maxHeartbeats 1600000 in
theorem refPutU_any (v : Value) (l : List UInt8) (x : BitVec 64) (w : World) (hv : Rd w v l) (hsz : l.length ≤ 175921850000000) :
    Calls Tryd.prog 13 #[v, .int .u64 (I64 x)] w fun e w' => ∃ v', e = .returned v' ∧ Own w' w.heap.size v' (l ++ uv x.toNat) ∧ w.grownBy w' none := by
  have hv2 : Hid (Rd w v l) := hv
  have hlen := uv_len64 x
  clear hv
  go_enter Tryd.func13, Tryd.ntmps13
  go_wp2
  go_loopw [1, 5] (fun n s wr => ∃ (d : List UInt8) (y : BitVec 64), n = .int .u64 (I64 y) ∧ Hid (Own wr w.heap.size s d) ∧ Hid (uv x.toNat = d ++ uv y.toNat) ∧ Hid (w.grownBy wr none)) (fun n _ _ => (intOf n).toNat)
  case atStart => exact ⟨[], x, rfl, Own.nil _ _, rfl, gb_refl _ _⟩
  case round =>
    obtain ⟨d, y, rfl, ho, hu, hf⟩ := hrel
    have hdl : d.length + 1 ≤ 10 := by
      have h1 := congrArg List.length hu.out
      have := uv_pos y.toNat
      simp only [List.length_append] at h1
      omega
    by_cases h : 128 ≤ I64 y
    · obtain ⟨q, hq⟩ : ∃ q : Int, (I64 y).tmod 128 = q := ⟨_, rfl⟩
      have hq0 : 0 ≤ q := by rw [← hq, low_mod]; omega
      have hq1 : q < 128 := by rw [← hq, low_mod]; omega
      have e3 : q + 128 = ((lowB y.toNat).toNat : Int) := by rw [← hq, low_mod, lowB_nat]; omega
      have e2 := low_div y
      have hy : ¬ y.toNat < 128 := by simp only [I64] at h; omega
      have hst : Hid (uv x.toNat = (d ++ [lowB y.toNat]) ++ uv (y >>> 7).toNat) := by
        have := hu.out
        rw [uv_big hy] at this
        show uv x.toNat = _
        rw [this]
        simp [BitVec.toNat_ushiftRight, Nat.shiftRight_eq_div_pow]
      have hms : Hid ((I64 (y >>> 7)).toNat < (I64 y).toNat) := by
        show (I64 (y >>> 7)).toNat < (I64 y).toNat
        rw [← I64_shr7]; omega
      clear hu hy
      generalize y >>> 7 = y1 at *
      generalize lowB y.toNat = b1 at *
      go_wp2_with (at_builtin; refine wp_app rfl _ _ rfl w.heap.size _ _ d [b1] rfl rfl (ho.out.keep (alloc_gb _ _)) rd_one ?c1 ?c2 ?_)
      case c1 => first | omega | (simp; omega)
      case c2 => have := hf.out.size; first | omega | (simp; omega)
      intro v' w' ho' hf'
      have hf2 : Hid (w.grownBy w' none) := gb_new hf.out (Fr.pre (alloc_gb _ _) hf').1 (fun k hk => (ho.out.lt k hk).1)
      have ho2 : Hid (Own w' w.heap.size v' (d ++ [b1])) := ho'
      clear hf' ho' ho hf e3 hq hq0 hq1
      have e6 := wrap_I64 y1
      go_wp2
      go_roundw
      case rel => exact ⟨d ++ [b1], y1, rfl, ho2, hst, hf2⟩
      case measure => simp only [intOf]; exact hms.out
    · have hy : y.toNat < 128 := by simp only [I64] at h; omega
      have e1 := small256 y
      have hst : Hid (uv x.toNat = d ++ [UInt8.ofNat y.toNat]) := by
        have := hu.out
        rw [uv_small hy] at this
        exact this
      clear hu hy
      generalize UInt8.ofNat y.toNat = b1 at *
      go_wp2_with (at_builtin; refine wp_app rfl _ _ rfl w.heap.size _ _ d [b1] rfl rfl (ho.out.keep (alloc_gb _ _)) rd_one ?c3 ?c4 ?_)
      case c3 => first | omega | (simp; omega)
      case c4 => have := hf.out.size; first | omega | (simp; omega)
      intro v' w' ho' hf'
      have H2 : Hid (Rd w' v' (uv x.toNat) ∧ w.grownBy w' none) := ⟨by rw [hst.out]; exact ho'.rd, gb_new hf.out (Fr.pre (alloc_gb _ _) hf').1 (fun k hk => (ho.out.lt k hk).1)⟩
      clear hf' ho' ho hf hst e1
      go_wp2_with fail
      refine (joined_any v v' l (uv x.toNat) _ (hv2.out.keep H2.out.2) H2.out.1 (by omega)).mono ?_
      rintro e w3 ⟨v3, rfl, ho3, hg3⟩
      have H3 : Hid (Own w3 w.heap.size v3 (l ++ uv x.toNat) ∧ w.grownBy w3 none) := ⟨ho3.mono H2.out.2.size, gb_none H2.out.2 hg3⟩
      clear ho3 hg3 H2
      go_wp2
      go_ret
      exact ⟨_, rfl, H3.out.1, H3.out.2⟩

theorem ofNat_zz {n : Int} (hl : -9223372036854775808 ≤ n) (hh : n ≤ 9223372036854775807) : (BitVec.ofNat 64 (zz n)).toNat = zz n := by
  simp only [BitVec.toNat_ofNat]
  unfold zz
  split <;> omega

theorem putI_any (v : Value) (l : List UInt8) (n : Int) (w : World) (hv : Rd w v l) (hsz : l.length ≤ 175921850000000) (hl : -9223372036854775808 ≤ n) (hh : n ≤ 9223372036854775807) :
    Calls Tryd.prog 11 #[v, .int .i64 n] w fun e w' => ∃ v', e = .returned v' ∧ Own w' w.heap.size v' (l ++ uv (zz n)) ∧ w.grownBy w' none := by
  have hv2 : Hid (Rd w v l) := hv
  have hz : Hid ((BitVec.ofNat 64 (zz n)).toNat = zz n) := ofNat_zz hl hh
  clear hv
  go_enter Tryd.func11, Tryd.ntmps11
  go_wp2_with fail
  refine (zigzag_any n _ hl hh).mono ?_
  rintro e w1 ⟨rfl, rfl⟩
  go_wp2_with fail
  refine (putU_any v l _ _ hv2.out (by omega)).mono ?_
  rintro e w2 ⟨v2, rfl, ho, hg⟩
  rw [hz.out] at ho
  have H : Hid (Own w2 w1.heap.size v2 (l ++ uv (zz n)) ∧ w1.grownBy w2 none) := ⟨ho, hg⟩
  clear ho hg
  go_wp2
  go_ret
  exact ⟨_, rfl, H.out.1, H.out.2⟩
theorem refPutI_any (v : Value) (l : List UInt8) (n : Int) (w : World) (hv : Rd w v l) (hsz : l.length ≤ 175921850000000) (hl : -9223372036854775808 ≤ n) (hh : n ≤ 9223372036854775807) :
    Calls Tryd.prog 14 #[v, .int .i64 n] w fun e w' => ∃ v', e = .returned v' ∧ Own w' w.heap.size v' (l ++ uv (zz n)) ∧ w.grownBy w' none := by
  have hv2 : Hid (Rd w v l) := hv
  have hz : Hid ((BitVec.ofNat 64 (zz n)).toNat = zz n) := ofNat_zz hl hh
  clear hv
  go_enter Tryd.func14, Tryd.ntmps14
  go_wp2_with fail
  refine (turn_any n _ hl hh).mono ?_
  rintro e w1 ⟨rfl, rfl⟩
  go_wp2_with fail
  refine (refPutU_any v l _ _ hv2.out (by omega)).mono ?_
  rintro e w2 ⟨v2, rfl, ho, hg⟩
  rw [hz.out] at ho
  have H : Hid (Own w2 w1.heap.size v2 (l ++ uv (zz n)) ∧ w1.grownBy w2 none) := ⟨ho, hg⟩
  clear ho hg
  go_wp2
  go_ret
  exact ⟨_, rfl, H.out.1, H.out.2⟩

def tup3i (r : Nat × Int × Int) : Value := .tuple #[.int .i64 (uz (BitVec.ofNat 64 r.1).toNat), .int .i64 r.2.1, .int .i64 r.2.2]
theorem i_any (v : Value) (l : List UInt8) (p : Int) (w : World) (hv : Rd w v l) :
    Calls Tryd.prog 18 #[v, .int .i64 p] w fun e w' => e = .returned (tup3i (uSpec l p)) ∧ w' = w := by
  have H := u_any v l p w hv
  generalize uSpec l p = r at H ⊢
  obtain ⟨r1, r2, r3⟩ := r
  unfold tup3 at H
  unfold tup3i
  simp only [] at H ⊢
  generalize BitVec.ofNat 64 r1 = x at H ⊢
  have HC : Hid (Calls Tryd.prog 16 #[v, .int .i64 p] w fun e w' => e = .returned (.tuple #[.int .u64 (I64 x), .int .i64 r2, .int .i64 r3]) ∧ w' = w) := H
  clear H hv
  go_enter Tryd.func18, Tryd.ntmps18
  go_wp2_with fail
  refine HC.out.mono ?_
  rintro e w1 ⟨rfl, rfl⟩
  go_wp2_with fail
  refine (unzigzag_any x _).mono ?_
  rintro e w2 ⟨rfl, rfl⟩
  go_wp2
  go_ret3
  exact ⟨rfl, rfl⟩
end Go.Proofs.YtfggcmkoihemoaaDoor
