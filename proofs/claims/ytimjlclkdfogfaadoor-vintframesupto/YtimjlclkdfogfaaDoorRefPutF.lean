/-
  What the document's PutFrame comes to: the walk.
-/
import Derived.Test.YtimjlclkdfogfaaDoorNums2
import Derived.Test.YtimjlclkdfogfaaDoorRefSums
namespace Go.Proofs.YtimjlclkdfogfaaDoor
open Go.RowKit

theorem refPutU_eq (v : Value) (l : List UInt8) (x : BitVec 64) (X : Int) (hX : X = I64 x) (w : World) (hv : Rd w v l) (hsz : l.length ≤ 175921850000000) :
    Calls Tryd.prog 13 #[v, .int .u64 X] w fun e w' => ∃ v', e = .returned v' ∧ Own w' w.heap.size v' (l ++ uv x.toNat) ∧ w.grownBy w' none := by
  subst hX
  exact refPutU_any v l x w hv hsz

theorem refPutFrame_big (v u : Value) (l p : List UInt8) (w : World) (hv : Rd w v l) (hu : Rd w u p) (hp : 65536 < p.length) :
    Calls Tryd.prog 31 #[v, u] w fun e w' => e = .returned (.tuple #[.slice none 0 0, .int .i64 4]) ∧ w' = w := by
  obtain ⟨pa, ca, rfl, -, -, -, -⟩ := hv
  obtain ⟨pb, cb, rfl, -, -, -, -⟩ := hu
  have h : (65536 : Int) < (p.length : Int) := by omega
  clear hp
  go_enter Tryd.func31, Tryd.ntmps31
  go_wp2
  go_ret2
  exact ⟨rfl, rfl⟩

set_option maxHeartbeats 1600000 in
theorem refPutFrame_ok (v u : Value) (l p : List UInt8) (w : World) (hv : Rd w v l) (hu : Rd w u p) (hp : p.length ≤ 65536) (hsz : l.length ≤ 175921000000000) :
    Calls Tryd.prog 31 #[v, u] w fun e w' => ∃ v', e = .returned (.tuple #[v', .int .i64 0]) ∧ Own w' w.heap.size v' (l ++ frame p) ∧ w.grownBy w' none := by
  have hv2 : Hid (Rd w v l) := hv
  have hu2 : Hid (Rd w u p) := hu
  obtain ⟨pb, cb, rfl, -, -, -, -⟩ := hu
  have hfr : Hid (frame p = uv (BitVec.ofNat 64 p.length).toNat ++ (le4 (crc p) ++ p)) := by
    show frame p = _
    rw [ofNat_len (by omega)]
    rfl
  have hul := uv_len64 (BitVec.ofNat 64 p.length)
  have hX : Hid (IntKind.u64.wrap (p.length : Int) = I64 (BitVec.ofNat 64 p.length)) := by
    show IntKind.u64.wrap (p.length : Int) = _
    rw [IntKind.wrap_u64, I64_of (by omega)]
    omega
  have hp' : ¬ (65536 : Int) < (p.length : Int) := by omega
  have e0 := le4_0 (crc p)
  have e1 := le4_1 (crc p)
  have e2 := le4_2 (crc p)
  have e3 := le4_3 (crc p)
  have hle : Hid (le4 (crc p) = [UInt8.ofNat (crc p).toNat, UInt8.ofNat ((crc p).toNat / 256), UInt8.ofNat ((crc p).toNat / 65536), UInt8.ofNat ((crc p).toNat / 16777216)]) := rfl
  have HS : Hid (∀ w' v', Rd w' v' p → Calls Tryd.prog 27 #[v'] w' fun e w'' => e = .returned (.int .u32 (I32 (crc p))) ∧ w'' = w') := fun w' v' h => refSum_any v' p w' h
  generalize UInt8.ofNat (crc p).toNat = b0 at *
  generalize UInt8.ofNat ((crc p).toNat / 256) = b1 at *
  generalize UInt8.ofNat ((crc p).toNat / 65536) = b2 at *
  generalize UInt8.ofNat ((crc p).toNat / 16777216) = b3 at *
  generalize crc p = X32 at *
  clear hv hp
  generalize BitVec.ofNat 64 p.length = x at *
  go_enter Tryd.func31, Tryd.ntmps31
  go_wp2_with fail
  refine (HS.out _ _ hu2.out).mono ?_
  rintro e w0 ⟨rfl, rfl⟩
  go_wp2_with fail
  refine (refPutU_eq v l x _ (by first | exact hX.out | (rw [← hX.out, IntKind.wrap_u64]; omega)) _ hv2.out (by omega)).mono ?_
  rintro e w1 ⟨v1, rfl, ho1, hg1⟩
  have H1 : Hid (Own w1 w0.heap.size v1 (l ++ uv x.toNat) ∧ w0.grownBy w1 none) := ⟨ho1, hg1⟩
  clear ho1 hg1 hX
  go_wp2_with (at_builtin; refine wp_app rfl _ _ rfl w0.heap.size _ _ (l ++ uv x.toNat) [b0, b1, b2, b3] rfl rfl (H1.out.1.keep (alloc_gb _ _)) rd_four ?c1 ?c2 ?_)
  case c1 => simp only [List.length_append, List.length_cons, List.length_nil]; omega
  case c2 => have := H1.out.2.size; first | omega | (simp; omega)
  intro v2 w2 ho2 hf2
  have H2 : Hid (Own w2 w0.heap.size v2 (l ++ uv x.toNat ++ [b0, b1, b2, b3]) ∧ w0.grownBy w2 none) := ⟨by simpa using ho2, gb_new H1.out.2 (Fr.pre (alloc_gb _ _) hf2).1 (fun k hk => (H1.out.1.lt k hk).1)⟩
  clear ho2 hf2 H1
  go_wp2_with fail
  refine (joined_any v2 _ (l ++ uv x.toNat ++ [b0, b1, b2, b3]) p _ H2.out.1.rd (hu2.out.keep H2.out.2) (by simp; omega)).mono ?_
  rintro e w3 ⟨v3, rfl, ho3, hg3⟩
  have H3 : Hid (Own w3 w0.heap.size v3 (l ++ frame p) ∧ w0.grownBy w3 none) := ⟨by rw [hfr.out, hle.out]; have := ho3.mono H2.out.2.size; simpa using this, gb_none H2.out.2 hg3⟩
  clear ho3 hg3 H2 hfr
  go_wp2
  go_ret2
  exact ⟨_, rfl, H3.out.1, H3.out.2⟩
end Go.Proofs.YtimjlclkdfogfaaDoor
