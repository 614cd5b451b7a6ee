/-
  What vint.PutFrame comes to, and the statements' fixed calls ('known'): the walks.
-/
import Derived.Test.YtfggcmkoihemoaaDoorReadU
import Derived.Test.YtfggcmkoihemoaaDoorSame
namespace Go.Proofs.YtfggcmkoihemoaaDoor
open Go.RowKit

theorem TabIn.keep0 {w w' : World} (h : TabIn w) (hg : w.grownBy w' none) : TabIn w' := h.keep hg (by simp)
theorem addU_eq (base : Nat) (v : Value) (l : List UInt8) (x : BitVec 64) (X : Int) (hX : X = I64 x) (w : World) (hv : Own w base v l) (hb : base ≤ w.heap.size) (hsz : l.length ≤ 175921860000000) :
    Calls Tryd.prog 39 #[v, .int .u64 X] w fun e w' => ∃ v', e = .returned v' ∧ Own w' base v' (l ++ uv x.toNat) ∧ Fr w w' v v' := by
  subst hX
  exact addU_any base v l x w hv hb hsz

def frame (p : List UInt8) : List UInt8 := uv p.length ++ (le4 (crc p) ++ p)
theorem ret_tup2 {v : Value} {k : IntKind} {a b : Int} (h : a = b) : Ending.returned (.tuple #[v, .int k a]) = .returned (.tuple #[v, .int k b]) := by rw [h]

theorem putFrame_big (v u : Value) (l p : List UInt8) (w : World) (hv : Rd w v l) (hu : Rd w u p) (hp : 65536 < p.length) :
    Calls Tryd.prog 30 #[v, u] w fun e w' => e = .returned (.tuple #[.slice none 0 0, .int .i64 4]) ∧ w' = w := by
  obtain ⟨pa, ca, rfl, -, -, -, -⟩ := hv
  obtain ⟨pb, cb, rfl, -, -, -, -⟩ := hu
  have h : (65536 : Int) < (p.length : Int) := by omega
  clear hp
  go_enter Tryd.func30, Tryd.ntmps30
  go_wp2
  go_ret2
  exact ⟨rfl, rfl⟩

theorem ofNat_len {n : Nat} (h : n ≤ 175921860444160) : (BitVec.ofNat 64 n).toNat = n := by
  simp only [BitVec.toNat_ofNat]
  omega

set_option maxHeartbeats 1600000 in
theorem putFrame_ok (v u : Value) (l p : List UInt8) (w : World) (hv : Rd w v l) (hu : Rd w u p) (hT : TabIn w) (hp : p.length ≤ 65536) (hsz : l.length ≤ 175921000000000) :
    Calls Tryd.prog 30 #[v, u] w fun e w' => ∃ v', e = .returned (.tuple #[v', .int .i64 0]) ∧ Own w' w.heap.size v' (l ++ frame p) ∧ w.grownBy w' none := by
  have hv2 : Hid (Rd w v l) := hv
  have hu2 : Hid (Rd w u p) := hu
  have hT2 : Hid (TabIn w) := hT
  obtain ⟨pb, cb, rfl, -, -, -, -⟩ := hu
  have hfr : Hid (frame p = uv (BitVec.ofNat 64 p.length).toNat ++ (le4 (crc p) ++ p)) := by
    show frame p = _
    rw [ofNat_len (by omega)]
    rfl
  have hul := uv_len64 (BitVec.ofNat 64 p.length)
  have hX : Hid (IntKind.u64.wrap (p.length : Int) = I64 (BitVec.ofNat 64 p.length)) := by
    show IntKind.u64.wrap (p.length : Int) = _
    rw [IntKind.wrap_u64, I64_of (by omega)]
    omega
  have hp' : ¬ (65536 : Int) < (p.length : Int) := by omega
  clear hv hT hp
  generalize BitVec.ofNat 64 p.length = x at *
  go_enter Tryd.func30, Tryd.ntmps30
  go_wp2_with fail
  refine (withRoom_any v l (14 + p.length) _ (by omega) _ hv2.out (by omega)).mono ?_
  rintro e w1 ⟨v1, rfl, ho1, hg1, hb1⟩
  have H1 : Hid (Own w1 w.heap.size v1 l ∧ w.grownBy w1 none ∧ v1.ownBlock = some w.heap.size) := ⟨ho1, hg1, hb1⟩
  clear ho1 hg1 hb1
  go_wp2_with fail
  refine (addU_eq w.heap.size v1 l x _ (by first | exact hX.out | (rw [← hX.out, IntKind.wrap_u64]; omega)) _ H1.out.1 H1.out.2.1.size (by omega)).mono ?_
  rintro e w2 ⟨v2, rfl, ho2, hf2⟩
  have H2 : Hid (Own w2 w.heap.size v2 (l ++ uv x.toNat) ∧ w.grownBy w2 none) := ⟨ho2, Fr.new H1.out.2.1 hf2 (fun k hk => by rw [H1.out.2.2] at hk; simp at hk; omega)⟩
  clear ho2 hf2 H1 hX
  go_wp2_with fail
  refine (sum_any _ p _ (hu2.out.keep H2.out.2) (hT2.out.keep0 H2.out.2)).mono ?_
  rintro e w2' ⟨rfl, rfl⟩
  go_wp2_with fail
  refine (addSum_any w.heap.size v2 (l ++ uv x.toNat) (crc p) _ H2.out.1 H2.out.2.size (by simp; omega)).mono ?_
  rintro e w3 ⟨v3, rfl, ho3, hf3⟩
  have H3 : Hid (Own w3 w.heap.size v3 (l ++ uv x.toNat ++ le4 (crc p)) ∧ w.grownBy w3 none) := ⟨ho3, Fr.new H2.out.2 hf3 (fun k hk => (H2.out.1.lt k hk).1)⟩
  clear ho3 hf3 H2
  have hl4 : (le4 (crc p)).length = 4 := rfl
  generalize hle : le4 (crc p) = q at *
  have HLE : Hid (le4 (crc p) = q) := hle
  clear hle
  go_wp2_with (at_builtin; refine wp_app rfl _ _ rfl w.heap.size _ _ (l ++ uv x.toNat ++ q) p rfl rfl H3.out.1 (hu2.out.keep H3.out.2) ?c1 ?c2 ?_)
  case c1 => simp only [List.length_append]; omega
  case c2 => exact H3.out.2.size
  intro v4 w4 ho4 hf4
  have H4 : Hid (Own w4 w.heap.size v4 (l ++ frame p) ∧ w.grownBy w4 none) := ⟨by rw [hfr.out]; simpa using ho4, Fr.new H3.out.2 hf4 (fun k hk => (H3.out.1.lt k hk).1)⟩
  clear ho4 hf4 H3 hfr
  go_wp2
  go_ret2
  exact ⟨_, rfl, H4.out.1, H4.out.2⟩
end Go.Proofs.YtfggcmkoihemoaaDoor
