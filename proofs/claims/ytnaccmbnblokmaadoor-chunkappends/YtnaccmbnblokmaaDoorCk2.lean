/-
  A chunk's samples: what New, (*Chunk).putTurn at 0, putValue at the last value, put, Append, Len, Bytes come to: the walks.
-/
import Derived.Test.YtnaccmbnblokmaaDoorCk1
import Derived.WalkMore
import Derived.Deep.RegionHeld3
namespace Go.Proofs.YtnaccmbnblokmaaDoor
open Go.RowKit
variable {R : Rst}

theorem chunkNew_any (w : World) : Calls Tryd.prog 9 #[] w fun e w' => ∃ g, e = .returned (.pointer (some ⟨g, 0, none⟩)) ∧ Wr (past 0 0 0 0 false 0 0) w' g (.slice none 0 0) [] ∧ w.grownBy w' none ∧ w.heap.size ≤ g := by
  go_enter Tryd.func9, Tryd.ntmps9
  go_wp2
  go_ret
  refine ⟨w.heap.size, rfl, ⟨?_, Own.nil _ _⟩, ?_, Nat.le_refl _⟩
  · exact Go.heap_alloc_new w _
  · exact alloc_gb _ _

set_option maxHeartbeats 1600000 in
/-- the value is the last one -/
theorem putValue_same (g : Nat) (v : Value) (bs : List Bool) (n f : Nat) (t gap : Int) (th : Bool) (ld tl : Int) (w : World) (hw : Wr (past n t f gap th ld tl) w g v bs) (hf : f < 18446744073709551616) (hsz : bs.length + 1 ≤ 8388608) :
    Calls Tryd.prog 55 #[.pointer (some ⟨g, 0, none⟩), .float .f64 f] w fun e w' => e = .returned (.tuple #[]) ∧ ∃ v', Wr (past n t f gap th ld tl) w' g v' (bs ++ [false]) ∧ Fw w w' g v v' := by
  have HW : Hid (Wr (past n t f gap th ld tl) w g v bs) := hw
  obtain ⟨-, -, c4, -, -, -, -, fz⟩ := hw.cell
  simp only [past] at c4
  have hfb := fbits_run f
  have hx : bits .xor .u64 (f : Int) (f : Int) = 0 := by
    have := I64_xor (BitVec.ofNat 64 f) (BitVec.ofNat 64 f)
    rw [I64_of hf, BitVec.xor_self] at this
    exact this
  clear hw fz
  go_enter Tryd.func55, Tryd.ntmps55
  go_wp2_with fail
  go_region
  go_wp2_with fail
  refine (wbit_ok g v bs false _ (HW.out.keep (gb_drew _ none)) hsz).mono ?_
  rintro e w1 ⟨rfl, v1, hw1, hf1⟩
  have H1 : Hid (∃ v', Wr (past n t f gap th ld tl) w1 g v' (bs ++ [false]) ∧ Fw w w1 g v v') := ⟨v1, hw1, Fw.pre (gb_drew _ none) hf1⟩
  clear hw1 hf1
  go_wp2
  go_end0
  exact ⟨rfl, H1.out⟩

/-- how many bits of a turn each form has -/
def tw (j : Nat) : Nat := [0, 14, 17, 20, 64].getD j 0
def TabC (w : World) : Prop := ∀ j, j < 5 → w.cell? ⟨1, j, none⟩ = some (.int .i64 (tw j : Int))
theorem TabC.keep {w w' : World} (h : TabC w) (hg : w.grownBy w' none) : TabC w' := fun j hj => by
  rw [← h j hj]
  exact World.cell?_of_block (hg.block _ (block_lt (h j hj)) (by simp))
theorem TabC.fw {w w' : World} {g : Nat} {v v' : Value} (h : TabC w) (hf : Fw w w' g v v') (h1 : g ≠ 1) (h2 : v.ownBlock ≠ some 1) : TabC w' := fun j hj => by
  rw [← h j hj]
  exact World.cell?_of_block (hf.block _ (block_lt (h j hj)) h1.symm h2.symm)

theorem formOf_zero (w : World) (hT : TabC w) : Calls Tryd.prog 80 #[.int .i64 0] w fun e w' => e = .returned (.int .i64 0) ∧ w.grownBy w' none := by
  have t0 := hT 0 (by omega)
  simp only [tw] at t0
  clear hT
  go_enter Tryd.func80, Tryd.ntmps80
  go_wp2
  go_step3
  go_wp2
  go_step3
  go_wp2
  go_loop [3] (fun i => i = .int .i64 0) (fun _ => 0)
  case atStart => rfl
  case round =>
    subst hrel
    go_wp2
    try rw [Exit.noGoto_ret]
    go_ret
    exact ⟨rfl, gb_refl _ _⟩
theorem lowest_zero (w : World) : Calls Tryd.prog 81 #[.int .u64 0, .int .i64 0] w fun e w' => e = .returned (.int .u64 0) ∧ w' = w := by
  go_enter Tryd.func81, Tryd.ntmps81
  go_wp2
  go_ret
  exact ⟨rfl, rfl⟩

set_option maxHeartbeats 1600000 in
/-- the gap is the last one -/
theorem putTurn_zero (g : Nat) (v : Value) (bs : List Bool) (w : World) (hw : Wr R w g v bs) (hT : TabC w) (hg : g ≠ 1) (hv : v.ownBlock ≠ some 1) (hsz : bs.length + 1 ≤ 8388608) :
    Calls Tryd.prog 56 #[.pointer (some ⟨g, 0, none⟩), .int .i64 0] w fun e w' => e = .returned (.tuple #[]) ∧ ∃ v', Wr R w' g v' (bs ++ [false]) ∧ Fw w w' g v v' := by
  have HW : Hid (Wr R w g v bs ∧ TabC w ∧ g ≠ 1 ∧ v.ownBlock ≠ some 1) := ⟨hw, hT, hg, hv⟩
  clear hw hT hg hv
  go_enter Tryd.func56, Tryd.ntmps56
  go_wp2_with fail
  refine (formOf_zero _ HW.out.2.1).mono ?_
  rintro e w1 ⟨rfl, hg1⟩
  have H1 : Hid (Wr R w1 g v bs ∧ TabC w1 ∧ w.grownBy w1 none) := ⟨HW.out.1.keep hg1, HW.out.2.1.keep hg1, hg1⟩
  clear hg1
  go_wp2_with fail
  go_loop [9] (fun i => i = .int .i64 0) (fun _ => 0)
  case atStart => rfl
  case round =>
    subst hrel
    go_wp2_with fail
    refine (wbit_ok g v bs false _ H1.out.1 hsz).mono ?_
    rintro e w2 ⟨rfl, v2, hw2, hf2⟩
    have H2 : Hid (Wr R w2 g v2 (bs ++ [false]) ∧ Fw w w2 g v v2) := ⟨hw2, Fw.pre H1.out.2.2 hf2⟩
    have t0 : w2.cell? ⟨1, 0, none⟩ = some (.int .i64 0) := (H1.out.2.1.fw hf2 HW.out.2.2.1 HW.out.2.2.2) 0 (by omega)
    clear hw2 hf2 H1
    have HB : Hid (∀ W, w2.grownBy W none → Calls Tryd.prog 52 #[.pointer (some ⟨g, 0, none⟩), .int .u64 0, .int .i64 0] W fun e w' => e = .returned (.int .i64 0) ∧ Hid (∃ v', Wr R w' g v' (bs ++ [false]) ∧ Fw w w' g v v')) := fun W hW => by
      refine (wbits_eq g v2 _ 0#64 0 _ _ rfl rfl _ (H2.out.1.keep hW) (by omega) (by decide) (by simp; omega)).mono ?_
      rintro e w4 ⟨rfl, v4, hw4, hf4⟩
      exact ⟨rfl, v4, by simpa [bitsOf] using hw4, (H2.out.2.trans (Fw.of_none hW g v2)).trans hf4⟩
    go_wp2_with fail
    go_region_held3 (fun _ => True) (go_keep)
      (first
        | (go_at_call 81; refine (lowest_zero _).mono ?_; rintro e w3 ⟨rfl, rfl⟩)
        | (go_at_call 52; refine (HB.out _ ?_).mono ?_; (first | exact gb_refl _ _ | exact gb_drew _ _); rintro e w4 ⟨rfl, H4⟩))
    clear H2 HB
    go_wp2
    go_end0
    exact ⟨rfl, H4.out⟩

theorem wrap_both {x : Int} (h1 : 0 ≤ x) (h2 : x ≤ 9223372036854775807) : IntKind.u64.wrap (IntKind.i64.wrap x) = x := by
  rw [IntKind.wrap_i64, IntKind.wrap_u64]
  omega

/-- what lies nowhere near a chunk's own blocks -/
theorem Fw.rd {w w' : World} {g : Nat} {v v' u : Value} {l : List UInt8} (hf : Fw w w' g v v') (h : Rd w u l) (ha : ∀ x c, u = .slice (some x) l.length c → x.block ≠ g ∧ some x.block ≠ v.ownBlock) : Rd w' u l := h.fw hf ha

/-- new bytes lie apart from a chunk -/
theorem new_apart {w w1 : World} {g : Nat} {v u : Value} {bs : List Bool} {l : List UInt8} (hw : Wr R w g v bs) (ho : Own w1 w.heap.size u l) : ∀ x c, u = .slice (some x) l.length c → x.block ≠ g ∧ some x.block ≠ v.ownBlock := by
  intro x c hu
  subst hu
  have h1 := ho.lt x.block (by
    rcases ho.2 with ⟨h, -⟩ | ⟨b, cap, cur, h, -⟩
    · cases h
    · simp only [Value.slice.injEq, Option.some.injEq] at h
      rw [h.1]
      simp [Value.ownBlock])
  have h2 := hw.cells.2.2.2.2
  refine ⟨by omega, fun e => ?_⟩
  have := hw.2.lt x.block e.symm
  omega

set_option maxRecDepth 8000 in
set_option maxHeartbeats 3200000 in
/-- the first sample -/
theorem put_first (g : Nat) (f : Nat) (t : Int) (w : World) (hw : Wr (past 0 0 0 0 false 0 0) w g (.slice none 0 0) []) (hf : f < 18446744073709551616) (ht : 0 ≤ t ∧ t ≤ 1125899906842624) :
    Calls Tryd.prog 32 #[.pointer (some ⟨g, 0, none⟩), .agg #[.int .i64 t, .float .f64 f]] w fun e w' => e = .returned (.tuple #[]) ∧ ∃ v', Wr (past 1 t f t false 0 0) w' g v' (bytesBits (uv (zz t)) ++ bitsOf f 64) ∧ Fw w w' g (.slice none 0 0) v' := by
  have HW : Hid (Wr (past 0 0 0 0 false 0 0) w g (.slice none 0 0) []) := hw
  obtain ⟨c2, -, -, -, -, -, -, fz⟩ := hw.cell
  have hlt : g < w.heap.size := hw.cells.2.2.2.2
  simp only [past] at c2
  clear hw fz
  have hfb := fbits_run f
  have halo : Hid (w.grownBy (w.alloc (.cells #[.int .i64 t, .float .f64 f] 27)) none ∧ (w.alloc (.cells #[.int .i64 t, .float .f64 f] 27)).heap[w.heap.size]? = some (.cells #[.int .i64 t, .float .f64 f] 27 (0, 0))) := ⟨alloc_gb _ _, Go.heap_alloc_new w _⟩
  have HWa : Hid (Wr (past 0 0 0 0 false 0 0) (w.alloc (.cells #[.int .i64 t, .float .f64 f] 27)) g (.slice none 0 0) []) := HW.out.keep halo.out.1
  have hsl : Hid (w.heap.size < (w.alloc (.cells #[.int .i64 t, .float .f64 f] 27)).heap.size ∧ g < w.heap.size) := ⟨by simp, hlt⟩
  go_enter Tryd.func32, Tryd.ntmps32
  go_wp2_with fail
  generalize w.alloc (.cells #[.int .i64 t, .float .f64 f] 27) = W0 at *
  refine (putI_any _ [] t _ (Rd.nil _) (by simp) (by omega) (by omega)).mono ?_
  rintro e w1 ⟨v1, rfl, ho1, hg1⟩
  rw [List.nil_append] at ho1
  have H1 : Hid (Own w1 W0.heap.size v1 (uv (zz t)) ∧ W0.grownBy w1 none) := ⟨ho1, hg1⟩
  clear ho1 hg1
  have hul : (uv (zz t)).length ≤ 10 := by
    have h1 := uv_len64 (BitVec.ofNat 64 (zz t))
    rw [ofNat_zz (by omega) (by omega)] at h1
    exact h1
  go_wp2_with fail
  refine (putBytes_any g _ v1 [] (uv (zz t)) _ (HWa.out.keep H1.out.2) H1.out.1.rd (new_apart HWa.out H1.out.1) (by simp; omega)).mono ?_
  rintro e w2 ⟨rfl, v2, hw2, hf2⟩
  rw [List.nil_append] at hw2
  have H2 : Hid (Wr (past 0 0 0 0 false 0 0) w2 g v2 (bytesBits (uv (zz t))) ∧ Fw W0 w2 g (.slice none 0 0) v2) := ⟨hw2, Fw.pre H1.out.2 hf2⟩
  have hb2 : w2.heap[w.heap.size]? = some (.cells #[.int .i64 t, .float .f64 f] 27 (0, 0)) := by
    rw [H2.out.2.block _ hsl.out.1 (by have := hsl.out.2; omega) (by simp [Value.ownBlock])]
    exact halo.out.2
  have e1 : w2.cell? ⟨w.heap.size, 1, none⟩ = some (.float .f64 f) := by simp [World.cell?, hb2]
  have HB2 : Hid (w2.heap[w.heap.size]? = some (.cells #[.int .i64 t, .float .f64 f] 27 (0, 0))) := hb2
  clear hw2 hf2 H1 HWa hb2
  have HB : Hid (∀ W, w2.grownBy W none → Calls Tryd.prog 52 #[.pointer (some ⟨g, 0, none⟩), .int .u64 (f : Int), .int .i64 64] W fun e w' => e = .returned (.int .i64 0) ∧ (w'.cell? ⟨w.heap.size, 0, none⟩ = some (.int .i64 t) ∧ w'.cell? ⟨w.heap.size, 1, none⟩ = some (.float .f64 f)) ∧ Hid (∃ v', Wr (past 0 0 0 0 false 0 0) w' g v' (bytesBits (uv (zz t)) ++ bitsOf f 64) ∧ Fw W0 w' g (.slice none 0 0) v')) := fun W hW => by
    have e64 : (BitVec.ofNat 64 f).toNat = f := by rw [BitVec.toNat_ofNat]; omega
    refine (wbits_eq g v2 _ (BitVec.ofNat 64 f) 64 _ _ (I64_of hf).symm rfl _ (H2.out.1.keep hW) (by omega) (by rw [e64]; exact hf) (by rw [bytesBits_len]; omega)).mono ?_
    rintro e w4 ⟨rfl, v4, hw4, hf4⟩
    rw [e64] at hw4
    have hF := (H2.out.2.trans (Fw.of_none hW g v2)).trans hf4
    have hb4 : w4.heap[w.heap.size]? = some (.cells #[.int .i64 t, .float .f64 f] 27 (0, 0)) := by
      rw [hF.block _ hsl.out.1 (by have := hsl.out.2; omega) (by simp [Value.ownBlock])]
      exact halo.out.2
    exact ⟨rfl, ⟨by simp [World.cell?, hb4], by simp [World.cell?, hb4]⟩, v4, hw4, hF⟩
  generalize hb0 : w.heap.size = b0 at *
  go_wp2_with fail
  go_region_held3 (fun w' => w'.cell? ⟨b0, 1, none⟩ = some (.float .f64 f)) (go_keep)
    (first | (go_at_call 52; refine (HB.out _ ?_).mono ?_; (first | exact gb_refl _ _ | exact gb_drew _ _); rintro e w4 ⟨rfl, ⟨d0, d1⟩, H4⟩))
  have HA : Hid (∀ W, w4.grownBy W none → Calls Tryd.prog 57 #[.pointer (some ⟨g, 2, none⟩), .agg #[.int .i64 t, .float .f64 f]] W fun e w' => e = .returned (.tuple #[]) ∧ (w'.cell? ⟨b0, 0, none⟩ = some (.int .i64 t) ∧ w'.cell? ⟨b0, 1, none⟩ = some (.float .f64 f)) ∧ Hid (∃ v', Wr (past 1 t f t false 0 0) w' g v' (bytesBits (uv (zz t)) ++ bitsOf f 64) ∧ Fw w w' g (.slice none 0 0) v')) := fun W hW => by
    obtain ⟨v4, hw4, hf4⟩ := H4.out
    refine (add_any g v4 _ 0 0 f 0 t 0 false 0 0 W (hw4.keep hW) (by omega) (by omega) ht).mono ?_
    rintro e w5 ⟨rfl, hw5, hf5⟩
    rw [Int.sub_zero] at hw5
    have hF := (hf4.trans (Fw.of_none hW g v4)).trans hf5
    have hb5 : w5.heap[b0]? = some (.cells #[.int .i64 t, .float .f64 f] 27 (0, 0)) := by
      rw [hF.block _ hsl.out.1 (by have := hsl.out.2; omega) (by simp [Value.ownBlock])]
      exact halo.out.2
    exact ⟨rfl, ⟨by simp [World.cell?, hb5], by simp [World.cell?, hb5]⟩, v4, hw5, Fw.pre halo.out.1 hF⟩
  go_wp2_with fail
  go_region_held3 (fun w' => w'.cell? ⟨b0, 0, none⟩ = some (.int .i64 t) ∧ w'.cell? ⟨b0, 1, none⟩ = some (.float .f64 f)) (go_keep)
    (first | (go_at_call 57; refine (HA.out _ ?_).mono ?_; (first | exact gb_refl _ _ | exact gb_drew _ _); rintro e w5 ⟨rfl, ⟨g0, g1⟩, H5⟩))
  go_wp2
  go_end0
  exact ⟨rfl, H5.out⟩

set_option maxRecDepth 8000 in
set_option maxHeartbeats 3200000 in
/-- the second sample, of the first one's value -/
theorem put_second (g : Nat) (v : Value) (bs : List Bool) (f : Nat) (t t' gap : Int) (th : Bool) (ld tl : Int) (w : World) (hw : Wr (past 1 t f gap th ld tl) w g v bs) (hf : f < 18446744073709551616) (ht : 0 ≤ t ∧ t ≤ 1125899906842624) (ht' : t ≤ t' ∧ t' ≤ 1125899906842624) (hsz : bs.length + 100 ≤ 8388608) :
    Calls Tryd.prog 32 #[.pointer (some ⟨g, 0, none⟩), .agg #[.int .i64 t', .float .f64 f]] w fun e w' => e = .returned (.tuple #[]) ∧ ∃ v', Wr (past 2 t' f (t' - t) th ld tl) w' g v' (bs ++ bytesBits (uv (t' - t).toNat) ++ [false]) ∧ Fw w w' g v v' := by
  obtain ⟨d, hd⟩ : ∃ d : Nat, t' - t = (d : Int) := ⟨(t' - t).toNat, by omega⟩
  rw [show (t' - t).toNat = d by omega]
  have HX : Hid (IntKind.u64.wrap (IntKind.i64.wrap (t' - t)) = t' - t) := wrap_both (by omega) (by omega)
  have HW : Hid (Wr (past 1 t f gap th ld tl) w g v bs) := hw
  obtain ⟨c2, c3, -, -, -, -, -, fz⟩ := hw.cell
  have hlt : g < w.heap.size := hw.cells.2.2.2.2
  simp only [past] at c2 c3
  clear hw fz
  have halo : Hid (w.grownBy (w.alloc (.cells #[.int .i64 t', .float .f64 f] 27)) none ∧ (w.alloc (.cells #[.int .i64 t', .float .f64 f] 27)).heap[w.heap.size]? = some (.cells #[.int .i64 t', .float .f64 f] 27 (0, 0))) := ⟨alloc_gb _ _, Go.heap_alloc_new w _⟩
  have HWa : Hid (Wr (past 1 t f gap th ld tl) (w.alloc (.cells #[.int .i64 t', .float .f64 f] 27)) g v bs) := HW.out.keep halo.out.1
  have hsl : Hid (w.heap.size < (w.alloc (.cells #[.int .i64 t', .float .f64 f] 27)).heap.size ∧ g < w.heap.size ∧ v.ownBlock ≠ some w.heap.size) := ⟨by simp, hlt, fun e => by have := HW.out.2.lt _ e; omega⟩
  go_enter Tryd.func32, Tryd.ntmps32
  go_wp2_with fail
  have hd0 : Hid (0 ≤ t' - t ∧ t' - t ≤ 1125899906842624) := ⟨by omega, by omega⟩
  have HD : Hid (t' - t = (d : Int) ∧ d ≤ 1125899906842624 ∧ (uv d).length ≤ 10 ∧ (BitVec.ofNat 64 d).toNat = d) := by
    have e : (BitVec.ofNat 64 d).toNat = d := by rw [BitVec.toNat_ofNat]; omega
    have h1 := uv_len64 (BitVec.ofNat 64 d)
    rw [e] at h1
    exact ⟨hd, by omega, h1, e⟩
  generalize hW0 : w.alloc (.cells #[.int .i64 t', .float .f64 f] 27) = W0 at *
  generalize hb0 : w.heap.size = b0 at *
  have HAp : Hid (W0.heap[b0]? = some (.cells #[.int .i64 t', .float .f64 f] 27 (0, 0)) ∧ b0 < W0.heap.size ∧ b0 ≠ g ∧ v.ownBlock ≠ some b0) := ⟨halo.out.2, hsl.out.1, by have := hsl.out.2.1; omega, hsl.out.2.2⟩
  have HS : Hid (∀ W' v', Fw W0 W' g v v' → W'.cell? ⟨b0, 0, none⟩ = some (.int .i64 t') ∧ W'.cell? ⟨b0, 1, none⟩ = some (.float .f64 f)) := fun W' v' hF => by
    have hb : W'.heap[b0]? = some (.cells #[.int .i64 t', .float .f64 f] 27 (0, 0)) := by
      rw [hF.block _ HAp.out.2.1 HAp.out.2.2.1 HAp.out.2.2.2.symm]
      exact HAp.out.1
    exact ⟨by simp [World.cell?, hb], by simp [World.cell?, hb]⟩
  have HP : Hid (∀ X W, X = t' - t → W0.grownBy W none → Calls Tryd.prog 54 #[.slice none 0 0, .int .u64 X] W fun e w' => ∃ v1, e = .returned v1 ∧ (w'.cell? ⟨b0, 0, none⟩ = some (.int .i64 t') ∧ w'.cell? ⟨g, 3, none⟩ = some (.int .i64 t)) ∧ Hid (Own w' W.heap.size v1 (uv d) ∧ W0.grownBy W none ∧ W.grownBy w' none)) := fun X W hX hW => by
    have hx : t' - t = I64 (BitVec.ofNat 64 d) := by rw [HD.out.1, I64_of (by have := HD.out.2.1; omega)]
    rw [hX, hx]
    refine (putU_any _ [] (BitVec.ofNat 64 d) _ (Rd.nil _) (by simp)).mono ?_
    rintro e w1 ⟨v1, rfl, ho1, hg1⟩
    rw [List.nil_append, HD.out.2.2.2] at ho1
    refine ⟨v1, rfl, ⟨(HS.out _ _ (Fw.of_none (gb_none hW hg1) g v)).1, ?_⟩, ho1, hW, hg1⟩
    exact ((HWa.out.keep hW).keep hg1).cell.2.1
  have HQ : Hid (∀ W w1 v1, Own w1 W.heap.size v1 (uv d) ∧ W0.grownBy W none ∧ W.grownBy w1 none → ∀ W2, w1.grownBy W2 none → Calls Tryd.prog 50 #[.pointer (some ⟨g, 0, none⟩), v1] W2 fun e w' => e = .returned (.tuple #[]) ∧ (w'.cell? ⟨b0, 0, none⟩ = some (.int .i64 t') ∧ w'.cell? ⟨g, 3, none⟩ = some (.int .i64 t)) ∧ w'.cell? ⟨b0, 1, none⟩ = some (.float .f64 f) ∧ Hid (∃ v', Wr (past 1 t f gap th ld tl) w' g v' (bs ++ bytesBits (uv d)) ∧ Fw W0 w' g v v')) := fun W w1 v1 h W2 h2 => by
    obtain ⟨h1, h3, h4⟩ := h
    have hW := HWa.out.keep h3
    refine (putBytes_any g v v1 bs (uv d) _ ((hW.keep h4).keep h2) (h1.rd.keep h2) (new_apart hW h1) (by have := HD.out.2.2.1; omega)).mono ?_
    rintro e w2 ⟨rfl, v2, hw2, hf2⟩
    have hF := Fw.pre (gb_none (gb_none h3 h4) h2) hf2
    exact ⟨rfl, ⟨(HS.out _ _ hF).1, hw2.cell.2.1⟩, (HS.out _ _ hF).2, v2, hw2, hF⟩
  have e0 : W0.cell? ⟨b0, 0, none⟩ = some (.int .i64 t') := (HS.out _ _ (Fw.refl _ _ _)).1
  have e3 : W0.cell? ⟨g, 3, none⟩ = some (.int .i64 t) := HWa.out.cell.2.1
  clear c2 c3 hd hb0 hW0 hsl
  go_region_held3 (fun w' => w'.cell? ⟨b0, 0, none⟩ = some (.int .i64 t') ∧ w'.cell? ⟨g, 3, none⟩ = some (.int .i64 t)) (go_keep)
    (first
      | (go_at_call 54; refine (HP.out _ _ HX.out ?_).mono ?_; (first | exact gb_refl _ _ | exact gb_drew _ _); rintro e w1 ⟨v1, rfl, ⟨f0, f3⟩, H1⟩)
      | (go_at_call 50; refine (HQ.out _ _ _ H1.out _ ?_).mono ?_; (first | exact gb_refl _ _ | exact gb_drew _ _); rintro e w2 ⟨rfl, ⟨k0, k3⟩, k1, H2⟩))
  go_wp2_with fail
  obtain ⟨v2, hw2, hf2⟩ := H2.out
  refine (putValue_same g v2 _ 1 f t gap th ld tl _ hw2 hf (by have := HD.out.2.2.1; rw [List.length_append, bytesBits_len]; omega)).mono ?_
  rintro e w3 ⟨rfl, v3, hw3, hf3⟩
  have H3 : Hid (∃ v', Wr (past 1 t f gap th ld tl) w3 g v' (bs ++ bytesBits (uv d) ++ [false]) ∧ Fw W0 w3 g v v') := ⟨v3, hw3, hf2.trans hf3⟩
  have j0 := (HS.out _ _ (hf2.trans hf3)).1
  have j1 := (HS.out _ _ (hf2.trans hf3)).2
  clear hw2 hf2 hw3 hf3 H2 k0 k3 k1
  have HA : Hid (∀ W, w3.grownBy W none → Calls Tryd.prog 57 #[.pointer (some ⟨g, 2, none⟩), .agg #[.int .i64 t', .float .f64 f]] W fun e w' => e = .returned (.tuple #[]) ∧ (w'.cell? ⟨b0, 0, none⟩ = some (.int .i64 t') ∧ w'.cell? ⟨b0, 1, none⟩ = some (.float .f64 f)) ∧ Hid (∃ v', Wr (past 2 t' f (t' - t) th ld tl) w' g v' (bs ++ bytesBits (uv d) ++ [false]) ∧ Fw w w' g v v')) := fun W hW => by
    obtain ⟨v4, hw4, hf4⟩ := H3.out
    refine (add_any g v4 _ 1 f f t t' gap th ld tl W (hw4.keep hW) (by omega) ht (by omega)).mono ?_
    rintro e w5 ⟨rfl, hw5, hf5⟩
    have hF := (hf4.trans (Fw.of_none hW g v4)).trans hf5
    exact ⟨rfl, HS.out _ _ hF, v4, hw5, Fw.pre halo.out.1 hF⟩
  go_wp2_with fail
  go_region_held3 (fun w' => w'.cell? ⟨b0, 0, none⟩ = some (.int .i64 t') ∧ w'.cell? ⟨b0, 1, none⟩ = some (.float .f64 f)) (go_keep)
    (first | (go_at_call 57; refine (HA.out _ ?_).mono ?_; (first | exact gb_refl _ _ | exact gb_drew _ _); rintro e w5 ⟨rfl, ⟨g0, g1⟩, H5⟩))
  go_wp2
  go_end0
  exact ⟨rfl, H5.out⟩

end Go.Proofs.YtnaccmbnblokmaaDoor
