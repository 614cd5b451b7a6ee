/-
  A chunk's samples at even steps: what (*Chunk).put, Append, Len, Bytes and Encode come to: the walks.
-/
import Derived.Test.YtkiefmhampfhoaaDoorGA
namespace Go.Proofs.YtkiefmhampfhoaaDoor
open Go.RowKit
variable {R : Rst}

set_option maxRecDepth 8000 in
set_option maxHeartbeats 3200000 in
/-- a sample behind two others, at an even step and of the last one's value -/
theorem put_even (g : Nat) (v : Value) (bs : List Bool) (n f : Nat) (t t' gap : Int) (th : Bool) (ld tl : Int) (w : World) (hw : Wr (past n t f gap th ld tl) w g v bs) (hT : TabC w) (hgt : g ≠ 1) (hvt : v.ownBlock ≠ some 1) (hn : 2 ≤ n ∧ n ≤ 1000) (hf : f < 18446744073709551616) (ht : 0 ≤ t ∧ t ≤ 1125899906842624) (ht' : t ≤ t' ∧ t' ≤ 1125899906842624) (hgap : t' - t = gap) (hsz : bs.length + 100 ≤ 8388608) :
    Calls Tryd.prog 32 #[.pointer (some ⟨g, 0, none⟩), .agg #[.int .i64 t', .float .f64 f]] w fun e w' => e = .returned (.tuple #[]) ∧ ∃ v', Wr (past (n + 1) t' f gap th ld tl) w' g v' (bs ++ [false] ++ [false]) ∧ Fw w w' g v v' := by
  have HW : Hid (Wr (past n t f gap th ld tl) w g v bs) := hw
  obtain ⟨c2, c3, -, c5, -, -, -, fz⟩ := hw.cell
  have hlt : g < w.heap.size := hw.cells.2.2.2.2
  simp only [past] at c2 c3 c5
  have HX : Hid (IntKind.i64.wrap (IntKind.i64.wrap (t' - t) - gap) = 0) := by
    show IntKind.i64.wrap (IntKind.i64.wrap (t' - t) - gap) = 0
    have h1 : IntKind.i64.wrap (t' - t) = gap := by rw [IntKind.wrap_i64]; omega
    rw [h1, Int.sub_self]
    rfl
  have halo : Hid (w.grownBy (w.alloc (.cells #[.int .i64 t', .float .f64 f] 27)) none ∧ (w.alloc (.cells #[.int .i64 t', .float .f64 f] 27)).heap[w.heap.size]? = some (.cells #[.int .i64 t', .float .f64 f] 27 (0, 0))) := ⟨alloc_gb _ _, Go.heap_alloc_new w _⟩
  have HWa : Hid (Wr (past n t f gap th ld tl) (w.alloc (.cells #[.int .i64 t', .float .f64 f] 27)) g v bs ∧ TabC (w.alloc (.cells #[.int .i64 t', .float .f64 f] 27)) ∧ g ≠ 1 ∧ v.ownBlock ≠ some 1) := ⟨HW.out.keep halo.out.1, hT.keep halo.out.1, hgt, hvt⟩
  have hsl : Hid (w.heap.size < (w.alloc (.cells #[.int .i64 t', .float .f64 f] 27)).heap.size ∧ g < w.heap.size ∧ v.ownBlock ≠ some w.heap.size) := ⟨by simp, hlt, fun e => by have := HW.out.2.lt _ e; omega⟩
  have hn0 : ((n : Int) == 0) = false := by simp; omega
  have hn1 : ((n : Int) == 1) = false := by simp; omega
  have hn0' : ¬ (n : Int) = 0 := by omega
  have hn1' : ¬ (n : Int) = 1 := by omega
  have HGap : Hid (t' - t = gap) := hgap
  clear hw fz hT hgt hvt hgap
  go_enter Tryd.func32, Tryd.ntmps32
  go_wp2_with fail
  generalize hW0 : w.alloc (.cells #[.int .i64 t', .float .f64 f] 27) = W0 at *
  generalize hb0 : w.heap.size = b0 at *
  have HAp : Hid (W0.heap[b0]? = some (.cells #[.int .i64 t', .float .f64 f] 27 (0, 0)) ∧ b0 < W0.heap.size ∧ b0 ≠ g ∧ v.ownBlock ≠ some b0) := ⟨halo.out.2, hsl.out.1, by have := hsl.out.2.1; omega, hsl.out.2.2⟩
  have HS : Hid (∀ W' v', Fw W0 W' g v v' → W'.cell? ⟨b0, 0, none⟩ = some (.int .i64 t') ∧ W'.cell? ⟨b0, 1, none⟩ = some (.float .f64 f)) := fun W' v' hF => by
    have hb : W'.heap[b0]? = some (.cells #[.int .i64 t', .float .f64 f] 27 (0, 0)) := by
      rw [hF.block _ HAp.out.2.1 HAp.out.2.2.1 HAp.out.2.2.2.symm]
      exact HAp.out.1
    exact ⟨by simp [World.cell?, hb], by simp [World.cell?, hb]⟩
  have HQ : Hid (∀ X W, X = (0 : Int) → W0.grownBy W none → Calls Tryd.prog 56 #[.pointer (some ⟨g, 0, none⟩), .int .i64 X] W fun e w' => e = .returned (.tuple #[]) ∧ (w'.cell? ⟨b0, 0, none⟩ = some (.int .i64 t') ∧ w'.cell? ⟨g, 3, none⟩ = some (.int .i64 t) ∧ w'.cell? ⟨g, 5, none⟩ = some (.int .i64 gap)) ∧ w'.cell? ⟨b0, 1, none⟩ = some (.float .f64 f) ∧ Hid (∃ v', Wr (past n t f gap th ld tl) w' g v' (bs ++ [false]) ∧ Fw W0 w' g v v')) := fun X W hX hW => by
    rw [hX]
    refine (putTurn_zero g v bs W (HWa.out.1.keep hW) (HWa.out.2.1.keep hW) HWa.out.2.2.1 HWa.out.2.2.2 (by omega)).mono ?_
    rintro e w2 ⟨rfl, v2, hw2, hf2⟩
    have hF := Fw.pre hW hf2
    exact ⟨rfl, ⟨(HS.out _ _ hF).1, hw2.cell.2.1, hw2.cell.2.2.2.1⟩, (HS.out _ _ hF).2, v2, hw2, hF⟩
  have e0 : W0.cell? ⟨b0, 0, none⟩ = some (.int .i64 t') := (HS.out _ _ (Fw.refl _ _ _)).1
  have e3 : W0.cell? ⟨g, 3, none⟩ = some (.int .i64 t) := HWa.out.1.cell.2.1
  have e5 : W0.cell? ⟨g, 5, none⟩ = some (.int .i64 gap) := HWa.out.1.cell.2.2.2.1
  clear c2 c3 c5 hb0 hW0 hsl
  go_region_held3 (fun w' => w'.cell? ⟨b0, 0, none⟩ = some (.int .i64 t') ∧ w'.cell? ⟨g, 3, none⟩ = some (.int .i64 t) ∧ w'.cell? ⟨g, 5, none⟩ = some (.int .i64 gap)) (go_keep)
    (first | (go_at_call 56; refine (HQ.out _ _ HX.out ?_).mono ?_; (first | exact gb_refl _ _ | exact gb_drew _ _); rintro e w2 ⟨rfl, ⟨k0, k3, k5⟩, k1, H2⟩))
  go_wp2_with fail
  obtain ⟨v2, hw2, hf2⟩ := H2.out
  refine (putValue_same g v2 _ n f t gap th ld tl _ hw2 hf (by rw [List.length_append]; simp; omega)).mono ?_
  rintro e w3 ⟨rfl, v3, hw3, hf3⟩
  have H3 : Hid (∃ v', Wr (past n t f gap th ld tl) w3 g v' (bs ++ [false] ++ [false]) ∧ Fw W0 w3 g v v') := ⟨v3, hw3, hf2.trans hf3⟩
  have j0 := (HS.out _ _ (hf2.trans hf3)).1
  have j1 := (HS.out _ _ (hf2.trans hf3)).2
  clear hw2 hf2 hw3 hf3 H2 k0 k3 k1 k5
  have HA : Hid (∀ W, w3.grownBy W none → Calls Tryd.prog 57 #[.pointer (some ⟨g, 2, none⟩), .agg #[.int .i64 t', .float .f64 f]] W fun e w' => e = .returned (.tuple #[]) ∧ (w'.cell? ⟨b0, 0, none⟩ = some (.int .i64 t') ∧ w'.cell? ⟨b0, 1, none⟩ = some (.float .f64 f)) ∧ Hid (∃ v', Wr (past (n + 1) t' f gap th ld tl) w' g v' (bs ++ [false] ++ [false]) ∧ Fw w w' g v v')) := fun W hW => by
    obtain ⟨v4, hw4, hf4⟩ := H3.out
    refine (add_any g v4 _ n f f t t' gap th ld tl W (hw4.keep hW) (by omega) ht (by omega)).mono ?_
    rintro e w5 ⟨rfl, hw5, hf5⟩
    rw [HGap.out] at hw5
    have hF := (hf4.trans (Fw.of_none hW g v4)).trans hf5
    exact ⟨rfl, HS.out _ _ hF, v4, hw5, Fw.pre halo.out.1 hF⟩
  go_wp2_with fail
  go_region_held3 (fun w' => w'.cell? ⟨b0, 0, none⟩ = some (.int .i64 t') ∧ w'.cell? ⟨b0, 1, none⟩ = some (.float .f64 f)) (go_keep)
    (first | (go_at_call 57; refine (HA.out _ ?_).mono ?_; (first | exact gb_refl _ _ | exact gb_drew _ _); rintro e w5 ⟨rfl, ⟨g0, g1⟩, H5⟩))
  go_wp2
  go_end0
  exact ⟨rfl, H5.out⟩

theorem len_any (g : Nat) (v : Value) (bs : List Bool) (n f : Nat) (t gap : Int) (th : Bool) (ld tl : Int) (w : World) (hw : Wr (past n t f gap th ld tl) w g v bs) :
    Calls Tryd.prog 13 #[.pointer (some ⟨g, 0, none⟩)] w fun e w' => e = .returned (.int .i64 (n : Int)) ∧ w' = w := by
  obtain ⟨c2, -⟩ := hw.cell
  simp only [past] at c2
  clear hw
  go_enter Tryd.func13, Tryd.ntmps13
  go_wp2
  go_ret
  exact ⟨rfl, rfl⟩

/-- a chunk's bytes -/
def ckBytes (n : Nat) (bs : List Bool) : List UInt8 := [0, UInt8.ofNat n] ++ pack bs

set_option maxHeartbeats 1600000 in
theorem bytes_any (g : Nat) (v : Value) (bs : List Bool) (n f : Nat) (t gap : Int) (th : Bool) (ld tl : Int) (w : World) (hw : Wr (past n t f gap th ld tl) w g v bs) (hn : n < 256) (hsz : bs.length ≤ 8388608) :
    Calls Tryd.prog 16 #[.pointer (some ⟨g, 0, none⟩)] w fun e w' => ∃ v', e = .returned v' ∧ Own w' w.heap.size v' (ckBytes n bs) ∧ w.grownBy w' none := by
  have HW : Hid (Wr (past n t f gap th ld tl) w g v bs) := hw
  obtain ⟨c2, -⟩ := hw.cell
  simp only [past] at c2
  clear hw
  go_enter Tryd.func16, Tryd.ntmps16
  go_wp2_with fail
  go_region
  go_wp2_with fail
  have hdiv : (n : Int) / 256 = 0 := by omega
  rw [hdiv]
  have hlit : Own (w.alloc (.cells #[.int .u8 0, .int .u8 (n : Int)] 5)) w.heap.size (.slice (some ⟨w.heap.size, 0, none⟩) 2 2) [0, UInt8.ofNat n] := by
    have h := World.ownsRow_lit (size := 1) (e := 5) w #[.int .u8 0, .int .u8 (n : Int)] 2 (Nat.le_refl _) (by simp [maxLen]) rfl
    have e : (#[Value.int .u8 0, .int .u8 (n : Int)] : Array Value).toList = [0, UInt8.ofNat n].map bv := by
      have : ((UInt8.ofNat n).toNat : Int) = (n : Int) := by rw [UInt8.toNat_ofNat']; omega
      simp only [List.map_cons, List.map_nil, bv, this]
      rfl
    unfold Own
    rw [← e]
    exact h
  have HL : Hid (Own (w.alloc (.cells #[.int .u8 0, .int .u8 (n : Int)] 5)).drew w.heap.size (.slice (some ⟨w.heap.size, 0, none⟩) 2 2) [0, UInt8.ofNat n] ∧ w.grownBy (w.alloc (.cells #[.int .u8 0, .int .u8 (n : Int)] 5)).drew none) := ⟨hlit.keep (gb_drew _ none), gb_none (alloc_gb _ _) (gb_drew _ none)⟩
  clear hlit
  generalize (w.alloc (.cells #[.int .u8 0, .int .u8 (n : Int)] 5)).drew = W at *
  refine (wbytes_any g v bs W (HW.out.keep HL.out.2) hsz).mono ?_
  rintro e w1 ⟨v1, rfl, ho1, hg1⟩
  have H1 : Hid (Own w1 W.heap.size v1 (pack bs) ∧ W.grownBy w1 none) := ⟨ho1, hg1⟩
  clear ho1 hg1
  have hpl : (pack bs).length ≤ 1048576 := by rw [pack_len]; omega
  go_wp2_with (at_builtin; refine wp_app rfl _ _ rfl w.heap.size _ _ [0, UInt8.ofNat n] (pack bs) rfl rfl (HL.out.1.keep H1.out.2) H1.out.1.rd ?c1 ?c2 ?_)
  case c1 => simp; omega
  case c2 => have := HL.out.2.size; have := H1.out.2.size; omega
  intro v2 w2 ho2 hf2
  have H2 : Hid (Own w2 w.heap.size v2 (ckBytes n bs) ∧ w.grownBy w2 none) := ⟨ho2, hf2.new (gb_none HL.out.2 H1.out.2) (fun k hk => by simp [Value.ownBlock] at hk; omega)⟩
  clear ho2 hf2
  go_wp2
  go_ret
  exact ⟨_, rfl, H2.out⟩

set_option maxHeartbeats 1600000 in
theorem append_ok (g : Nat) (v : Value) (bs : List Bool) (n f0 f : Nat) (t0 t gap : Int) (th : Bool) (ld tl : Int) (w : World) (Q : World → Prop) (hw : Wr (past n t0 f0 gap th ld tl) w g v bs) (ht : 0 ≤ t ∧ t ≤ 1125899906842624) (hn : n = 0 ∨ t0 < t) (hn2 : n < 120)
    (HP : Calls Tryd.prog 32 #[.pointer (some ⟨g, 0, none⟩), .agg #[.int .i64 t, .float .f64 f]] w fun e w' => e = .returned (.tuple #[]) ∧ Q w') :
    Calls Tryd.prog 11 #[.pointer (some ⟨g, 0, none⟩), .int .i64 t, .float .f64 f] w fun e w' => e = .returned (.int .i64 0) ∧ Q w' := by
  have HP2 : Hid (Calls Tryd.prog 32 #[.pointer (some ⟨g, 0, none⟩), .agg #[.int .i64 t, .float .f64 f]] w fun e w' => e = .returned (.tuple #[]) ∧ Q w') := HP
  obtain ⟨c2, c3, -⟩ := hw.cell
  simp only [past] at c2 c3
  have t1 : ¬ t < 0 := by omega
  have t2 : ¬ (1125899906842624 : Int) < t := by omega
  clear hw HP ht
  by_cases h0 : n = 0
  · subst h0
    go_enter Tryd.func11, Tryd.ntmps11
    go_wp2_with fail
    refine HP2.out.mono ?_
    rintro e w1 ⟨rfl, hq⟩
    have HQ : Hid (Q w1) := hq
    clear hq
    go_wp2
    go_ret
    exact ⟨rfl, HQ.out⟩
  · have hlt : ¬ t ≤ t0 := by omega
    have hpos : (0 : Int) < (n : Int) := by omega
    have h120 : ((n : Int) == 120) = false := by simp; omega
    have h120' : ¬ (n : Int) = 120 := by omega
    clear hn h0
    go_enter Tryd.func11, Tryd.ntmps11
    go_wp2_with fail
    refine HP2.out.mono ?_
    rintro e w1 ⟨rfl, hq⟩
    have HQ : Hid (Q w1) := hq
    clear hq
    go_wp2
    go_ret
    exact ⟨rfl, HQ.out⟩

set_option maxHeartbeats 1600000 in
theorem append_old (g : Nat) (v : Value) (bs : List Bool) (n f0 f : Nat) (t0 t gap : Int) (th : Bool) (ld tl : Int) (w : World) (hw : Wr (past n t0 f0 gap th ld tl) w g v bs) (ht : 0 ≤ t ∧ t ≤ 1125899906842624) (hn : 0 < n) (hlt : t ≤ t0) :
    Calls Tryd.prog 11 #[.pointer (some ⟨g, 0, none⟩), .int .i64 t, .float .f64 f] w fun e w' => e = .returned (.int .i64 90) ∧ w.grownBy w' none := by
  obtain ⟨c2, c3, -⟩ := hw.cell
  simp only [past] at c2 c3
  have t1 : ¬ t < 0 := by omega
  have t2 : ¬ (1125899906842624 : Int) < t := by omega
  have hpos : (0 : Int) < (n : Int) := by omega
  clear hw ht hn
  go_enter Tryd.func11, Tryd.ntmps11
  go_wp2
  go_ret
  exact ⟨rfl, gb_refl _ _⟩
end Go.Proofs.YtkiefmhampfhoaaDoor
