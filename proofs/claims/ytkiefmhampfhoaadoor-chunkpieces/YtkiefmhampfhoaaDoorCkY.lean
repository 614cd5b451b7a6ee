/-
  A chunk's samples: what (*Chunk).putValue, put and Append come to, whatever the sample: the walks.
-/
import Derived.Test.YtkiefmhampfhoaaDoorCkX
namespace Go.Proofs.YtkiefmhampfhoaaDoor
open Go.RowKit
variable {R : Rst}

set_option maxRecDepth 8000 in
set_option maxHeartbeats 1600000 in
theorem putValue_any (g : Nat) (v : Value) (bs : List Bool) (st : Pst) (f' : Nat) (w : World) (hw : Wr (past st.n st.t st.f st.gap st.th (st.ld : Int) (st.tl : Int)) w g v bs) (hf : st.f < 18446744073709551616) (hf' : f' < 18446744073709551616) (hT : TabZ w) (hg : g ≠ 2) (hv : v.ownBlock ≠ some 2) (hwin : st.ld + st.tl < 64) (hsz : bs.length + 300 ≤ 8388608) :
    Calls Tryd.prog 55 #[.pointer (some ⟨g, 0, none⟩), .float .f64 f'] w fun e w' => e = .returned (.tuple #[]) ∧ ∃ v', Wr (past st.n st.t st.f st.gap (valW st f').1 ((valW st f').2.1 : Int) ((valW st f').2.2 : Int)) w' g v' (bs ++ valB st f') ∧ Fw w w' g v v' := by
  have HW : Hid (Wr (past st.n st.t st.f st.gap st.th (st.ld : Int) (st.tl : Int)) w g v bs ∧ TabZ w ∧ g ≠ 2 ∧ v.ownBlock ≠ some 2) := ⟨hw, hT, hg, hv⟩
  obtain ⟨-, -, c4, -, -, -, -, -⟩ := hw.cell
  simp only [past] at c4
  have hfb := fbits_run f'
  have hfb2 := fbits_run st.f
  have hxl : st.f ^^^ f' < 18446744073709551616 := xor_lt hf hf'
  have hx : bits .xor .u64 (f' : Int) (st.f : Int) = ((st.f ^^^ f' : Nat) : Int) := by
    have h := I64_xor (BitVec.ofNat 64 f') (BitVec.ofNat 64 st.f)
    rw [I64_of hf, I64_of hf'] at h
    rw [h]
    unfold I64
    rw [BitVec.toNat_xor, BitVec.toNat_ofNat, BitVec.toNat_ofNat, Nat.mod_eq_of_lt hf, Nat.mod_eq_of_lt hf', Nat.xor_comm]
  have hvB : Hid (valB st f' = if st.f ^^^ f' = 0 then [false] else true :: turnedB st (st.f ^^^ f')) := rfl
  have hvW : Hid (valW st f' = if st.f ^^^ f' = 0 ∨ fitsW st (st.f ^^^ f') = true then (st.th, st.ld, st.tl) else (true, leadN (st.f ^^^ f'), tailN (st.f ^^^ f'))) := rfl
  clear hw hT hg hv
  generalize st.f ^^^ f' = x at *
  by_cases h0 : x = 0
  · subst h0
    have HE : Hid (valB st f' = [false] ∧ valW st f' = (st.th, st.ld, st.tl)) := ⟨by rw [hvB.out, if_pos rfl], by rw [hvW.out, if_pos (.inl rfl)]⟩
    clear hvB hvW
    generalize valB st f' = VB at *
    generalize valW st f' = VW at *
    go_enter Tryd.func55, Tryd.ntmps55
    go_wp2_with fail
    go_region
    go_wp2_with fail
    refine (wbit_ok g v bs false _ (HW.out.1.keep (gb_drew _ none)) (by omega)).mono ?_
    rintro e w1 ⟨rfl, v1, hw1, hf1⟩
    have H1 : Hid (∃ v', Wr (past st.n st.t st.f st.gap VW.1 (VW.2.1 : Int) (VW.2.2 : Int)) w1 g v' (bs ++ VB) ∧ Fw w w1 g v v') := by
      rw [HE.out.1, HE.out.2]
      exact ⟨v1, hw1, Fw.pre (gb_drew _ none) hf1⟩
    clear hw1 hf1 HE
    go_wp2
    go_end0
    exact ⟨rfl, H1.out⟩
  · have hb0 : ((x : Int) == 0) = false := by simpa using h0
    have hbn : ((x : Int) != 0) = true := by simp [h0]
    have HE : Hid (valB st f' = true :: turnedB st x ∧ (valW st f').1 = (if fitsW st x = true then st.th else true) ∧ (valW st f').2.1 = (if fitsW st x = true then st.ld else leadN x) ∧ (valW st f').2.2 = (if fitsW st x = true then st.tl else tailN x)) := by
      refine ⟨by rw [hvB.out, if_neg h0], ?_⟩
      rw [hvW.out]
      by_cases hfi : fitsW st x = true
      · rw [if_pos (.inr hfi), if_pos hfi, if_pos hfi, if_pos hfi]; exact ⟨rfl, rfl, rfl⟩
      · rw [if_neg (by simp [h0, hfi]), if_neg hfi, if_neg hfi, if_neg hfi]; exact ⟨rfl, rfl, rfl⟩
    clear hvB hvW
    generalize valB st f' = VB at *
    generalize valW st f' = VW at *
    go_enter Tryd.func55, Tryd.ntmps55
    go_wp2_with fail
    go_region
    go_wp2_with fail
    refine (wbit_ok g v bs true _ (HW.out.1.keep (gb_drew _ none)) (by omega)).mono ?_
    rintro e w1 ⟨rfl, v1, hw1, hf1⟩
    have hF := Fw.pre (gb_drew w none) hf1
    have HP : Hid (Calls Tryd.prog 79 #[.pointer (some ⟨g, 0, none⟩), .int .u64 (x : Int)] w1 fun e w' => e = .returned (.tuple #[]) ∧ ∃ v', Wr (past st.n st.t st.f st.gap VW.1 (VW.2.1 : Int) (VW.2.2 : Int)) w' g v' (bs ++ VB) ∧ Fw w w' g v v') := by
      have hb2 : 2 < w.heap.size := block_lt (HW.out.2.1 0 (by decide))
      refine (putTurned_any g v1 _ st x w1 hw1 h0 hxl (HW.out.2.1.fw hF HW.out.2.2.1 HW.out.2.2.2) HW.out.2.2.1 (fun e => ?_) hwin (by rw [List.length_append]; simp; omega)).mono ?_
      · rcases hF.own _ e with h | h
        · exact HW.out.2.2.2 h.symm
        · omega
      · rintro e w2 ⟨rfl, v2, q1, q2⟩
        rw [HE.out.1, HE.out.2.1, HE.out.2.2.1, HE.out.2.2.2]
        rw [List.append_assoc] at q1
        exact ⟨rfl, v2, q1, hF.trans q2⟩
    clear hw1 hf1 hF HE
    go_wp2_with fail
    refine HP.out.mono ?_
    rintro e w2 ⟨rfl, hq⟩
    have H2 : Hid (∃ v', Wr (past st.n st.t st.f st.gap VW.1 (VW.2.1 : Int) (VW.2.2 : Int)) w2 g v' (bs ++ VB) ∧ Fw w w2 g v v') := hq
    clear hq HP
    go_wp2
    go_end0
    exact ⟨rfl, H2.out⟩

/-- a chunk's cells behind its stream, of a state -/
def pst (st : Pst) : Rst := past st.n st.t st.f st.gap st.th (st.ld : Int) (st.tl : Int)
/-- the tables lie there, and not in the chunk's blocks -/
structure Tabs (w : World) (g : Nat) (v : Value) : Prop where
  c : TabC w
  z : TabZ w
  gc : g ≠ 1
  gz : g ≠ 2
  vc : v.ownBlock ≠ some 1
  vz : v.ownBlock ≠ some 2
theorem Tabs.keep {w w' : World} {g : Nat} {v : Value} (h : Tabs w g v) (hg : w.grownBy w' none) : Tabs w' g v := ⟨h.c.keep hg, h.z.keep hg, h.gc, h.gz, h.vc, h.vz⟩
theorem Tabs.fw {w w' : World} {g : Nat} {v v' : Value} (h : Tabs w g v) (hf : Fw w w' g v v') : Tabs w' g v' := by
  have h1 : 1 < w.heap.size := block_lt (h.c 0 (by omega))
  have h2 : 2 < w.heap.size := block_lt (h.z 0 (by decide))
  refine ⟨h.c.fw hf h.gc h.vc, h.z.fw hf h.gz h.vz, h.gc, h.gz, fun e => ?_, fun e => ?_⟩
  · rcases hf.own _ e with q | q
    · exact h.vc q.symm
    · omega
  · rcases hf.own _ e with q | q
    · exact h.vz q.symm
    · omega

set_option maxRecDepth 8000 in
set_option maxHeartbeats 3200000 in
/-- the second sample -/
theorem put_two (g : Nat) (v : Value) (bs : List Bool) (st : Pst) (t' : Int) (f' : Nat) (w : World) (hw : Wr (pst st) w g v bs) (hs : OkP st) (hT : Tabs w g v) (hn : st.n = 1) (ht : st.t < t' ∧ t' ≤ 1125899906842624) (hf : f' < 18446744073709551616) (hsz : bs.length + 1000 ≤ 8388608) :
    Calls Tryd.prog 32 #[.pointer (some ⟨g, 0, none⟩), .agg #[.int .i64 t', .float .f64 f']] w fun e w' => e = .returned (.tuple #[]) ∧ ∃ v', Wr (pst (nextP st t' f')) w' g v' (bs ++ smpB st t' f') ∧ Fw w w' g v v' := by
  obtain ⟨n, t, f, gap, th, ld, tl⟩ := st
  obtain rfl : n = 1 := hn
  obtain ⟨-, hti, hfb, -, hwin⟩ := hs
  simp only at hti hfb hwin ht
  have HEq : Hid (smpB ⟨1, t, f, gap, th, ld, tl⟩ t' f' = bytesBits (uv (t' - t).toNat) ++ valB ⟨1, t, f, gap, th, ld, tl⟩ f' ∧ pst (nextP ⟨1, t, f, gap, th, ld, tl⟩ t' f') = past 2 t' f' (t' - t) (valW ⟨1, t, f, gap, th, ld, tl⟩ f').1 ((valW ⟨1, t, f, gap, th, ld, tl⟩ f').2.1 : Int) ((valW ⟨1, t, f, gap, th, ld, tl⟩ f').2.2 : Int)) := ⟨rfl, rfl⟩
  have hw : Wr (past 1 t f gap th (ld : Int) (tl : Int)) w g v bs := hw
  generalize smpB ⟨1, t, f, gap, th, ld, tl⟩ t' f' = SB at *
  generalize nextP ⟨1, t, f, gap, th, ld, tl⟩ t' f' = NP at *
  obtain ⟨d, hd⟩ : ∃ d : Nat, t' - t = (d : Int) := ⟨(t' - t).toNat, by omega⟩
  rw [show (t' - t).toNat = d by omega] at HEq
  have HX : Hid (IntKind.u64.wrap (IntKind.i64.wrap (t' - t)) = t' - t) := wrap_both (by omega) (by omega)
  have HW : Hid (Wr (past 1 t f gap th (ld : Int) (tl : Int)) w g v bs) := hw
  obtain ⟨c2, c3, -, -, -, -, -, fz⟩ := hw.cell
  have hlt : g < w.heap.size := hw.cells.2.2.2.2
  simp only [past] at c2 c3
  clear hw fz
  have halo : Hid (w.grownBy (w.alloc (.cells #[.int .i64 t', .float .f64 f'] 27)) none ∧ (w.alloc (.cells #[.int .i64 t', .float .f64 f'] 27)).heap[w.heap.size]? = some (.cells #[.int .i64 t', .float .f64 f'] 27 (0, 0))) := ⟨alloc_gb _ _, Go.heap_alloc_new w _⟩
  have HWa : Hid (Wr (past 1 t f gap th (ld : Int) (tl : Int)) (w.alloc (.cells #[.int .i64 t', .float .f64 f'] 27)) g v bs ∧ Tabs (w.alloc (.cells #[.int .i64 t', .float .f64 f'] 27)) g v) := ⟨HW.out.keep halo.out.1, hT.keep halo.out.1⟩
  have hsl : Hid (w.heap.size < (w.alloc (.cells #[.int .i64 t', .float .f64 f'] 27)).heap.size ∧ g < w.heap.size ∧ v.ownBlock ≠ some w.heap.size) := ⟨by simp, hlt, fun e => by have := HW.out.2.lt _ e; omega⟩
  clear hT
  go_enter Tryd.func32, Tryd.ntmps32
  go_wp2_with fail
  have hd0 : Hid (0 ≤ t' - t ∧ t' - t ≤ 1125899906842624) := ⟨by omega, by omega⟩
  have HD : Hid (t' - t = (d : Int) ∧ d ≤ 1125899906842624 ∧ (uv d).length ≤ 10 ∧ (BitVec.ofNat 64 d).toNat = d) := by
    have e : (BitVec.ofNat 64 d).toNat = d := by rw [BitVec.toNat_ofNat]; omega
    have h1 := uv_len64 (BitVec.ofNat 64 d)
    rw [e] at h1
    exact ⟨hd, by omega, h1, e⟩
  generalize hW0 : w.alloc (.cells #[.int .i64 t', .float .f64 f'] 27) = W0 at *
  generalize hb0 : w.heap.size = b0 at *
  have HAp : Hid (W0.heap[b0]? = some (.cells #[.int .i64 t', .float .f64 f'] 27 (0, 0)) ∧ b0 < W0.heap.size ∧ b0 ≠ g ∧ v.ownBlock ≠ some b0) := ⟨halo.out.2, hsl.out.1, by have := hsl.out.2.1; omega, hsl.out.2.2⟩
  have HS : Hid (∀ W' v', Fw W0 W' g v v' → W'.cell? ⟨b0, 0, none⟩ = some (.int .i64 t') ∧ W'.cell? ⟨b0, 1, none⟩ = some (.float .f64 f')) := fun W' v' hF => by
    have hb : W'.heap[b0]? = some (.cells #[.int .i64 t', .float .f64 f'] 27 (0, 0)) := by
      rw [hF.block _ HAp.out.2.1 HAp.out.2.2.1 HAp.out.2.2.2.symm]
      exact HAp.out.1
    exact ⟨by simp [World.cell?, hb], by simp [World.cell?, hb]⟩
  have HP : Hid (∀ X W, X = t' - t → W0.grownBy W none → Calls Tryd.prog 54 #[.slice none 0 0, .int .u64 X] W fun e w' => ∃ v1, e = .returned v1 ∧ (w'.cell? ⟨b0, 0, none⟩ = some (.int .i64 t') ∧ w'.cell? ⟨g, 3, none⟩ = some (.int .i64 t)) ∧ Hid (Own w' W.heap.size v1 (uv d) ∧ W0.grownBy W none ∧ W.grownBy w' none)) := fun X W hX hW => by
    have hx : t' - t = I64 (BitVec.ofNat 64 d) := by rw [HD.out.1, I64_of (by have := HD.out.2.1; omega)]
    rw [hX, hx]
    refine (putU_any _ [] (BitVec.ofNat 64 d) _ (Rd.nil _) (by simp)).mono ?_
    rintro e w1 ⟨v1, rfl, ho1, hg1⟩
    rw [List.nil_append, HD.out.2.2.2] at ho1
    refine ⟨v1, rfl, ⟨(HS.out _ _ (Fw.of_none (gb_none hW hg1) g v)).1, ?_⟩, ho1, hW, hg1⟩
    exact ((HWa.out.1.keep hW).keep hg1).cell.2.1
  have HQ : Hid (∀ W w1 v1, Own w1 W.heap.size v1 (uv d) ∧ W0.grownBy W none ∧ W.grownBy w1 none → ∀ W2, w1.grownBy W2 none → Calls Tryd.prog 50 #[.pointer (some ⟨g, 0, none⟩), v1] W2 fun e w' => e = .returned (.tuple #[]) ∧ (w'.cell? ⟨b0, 0, none⟩ = some (.int .i64 t') ∧ w'.cell? ⟨g, 3, none⟩ = some (.int .i64 t)) ∧ w'.cell? ⟨b0, 1, none⟩ = some (.float .f64 f') ∧ Hid (∃ v', Wr (past 1 t f gap th (ld : Int) (tl : Int)) w' g v' (bs ++ bytesBits (uv d)) ∧ Fw W0 w' g v v')) := fun W w1 v1 h W2 h2 => by
    obtain ⟨h1, h3, h4⟩ := h
    have hW := HWa.out.1.keep h3
    refine (putBytes_any g v v1 bs (uv d) _ ((hW.keep h4).keep h2) (h1.rd.keep h2) (new_apart hW h1) (by have := HD.out.2.2.1; omega)).mono ?_
    rintro e w2 ⟨rfl, v2, hw2, hf2⟩
    have hF := Fw.pre (gb_none (gb_none h3 h4) h2) hf2
    exact ⟨rfl, ⟨(HS.out _ _ hF).1, hw2.cell.2.1⟩, (HS.out _ _ hF).2, v2, hw2, hF⟩
  have e0 : W0.cell? ⟨b0, 0, none⟩ = some (.int .i64 t') := (HS.out _ _ (Fw.refl _ _ _)).1
  have e3 : W0.cell? ⟨g, 3, none⟩ = some (.int .i64 t) := HWa.out.1.cell.2.1
  clear c2 c3 hd hb0 hW0 hsl
  go_region_held3 (fun w' => w'.cell? ⟨b0, 0, none⟩ = some (.int .i64 t') ∧ w'.cell? ⟨g, 3, none⟩ = some (.int .i64 t)) (go_keep)
    (first
      | (go_at_call 54; refine (HP.out _ _ HX.out ?_).mono ?_; (first | exact gb_refl _ _ | exact gb_drew _ _); rintro e w1 ⟨v1, rfl, ⟨f0, f3⟩, H1⟩)
      | (go_at_call 50; refine (HQ.out _ _ _ H1.out _ ?_).mono ?_; (first | exact gb_refl _ _ | exact gb_drew _ _); rintro e w2 ⟨rfl, ⟨k0, k3⟩, k1, H2⟩))
  have HBd : Hid ((bs ++ bytesBits (uv d)).length + 300 ≤ 8388608) := by
    show (bs ++ bytesBits (uv d)).length + 300 ≤ 8388608
    have := HD.out.2.2.1
    rw [List.length_append, bytesBits_len]
    omega
  have HV : Hid (Calls Tryd.prog 55 #[.pointer (some ⟨g, 0, none⟩), .float .f64 f'] w2 fun e w' => e = .returned (.tuple #[]) ∧ (w'.cell? ⟨b0, 0, none⟩ = some (.int .i64 t') ∧ w'.cell? ⟨b0, 1, none⟩ = some (.float .f64 f')) ∧ Hid (∃ v', Wr (past 1 t f gap (valW ⟨1, t, f, gap, th, ld, tl⟩ f').1 ((valW ⟨1, t, f, gap, th, ld, tl⟩ f').2.1 : Int) ((valW ⟨1, t, f, gap, th, ld, tl⟩ f').2.2 : Int)) w' g v' (bs ++ SB) ∧ Fw W0 w' g v v')) := by
    obtain ⟨v2, hw2, hf2⟩ := H2.out
    have hT2 := HWa.out.2.fw hf2
    refine (putValue_any g v2 _ ⟨1, t, f, gap, th, ld, tl⟩ f' _ hw2 hfb hf hT2.z hT2.gz hT2.vz hwin.2 HBd.out).mono ?_
    rintro e w3 ⟨rfl, v3, hw3, hf3⟩
    rw [List.append_assoc, ← HEq.out.1] at hw3
    exact ⟨rfl, HS.out _ _ (hf2.trans hf3), v3, hw3, hf2.trans hf3⟩
  go_wp2_with fail
  refine HV.out.mono ?_
  rintro e w3 ⟨rfl, ⟨j0, j1⟩, H3⟩
  clear H2 k0 k3 k1 HV
  have HA : Hid (∀ W, w3.grownBy W none → Calls Tryd.prog 57 #[.pointer (some ⟨g, 2, none⟩), .agg #[.int .i64 t', .float .f64 f']] W fun e w' => e = .returned (.tuple #[]) ∧ (w'.cell? ⟨b0, 0, none⟩ = some (.int .i64 t') ∧ w'.cell? ⟨b0, 1, none⟩ = some (.float .f64 f')) ∧ Hid (∃ v', Wr (pst NP) w' g v' (bs ++ SB) ∧ Fw w w' g v v')) := fun W hW => by
    obtain ⟨v4, hw4, hf4⟩ := H3.out
    refine (add_any g v4 _ 1 f f' t t' gap _ _ _ W (hw4.keep hW) (by omega) hti (by omega)).mono ?_
    rintro e w5 ⟨rfl, hw5, hf5⟩
    have hF := (hf4.trans (Fw.of_none hW g v4)).trans hf5
    rw [HEq.out.2]
    exact ⟨rfl, HS.out _ _ hF, v4, hw5, Fw.pre halo.out.1 hF⟩
  go_wp2_with fail
  go_region_held3 (fun w' => w'.cell? ⟨b0, 0, none⟩ = some (.int .i64 t') ∧ w'.cell? ⟨b0, 1, none⟩ = some (.float .f64 f')) (go_keep)
    (first | (go_at_call 57; refine (HA.out _ ?_).mono ?_; (first | exact gb_refl _ _ | exact gb_drew _ _); rintro e w5 ⟨rfl, ⟨g0, g1⟩, H5⟩))
  go_wp2
  go_end0
  exact ⟨rfl, H5.out⟩


set_option maxRecDepth 8000 in
set_option maxHeartbeats 3200000 in
/-- a sample behind two others -/
theorem put_more (g : Nat) (v : Value) (bs : List Bool) (st : Pst) (t' : Int) (f' : Nat) (w : World) (hw : Wr (pst st) w g v bs) (hs : OkP st) (hT : Tabs w g v) (hn2 : 2 ≤ st.n) (ht : st.t < t' ∧ t' ≤ 1125899906842624) (hf : f' < 18446744073709551616) (hsz : bs.length + 1000 ≤ 8388608) :
    Calls Tryd.prog 32 #[.pointer (some ⟨g, 0, none⟩), .agg #[.int .i64 t', .float .f64 f']] w fun e w' => e = .returned (.tuple #[]) ∧ ∃ v', Wr (pst (nextP st t' f')) w' g v' (bs ++ smpB st t' f') ∧ Fw w w' g v v' := by
  obtain ⟨n, t, f, gap, th, ld, tl⟩ := st
  obtain ⟨hmo, hti, hfb, hga, hwin⟩ := hs
  simp only at hmo hti hfb hwin ht hga hn2
  have HEq : Hid (smpB ⟨n, t, f, gap, th, ld, tl⟩ t' f' = turnB (t' - t - gap) ++ valB ⟨n, t, f, gap, th, ld, tl⟩ f' ∧ pst (nextP ⟨n, t, f, gap, th, ld, tl⟩ t' f') = past (n + 1) t' f' (t' - t) (valW ⟨n, t, f, gap, th, ld, tl⟩ f').1 ((valW ⟨n, t, f, gap, th, ld, tl⟩ f').2.1 : Int) ((valW ⟨n, t, f, gap, th, ld, tl⟩ f').2.2 : Int)) := by
    have e0 : ¬ n = 0 := by omega
    have e1 : ¬ n = 1 := by omega
    refine ⟨?_, ?_⟩
    · unfold smpB timB
      simp only [e0, e1, if_false]
    · unfold nextP smpW pst
      simp only [e0, if_false]
  have hw : Wr (past n t f gap th (ld : Int) (tl : Int)) w g v bs := hw
  generalize smpB ⟨n, t, f, gap, th, ld, tl⟩ t' f' = SB at *
  generalize nextP ⟨n, t, f, gap, th, ld, tl⟩ t' f' = NP at *
  have HX : Hid (IntKind.i64.wrap (IntKind.i64.wrap (t' - t) - gap) = t' - t - gap) := by
    show IntKind.i64.wrap (IntKind.i64.wrap (t' - t) - gap) = t' - t - gap
    have h1 : IntKind.i64.wrap (t' - t) = t' - t := by rw [IntKind.wrap_i64]; omega
    rw [h1, IntKind.wrap_i64]
    omega
  have HW : Hid (Wr (past n t f gap th (ld : Int) (tl : Int)) w g v bs) := hw
  obtain ⟨c2, c3, -, c5, -, -, -, fz⟩ := hw.cell
  have hlt : g < w.heap.size := hw.cells.2.2.2.2
  simp only [past] at c2 c3 c5
  clear hw fz
  have halo : Hid (w.grownBy (w.alloc (.cells #[.int .i64 t', .float .f64 f'] 27)) none ∧ (w.alloc (.cells #[.int .i64 t', .float .f64 f'] 27)).heap[w.heap.size]? = some (.cells #[.int .i64 t', .float .f64 f'] 27 (0, 0))) := ⟨alloc_gb _ _, Go.heap_alloc_new w _⟩
  have HWa : Hid (Wr (past n t f gap th (ld : Int) (tl : Int)) (w.alloc (.cells #[.int .i64 t', .float .f64 f'] 27)) g v bs ∧ Tabs (w.alloc (.cells #[.int .i64 t', .float .f64 f'] 27)) g v) := ⟨HW.out.keep halo.out.1, hT.keep halo.out.1⟩
  have hsl : Hid (w.heap.size < (w.alloc (.cells #[.int .i64 t', .float .f64 f'] 27)).heap.size ∧ g < w.heap.size ∧ v.ownBlock ≠ some w.heap.size) := ⟨by simp, hlt, fun e => by have := HW.out.2.lt _ e; omega⟩
  have hn0 : ((n : Int) == 0) = false := by simp; omega
  have hn1 : ((n : Int) == 1) = false := by simp; omega
  have hn0' : ¬ (n : Int) = 0 := by omega
  have hn1' : ¬ (n : Int) = 1 := by omega
  clear hT
  go_enter Tryd.func32, Tryd.ntmps32
  go_wp2_with fail
  generalize hW0 : w.alloc (.cells #[.int .i64 t', .float .f64 f'] 27) = W0 at *
  generalize hb0 : w.heap.size = b0 at *
  have HAp : Hid (W0.heap[b0]? = some (.cells #[.int .i64 t', .float .f64 f'] 27 (0, 0)) ∧ b0 < W0.heap.size ∧ b0 ≠ g ∧ v.ownBlock ≠ some b0) := ⟨halo.out.2, hsl.out.1, by have := hsl.out.2.1; omega, hsl.out.2.2⟩
  have HS : Hid (∀ W' v', Fw W0 W' g v v' → W'.cell? ⟨b0, 0, none⟩ = some (.int .i64 t') ∧ W'.cell? ⟨b0, 1, none⟩ = some (.float .f64 f')) := fun W' v' hF => by
    have hb : W'.heap[b0]? = some (.cells #[.int .i64 t', .float .f64 f'] 27 (0, 0)) := by
      rw [hF.block _ HAp.out.2.1 HAp.out.2.2.1 HAp.out.2.2.2.symm]
      exact HAp.out.1
    exact ⟨by simp [World.cell?, hb], by simp [World.cell?, hb]⟩
  have HBd : Hid ((bs ++ turnB (t' - t - gap)).length + 300 ≤ 8388608) := by
    show (bs ++ turnB (t' - t - gap)).length + 300 ≤ 8388608
    have := turnB_len (t' - t - gap)
    rw [List.length_append]
    omega
  have HQ : Hid (∀ X W, X = t' - t - gap → W0.grownBy W none → Calls Tryd.prog 56 #[.pointer (some ⟨g, 0, none⟩), .int .i64 X] W fun e w' => e = .returned (.tuple #[]) ∧ (w'.cell? ⟨b0, 0, none⟩ = some (.int .i64 t') ∧ w'.cell? ⟨g, 3, none⟩ = some (.int .i64 t) ∧ w'.cell? ⟨g, 5, none⟩ = some (.int .i64 gap)) ∧ w'.cell? ⟨b0, 1, none⟩ = some (.float .f64 f') ∧ Hid (∃ v', Wr (past n t f gap th (ld : Int) (tl : Int)) w' g v' (bs ++ turnB (t' - t - gap)) ∧ Fw W0 w' g v v')) := fun X W hX hW => by
    rw [hX]
    refine (putTurn_any g v bs (t' - t - gap) W (HWa.out.1.keep hW) (HWa.out.2.keep hW).c HWa.out.2.gc HWa.out.2.vc (by omega)).mono ?_
    rintro e w2 ⟨rfl, v2, hw2, hf2⟩
    have hF := Fw.pre hW hf2
    exact ⟨rfl, ⟨(HS.out _ _ hF).1, hw2.cell.2.1, hw2.cell.2.2.2.1⟩, (HS.out _ _ hF).2, v2, hw2, hF⟩
  have e0 : W0.cell? ⟨b0, 0, none⟩ = some (.int .i64 t') := (HS.out _ _ (Fw.refl _ _ _)).1
  have e3 : W0.cell? ⟨g, 3, none⟩ = some (.int .i64 t) := HWa.out.1.cell.2.1
  have e5 : W0.cell? ⟨g, 5, none⟩ = some (.int .i64 gap) := HWa.out.1.cell.2.2.2.1
  clear c2 c3 c5 hb0 hW0 hsl
  go_region_held3 (fun w' => w'.cell? ⟨b0, 0, none⟩ = some (.int .i64 t') ∧ w'.cell? ⟨g, 3, none⟩ = some (.int .i64 t) ∧ w'.cell? ⟨g, 5, none⟩ = some (.int .i64 gap)) (go_keep)
    (first | (go_at_call 56; refine (HQ.out _ _ HX.out ?_).mono ?_; (first | exact gb_refl _ _ | exact gb_drew _ _); rintro e w2 ⟨rfl, ⟨k0, k3, k5⟩, k1, H2⟩))
  clear k5
  have HV : Hid (Calls Tryd.prog 55 #[.pointer (some ⟨g, 0, none⟩), .float .f64 f'] w2 fun e w' => e = .returned (.tuple #[]) ∧ (w'.cell? ⟨b0, 0, none⟩ = some (.int .i64 t') ∧ w'.cell? ⟨b0, 1, none⟩ = some (.float .f64 f')) ∧ Hid (∃ v', Wr (past n t f gap (valW ⟨n, t, f, gap, th, ld, tl⟩ f').1 ((valW ⟨n, t, f, gap, th, ld, tl⟩ f').2.1 : Int) ((valW ⟨n, t, f, gap, th, ld, tl⟩ f').2.2 : Int)) w' g v' (bs ++ SB) ∧ Fw W0 w' g v v')) := by
    obtain ⟨v2, hw2, hf2⟩ := H2.out
    have hT2 := HWa.out.2.fw hf2
    refine (putValue_any g v2 _ ⟨n, t, f, gap, th, ld, tl⟩ f' _ hw2 hfb hf hT2.z hT2.gz hT2.vz hwin.2 HBd.out).mono ?_
    rintro e w3 ⟨rfl, v3, hw3, hf3⟩
    rw [List.append_assoc, ← HEq.out.1] at hw3
    exact ⟨rfl, HS.out _ _ (hf2.trans hf3), v3, hw3, hf2.trans hf3⟩
  go_wp2_with fail
  refine HV.out.mono ?_
  rintro e w3 ⟨rfl, ⟨j0, j1⟩, H3⟩
  clear H2 k0 k3 k1 HV
  have HA : Hid (∀ W, w3.grownBy W none → Calls Tryd.prog 57 #[.pointer (some ⟨g, 2, none⟩), .agg #[.int .i64 t', .float .f64 f']] W fun e w' => e = .returned (.tuple #[]) ∧ (w'.cell? ⟨b0, 0, none⟩ = some (.int .i64 t') ∧ w'.cell? ⟨b0, 1, none⟩ = some (.float .f64 f')) ∧ Hid (∃ v', Wr (pst NP) w' g v' (bs ++ SB) ∧ Fw w w' g v v')) := fun W hW => by
    obtain ⟨v4, hw4, hf4⟩ := H3.out
    refine (add_any g v4 _ n f f' t t' gap _ _ _ W (hw4.keep hW) (by omega) hti (by omega)).mono ?_
    rintro e w5 ⟨rfl, hw5, hf5⟩
    have hF := (hf4.trans (Fw.of_none hW g v4)).trans hf5
    rw [HEq.out.2]
    exact ⟨rfl, HS.out _ _ hF, v4, hw5, Fw.pre halo.out.1 hF⟩
  go_wp2_with fail
  go_region_held3 (fun w' => w'.cell? ⟨b0, 0, none⟩ = some (.int .i64 t') ∧ w'.cell? ⟨b0, 1, none⟩ = some (.float .f64 f')) (go_keep)
    (first | (go_at_call 57; refine (HA.out _ ?_).mono ?_; (first | exact gb_refl _ _ | exact gb_drew _ _); rintro e w5 ⟨rfl, ⟨g0, g1⟩, H5⟩))
  go_wp2
  go_end0
  exact ⟨rfl, H5.out⟩

end Go.Proofs.YtkiefmhampfhoaaDoor
