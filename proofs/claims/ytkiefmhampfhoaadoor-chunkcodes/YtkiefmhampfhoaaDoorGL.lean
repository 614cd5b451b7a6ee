/-
  CkSw, CkA5, CkS7, CkSy, in one text.
-/
import Derived.Test.YtkiefmhampfhoaaDoorCkSv
import Derived.Test.YtkiefmhampfhoaaDoorCkA4
import Derived.Deep.Slices
/- CkSw -/
namespace Go.Proofs.YtkiefmhampfhoaaDoor
open Go.RowKit

/-- what has been read is how a chunk begins, where the bytes are a chunk's -/
def Ex (b : List UInt8) (z : Nat) (l : List SmpT) (p : Nat) (bad : Bool) (T D : Int) (V : Nat) (Ld K : Int) : Prop :=
  ∀ m, okL startP m → b = ckB m → bad = false ∧ z ≤ m.length ∧ l = m.take z ∧ p = (encB startP (m.take z)).length ∧ T = (stA startP (m.take z)).t ∧ (2 ≤ z → D = (stA startP (m.take z)).gap) ∧ Of (stA startP (m.take z)) V Ld K

/-- what stands at the place of the next sample -/
structure Nx (L : List UInt8) (m : List SmpT) (z p : Nat) (st : Pst) (x : SmpT) : Prop where
  snoc : m.take (z + 1) = m.take z ++ [x]
  is_ : st = stA startP (m.take z)
  ok : OkP st
  num : st.n = z
  time : 0 ≤ x.1 ∧ x.1 ≤ 1125899906842624
  rise : st.n = 0 ∨ st.t < x.1
  bits : x.2 < 18446744073709551616
  at_ : At L p (8 * L.length) (smpB st x.1 x.2)
  nxt : stA startP (m.take (z + 1)) = nextP st x.1 x.2
  len : (encB startP (m.take (z + 1))).length = p + (smpB st x.1 x.2).length

theorem okL_take {m : List SmpT} (hm : okL startP m) (z : Nat) : okL startP (m.take z) := by
  rw [← List.take_append_drop z m, okL_app] at hm
  exact hm.1
theorem Nx.of {m : List SmpT} (hm : okL startP m) {z : Nat} (hz : z < m.length) : Nx (strL (ckB m)) m z (encB startP (m.take z)).length (stA startP (m.take z)) (m.getD z smZ) := by
  have hsn := take_snocS hz
  have hok1 := okL_take hm (z + 1)
  rw [hsn, okL_snoc] at hok1
  have hs := stA_ok startOk hok1.1
  have q := wrongN_ok hok1.2.1 hs.most
  have hat := packAt (encB startP m)
  rw [← ckB_strL] at hat
  have he : encB startP m = encB startP (m.take z) ++ (smpB (stA startP (m.take z)) (m.getD z smZ).1 (m.getD z smZ).2 ++ encB (stA startP (m.take (z + 1))) (m.drop (z + 1))) := by
    conv => lhs; rw [← List.take_append_drop (z + 1) m]
    rw [encB_app, hsn, encB_snoc, List.append_assoc]
  rw [he] at hat
  have ha := hat.app.2.app.1
  rw [Nat.zero_add] at ha
  refine ⟨hsn, rfl, hs, ?_, q.1, q.2.1, hok1.2.2, ha, ?_, ?_⟩
  · rw [stA_n]
    simp only [startP, List.length_take]
    omega
  · rw [hsn, stA_snoc]
  · rw [hsn, encB_snoc, List.length_append]

theorem uv_most {n : Nat} (h : n < 18446744073709551616) : (uv n).length ≤ 11 := Nat.le_succ_of_le (uv_len_of h)

/-- the first sample -/
theorem Nx.first {L : List UInt8} {m : List SmpT} {p : Nat} {st : Pst} {x : SmpT} (h : Nx L m 0 p st x) :
    ∃ r p1, numO L (8 * L.length) 11 p = some (r, p1) ∧ (uSpec r 0).2.2 = 0 ∧ (uSpec r 0).1 = (2 * x.1).toNat ∧ tkO L (8 * L.length) p1 64 = some (x.2, (encB startP (m.take 1)).length) := by
  have ha := h.at_
  have h0 := h.num
  have hl := h.len
  unfold smpB timB at ha hl
  simp only [h0, if_true] at ha hl
  have hz : zz x.1 = (2 * x.1).toNat := by unfold zz; rw [if_neg (by have := h.time; omega)]
  have hzl : zz x.1 < 18446744073709551616 := by have := h.time; omega
  have h1 := numO_at 11 (zz x.1) p ha.app.1 (uv_most hzl)
  refine ⟨_, _, h1, by rw [uSpec_uv hzl], by rw [uSpec_uv hzl, hz], ?_⟩
  have h2 := ha.app.2
  rw [bytesBits_len] at h2
  have h3 := tkO_of h2 (by have := h.bits; simpa using this)
  rw [h3, hl, List.length_append, bytesBits_len, bitsOf_len]
  simp only [Nat.add_assoc]
/-- the second sample -/
theorem Nx.second {L : List UInt8} {m : List SmpT} {p : Nat} {st : Pst} {x : SmpT} (h : Nx L m 1 p st x) :
    ∃ r p1, numO L (8 * L.length) 11 p = some (r, p1) ∧ (uSpec r 0).2.2 = 0 ∧ (uSpec r 0).1 = (x.1 - st.t).toNat ∧ valO st L (8 * L.length) p1 = some (x.2, valW st x.2, (encB startP (m.take 2)).length) := by
  have ha := h.at_
  have h0 := h.num
  have hl := h.len
  unfold smpB timB at ha hl
  simp only [h0, if_true, if_false, show ¬ (1 : Nat) = 0 by decide] at ha hl
  have ht := h.ok.time
  have hzl : (x.1 - st.t).toNat < 18446744073709551616 := by have := h.time; omega
  have h1 := numO_at 11 _ p ha.app.1 (uv_most hzl)
  refine ⟨_, _, h1, by rw [uSpec_uv hzl], by rw [uSpec_uv hzl], ?_⟩
  have h2 := ha.app.2
  rw [bytesBits_len] at h2
  rw [valO_at h.ok h.bits h2, hl, List.length_append, bytesBits_len]
  simp only [Nat.add_assoc]
/-- the others -/
theorem Nx.other {L : List UInt8} {m : List SmpT} {z p : Nat} {st : Pst} {x : SmpT} (h : Nx L m z p st x) (hz : 2 ≤ z) :
    ∃ p1, turnO L (8 * L.length) p = some (x.1 - st.t - st.gap, p1) ∧ valO st L (8 * L.length) p1 = some (x.2, valW st x.2, (encB startP (m.take (z + 1))).length) := by
  have ha := h.at_
  have h0 := h.num
  have hl := h.len
  unfold smpB timB at ha hl
  rw [if_neg (by omega), if_neg (by omega), if_neg (by omega)] at ha hl
  have ht := h.ok.time
  have hg := h.ok.gap
  have hx := h.time
  have h1 := turnO_at (by omega) (by omega) ha.app.1
  refine ⟨_, h1, ?_⟩
  rw [valO_at h.ok h.bits ha.app.2, hl, List.length_append]
  simp only [Nat.add_assoc]
/-- the state behind the next sample -/
theorem Nx.of_next {L : List UInt8} {m : List SmpT} {z p : Nat} {st : Pst} {x : SmpT} (h : Nx L m z p st x) {Ld K : Int} (h1 : Ld = winL (smpW st x.2)) (h2 : K = winK (smpW st x.2)) : Of (stA startP (m.take (z + 1))) x.2 Ld K := by
  rw [h.nxt]
  have := smpW_ok h.ok h.bits
  exact ⟨rfl, h1, h2, this.1, this.2⟩
theorem Nx.of_now {L : List UInt8} {m : List SmpT} {z p : Nat} {st : Pst} {x : SmpT} (h : Nx L m z p st x) {V : Nat} {Ld K : Int} (ho : Of (stA startP (m.take z)) V Ld K) : Of st V Ld K := by
  rw [h.is_]; exact ho
end Go.Proofs.YtkiefmhampfhoaaDoor

/- CkA5 -/
namespace Go.Proofs.YtkiefmhampfhoaaDoor
open Go.RowKit

theorem run_lastS (W : World) (b M c : Nat) (hc : M + 1 ≤ c) : (Instr.slice 22 (.slice (some ⟨b, 0, none⟩) (M + 1) c) (some (.int .i64 (M : Int))) none none).run Tryd.prog W = .ok (.slice (some ⟨b, M * 2, none⟩) 1 (c - M)) W := by
  have ht' : Tryd.prog.underlying 22 = some (.slice (Tryd.prog.elem 22)) := by simp [Program.elem, Tryd.underlying22]
  have he : Tryd.prog.elem 22 = 27 := by simp [Program.elem, Tryd.underlying22]
  rw [run_slice_l W _ _ _ _ ht' .i64 _ (by omega) (by omega), he, Tryd.sizeOf27]
  have h1 : ¬ c - M = 0 := by omega
  have h2 : ¬ c = M := by omega
  have h3 : M + 1 - M = 1 := by omega
  simp [Result.andThen, sliced, Addr.add, h2, h3]
  intro h
  omega
theorem run_firstS (W : World) (a : Option Addr) (n c : Nat) (hn : 1 ≤ n) (hc : n ≤ c) : (Instr.slice 22 (.slice a n c) none (some (.int .i64 1)) none).run Tryd.prog W = .ok (.slice a 1 c) W := by
  have ht' : Tryd.prog.underlying 22 = some (.slice (Tryd.prog.elem 22)) := by simp [Program.elem, Tryd.underlying22]
  have he : Tryd.prog.elem 22 = 27 := by simp [Program.elem, Tryd.underlying22]
  rw [run_slice_h W _ _ _ _ ht' .i64 _ (by omega) (by omega), he, Tryd.sizeOf27]
  have hm : (Option.map (fun x => Addr.add x (0 * 2)) a) = a := by cases a <;> simp [Addr.add]
  simp [Result.andThen, sliced]
  intro _
  simpa using hm
theorem RdP.one (W : World) (t : Int) (f : Nat) : RdP (W.alloc (.cells #[.int .i64 t, .float .f64 f] 27)) (.slice (some ⟨W.heap.size, 0, none⟩) 1 1) [(t, f)] := by
  have hb := Go.heap_alloc_new W (.cells #[.int .i64 t, .float .f64 f] 27)
  refine ⟨some ⟨W.heap.size, 0, none⟩, 1, rfl, Nat.le_refl _, by simp [maxLen], fun j hj => ?_⟩
  obtain rfl : j = 0 := by simp at hj; omega
  exact ⟨_, _, rfl, by simp only [World.cell?, hb]; rfl, by simp only [World.cell?, hb]; rfl⟩
theorem RdP.lastOne {W : World} {b M c : Nat} {m : List SmpT} (h : RdP W (.slice (some ⟨b, 0, none⟩) (M + 1) c) m) (hm : m.length = M + 1) : RdP W (.slice (some ⟨b, M * 2, none⟩) 1 (c - M)) [lastS m] := by
  obtain ⟨a', c', e, h1, h2, h3⟩ := h
  simp only [Value.slice.injEq] at e
  obtain ⟨rfl, -, rfl⟩ := e
  obtain ⟨b', o', e', c0, c1⟩ := h3 M (by omega)
  simp only [Option.some.injEq, Addr.mk.injEq, and_true] at e'
  obtain ⟨rfl, rfl⟩ := e'
  have hl : lastS m = m.getD M smZ := by unfold lastS; rw [hm]; rfl
  refine ⟨some ⟨b, M * 2, none⟩, c - M, rfl, by simp; omega, by omega, fun j hj => ?_⟩
  obtain rfl : j = 0 := by simp at hj; omega
  refine ⟨_, _, rfl, ?_, ?_⟩
  · rw [show ([lastS m].getD 0 smZ) = lastS m from rfl, hl]; simpa using c0
  · rw [show ([lastS m].getD 0 smZ) = lastS m from rfl, hl]; simpa using c1
theorem RdP.head {w : World} {a : Option Addr} {c N : Nat} {l : List SmpT} (h : RdP w (.slice a N c) l) (n : Nat) (hn : n ≤ l.length) : RdP w (.slice a n c) (l.take n) := by
  obtain ⟨a', c', e, h1, h2, h3⟩ := h
  simp only [Value.slice.injEq] at e
  obtain ⟨rfl, -, rfl⟩ := e
  have hl : (l.take n).length = n := by rw [List.length_take]; omega
  refine ⟨a, c, by rw [hl], by omega, h2, fun j hj => ?_⟩
  rw [hl] at hj
  obtain ⟨b, o, q, c0, c1⟩ := h3 j (by omega)
  have hg : (l.take n).getD j smZ = l.getD j smZ := by simp [List.getD, hj]
  rw [hg]
  exact ⟨b, o, q, c0, c1⟩
end Go.Proofs.YtkiefmhampfhoaaDoor

/- CkS7 -/
namespace Go.Proofs.YtkiefmhampfhoaaDoor
open Go.RowKit

theorem run_headS (W : World) (a : Option Addr) (n c p : Nat) (hp : p ≤ n) (hc : n ≤ c) : (Instr.slice 22 (.slice a n c) none (some (.int .i64 (p : Int))) none).run Tryd.prog W = .ok (.slice a p c) W := by
  have ht' : Tryd.prog.underlying 22 = some (.slice (Tryd.prog.elem 22)) := by simp [Program.elem, Tryd.underlying22]
  have he : Tryd.prog.elem 22 = 27 := by simp [Program.elem, Tryd.underlying22]
  rw [run_slice_h W _ _ _ _ ht' .i64 _ (by omega) (by omega), he, Tryd.sizeOf27]
  have hm : (Option.map (fun x => Addr.add x (0 * 2)) a) = a := by cases a <;> simp [Addr.add]
  simp [Result.andThen, sliced]
  intro _
  simpa using hm

set_option maxRecDepth 8000 in
set_option maxHeartbeats 3200000 in
theorem dEncode_any (w : World) (v : Value) (l : List SmpT) (hr : RdP w v l) (hin : SmIn l) :
    Calls Tryd.prog 21 #[v] w fun e w' => EncA l w w' e ∧ w.grownBy w' none := by
  have HR := hidJ (And.intro hr hin)
  obtain ⟨a, c, rfl, hlc, hcm, -⟩ := hr
  have hcm2 : c ≤ 9223372036854775807 := hcm
  clear hin hcm
  obtain ⟨N, hN⟩ : ∃ N, l.length = N := ⟨_, rfl⟩
  have HN := hidJ hN
  rw [hN] at hlc
  rw [hN]
  clear hN
  go_enter Tryd.func21, Tryd.ntmps21
  go_wp2_with fail
  have hsf := store_float
  go_loopw [10] (fun i wr => ∃ z : Nat, z ≤ N ∧ i = .int .i64 z ∧ Hid (okL startP (l.take z) ∧ w.grownBy wr none)) (fun i _ => N - (intOf i).toNat)
  case atStart => exact ⟨0, by omega, rfl, trivial, gb_refl _ _⟩
  case round =>
    obtain ⟨z, hz, rfl, hr⟩ := hrel
    by_cases hlt : z < N
    · have hzi : (z : Int) < (N : Int) := by omega
      have hzl : z < l.length := by rw [HN.out]; exact hlt
      obtain ⟨a', c', he, -, -, hc⟩ := HR.out.1.keep hr.out.2
      simp only [Value.slice.injEq] at he
      obtain ⟨rfl, -, rfl⟩ := he
      obtain ⟨b, o, rfl, c0, c1⟩ := hc z hzl
      have hbd := HR.out.2 _ (getS_mem hzl)
      have HX := hidJ (And.intro hr.out (And.intro hzl hbd))
      have hsl : ∀ W, (Instr.slice 22 (.slice (some ⟨b, o, none⟩) N c) none (some (.int .i64 (z : Int))) none).run Tryd.prog W = .ok (.slice (some ⟨b, o, none⟩) z c) W := fun W => run_headS W _ N c z (by omega) hlc
      have HWg : Hid (∀ W, wr.grownBy W none → ∀ t, Calls Tryd.prog 10 #[.slice (some ⟨b, o, none⟩) z c, .int .i64 t] W fun e w' => e = .returned (.int .i64 (wrongN (stA startP (l.take z)) t)) ∧ Hid (w.grownBy w' none) ∧ W.grownBy w' none) := fun W hW t => by
        have h1 := (HR.out.1.keep (gb_none hr.out.2 hW))
        rw [HN.out] at h1
        refine (dWrong_any W _ (l.take z) t (h1.head z (by omega)) hr.out.1).mono ?_
        rintro e w' ⟨q1, q2⟩
        exact ⟨q1, gb_none (gb_none hr.out.2 hW) q2, q2⟩
      clear hc hr hbd hzl
      obtain ⟨tz, hTZ⟩ : ∃ tz, (l.getD z smZ).1 = tz := ⟨_, rfl⟩
      obtain ⟨fz, hFZ⟩ : ∃ fz, (l.getD z smZ).2 = fz := ⟨_, rfl⟩
      rw [hTZ] at c0
      rw [hFZ] at c1
      have HTZ := hidJ (And.intro hTZ hFZ)
      clear hTZ hFZ
      have hnew : ¬ b = wr.heap.size := by have := block_lt c0; omega
      have hnew2 : ¬ wr.heap.size = b := by omega
      have hbx := Go.heap_alloc_new wr (.cells #[.int .i64 tz, .float .f64 fz] 27)
      go_upto_region 4 with fail
      have x0 : (wr.alloc (.cells #[.int .i64 tz, .float .f64 fz] 27)).cell? ⟨wr.heap.size, 0, none⟩ = some (.int .i64 tz) := by simp only [World.cell?, hbx]; rfl
      clear hbx c0 c1 hnew hnew2
      have HAl := hidJ (alloc_gb wr (.cells #[.int .i64 tz, .float .f64 fz] 27))
      generalize wr.alloc (.cells #[.int .i64 tz, .float .f64 fz] 27) = Wx at *
      generalize wr.heap.size = b0 at *
      have HWx : Hid (∀ W, Wx.grownBy W none → Calls Tryd.prog 10 #[.slice (some ⟨b, o, none⟩) z c, .int .i64 tz] W fun e w' => e = .returned (.int .i64 (wrongN (stA startP (l.take z)) tz)) ∧ Hid (w.grownBy w' none) ∧ w'.cell? ⟨b0, 0, none⟩ = some (.int .i64 tz)) := fun W hW => by
        refine (HWg.out W (gb_none HAl.out hW) tz).mono ?_
        rintro e w' ⟨q1, q2, q3⟩
        have hg := gb_none hW q3
        exact ⟨q1, q2, (World.cell?_of_block (hg.block b0 (block_lt x0) (by simp))).trans x0⟩
      obtain ⟨q, hq⟩ : ∃ q, wrongN (stA startP (l.take z)) tz = q := ⟨_, rfl⟩
      rw [hq] at HWx
      have HQ := hidJ hq
      clear hq HWg
      go_region_held3 (fun w' => w'.cell? ⟨b0, 0, none⟩ = some (.int .i64 tz)) (go_keep)
        (first
          | (go_at_call 10; refine (HWx.out _ ?_).mono ?_; (first | exact gb_drew _ _ | exact gb_refl _ _); rintro e w2 ⟨rfl, H2, y0⟩))
      by_cases hq0 : q = 0
      · subst hq0
        have HO : Hid (okL startP (l.take (z + 1)) ∧ w.grownBy w2 none) := by
          refine ⟨?_, H2.out⟩
          rw [take_snocS HX.out.2.1]
          exact okL_snoc.2 ⟨HX.out.1.1, by rw [HTZ.out.1]; exact HQ.out, HX.out.2.2.2⟩
        clear H2 y0 x0 HX HWx
        go_wp2
        go_roundw
        case rel => exact ⟨z + 1, by omega, by go_num, HO⟩
        case measure => simp [intOf]; omega
      · have hqb : (q == 0) = false := by rw [beq_eq_false_iff_ne]; exact hq0
        have HE : Hid (EncA l w w2 (.returned (.tuple #[.slice none 0 0, .int .i64 q, .int .i64 (z : Int)])) ∧ w.grownBy w2 none) := by
          refine ⟨.inr ⟨z, HX.out.2.1, HX.out.1.1, ?_, ?_⟩, H2.out⟩
          · rw [HTZ.out.1, HQ.out]; exact hq0
          · rw [HTZ.out.1, HQ.out]
        clear H2 y0 x0 HX HWx
        go_wp2
        go_ret3
        exact HE.out
    · obtain rfl : z = N := by omega
      have HB : Hid (Calls Tryd.prog 17 #[.slice a z c] wr fun e w' => ∃ v', e = .returned v' ∧ Hid (EncA l w w' (.returned (.tuple #[v', .int .i64 0, .int .i64 0])) ∧ w.grownBy w' none)) := by
        have hok := hr.out.1
        rw [List.take_of_length_le (by rw [HN.out]; omega)] at hok
        have h1 := HR.out.1.keep hr.out.2
        rw [HN.out] at h1
        refine (dBytes_any wr _ l h1 hok).mono ?_
        rintro e w' ⟨v', q1, q2, q3⟩
        exact ⟨v', q1, .inl ⟨hok, v', rfl, q2.mono hr.out.2.size⟩, gb_none hr.out.2 q3⟩
      clear hr
      go_wp2_with fail
      refine HB.out.mono ?_
      rintro e w2 ⟨v2, rfl, H2⟩
      clear HB
      go_wp2
      go_ret3
      exact H2.out
end Go.Proofs.YtkiefmhampfhoaaDoor

/- CkSy -/
namespace Go.Proofs.YtkiefmhampfhoaaDoor
open Go.RowKit

theorem run_from2 (w : World) (g o c : Nat) (b : List UInt8) (h : Rd w (.slice (some ⟨g, o, none⟩) b.length c) b) (h2 : 2 ≤ b.length) : ∃ a, (∀ W, (Instr.slice 36 (.slice (some ⟨g, o, none⟩) b.length c) (some (.int .i64 2)) none none).run Tryd.prog W = .ok (.slice a (b.length - 2) (c - 2)) W) ∧ Rd w (.slice a (b.length - 2) (c - 2)) (strL b) := by
  obtain ⟨a, c', e, h1, h3, h4, -⟩ := h
  simp only [Value.slice.injEq, true_and] at e
  obtain ⟨e1, rfl⟩ := e
  have ht' : Tryd.prog.underlying 36 = some (.slice (Tryd.prog.elem 36)) := by simp [Program.elem, Tryd.underlying36]
  have he : Tryd.prog.elem 36 = 5 := by simp [Program.elem, Tryd.underlying36]
  have hl : (strL b).length = b.length - 2 := by simp [strL]
  by_cases hc : c = 2
  · refine ⟨some ⟨g, o, none⟩, fun W => ?_, ⟨some ⟨g, o, none⟩, c - 2, by rw [hl], by omega, by omega, fun j hj => by omega, fun e => by cases e⟩⟩
    rw [run_slice_l W _ _ _ _ ht' .i64 _ (by omega) (by omega), he, Tryd.sizeOf5]
    simp [Result.andThen, sliced, hc]
  · refine ⟨some ⟨g, o + 2, none⟩, fun W => ?_, ⟨some ⟨g, o + 2, none⟩, c - 2, by rw [hl], by omega, by omega, fun j hj => ?_, fun e => by cases e⟩⟩
    · rw [run_slice_l W _ _ _ _ ht' .i64 _ (by omega) (by omega), he, Tryd.sizeOf5]
      simp [Result.andThen, sliced, Addr.add, hc]
    · obtain ⟨b', o', e', q⟩ := h4 (j + 2) (by omega)
      rw [← e1] at e'
      simp only [Option.some.injEq, Addr.mk.injEq, and_true] at e'
      obtain ⟨rfl, rfl⟩ := e'
      refine ⟨g, o + 2, rfl, ?_⟩
      rw [show o + 2 + j = o + (j + 2) by omega, q]
      simp [strL, Nat.add_comm]

theorem neB {X Y : List UInt8} (h : X ≠ Y) : (X == Y) = false := by rw [beq_eq_false_iff_ne]; exact h

theorem rowP_low {w : World} {base base' n : Nat} {v : Value} {xs : List Value} (h : w.ownsRow base 27 2 v n xs) (hb : base' ≤ base) : w.ownsRow base' 27 2 v n xs := by
  obtain ⟨h1, h2⟩ := h
  refine ⟨h1, ?_⟩
  rcases h2 with h2 | ⟨g, cap, cur, hv, hg, r⟩
  · exact .inl h2
  · exact .inr ⟨g, cap, cur, hv, by omega, r⟩
/-- what Decode answers -/
def DPost (w : World) (b : List UInt8) (e : Ending) (w' : World) : Prop := ((∃ l v', e = .returned (.tuple #[v', .int .i64 0]) ∧ okL startP l ∧ b = ckB l ∧ w'.ownsRow w.heap.size 27 2 v' l.length (smC l)) ∨ (e = .returned (.tuple #[.slice none 0 0, .int .i64 3]) ∧ ∀ m, okL startP m → b ≠ ckB m)) ∧ w.grownBy w' none

/-- how the reader begins -/
theorem DR.start {w w1 : World} {gs : Nat} {u : Value} {L : List UInt8} (h1 : St w1 gs u (ubits L 0 (8 * L.length)) 0) (hg : w.grownBy w1 none) (hgs : w.heap.size ≤ gs) (hu : ∀ k, u.ownBlock = some k → w.heap.size ≤ k) (hL : 8 * L.length ≤ 8388608) :
    DR w ((w1.alloc (.cells #[.int .i64 0, .int .i64 0, .int .u64 0, .int .i64 64, .int .i64 0] 92)).alloc (.cells #[.pointer (some ⟨gs, 0, none⟩), .pointer (some ⟨w1.heap.size, 0, none⟩), .bool false] 89)) (w1.heap.size + 1) gs w1.heap.size L 0 false 0 0 0 64 0 := by
  have k1 := alloc_gb w1 (.cells #[.int .i64 0, .int .i64 0, .int .u64 0, .int .i64 64, .int .i64 0] 92)
  have k2 := alloc_gb (w1.alloc (.cells #[.int .i64 0, .int .i64 0, .int .u64 0, .int .i64 64, .int .i64 0] 92)) (.cells #[.pointer (some ⟨gs, 0, none⟩), .pointer (some ⟨w1.heap.size, 0, none⟩), .bool false] 89)
  have hz := hg.size
  have n1 := Go.heap_alloc_new w1 (.cells #[.int .i64 0, .int .i64 0, .int .u64 0, .int .i64 64, .int .i64 0] 92)
  have n2 := Go.heap_alloc_new (w1.alloc (.cells #[.int .i64 0, .int .i64 0, .int .u64 0, .int .i64 64, .int .i64 0] 92)) (.cells #[.pointer (some ⟨gs, 0, none⟩), .pointer (some ⟨w1.heap.size, 0, none⟩), .bool false] 89)
  have hs : (w1.alloc (.cells #[.int .i64 0, .int .i64 0, .int .u64 0, .int .i64 64, .int .i64 0] 92)).heap.size = w1.heap.size + 1 := by simp
  rw [hs] at n2
  refine ⟨gb_none hg (gb_none k1 k2), by omega, hgs, hz, by omega, hL, ⟨u, (h1.keep k1).keep k2, hu⟩, ?_, n2⟩
  rw [k2.block w1.heap.size (some_lt2 n1) (by simp)]
  exact n1
theorem Ex.start (b : List UInt8) : Ex b 0 [] 0 false 0 0 0 64 0 := fun m _ _ => ⟨rfl, Nat.zero_le _, rfl, rfl, rfl, fun h => absurd h (by decide), rfl, rfl, rfl, (by show (0 : Nat) ≤ 31; decide), (by show (0 : Nat) + 0 < 64; decide)⟩

/-- between two rounds -/
def DJ (w wr : World) (b : List UInt8) (gr gs gp z : Nat) (v : Value) : Prop := ∃ (l : List SmpT) (p : Nat) (bad : Bool) (T D : Int) (V : Nat) (Ld K : Int), l.length = z ∧ SmIn l ∧ ((-9223372036854775808 ≤ T ∧ T ≤ 9223372036854775807) ∧ V < 18446744073709551616) ∧ WdB Ld K ∧ DR w wr gr gs gp (strL b) p bad T D V Ld K ∧ (bad = false → Ex b z l p bad T D V Ld K) ∧ (bad = true → ∀ m, okL startP m → b ≠ ckB m) ∧ wr.ownsRow (gr + 1) 27 2 v l.length (smC l)

/-- behind the rounds -/
def DE (w wr : World) (b : List UInt8) (gr gs gp : Nat) (n : Nat) (v : Value) : Prop := ∃ (l : List SmpT) (p : Nat) (bad : Bool) (T D : Int) (V : Nat) (Ld K : Int), l.length = n ∧ SmIn l ∧ DR w wr gr gs gp (strL b) p bad T D V Ld K ∧ (bad = false → ∀ m, okL startP m → b = ckB m → l = m) ∧ (bad = true → ∀ m, okL startP m → b ≠ ckB m) ∧ wr.ownsRow (gr + 1) 27 2 v l.length (smC l)
theorem DJ.out {w wr : World} {b : List UInt8} {gr gs gp z : Nat} {v : Value} (h : DJ w wr b gr gs gp z v) (hz : z = cntN b) : DE w wr b gr gs gp z v := by
  obtain ⟨l, p, bad, T, D, V, Ld, K, h1, h2, -, -, h5, h6, h7, h8⟩ := h
  refine ⟨l, p, bad, T, D, V, Ld, K, h1, h2, h5, fun hb m hm e => ?_, h7, h8⟩
  obtain ⟨-, -, q, -⟩ := h6 hb m hm e
  rw [q, hz, e, ckB_cnt hm, List.take_of_length_le (Nat.le_refl _)]

/-- what the next sample is, where the bytes are a chunk's -/
def EK (b : List UInt8) (z : Nat) (l : List SmpT) (p : Nat) (bad : Bool) (T D : Int) (V : Nat) (Ld K : Int) : Prop :=
  ∀ m, okL startP m → b = ckB m → bad = false ∧ z < m.length ∧ l = m.take z ∧ (T, V) = m.getD z smZ ∧ p = (encB startP (m.take (z + 1))).length ∧ (2 ≤ z + 1 → D = (stA startP (m.take (z + 1))).gap) ∧ Of (stA startP (m.take (z + 1))) V Ld K
/-- behind the switch of a round -/
def DK (w wx : World) (b : List UInt8) (gr gs gp z : Nat) (l : List SmpT) (v : Value) (T : Int) (V : Nat) : Prop := ∃ (p : Nat) (bad : Bool) (D Ld K : Int), ((-9223372036854775808 ≤ T ∧ T ≤ 9223372036854775807) ∧ V < 18446744073709551616) ∧ WdB Ld K ∧ DR w wx gr gs gp (strL b) p bad T D V Ld K ∧ EK b z l p bad T D V Ld K ∧ wx.ownsRow (gr + 1) 27 2 v l.length (smC l)
/-- behind the mark of a round -/
def DM (w wx : World) (b : List UInt8) (gr gs gp z : Nat) (l : List SmpT) (v : Value) (T : Int) (V : Nat) : Prop := ∃ (p : Nat) (bad : Bool) (D Ld K : Int), ((-9223372036854775808 ≤ T ∧ T ≤ 9223372036854775807) ∧ V < 18446744073709551616) ∧ WdB Ld K ∧ DR w wx gr gs gp (strL b) p bad T D V Ld K ∧ (bad = false → Ex b (z + 1) (l ++ [(T, V)]) p bad T D V Ld K) ∧ (bad = true → ∀ m, okL startP m → b ≠ ckB m) ∧ wx.ownsRow (gr + 1) 27 2 v l.length (smC l)

theorem rowT {w w' : World} {base : Nat} {v : Value} {n : Nat} {cs : List Value} {ts : List TypeId} (h : w.ownsRow base 27 2 v n cs) (hk : KeepT ts w w') (ht : 27 ∉ ts) : w'.ownsRow base 27 2 v n cs := by
  refine ⟨h.1, ?_⟩
  rcases h.2 with h2 | ⟨g, cap, cur, hv, hb, hh, r⟩
  · exact .inl h2
  · exact .inr ⟨g, cap, cur, hv, hb, (hk.2 g _ _ _ hh ht).trans hh, r⟩
theorem tR_no : 27 ∉ (5 :: tR) := by decide
theorem KeepT.more {w w' : World} (h : KeepT tR w w') : KeepT (5 :: tR) w w' := h.mono (fun _ ht => List.mem_cons_of_mem _ ht)
theorem DR.frame {w0 w w' : World} {gr gs gp p : Nat} {L : List UInt8} {bad : Bool} {T D : Int} {V : Nat} {Ld K : Int} (h : DR w0 w gr gs gp L p bad T D V Ld K) (hg : w0.grownBy w' none) (hk : KeepT [27] w w') : DR w0 w' gr gs gp L p bad T D V Ld K := by
  obtain ⟨v, h1, h2⟩ := h.str
  refine ⟨hg, h.nr, h.ns, h.np, h.pl, h.few, ⟨v, ⟨?_, ?_⟩, h2⟩, ?_, ?_⟩
  · exact (hk.2 gs _ _ _ h1.1 (by decide)).trans h1.1
  · exact ownT h1.2 hk (by decide)
  · exact (hk.2 gp _ _ _ h.sta (by decide)).trans h.sta
  · exact (hk.2 gr _ _ _ h.rdr (by decide)).trans h.rdr

section
variable {b : List UInt8} {l : List SmpT} {z p p2 p4 x v : Nat} {bad2 bad3 bad4 : Bool} {T D d T' D' : Int} {V : Nat} {Ld K Ld' K' : Int}
theorem Ex.nx (hx : Ex b z l p false T D V Ld K) (hC : z < cntN b) (m : List SmpT) (hm : okL startP m) (e : b = ckB m) : z < m.length ∧ l = m.take z ∧ T = (stA startP (m.take z)).t ∧ (2 ≤ z → D = (stA startP (m.take z)).gap) ∧ Of (stA startP (m.take z)) V Ld K ∧ Nx (strL b) m z p (stA startP (m.take z)) (m.getD z smZ) := by
  obtain ⟨-, -, h1, h2, h3, h4, h5⟩ := hx m hm e
  subst e
  rw [ckB_cnt hm] at hC
  refine ⟨hC, h1, h3, h4, h5, ?_⟩
  rw [h2]
  exact Nx.of hm hC
theorem EK.first (hx : Ex b 0 l p false T D V Ld K) (hC : 0 < cntN b) (hn : ∀ r p1, numO (strL b) (8 * (strL b).length) 11 p = some (r, p1) → (uSpec r 0).2.2 = 0 → (uSpec r 0).1 < 18446744073709551616 → x = (uSpec r 0).1 ∧ p2 = p1 ∧ bad2 = false) (h3 : bad2 = false → x % 2 = 0 → bad3 = false)
    (hb : ∀ y1 y2, tkO (strL b) (8 * (strL b).length) p2 64 = some (y1, y2) → v = y1 ∧ p4 = y2 ∧ bad4 = bad3) : EK b 0 l p4 bad4 ((x / 2 : Nat) : Int) D v Ld K := by
  intro m hm e
  obtain ⟨q1, q2, q3, q4, q5, nx⟩ := hx.nx hC m hm e
  obtain ⟨r, p1, e1, e2, e3, e4⟩ := nx.first
  have ht := nx.time
  obtain ⟨f1, rfl, f3⟩ := hn r p1 e1 e2 (by rw [e3]; omega)
  obtain ⟨g1, g2, g3⟩ := hb _ _ e4
  rw [e3] at f1
  refine ⟨by rw [g3]; exact h3 f3 (by omega), q1, q2, ?_, by rw [g2], (fun h => absurd h (by decide)), ?_⟩
  · refine Prod.ext ?_ g1
    show ((x / 2 : Nat) : Int) = (m.getD 0 smZ).1
    omega
  · rw [g1]
    refine nx.of_next ?_ ?_
    · unfold smpW; rw [if_pos nx.num]; exact q5.2.1
    · unfold smpW; rw [if_pos nx.num]; exact q5.2.2.1
theorem EK.second (hx : Ex b 1 l p false T D V Ld K) (hC : 1 < cntN b) (hn : ∀ r p1, numO (strL b) (8 * (strL b).length) 11 p = some (r, p1) → (uSpec r 0).2.2 = 0 → (uSpec r 0).1 < 18446744073709551616 → x = (uSpec r 0).1 ∧ p2 = p1 ∧ bad2 = false)
    (hv : bad2 = false → ∀ st f1 wd p1, Of st V Ld K → valO st (strL b) (8 * (strL b).length) p2 = some (f1, wd, p1) → v = f1 ∧ p4 = p1 ∧ bad4 = false ∧ Ld' = winL wd ∧ K' = winK wd) (hT : T' = IntKind.i64.wrap (T + (x : Int))) : EK b 1 l p4 bad4 T' (x : Int) v Ld' K' := by
  intro m hm e
  obtain ⟨q1, q2, q3, q4, q5, nx⟩ := hx.nx hC m hm e
  obtain ⟨r, p1, e1, e2, e3, e4⟩ := nx.second
  have ht := nx.time
  have ht2 := nx.ok.time
  have hr : (stA startP (m.take 1)).t < (m.getD 1 smZ).1 := by
    rcases nx.rise with h | h
    · have := nx.num; omega
    · exact h
  obtain ⟨f1, rfl, f3⟩ := hn r p1 e1 e2 (by rw [e3]; omega)
  obtain ⟨g1, g2, g3, g4, g5⟩ := hv f3 _ _ _ _ q5 e4
  rw [e3] at f1
  have hx1 : (x : Int) = (m.getD 1 smZ).1 - (stA startP (m.take 1)).t := by omega
  refine ⟨g3, q1, q2, ?_, by rw [g2], fun _ => ?_, ?_⟩
  · refine Prod.ext ?_ g1
    show T' = (m.getD 1 smZ).1
    rw [hT, q3, hx1, IntKind.wrap_i64]
    omega
  · rw [nx.nxt]
    exact hx1
  · rw [g1]
    refine nx.of_next ?_ ?_
    · unfold smpW; rw [if_neg (by have := nx.num; omega)]; exact g4
    · unfold smpW; rw [if_neg (by have := nx.num; omega)]; exact g5
theorem EK.secondNot (hx : Ex b 1 l p false T D V Ld K) (hC : 1 < cntN b) (hn : ∀ r p1, numO (strL b) (8 * (strL b).length) 11 p = some (r, p1) → (uSpec r 0).2.2 = 0 → (uSpec r 0).1 < 18446744073709551616 → x = (uSpec r 0).1 ∧ p2 = p1 ∧ bad2 = false)
    (hgt : 1125899906842624 < x) : EK b 1 l p2 true T D V Ld K := by
  intro m hm e
  exfalso
  obtain ⟨q1, q2, q3, q4, q5, nx⟩ := hx.nx hC m hm e
  obtain ⟨r, p1, e1, e2, e3, e4⟩ := nx.second
  have ht := nx.time
  have ht2 := nx.ok.time
  obtain ⟨f1, -, -⟩ := hn r p1 e1 e2 (by rw [e3]; omega)
  rw [e3] at f1
  omega
theorem EK.other (hz : 2 ≤ z) (hx : Ex b z l p false T D V Ld K) (hC : z < cntN b) (hn : ∀ d1 p1, turnO (strL b) (8 * (strL b).length) p = some (d1, p1) → d = d1 ∧ p2 = p1 ∧ bad2 = false)
    (hv : bad2 = false → ∀ st f1 wd p1, Of st V Ld K → valO st (strL b) (8 * (strL b).length) p2 = some (f1, wd, p1) → v = f1 ∧ p4 = p1 ∧ bad4 = false ∧ Ld' = winL wd ∧ K' = winK wd) (hD : D' = IntKind.i64.wrap (D + d)) (hT : T' = IntKind.i64.wrap (T + D')) : EK b z l p4 bad4 T' D' v Ld' K' := by
  intro m hm e
  obtain ⟨q1, q2, q3, q4, q5, nx⟩ := hx.nx hC m hm e
  obtain ⟨p1, e1, e4⟩ := nx.other hz
  have ht := nx.time
  have ht2 := nx.ok.time
  have ht3 := nx.ok.gap
  obtain ⟨f1, rfl, f3⟩ := hn _ p1 e1
  obtain ⟨g1, g2, g3, g4, g5⟩ := hv f3 _ _ _ _ q5 e4
  have hx1 : D' = (m.getD z smZ).1 - (stA startP (m.take z)).t := by
    rw [hD, q4 hz, f1, IntKind.wrap_i64]
    omega
  refine ⟨g3, q1, q2, ?_, by rw [g2], fun _ => ?_, ?_⟩
  · refine Prod.ext ?_ g1
    show T' = (m.getD z smZ).1
    rw [hT, q3, hx1, IntKind.wrap_i64]
    omega
  · rw [nx.nxt]
    exact hx1
  · rw [g1]
    refine nx.of_next ?_ ?_
    · unfold smpW; rw [if_neg (by have := nx.num; omega)]; exact g4
    · unfold smpW; rw [if_neg (by have := nx.num; omega)]; exact g5
theorem EK.otherNot (hz : 2 ≤ z) (hx : Ex b z l p false T D V Ld K) (hC : z < cntN b) (hn : ∀ d1 p1, turnO (strL b) (8 * (strL b).length) p = some (d1, p1) → d = d1 ∧ p2 = p1 ∧ bad2 = false)
    (hgt : 1125899906842624 < d ∨ d < -1125899906842624) : EK b z l p2 true T D V Ld K := by
  intro m hm e
  exfalso
  obtain ⟨q1, q2, q3, q4, q5, nx⟩ := hx.nx hC m hm e
  obtain ⟨p1, e1, e4⟩ := nx.other hz
  have ht := nx.time
  have ht2 := nx.ok.time
  have ht3 := nx.ok.gap
  obtain ⟨f1, -, -⟩ := hn _ p1 e1
  obtain ⟨y, rfl⟩ : ∃ y, z = y + 1 := ⟨z - 1, by omega⟩
  have nx2 := Nx.of hm (z := y) (by omega)
  have hr2 : (stA startP (m.take y)).t < (m.getD y smZ).1 := by
    rcases nx2.rise with h | h
    · have := nx2.num; omega
    · exact h
  have hr : (stA startP (m.take (y + 1))).t < (m.getD (y + 1) smZ).1 := by
    rcases nx.rise with h | h
    · have := nx.num; omega
    · exact h
  have hg : (stA startP (m.take (y + 1))).gap = (m.getD y smZ).1 - (stA startP (m.take y)).t := by rw [nx2.nxt]; rfl
  omega
theorem EK.next (h : EK b z l p bad2 T D V Ld K) : Ex b (z + 1) (l ++ [(T, V)]) p bad2 T D V Ld K := by
  intro m hm e
  obtain ⟨h1, h2, h3, h4, h5, h6, h7⟩ := h m hm e
  have nx := Nx.of hm h2
  refine ⟨h1, h2, ?_, h5, ?_, h6, h7⟩
  · rw [take_snocS h2, ← h4, h3]
  · rw [nx.nxt, ← h4]; rfl
theorem EK.no (h : EK b z l p bad2 T D V Ld K) (hT : T < 0 ∨ 1125899906842624 < T ∨ bad2 = true) (m : List SmpT) (hm : okL startP m) : b ≠ ckB m := by
  intro e
  obtain ⟨h1, h2, h3, h4, h5, h6, h7⟩ := h m hm e
  have nx := Nx.of hm h2
  have ht := nx.time
  rw [← h4] at ht
  rcases hT with h | h | h
  · exact absurd ht.1 (by simp only; omega)
  · exact absurd ht.2 (by simp only; omega)
  · rw [h1] at h; cases h
end
theorem DK.in_ {w wx : World} {b : List UInt8} {gr gs gp z : Nat} {l : List SmpT} {v : Value} {T : Int} {V : Nat} (h : DK w wx b gr gs gp z l v T V) : DM w wx b gr gs gp z l v T V := by
  obtain ⟨p, bad, D, Ld, K, h1, h2, h3, h4, h5⟩ := h
  exact ⟨p, bad, D, Ld, K, h1, h2, h3, fun _ => h4.next, fun hb => h4.no (.inr (.inr hb)), h5⟩
theorem DK.out_ {w wx : World} {b : List UInt8} {gr gs gp z : Nat} {l : List SmpT} {v : Value} {T : Int} {V : Nat} (h : DK w wx b gr gs gp z l v T V) (hT : T < 0 ∨ 1125899906842624 < T) : DM w (wx.setCell ⟨gr, 2, none⟩ (.bool true)) b gr gs gp z l v T V := by
  obtain ⟨p, bad, D, Ld, K, h1, h2, h3, h4, h5⟩ := h
  refine ⟨p, true, D, Ld, K, h1, h2, h3.mark true, (fun e => by cases e), fun _ => h4.no ?_, rowT h5 ((KeepT.of_own (gb_set wx gr 2 _) h3.rdr (by simp [tR])).more) tR_no⟩
  rcases hT with h | h
  · exact .inl h
  · exact .inr (.inl h)
theorem DK.of {w wr wx : World} {b : List UInt8} {gr gs gp z p : Nat} {l : List SmpT} {v : Value} {bad : Bool} {T D Ld K : Int} {V : Nat} (hr : wr.ownsRow (gr + 1) 27 2 v l.length (smC l)) (hk : KeepT (5 :: tR) wr wx) (hB : (-9223372036854775808 ≤ T ∧ T ≤ 9223372036854775807) ∧ V < 18446744073709551616) (hW : WdB Ld K) (hD : DR w wx gr gs gp (strL b) p bad T D V Ld K) (hE : EK b z l p bad T D V Ld K) : DK w wx b gr gs gp z l v T V :=
  ⟨p, bad, D, Ld, K, hB, hW, hD, hE, rowT hr hk tR_no⟩
theorem and1 (x : Nat) (hx : x < 18446744073709551616) : bits .and .u64 (x : Int) 1 = ((x % 2 : Nat) : Int) := by
  have h := u64_and_nat x 1 hx (by decide)
  rw [Nat.and_one_is_mod] at h
  exact h
theorem DM.keep {w W W' : World} {b : List UInt8} {gr gs gp z : Nat} {l : List SmpT} {v : Value} {T : Int} {V : Nat} (h : DM w W b gr gs gp z l v T V) (hg : W.grownBy W' none) : DM w W' b gr gs gp z l v T V := by
  obtain ⟨p, bad, D, Ld, K, h1, h2, h3, h4, h5, h6⟩ := h
  exact ⟨p, bad, D, Ld, K, h1, h2, h3.keep hg, h4, h5, rowT h6 (KeepT.of_none hg (ts := [])) (by simp)⟩
theorem DM.cells {w W : World} {b : List UInt8} {gr gs gp z : Nat} {l : List SmpT} {v : Value} {T : Int} {V : Nat} (h : DM w W b gr gs gp z l v T V) : W.cell? ⟨gr, 1, none⟩ = some (.pointer (some ⟨gp, 0, none⟩)) ∧ W.cell? ⟨gp, 0, none⟩ = some (.int .i64 T) ∧ W.cell? ⟨gp, 2, none⟩ = some (.int .u64 (V : Int)) ∧ V < 18446744073709551616 := by
  obtain ⟨p, bad, D, Ld, K, h1, h2, h3, h4, h5, h6⟩ := h
  exact ⟨h3.cells.1.2.1, h3.cells.2.1, h3.cells.2.2.2.1, h1.2⟩
theorem DM.push {w W0 W : World} {b : List UInt8} {gr gs gp z : Nat} {l : List SmpT} {a : Option Addr} {c : Nat} {T : Int} {V : Nat} (h0 : DM w W0 b gr gs gp z l (.slice a z c) T V) (hl : l.length = z) (hz : z ≤ 1000) (hI : SmIn l) (hg0 : W0.grownBy W none) (hh : W.heap = (W0.alloc (.cells #[.int .i64 T, .float .f64 V] 27)).heap) :
    ∃ a2 c2 W2, (Builtin.append_ #[22, 22] 22 #[.slice a z c, .slice (some ⟨W0.heap.size, 0, none⟩) 1 1]).run Tryd.prog W = .ok (.slice a2 (z + 1) c2) W2 ∧ DJ w W2 b gr gs gp (z + 1) (.slice a2 (z + 1) c2) ∧ W2.cell? ⟨gr, 1, none⟩ = some (.pointer (some ⟨gp, 0, none⟩)) ∧ W2.cell? ⟨gp, 0, none⟩ = some (.int .i64 T) ∧ W2.cell? ⟨gp, 2, none⟩ = some (.int .u64 (V : Int)) := by
  have hnew := Go.heap_alloc_new W0 (.cells #[.int .i64 T, .float .f64 V] 27)
  rw [← hh] at hnew
  obtain ⟨p, bad, D, Ld, K, h1, h2, h3, h4, h5, h6⟩ := h0.keep hg0
  subst hl
  obtain ⟨i0, hi, hz0, hz1, hz2⟩ := info_parts infoSm
  have hlt := some_lt2 h3.rdr
  obtain ⟨v2, W2, hrun, ho, hfr⟩ := run_appG W 22 22 27 i0 _ 2 16 (gr + 1) Tryd.underlying22 hi hz0 hz1 hz2 rfl (by decide) (by decide) (.slice a l.length c) l.length (smC l) h6 (some ⟨W0.heap.size, 0, none⟩) 1 1 [.int .i64 T, .float .f64 V] rfl
    (fun j u hj => by
      refine ⟨_, rfl, ?_⟩
      rw [Go.WideShapes.add_plain]
      simp only [World.cell?, hnew]
      simpa using hj) (fun e => by cases e)
    (fun u hu => by
      simp only [List.mem_cons, List.not_mem_nil, or_false] at hu
      rcases hu with rfl | rfl <;> rfl) (by omega) (by omega)
  obtain ⟨a2, cc, rfl⟩ : ∃ a c, v2 = .slice a (l.length + 1) c := by
    rcases ho.2 with ⟨e, e2⟩ | ⟨b, cap, cur, e, -⟩
    · omega
    · exact ⟨_, _, e⟩
  have hvL := World.ownsRow.lt h6
  have k2 : Ch W W2 (fun k => (Value.slice a l.length c).ownBlock = some k) := Ch.of_gb (S := fun k => (Value.slice a l.length c).ownBlock = some k) hfr.1 (fun k hk _ => hk)
  have hk : KeepT [27] W W2 := ⟨k2.size, fun k A t fr hk ht => k2.block (some_lt2 hk) (fun e => by
    rcases h6.2 with ⟨e1, -⟩ | ⟨g, cap, cur, e1, -, hh, -⟩
    · rw [e1] at e; cases e
    · rw [e1] at e
      simp only [Value.ownBlock, Option.some.injEq] at e
      subst e
      rw [hh] at hk
      simp only [Option.some.injEq, Obj.cells.injEq] at hk
      exact ht (by rw [← hk.2.1]; simp))⟩
  have hgo : w.grownBy W2 none := gb_ch h3.old k2 (fun k e => by have := (hvL k e).1; have := h3.nr; omega)
  have hD2 := h3.frame hgo hk
  refine ⟨a2, cc, W2, hrun, ⟨l ++ [(T, V)], p, bad, T, D, V, Ld, K, by simp, ?_, h1, h2, hD2, h4, h5, ?_⟩, hD2.cells.1.2.1, hD2.cells.2.1, hD2.cells.2.2.2.1⟩
  · intro x hx
    rcases List.mem_append.1 hx with hx | hx
    · exact hI x hx
    · rw [List.mem_singleton] at hx
      subst hx
      exact h1
  · rw [smC_snoc, List.length_append]
    exact ho
/-- append by a run that is known, at a step of a region that draws -/
theorem step_appRun {w : World} {ops : Array Oper} {o : Oper} {a : Act} {K : Act → World → Prop} {Q : Exit → Act → World → Prop} {E : Prop} (hgd : o.guard = none) (s x : Operand) (T : TypeId)
    (ho : o.op = .call { callee := .builtin .append, args := #[s, x], argTypes := #[T, T] }) (vs vx : Value) (hs : a.eval s = vs) (hx : a.eval x = vx) (n : Nat) (P : Option Addr → Nat → World → Prop)
    (hr : ∃ a1 c1 w', (Builtin.append_ #[T, T] o.type #[vs, vx]).run Tryd.prog w = .ok (.slice a1 n c1) w' ∧ P a1 c1 w') (h : ∀ a1 c1 w', P a1 c1 w' → K (a.put o.dst (.slice a1 n c1)) w') :
    if Region.wanted o (yielded ops a.tmps) = true then Oper.wp Tryd.prog o a w K Q else E := by
  have hw : Region.wanted o (yielded ops a.tmps) = true := by simp [Region.wanted, hgd]
  rw [if_pos hw]
  obtain ⟨a1, c1, w', hrun, h2⟩ := hr
  unfold Oper.wp execOp
  simp only [ho, resolve, invoke, builtin, Sem.run_bind, Sem.run_pure, Result.andThen_ok, List.map_toArray, List.map_cons, List.map_nil, hs, hx, hrun]
  exact h a1 c1 w' h2
/-- math.Float64frombits, at a step of a region that draws -/
theorem step_ff {w : World} {ops : Array Oper} {o : Oper} {a : Act} {K : Act → World → Prop} {Q : Exit → Act → World → Prop} {E : Prop} (hgd : o.guard = none) (x : Operand)
    (ho : o.op = .call { callee := .value (.func 46), args := #[x], argTypes := #[70] }) (V : Nat) (hV : V < 18446744073709551616) (hx : a.eval x = .int .u64 (V : Int)) (h : K (a.put o.dst (.float .f64 V)) w) :
    if Region.wanted o (yielded ops a.tmps) = true then Oper.wp Tryd.prog o a w K Q else E := by
  have hw : Region.wanted o (yielded ops a.tmps) = true := by simp [Region.wanted, hgd]
  rw [if_pos hw]
  have hff := ffrom_run V hV w
  have hfn : a.eval (.func 46) = .func (.func 46) #[] #[] := rfl
  unfold Oper.wp execOp
  simp only [ho, resolve, invoke, Sem.run_bind, List.map_toArray, List.map_cons, List.map_nil, hfn, hx]
  simp only [Deferred.ofValue, Sem.run_pure, Result.andThen_ok, List.append_toArray, List.nil_append, List.append_nil, hff]
  exact h
end Go.Proofs.YtkiefmhampfhoaaDoor
