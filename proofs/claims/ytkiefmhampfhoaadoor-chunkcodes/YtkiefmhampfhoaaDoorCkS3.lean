/-
  The document's state of a chunk, and its stream: whole, value, time, Put, Bytes: the walks.
-/
import Derived.Test.YtkiefmhampfhoaaDoorCkS2
import Derived.Test.YtkiefmhampfhoaaDoorGF
import Derived.Deep.Cut
namespace Go.Proofs.YtkiefmhampfhoaaDoor
open Go.RowKit

/-- a state of the document's, and its stream, both the call's own -/
structure Sd (w0 w : World) (gs gp : Nat) (bs : List Bool) (T D : Int) (V : Nat) (L K : Int) : Prop where
  old : w0.grownBy w none
  ns : w0.heap.size ≤ gs
  np : w0.heap.size ≤ gp
  str : ∃ v, St w gs v bs 0 ∧ ∀ k, v.ownBlock = some k → w0.heap.size ≤ k
  sta : w.heap[gp]? = some (.cells #[.int .i64 T, .int .i64 D, .int .u64 (V : Int), .int .i64 L, .int .i64 K] 92 (0, 0))
/-- the types whose blocks are written -/
def tS : List TypeId := [79, 4, 92]
section
variable {w0 w w' : World} {gs gp : Nat} {bs : List Bool} {T D : Int} {V : Nat} {L K : Int}
theorem Sd.lt (h : Sd w0 w gs gp bs T D V L K) : gp < w.heap.size := (Array.getElem?_eq_some_iff.1 h.sta).1
theorem Sd.cells (h : Sd w0 w gs gp bs T D V L K) : w.cell? ⟨gp, 0, none⟩ = some (.int .i64 T) ∧ w.cell? ⟨gp, 1, none⟩ = some (.int .i64 D) ∧ w.cell? ⟨gp, 2, none⟩ = some (.int .u64 (V : Int)) ∧ w.cell? ⟨gp, 3, none⟩ = some (.int .i64 L) ∧ w.cell? ⟨gp, 4, none⟩ = some (.int .i64 K) := by
  refine ⟨?_, ?_, ?_, ?_, ?_⟩ <;> simp [World.cell?, h.sta]
theorem Sd.frz (h : Sd w0 w gs gp bs T D V L K) (i : Nat) : w.frozen? ⟨gp, i, none⟩ = false := by simp [World.frozen?, h.sta]
theorem Sd.ne (h : Sd w0 w gs gp bs T D V L K) : gs ≠ gp := by
  rintro rfl
  obtain ⟨v, h1, -⟩ := h.str
  have := h1.1
  rw [h.sta] at this
  simp at this
theorem Sd.ne2 (h : Sd w0 w gs gp bs T D V L K) {v : Value} (hv : St w gs v bs 0) : v.ownBlock ≠ some gp := by
  rcases hv.2.2 with ⟨rfl, _⟩ | ⟨g', cap, cur, rfl, _, hh, _⟩
  · simp [Value.ownBlock]
  · intro he
    simp only [Value.ownBlock, Option.some.injEq] at he
    subst he
    rw [h.sta] at hh
    simp at hh
theorem Sd.keep (h : Sd w0 w gs gp bs T D V L K) (hg : w.grownBy w' none) : Sd w0 w' gs gp bs T D V L K := by
  obtain ⟨v, h1, h2⟩ := h.str
  exact ⟨gb_none h.old hg, h.ns, h.np, ⟨v, h1.keep hg, h2⟩, by rw [hg.block gp h.lt (by simp)]; exact h.sta⟩
theorem Sd.upd (h : Sd w0 w gs gp bs T D V L K) (i : Nat) (x : Value) {T' D' : Int} {V' : Nat} {L' K' : Int}
    (e : (w.setCell ⟨gp, i, none⟩ x).heap[gp]? = some (.cells #[.int .i64 T', .int .i64 D', .int .u64 (V' : Int), .int .i64 L', .int .i64 K'] 92 (0, 0))) :
    Sd w0 (w.setCell ⟨gp, i, none⟩ x) gs gp bs T' D' V' L' K' ∧ KeepT tS w (w.setCell ⟨gp, i, none⟩ x) := by
  obtain ⟨v, h1, h2⟩ := h.str
  have hg : w.grownBy (w.setCell ⟨gp, i, none⟩ x) (some gp) := ⟨rfl, rfl, rfl, by simp, fun k _ hk => Below.heap_setCell _ _ _ _ (fun e => hk (by rw [e]))⟩
  refine ⟨⟨?_, h.ns, h.np, ⟨v, ⟨?_, ?_⟩, h2⟩, e⟩, by simp, fun k A t fr hk ht => Below.heap_setCell _ _ _ _ (fun e => ht ?_)⟩
  · exact gb_new h.old hg (fun k hk => by cases hk; exact h.np)
  · rw [hg.block gs h1.cells.2.2.2 (by simp; exact h.ne)]
    exact h1.1
  · exact World.ownsRow.kept (row := some gp) h1.2 hg (.inr (h.ne2 h1))
  · simp only at e
    subst e
    rw [h.sta] at hk
    simp only [Option.some.injEq, Obj.cells.injEq] at hk
    rw [← hk.2.1]
    simp [tS]
theorem sd_write (h : Sd w0 w gs gp bs T D V L K) (y : BitVec 64) (n : Nat) (X N : Int) (hX : X = I64 y) (hN : N = (n : Int)) (hn : n ≤ 64) (hsz : bs.length ≤ 17592186044416) :
    Calls Tryd.prog 61 #[.pointer (some ⟨gs, 0, none⟩), .int .u64 X, .int .i64 N] w fun e w' => e = .returned (.tuple #[]) ∧ Sd w0 w' gs gp (bs ++ bitsOf y.toNat n) T D V L K ∧ KeepT tS w w' := by
  obtain ⟨v, h1, h2⟩ := h.str
  refine (write_eq gs v bs 0 y n X N hX hN w h1 hn hsz).mono ?_
  rintro e w' ⟨rfl, v', h3, h4⟩
  refine ⟨rfl, ⟨Fw.new h.old h4 h.ns h2, h.ns, h.np, ⟨v', h3, fun k hk => ?_⟩, ?_⟩, (KeepT.of_st h1 h4).mono (fun t ht => by simp only [List.mem_cons, List.not_mem_nil, or_false] at ht; rcases ht with rfl | rfl <;> simp [tS])⟩
  · rcases h4.own k hk with h5 | h5
    · exact h2 k h5.symm
    · exact Nat.le_trans h.old.size h5
  · rw [h4.block gp h.lt (fun e => h.ne e.symm) (fun e => h.ne2 h1 e.symm)]
    exact h.sta
/-- numbers that fit -/
theorem sd_writeN (h : Sd w0 w gs gp bs T D V L K) (x n : Nat) (X N : Int) (hX : X = (x : Int)) (hN : N = (n : Int)) (hx : x < 18446744073709551616) (hn : n ≤ 64) (hsz : bs.length ≤ 17592186044416) :
    Calls Tryd.prog 61 #[.pointer (some ⟨gs, 0, none⟩), .int .u64 X, .int .i64 N] w fun e w' => e = .returned (.tuple #[]) ∧ Sd w0 w' gs gp (bs ++ bitsOf x n) T D V L K ∧ KeepT tS w w' := by
  have e : (BitVec.ofNat 64 x).toNat = x := by rw [BitVec.toNat_ofNat]; exact Nat.mod_eq_of_lt hx
  have := sd_write h (BitVec.ofNat 64 x) n X N (by rw [hX]; unfold I64; rw [e]) hN hn hsz
  rw [e] at this
  exact this
end

theorem take_snocB {l : List UInt8} {j : Nat} (h : j < l.length) : l.take (j + 1) = l.take j ++ [l.getD j 0] := by rw [List.take_succ_eq_append_getElem h]; simp [h]
set_option maxHeartbeats 1600000 in
/-- bytes of a block of bytes, into the stream -/
theorem whole_any (w0 w : World) (gs gp : Nat) (bs : List Bool) (T D : Int) (V : Nat) (L K : Int) (h : Sd w0 w gs gp bs T D V L K) (b : Nat) (v : Value) (l : List UInt8) (hv : Own w b v l) (hl : l.length ≤ 100) (hsz : bs.length ≤ 1000000) :
    Calls Tryd.prog 59 #[.pointer (some ⟨gs, 0, none⟩), v] w fun e w' => e = .returned (.tuple #[]) ∧ Sd w0 w' gs gp (bs ++ bytesBits l) T D V L K ∧ KeepT tS w w' := by
  have HV := hidJ (And.intro h hv)
  obtain ⟨a, c, rfl⟩ := hv.shape
  clear h hv
  obtain ⟨N, hN⟩ : ∃ N, l.length = N := ⟨_, rfl⟩
  have HN := hidJ (And.intro hN (And.intro hl hsz))
  rw [hN]
  rw [hN] at hl
  clear hN hsz
  go_enter Tryd.func59, Tryd.ntmps59
  go_wp2
  go_loopw [8] (fun i wr => ∃ z : Nat, z ≤ N ∧ i = .int .i64 z ∧ Hid (Sd w0 wr gs gp (bs ++ bytesBits (l.take z)) T D V L K ∧ Own wr b (.slice a N c) l ∧ KeepT tS w wr)) (fun i _ => N - (intOf i).toNat)
  case atStart => exact ⟨0, by omega, rfl, by simpa [bytesBits] using HV.out.1, by have := HV.out.2; rw [HN.out.1] at this; exact this, KeepT.refl _ _⟩
  case round =>
    obtain ⟨z, hz, rfl, hr⟩ := hrel
    by_cases hlt : z < N
    · have hzi : (z : Int) < (N : Int) := by omega
      have hzl : z < l.length := by rw [HN.out.1]; exact hlt
      obtain ⟨a', c', e', h1, h2, h3, h4⟩ := hr.out.2.1.rd
      simp only [Value.slice.injEq] at e'
      obtain ⟨rfl, -, rfl⟩ := e'
      obtain ⟨b1, o1, rfl, hc⟩ := h3 z hzl
      clear h1 h2 h3 h4
      obtain ⟨q, hq⟩ : ∃ q, (l.getD z 0).toNat = q := ⟨_, rfl⟩
      have hq2 : q < 256 := by rw [← hq]; exact (l.getD z 0).toNat_lt
      rw [hq] at hc
      have HW := hidJ (sd_writeN hr.out.1 q 8 (q : Int) 8 rfl rfl (by omega) (by omega) (by rw [List.length_append, bytesBits_len]; have := HN.out; have := List.length_take_le z l; omega))
      have HQ := hidJ hq
      clear hq
      go_wp2_with fail
      refine HW.out.mono ?_
      rintro e w2 ⟨rfl, hS, hK⟩
      have HX : Hid (Sd w0 w2 gs gp (bs ++ bytesBits (l.take (z + 1))) T D V L K ∧ Own w2 b (.slice (some ⟨b1, o1, none⟩) N c) l ∧ KeepT tS w w2) := by
        refine ⟨?_, ownT hr.out.2.1 hK (by decide), hr.out.2.2.trans hK⟩
        rw [take_snocB hzl, bytesBits_snoc, HQ.out, ← List.append_assoc]
        exact hS
      clear hS hK HW hr
      go_wp2
      go_roundw
      case rel => exact ⟨z + 1, by omega, by go_num, HX⟩
      case measure => simp [intOf]; omega
    · obtain rfl : z = N := by omega
      have HE : Hid (Sd w0 wr gs gp (bs ++ bytesBits l) T D V L K ∧ KeepT tS w wr) := by have := hr.out.1; rw [List.take_of_length_le (by rw [HN.out.1]; omega)] at this; exact ⟨this, hr.out.2.2⟩
      clear hr
      go_wp2
      go_end0
      exact ⟨rfl, HE.out⟩

theorem nat_bv {x : Nat} (h : x < 18446744073709551616) : (BitVec.ofNat 64 x).toNat = x := by rw [BitVec.toNat_ofNat]; exact Nat.mod_eq_of_lt h
theorem lead_nat (X : Nat) (h0 : X ≠ 0) (hx : X < 18446744073709551616) (w : World) : Calls Tryd.prog 84 #[.int .u64 (X : Int)] w fun e w' => e = .returned (.int .i64 (leadN X : Int)) ∧ w' = w := by
  have := lead_any (BitVec.ofNat 64 X) (by rw [nat_bv hx]; exact h0) w
  unfold I64 at this
  rw [nat_bv hx] at this
  exact this
theorem trail_nat (X : Nat) (h0 : X ≠ 0) (hx : X < 18446744073709551616) (w : World) : Calls Tryd.prog 85 #[.int .u64 (X : Int)] w fun e w' => e = .returned (.int .i64 (tailN X : Int)) ∧ w' = w := by
  have := trail_any (BitVec.ofNat 64 X) (by rw [nat_bv hx]; exact h0) w
  unfold I64 at this
  rw [nat_bv hx] at this
  exact this
theorem wrap_wrap {q : Nat} (h : q < 18446744073709551616) : IntKind.u64.wrap (wrap64 (q : Int)) = (q : Int) := by
  rw [IntKind.wrap_u64]
  unfold wrap64
  omega
/-- a window as the document keeps it -/
def winL (t : Bool × Nat × Nat) : Int := if t.1 = true then (t.2.1 : Int) else 64
def winK (t : Bool × Nat × Nat) : Int := if t.1 = true then (t.2.2 : Int) else 0
theorem xor_nat (a b : Nat) (ha : a < 18446744073709551616) (hb : b < 18446744073709551616) : bits .xor .u64 (a : Int) (b : Int) = ((b ^^^ a : Nat) : Int) := by
  have h := I64_xor (BitVec.ofNat 64 a) (BitVec.ofNat 64 b)
  unfold I64 at h
  rw [BitVec.toNat_xor, nat_bv ha, nat_bv hb] at h
  rw [h, Nat.xor_comm]

set_option maxRecDepth 8000 in
set_option maxHeartbeats 6400000 in
theorem dValue_any (w0 w : World) (gs gp : Nat) (bs : List Bool) (T D : Int) (st : Pst) (f' : Nat) (h : Sd w0 w gs gp bs T D st.f (winL (st.th, st.ld, st.tl)) (winK (st.th, st.ld, st.tl))) (hs : OkP st) (hf : f' < 18446744073709551616) (hsz : bs.length ≤ 1000000) :
    Calls Tryd.prog 63 #[.pointer (some ⟨gp, 0, none⟩), .pointer (some ⟨gs, 0, none⟩), .int .u64 (f' : Int)] w fun e w' => e = .returned (.tuple #[]) ∧ Sd w0 w' gs gp (bs ++ valB st f') T D f' (winL (valW st f')) (winK (valW st f')) ∧ KeepT tS w w' := by
  obtain ⟨X, hX⟩ : ∃ X, st.f ^^^ f' = X := ⟨_, rfl⟩
  have hXl : X < 18446744073709551616 := by rw [← hX]; exact xor_lt hs.bits hf
  have hxor := xor_nat f' st.f hf hs.bits
  rw [hX] at hxor
  obtain ⟨c0, c1, c2, c3, c4⟩ := h.cells
  have hz2 := h.frz 2
  have HU := hidJ (h.upd 2 (.int .u64 (f' : Int)) (T' := T) (D' := D) (V' := f') (L' := winL (st.th, st.ld, st.tl)) (K' := winK (st.th, st.ld, st.tl)) (heap_setCell_same w gp 2 _ _ _ h.sta))
  have HW := hidJ (And.intro hs (And.intro hX (And.intro hXl hsz)))
  by_cases h0 : X = 0
  · subst h0
    have HE : Hid (valB st f' = [false] ∧ valW st f' = (st.th, st.ld, st.tl)) := by
      unfold valB valW
      rw [if_pos hX, if_pos (.inl hX)]
      exact ⟨rfl, rfl⟩
    clear h hs hX hXl hsz hf
    generalize valB st f' = vB at *
    generalize valW st f' = vW at *
    go_enter Tryd.func63, Tryd.ntmps63
    go_wp2_with fail
    refine (sd_writeN HU.out.1 0 1 _ _ rfl rfl (by decide) (by decide) (by have := HW.out.2.2.2; omega)).mono ?_
    rintro e w2 ⟨rfl, hS, hK⟩
    have HF : Hid (Sd w0 w2 gs gp (bs ++ vB) T D f' (winL vW) (winK vW) ∧ KeepT tS w w2) := by
      rw [HE.out.1, HE.out.2, ← show bitsOf 0 1 = [false] by decide]
      exact ⟨hS, HU.out.2.trans hK⟩
    clear hS hK
    go_wp2
    refine bodyPost_ret (results_none rfl _ _ _) rfl ?_
    exact ⟨rfl, HF.out⟩
  · have hXb : ((X : Int) == 0) = false := by rw [beq_eq_false_iff_ne]; omega
    have hXi : ¬ (X : Int) = 0 := by omega
    have HLT := hidJ (And.intro (lead_spec h0 hXl) (And.intro (tail_spec h0 hXl) (And.intro (lead_nat X h0 hXl) (trail_nat X h0 hXl))))
    have HB : Hid (valB st f' = true :: turnedB st X) := by show valB st f' = true :: turnedB st X; unfold valB; rw [if_neg (by rw [hX]; exact h0), hX]
    have HV : Hid (valW st f' = if fitsW st X = true then (st.th, st.ld, st.tl) else (true, leadN X, tailN X)) := by
      show valW st f' = if fitsW st X = true then (st.th, st.ld, st.tl) else (true, leadN X, tailN X)
      unfold valW
      rw [hX]
      by_cases hw : fitsW st X = true
      · rw [if_pos (.inr hw), if_pos hw]
      · rw [if_neg (by rintro (h | h); exact h0 h; exact hw h), if_neg hw]
    clear h hs hX hXl hsz hf h0
    generalize valB st f' = vB at *
    generalize valW st f' = vW at *
    obtain ⟨l, hl⟩ : ∃ l, leadN X = l := ⟨_, rfl⟩
    obtain ⟨t, ht⟩ : ∃ t, tailN X = t := ⟨_, rfl⟩
    have HT : Hid (turnedB st X = if fitsW st X = true then false :: bitsOf (X / 2 ^ st.tl) (64 - st.ld - st.tl) else true :: (bitsOf l 5 ++ (bitsOf ((64 - l - t) % 64) 6 ++ bitsOf (X / 2 ^ t) (64 - l - t)))) := by
      show turnedB st X = _
      rw [← hl, ← ht]
      rfl
    have HFi : Hid (fitsW st X = (st.th && decide (st.ld ≤ l) && decide (st.tl ≤ t))) := by show fitsW st X = _; rw [← hl, ← ht]; rfl
    rw [hl, ht] at HLT HV
    have hlt64 : l ≤ 31 ∧ t < 64 := ⟨HLT.out.1.2.1, by have := HLT.out.1.2.2; omega⟩
    clear hl ht
    generalize turnedB st X = tB at *
    obtain ⟨fi, hfi⟩ : ∃ fi, fitsW st X = fi := ⟨_, rfl⟩
    rw [hfi] at HV HT HFi
    clear hfi
    go_enter Tryd.func63, Tryd.ntmps63
    go_wp2_with fail
    refine (sd_writeN HU.out.1 1 1 _ _ rfl rfl (by decide) (by decide) (by have := HW.out.2.2.2; omega)).mono ?_
    rintro e w2 ⟨rfl, hS, hK⟩
    have H2 : Hid (Sd w0 w2 gs gp (bs ++ [true]) T D f' (winL (st.th, st.ld, st.tl)) (winK (st.th, st.ld, st.tl)) ∧ KeepT tS w w2) := ⟨by rw [← show bitsOf 1 1 = [true] by decide]; exact hS, HU.out.2.trans hK⟩
    clear hS hK HU c0 c1 c2 c3 c4 hz2
    go_wp2_with fail
    refine (HLT.out.2.2.1 _).mono ?_
    rintro e w3 ⟨rfl, hw3⟩
    have hw3 := hw3.symm
    subst hw3
    go_wp2_with fail
    refine (HLT.out.2.2.2 _).mono ?_
    rintro e w3 ⟨rfl, hw3⟩
    have hw3 := hw3.symm
    subst hw3
    obtain ⟨c0, c1, c2, c3, c4⟩ := H2.out.1.cells
    go_upto_region 6 with fail
    go_cut [51] from 11 (fun s wx => s = .bool fi ∧ wx = w2)
    case first =>
      cases hth : st.th with
      | false =>
        rw [hth] at HFi c3 c4
        have e3 : winL (false, st.ld, st.tl) = 64 := rfl
        rw [e3] at c3
        have HG : Hid (fi = false) := by show fi = false; rw [HFi.out]; rfl
        clear c0 c1 c2 c4 e3
        go_wp2_with fail
        go_meet
        case rel => exact ⟨by rw [HG.out], rfl⟩
      | true =>
        rw [hth] at HFi c3 c4
        have e3 : winL (true, st.ld, st.tl) = (st.ld : Int) := rfl
        have e4 : winK (true, st.ld, st.tl) = (st.tl : Int) := rfl
        rw [e3] at c3
        rw [e4] at c4
        clear e3 e4 c0 c1 c2
        have hld : (st.ld : Int) < 64 := by have := HW.out.1.win; omega
        by_cases h1 : st.ld ≤ l
        · have h1i : (st.ld : Int) ≤ (l : Int) := by omega
          by_cases h2 : st.tl ≤ t
          · have h2i : (st.tl : Int) ≤ (t : Int) := by omega
            have HG : Hid (fi = true) := by show fi = true; rw [HFi.out, decide_eq_true h1, decide_eq_true h2]; rfl
            go_wp2_with fail
            go_meet
            case rel => exact ⟨by rw [HG.out], rfl⟩
          · have h2i : ¬ (st.tl : Int) ≤ (t : Int) := by omega
            have HG : Hid (fi = false) := by show fi = false; rw [HFi.out, decide_eq_false h2, Bool.and_false]
            go_wp2_with fail
            go_meet
            case rel => exact ⟨by rw [HG.out], rfl⟩
        · have h1i : ¬ (st.ld : Int) ≤ (l : Int) := by omega
          have HG : Hid (fi = false) := by show fi = false; rw [HFi.out, decide_eq_false h1, Bool.and_false, Bool.false_and]
          go_wp2_with fail
          go_meet
          case rel => exact ⟨by rw [HG.out], rfl⟩
    case rest =>
      obtain ⟨rfl, hwx⟩ := hcut
      have hwx := hwx.symm
      subst hwx
      cases fi with
      | true =>
        have hth : st.th = true := by have := HFi.out; cases h : st.th with | true => rfl | false => rw [h] at this; simp at this
        have hle : st.ld ≤ l ∧ st.tl ≤ t := by
          have := HFi.out
          rw [hth] at this
          simpa using this.symm
        rw [hth] at c3 c4
        have e3 : winL (true, st.ld, st.tl) = (st.ld : Int) := rfl
        have e4 : winK (true, st.ld, st.tl) = (st.tl : Int) := rfl
        rw [e3] at c3
        rw [e4] at c4
        clear e3 e4 c0 c1 c2
        have hwin := HW.out.1.win
        obtain ⟨M, hM⟩ : ∃ M, 64 - st.ld = M := ⟨_, rfl⟩
        obtain ⟨N, hN⟩ : ∃ N, M - st.tl = N := ⟨_, rfl⟩
        have hMi : (64 : Int) - (st.ld : Int) = (M : Int) := by omega
        have hNi : (M : Int) - (st.tl : Int) = (N : Int) := by omega
        have HNN := hidJ (And.intro hM hN)
        clear hM hN
        obtain ⟨q, hq⟩ : ∃ q, X / 2 ^ st.tl = q := ⟨_, rfl⟩
        have HQ := hidJ hq
        clear hq
        have hsh : (X : Int) / 2 ^ st.tl = (q : Int) := by rw [shr_nat, HQ.out]
        have htl : st.tl < 64 := by omega
        have hq64 : q < 18446744073709551616 := by have := HW.out.2.2.1; have h2 := Nat.div_le_self X (2 ^ st.tl); rw [HQ.out] at h2; omega
        have HQN : Hid (q % 2 ^ N = q ∧ N ≤ 64) := by
          refine ⟨Nat.mod_eq_of_lt ?_, by omega⟩
          have h1 : X < 2 ^ (64 - st.ld) := Nat.lt_of_lt_of_le HLT.out.1.1 (Nat.pow_le_pow_right (by decide) (by omega))
          have h2 := div_lt_pow (b := st.tl) h1 (by omega)
          rw [HQ.out, HNN.out.1, HNN.out.2] at h2
          exact h2
        clear hle hwin
        go_upto_region 7 with fail
        go_region
        have H3 : Hid (Sd w0 w2.drew gs gp (bs ++ [true]) T D f' (winL (st.th, st.ld, st.tl)) (winK (st.th, st.ld, st.tl)) ∧ KeepT tS w w2.drew) := ⟨H2.out.1.keep (gb_drew _ _), H2.out.2.trans (KeepT.of_none (gb_drew _ _))⟩
        clear c3 c4 H2
        generalize w2.drew = w3 at *
        go_wp2_with fail
        refine (sd_writeN H3.out.1 0 1 _ _ rfl rfl (by decide) (by decide) (by have := HW.out.2.2.2; simp; omega)).mono ?_
        rintro e w4 ⟨rfl, hS, hK⟩
        have H4 : Hid (Sd w0 w4 gs gp (bs ++ [true] ++ bitsOf 0 1) T D f' (winL (st.th, st.ld, st.tl)) (winK (st.th, st.ld, st.tl)) ∧ KeepT tS w w4) := ⟨hS, H3.out.2.trans hK⟩
        obtain ⟨-, -, -, -, c4⟩ := hS.cells
        rw [hth] at c4
        have e4 : winK (true, st.ld, st.tl) = (st.tl : Int) := rfl
        rw [e4] at c4
        clear hS hK e4 H3
        go_wp2_with fail
        refine (low_all (wrap64 (q : Int)) (BitVec.ofNat 64 q) N HQN.out.2 (by rw [I64_of hq64]; exact wrap_wrap hq64) _).mono ?_
        rintro e w5 ⟨rfl, hw5⟩
        have hw5 := hw5.symm
        subst hw5
        rw [nat_bv hq64, HQN.out.1]
        have HC := hidJ (sd_writeN H4.out.1 q N (q : Int) (N : Int) rfl rfl hq64 HQN.out.2 (by have := HW.out.2.2.2; simp [bitsOf_len]; omega))
        go_wp2_with fail
        with_reducible refine HC.out.mono ?_
        rintro e w6 ⟨rfl, hS, hK⟩
        have HF : Hid (Sd w0 w6 gs gp (bs ++ vB) T D f' (winL vW) (winK vW) ∧ KeepT tS w w6) := by
          refine ⟨?_, H4.out.2.trans hK⟩
          have e1 : vW = (st.th, st.ld, st.tl) := HV.out
          have e2 : bs ++ vB = bs ++ [true] ++ bitsOf 0 1 ++ bitsOf q N := by
            have h1 := HB.out
            have h2 : tB = false :: bitsOf (X / 2 ^ st.tl) (64 - st.ld - st.tl) := HT.out
            rw [HNN.out.1, HNN.out.2, HQ.out] at h2
            rw [h1, h2, show bitsOf 0 1 = [false] by decide]
            simp
          rw [e1, e2]
          exact hS
        clear hS hK H4 HC
        go_wp2_with fail
        refine bodyPost_ret (results_none rfl _ _ _) rfl ?_
        exact ⟨rfl, HF.out⟩
      | false =>
        obtain ⟨M, hM⟩ : ∃ M, 64 - l = M := ⟨_, rfl⟩
        obtain ⟨N, hN⟩ : ∃ N, M - t = N := ⟨_, rfl⟩
        have hlt := HLT.out.1.2.2
        have hMi : (64 : Int) - (l : Int) = (M : Int) := by omega
        have hNi : (M : Int) - (t : Int) = (N : Int) := by omega
        have HNN := hidJ (And.intro hM hN)
        obtain ⟨R, hR⟩ : ∃ R, N % 64 = R := ⟨_, rfl⟩
        have hRi : (N : Int).tmod 64 = (R : Int) := by rw [Int.tmod_eq_emod_of_nonneg (by omega)]; omega
        have HR := hidJ hR
        obtain ⟨q, hq⟩ : ∃ q, X / 2 ^ t = q := ⟨_, rfl⟩
        have HQ := hidJ hq
        have hsh : (X : Int) / 2 ^ t = (q : Int) := by rw [shr_nat, HQ.out]
        have hq64 : q < 18446744073709551616 := by have := HW.out.2.2.1; have h2 := Nat.div_le_self X (2 ^ t); rw [HQ.out] at h2; omega
        have HN64 : Hid (N ≤ 64 ∧ R < 64) := ⟨by omega, by omega⟩
        have hR64 : R < 64 := HN64.out.2
        clear hM hN hR hq hlt c0 c1 c2 c3 c4
        go_wp2_with fail
        refine (sd_writeN H2.out.1 1 1 _ _ rfl rfl (by decide) (by decide) (by have := HW.out.2.2.2; simp; omega)).mono ?_
        rintro e w3 ⟨rfl, hS, hK⟩
        have H3 := hidJ (And.intro hS (H2.out.2.trans hK))
        clear hS hK H2
        have HC := hidJ (sd_writeN H3.out.1 l 5 (l : Int) 5 rfl rfl (by omega) (by decide) (by have := HW.out.2.2.2; simp [bitsOf_len]; omega))
        go_wp2_with fail
        with_reducible refine HC.out.mono ?_
        rintro e w4 ⟨rfl, hS, hK⟩
        have H4 := hidJ (And.intro hS (H3.out.2.trans hK))
        clear hS hK H3 HC
        have HC := hidJ (sd_writeN H4.out.1 R 6 (R : Int) 6 rfl rfl (by have := HN64.out; omega) (by decide) (by have := HW.out.2.2.2; simp [bitsOf_len]; omega))
        go_wp2_with fail
        with_reducible refine HC.out.mono ?_
        rintro e w5 ⟨rfl, hS, hK⟩
        have H5 := hidJ (And.intro hS (H4.out.2.trans hK))
        clear hS hK H4 HC
        have HC := hidJ (sd_writeN H5.out.1 q N (q : Int) (N : Int) rfl rfl hq64 HN64.out.1 (by have := HW.out.2.2.2; simp [bitsOf_len]; omega))
        go_wp2_with fail
        with_reducible refine HC.out.mono ?_
        rintro e w6 ⟨rfl, hS, hK⟩
        have H6 := hidJ (And.intro hS (H5.out.2.trans hK))
        clear hS hK H5 HC
        obtain ⟨c0, c1, c2, c3, c4⟩ := H6.out.1.cells
        have z3 := H6.out.1.frz 3
        have HU3 := hidJ (H6.out.1.upd 3 (.int .i64 (l : Int)) (T' := T) (D' := D) (V' := f') (L' := (l : Int)) (K' := winK (st.th, st.ld, st.tl)) (heap_setCell_same w6 gp 3 _ _ _ H6.out.1.sta))
        have d4 := HU3.out.1.cells.2.2.2.2
        have z4 := HU3.out.1.frz 4
        have HU4 := hidJ (HU3.out.1.upd 4 (.int .i64 (t : Int)) (T' := T) (D' := D) (V' := f') (L' := (l : Int)) (K' := (t : Int)) (heap_setCell_same _ gp 4 _ _ _ HU3.out.1.sta))
        have HF : Hid (Sd w0 ((w6.setCell ⟨gp, 3, none⟩ (.int .i64 (l : Int))).setCell ⟨gp, 4, none⟩ (.int .i64 (t : Int))) gs gp (bs ++ vB) T D f' (winL vW) (winK vW) ∧ KeepT tS w ((w6.setCell ⟨gp, 3, none⟩ (.int .i64 (l : Int))).setCell ⟨gp, 4, none⟩ (.int .i64 (t : Int)))) := by
          refine ⟨?_, (H6.out.2.trans HU3.out.2).trans HU4.out.2⟩
          have e1 : vW = (true, l, t) := HV.out
          have e2 : bs ++ vB = bs ++ [true] ++ bitsOf 1 1 ++ bitsOf l 5 ++ bitsOf R 6 ++ bitsOf q N := by
            have h1 := HB.out
            have h2 : tB = true :: (bitsOf l 5 ++ (bitsOf ((64 - l - t) % 64) 6 ++ bitsOf (X / 2 ^ t) (64 - l - t))) := HT.out
            rw [HNN.out.1, HNN.out.2, HR.out, HQ.out] at h2
            rw [h1, h2, show bitsOf 1 1 = [true] by decide]
            simp
          rw [e1, e2]
          exact HU4.out.1
        clear HU3 HU4 H6
        go_wp2_with fail
        go_end0
        exact ⟨rfl, HF.out⟩
end Go.Proofs.YtkiefmhampfhoaaDoor
