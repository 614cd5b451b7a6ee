/-
  The document's streams, read: New, Left, ReadBits: the walks.
-/
import Derived.Test.YtkiefmhampfhoaaDoorCkS1
import Derived.Test.YtkiefmhampfhoaaDoorGB
import Derived.Deep.RegionHeld3
import Derived.Deep.RegionLaw
namespace Go.Proofs.YtkiefmhampfhoaaDoor
open Go.RowKit

theorem OwnB.cellT {w : World} {v : Value} {l : List Bool} (h : OwnB w v l) (hl : l ≠ []) : ∃ g cap, v = .slice (some ⟨g, 0, none⟩) l.length cap ∧ g < w.heap.size ∧ ∀ j, j < l.length → w.cell? ⟨g, j, none⟩ = some (.bool (l.getD j false)) := by
  have h0 := h
  rcases h.2 with ⟨rfl, hn⟩ | ⟨g, cap, cur, rfl, hg, hh, hnc, hcm, hcs, ht⟩
  · exact absurd (List.eq_nil_of_length_eq_zero hn) hl
  · refine ⟨g, cap, rfl, (Array.getElem?_eq_some_iff.1 hh).1, fun j hj => ?_⟩
    have := World.ownsRow.cellAt h0 j (by omega)
    rw [this]
    simp [hj, List.getD]
/-- a stream's place is moved -/
theorem St.move {w : World} {g p : Nat} {v : Value} {l : List Bool} (h : St w g v l p) (q : Nat) : St (w.setCell ⟨g, 1, none⟩ (.int .i64 (q : Int))) g v l q := by
  refine ⟨?_, ?_⟩
  · have := heap_setCell_same w g 1 _ _ (.int .i64 (q : Int)) h.1
    rw [this]
    rfl
  · exact World.ownsRow.kept h.2 (gb_set w g 1 _) (.inr h.apart)
theorem St.frz {w : World} {g p : Nat} {v : Value} {l : List Bool} (h : St w g v l p) : w.frozen? ⟨g, 1, none⟩ = false := by simp [World.frozen?, h.1]
set_option maxHeartbeats 1600000 in
theorem sleft_any (g : Nat) (v : Value) (l : List Bool) (p : Nat) (w : World) (h : St w g v l p) (hp : p ≤ l.length) (hs : l.length ≤ 8388608) :
    Calls Tryd.prog 93 #[.pointer (some ⟨g, 0, none⟩)] w fun e w' => e = .returned (.int .i64 ((l.length - p : Nat) : Int)) ∧ w.grownBy w' none := by
  have hc := h.cells
  have c0 := hc.1
  have c1 := hc.2.1
  obtain ⟨a, c, hv⟩ := h.2.shape
  subst hv
  have hsub : Hid ((l.length : Int) - (p : Int) = ((l.length - p : Nat) : Int)) := by show (l.length : Int) - (p : Int) = ((l.length - p : Nat) : Int); omega
  have hs2 : (l.length : Int) ≤ 8388608 := by omega
  have hp2 : (p : Int) ≤ 8388608 := by omega
  clear hc h hs hp
  go_enter Tryd.func93, Tryd.ntmps93
  go_wp2
  go_region
  all_goals (try go_wp2)
  all_goals go_ret
  all_goals exact ⟨ret_int hsub.out, gb_drew _ _⟩
theorem dblX {V : Nat} (h : V < 9223372036854775808) : IntKind.u64.wrap (I64 (BitVec.ofNat 64 V) * 2) = I64 (BitVec.ofNat 64 (2 * V)) := by
  rw [← u64_lit (by omega), ← u64_lit (by omega), IntKind.wrap_u64]
  omega
theorem incX {V : Nat} (h : V < 9223372036854775808) : IntKind.u64.wrap (I64 (BitVec.ofNat 64 (2 * V)) + 1) = I64 (BitVec.ofNat 64 (2 * V + 1)) := by
  rw [← u64_lit (by omega), ← u64_lit (by omega), IntKind.wrap_u64]
  omega
def lVal (l : List Bool) (p : Nat) (n : Int) (left : Nat) : Nat := if rCode n left = 0 then natOf (bitsAt l p n.toNat) else 0
theorem bitsAt_succ (l : List Bool) (p n : Nat) : bitsAt l p (n + 1) = bitsAt l p n ++ [slot l (p + n)] := by simp [bitsAt, List.range_succ]
set_option maxHeartbeats 6400000 in
theorem sbits_any (g : Nat) (v : Value) (l : List Bool) (p : Nat) (n : Int) (w : World) (h : St w g v l p) (hp : p ≤ l.length) (hs : l.length ≤ 8388608) :
    Calls Tryd.prog 69 #[.pointer (some ⟨g, 0, none⟩), .int .i64 n] w fun e w' => e = .returned (.tuple #[.int .u64 (I64 (BitVec.ofNat 64 (lVal l p n (l.length - p)))), .int .i64 (rCode n (l.length - p))]) ∧ St w' g v l (rAt p n (l.length - p)) ∧ w.grownBy w' (some g) := by
  have HH : Hid (St w g v l p) := h
  by_cases hb : rBad n
  · have e1 : rCode n (l.length - p) = 1 := if_pos hb
    have e2 : lVal l p n (l.length - p) = 0 := by unfold lVal; rw [e1]; rfl
    have e3 : rAt p n (l.length - p) = p := by unfold rAt; rw [e1]; rfl
    rw [e1, e2, e3]
    have HF : Hid (w.grownBy w (some g)) := gb_refl _ _
    have HZ : Hid ((0 : Int) = I64 (BitVec.ofNat 64 0)) := by show (0 : Int) = I64 (BitVec.ofNat 64 0); decide
    generalize BitVec.ofNat 64 0 = ZZ at *
    clear h e1 e2 e3 hp hs
    rcases hb with c1 | c2
    · go_enter Tryd.func69, Tryd.ntmps69
      go_wp2
      go_ret2
      exact ⟨by rw [← HZ.out]; rfl, HH.out, HF.out⟩
    · have c1 : ¬ n < 0 := by omega
      go_enter Tryd.func69, Tryd.ntmps69
      go_wp2
      go_ret2
      exact ⟨by rw [← HZ.out]; rfl, HH.out, HF.out⟩
  · have hb2 := hb
    unfold rBad at hb2
    obtain ⟨m, rfl⟩ := Int.eq_ofNat_of_zero_le (show 0 ≤ n by omega)
    have c1 : ¬ (m : Int) < 0 := by omega
    have c2 : ¬ (64 : Int) < (m : Int) := by omega
    have hm64 : m ≤ 64 := by omega
    clear hb2
    have HL : Hid (∀ w', St w' g v l p → Calls Tryd.prog 93 #[.pointer (some ⟨g, 0, none⟩)] w' fun e w'' => e = .returned (.int .i64 ((l.length - p : Nat) : Int)) ∧ w'.grownBy w'' none) := fun w' hh => sleft_any g v l p w' hh hp hs
    by_cases hsm : l.length - p < m
    · have e1 : rCode (m : Int) (l.length - p) = 9 := by unfold rCode; rw [if_neg hb, Int.toNat_natCast, if_pos hsm]
      have e2 : lVal l p (m : Int) (l.length - p) = 0 := by unfold lVal; rw [e1]; rfl
      have e3 : rAt p (m : Int) (l.length - p) = p := by unfold rAt; rw [e1]; rfl
      rw [e1, e2, e3]
      have HZ : Hid ((0 : Int) = I64 (BitVec.ofNat 64 0)) := by show (0 : Int) = I64 (BitVec.ofNat 64 0); decide
      generalize BitVec.ofNat 64 0 = ZZ at *
      have hs2 : ((l.length - p : Nat) : Int) < (m : Int) := by omega
      clear h e1 e2 e3 hb hsm hp hs
      generalize l.length - p = LF at *
      go_enter Tryd.func69, Tryd.ntmps69
      go_wp2_with fail
      refine (HL.out _ HH.out).mono ?_
      rintro e w1 ⟨rfl, hg1⟩
      have H1 : Hid (St w1 g v l p ∧ w.grownBy w1 (some g)) := ⟨HH.out.keep hg1, gb_any hg1 _⟩
      clear hg1
      go_wp2
      go_ret2
      exact ⟨by rw [← HZ.out]; rfl, H1.out.1, H1.out.2⟩
    · have e1 : rCode (m : Int) (l.length - p) = 0 := by unfold rCode; rw [if_neg hb, Int.toNat_natCast, if_neg hsm]
      have e2 : lVal l p (m : Int) (l.length - p) = natOf (bitsAt l p m) := by unfold lVal; rw [e1, Int.toNat_natCast]; rfl
      have e3 : rAt p (m : Int) (l.length - p) = p + m := by unfold rAt; rw [e1, Int.toNat_natCast]; rfl
      rw [e1, e2, e3]
      have hs2 : ¬ ((l.length - p : Nat) : Int) < (m : Int) := by omega
      have HPL : Hid (p + m ≤ l.length ∧ l.length ≤ 8388608) := ⟨by omega, hs⟩
      have hpi : (p : Int) ≤ 8388608 := by omega
      have hli : (l.length : Int) ≤ 8388608 := by omega
      have HPM : Hid ((p : Int) + (m : Int) = ((p + m : Nat) : Int)) := by show (p : Int) + (m : Int) = ((p + m : Nat) : Int); omega
      clear h e1 e2 e3 hb hsm hp hs
      generalize l.length - p = LF at *
      go_enter Tryd.func69, Tryd.ntmps69
      go_wp2_with fail
      refine (HL.out _ HH.out).mono ?_
      rintro e w1 ⟨rfl, hg1⟩
      have H1 : Hid (St w1 g v l p ∧ w.grownBy w1 none) := ⟨HH.out.keep hg1, hg1⟩
      clear hg1 HL
      go_wp2
      go_loopw [6, 7] (fun x i wr => ∃ k : Nat, k ≤ m ∧ i = .int .i64 (k : Int) ∧ x = .int .u64 (I64 (BitVec.ofNat 64 (natOf (bitsAt l p k)))) ∧ Hid (St wr g v l p ∧ w.grownBy wr none)) (fun _ i _ => m - (intOf i).toNat)
      case atStart => exact ⟨0, by omega, rfl, rfl, H1⟩
      case round =>
        obtain ⟨k, hk, rfl, rfl, hr⟩ := hrel
        clear H1
        by_cases hkm : k < m
        · have hVl := natOf_lt (bitsAt l p k)
          rw [bitsAt_len] at hVl
          have hV : natOf (bitsAt l p k) < 9223372036854775808 := Nat.lt_of_lt_of_le hVl (by have : 2 ^ k ≤ 2 ^ 63 := Nat.pow_le_pow_right (by decide) (by omega); exact this)
          have hd2 := dblX hV
          have hin := incX hV
          have hpk : p + k < l.length := by have := HPL.out.1; omega
          have hpk1 : (p : Int) + (k : Int) < (l.length : Int) := by omega
          have hne : l ≠ [] := by rintro rfl; simp at hpk
          obtain ⟨gb, cap, hv, -, hcell⟩ := hr.out.1.2.cellT hne
          subst hv
          have hc := hcell (p + k) hpk
          have c0 := hr.out.1.cells.1
          have c1' := hr.out.1.cells.2.1
          have hn2 := bitsAt_succ l p k
          have hslot : slot l (p + k) = l.getD (p + k) false := rfl
          clear hcell hVl
          cases hbit : l.getD (p + k) false with
          | true =>
            rw [hbit] at hc
            have HN : Hid (natOf (bitsAt l p (k + 1)) = 2 * natOf (bitsAt l p k) + 1) := by show natOf (bitsAt l p (k + 1)) = _; rw [hn2, natOf_snoc, hslot, hbit]; rfl
            clear hn2 hslot hbit hV hpk
            generalize hN1 : natOf (bitsAt l p (k + 1)) = N1 at *
            have HN1 : Hid (natOf (bitsAt l p (k + 1)) = N1) := hN1
            clear hN1
            generalize natOf (bitsAt l p k) = N0 at *
            generalize hB0 : BitVec.ofNat 64 N0 = B0 at *
            generalize hB1 : BitVec.ofNat 64 (2 * N0) = B1 at *
            have hB2 : BitVec.ofNat 64 (2 * N0 + 1) = BitVec.ofNat 64 N1 := by rw [HN.out]
            rw [hB2] at hin
            generalize hBB : BitVec.ofNat 64 N1 = B2 at *
            have HBB : Hid (BitVec.ofNat 64 N1 = B2) := hBB
            clear hBB
            clear hB0 hB1 hB2 HN
            go_wp2_with fail
            go_region
            all_goals go_wp2
            all_goals go_roundw
            all_goals first | exact ⟨k + 1, by omega, by go_num, by rw [HN1.out, HBB.out], hr.out.1.keep (gb_drew _ _), gb_none hr.out.2 (gb_drew _ _)⟩ | (simp [intOf]; omega)
          | false =>
            rw [hbit] at hc
            have HN : Hid (natOf (bitsAt l p (k + 1)) = 2 * natOf (bitsAt l p k)) := by show natOf (bitsAt l p (k + 1)) = _; rw [hn2, natOf_snoc, hslot, hbit]; rfl
            clear hn2 hslot hbit hV hpk hin
            generalize hN1 : natOf (bitsAt l p (k + 1)) = N1 at *
            have HN1 : Hid (natOf (bitsAt l p (k + 1)) = N1) := hN1
            clear hN1
            generalize natOf (bitsAt l p k) = N0 at *
            generalize hB0 : BitVec.ofNat 64 N0 = B0 at *
            have hB2 : BitVec.ofNat 64 (2 * N0) = BitVec.ofNat 64 N1 := by rw [HN.out]
            rw [hB2] at hd2
            generalize hBB : BitVec.ofNat 64 N1 = B2 at *
            have HBB : Hid (BitVec.ofNat 64 N1 = B2) := hBB
            clear hBB
            clear hB0 hB2 HN
            go_wp2_with fail
            go_region
            all_goals go_wp2
            all_goals go_roundw
            all_goals first | exact ⟨k + 1, by omega, by go_num, by rw [HN1.out, HBB.out], hr.out.1.keep (gb_drew _ _), gb_none hr.out.2 (gb_drew _ _)⟩ | (simp [intOf]; omega)
        · obtain rfl : k = m := by omega
          have c1' := hr.out.1.cells.2.1
          have f1 := hr.out.1.frz
          have hM := hr.out.1.move (p + k)
          rw [← HPM.out] at hM
          have H2 : Hid (St (wr.setCell ⟨g, 1, none⟩ (.int .i64 ((p : Int) + (k : Int)))) g v l (p + k) ∧ w.grownBy (wr.setCell ⟨g, 1, none⟩ (.int .i64 ((p : Int) + (k : Int)))) (some g)) := ⟨hM, gb_some hr.out.2 (gb_set _ _ _ _)⟩
          clear hM hr
          go_wp2
          go_ret2
          exact ⟨rfl, H2.out.1, H2.out.2⟩
/-- one bool more, at a step of a region that draws -/
theorem step_appB {w : World} {ops : Array Oper} {o : Oper} {a : Act} {K : Act → World → Prop} {Q : Exit → Act → World → Prop} {E : Prop} (hgd : o.guard = none) (s x : Operand)
    (ho : o.op = .call { callee := .builtin .append, args := #[s, x], argTypes := #[77, 77] })
    (v : Value) (l : List Bool) (b : Bool) (gx : Nat) (hs : a.eval s = v) (hx : a.eval x = .slice (some ⟨gx, 0, none⟩) 1 1) (hc : w.cell? ⟨gx, 0, none⟩ = some (.bool b)) (hown : OwnB w v l) (hsz : l.length + 1 ≤ 175921860444160)
    (h : ∀ a1 n1 c1 w', OwnB w' (.slice a1 n1 c1) (l ++ [b]) → Fr w w' v (.slice a1 n1 c1) → K (a.put o.dst (.slice a1 n1 c1)) w') :
    if Region.wanted o (yielded ops a.tmps) = true then Oper.wp Tryd.prog o a w K Q else E := by
  have hw : Region.wanted o (yielded ops a.tmps) = true := by simp [Region.wanted, hgd]
  rw [if_pos hw]
  obtain ⟨v', w', hrun, h2, h3⟩ := run_appB w o.type v l hown b gx hc hsz
  obtain ⟨a1, n1, c1, rfl⟩ := h2.shape3
  unfold Oper.wp execOp
  simp only [ho, resolve, invoke, builtin, Sem.run_bind, Sem.run_pure, Result.andThen_ok, List.map_toArray, List.map_cons, List.map_nil, hs, hx, hrun]
  exact h a1 n1 c1 w' h2 h3
theorem wrapS {x : Nat} (h : x ≤ 1048576) : wrap64 (x : Int) = (x : Int) := wrap64_id (by omega) (by omega)
theorem wrapI {x : Nat} (h : x ≤ 1048576) : IntKind.i64.wrap (x : Int) = (x : Int) := by
  rw [IntKind.wrap_i64]
  omega
theorem shf8 {x : Nat} (h : x ≤ 7) : min (IntKind.u64.wrap (IntKind.i64.wrap (7 - (x : Int)))).toNat 8 = 7 - x := by
  rw [IntKind.wrap_i64, IntKind.wrap_u64]
  omega
theorem shf9 {x : Nat} (h : x ≤ 7) : min (IntKind.u64.wrap (7 - (x : Int))).toNat 8 = 7 - x := by
  rw [IntKind.wrap_u64]
  omega
theorem shf7 {x : Nat} (h : x ≤ 7) : (IntKind.u64.wrap (7 - (x : Int))).toNat = 7 - x := by
  rw [IntKind.wrap_u64]
  omega
theorem bit8 (y m : Nat) (hy : y < 256) : (bits .and .u8 ((y : Int) / 2 ^ m) 1 == 1) = y.testBit m := by
  have e : (y : Int) / 2 ^ m = ((y / 2 ^ m : Nat) : Int) := by rw [Int.natCast_ediv, Int.natCast_pow]; rfl
  have h := u8_and_nat (y / 2 ^ m) 1 (Nat.lt_of_le_of_lt (Nat.div_le_self _ _) hy) (by decide)
  rw [Nat.and_one_is_mod] at h
  have h2 : bits .and .u8 ((y / 2 ^ m : Nat) : Int) 1 = ((y / 2 ^ m % 2 : Nat) : Int) := h
  rw [e, h2, Nat.testBit_eq_decide_div_mod_eq]
  by_cases h3 : y / 2 ^ m % 2 = 1
  · rw [h3]; rfl
  · have h0 : y / 2 ^ m % 2 = 0 := by omega
    rw [h0]; rfl
set_option maxHeartbeats 6400000 in
theorem new_ok (v : Value) (L : List UInt8) (n : Nat) (w : World) (hv : Rd w v L) (hL : L.length ≤ 140737488351232) (hn : n ≤ 8388608) (hnL : n ≤ 8 * L.length) :
    Calls Tryd.prog 41 #[v, .int .i64 (n : Int)] w fun e w' => ∃ g u, e = .returned (.pointer (some ⟨g, 0, none⟩)) ∧ St w' g u (ubits L 0 n) 0 ∧ w.grownBy w' none ∧ w.heap.size ≤ g ∧ ∀ k, u.ownBlock = some k → w.heap.size ≤ k := by
  have HV : Hid (Rd w v L) := hv
  obtain ⟨a, c, hvv, -, -, -, -⟩ := hv
  subst hvv
  have c1 : ¬ (n : Int) < 0 := by omega
  have c2 : ¬ (8388608 : Int) < (n : Int) := by omega
  have c3 : ¬ 8 * (L.length : Int) < (n : Int) := by omega
  have hL2 : (L.length : Int) ≤ 140737488351232 := by omega
  have hn2 : (n : Int) ≤ 8388608 := by omega
  have HN : Hid (n ≤ 8388608 ∧ n ≤ 8 * L.length) := ⟨hn, hnL⟩
  clear hL hn hnL
  go_enter Tryd.func41, Tryd.ntmps41
  go_wp2
  go_loopw [6] (fun i wr => ∃ k : Nat, k ≤ n ∧ i = .int .i64 (k : Int) ∧ Hid (∃ u, St wr w.heap.size u (ubits L 0 k) 0 ∧ Fw (w.alloc (.cells #[.slice none 0 0, .int .i64 0] 79)) wr w.heap.size (.slice none 0 0) u)) (fun i _ => n - (intOf i).toNat)
  case atStart => exact ⟨0, by omega, rfl, .slice none 0 0, ⟨Go.heap_alloc_new w _, OwnB.nil _⟩, Fw.refl _ _ _⟩
  case round =>
    obtain ⟨k, hk, rfl, hr⟩ := hrel
    obtain ⟨u, hst, hfw⟩ := hr.out
    clear hr
    by_cases hkn : k < n
    · have hk8 : k / 8 < L.length := by have := HN.out.2; omega
      have hgW : w.grownBy wr none := by
        refine Fw.new (w := w) (w1 := w.alloc (.cells #[.slice none 0 0, .int .i64 0] 79)) (alloc_gb _ _) hfw (Nat.le_refl _) (fun k hk => by simp [Value.ownBlock] at hk)
      obtain ⟨a', c', hv', -, -, hra, -⟩ := HV.out.keep hgW
      simp only [Value.slice.injEq, true_and] at hv'
      obtain ⟨rfl, rfl⟩ := hv'
      obtain ⟨bb, oo, rfl, hcb⟩ := hra (k / 8) hk8
      have hylt := (L.getD (k / 8) 0).toNat_lt
      have hbt : (bits .and .u8 (((L.getD (k / 8) 0).toNat : Int) / 2 ^ (7 - k % 8)) 1 == 1) = ubit L (0 + k) := by
        rw [bit8 _ _ hylt, Nat.zero_add]
        rfl
      have hq : (k : Int).tdiv 8 = ((k / 8 : Nat) : Int) := by rw [Int.tdiv_eq_ediv_of_nonneg (by omega)]; omega
      have hm : (k : Int).tmod 8 = ((k % 8 : Nat) : Int) := by rw [Int.tmod_eq_emod_of_nonneg (by omega)]; omega
      have hms : k % 8 ≤ 7 := by omega
      have hq1 : ((k / 8 : Nat) : Int) < (L.length : Int) := by omega
      have hq0 : (0 : Int) ≤ ((k / 8 : Nat) : Int) := by omega
      have hq2 : k / 8 ≤ 1048576 := by have := HN.out.1; omega
      have hsucc := ubits_succ L 0 k
      have H : Hid (St wr w.heap.size u (ubits L 0 k) 0 ∧ Fw (w.alloc (.cells #[.slice none 0 0, .int .i64 0] 79)) wr w.heap.size (.slice none 0 0) u ∧ (ubits L 0 k).length + 1 ≤ 175921860444160 ∧ ubits L 0 (k + 1) = ubits L 0 k ++ [ubit L (0 + k)]) := ⟨hst, hfw, by rw [ubits_len]; have := HN.out.1; omega, hsucc⟩
      have c0 := hst.cells.1
      have f0 := hst.cells.2.2.1
      have hlt := hst.cells.2.2.2
      clear hst hfw hsucc hra hgW
      generalize (L.getD (k / 8) 0).toNat = Y at *
      generalize ubit L (0 + k) = tb at *
      generalize k / 8 = K8 at *
      generalize k % 8 = M8 at *
      generalize hgs : w.heap.size = gs at *
      have hm7 : M8 ≤ 1048576 := by omega
      have hwk := wrapS hq2
      have hwi := wrapI hq2
      have hsf := shf8 hms
      have hsf9 := shf9 hms
      have hmw := wrapS hm7
      have hmi := wrapI hm7
      go_wp2_with fail
      go_region_law (refine step_appB rfl (.tmp 31) (.tmp 44) rfl u (ubits L 0 k) tb wr.heap.size (by simp [Act.eval]) (by simp [Act.eval]) (litB wr tb _) ((H.out.1.2.keep (alloc_gb wr _)).keep (gb_drew _ none)) H.out.2.2.1 ?_; intro a1 n1 c1' w1 ho1 hf1; have hG := H.out.1.grow (Fr.pre (gb_drew _ none) hf1) ho1; have hwg := hG.1.trans H.out.1.1; have d0 : w1.cell? ⟨gs, 0, none⟩ = some u := (by simp [World.cell?, hwg]); have df : w1.frozen? ⟨gs, 0, none⟩ = false := (by simp [World.frozen?, hwg]); have H2 : Hid (∃ u, St (w1.setCell ⟨gs, 0, none⟩ (.slice a1 n1 c1')) gs u (ubits L 0 (k + 1)) 0 ∧ Fw (w.alloc (.cells #[.slice none 0 0, .int .i64 0] 79)) (w1.setCell ⟨gs, 0, none⟩ (.slice a1 n1 c1')) gs (.slice none 0 0) u) := ⟨_, (by rw [H.out.2.2.2]; exact hG.2.1), H.out.2.1.trans hG.2.2⟩; clear hG hwg ho1 hf1)
      all_goals clear hwk hwi hsf hsf9 hmw hmi
      all_goals go_wp2
      all_goals go_roundw
      all_goals first | exact ⟨k + 1, by omega, by go_num, H2⟩ | (simp [intOf]; omega)
    · obtain rfl : k = n := by omega
      have HE : Hid (∃ u, St wr w.heap.size u (ubits L 0 k) 0 ∧ w.grownBy wr none ∧ ∀ j, u.ownBlock = some j → w.heap.size ≤ j) := by
        refine ⟨u, hst, Fw.new (w := w) (alloc_gb _ _) hfw (Nat.le_refl _) (fun k hk => by simp [Value.ownBlock] at hk), fun j hj => ?_⟩
        rcases hfw.own j hj with h | h
        · simp [Value.ownBlock] at h
        · have := World.grownBy.size (alloc_gb w (.cells #[.slice none 0 0, .int .i64 0] 79))
          omega
      clear hst hfw
      go_wp2
      go_ret
      obtain ⟨u, h1, h2, h3⟩ := HE.out
      exact ⟨_, u, rfl, h1, h2, Nat.le_refl _, h3⟩
end Go.Proofs.YtkiefmhampfhoaaDoor
