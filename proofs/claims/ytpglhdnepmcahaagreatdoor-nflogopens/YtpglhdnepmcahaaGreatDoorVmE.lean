/-
  U8Text2, LbBd, in one text.
-/
import Derived.Test.YtpglhdnepmcahaaGreatDoorVmD
import Derived.Test.YtpglhdnepmcahaaGreatDoorU8Valid
/- U8Text2 -/
namespace Go.Proofs.YtpglhdnepmcahaaGreatDoor
open Go.RowKit Go.Lib

theorem valid_rd {w : World} {g o n c : Nat} {q : List UInt8} (h : Rd w (.slice (some ⟨g, o, none⟩) n c) q) (hT : U8Tab w) :
    Calls Tryz.prog 100 #[.slice (some ⟨g, o, none⟩) n c] w fun e w' => e = .returned (.bool (validD q)) ∧ w.grownBy w' none := by
  obtain ⟨a, c', hv, h1, h2, h3, -⟩ := h
  simp only [Value.slice.injEq] at hv
  obtain ⟨rfl, rfl, rfl⟩ := hv
  refine valid_walk w g o c q (fun j hj => ?_) h1 h2 hT
  obtain ⟨b, o', hb, hc⟩ := h3 j hj
  cases hb
  exact hc

set_option maxRecDepth 8000 in
set_option maxHeartbeats 3200000 in
theorem text_any (v : Value) (l : List UInt8) (p m : Int) (w : World) (hv : Rd w v l) (hT : U8Tab w) (hl : l.length ≤ 1000000000000000000) (hm : m ≤ 9223372036854775807) :
    Calls Tryz.prog 66 #[v, .int .i64 p, .int .i64 m] w fun e w' => e = .returned (tupT (tSpec l p m)) ∧ w.grownBy w' none := by
  have HU := u_any v l p w hv
  have HV : Hid (Rd w v l) := hv
  have HT : Hid (U8Tab w) := hT
  clear hT
  obtain ⟨a, c, rfl, hn, hcm, hb, hz⟩ := hv
  unfold maxLen at hcm
  have hb2 : Hid (RdA w a l) := hb
  clear hb
  have hlen : (l.length : Int) ≤ 1000000000000000000 := by omega
  by_cases hbad : p < 0 ∨ (l.length : Int) < p ∨ m < 0
  · have HS : Hid (tSpec l p m = ([], 0, 1)) := by show tSpec l p m = _; rw [tSpec, if_pos hbad]
    rw [HS.out]
    clear HU
    rcases hbad with h | h | h
    · go_enter Tryz.func66, Tryz.ntmps66
      go_wp2
      go_ret3
      exact ⟨rfl, gb_refl _ _⟩
    · have h' : ¬ p < 0 := by omega
      go_enter Tryz.func66, Tryz.ntmps66
      go_wp2
      go_ret3
      exact ⟨rfl, gb_refl _ _⟩
    · by_cases h1 : p < 0
      · go_enter Tryz.func66, Tryz.ntmps66
        go_wp2
        go_ret3
        exact ⟨rfl, gb_refl _ _⟩
      · by_cases h2 : (l.length : Int) < p
        · go_enter Tryz.func66, Tryz.ntmps66
          go_wp2
          go_ret3
          exact ⟨rfl, gb_refl _ _⟩
        · go_enter Tryz.func66, Tryz.ntmps66
          go_wp2
          go_ret3
          exact ⟨rfl, gb_refl _ _⟩
  · have h1 : ¬ p < 0 := by omega
    have h2 : ¬ (l.length : Int) < p := by omega
    have h3 : ¬ m < 0 := by omega
    by_cases he : (uSpec l p).2.2 = 0
    · obtain ⟨n, k, hu, hn64, hk0, hk1, hk2⟩ := uSpec_ok he
      rw [hu] at HU
      unfold tup3 at HU
      simp only [] at HU
      rw [I64_of hn64] at HU
      have HC : Hid (Calls Tryz.prog 99 #[.slice a l.length c, .int .i64 p] w fun x w' => x = .returned (.tuple #[.int .u64 (n : Int), .int .i64 (k : Int), .int .i64 0]) ∧ w' = w) := HU
      have HS : Hid (tSpec l p m = if m < (n : Int) then ([], 0, 4) else if (l.length : Int) - (k : Int) < (n : Int) then ([], 0, 9) else if validD ((l.drop k).take n) = false then ([], 0, 12) else ((l.drop k).take n, (k : Int) + (n : Int), 0)) := by
        show tSpec l p m = _
        rw [tSpec, if_neg hbad, if_neg (by rw [he]; simp), hu]
        simp
      clear HU hu he
      have hm64 : IntKind.u64.wrap m = m := by
        unfold IntKind.wrap
        simp [IntKind.signed, IntKind.bits]
        omega
      by_cases g1 : m < (n : Int)
      · rw [HS.out, if_pos g1]
        clear HS
        go_enter Tryz.func66, Tryz.ntmps66
        go_wp2_with fail
        refine HC.out.mono ?_
        rintro x w1 ⟨rfl, rfl⟩
        go_wp2
        go_ret3
        exact ⟨rfl, gb_refl _ _⟩
      · by_cases g2 : (l.length : Int) - (k : Int) < (n : Int)
        · rw [HS.out, if_neg g1, if_pos g2]
          clear HS
          have hw1 : IntKind.u64.wrap ((l.length : Int) - (k : Int)) = (l.length : Int) - (k : Int) := by
            unfold IntKind.wrap
            simp [IntKind.signed, IntKind.bits]
            omega
          go_enter Tryz.func66, Tryz.ntmps66
          go_wp2_with fail
          refine HC.out.mono ?_
          rintro x w1 ⟨rfl, rfl⟩
          go_wp2
          go_ret3
          exact ⟨rfl, gb_refl _ _⟩
        · rw [HS.out, if_neg g1, if_neg g2]
          clear HS
          have hw1 : IntKind.u64.wrap ((l.length : Int) - (k : Int)) = (l.length : Int) - (k : Int) := by
            unfold IntKind.wrap
            simp [IntKind.signed, IntKind.bits]
            omega
          obtain ⟨g, o, rfl, -⟩ := hb2.out 0 (by omega)
          obtain ⟨q, hq⟩ : ∃ q, (l.drop k).take n = q := ⟨_, rfl⟩
          have hql : q.length = n := by rw [← hq]; exact cut_len l k n (by omega)
          rw [hq]
          have HUt : Hid (∀ v, (∃ g o c, v = .slice (some ⟨g, o, none⟩) n c) → Rd w v q → Calls Tryz.prog 100 #[v] w fun e w' => e = .returned (.bool (validD q)) ∧ w.grownBy w' none) := fun v hv hr => by
            obtain ⟨g, o, c, rfl⟩ := hv
            exact valid_rd hr HT.out
          have HQ : Hid (∀ h : k < c, Rd w (.slice (some ⟨g, o + k, none⟩) n (c - k)) q) := fun h => by rw [← hq]; exact HV.out.cut k n (by omega)
          have HQ0 : Hid (∀ h : c ≤ k, Rd w (.slice (some ⟨g, o, none⟩) n 0) q) := fun h => by rw [← hq]; exact HV.out.cut0 k n h (by omega)
          obtain ⟨V, hV⟩ : ∃ V, validD q = V := ⟨_, rfl⟩
          rw [hV] at HUt ⊢
          clear hq hV
          have hnl : (n : Int) ≤ (l.length : Int) := by omega
          cases V with
          | false =>
            by_cases hkc : k < c
            · simp only [if_true]
              have HR : Hid (Rd w _ q) := HQ.out hkc
              go_enter Tryz.func66, Tryz.ntmps66
              go_wp2_with fail
              refine HC.out.mono ?_
              rintro x w1 ⟨rfl, rfl⟩
              go_wp2_with fail
              refine (HUt.out _ ⟨_, _, _, rfl⟩ HR.out).mono ?_
              rintro x w2 ⟨rfl, hg2⟩
              have H2 := hid_mkU hg2
              clear hg2
              go_wp2
              go_ret3
              exact ⟨rfl, H2.out⟩
            · simp only [if_true]
              have HR : Hid (Rd w _ q) := HQ0.out (by omega)
              go_enter Tryz.func66, Tryz.ntmps66
              go_wp2_with fail
              refine HC.out.mono ?_
              rintro x w1 ⟨rfl, rfl⟩
              go_wp2_with fail
              refine (HUt.out _ ⟨_, _, _, rfl⟩ HR.out).mono ?_
              rintro x w2 ⟨rfl, hg2⟩
              have H2 := hid_mkU hg2
              clear hg2
              go_wp2
              go_ret3
              exact ⟨rfl, H2.out⟩
          | true =>
            by_cases hkc : k < c
            · simp only [Bool.true_eq_false, if_false]
              have HR : Hid (Rd w _ q) := HQ.out hkc
              go_enter Tryz.func66, Tryz.ntmps66
              go_wp2_with fail
              refine HC.out.mono ?_
              rintro x w1 ⟨rfl, rfl⟩
              go_wp2_with fail
              refine (HUt.out _ ⟨_, _, _, rfl⟩ HR.out).mono ?_
              rintro x w2 ⟨rfl, hg2⟩
              have H2 := hid_mkU hg2
              have hcv := run_strU (HR.out.keep hg2)
              clear hg2
              go_wp2
              go_ret3
              exact ⟨rfl, H2.out⟩
            · simp only [Bool.true_eq_false, if_false]
              have HR : Hid (Rd w _ q) := HQ0.out (by omega)
              go_enter Tryz.func66, Tryz.ntmps66
              go_wp2_with fail
              refine HC.out.mono ?_
              rintro x w1 ⟨rfl, rfl⟩
              go_wp2_with fail
              refine (HUt.out _ ⟨_, _, _, rfl⟩ HR.out).mono ?_
              rintro x w2 ⟨rfl, hg2⟩
              have H2 := hid_mkU hg2
              have hcv := run_strU (HR.out.keep hg2)
              clear hg2
              go_wp2
              go_ret3
              exact ⟨rfl, H2.out⟩
    · have HS : Hid (tSpec l p m = ([], 0, (uSpec l p).2.2)) := by show tSpec l p m = _; rw [tSpec, if_neg hbad, if_pos he]
      rw [HS.out]
      have hne : ((uSpec l p).2.2 != 0) = true := by rw [bne_iff_ne]; exact he
      unfold tup3 at HU
      clear HS
      generalize (uSpec l p).2.2 = e at *
      generalize (uSpec l p).2.1 = r at *
      generalize (uSpec l p).1 = q at *
      have HC : Hid (Calls Tryz.prog 99 #[.slice a l.length c, .int .i64 p] w fun x w' => x = .returned (.tuple #[.int .u64 (I64 (BitVec.ofNat 64 q)), .int .i64 r, .int .i64 e]) ∧ w' = w) := HU
      clear HU he
      go_enter Tryz.func66, Tryz.ntmps66
      go_wp2_with fail
      refine HC.out.mono ?_
      rintro x w1 ⟨rfl, rfl⟩
      go_wp2
      go_ret3
      exact ⟨rfl, gb_refl _ _⟩
end Go.Proofs.YtpglhdnepmcahaaGreatDoor

/- LbBd -/
namespace Go.Proofs.YtpglhdnepmcahaaGreatDoor
open Go.RowKit

theorem tab_of {W : World} (t : U8S W) : U8Tab W := by
  refine ⟨fun c hc => t.1 c hc, fun i hi => ?_⟩
  have := t.2 i hi
  rw [Nat.mul_comm] at this
  exact this
set_option maxRecDepth 8000 in
set_option maxHeartbeats 3200000 in
theorem readOne_any (w : World) (vb : Value) (l : List UInt8) (p : Int) (hb : Rd w vb l) (hl : l.length ≤ 1000000000000000000) (hT : U8S w) :
    Calls Tryz.prog 119 #[vb, .int .i64 p] w fun e w' => e = .returned (.tuple #[.agg #[.string (ByteArray.mk ⟨(oneS l p).1⟩), .string (ByteArray.mk ⟨(oneS l p).2.1⟩)], .int .i64 (oneS l p).2.2.1, .int .i64 (oneS l p).2.2.2]) ∧ w.grownBy w' none := by
  have HA : Hid (∀ W, Bx w w.heap.size ⟨#[]⟩ ⟨#[]⟩ W → Calls Tryz.prog 66 #[vb, .int .i64 p, .int .i64 64] W fun e w' => e = .returned (.tuple #[.string (ByteArray.mk ⟨(tSpec l p 64).1⟩), .int .i64 (tSpec l p 64).2.1, .int .i64 (tSpec l p 64).2.2]) ∧ Hid (Bx w w.heap.size ⟨#[]⟩ ⟨#[]⟩ w')) := fun W hW => (text_any vb l p 64 W (hb.keep hW.2) (tab_of (hT.keep hW.2)) hl (by omega)).mono fun e w' ⟨h1, h2⟩ => ⟨h1, hW.keep h2⟩
  have HB : Hid (∀ W, Bx w w.heap.size ⟨#[]⟩ ⟨#[]⟩ W → Calls Tryz.prog 66 #[vb, .int .i64 (tSpec l p 64).2.1, .int .i64 256] W fun e w' => e = .returned (.tuple #[.string (ByteArray.mk ⟨(tSpec l (tSpec l p 64).2.1 256).1⟩), .int .i64 (tSpec l (tSpec l p 64).2.1 256).2.1, .int .i64 (tSpec l (tSpec l p 64).2.1 256).2.2]) ∧ Hid (Bx w w.heap.size ⟨#[]⟩ ⟨#[]⟩ w')) := fun W hW => (text_any vb l _ 256 W (hb.keep hW.2) (tab_of (hT.keep hW.2)) hl (by omega)).mono fun e w' ⟨h1, h2⟩ => ⟨h1, hW.keep h2⟩
  have HO : Hid (oneS l p = if (tSpec l p 64).2.2 ≠ 0 then ([], [], 0, (tSpec l p 64).2.2) else if (tSpec l (tSpec l p 64).2.1 256).2.2 ≠ 0 then ([], [], 0, (tSpec l (tSpec l p 64).2.1 256).2.2) else ((tSpec l p 64).1, (tSpec l (tSpec l p 64).2.1 256).1, (tSpec l (tSpec l p 64).2.1 256).2.1, 0)) := rfl
  have HB0 : Hid (Bx w w.heap.size ⟨#[]⟩ ⟨#[]⟩ (w.alloc (.cells #[.string ⟨#[]⟩, .string ⟨#[]⟩] 51))) := ⟨Go.heap_alloc_new w _, World.grownBy_alloc _ _ none⟩
  clear hb hT
  generalize oneS l p = R at *
  generalize tSpec l (tSpec l p 64).2.1 256 = t2 at *
  generalize tSpec l p 64 = t1 at *
  obtain ⟨n1, p1, e1⟩ := t1
  obtain ⟨n2, p2, e2⟩ := t2
  dsimp only at *
  by_cases h1 : e1 = 0
  · subst h1
    rw [if_neg (by simp)] at HO
    by_cases h2 : e2 = 0
    · subst h2
      rw [if_neg (by simp)] at HO
      have hR := HO.out
      subst hR
      dsimp only
      go_enter Tryz.func119, Tryz.ntmps119
      go_wp2_with fail
      refine (HA.out _ HB0.out).mono ?_
      rintro e w1 ⟨rfl, H1⟩
      clear HA HB0
      go_wp2_with fail
      refine (HB.out _ H1.out).mono ?_
      rintro e w2 ⟨rfl, H2⟩
      clear HB H1
      have q0 := H2.out.cells.1
      have q1 := H2.out.cells.2
      have f0 := H2.out.frozen 0
      have f1 := H2.out.frozen 1
      have HE : Hid (Bx w w.heap.size (ByteArray.mk ⟨n1⟩) (ByteArray.mk ⟨n2⟩) ((w2.setCell ⟨w.heap.size, 0, none⟩ (.string (ByteArray.mk ⟨n1⟩))).setCell ⟨w.heap.size, 1, none⟩ (.string (ByteArray.mk ⟨n2⟩)))) := (H2.out.put0 (Nat.le_refl _) _).put1 (Nat.le_refl _) _
      go_wp2
      have d0 := HE.out.cells.1
      have d1 := HE.out.cells.2
      refine bodyPost_ret (v := .tuple #[.agg #[.string (ByteArray.mk ⟨n1⟩), .string (ByteArray.mk ⟨n2⟩)], .int .i64 p2, .int .i64 0]) ?_ rfl ?_
      · simp [results, Tryz.f119, go_sem, d0, d1]
      · exact ⟨rfl, HE.out.2⟩
    · rw [if_pos h2] at HO
      have hR := HO.out
      subst hR
      dsimp only
      have h2b : (e2 == 0) = false := by rw [beq_eq_false_iff_ne]; exact h2
      go_enter Tryz.func119, Tryz.ntmps119
      go_wp2_with fail
      refine (HA.out _ HB0.out).mono ?_
      rintro e w1 ⟨rfl, H1⟩
      clear HA HB0
      go_wp2_with fail
      refine (HB.out _ H1.out).mono ?_
      rintro e w2 ⟨rfl, H2⟩
      clear HB H1
      have q0 := H2.out.cells.1
      have q1 := H2.out.cells.2
      have f0 := H2.out.frozen 0
      have f1 := H2.out.frozen 1
      have HE : Hid (Bx w w.heap.size (ByteArray.mk ⟨[]⟩) (ByteArray.mk ⟨[]⟩) ((w2.setCell ⟨w.heap.size, 0, none⟩ (.string (ByteArray.mk ⟨[]⟩))).setCell ⟨w.heap.size, 1, none⟩ (.string (ByteArray.mk ⟨[]⟩)))) := (H2.out.put0 (Nat.le_refl _) _).put1 (Nat.le_refl _) _
      go_wp2
      have d0 := HE.out.cells.1
      have d1 := HE.out.cells.2
      refine bodyPost_ret (v := .tuple #[.agg #[.string (ByteArray.mk ⟨[]⟩), .string (ByteArray.mk ⟨[]⟩)], .int .i64 0, .int .i64 e2]) ?_ rfl ?_
      · simp [results, Tryz.f119, go_sem, d0, d1]
      · exact ⟨rfl, HE.out.2⟩
  · rw [if_pos h1] at HO
    have hR := HO.out
    subst hR
    dsimp only
    have h1b : (e1 == 0) = false := by rw [beq_eq_false_iff_ne]; exact h1
    go_enter Tryz.func119, Tryz.ntmps119
    go_wp2_with fail
    refine (HA.out _ HB0.out).mono ?_
    rintro e w1 ⟨rfl, H1⟩
    clear HA HB0
    have q0 := H1.out.cells.1
    have q1 := H1.out.cells.2
    have f0 := H1.out.frozen 0
    have f1 := H1.out.frozen 1
    have HE : Hid (Bx w w.heap.size (ByteArray.mk ⟨[]⟩) (ByteArray.mk ⟨[]⟩) ((w1.setCell ⟨w.heap.size, 0, none⟩ (.string (ByteArray.mk ⟨[]⟩))).setCell ⟨w.heap.size, 1, none⟩ (.string (ByteArray.mk ⟨[]⟩)))) := (H1.out.put0 (Nat.le_refl _) _).put1 (Nat.le_refl _) _
    go_wp2
    have d0 := HE.out.cells.1
    have d1 := HE.out.cells.2
    refine bodyPost_ret (v := .tuple #[.agg #[.string (ByteArray.mk ⟨[]⟩), .string (ByteArray.mk ⟨[]⟩)], .int .i64 0, .int .i64 e1]) ?_ rfl ?_
    · simp [results, Tryz.f119, go_sem, d0, d1]
    · exact ⟨rfl, HE.out.2⟩
set_option maxRecDepth 8000 in
set_option maxHeartbeats 6400000 in
theorem read_any (w : World) (vb : Value) (l : List UInt8) (p : Int) (hb : Rd w vb l) (hl : l.length ≤ 1000000000000000000) (hT0 : U8S w) :
    Calls Tryz.prog 102 #[vb, .int .i64 p] w fun e w' => ∃ v', e = .returned (.tuple #[v', .int .i64 (readS l p).2.1, .int .i64 (readS l p).2.2]) ∧ OwnL w' w.heap.size v' (readS l p).1 ∧ w.grownBy w' none := by
  have HU : Hid (Calls Tryz.prog 99 #[vb, .int .i64 p] w fun e w' => e = .returned (tup3 (uSpec l p)) ∧ w' = w) := u_any vb l p w hb
  have HT : Hid (∀ W q, w.grownBy W none → Calls Tryz.prog 119 #[vb, .int .i64 q] W fun e w' => e = .returned (.tuple #[.agg #[.string (ByteArray.mk ⟨(oneS l q).1⟩), .string (ByteArray.mk ⟨(oneS l q).2.1⟩)], .int .i64 (oneS l q).2.2.1, .int .i64 (oneS l q).2.2.2]) ∧ W.grownBy w' none) := fun W q hW => readOne_any W vb l q (hb.keep hW) hl (hT0.keep hW)
  have HR : Hid (∀ W u acc, RdL W u acc → LbIn acc → w.grownBy W none → Calls Tryz.prog 113 #[u] W fun e w' => e = .returned (.tuple #[.int .i64 (rightS acc).1, .int .i64 ((rightS acc).2 : Int)]) ∧ W.grownBy w' none) := fun W u acc h1 h2 h3 => right_any W u acc h1 h2 (hT0.keep h3)
  clear hT0
  have HN := @uSpec_nat l p
  have HS : Hid (readS l p = if (uSpec l p).2.2 ≠ 0 then ([], 0, (uSpec l p).2.2) else if 16 < (uSpec l p).1 then ([], 0, 8) else if (readN l (uSpec l p).1 (uSpec l p).2.1 []).2.2 ≠ 0 then ([], 0, (readN l (uSpec l p).1 (uSpec l p).2.1 []).2.2) else if (rightS (readN l (uSpec l p).1 (uSpec l p).2.1 []).1).1 ≠ 0 then ([], 0, (rightS (readN l (uSpec l p).1 (uSpec l p).2.1 []).1).1) else ((readN l (uSpec l p).1 (uSpec l p).2.1 []).1, (readN l (uSpec l p).1 (uSpec l p).2.1 []).2.1, 0)) := rfl
  obtain ⟨ba, bc, rfl, -, -, -, -⟩ := hb
  unfold tup3 at HU
  generalize readS l p = R at *
  generalize uSpec l p = us at *
  obtain ⟨n, P, E⟩ := us
  dsimp only at *
  obtain ⟨i0, hi, hz0, hz1, hz2⟩ := info_parts infoLb
  have HI : Hid (Tryz.prog.info? 51 = some i0 ∧ i0.zero = some (.agg #[.string ⟨#[]⟩, .string ⟨#[]⟩]) ∧ i0.size = 2 ∧ i0.bytes = 32) := ⟨hi, hz0, hz1, hz2⟩
  clear hi hz0 hz1 hz2
  by_cases hE : E = 0
  · subst hE
    rw [if_neg (by simp)] at HS
    rw [I64_of (HN rfl)] at HU
    clear HN
    by_cases hn : 16 < n
    · rw [if_pos hn] at HS
      have hR := HS.out
      subst hR
      dsimp only
      have hni : (16 : Int) < (n : Int) := by omega
      go_enter Tryz.func102, Tryz.ntmps102
      go_wp2_with fail
      refine HU.out.mono ?_
      rintro e w1 ⟨rfl, rfl⟩
      clear HU
      go_wp2
      go_ret3
      exact ⟨_, rfl, OwnL.nil _ _, gb_refl _ _⟩
    · rw [if_neg hn] at HS
      have hni : ¬ (16 : Int) < (n : Int) := by omega
      obtain ⟨RN, hRN⟩ : ∃ RN, RN = readN l n P [] := ⟨_, rfl⟩
      have HRN : Hid (RN = readN l (n - 0) P []) := hRN
      rw [← hRN] at HS
      clear hRN
      go_enter Tryz.func102, Tryz.ntmps102
      go_wp2_with fail
      refine HU.out.mono ?_
      rintro e w1 ⟨rfl, rfl⟩
      clear HU
      go_wp2
      go_loopw [1, 9, 28] (fun ua ul i wr => ∃ z : Nat, z ≤ n ∧ i = .int .u64 z ∧ ∃ q, ua = .int .i64 q ∧ Hid (∃ acc, OwnL wr w1.heap.size ul acc ∧ w1.grownBy wr none ∧ RN = readN l (n - z) q acc ∧ acc.length = z ∧ LbIn acc)) (fun _ _ i _ => n - (intOf i).toNat)
      case atStart => exact ⟨0, by omega, rfl, P, rfl, [], OwnL.nil _ _, gb_refl _ _, HRN.out, rfl, by simp, fun j => by simp⟩
      case round =>
        obtain ⟨z, hzN, rfl, q, rfl, hr⟩ := hrel
        obtain ⟨acc, hA1, hA2, hA3, hA4, hA5⟩ := hr.out
        clear hr
        by_cases hzl : z < n
        · have hzi : (z : Int) < (n : Int) := by omega
          have HST : Hid (RN = if (oneS l q).2.2.2 ≠ 0 then ([], 0, (oneS l q).2.2.2) else readN l (n - (z + 1)) (oneS l q).2.2.1 (acc ++ [((oneS l q).1, (oneS l q).2.1)])) := by rw [← readN_step l q acc hzl]; exact hA3
          have HSH : Hid ((oneS l q).1.length ≤ l.length ∧ (oneS l q).2.1.length ≤ l.length) := oneS_short l q
          have HA : Hid (∀ W, Bx wr wr.heap.size ⟨#[]⟩ ⟨#[]⟩ W → Calls Tryz.prog 119 #[.slice ba l.length bc, .int .i64 q] W fun e w' => e = .returned (.tuple #[.agg #[.string (ByteArray.mk ⟨(oneS l q).1⟩), .string (ByteArray.mk ⟨(oneS l q).2.1⟩)], .int .i64 (oneS l q).2.2.1, .int .i64 (oneS l q).2.2.2]) ∧ Hid (Bx wr wr.heap.size ⟨#[]⟩ ⟨#[]⟩ w')) := fun W hW => (HT.out W q (gb_none hA2 hW.2)).mono fun e w' ⟨h1, h2⟩ => ⟨h1, hW.keep h2⟩
          have HB0 : Hid (Bx wr wr.heap.size ⟨#[]⟩ ⟨#[]⟩ (wr.alloc (.cells #[.string ⟨#[]⟩, .string ⟨#[]⟩] 51))) := ⟨Go.heap_alloc_new wr _, World.grownBy_alloc _ _ none⟩
          have HAC : Hid (OwnL wr w1.heap.size u9 acc ∧ w1.grownBy wr none ∧ acc.length = z ∧ LbIn acc) := ⟨hA1, hA2, hA4, hA5⟩
          clear hA1 hA2 hA3 hA4 hA5
          generalize oneS l q = O at *
          obtain ⟨n1, n2, p2, e2⟩ := O
          dsimp only at *
          by_cases h2 : e2 = 0
          · subst h2
            rw [if_neg (by simp)] at HST
            go_wp2_with fail
            refine (HA.out _ HB0.out).mono ?_
            rintro e w2 ⟨rfl, H2⟩
            have q0 := H2.out.cells.1
            have q1 := H2.out.cells.2
            have f0 := H2.out.frozen 0
            have f1 := H2.out.frozen 1
            have H3b : Hid (Bx wr wr.heap.size (ByteArray.mk ⟨n1⟩) (ByteArray.mk ⟨n2⟩) ((w2.setCell ⟨wr.heap.size, 0, none⟩ (.string (ByteArray.mk ⟨n1⟩))).setCell ⟨wr.heap.size, 1, none⟩ (.string (ByteArray.mk ⟨n2⟩)))) := (H2.out.put0 (Nat.le_refl _) _).put1 (Nat.le_refl _) _
            clear HA HB0
            have d0 := H3b.out.cells.1
            have d1 := H3b.out.cells.2
            have HG4 : Hid (OwnL ((w2.setCell ⟨wr.heap.size, 0, none⟩ (.string (ByteArray.mk ⟨n1⟩))).setCell ⟨wr.heap.size, 1, none⟩ (.string (ByteArray.mk ⟨n2⟩))) w1.heap.size u9 acc ∧ w1.grownBy ((w2.setCell ⟨wr.heap.size, 0, none⟩ (.string (ByteArray.mk ⟨n1⟩))).setCell ⟨wr.heap.size, 1, none⟩ (.string (ByteArray.mk ⟨n2⟩))) none) := ⟨HAC.out.1.keep H3b.out.2, gb_none HAC.out.2.1 H3b.out.2⟩
            have HX : Hid (RdC (((w2.setCell ⟨wr.heap.size, 0, none⟩ (.string (ByteArray.mk ⟨n1⟩))).setCell ⟨wr.heap.size, 1, none⟩ (.string (ByteArray.mk ⟨n2⟩))).alloc (.cells #[.string (ByteArray.mk ⟨n1⟩), .string (ByteArray.mk ⟨n2⟩)] 51)) (some ⟨w2.heap.size, 0, none⟩) [.string (ByteArray.mk ⟨n1⟩), .string (ByteArray.mk ⟨n2⟩)]) := by
              have h := box_rdc ((w2.setCell ⟨wr.heap.size, 0, none⟩ (.string (ByteArray.mk ⟨n1⟩))).setCell ⟨wr.heap.size, 1, none⟩ (.string (ByteArray.mk ⟨n2⟩))) (ByteArray.mk ⟨n1⟩) (ByteArray.mk ⟨n2⟩)
              rw [show ((w2.setCell ⟨wr.heap.size, 0, none⟩ (.string (ByteArray.mk ⟨n1⟩))).setCell ⟨wr.heap.size, 1, none⟩ (.string (ByteArray.mk ⟨n2⟩))).heap.size = w2.heap.size by simp] at h
              exact h
            go_wp2_with (at_builtin; refine wp_appH rfl _ _ 52 51 rfl i0 _ 2 32 w1.heap.size Tryz.underlying52 HI.out.1 HI.out.2.1 HI.out.2.2.1 HI.out.2.2.2 rfl (by decide) _ acc.length (lbf acc) (some ⟨w2.heap.size, 0, none⟩) 1 1 [.string (ByteArray.mk ⟨n1⟩), .string (ByteArray.mk ⟨n2⟩)] rfl rfl (World.ownsRow.alloc HG4.out.1 _) rfl HX.out (fun h => by cases h) (two_one _ _) (by have := HAC.out.2.2.1; omega) (by have := HAC.out.2.2.1; omega) (by have := HG4.out.2.size; simp only [World.size_alloc]; omega) ?_)
            intro v5 w5 ho5 hf5
            have H5 : Hid (OwnL w5 w1.heap.size v5 (acc ++ [(n1, n2)]) ∧ w1.grownBy w5 none) := by
              refine ⟨OwnL.snoc ho5, gb_new HG4.out.2 (gb_trans (gb_any (World.grownBy_alloc _ (.cells #[.string (ByteArray.mk ⟨n1⟩), .string (ByteArray.mk ⟨n2⟩)] 51) none) _) hf5.1 (fun k hk _ => hk.symm)) (fun k hk => (HG4.out.1.lt k hk).1)⟩
            clear ho5 hf5 HG4 HX d0 d1 q0 q1 f0 f1
            go_wp2
            go_roundw
            case rel =>
              refine ⟨z + 1, by omega, by simp, p2, rfl, acc ++ [(n1, n2)], H5.out.1, H5.out.2, HST.out, by simp [HAC.out.2.2.1], ?_⟩
              exact HAC.out.2.2.2.snoc (by have := HAC.out.2.2.1; omega) (by have := HSH.out.1; omega) (by have := HSH.out.2; omega)
            case measure => simp [intOf]; omega
          · rw [if_pos (by exact h2)] at HST
            have hRN := HST.out
            subst hRN
            rw [if_pos (by exact h2)] at HS
            have hR := HS.out
            subst hR
            have h2b : (e2 == 0) = false := by rw [beq_eq_false_iff_ne]; exact h2
            go_wp2_with fail
            refine (HA.out _ HB0.out).mono ?_
            rintro e w2 ⟨rfl, H2⟩
            have q0 := H2.out.cells.1
            have q1 := H2.out.cells.2
            have f0 := H2.out.frozen 0
            have f1 := H2.out.frozen 1
            have H3b : Hid (Bx wr wr.heap.size (ByteArray.mk ⟨n1⟩) (ByteArray.mk ⟨n2⟩) ((w2.setCell ⟨wr.heap.size, 0, none⟩ (.string (ByteArray.mk ⟨n1⟩))).setCell ⟨wr.heap.size, 1, none⟩ (.string (ByteArray.mk ⟨n2⟩)))) := (H2.out.put0 (Nat.le_refl _) _).put1 (Nat.le_refl _) _
            clear HA HB0
            go_wp2
            go_ret3
            exact ⟨_, rfl, OwnL.nil _ _, gb_none HAC.out.2.1 H3b.out.2⟩
        · have hzi : ¬ (z : Int) < (n : Int) := by omega
          have hRN : RN = (acc, q, 0) := by rw [hA3, show n - z = 0 by omega]; rfl
          subst hRN
          dsimp only at HS
          rw [if_neg (by simp)] at HS
          have HRR : Hid (Calls Tryz.prog 113 #[u9] wr fun e w' => e = .returned (.tuple #[.int .i64 (rightS acc).1, .int .i64 ((rightS acc).2 : Int)]) ∧ wr.grownBy w' none) := HR.out wr u9 acc hA1.rd hA5 hA2
          have HAC : Hid (OwnL wr w1.heap.size u9 acc ∧ w1.grownBy wr none) := ⟨hA1, hA2⟩
          clear hA1 hA2 hA3 hA4 hA5 HR HT
          generalize rightS acc = rs at *
          obtain ⟨re, ri⟩ := rs
          dsimp only at *
          by_cases hre : re = 0
          · subst hre
            rw [if_neg (by simp)] at HS
            have hR := HS.out
            subst hR
            go_wp2_with fail
            refine HRR.out.mono ?_
            rintro e w2 ⟨rfl, hg2⟩
            have H2 : Hid (OwnL w2 w1.heap.size u9 acc ∧ w1.grownBy w2 none) := ⟨HAC.out.1.keep hg2, gb_none HAC.out.2 hg2⟩
            clear HRR hg2
            go_wp2
            go_ret3
            exact ⟨_, rfl, H2.out⟩
          · rw [if_pos hre] at HS
            have hR := HS.out
            subst hR
            have hrb : (re == 0) = false := by rw [beq_eq_false_iff_ne]; exact hre
            go_wp2_with fail
            refine HRR.out.mono ?_
            rintro e w2 ⟨rfl, hg2⟩
            have H2 : Hid (w1.grownBy w2 none) := gb_none HAC.out.2 hg2
            clear HRR hg2
            go_wp2
            go_ret3
            exact ⟨_, rfl, OwnL.nil _ _, H2.out⟩
  · rw [if_pos hE] at HS
    have hR := HS.out
    subst hR
    dsimp only
    have hEb : (E == 0) = false := by rw [beq_eq_false_iff_ne]; exact hE
    generalize I64 (BitVec.ofNat 64 n) = nn at *
    go_enter Tryz.func102, Tryz.ntmps102
    go_wp2_with fail
    refine HU.out.mono ?_
    rintro e w1 ⟨rfl, rfl⟩
    clear HU
    go_wp2
    go_ret3
    exact ⟨_, rfl, OwnL.nil _ _, gb_refl _ _⟩
end Go.Proofs.YtpglhdnepmcahaaGreatDoor
