/-
  Label sets read from bytes, by the document: the walk.
-/
import Derived.Test.YtpglhdnepmcahaaGreatDoorVmD
namespace Go.Proofs.YtpglhdnepmcahaaGreatDoor
open Go.RowKit

set_option maxRecDepth 8000 in
set_option maxHeartbeats 6400000 in
theorem refRead_any (w : World) (vb : Value) (l : List UInt8) (p : Int) (hb : Rd w vb l) (hl : l.length ≤ 1000000000000000000) :
    Calls Tryz.prog 46 #[vb, .int .i64 p] w fun e w' => ∃ v', e = .returned (.tuple #[v', .int .i64 (readS l p).2.1, .int .i64 (readS l p).2.2]) ∧ OwnL w' w.heap.size v' (readS l p).1 ∧ w.grownBy w' none := by
  have HU : Hid (Calls Tryz.prog 45 #[vb, .int .i64 p] w fun e w' => e = .returned (tup3 (uSpec l p)) ∧ w' = w) := refu_any vb l p w hb
  have HT : Hid (∀ W q m, w.grownBy W none → m ≤ 9223372036854775807 → Calls Tryz.prog 43 #[vb, .int .i64 q, .int .i64 m] W fun e w' => e = .returned (tupT (tSpec l q m)) ∧ W.grownBy w' none) := fun W q m hW hm => refText_any vb l q m W (hb.keep hW) hl hm
  have HR : Hid (∀ W u acc, RdL W u acc → LbIn acc → Calls Tryz.prog 77 #[u] W fun e w' => e = .returned (.tuple #[.int .i64 (rightS acc).1, .int .i64 ((rightS acc).2 : Int)]) ∧ W.grownBy w' none) := fun W u acc h1 h2 => refRight_any W u acc h1 h2
  have HN := @uSpec_nat l p
  have HS : Hid (readS l p = if (uSpec l p).2.2 ≠ 0 then ([], 0, (uSpec l p).2.2) else if 16 < (uSpec l p).1 then ([], 0, 8) else if (readN l (uSpec l p).1 (uSpec l p).2.1 []).2.2 ≠ 0 then ([], 0, (readN l (uSpec l p).1 (uSpec l p).2.1 []).2.2) else if (rightS (readN l (uSpec l p).1 (uSpec l p).2.1 []).1).1 ≠ 0 then ([], 0, (rightS (readN l (uSpec l p).1 (uSpec l p).2.1 []).1).1) else ((readN l (uSpec l p).1 (uSpec l p).2.1 []).1, (readN l (uSpec l p).1 (uSpec l p).2.1 []).2.1, 0)) := rfl
  obtain ⟨ba, bc, rfl, -, -, -, -⟩ := hb
  unfold tup3 at HU
  unfold tupT at HT
  generalize readS l p = R at *
  generalize uSpec l p = us at *
  obtain ⟨n, P, E⟩ := us
  dsimp only at *
  obtain ⟨i0, hi, hz0, hz1, hz2⟩ := info_parts infoLb
  have HI : Hid (Tryz.prog.info? 51 = some i0 ∧ i0.zero = some (.agg #[.string ⟨#[]⟩, .string ⟨#[]⟩]) ∧ i0.size = 2 ∧ i0.bytes = 32) := ⟨hi, hz0, hz1, hz2⟩
  clear hi hz0 hz1 hz2
  by_cases hE : E = 0
  · subst hE
    rw [if_neg (by simp)] at HS
    rw [I64_of (HN rfl)] at HU
    clear HN
    by_cases hn : 16 < n
    · rw [if_pos hn] at HS
      have hR := HS.out
      subst hR
      dsimp only
      have hni : (16 : Int) < (n : Int) := by omega
      go_enter Tryz.func46, Tryz.ntmps46
      go_wp2_with fail
      refine HU.out.mono ?_
      rintro e w1 ⟨rfl, rfl⟩
      clear HU
      go_wp2
      go_ret3
      exact ⟨_, rfl, OwnL.nil _ _, gb_refl _ _⟩
    · rw [if_neg hn] at HS
      have hni : ¬ (16 : Int) < (n : Int) := by omega
      obtain ⟨RN, hRN⟩ : ∃ RN, RN = readN l n P [] := ⟨_, rfl⟩
      have HRN : Hid (RN = readN l (n - 0) P []) := hRN
      rw [← hRN] at HS
      clear hRN
      go_enter Tryz.func46, Tryz.ntmps46
      go_wp2_with fail
      refine HU.out.mono ?_
      rintro e w1 ⟨rfl, rfl⟩
      clear HU
      go_wp2
      go_loopw [1, 9, 10] (fun ua ul i wr => ∃ z : Nat, z ≤ n ∧ i = .int .u64 z ∧ ∃ q, ua = .int .i64 q ∧ Hid (∃ acc, OwnL wr w1.heap.size ul acc ∧ w1.grownBy wr none ∧ RN = readN l (n - z) q acc ∧ acc.length = z ∧ LbIn acc)) (fun _ _ i _ => n - (intOf i).toNat)
      case atStart => exact ⟨0, by omega, rfl, P, rfl, [], OwnL.nil _ _, gb_refl _ _, HRN.out, rfl, by simp, fun j => by simp⟩
      case round =>
        obtain ⟨z, hzN, rfl, q, rfl, hr⟩ := hrel
        obtain ⟨acc, hA1, hA2, hA3, hA4, hA5⟩ := hr.out
        clear hr
        by_cases hzl : z < n
        · have hzi : (z : Int) < (n : Int) := by omega
          have HST : Hid (RN = if (oneS l q).2.2.2 ≠ 0 then ([], 0, (oneS l q).2.2.2) else readN l (n - (z + 1)) (oneS l q).2.2.1 (acc ++ [((oneS l q).1, (oneS l q).2.1)])) := by rw [← readN_step l q acc hzl]; exact hA3
          have HSH : Hid ((oneS l q).1.length ≤ l.length ∧ (oneS l q).2.1.length ≤ l.length) := oneS_short l q
          have HO : Hid (oneS l q = if (tSpec l q 64).2.2 ≠ 0 then ([], [], 0, (tSpec l q 64).2.2) else if (tSpec l (tSpec l q 64).2.1 256).2.2 ≠ 0 then ([], [], 0, (tSpec l (tSpec l q 64).2.1 256).2.2) else ((tSpec l q 64).1, (tSpec l (tSpec l q 64).2.1 256).1, (tSpec l (tSpec l q 64).2.1 256).2.1, 0)) := rfl
          have HA : Hid (∀ W, Bx wr wr.heap.size ⟨#[]⟩ ⟨#[]⟩ W → Calls Tryz.prog 43 #[.slice ba l.length bc, .int .i64 q, .int .i64 64] W fun e w' => e = .returned (.tuple #[.string (ByteArray.mk ⟨(tSpec l q 64).1⟩), .int .i64 (tSpec l q 64).2.1, .int .i64 (tSpec l q 64).2.2]) ∧ Hid (Bx wr wr.heap.size ⟨#[]⟩ ⟨#[]⟩ w')) := fun W hW => (HT.out W q 64 (gb_none hA2 hW.2) (by omega)).mono fun e w' ⟨h1, h2⟩ => ⟨h1, hW.keep h2⟩
          have HB : Hid (∀ W x, Bx wr wr.heap.size x ⟨#[]⟩ W → Calls Tryz.prog 43 #[.slice ba l.length bc, .int .i64 (tSpec l q 64).2.1, .int .i64 256] W fun e w' => e = .returned (.tuple #[.string (ByteArray.mk ⟨(tSpec l (tSpec l q 64).2.1 256).1⟩), .int .i64 (tSpec l (tSpec l q 64).2.1 256).2.1, .int .i64 (tSpec l (tSpec l q 64).2.1 256).2.2]) ∧ Hid (Bx wr wr.heap.size x ⟨#[]⟩ w')) := fun W x hW => (HT.out W _ 256 (gb_none hA2 hW.2) (by omega)).mono fun e w' ⟨h1, h2⟩ => ⟨h1, hW.keep h2⟩
          have HB0 : Hid (Bx wr wr.heap.size ⟨#[]⟩ ⟨#[]⟩ (wr.alloc (.cells #[.string ⟨#[]⟩, .string ⟨#[]⟩] 51))) := ⟨Go.heap_alloc_new wr _, World.grownBy_alloc _ _ none⟩
          have HAC : Hid (OwnL wr w1.heap.size u9 acc ∧ w1.grownBy wr none ∧ acc.length = z ∧ LbIn acc) := ⟨hA1, hA2, hA4, hA5⟩
          clear hA1 hA2 hA3 hA4 hA5
          generalize oneS l q = O at *
          generalize tSpec l (tSpec l q 64).2.1 256 = t2 at *
          generalize tSpec l q 64 = t1 at *
          obtain ⟨n1, p1, e1⟩ := t1
          obtain ⟨n2, p2, e2⟩ := t2
          dsimp only at *
          by_cases h1 : e1 = 0
          · subst h1
            rw [if_neg (by simp)] at HO
            by_cases h2 : e2 = 0
            · subst h2
              rw [if_neg (by simp)] at HO
              have hO := HO.out
              subst hO
              rw [if_neg (by simp)] at HST
              dsimp only at HST HSH
              go_wp2_with fail
              refine (HA.out _ HB0.out).mono ?_
              rintro e w2 ⟨rfl, H2⟩
              have q0 := H2.out.cells.1
              have q1 := H2.out.cells.2
              have f0 := H2.out.frozen 0
              have H2b : Hid (Bx wr wr.heap.size (ByteArray.mk ⟨n1⟩) ⟨#[]⟩ (w2.setCell ⟨wr.heap.size, 0, none⟩ (.string (ByteArray.mk ⟨n1⟩)))) := H2.out.put0 (Nat.le_refl _) _
              clear HA HB0
              go_wp2_with fail
              refine (HB.out _ _ H2b.out).mono ?_
              rintro e w3 ⟨rfl, H3⟩
              have r0 := H3.out.cells.1
              have r1 := H3.out.cells.2
              have f1 := H3.out.frozen 1
              have H3b : Hid (Bx wr wr.heap.size (ByteArray.mk ⟨n1⟩) (ByteArray.mk ⟨n2⟩) (w3.setCell ⟨wr.heap.size, 1, none⟩ (.string (ByteArray.mk ⟨n2⟩)))) := H3.out.put1 (Nat.le_refl _) _
              clear HB q0 q1 f0 H2 H2b
              have d0 := H3b.out.cells.1
              have d1 := H3b.out.cells.2
              have HG4 : Hid (OwnL (w3.setCell ⟨wr.heap.size, 1, none⟩ (.string (ByteArray.mk ⟨n2⟩))) w1.heap.size u9 acc ∧ w1.grownBy (w3.setCell ⟨wr.heap.size, 1, none⟩ (.string (ByteArray.mk ⟨n2⟩))) none) := ⟨HAC.out.1.keep H3b.out.2, gb_none HAC.out.2.1 H3b.out.2⟩
              have HX : Hid (RdC ((w3.setCell ⟨wr.heap.size, 1, none⟩ (.string (ByteArray.mk ⟨n2⟩))).alloc (.cells #[.string (ByteArray.mk ⟨n1⟩), .string (ByteArray.mk ⟨n2⟩)] 51)) (some ⟨w3.heap.size, 0, none⟩) [.string (ByteArray.mk ⟨n1⟩), .string (ByteArray.mk ⟨n2⟩)]) := by
                have h := box_rdc (w3.setCell ⟨wr.heap.size, 1, none⟩ (.string (ByteArray.mk ⟨n2⟩))) (ByteArray.mk ⟨n1⟩) (ByteArray.mk ⟨n2⟩)
                rw [show (w3.setCell ⟨wr.heap.size, 1, none⟩ (.string (ByteArray.mk ⟨n2⟩))).heap.size = w3.heap.size by simp] at h
                exact h
              go_wp2_with (at_builtin; refine wp_appH rfl _ _ 52 51 rfl i0 _ 2 32 w1.heap.size Tryz.underlying52 HI.out.1 HI.out.2.1 HI.out.2.2.1 HI.out.2.2.2 rfl (by decide) _ acc.length (lbf acc) (some ⟨w3.heap.size, 0, none⟩) 1 1 [.string (ByteArray.mk ⟨n1⟩), .string (ByteArray.mk ⟨n2⟩)] rfl rfl (World.ownsRow.alloc HG4.out.1 _) rfl HX.out (fun h => by cases h) (two_one _ _) (by have := HAC.out.2.2.1; omega) (by have := HAC.out.2.2.1; omega) (by have := HG4.out.2.size; simp only [World.size_alloc]; omega) ?_)
              intro v5 w5 ho5 hf5
              have H5 : Hid (OwnL w5 w1.heap.size v5 (acc ++ [(n1, n2)]) ∧ w1.grownBy w5 none) := by
                refine ⟨OwnL.snoc ho5, gb_new HG4.out.2 (gb_trans (gb_any (World.grownBy_alloc _ (.cells #[.string (ByteArray.mk ⟨n1⟩), .string (ByteArray.mk ⟨n2⟩)] 51) none) _) hf5.1 (fun k hk _ => hk.symm)) (fun k hk => (HG4.out.1.lt k hk).1)⟩
              clear ho5 hf5 HG4 HX d0 d1 r0 r1 f1
              go_wp2
              go_roundw
              case rel =>
                refine ⟨z + 1, by omega, by simp, p2, rfl, acc ++ [(n1, n2)], H5.out.1, H5.out.2, HST.out, by simp [HAC.out.2.2.1], ?_⟩
                exact HAC.out.2.2.2.snoc (by have := HAC.out.2.2.1; omega) (by have := HSH.out.1; omega) (by have := HSH.out.2; omega)
              case measure => simp [intOf]; omega
            · rw [if_pos h2] at HO
              have hO := HO.out
              subst hO
              rw [if_pos (by exact h2)] at HST
              dsimp only at HST HSH
              have hRN := HST.out
              subst hRN
              rw [if_pos (by exact h2)] at HS
              have hR := HS.out
              subst hR
              have h2b : (e2 == 0) = false := by rw [beq_eq_false_iff_ne]; exact h2
              go_wp2_with fail
              refine (HA.out _ HB0.out).mono ?_
              rintro e w2 ⟨rfl, H2⟩
              have q0 := H2.out.cells.1
              have q1 := H2.out.cells.2
              have f0 := H2.out.frozen 0
              have H2b : Hid (Bx wr wr.heap.size (ByteArray.mk ⟨n1⟩) ⟨#[]⟩ (w2.setCell ⟨wr.heap.size, 0, none⟩ (.string (ByteArray.mk ⟨n1⟩)))) := H2.out.put0 (Nat.le_refl _) _
              clear HA HB0
              go_wp2_with fail
              refine (HB.out _ _ H2b.out).mono ?_
              rintro e w3 ⟨rfl, H3⟩
              have r0 := H3.out.cells.1
              have r1 := H3.out.cells.2
              have f1 := H3.out.frozen 1
              have H3b : Hid (Bx wr wr.heap.size (ByteArray.mk ⟨n1⟩) (ByteArray.mk ⟨n2⟩) (w3.setCell ⟨wr.heap.size, 1, none⟩ (.string (ByteArray.mk ⟨n2⟩)))) := H3.out.put1 (Nat.le_refl _) _
              clear HB q0 q1 f0 H2 H2b
              go_wp2
              go_ret3
              exact ⟨_, rfl, OwnL.nil _ _, gb_none HAC.out.2.1 H3.out.2⟩
          · rw [if_pos h1] at HO
            have hO := HO.out
            subst hO
            rw [if_pos (by exact h1)] at HST
            dsimp only at HST HSH
            have hRN := HST.out
            subst hRN
            rw [if_pos (by exact h1)] at HS
            have hR := HS.out
            subst hR
            have h1b : (e1 == 0) = false := by rw [beq_eq_false_iff_ne]; exact h1
            go_wp2_with fail
            refine (HA.out _ HB0.out).mono ?_
            rintro e w2 ⟨rfl, H2⟩
            have q0 := H2.out.cells.1
            have q1 := H2.out.cells.2
            have f0 := H2.out.frozen 0
            have H2b : Hid (Bx wr wr.heap.size (ByteArray.mk ⟨n1⟩) ⟨#[]⟩ (w2.setCell ⟨wr.heap.size, 0, none⟩ (.string (ByteArray.mk ⟨n1⟩)))) := H2.out.put0 (Nat.le_refl _) _
            clear HA HB0 HB
            go_wp2
            go_ret3
            exact ⟨_, rfl, OwnL.nil _ _, gb_none HAC.out.2.1 H2.out.2⟩
        · have hzi : ¬ (z : Int) < (n : Int) := by omega
          have hRN : RN = (acc, q, 0) := by rw [hA3, show n - z = 0 by omega]; rfl
          subst hRN
          dsimp only at HS
          rw [if_neg (by simp)] at HS
          have HRR : Hid (Calls Tryz.prog 77 #[u9] wr fun e w' => e = .returned (.tuple #[.int .i64 (rightS acc).1, .int .i64 ((rightS acc).2 : Int)]) ∧ wr.grownBy w' none) := HR.out wr u9 acc hA1.rd hA5
          have HAC : Hid (OwnL wr w1.heap.size u9 acc ∧ w1.grownBy wr none) := ⟨hA1, hA2⟩
          clear hA1 hA2 hA3 hA4 hA5 HR HT
          generalize rightS acc = rs at *
          obtain ⟨re, ri⟩ := rs
          dsimp only at *
          by_cases hre : re = 0
          · subst hre
            rw [if_neg (by simp)] at HS
            have hR := HS.out
            subst hR
            go_wp2_with fail
            refine HRR.out.mono ?_
            rintro e w2 ⟨rfl, hg2⟩
            have H2 : Hid (OwnL w2 w1.heap.size u9 acc ∧ w1.grownBy w2 none) := ⟨HAC.out.1.keep hg2, gb_none HAC.out.2 hg2⟩
            clear HRR hg2
            go_wp2
            go_ret3
            exact ⟨_, rfl, H2.out⟩
          · rw [if_pos hre] at HS
            have hR := HS.out
            subst hR
            have hrb : (re == 0) = false := by rw [beq_eq_false_iff_ne]; exact hre
            go_wp2_with fail
            refine HRR.out.mono ?_
            rintro e w2 ⟨rfl, hg2⟩
            have H2 : Hid (w1.grownBy w2 none) := gb_none HAC.out.2 hg2
            clear HRR hg2
            go_wp2
            go_ret3
            exact ⟨_, rfl, OwnL.nil _ _, H2.out⟩
  · rw [if_pos hE] at HS
    have hR := HS.out
    subst hR
    dsimp only
    have hEb : (E == 0) = false := by rw [beq_eq_false_iff_ne]; exact hE
    generalize I64 (BitVec.ofNat 64 n) = nn at *
    go_enter Tryz.func46, Tryz.ntmps46
    go_wp2_with fail
    refine HU.out.mono ?_
    rintro e w1 ⟨rfl, rfl⟩
    clear HU
    go_wp2
    go_ret3
    exact ⟨_, rfl, OwnL.nil _ _, gb_refl _ _⟩
end Go.Proofs.YtpglhdnepmcahaaGreatDoor
