/-
  LbDp0, LbDpa, LbDpb, LbDpc, LbDp, in one text.
-/
import Derived.Test.YtkcgikgihbglnaaDoorLbDs
import Derived.Test.YtkcgikgihbglnaaDoorLbPs
import Derived.Test.YtkcgikgihbglnaaDoorMgC
/- LbDp0 -/
namespace Go.Proofs.YtkcgikgihbglnaaDoor
open Go.RowKit

theorem gb_newT {w w' : World} {C : Obj} (h : (w.alloc C).grownBy w' (some w.heap.size)) : w.grownBy w' none := by
  have ha := World.grownBy_alloc w C none
  exact ⟨h.os.trans ha.os, h.tape.trans ha.tape, h.output.trans ha.output, Nat.le_trans ha.size h.size, fun k hk hne => (h.block k (by have := ha.size; omega) (by intro e; injection e with e; omega)).trans (ha.block k hk hne)⟩

set_option maxRecDepth 8000 in
set_option maxHeartbeats 6400000 in
theorem refSet_bad (w : World) (g : Nat) (s : List UInt8) (k b : Nat) (h : TxR w g s k b) (hb : b ≠ 0) :
    Calls Tryd.prog 72 #[.pointer (some ⟨g, 0, none⟩)] w fun e w' => e = .returned (.slice none 0 0) ∧ TxR w' g s k b ∧ w.grownBy w' (some g) := by
  have H0 : Hid (TxR w g s k b) := h
  obtain ⟨c0, c1, c2, -, -⟩ := h.cells
  have hbi : ((b : Int) == 0) = false := by rw [beq_eq_false_iff_ne]; omega
  have hbi2 : ¬ (b : Int) = 0 := by omega
  clear h hb
  go_enter Tryd.func72, Tryd.ntmps72
  go_wp2
  go_loopw [3] (fun u wr => u = .slice none 0 0 ∧ wr = w) (fun _ _ => 0)
  case atStart => exact ⟨rfl, rfl⟩
  case round =>
    obtain ⟨rfl, rfl⟩ := hrel
    go_wp2
    go_ret
    exact ⟨rfl, H0.out, gb_refl _ _⟩
end Go.Proofs.YtkcgikgihbglnaaDoor

/- LbDpa -/
namespace Go.Proofs.YtkcgikgihbglnaaDoor
open Go.RowKit

set_option maxRecDepth 8000 in
set_option maxHeartbeats 12800000 in
theorem refParse_a (w : World) (s : List UInt8) (hl : ¬ 65536 < s.length) (hmn : mtS s (skp s 0) = []) :
    Calls Tryd.prog 36 #[.string (ByteArray.mk ⟨s⟩)] w fun e w' => ∃ v, e = .returned (.tuple #[v, .int .i64 (parseS s).2.1, .int .i64 ((parseS s).2.2 : Int)]) ∧ OwnL w' w.heap.size v (parseS s).1 ∧ w.grownBy w' none := by
  have hz : (ByteArray.mk ⟨s⟩).size = s.length := rfl
  have hli : ¬ (65536 : Int) < (s.length : Int) := by omega
  have hs : s.length ≤ 1000000 := by omega
  have HP : Hid (parseS s = if (setS s 0).2.1 = false then ([], 3, (setS s 0).2.2) else madeS (setS s 0).1) := by
    show parseS s = _
    unfold parseS
    rw [if_neg hl]
  have hin := setS_in (Nat.zero_le s.length) (k := 0)
  have HIN : Hid (LbIn (setS s 0).1 ∧ (setS s 0).1.length ≤ 4398046511104) := ⟨.of (by omega) (fun x hx => by have := hin.2 x hx; exact ⟨by omega, by omega⟩), by omega⟩
  have hk0 := skp_le s 0 (Nat.zero_le _)
  have HTx : Hid (TxR (w.alloc (.cells #[.string (ByteArray.mk ⟨s⟩), .int .i64 0, .int .i64 0] 82)) w.heap.size s 0 0) := Go.heap_alloc_new w _
  have HGN : Hid (∀ w', (w.alloc (.cells #[.string (ByteArray.mk ⟨s⟩), .int .i64 0, .int .i64 0] 82)).grownBy w' (some w.heap.size) → w.grownBy w' none) := fun w' h => gb_newT h
  have HWS : Hid ((w.alloc (.cells #[.string (ByteArray.mk ⟨s⟩), .int .i64 0, .int .i64 0] 82)).heap.size = w.heap.size + 1) := by show (w.alloc _).heap.size = _; simp
  have HBL : Hid (∀ W g, TxR W g s 0 0 → Calls Tryd.prog 68 #[.pointer (some ⟨g, 0, none⟩)] W fun e w' => e = .returned (.tuple #[]) ∧ TxR w' g s (skp s 0) 0 ∧ W.grownBy w' (some g)) := fun W g hW => refBlanks_any W g s 0 0 hW (Nat.zero_le _) hs
  have HRU : Hid (∀ W g, TxR W g s (skp s 0) 0 → Calls Tryd.prog 69 #[.pointer (some ⟨g, 0, none⟩), .bool true] W fun e w' => e = .returned (.string (ByteArray.mk ⟨mtS s (skp s 0)⟩)) ∧ TxR w' g s (skp s 0 + (mtS s (skp s 0)).length) 0 ∧ W.grownBy w' (some g)) := fun W g hW => by
    have := refRun_any W g s (skp s 0) 0 true hW hk0 hs
    rw [rnK_len, skp_idem, runS_metric] at this
    exact this
  have hml := mtS_le s (skp s 0) hk0
  obtain ⟨i0, hi, hz0, hz1, hz2⟩ := info_parts infoLb
  have HI : Hid (Tryd.prog.info? 56 = some i0 ∧ i0.zero = some (.agg #[.string ⟨#[]⟩, .string ⟨#[]⟩]) ∧ i0.size = 2 ∧ i0.bytes = 32) := ⟨hi, hz0, hz1, hz2⟩
  clear hi hz0 hz1 hz2 hin hl
  generalize parseS s = R at *
  have HSS : Hid (setS s 0 = if tkB s (skp s 0) 123 = true then braS s (skp s 0) [] else ([], false, tkK s (skp s 0) 123)) := by
    show setS s 0 = _
    unfold setS
    rw [if_pos hmn]
  rw [hmn, List.length_nil, Nat.add_zero] at HRU
  clear hmn hml
  generalize skp s 0 = k0 at *
  have e0 : (ByteArray.mk ⟨([] : List UInt8)⟩).toList.isEmpty = true := by rw [ByteArray.toList_eq]; rfl
  have e0' : (ByteArray.mk ⟨([] : List UInt8)⟩).toList = [] := by rw [ByteArray.toList_eq]
  generalize ByteArray.mk ⟨([] : List UInt8)⟩ = sn at *
  have hk2 := tkK_len s k0 123 hk0
  have HTK : Hid (∀ W g, TxR W g s k0 0 → Calls Tryd.prog 71 #[.pointer (some ⟨g, 0, none⟩), .int .u8 123] W fun e w' => e = .returned (.bool (tkB s k0 123)) ∧ TxR w' g s (tkK s k0 123) 0 ∧ W.grownBy w' (some g)) := fun W g hW => refIs_any W g s k0 0 123 hW hk0 hs
  by_cases ht : tkB s k0 123 = true
  · rw [if_pos ht] at HSS
    rw [ht] at HTK
    clear ht
    obtain ⟨acc, hacc⟩ : ∃ acc : List LbT, acc = [] := ⟨_, rfl⟩
    have hal : acc.length ≤ 1 := by rw [hacc]; simp
    rw [← hacc] at HSS
    have HSS : Hid (setS s 0 = braS s k0 acc) := HSS.out
    have HNL : Hid (∀ W : World, ∀ B : Nat, OwnL W B (.slice none 0 0) acc) := fun W B => by rw [hacc]; exact OwnL.nil W B
    clear hacc
    go_enter Tryd.func36, Tryd.ntmps36
    go_wp2_with fail
    generalize w.alloc (.cells #[.string (ByteArray.mk ⟨s⟩), .int .i64 0, .int .i64 0] 82) = W0 at *
    generalize hge : w.heap.size = g at *
    have HGE : Hid (w.heap.size = g) := hge
    clear hge
    have hgl : g < g + 1 := by omega
    refine (HBL.out _ _ HTx.out).mono ?_
    rintro e w1 ⟨rfl, ht1, hg1⟩
    obtain ⟨c0, c1, c2, -, -⟩ := ht1.cells
    have H1 : Hid (TxR w1 g s k0 0 ∧ W0.grownBy w1 (some g)) := ⟨ht1, hg1⟩
    clear HBL ht1 hg1 HTx
    go_wp2_with fail
    refine (HRU.out _ _ H1.out.1).mono ?_
    rintro e w2 ⟨rfl, ht1, hg1⟩
    have H2 := hid (⟨ht1, gb_trans H1.out.2 hg1 (fun _ h _ => h.symm)⟩ : _ ∧ W0.grownBy w2 (some g))
    clear HRU ht1 hg1 H1 c0 c1 c2
    go_wp2_with fail
    refine (HTK.out _ _ H2.out.1).mono ?_
    rintro e w4 ⟨rfl, ht1, hg1⟩
    have H4 := hid (⟨HNL.out w4 (g + 1), ht1, gb_trans H2.out.2 hg1 (fun _ h _ => h.symm)⟩ : _ ∧ TxR w4 g s (tkK s k0 123) 0 ∧ W0.grownBy w4 (some g))
    clear HTK ht1 hg1 H2 HNL
    obtain ⟨k1, hk1e⟩ : ∃ k1, k1 = k0 := ⟨_, rfl⟩
    rw [← hk1e] at HSS H4 hk2
    clear hk1e
    have hbd := labsS_bd s (s.length + 1) (tkK s k1 123) [] hk2 (by simp)
    have HSE := refSet_any w4 g s (tkK s k1 123) H4.out.2.1 hk2 hs
    unfold braS at HSS
    generalize tkK s k1 123 = k2 at *
    generalize labsS (s.length + 1) s k2 [] = LL at *
    obtain ⟨LS, lo, k3⟩ := LL
    dsimp only at *
    have HSE : Hid (Calls Tryd.prog 72 #[.pointer (some ⟨g, 0, none⟩)] w4 fun e w' => ∃ v L A, e = .returned v ∧ OwnL w' w4.heap.size v L ∧ L.length ≤ s.length + 1 ∧ A ≤ s.length ∧ w4.grownBy w' (some g) ∧ ((lo = true ∧ L = LS ∧ A = k3 ∧ TxR w' g s A 0) ∨ (lo = false ∧ TxR w' g s A (k3 + 1)))) := HSE
    go_wp2_with fail
    refine HSE.out.mono ?_
    rintro e w7 ⟨v7, L, A, rfl, ho7, hL, hA, hg7, hcase⟩
    have H7 := hid (⟨H4.out.1.kept hg7 hgl, gb_trans H4.out.2.2 hg7 (fun _ h _ => h.symm)⟩ : _ ∧ W0.grownBy w7 (some g))
    obtain ⟨a7, c7, rfl, hc1, hc2, -, hc4⟩ := ho7.rd
    have HRC : Hid (RdC w7 a7 (lbf L)) := RdL.rdc ho7.rd
    have HC : Hid (a7 = none → L.length = 0 ∧ c7 = 0) := fun h => ⟨by have := hc4 h; omega, hc4 h⟩
    have HLL : Hid ((lbf L).length = L.length * 2) := lbf_len2 L
    have HON : Hid (∀ u ∈ lbf L, u.oneCell' = true) := lbf_one L
    have HCS : Hid ((lo = true ∧ L = LS ∧ A = k3 ∧ TxR w7 g s A 0) ∨ (lo = false ∧ TxR w7 g s A (k3 + 1))) := hcase
    clear hc4 HSE ho7 hg7 hcase H4
    unfold maxLen at hc2
    go_wp2_with (at_builtin; refine wp_appH rfl _ _ 22 56 rfl i0 _ 2 32 (g + 1) Tryd.underlying22 HI.out.1 HI.out.2.1 HI.out.2.2.1 HI.out.2.2.2 rfl (by decide) _ acc.length (lbf acc) a7 L.length c7 (lbf L) rfl rfl H7.out.1 HLL.out HRC.out HC.out HON.out (by first | omega | (simp; omega)) (by first | omega | (simp; omega)) (by have := H7.out.2.size; have := HWS.out; omega) ?_)
    intro v8 w8 ho8 hf8
    have HFR : Hid (∀ K b, TxR w7 g s K b → TxR w8 g s K b) := fun K b h => by
      have hl := H7.out.1.lt
      exact h.far hf8.1 (fun j hj => by have := (hl j hj).1; omega)
    have H8a : Hid (OwnL w8 (g + 1) v8 (acc ++ L)) := by
      show OwnL _ _ _ _
      unfold OwnL
      rw [List.length_append, lbf_app]
      first | exact ho8 | (rw [hal]; exact ho8)
    have H8g : Hid (W0.grownBy w8 (some g)) := by
      have hl := H7.out.1.lt
      exact gb_trans H7.out.2 hf8.1 (fun j hj hlt => by have := (hl j (by first | exact hj | exact hj.symm)).1; have := HWS.out; omega)
    clear ho8 hf8 H7 HC HRC HLL HON hc1 hc2
    rcases HCS.out with ⟨q1, q2, q3, q4⟩ | ⟨q1, q4⟩
    · subst q1 q2 q3
      rw [if_neg (by simp)] at HSS
      have H8b : Hid (TxR w8 g s A 0 ∧ W0.grownBy w8 (some g)) := ⟨HFR.out _ _ q4, H8g.out⟩
      clear HFR H8g HCS q4 hbd
      obtain ⟨L8, hL8⟩ : ∃ L8, L8 = acc ++ L := ⟨_, rfl⟩
      rw [← hL8] at HSS H8a
      clear hL8
      have HB8 := refBlanks_any w8 g s A 0 H8b.out.1 hA hs
      have hsk := skp_le s A hA
      rw [HSS.out] at HP HIN
      clear HSS
      dsimp only at HP HIN
      generalize skp s A = A2 at *
      have HB8 : Hid (Calls Tryd.prog 68 #[.pointer (some ⟨g, 0, none⟩)] w8 fun e w' => e = .returned (.tuple #[]) ∧ TxR w' g s A2 0 ∧ w8.grownBy w' (some g)) := HB8
      go_wp2_with fail
      refine HB8.out.mono ?_
      rintro e w9 ⟨rfl, ht1, hg1⟩
      obtain ⟨c0, c1, c2, -, -⟩ := ht1.cells
      have H9 := hid (⟨H8a.out.kept hg1 hgl, ht1, gb_trans H8b.out.2 hg1 (fun _ h _ => h.symm)⟩ : _ ∧ TxR w9 g s A2 0 ∧ W0.grownBy w9 (some g))
      clear HB8 ht1 hg1 H8b H8a
      by_cases hAe : A2 < s.length
      · have hlt : (A2 : Int) < (s.length : Int) := by omega
        rw [decide_eq_false (by omega), if_pos rfl] at HP
        obtain ⟨q, hq⟩ : ∃ q, q = A2 + 1 := ⟨_, rfl⟩
        have hqe : (q : Int) - 1 = (A2 : Int) := by omega
        have hq0 : (0 : Int) < (q : Int) := by omega
        have HF9 : Hid (Calls Tryd.prog 70 #[.pointer (some ⟨g, 0, none⟩), .int .i64 (A2 : Int)] w9 fun e w' => e = .returned (.tuple #[]) ∧ TxR w' g s A2 q ∧ w9.grownBy w' (some g)) := by
          rw [hq]
          exact refFail_any w9 g s A2 0 A2 H9.out.2.1 (by omega)
        clear hq
        go_wp2_with fail
        refine HF9.out.mono ?_
        rintro e wA ⟨rfl, ht1, hg1⟩
        clear c0 c1 c2
        obtain ⟨c0, c1, c2, -, -⟩ := ht1.cells
        have HA : Hid (W0.grownBy wA (some g)) := gb_trans H9.out.2.2 hg1 (fun _ h _ => h.symm)
        clear HF9 ht1 hg1 H9
        go_wp2_with fail
        go_region
        go_wp2
        go_ret3
        exact ⟨_, by (rw [HP.out]; first | done | rfl), by rw [HP.out]; exact OwnL.nil _ _, HGN.out _ (gb_none HA.out (gb_drew _ none))⟩
      · have hlt : ¬ (A2 : Int) < (s.length : Int) := by omega
        rw [decide_eq_true (by omega), if_neg (by simp)] at HP
        have HTW := refTwice_any w9 _ L8 H9.out.1.rd
        have HG9 : Hid (W0.grownBy w9 (some g)) := H9.out.2.2
        by_cases hn : ndN L8
        · rw [dupB_nd hn] at HTW
          have HTW := hid HTW
          have HM := madeS_nd hn
          rw [HM] at HP
          have HF := hid (fun W (hW : w9.grownBy W none) => refFull_any W _ L8 (H9.out.1.rd.keep hW) HIN.out.2)
          have HS : Hid (∀ W u, RdL W u (fullL L8) → Calls Tryd.prog 50 #[u] W fun e w' => ∃ v', e = .returned v' ∧ OwnL w' W.heap.size v' (sortN (fullL L8)) ∧ W.grownBy w' none) := fun W u hu => (refSorted_any W u _ hu (by have := full_len L8; have := HIN.out.2; omega)).mono fun e w' ⟨v', P, h1, h2, h3, h4, h5⟩ => ⟨v', h1, by rw [← sort_uniq h3 h4 (full_nd hn)]; exact h2, h5⟩
          have HR : Hid (∀ W u, RdL W u (sortN (fullL L8)) → Calls Tryd.prog 11 #[u] W fun e w' => e = .returned (.tuple #[.int .i64 (rightS (sortN (fullL L8))).1, .int .i64 ((rightS (sortN (fullL L8))).2 : Int)]) ∧ W.grownBy w' none) := fun W u hu => refRight_any W u _ hu HIN.out.1.made
          clear HM hn HIN H9
          generalize sortN (fullL L8) = S at *
          generalize (rightS S).1 = r1 at *
          generalize (rightS S).2 = r2 at *
          go_wp2_with fail
          refine HTW.out.mono ?_
          rintro e wA ⟨rfl, hg1⟩
          have HA : Hid (w9.grownBy wA none) := hg1
          clear HTW hg1 c0 c1 c2
          go_wp2_with fail
          refine (HF.out _ HA.out).mono ?_
          rintro e wB ⟨vB, rfl, ho2, hg2⟩
          have HB : Hid (OwnL wB wA.heap.size vB (fullL L8) ∧ w9.grownBy wB none) := ⟨ho2, gb_none HA.out hg2⟩
          clear HF ho2 hg2
          go_wp2_with fail
          refine (HS.out _ _ HB.out.1.rd).mono ?_
          rintro e wC ⟨vC, rfl, ho3, hg3⟩
          have HCC : Hid (OwnL wC g vC S ∧ w9.grownBy wC none) := ⟨ho3.mono (by have := HB.out.2.size; have := HG9.out.size; have := HWS.out; omega), gb_none HB.out.2 hg3⟩
          clear HS ho3 hg3 HB HA
          go_wp2_with fail
          refine (HR.out _ _ HCC.out.1.rd).mono ?_
          rintro e wD ⟨rfl, hg4⟩
          have HDD : Hid (OwnL wD g vC S ∧ w9.grownBy wD none) := ⟨HCC.out.1.keep hg4, gb_none HCC.out.2 hg4⟩
          clear HR hg4 HCC
          by_cases hr : r1 = 0
          · subst hr
            rw [if_pos rfl] at HP
            go_wp2
            go_ret3
            exact ⟨_, by (rw [HP.out]; first | done | rfl), by rw [HP.out, HGE.out]; exact HDD.out.1, HGN.out _ (gb_none HG9.out HDD.out.2)⟩
          · rw [if_neg hr] at HP
            have hrb : (r1 == 0) = false := by rw [beq_eq_false_iff_ne]; exact hr
            go_wp2
            go_ret3
            exact ⟨_, by (rw [HP.out]; first | done | rfl), by rw [HP.out]; exact OwnL.nil _ _, HGN.out _ (gb_none HG9.out HDD.out.2)⟩
        · rw [dupB_dup hn] at HTW
          have HTW := hid HTW
          rw [madeS_dup hn] at HP
          clear hn
          go_wp2_with fail
          refine HTW.out.mono ?_
          rintro e wA ⟨rfl, hg1⟩
          have HA : Hid (w9.grownBy wA none) := hg1
          clear HTW hg1 c0 c1 c2
          go_wp2
          go_ret3
          exact ⟨_, by (rw [HP.out]; first | done | rfl), by rw [HP.out]; exact OwnL.nil _ _, HGN.out _ (gb_none HG9.out HA.out)⟩
    · subst q1
      rw [if_pos rfl] at HSS
      have HPR : Hid (R = ([], 3, k3)) := by
        show R = _
        rw [HP.out, HSS.out, if_pos rfl]
      obtain ⟨p, hp⟩ : ∃ p, p = k3 := ⟨_, rfl⟩
      rw [← hp] at HPR q4
      have H8b : Hid (TxR w8 g s A (p + 1) ∧ W0.grownBy w8 (some g)) := ⟨HFR.out _ _ q4, H8g.out⟩
      have hpl : p ≤ s.length := by rw [hp]; exact hbd.1
      clear HFR H8g HCS q4 hp HP HSS HIN H8a
      have HB8 := refBlanks_any w8 g s A (p + 1) H8b.out.1 hA hs
      have hsk := skp_le s A hA
      generalize skp s A = A2 at *
      obtain ⟨q, hq⟩ : ∃ q, q = p + 1 := ⟨_, rfl⟩
      rw [← hq] at HB8
      have HB8 : Hid (Calls Tryd.prog 68 #[.pointer (some ⟨g, 0, none⟩)] w8 fun e w' => e = .returned (.tuple #[]) ∧ TxR w' g s A2 q ∧ w8.grownBy w' (some g)) := HB8
      have hqe : (q : Int) - 1 = (p : Int) := by omega
      have hq0 : (0 : Int) < (q : Int) := by omega
      have HQN : Hid (q ≠ 0) := by show q ≠ 0; omega
      clear hq
      go_wp2_with fail
      refine HB8.out.mono ?_
      rintro e w9 ⟨rfl, ht1, hg1⟩
      obtain ⟨c0, c1, c2, -, -⟩ := ht1.cells
      have H9 : Hid (TxR w9 g s A2 q ∧ W0.grownBy w9 (some g)) := ⟨ht1, gb_trans H8b.out.2 hg1 (fun _ h _ => h.symm)⟩
      clear HB8 ht1 hg1 H8b
      by_cases hAe : A2 < s.length
      · have hlt : (A2 : Int) < (s.length : Int) := by omega
        have HF9 : Hid (Calls Tryd.prog 70 #[.pointer (some ⟨g, 0, none⟩), .int .i64 (A2 : Int)] w9 fun e w' => e = .returned (.tuple #[]) ∧ TxR w' g s A2 q ∧ w9.grownBy w' (some g)) := by
          have := refFail_any w9 g s A2 q A2 H9.out.1 (by omega)
          unfold failB at this
          rw [if_neg HQN.out] at this
          exact this
        go_wp2_with fail
        refine HF9.out.mono ?_
        rintro e wA ⟨rfl, ht1, hg1⟩
        clear c0 c1 c2
        obtain ⟨c0, c1, c2, -, -⟩ := ht1.cells
        have HA : Hid (W0.grownBy wA (some g)) := gb_trans H9.out.2 hg1 (fun _ h _ => h.symm)
        clear HF9 ht1 hg1 H9
        go_wp2_with fail
        go_region
        go_wp2
        go_ret3
        exact ⟨_, by (rw [HPR.out]; first | done | rfl), by rw [HPR.out]; exact OwnL.nil _ _, HGN.out _ (gb_none HA.out (gb_drew _ none))⟩
      · have hlt : ¬ (A2 : Int) < (s.length : Int) := by omega
        go_wp2_with fail
        go_region
        go_wp2
        go_ret3
        exact ⟨_, by (rw [HPR.out]; first | done | rfl), by rw [HPR.out]; exact OwnL.nil _ _, HGN.out _ (gb_none H9.out.2 (gb_drew _ none))⟩
  · have ht' : tkB s k0 123 = false := by simpa using ht
    rw [if_neg ht] at HSS
    rw [ht'] at HTK
    clear ht ht'
    have HPR : Hid (R = ([], 3, tkK s k0 123)) := by
      show R = _
      rw [HP.out, HSS.out, if_pos rfl]
    clear HP HSS HIN
    generalize tkK s k0 123 = p at *
    go_enter Tryd.func36, Tryd.ntmps36
    go_wp2_with fail
    generalize w.alloc (.cells #[.string (ByteArray.mk ⟨s⟩), .int .i64 0, .int .i64 0] 82) = W0 at *
    generalize hge : w.heap.size = g at *
    have HGE : Hid (w.heap.size = g) := hge
    clear hge
    have hgl : g < g + 1 := by omega
    refine (HBL.out _ _ HTx.out).mono ?_
    rintro e w1 ⟨rfl, ht1, hg1⟩
    obtain ⟨c0, c1, c2, -, -⟩ := ht1.cells
    have H1 : Hid (TxR w1 g s k0 0 ∧ W0.grownBy w1 (some g)) := ⟨ht1, hg1⟩
    clear HBL ht1 hg1 HTx
    go_wp2_with fail
    refine (HRU.out _ _ H1.out.1).mono ?_
    rintro e w2 ⟨rfl, ht1, hg1⟩
    have H2 := hid (⟨ht1, gb_trans H1.out.2 hg1 (fun _ h _ => h.symm)⟩ : _ ∧ W0.grownBy w2 (some g))
    clear HRU ht1 hg1 H1 c0 c1 c2
    go_wp2_with fail
    refine (HTK.out _ _ H2.out.1).mono ?_
    rintro e w4 ⟨rfl, ht1, hg1⟩
    obtain ⟨c0, c1, c2, -, -⟩ := ht1.cells
    have H4 : Hid (TxR w4 g s p 0 ∧ W0.grownBy w4 (some g)) := ⟨ht1, gb_trans H2.out.2 hg1 (fun _ h _ => h.symm)⟩
    clear HTK ht1 hg1 H2
    have HF1 : Hid (Calls Tryd.prog 70 #[.pointer (some ⟨g, 0, none⟩), .int .i64 (p : Int)] w4 fun e w' => e = .returned (.tuple #[]) ∧ TxR w' g s p (p + 1) ∧ w4.grownBy w' (some g)) := refFail_any w4 g s p 0 p H4.out.1 (by omega)
    go_wp2_with fail
    refine HF1.out.mono ?_
    rintro e w8 ⟨rfl, ht1, hg1⟩
    obtain ⟨A, hAe⟩ : ∃ A, A = p := ⟨_, rfl⟩
    have hA : A ≤ s.length := by omega
    have hpl : p ≤ s.length := hk2
    have H8b : Hid (TxR w8 g s A (p + 1) ∧ W0.grownBy w8 (some g)) := ⟨by rw [hAe]; exact ht1, gb_trans H4.out.2 hg1 (fun _ h _ => h.symm)⟩
    clear HF1 ht1 hg1 H4 hAe hk2 c0 c1 c2
    have HB8 := refBlanks_any w8 g s A (p + 1) H8b.out.1 hA hs
    have hsk := skp_le s A hA
    generalize skp s A = A2 at *
    obtain ⟨q, hq⟩ : ∃ q, q = p + 1 := ⟨_, rfl⟩
    rw [← hq] at HB8
    have HB8 : Hid (Calls Tryd.prog 68 #[.pointer (some ⟨g, 0, none⟩)] w8 fun e w' => e = .returned (.tuple #[]) ∧ TxR w' g s A2 q ∧ w8.grownBy w' (some g)) := HB8
    have hqe : (q : Int) - 1 = (p : Int) := by omega
    have hq0 : (0 : Int) < (q : Int) := by omega
    have HQN : Hid (q ≠ 0) := by show q ≠ 0; omega
    clear hq
    go_wp2_with fail
    refine HB8.out.mono ?_
    rintro e w9 ⟨rfl, ht1, hg1⟩
    obtain ⟨c0, c1, c2, -, -⟩ := ht1.cells
    have H9 : Hid (TxR w9 g s A2 q ∧ W0.grownBy w9 (some g)) := ⟨ht1, gb_trans H8b.out.2 hg1 (fun _ h _ => h.symm)⟩
    clear HB8 ht1 hg1 H8b
    by_cases hAe : A2 < s.length
    · have hlt : (A2 : Int) < (s.length : Int) := by omega
      have HF9 : Hid (Calls Tryd.prog 70 #[.pointer (some ⟨g, 0, none⟩), .int .i64 (A2 : Int)] w9 fun e w' => e = .returned (.tuple #[]) ∧ TxR w' g s A2 q ∧ w9.grownBy w' (some g)) := by
        have := refFail_any w9 g s A2 q A2 H9.out.1 (by omega)
        unfold failB at this
        rw [if_neg HQN.out] at this
        exact this
      go_wp2_with fail
      refine HF9.out.mono ?_
      rintro e wA ⟨rfl, ht1, hg1⟩
      clear c0 c1 c2
      obtain ⟨c0, c1, c2, -, -⟩ := ht1.cells
      have HA : Hid (W0.grownBy wA (some g)) := gb_trans H9.out.2 hg1 (fun _ h _ => h.symm)
      clear HF9 ht1 hg1 H9
      go_wp2_with fail
      go_region
      go_wp2
      go_ret3
      exact ⟨_, by (rw [HPR.out]; first | done | rfl), by rw [HPR.out]; exact OwnL.nil _ _, HGN.out _ (gb_none HA.out (gb_drew _ none))⟩
    · have hlt : ¬ (A2 : Int) < (s.length : Int) := by omega
      go_wp2_with fail
      go_region
      go_wp2
      go_ret3
      exact ⟨_, by (rw [HPR.out]; first | done | rfl), by rw [HPR.out]; exact OwnL.nil _ _, HGN.out _ (gb_none H9.out.2 (gb_drew _ none))⟩
end Go.Proofs.YtkcgikgihbglnaaDoor

/- LbDpb -/
namespace Go.Proofs.YtkcgikgihbglnaaDoor
open Go.RowKit

set_option maxRecDepth 8000 in
set_option maxHeartbeats 12800000 in
theorem refParse_b (w : World) (s : List UInt8) (hl : ¬ 65536 < s.length) (hmn : ¬ mtS s (skp s 0) = []) (hmb : metricB (mtS s (skp s 0)) = true) :
    Calls Tryd.prog 36 #[.string (ByteArray.mk ⟨s⟩)] w fun e w' => ∃ v, e = .returned (.tuple #[v, .int .i64 (parseS s).2.1, .int .i64 ((parseS s).2.2 : Int)]) ∧ OwnL w' w.heap.size v (parseS s).1 ∧ w.grownBy w' none := by
  have HSS : Hid (setS s 0 = if tkB s (skp s 0 + (mtS s (skp s 0)).length) 123 = true then braS s (skp s 0 + (mtS s (skp s 0)).length) [(mnB, mtS s (skp s 0))] else ([(mnB, mtS s (skp s 0))], decide (skp s (tkK s (skp s 0 + (mtS s (skp s 0)).length) 123) = s.length), skp s (tkK s (skp s 0 + (mtS s (skp s 0)).length) 123))) := by
    show setS s 0 = _
    unfold setS
    rw [if_neg hmn, if_neg (by rw [hmb]; simp)]
  have hz : (ByteArray.mk ⟨s⟩).size = s.length := rfl
  have hli : ¬ (65536 : Int) < (s.length : Int) := by omega
  have hs : s.length ≤ 1000000 := by omega
  have HP : Hid (parseS s = if (setS s 0).2.1 = false then ([], 3, (setS s 0).2.2) else madeS (setS s 0).1) := by
    show parseS s = _
    unfold parseS
    rw [if_neg hl]
  have hin := setS_in (Nat.zero_le s.length) (k := 0)
  have HIN : Hid (LbIn (setS s 0).1 ∧ (setS s 0).1.length ≤ 4398046511104) := ⟨.of (by omega) (fun x hx => by have := hin.2 x hx; exact ⟨by omega, by omega⟩), by omega⟩
  have hk0 := skp_le s 0 (Nat.zero_le _)
  have HTx : Hid (TxR (w.alloc (.cells #[.string (ByteArray.mk ⟨s⟩), .int .i64 0, .int .i64 0] 82)) w.heap.size s 0 0) := Go.heap_alloc_new w _
  have HGN : Hid (∀ w', (w.alloc (.cells #[.string (ByteArray.mk ⟨s⟩), .int .i64 0, .int .i64 0] 82)).grownBy w' (some w.heap.size) → w.grownBy w' none) := fun w' h => gb_newT h
  have HWS : Hid ((w.alloc (.cells #[.string (ByteArray.mk ⟨s⟩), .int .i64 0, .int .i64 0] 82)).heap.size = w.heap.size + 1) := by show (w.alloc _).heap.size = _; simp
  have HBL : Hid (∀ W g, TxR W g s 0 0 → Calls Tryd.prog 68 #[.pointer (some ⟨g, 0, none⟩)] W fun e w' => e = .returned (.tuple #[]) ∧ TxR w' g s (skp s 0) 0 ∧ W.grownBy w' (some g)) := fun W g hW => refBlanks_any W g s 0 0 hW (Nat.zero_le _) hs
  have HRU : Hid (∀ W g, TxR W g s (skp s 0) 0 → Calls Tryd.prog 69 #[.pointer (some ⟨g, 0, none⟩), .bool true] W fun e w' => e = .returned (.string (ByteArray.mk ⟨mtS s (skp s 0)⟩)) ∧ TxR w' g s (skp s 0 + (mtS s (skp s 0)).length) 0 ∧ W.grownBy w' (some g)) := fun W g hW => by
    have := refRun_any W g s (skp s 0) 0 true hW hk0 hs
    rw [rnK_len, skp_idem, runS_metric] at this
    exact this
  have hml := mtS_le s (skp s 0) hk0
  obtain ⟨i0, hi, hz0, hz1, hz2⟩ := info_parts infoLb
  have HI : Hid (Tryd.prog.info? 56 = some i0 ∧ i0.zero = some (.agg #[.string ⟨#[]⟩, .string ⟨#[]⟩]) ∧ i0.size = 2 ∧ i0.bytes = 32) := ⟨hi, hz0, hz1, hz2⟩
  clear hi hz0 hz1 hz2 hin hl
  generalize parseS s = R at *
  have HN : Hid (∀ W, Calls Tryd.prog 15 #[.string (ByteArray.mk ⟨mtS s (skp s 0)⟩)] W fun e w' => e = .returned (.bool (metricB (mtS s (skp s 0)))) ∧ W.grownBy w' none) := fun W => refMetric_any W (mtS s (skp s 0)) (by omega)
  rw [hmb] at HN
  generalize skp s 0 = k0 at *
  generalize mtS s k0 = mn at *
  obtain ⟨n, hn⟩ : ∃ n, n = mn.length := ⟨_, rfl⟩
  rw [← hn] at hml HRU HSS
  have e0 : (ByteArray.mk ⟨mn⟩).toList.isEmpty = false := by rw [ByteArray.toList_eq]; cases mn with | nil => exact absurd rfl hmn | cons c t => rfl
  have e0' : ¬ (ByteArray.mk ⟨mn⟩).toList = [] := by rw [ByteArray.toList_eq]; exact hmn
  clear hmn hmb hn
  have HSN : Hid (lbf [(mnB, mn)] = [.string (ByteArray.mk ⟨mnB⟩), .string (ByteArray.mk ⟨mn⟩)]) := rfl
  obtain ⟨acc, hacc⟩ : ∃ acc : List LbT, acc = [(mnB, mn)] := ⟨_, rfl⟩
  have hal : acc.length = 1 := by rw [hacc]; rfl
  rw [← hacc] at HSS HSN
  clear hacc
  generalize ByteArray.mk ⟨mn⟩ = sn at *
  have hk2 := tkK_len s (k0 + n) 123 hml
  have HTK : Hid (∀ W g, TxR W g s (k0 + n) 0 → Calls Tryd.prog 71 #[.pointer (some ⟨g, 0, none⟩), .int .u8 123] W fun e w' => e = .returned (.bool (tkB s (k0 + n) 123)) ∧ TxR w' g s (tkK s (k0 + n) 123) 0 ∧ W.grownBy w' (some g)) := fun W g hW => refIs_any W g s (k0 + n) 0 123 hW hml hs
  obtain ⟨k1, hk1e⟩ : ∃ k1, k1 = k0 + n := ⟨_, rfl⟩
  rw [← hk1e] at HTK HSS hk2 HRU
  clear hk1e hml
  by_cases ht : tkB s k1 123 = true
  · rw [if_pos ht] at HSS
    rw [ht] at HTK
    clear ht
    have HSS : Hid (setS s 0 = braS s k1 acc) := HSS.out
    go_enter Tryd.func36, Tryd.ntmps36
    go_wp2_with fail
    generalize w.alloc (.cells #[.string (ByteArray.mk ⟨s⟩), .int .i64 0, .int .i64 0] 82) = W0 at *
    generalize hge : w.heap.size = g at *
    have HGE : Hid (w.heap.size = g) := hge
    clear hge
    have hgl : g < g + 1 := by omega
    refine (HBL.out _ _ HTx.out).mono ?_
    rintro e w1 ⟨rfl, ht1, hg1⟩
    obtain ⟨c0, c1, c2, -, -⟩ := ht1.cells
    have H1 : Hid (TxR w1 g s k0 0 ∧ W0.grownBy w1 (some g)) := ⟨ht1, hg1⟩
    clear HBL ht1 hg1 HTx
    go_wp2_with fail
    refine (HRU.out _ _ H1.out.1).mono ?_
    rintro e w2 ⟨rfl, ht1, hg1⟩
    have H2 := hid (⟨ht1, gb_trans H1.out.2 hg1 (fun _ h _ => h.symm)⟩ : _ ∧ W0.grownBy w2 (some g))
    clear HRU ht1 hg1 H1 c0 c1 c2
    go_wp2_with fail
    refine (HN.out _).mono ?_
    rintro e w3 ⟨rfl, hg1⟩
    have H3 := hid (⟨H2.out.1.keep hg1, gb_none H2.out.2 hg1⟩ : _ ∧ W0.grownBy w3 (some g))
    clear HN hg1 H2
    go_wp2_with (at_builtin; refine wp_appH rfl _ _ 22 56 rfl i0 _ 2 32 (g + 1) Tryd.underlying22 HI.out.1 HI.out.2.1 HI.out.2.2.1 HI.out.2.2.2 rfl (by decide) _ 0 [] (some ⟨w3.heap.size, 0, none⟩) 1 1 [.string (ByteArray.mk ⟨mnB⟩), .string sn] rfl rfl (World.ownsRow_nil _ _ _ _) rfl (box_rdc w3 _ _) (fun h => by cases h) (two_one _ _) (by omega) (by omega) (by have := H3.out.2.size; have := HWS.out; simp; omega) ?_)
    intro v5 w5 ho4 hf4
    have hg4 : w3.grownBy w5 none := gb_none (World.grownBy_alloc _ _ none) hf4.1
    have H5a : Hid (OwnL w5 (g + 1) v5 acc) := by
      show OwnL _ _ _ _
      unfold OwnL
      rw [hal, HSN.out]
      exact ho4
    have H5 := hid (⟨H3.out.1.keep hg4, gb_none H3.out.2 hg4⟩ : _ ∧ W0.grownBy w5 (some g))
    clear ho4 hf4 hg4 H3 HSN
    go_wp2_with fail
    refine (HTK.out _ _ H5.out.1).mono ?_
    rintro e w4 ⟨rfl, ht1, hg1⟩
    have H4 := hid (⟨H5a.out.kept hg1 hgl, ht1, gb_trans H5.out.2 hg1 (fun _ h _ => h.symm)⟩ : _ ∧ TxR w4 g s (tkK s k1 123) 0 ∧ W0.grownBy w4 (some g))
    clear HTK ht1 hg1 H5 H5a
    have hbd := labsS_bd s (s.length + 1) (tkK s k1 123) [] hk2 (by simp)
    have HSE := refSet_any w4 g s (tkK s k1 123) H4.out.2.1 hk2 hs
    unfold braS at HSS
    generalize tkK s k1 123 = k2 at *
    generalize labsS (s.length + 1) s k2 [] = LL at *
    obtain ⟨LS, lo, k3⟩ := LL
    dsimp only at *
    have HSE : Hid (Calls Tryd.prog 72 #[.pointer (some ⟨g, 0, none⟩)] w4 fun e w' => ∃ v L A, e = .returned v ∧ OwnL w' w4.heap.size v L ∧ L.length ≤ s.length + 1 ∧ A ≤ s.length ∧ w4.grownBy w' (some g) ∧ ((lo = true ∧ L = LS ∧ A = k3 ∧ TxR w' g s A 0) ∨ (lo = false ∧ TxR w' g s A (k3 + 1)))) := HSE
    go_wp2_with fail
    refine HSE.out.mono ?_
    rintro e w7 ⟨v7, L, A, rfl, ho7, hL, hA, hg7, hcase⟩
    have H7 := hid (⟨H4.out.1.kept hg7 hgl, gb_trans H4.out.2.2 hg7 (fun _ h _ => h.symm)⟩ : _ ∧ W0.grownBy w7 (some g))
    obtain ⟨a7, c7, rfl, hc1, hc2, -, hc4⟩ := ho7.rd
    have HRC : Hid (RdC w7 a7 (lbf L)) := RdL.rdc ho7.rd
    have HC : Hid (a7 = none → L.length = 0 ∧ c7 = 0) := fun h => ⟨by have := hc4 h; omega, hc4 h⟩
    have HLL : Hid ((lbf L).length = L.length * 2) := lbf_len2 L
    have HON : Hid (∀ u ∈ lbf L, u.oneCell' = true) := lbf_one L
    have HCS : Hid ((lo = true ∧ L = LS ∧ A = k3 ∧ TxR w7 g s A 0) ∨ (lo = false ∧ TxR w7 g s A (k3 + 1))) := hcase
    clear hc4 HSE ho7 hg7 hcase H4
    unfold maxLen at hc2
    go_wp2_with (at_builtin; refine wp_appH rfl _ _ 22 56 rfl i0 _ 2 32 (g + 1) Tryd.underlying22 HI.out.1 HI.out.2.1 HI.out.2.2.1 HI.out.2.2.2 rfl (by decide) _ acc.length (lbf acc) a7 L.length c7 (lbf L) rfl rfl H7.out.1 HLL.out HRC.out HC.out HON.out (by first | omega | (simp; omega)) (by first | omega | (simp; omega)) (by have := H7.out.2.size; have := HWS.out; omega) ?_)
    intro v8 w8 ho8 hf8
    have HFR : Hid (∀ K b, TxR w7 g s K b → TxR w8 g s K b) := fun K b h => by
      have hl := H7.out.1.lt
      exact h.far hf8.1 (fun j hj => by have := (hl j hj).1; omega)
    have H8a : Hid (OwnL w8 (g + 1) v8 (acc ++ L)) := by
      show OwnL _ _ _ _
      unfold OwnL
      rw [List.length_append, lbf_app]
      first | exact ho8 | (rw [hal]; exact ho8)
    have H8g : Hid (W0.grownBy w8 (some g)) := by
      have hl := H7.out.1.lt
      exact gb_trans H7.out.2 hf8.1 (fun j hj hlt => by have := (hl j (by first | exact hj | exact hj.symm)).1; have := HWS.out; omega)
    clear ho8 hf8 H7 HC HRC HLL HON hc1 hc2
    rcases HCS.out with ⟨q1, q2, q3, q4⟩ | ⟨q1, q4⟩
    · subst q1 q2 q3
      rw [if_neg (by simp)] at HSS
      have H8b : Hid (TxR w8 g s A 0 ∧ W0.grownBy w8 (some g)) := ⟨HFR.out _ _ q4, H8g.out⟩
      clear HFR H8g HCS q4 hbd
      obtain ⟨L8, hL8⟩ : ∃ L8, L8 = acc ++ L := ⟨_, rfl⟩
      rw [← hL8] at HSS H8a
      clear hL8
      have HB8 := refBlanks_any w8 g s A 0 H8b.out.1 hA hs
      have hsk := skp_le s A hA
      rw [HSS.out] at HP HIN
      clear HSS
      dsimp only at HP HIN
      generalize skp s A = A2 at *
      have HB8 : Hid (Calls Tryd.prog 68 #[.pointer (some ⟨g, 0, none⟩)] w8 fun e w' => e = .returned (.tuple #[]) ∧ TxR w' g s A2 0 ∧ w8.grownBy w' (some g)) := HB8
      go_wp2_with fail
      refine HB8.out.mono ?_
      rintro e w9 ⟨rfl, ht1, hg1⟩
      obtain ⟨c0, c1, c2, -, -⟩ := ht1.cells
      have H9 := hid (⟨H8a.out.kept hg1 hgl, ht1, gb_trans H8b.out.2 hg1 (fun _ h _ => h.symm)⟩ : _ ∧ TxR w9 g s A2 0 ∧ W0.grownBy w9 (some g))
      clear HB8 ht1 hg1 H8b H8a
      by_cases hAe : A2 < s.length
      · have hlt : (A2 : Int) < (s.length : Int) := by omega
        rw [decide_eq_false (by omega), if_pos rfl] at HP
        obtain ⟨q, hq⟩ : ∃ q, q = A2 + 1 := ⟨_, rfl⟩
        have hqe : (q : Int) - 1 = (A2 : Int) := by omega
        have hq0 : (0 : Int) < (q : Int) := by omega
        have HF9 : Hid (Calls Tryd.prog 70 #[.pointer (some ⟨g, 0, none⟩), .int .i64 (A2 : Int)] w9 fun e w' => e = .returned (.tuple #[]) ∧ TxR w' g s A2 q ∧ w9.grownBy w' (some g)) := by
          rw [hq]
          exact refFail_any w9 g s A2 0 A2 H9.out.2.1 (by omega)
        clear hq
        go_wp2_with fail
        refine HF9.out.mono ?_
        rintro e wA ⟨rfl, ht1, hg1⟩
        clear c0 c1 c2
        obtain ⟨c0, c1, c2, -, -⟩ := ht1.cells
        have HA : Hid (W0.grownBy wA (some g)) := gb_trans H9.out.2.2 hg1 (fun _ h _ => h.symm)
        clear HF9 ht1 hg1 H9
        go_wp2_with fail
        go_region
        go_wp2
        go_ret3
        exact ⟨_, by (rw [HP.out]; first | done | rfl), by rw [HP.out]; exact OwnL.nil _ _, HGN.out _ (gb_none HA.out (gb_drew _ none))⟩
      · have hlt : ¬ (A2 : Int) < (s.length : Int) := by omega
        rw [decide_eq_true (by omega), if_neg (by simp)] at HP
        have HTW := refTwice_any w9 _ L8 H9.out.1.rd
        have HG9 : Hid (W0.grownBy w9 (some g)) := H9.out.2.2
        by_cases hn : ndN L8
        · rw [dupB_nd hn] at HTW
          have HTW := hid HTW
          have HM := madeS_nd hn
          rw [HM] at HP
          have HF := hid (fun W (hW : w9.grownBy W none) => refFull_any W _ L8 (H9.out.1.rd.keep hW) HIN.out.2)
          have HS : Hid (∀ W u, RdL W u (fullL L8) → Calls Tryd.prog 50 #[u] W fun e w' => ∃ v', e = .returned v' ∧ OwnL w' W.heap.size v' (sortN (fullL L8)) ∧ W.grownBy w' none) := fun W u hu => (refSorted_any W u _ hu (by have := full_len L8; have := HIN.out.2; omega)).mono fun e w' ⟨v', P, h1, h2, h3, h4, h5⟩ => ⟨v', h1, by rw [← sort_uniq h3 h4 (full_nd hn)]; exact h2, h5⟩
          have HR : Hid (∀ W u, RdL W u (sortN (fullL L8)) → Calls Tryd.prog 11 #[u] W fun e w' => e = .returned (.tuple #[.int .i64 (rightS (sortN (fullL L8))).1, .int .i64 ((rightS (sortN (fullL L8))).2 : Int)]) ∧ W.grownBy w' none) := fun W u hu => refRight_any W u _ hu HIN.out.1.made
          clear HM hn HIN H9
          generalize sortN (fullL L8) = S at *
          generalize (rightS S).1 = r1 at *
          generalize (rightS S).2 = r2 at *
          go_wp2_with fail
          refine HTW.out.mono ?_
          rintro e wA ⟨rfl, hg1⟩
          have HA : Hid (w9.grownBy wA none) := hg1
          clear HTW hg1 c0 c1 c2
          go_wp2_with fail
          refine (HF.out _ HA.out).mono ?_
          rintro e wB ⟨vB, rfl, ho2, hg2⟩
          have HB : Hid (OwnL wB wA.heap.size vB (fullL L8) ∧ w9.grownBy wB none) := ⟨ho2, gb_none HA.out hg2⟩
          clear HF ho2 hg2
          go_wp2_with fail
          refine (HS.out _ _ HB.out.1.rd).mono ?_
          rintro e wC ⟨vC, rfl, ho3, hg3⟩
          have HCC : Hid (OwnL wC g vC S ∧ w9.grownBy wC none) := ⟨ho3.mono (by have := HB.out.2.size; have := HG9.out.size; have := HWS.out; omega), gb_none HB.out.2 hg3⟩
          clear HS ho3 hg3 HB HA
          go_wp2_with fail
          refine (HR.out _ _ HCC.out.1.rd).mono ?_
          rintro e wD ⟨rfl, hg4⟩
          have HDD : Hid (OwnL wD g vC S ∧ w9.grownBy wD none) := ⟨HCC.out.1.keep hg4, gb_none HCC.out.2 hg4⟩
          clear HR hg4 HCC
          by_cases hr : r1 = 0
          · subst hr
            rw [if_pos rfl] at HP
            go_wp2
            go_ret3
            exact ⟨_, by (rw [HP.out]; first | done | rfl), by rw [HP.out, HGE.out]; exact HDD.out.1, HGN.out _ (gb_none HG9.out HDD.out.2)⟩
          · rw [if_neg hr] at HP
            have hrb : (r1 == 0) = false := by rw [beq_eq_false_iff_ne]; exact hr
            go_wp2
            go_ret3
            exact ⟨_, by (rw [HP.out]; first | done | rfl), by rw [HP.out]; exact OwnL.nil _ _, HGN.out _ (gb_none HG9.out HDD.out.2)⟩
        · rw [dupB_dup hn] at HTW
          have HTW := hid HTW
          rw [madeS_dup hn] at HP
          clear hn
          go_wp2_with fail
          refine HTW.out.mono ?_
          rintro e wA ⟨rfl, hg1⟩
          have HA : Hid (w9.grownBy wA none) := hg1
          clear HTW hg1 c0 c1 c2
          go_wp2
          go_ret3
          exact ⟨_, by (rw [HP.out]; first | done | rfl), by rw [HP.out]; exact OwnL.nil _ _, HGN.out _ (gb_none HG9.out HA.out)⟩
    · subst q1
      rw [if_pos rfl] at HSS
      have HPR : Hid (R = ([], 3, k3)) := by
        show R = _
        rw [HP.out, HSS.out, if_pos rfl]
      obtain ⟨p, hp⟩ : ∃ p, p = k3 := ⟨_, rfl⟩
      rw [← hp] at HPR q4
      have H8b : Hid (TxR w8 g s A (p + 1) ∧ W0.grownBy w8 (some g)) := ⟨HFR.out _ _ q4, H8g.out⟩
      have hpl : p ≤ s.length := by rw [hp]; exact hbd.1
      clear HFR H8g HCS q4 hp HP HSS HIN H8a
      have HB8 := refBlanks_any w8 g s A (p + 1) H8b.out.1 hA hs
      have hsk := skp_le s A hA
      generalize skp s A = A2 at *
      obtain ⟨q, hq⟩ : ∃ q, q = p + 1 := ⟨_, rfl⟩
      rw [← hq] at HB8
      have HB8 : Hid (Calls Tryd.prog 68 #[.pointer (some ⟨g, 0, none⟩)] w8 fun e w' => e = .returned (.tuple #[]) ∧ TxR w' g s A2 q ∧ w8.grownBy w' (some g)) := HB8
      have hqe : (q : Int) - 1 = (p : Int) := by omega
      have hq0 : (0 : Int) < (q : Int) := by omega
      have HQN : Hid (q ≠ 0) := by show q ≠ 0; omega
      clear hq
      go_wp2_with fail
      refine HB8.out.mono ?_
      rintro e w9 ⟨rfl, ht1, hg1⟩
      obtain ⟨c0, c1, c2, -, -⟩ := ht1.cells
      have H9 : Hid (TxR w9 g s A2 q ∧ W0.grownBy w9 (some g)) := ⟨ht1, gb_trans H8b.out.2 hg1 (fun _ h _ => h.symm)⟩
      clear HB8 ht1 hg1 H8b
      by_cases hAe : A2 < s.length
      · have hlt : (A2 : Int) < (s.length : Int) := by omega
        have HF9 : Hid (Calls Tryd.prog 70 #[.pointer (some ⟨g, 0, none⟩), .int .i64 (A2 : Int)] w9 fun e w' => e = .returned (.tuple #[]) ∧ TxR w' g s A2 q ∧ w9.grownBy w' (some g)) := by
          have := refFail_any w9 g s A2 q A2 H9.out.1 (by omega)
          unfold failB at this
          rw [if_neg HQN.out] at this
          exact this
        go_wp2_with fail
        refine HF9.out.mono ?_
        rintro e wA ⟨rfl, ht1, hg1⟩
        clear c0 c1 c2
        obtain ⟨c0, c1, c2, -, -⟩ := ht1.cells
        have HA : Hid (W0.grownBy wA (some g)) := gb_trans H9.out.2 hg1 (fun _ h _ => h.symm)
        clear HF9 ht1 hg1 H9
        go_wp2_with fail
        go_region
        go_wp2
        go_ret3
        exact ⟨_, by (rw [HPR.out]; first | done | rfl), by rw [HPR.out]; exact OwnL.nil _ _, HGN.out _ (gb_none HA.out (gb_drew _ none))⟩
      · have hlt : ¬ (A2 : Int) < (s.length : Int) := by omega
        go_wp2_with fail
        go_region
        go_wp2
        go_ret3
        exact ⟨_, by (rw [HPR.out]; first | done | rfl), by rw [HPR.out]; exact OwnL.nil _ _, HGN.out _ (gb_none H9.out.2 (gb_drew _ none))⟩
  · have ht' : tkB s k1 123 = false := by simpa using ht
    rw [if_neg ht] at HSS
    rw [ht'] at HTK
    clear ht ht'
    generalize tkK s k1 123 = A at *
    have hA : A ≤ s.length := hk2
    go_enter Tryd.func36, Tryd.ntmps36
    go_wp2_with fail
    generalize w.alloc (.cells #[.string (ByteArray.mk ⟨s⟩), .int .i64 0, .int .i64 0] 82) = W0 at *
    generalize hge : w.heap.size = g at *
    have HGE : Hid (w.heap.size = g) := hge
    clear hge
    have hgl : g < g + 1 := by omega
    refine (HBL.out _ _ HTx.out).mono ?_
    rintro e w1 ⟨rfl, ht1, hg1⟩
    obtain ⟨c0, c1, c2, -, -⟩ := ht1.cells
    have H1 : Hid (TxR w1 g s k0 0 ∧ W0.grownBy w1 (some g)) := ⟨ht1, hg1⟩
    clear HBL ht1 hg1 HTx
    go_wp2_with fail
    refine (HRU.out _ _ H1.out.1).mono ?_
    rintro e w2 ⟨rfl, ht1, hg1⟩
    have H2 := hid (⟨ht1, gb_trans H1.out.2 hg1 (fun _ h _ => h.symm)⟩ : _ ∧ W0.grownBy w2 (some g))
    clear HRU ht1 hg1 H1 c0 c1 c2
    go_wp2_with fail
    refine (HN.out _).mono ?_
    rintro e w3 ⟨rfl, hg1⟩
    have H3 := hid (⟨H2.out.1.keep hg1, gb_none H2.out.2 hg1⟩ : _ ∧ W0.grownBy w3 (some g))
    clear HN hg1 H2
    go_wp2_with (at_builtin; refine wp_appH rfl _ _ 22 56 rfl i0 _ 2 32 (g + 1) Tryd.underlying22 HI.out.1 HI.out.2.1 HI.out.2.2.1 HI.out.2.2.2 rfl (by decide) _ 0 [] (some ⟨w3.heap.size, 0, none⟩) 1 1 [.string (ByteArray.mk ⟨mnB⟩), .string sn] rfl rfl (World.ownsRow_nil _ _ _ _) rfl (box_rdc w3 _ _) (fun h => by cases h) (two_one _ _) (by omega) (by omega) (by have := H3.out.2.size; have := HWS.out; simp; omega) ?_)
    intro v5 w5 ho4 hf4
    have hg4 : w3.grownBy w5 none := gb_none (World.grownBy_alloc _ _ none) hf4.1
    have H5a : Hid (OwnL w5 (g + 1) v5 acc) := by
      show OwnL _ _ _ _
      unfold OwnL
      rw [hal, HSN.out]
      exact ho4
    have H5 := hid (⟨H3.out.1.keep hg4, gb_none H3.out.2 hg4⟩ : _ ∧ W0.grownBy w5 (some g))
    clear ho4 hf4 hg4 H3 HSN
    go_wp2_with fail
    refine (HTK.out _ _ H5.out.1).mono ?_
    rintro e w8 ⟨rfl, ht1, hg1⟩
    obtain ⟨L8, hL8⟩ : ∃ L8, L8 = acc := ⟨_, rfl⟩
    rw [← hL8] at HSS H5a
    have H8a := hid (H5a.out.kept hg1 hgl)
    have H8b : Hid (TxR w8 g s A 0 ∧ W0.grownBy w8 (some g)) := ⟨ht1, gb_trans H5.out.2 hg1 (fun _ h _ => h.symm)⟩
    clear HTK ht1 hg1 H5 H5a hL8
    have HB8 := refBlanks_any w8 g s A 0 H8b.out.1 hA hs
    have hsk := skp_le s A hA
    rw [HSS.out] at HP HIN
    clear HSS
    dsimp only at HP HIN
    generalize skp s A = A2 at *
    have HB8 : Hid (Calls Tryd.prog 68 #[.pointer (some ⟨g, 0, none⟩)] w8 fun e w' => e = .returned (.tuple #[]) ∧ TxR w' g s A2 0 ∧ w8.grownBy w' (some g)) := HB8
    go_wp2_with fail
    refine HB8.out.mono ?_
    rintro e w9 ⟨rfl, ht1, hg1⟩
    obtain ⟨c0, c1, c2, -, -⟩ := ht1.cells
    have H9 := hid (⟨H8a.out.kept hg1 hgl, ht1, gb_trans H8b.out.2 hg1 (fun _ h _ => h.symm)⟩ : _ ∧ TxR w9 g s A2 0 ∧ W0.grownBy w9 (some g))
    clear HB8 ht1 hg1 H8b H8a
    by_cases hAe : A2 < s.length
    · have hlt : (A2 : Int) < (s.length : Int) := by omega
      rw [decide_eq_false (by omega), if_pos rfl] at HP
      obtain ⟨q, hq⟩ : ∃ q, q = A2 + 1 := ⟨_, rfl⟩
      have hqe : (q : Int) - 1 = (A2 : Int) := by omega
      have hq0 : (0 : Int) < (q : Int) := by omega
      have HF9 : Hid (Calls Tryd.prog 70 #[.pointer (some ⟨g, 0, none⟩), .int .i64 (A2 : Int)] w9 fun e w' => e = .returned (.tuple #[]) ∧ TxR w' g s A2 q ∧ w9.grownBy w' (some g)) := by
        rw [hq]
        exact refFail_any w9 g s A2 0 A2 H9.out.2.1 (by omega)
      clear hq
      go_wp2_with fail
      refine HF9.out.mono ?_
      rintro e wA ⟨rfl, ht1, hg1⟩
      clear c0 c1 c2
      obtain ⟨c0, c1, c2, -, -⟩ := ht1.cells
      have HA : Hid (W0.grownBy wA (some g)) := gb_trans H9.out.2.2 hg1 (fun _ h _ => h.symm)
      clear HF9 ht1 hg1 H9
      go_wp2_with fail
      go_region
      go_wp2
      go_ret3
      exact ⟨_, by (rw [HP.out]; first | done | rfl), by rw [HP.out]; exact OwnL.nil _ _, HGN.out _ (gb_none HA.out (gb_drew _ none))⟩
    · have hlt : ¬ (A2 : Int) < (s.length : Int) := by omega
      rw [decide_eq_true (by omega), if_neg (by simp)] at HP
      have HTW := refTwice_any w9 _ L8 H9.out.1.rd
      have HG9 : Hid (W0.grownBy w9 (some g)) := H9.out.2.2
      by_cases hn : ndN L8
      · rw [dupB_nd hn] at HTW
        have HTW := hid HTW
        have HM := madeS_nd hn
        rw [HM] at HP
        have HF := hid (fun W (hW : w9.grownBy W none) => refFull_any W _ L8 (H9.out.1.rd.keep hW) HIN.out.2)
        have HS : Hid (∀ W u, RdL W u (fullL L8) → Calls Tryd.prog 50 #[u] W fun e w' => ∃ v', e = .returned v' ∧ OwnL w' W.heap.size v' (sortN (fullL L8)) ∧ W.grownBy w' none) := fun W u hu => (refSorted_any W u _ hu (by have := full_len L8; have := HIN.out.2; omega)).mono fun e w' ⟨v', P, h1, h2, h3, h4, h5⟩ => ⟨v', h1, by rw [← sort_uniq h3 h4 (full_nd hn)]; exact h2, h5⟩
        have HR : Hid (∀ W u, RdL W u (sortN (fullL L8)) → Calls Tryd.prog 11 #[u] W fun e w' => e = .returned (.tuple #[.int .i64 (rightS (sortN (fullL L8))).1, .int .i64 ((rightS (sortN (fullL L8))).2 : Int)]) ∧ W.grownBy w' none) := fun W u hu => refRight_any W u _ hu HIN.out.1.made
        clear HM hn HIN H9
        generalize sortN (fullL L8) = S at *
        generalize (rightS S).1 = r1 at *
        generalize (rightS S).2 = r2 at *
        go_wp2_with fail
        refine HTW.out.mono ?_
        rintro e wA ⟨rfl, hg1⟩
        have HA : Hid (w9.grownBy wA none) := hg1
        clear HTW hg1 c0 c1 c2
        go_wp2_with fail
        refine (HF.out _ HA.out).mono ?_
        rintro e wB ⟨vB, rfl, ho2, hg2⟩
        have HB : Hid (OwnL wB wA.heap.size vB (fullL L8) ∧ w9.grownBy wB none) := ⟨ho2, gb_none HA.out hg2⟩
        clear HF ho2 hg2
        go_wp2_with fail
        refine (HS.out _ _ HB.out.1.rd).mono ?_
        rintro e wC ⟨vC, rfl, ho3, hg3⟩
        have HCC : Hid (OwnL wC g vC S ∧ w9.grownBy wC none) := ⟨ho3.mono (by have := HB.out.2.size; have := HG9.out.size; have := HWS.out; omega), gb_none HB.out.2 hg3⟩
        clear HS ho3 hg3 HB HA
        go_wp2_with fail
        refine (HR.out _ _ HCC.out.1.rd).mono ?_
        rintro e wD ⟨rfl, hg4⟩
        have HDD : Hid (OwnL wD g vC S ∧ w9.grownBy wD none) := ⟨HCC.out.1.keep hg4, gb_none HCC.out.2 hg4⟩
        clear HR hg4 HCC
        by_cases hr : r1 = 0
        · subst hr
          rw [if_pos rfl] at HP
          go_wp2
          go_ret3
          exact ⟨_, by (rw [HP.out]; first | done | rfl), by rw [HP.out, HGE.out]; exact HDD.out.1, HGN.out _ (gb_none HG9.out HDD.out.2)⟩
        · rw [if_neg hr] at HP
          have hrb : (r1 == 0) = false := by rw [beq_eq_false_iff_ne]; exact hr
          go_wp2
          go_ret3
          exact ⟨_, by (rw [HP.out]; first | done | rfl), by rw [HP.out]; exact OwnL.nil _ _, HGN.out _ (gb_none HG9.out HDD.out.2)⟩
      · rw [dupB_dup hn] at HTW
        have HTW := hid HTW
        rw [madeS_dup hn] at HP
        clear hn
        go_wp2_with fail
        refine HTW.out.mono ?_
        rintro e wA ⟨rfl, hg1⟩
        have HA : Hid (w9.grownBy wA none) := hg1
        clear HTW hg1 c0 c1 c2
        go_wp2
        go_ret3
        exact ⟨_, by (rw [HP.out]; first | done | rfl), by rw [HP.out]; exact OwnL.nil _ _, HGN.out _ (gb_none HG9.out HA.out)⟩
end Go.Proofs.YtkcgikgihbglnaaDoor

/- LbDpc -/
namespace Go.Proofs.YtkcgikgihbglnaaDoor
open Go.RowKit

set_option maxRecDepth 8000 in
set_option maxHeartbeats 12800000 in
theorem refParse_c (w : World) (s : List UInt8) (hl : ¬ 65536 < s.length) (hmn : ¬ mtS s (skp s 0) = []) (hmb : metricB (mtS s (skp s 0)) = false) :
    Calls Tryd.prog 36 #[.string (ByteArray.mk ⟨s⟩)] w fun e w' => ∃ v, e = .returned (.tuple #[v, .int .i64 (parseS s).2.1, .int .i64 ((parseS s).2.2 : Int)]) ∧ OwnL w' w.heap.size v (parseS s).1 ∧ w.grownBy w' none := by
  have HSS : Hid (setS s 0 = ([], false, skp s 0) ∨ [(mnB, mtS s (skp s 0))] = ([] : List LbT)) := by
    refine .inl ?_
    unfold setS
    rw [if_neg hmn, if_pos hmb]
  have hz : (ByteArray.mk ⟨s⟩).size = s.length := rfl
  have hli : ¬ (65536 : Int) < (s.length : Int) := by omega
  have hs : s.length ≤ 1000000 := by omega
  have HP : Hid (parseS s = if (setS s 0).2.1 = false then ([], 3, (setS s 0).2.2) else madeS (setS s 0).1) := by
    show parseS s = _
    unfold parseS
    rw [if_neg hl]
  have hin := setS_in (Nat.zero_le s.length) (k := 0)
  have HIN : Hid (LbIn (setS s 0).1 ∧ (setS s 0).1.length ≤ 4398046511104) := ⟨.of (by omega) (fun x hx => by have := hin.2 x hx; exact ⟨by omega, by omega⟩), by omega⟩
  have hk0 := skp_le s 0 (Nat.zero_le _)
  have HTx : Hid (TxR (w.alloc (.cells #[.string (ByteArray.mk ⟨s⟩), .int .i64 0, .int .i64 0] 82)) w.heap.size s 0 0) := Go.heap_alloc_new w _
  have HGN : Hid (∀ w', (w.alloc (.cells #[.string (ByteArray.mk ⟨s⟩), .int .i64 0, .int .i64 0] 82)).grownBy w' (some w.heap.size) → w.grownBy w' none) := fun w' h => gb_newT h
  have HWS : Hid ((w.alloc (.cells #[.string (ByteArray.mk ⟨s⟩), .int .i64 0, .int .i64 0] 82)).heap.size = w.heap.size + 1) := by show (w.alloc _).heap.size = _; simp
  have HBL : Hid (∀ W g, TxR W g s 0 0 → Calls Tryd.prog 68 #[.pointer (some ⟨g, 0, none⟩)] W fun e w' => e = .returned (.tuple #[]) ∧ TxR w' g s (skp s 0) 0 ∧ W.grownBy w' (some g)) := fun W g hW => refBlanks_any W g s 0 0 hW (Nat.zero_le _) hs
  have HRU : Hid (∀ W g, TxR W g s (skp s 0) 0 → Calls Tryd.prog 69 #[.pointer (some ⟨g, 0, none⟩), .bool true] W fun e w' => e = .returned (.string (ByteArray.mk ⟨mtS s (skp s 0)⟩)) ∧ TxR w' g s (skp s 0 + (mtS s (skp s 0)).length) 0 ∧ W.grownBy w' (some g)) := fun W g hW => by
    have := refRun_any W g s (skp s 0) 0 true hW hk0 hs
    rw [rnK_len, skp_idem, runS_metric] at this
    exact this
  have hml := mtS_le s (skp s 0) hk0
  obtain ⟨i0, hi, hz0, hz1, hz2⟩ := info_parts infoLb
  have HI : Hid (Tryd.prog.info? 56 = some i0 ∧ i0.zero = some (.agg #[.string ⟨#[]⟩, .string ⟨#[]⟩]) ∧ i0.size = 2 ∧ i0.bytes = 32) := ⟨hi, hz0, hz1, hz2⟩
  clear hi hz0 hz1 hz2 hin hl
  generalize parseS s = R at *
  have HN : Hid (∀ W, Calls Tryd.prog 15 #[.string (ByteArray.mk ⟨mtS s (skp s 0)⟩)] W fun e w' => e = .returned (.bool (metricB (mtS s (skp s 0)))) ∧ W.grownBy w' none) := fun W => refMetric_any W (mtS s (skp s 0)) (by omega)
  rw [hmb] at HN
  generalize skp s 0 = k0 at *
  generalize mtS s k0 = mn at *
  obtain ⟨n, hn⟩ : ∃ n, n = mn.length := ⟨_, rfl⟩
  rw [← hn] at hml HRU
  have e0 : (ByteArray.mk ⟨mn⟩).toList.isEmpty = false := by rw [ByteArray.toList_eq]; cases mn with | nil => exact absurd rfl hmn | cons c t => rfl
  have e0' : ¬ (ByteArray.mk ⟨mn⟩).toList = [] := by rw [ByteArray.toList_eq]; exact hmn
  clear hmn hmb hn
  have HSN : Hid (lbf [(mnB, mn)] = [.string (ByteArray.mk ⟨mnB⟩), .string (ByteArray.mk ⟨mn⟩)]) := rfl
  obtain ⟨acc, hacc⟩ : ∃ acc : List LbT, acc = [(mnB, mn)] := ⟨_, rfl⟩
  have hal : acc.length = 1 := by rw [hacc]; rfl
  rw [← hacc] at HSS HSN
  clear hacc
  generalize ByteArray.mk ⟨mn⟩ = sn at *
  have HSS : Hid (setS s 0 = ([], false, k0)) := by
    rcases HSS.out with h | h
    · exact h
    · rw [h] at hal; cases hal
  have HPR : Hid (R = ([], 3, k0)) := by
    show R = _
    rw [HP.out, HSS.out, if_pos rfl]
  have hk2 := tkK_len s (k0 + n) 123 hml
  obtain ⟨b1, hb1⟩ : ∃ b1, b1 = k0 + 1 := ⟨_, rfl⟩
  have HTK : Hid (∀ W g, TxR W g s (k0 + n) b1 → Calls Tryd.prog 71 #[.pointer (some ⟨g, 0, none⟩), .int .u8 123] W fun e w' => e = .returned (.bool (tkB s (k0 + n) 123)) ∧ TxR w' g s (tkK s (k0 + n) 123) b1 ∧ W.grownBy w' (some g)) := fun W g hW => refIs_any W g s (k0 + n) b1 123 hW hml hs
  have HFF : Hid (∀ W g, TxR W g s (k0 + n) 0 → Calls Tryd.prog 70 #[.pointer (some ⟨g, 0, none⟩), .int .i64 (k0 : Int)] W fun e w' => e = .returned (.tuple #[]) ∧ TxR w' g s (k0 + n) b1 ∧ W.grownBy w' (some g)) := fun W g hW => by rw [hb1]; exact refFail_any W g s (k0 + n) 0 k0 hW (by omega)
  obtain ⟨k1, hk1e⟩ : ∃ k1, k1 = k0 + n := ⟨_, rfl⟩
  rw [← hk1e] at HTK hk2 HRU HFF
  have HB1 : Hid (b1 = k0 + 1) := hb1
  clear hk1e hml HP HIN HSS hb1
  obtain ⟨tb, htb⟩ : ∃ tb, tb = tkB s k1 123 := ⟨_, rfl⟩
  rw [← htb] at HTK
  clear htb
  generalize tkK s k1 123 = A at *
  have hA : A ≤ s.length := hk2
  obtain ⟨p, hp⟩ : ∃ p, p = k0 := ⟨_, rfl⟩
  have HB1 : Hid (b1 = p + 1) := by rw [hp]; exact HB1.out
  rw [← hp] at HPR
  have hpl : p ≤ s.length := by omega
  clear hp
  cases tb with
  | true =>
    go_enter Tryd.func36, Tryd.ntmps36
    go_wp2_with fail
    generalize w.alloc (.cells #[.string (ByteArray.mk ⟨s⟩), .int .i64 0, .int .i64 0] 82) = W0 at *
    generalize hge : w.heap.size = g at *
    have HGE : Hid (w.heap.size = g) := hge
    clear hge
    have hgl : g < g + 1 := by omega
    refine (HBL.out _ _ HTx.out).mono ?_
    rintro e w1 ⟨rfl, ht1, hg1⟩
    obtain ⟨c0, c1, c2, -, -⟩ := ht1.cells
    have H1 : Hid (TxR w1 g s k0 0 ∧ W0.grownBy w1 (some g)) := ⟨ht1, hg1⟩
    clear HBL ht1 hg1 HTx
    go_wp2_with fail
    refine (HRU.out _ _ H1.out.1).mono ?_
    rintro e w2 ⟨rfl, ht1, hg1⟩
    have H2 := hid (⟨ht1, gb_trans H1.out.2 hg1 (fun _ h _ => h.symm)⟩ : _ ∧ W0.grownBy w2 (some g))
    clear HRU ht1 hg1 H1 c0 c1 c2
    go_wp2_with fail
    refine (HN.out _).mono ?_
    rintro e w3' ⟨rfl, hg1⟩
    have H3' := hid (⟨H2.out.1.keep hg1, gb_none H2.out.2 hg1⟩ : _ ∧ W0.grownBy w3' (some g))
    clear HN hg1 H2
    go_wp2_with fail
    refine (HFF.out _ _ H3'.out.1).mono ?_
    rintro e w3 ⟨rfl, ht1, hg1⟩
    have H3 : Hid (TxR w3 g s k1 b1 ∧ W0.grownBy w3 (some g)) := ⟨ht1, gb_trans H3'.out.2 hg1 (fun _ h _ => h.symm)⟩
    clear HFF hg1 ht1 H3'
    go_wp2_with (at_builtin; refine wp_appH rfl _ _ 22 56 rfl i0 _ 2 32 (g + 1) Tryd.underlying22 HI.out.1 HI.out.2.1 HI.out.2.2.1 HI.out.2.2.2 rfl (by decide) _ 0 [] (some ⟨w3.heap.size, 0, none⟩) 1 1 [.string (ByteArray.mk ⟨mnB⟩), .string sn] rfl rfl (World.ownsRow_nil _ _ _ _) rfl (box_rdc w3 _ _) (fun h => by cases h) (two_one _ _) (by omega) (by omega) (by have := H3.out.2.size; have := HWS.out; simp; omega) ?_)
    intro v5 w5 ho4 hf4
    have hg4 : w3.grownBy w5 none := gb_none (World.grownBy_alloc _ _ none) hf4.1
    have H5a : Hid (OwnL w5 (g + 1) v5 acc) := by
      show OwnL _ _ _ _
      unfold OwnL
      rw [hal, HSN.out]
      exact ho4
    have H5 := hid (⟨H3.out.1.keep hg4, gb_none H3.out.2 hg4⟩ : _ ∧ W0.grownBy w5 (some g))
    clear ho4 hf4 hg4 H3 HSN
    go_wp2_with fail
    refine (HTK.out _ _ H5.out.1).mono ?_
    rintro e w4 ⟨rfl, ht1, hg1⟩
    have H4 := hid (⟨H5a.out.kept hg1 hgl, ht1, gb_trans H5.out.2 hg1 (fun _ h _ => h.symm)⟩ : _ ∧ TxR w4 g s A b1 ∧ W0.grownBy w4 (some g))
    clear HTK ht1 hg1 H5 H5a
    have HSE : Hid (Calls Tryd.prog 72 #[.pointer (some ⟨g, 0, none⟩)] w4 fun e w' => e = .returned (.slice none 0 0) ∧ TxR w' g s A b1 ∧ w4.grownBy w' (some g)) := refSet_bad w4 g s A b1 H4.out.2.1 (by rw [HB1.out]; omega)
    go_wp2_with fail
    refine HSE.out.mono ?_
    rintro e w7 ⟨rfl, ht1, hg7⟩
    have H7 := hid (⟨H4.out.1.kept hg7 hgl, gb_trans H4.out.2.2 hg7 (fun _ h _ => h.symm)⟩ : _ ∧ W0.grownBy w7 (some g))
    have H7t : Hid (TxR w7 g s A b1) := ht1
    have HRC : Hid (RdC w7 none (lbf ([] : List LbT))) := RdL.rdc (OwnL.nil w7 0).rd
    clear HSE ht1 hg7 H4
    go_wp2_with (at_builtin; refine wp_appH rfl _ _ 22 56 rfl i0 _ 2 32 (g + 1) Tryd.underlying22 HI.out.1 HI.out.2.1 HI.out.2.2.1 HI.out.2.2.2 rfl (by decide) _ acc.length (lbf acc) none 0 0 [] rfl rfl H7.out.1 rfl HRC.out (fun _ => ⟨rfl, rfl⟩) (fun u hu => by cases hu) (by first | omega | (simp; omega)) (by first | omega | (simp; omega)) (by have := H7.out.2.size; have := HWS.out; omega) ?_)
    intro v8 w8 ho8 hf8
    have H8b : Hid (TxR w8 g s A (p + 1) ∧ W0.grownBy w8 (some g)) := by
      have hl := H7.out.1.lt
      exact ⟨by rw [← HB1.out]; exact H7t.out.far hf8.1 (fun j hj => by have := (hl j hj).1; omega), gb_trans H7.out.2 hf8.1 (fun j hj hlt => by have := (hl j (by first | exact hj | exact hj.symm)).1; have := HWS.out; omega)⟩
    clear ho8 hf8 H7 H7t HRC
    have HB8 := refBlanks_any w8 g s A (p + 1) H8b.out.1 hA hs
    have hsk := skp_le s A hA
    generalize skp s A = A2 at *
    obtain ⟨q, hq⟩ : ∃ q, q = p + 1 := ⟨_, rfl⟩
    rw [← hq] at HB8
    have HB8 : Hid (Calls Tryd.prog 68 #[.pointer (some ⟨g, 0, none⟩)] w8 fun e w' => e = .returned (.tuple #[]) ∧ TxR w' g s A2 q ∧ w8.grownBy w' (some g)) := HB8
    have hqe : (q : Int) - 1 = (p : Int) := by omega
    have hq0 : (0 : Int) < (q : Int) := by omega
    have HQN : Hid (q ≠ 0) := by show q ≠ 0; omega
    clear hq
    go_wp2_with fail
    refine HB8.out.mono ?_
    rintro e w9 ⟨rfl, ht1, hg1⟩
    obtain ⟨c0, c1, c2, -, -⟩ := ht1.cells
    have H9 : Hid (TxR w9 g s A2 q ∧ W0.grownBy w9 (some g)) := ⟨ht1, gb_trans H8b.out.2 hg1 (fun _ h _ => h.symm)⟩
    clear HB8 ht1 hg1 H8b
    by_cases hAe : A2 < s.length
    · have hlt : (A2 : Int) < (s.length : Int) := by omega
      have HF9 : Hid (Calls Tryd.prog 70 #[.pointer (some ⟨g, 0, none⟩), .int .i64 (A2 : Int)] w9 fun e w' => e = .returned (.tuple #[]) ∧ TxR w' g s A2 q ∧ w9.grownBy w' (some g)) := by
        have := refFail_any w9 g s A2 q A2 H9.out.1 (by omega)
        unfold failB at this
        rw [if_neg HQN.out] at this
        exact this
      go_wp2_with fail
      refine HF9.out.mono ?_
      rintro e wA ⟨rfl, ht1, hg1⟩
      clear c0 c1 c2
      obtain ⟨c0, c1, c2, -, -⟩ := ht1.cells
      have HA : Hid (W0.grownBy wA (some g)) := gb_trans H9.out.2 hg1 (fun _ h _ => h.symm)
      clear HF9 ht1 hg1 H9
      go_wp2_with fail
      go_region
      go_wp2
      go_ret3
      exact ⟨_, by (rw [HPR.out]; first | done | rfl), by rw [HPR.out]; exact OwnL.nil _ _, HGN.out _ (gb_none HA.out (gb_drew _ none))⟩
    · have hlt : ¬ (A2 : Int) < (s.length : Int) := by omega
      go_wp2_with fail
      go_region
      go_wp2
      go_ret3
      exact ⟨_, by (rw [HPR.out]; first | done | rfl), by rw [HPR.out]; exact OwnL.nil _ _, HGN.out _ (gb_none H9.out.2 (gb_drew _ none))⟩
  | false =>
    go_enter Tryd.func36, Tryd.ntmps36
    go_wp2_with fail
    generalize w.alloc (.cells #[.string (ByteArray.mk ⟨s⟩), .int .i64 0, .int .i64 0] 82) = W0 at *
    generalize hge : w.heap.size = g at *
    have HGE : Hid (w.heap.size = g) := hge
    clear hge
    have hgl : g < g + 1 := by omega
    refine (HBL.out _ _ HTx.out).mono ?_
    rintro e w1 ⟨rfl, ht1, hg1⟩
    obtain ⟨c0, c1, c2, -, -⟩ := ht1.cells
    have H1 : Hid (TxR w1 g s k0 0 ∧ W0.grownBy w1 (some g)) := ⟨ht1, hg1⟩
    clear HBL ht1 hg1 HTx
    go_wp2_with fail
    refine (HRU.out _ _ H1.out.1).mono ?_
    rintro e w2 ⟨rfl, ht1, hg1⟩
    have H2 := hid (⟨ht1, gb_trans H1.out.2 hg1 (fun _ h _ => h.symm)⟩ : _ ∧ W0.grownBy w2 (some g))
    clear HRU ht1 hg1 H1 c0 c1 c2
    go_wp2_with fail
    refine (HN.out _).mono ?_
    rintro e w3' ⟨rfl, hg1⟩
    have H3' := hid (⟨H2.out.1.keep hg1, gb_none H2.out.2 hg1⟩ : _ ∧ W0.grownBy w3' (some g))
    clear HN hg1 H2
    go_wp2_with fail
    refine (HFF.out _ _ H3'.out.1).mono ?_
    rintro e w3 ⟨rfl, ht1, hg1⟩
    have H3 : Hid (TxR w3 g s k1 b1 ∧ W0.grownBy w3 (some g)) := ⟨ht1, gb_trans H3'.out.2 hg1 (fun _ h _ => h.symm)⟩
    clear HFF hg1 ht1 H3'
    go_wp2_with (at_builtin; refine wp_appH rfl _ _ 22 56 rfl i0 _ 2 32 (g + 1) Tryd.underlying22 HI.out.1 HI.out.2.1 HI.out.2.2.1 HI.out.2.2.2 rfl (by decide) _ 0 [] (some ⟨w3.heap.size, 0, none⟩) 1 1 [.string (ByteArray.mk ⟨mnB⟩), .string sn] rfl rfl (World.ownsRow_nil _ _ _ _) rfl (box_rdc w3 _ _) (fun h => by cases h) (two_one _ _) (by omega) (by omega) (by have := H3.out.2.size; have := HWS.out; simp; omega) ?_)
    intro v5 w5 ho4 hf4
    have hg4 : w3.grownBy w5 none := gb_none (World.grownBy_alloc _ _ none) hf4.1
    have H5a : Hid (OwnL w5 (g + 1) v5 acc) := by
      show OwnL _ _ _ _
      unfold OwnL
      rw [hal, HSN.out]
      exact ho4
    have H5 := hid (⟨H3.out.1.keep hg4, gb_none H3.out.2 hg4⟩ : _ ∧ W0.grownBy w5 (some g))
    clear ho4 hf4 hg4 H3 HSN
    go_wp2_with fail
    refine (HTK.out _ _ H5.out.1).mono ?_
    rintro e w8 ⟨rfl, ht1, hg1⟩
    have H8b : Hid (TxR w8 g s A (p + 1) ∧ W0.grownBy w8 (some g)) := ⟨by rw [← HB1.out]; exact ht1, gb_trans H5.out.2 hg1 (fun _ h _ => h.symm)⟩
    clear HTK ht1 hg1 H5 H5a
    have HB8 := refBlanks_any w8 g s A (p + 1) H8b.out.1 hA hs
    have hsk := skp_le s A hA
    generalize skp s A = A2 at *
    obtain ⟨q, hq⟩ : ∃ q, q = p + 1 := ⟨_, rfl⟩
    rw [← hq] at HB8
    have HB8 : Hid (Calls Tryd.prog 68 #[.pointer (some ⟨g, 0, none⟩)] w8 fun e w' => e = .returned (.tuple #[]) ∧ TxR w' g s A2 q ∧ w8.grownBy w' (some g)) := HB8
    have hqe : (q : Int) - 1 = (p : Int) := by omega
    have hq0 : (0 : Int) < (q : Int) := by omega
    have HQN : Hid (q ≠ 0) := by show q ≠ 0; omega
    clear hq
    go_wp2_with fail
    refine HB8.out.mono ?_
    rintro e w9 ⟨rfl, ht1, hg1⟩
    obtain ⟨c0, c1, c2, -, -⟩ := ht1.cells
    have H9 : Hid (TxR w9 g s A2 q ∧ W0.grownBy w9 (some g)) := ⟨ht1, gb_trans H8b.out.2 hg1 (fun _ h _ => h.symm)⟩
    clear HB8 ht1 hg1 H8b
    by_cases hAe : A2 < s.length
    · have hlt : (A2 : Int) < (s.length : Int) := by omega
      have HF9 : Hid (Calls Tryd.prog 70 #[.pointer (some ⟨g, 0, none⟩), .int .i64 (A2 : Int)] w9 fun e w' => e = .returned (.tuple #[]) ∧ TxR w' g s A2 q ∧ w9.grownBy w' (some g)) := by
        have := refFail_any w9 g s A2 q A2 H9.out.1 (by omega)
        unfold failB at this
        rw [if_neg HQN.out] at this
        exact this
      go_wp2_with fail
      refine HF9.out.mono ?_
      rintro e wA ⟨rfl, ht1, hg1⟩
      clear c0 c1 c2
      obtain ⟨c0, c1, c2, -, -⟩ := ht1.cells
      have HA : Hid (W0.grownBy wA (some g)) := gb_trans H9.out.2 hg1 (fun _ h _ => h.symm)
      clear HF9 ht1 hg1 H9
      go_wp2_with fail
      go_region
      go_wp2
      go_ret3
      exact ⟨_, by (rw [HPR.out]; first | done | rfl), by rw [HPR.out]; exact OwnL.nil _ _, HGN.out _ (gb_none HA.out (gb_drew _ none))⟩
    · have hlt : ¬ (A2 : Int) < (s.length : Int) := by omega
      go_wp2_with fail
      go_region
      go_wp2
      go_ret3
      exact ⟨_, by (rw [HPR.out]; first | done | rfl), by rw [HPR.out]; exact OwnL.nil _ _, HGN.out _ (gb_none H9.out.2 (gb_drew _ none))⟩
end Go.Proofs.YtkcgikgihbglnaaDoor

/- LbDp -/
namespace Go.Proofs.YtkcgikgihbglnaaDoor
open Go.RowKit

set_option maxRecDepth 8000 in
set_option maxHeartbeats 3200000 in
theorem refParse_any (w : World) (s : List UInt8) :
    Calls Tryd.prog 36 #[.string (ByteArray.mk ⟨s⟩)] w fun e w' => ∃ v, e = .returned (.tuple #[v, .int .i64 (parseS s).2.1, .int .i64 ((parseS s).2.2 : Int)]) ∧ OwnL w' w.heap.size v (parseS s).1 ∧ w.grownBy w' none := by
  by_cases hl : 65536 < s.length
  · have hz : (ByteArray.mk ⟨s⟩).size = s.length := rfl
    have hli : (65536 : Int) < (s.length : Int) := by omega
    have hR : parseS s = ([], 4, 0) := by
      unfold parseS
      rw [if_pos hl]
    rw [hR]
    dsimp only
    generalize s.length = n at *
    generalize ByteArray.mk ⟨s⟩ = st at *
    clear hR
    go_enter Tryd.func36, Tryd.ntmps36
    go_wp2
    go_ret3
    exact ⟨_, rfl, OwnL.nil _ _, gb_refl _ _⟩
  · by_cases hmn : mtS s (skp s 0) = []
    · exact refParse_a w s hl hmn
    · cases hmb : metricB (mtS s (skp s 0)) with
      | true => exact refParse_b w s hl hmn hmb
      | false => exact refParse_c w s hl hmn hmb
end Go.Proofs.YtkcgikgihbglnaaDoor
