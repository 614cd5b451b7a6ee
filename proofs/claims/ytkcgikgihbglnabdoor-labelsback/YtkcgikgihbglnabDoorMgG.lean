/-
  LbVa, LbVb, LbLa, LbLb, in one text.
-/
import Derived.Test.YtkcgikgihbglnabDoorLbV
import Derived.Test.YtkcgikgihbglnabDoorMgA
import Derived.Test.YtkcgikgihbglnabDoorMgC
import Derived.Test.YtkcgikgihbglnabDoorLbA4
/- LbVa -/
namespace Go.Proofs.YtkcgikgihbglnabDoor
open Go.RowKit

/-- what an escaped sign stands for, whether it is one, and where it is read up to -/
def escS (s : List UInt8) (k : Nat) : UInt8 × Bool × Nat :=
  if k + 1 = s.length then (0, false, k + 1)
  else if s.getD (k + 1) 0 = 92 ∨ s.getD (k + 1) 0 = 34 then (s.getD (k + 1) 0, true, k)
  else if s.getD (k + 1) 0 = 110 then (10, true, k) else (0, false, k)
/-- a value from a place on -/
def valS : Nat → List UInt8 → Nat → List UInt8 → List UInt8 × Bool × Nat
  | 0, _, k, _ => ([], false, k)
  | f + 1, s, k, acc => if ¬ k < s.length then ([], false, k) else if s.getD k 0 = 34 then (acc, true, k + 1)
    else if s.getD k 0 = 92 then (if (escS s k).2.1 = true then valS f s (k + 2) (acc ++ [(escS s k).1]) else ([], false, (escS s k).2.2))
    else valS f s (k + 1) (acc ++ [s.getD k 0])

set_option maxRecDepth 8000 in
set_option maxHeartbeats 3200000 in
theorem escaped_any (w : World) (g : Nat) (s : List UInt8) (k : Nat) (h : Tx w g s k) (hk : k < s.length) (hs : s.length ≤ 1000000) :
    Calls Tryd.prog 87 #[.pointer (some ⟨g, 0, none⟩)] w fun e w' => e = .returned (.tuple #[.int .u8 ((escS s k).1.toNat : Int), .bool (escS s k).2.1]) ∧ Tx w' g s (escS s k).2.2 ∧ w.grownBy w' (some g) := by
  have H0 : Hid (Tx w g s k) := h
  obtain ⟨c0, c1, f1⟩ := h.cells
  have hz : (ByteArray.mk ⟨s⟩).size = s.length := rfl
  have HS : Hid (escS s k = if k + 1 = s.length then (0, false, k + 1) else if s.getD (k + 1) 0 = 92 ∨ s.getD (k + 1) 0 = 34 then (s.getD (k + 1) 0, true, k) else if s.getD (k + 1) 0 = 110 then (10, true, k) else (0, false, k)) := rfl
  generalize escS s k = R at *
  obtain ⟨K1, hK⟩ : ∃ K1 : Nat, K1 = k + 1 := ⟨_, rfl⟩
  have hKi : (k : Int) + 1 = (K1 : Int) := by omega
  rw [← hK] at HS
  have HK : Hid (K1 = k + 1) := hK
  clear h hK
  by_cases he : K1 = s.length
  · rw [if_pos he] at HS
    have hR := HS.out
    subst hR
    dsimp only
    have e0 : ((K1 : Int) == (s.length : Int)) = true := by rw [beq_iff_eq]; omega
    have e0' : (K1 : Int) = (s.length : Int) := by omega
    clear he
    go_enter Tryd.func87, Tryd.ntmps87
    go_wp2_with fail
    go_region
    go_wp2
    go_ret2
    have T1 := H0.out.put K1 (s.length : Int) (by omega)
    exact ⟨rfl, by first | exact T1.1 | exact T1.1.keep (gb_drew _ none), by first | exact T1.2 | exact gb_none T1.2 (gb_drew _ none)⟩
  · rw [if_neg he] at HS
    have hlt : K1 < s.length := by have := HK.out; omega
    have hbn := byte_at hlt
    have e0 : ((K1 : Int) == (s.length : Int)) = false := by rw [beq_eq_false_iff_ne]; omega
    have e0' : ¬ (K1 : Int) = (s.length : Int) := by omega
    have hli : (K1 : Int) < (s.length : Int) := by omega
    clear he
    generalize s.getD K1 0 = x at *
    by_cases x1 : x = 92
    · subst x1
      rw [if_pos (.inl rfl)] at HS
      have hR := HS.out
      subst hR
      dsimp only
      go_enter Tryd.func87, Tryd.ntmps87
      go_wp2_with fail
      go_region
      go_wp2_with fail
      go_region
      go_wp2
      go_ret2
      exact ⟨rfl, H0.out.keep (gb_none (gb_drew _ none) (gb_drew _ none)), gb_any (gb_none (gb_drew _ none) (gb_drew _ none)) _⟩
    · have y1 : x.toNat ≠ 92 := fun h => x1 (UInt8.toNat_inj.1 h)
      have e1 : ((x.toNat : Int) == 92) = false := by rw [beq_eq_false_iff_ne]; omega
      have e1' : ¬ (x.toNat : Int) = 92 := by omega
      by_cases x2 : x = 34
      · subst x2
        clear e1 e1' y1
        rw [if_pos (.inr rfl)] at HS
        have hR := HS.out
        subst hR
        dsimp only
        go_enter Tryd.func87, Tryd.ntmps87
        go_wp2_with fail
        go_region
        go_wp2_with fail
        go_region
        go_wp2
        go_ret2
        exact ⟨rfl, H0.out.keep (gb_none (gb_drew _ none) (gb_drew _ none)), gb_any (gb_none (gb_drew _ none) (gb_drew _ none)) _⟩
      · have y2 : x.toNat ≠ 34 := fun h => x2 (UInt8.toNat_inj.1 h)
        have e2 : ((x.toNat : Int) == 34) = false := by rw [beq_eq_false_iff_ne]; omega
        have e2' : ¬ (x.toNat : Int) = 34 := by omega
        rw [if_neg (by rintro (h | h); exact x1 h; exact x2 h)] at HS
        by_cases x3 : x = 110
        · subst x3
          clear e1 e1' y1 e2 e2' y2
          rw [if_pos rfl] at HS
          have hR := HS.out
          subst hR
          dsimp only
          go_enter Tryd.func87, Tryd.ntmps87
          go_wp2_with fail
          go_region
          go_wp2_with fail
          go_region
          go_wp2
          go_ret2
          exact ⟨rfl, H0.out.keep (gb_none (gb_drew _ none) (gb_drew _ none)), gb_any (gb_none (gb_drew _ none) (gb_drew _ none)) _⟩
        · have y3 : x.toNat ≠ 110 := fun h => x3 (UInt8.toNat_inj.1 h)
          have e3 : ((x.toNat : Int) == 110) = false := by rw [beq_eq_false_iff_ne]; omega
          have e3' : ¬ (x.toNat : Int) = 110 := by omega
          rw [if_neg x3] at HS
          clear y1 y2 y3 x1 x2 x3
          have hR := HS.out
          subst hR
          dsimp only
          go_enter Tryd.func87, Tryd.ntmps87
          go_wp2_with fail
          go_region
          go_wp2_with fail
          go_region
          go_wp2
          go_ret2
          exact ⟨rfl, H0.out.keep (gb_none (gb_drew _ none) (gb_drew _ none)), gb_any (gb_none (gb_drew _ none) (gb_drew _ none)) _⟩
end Go.Proofs.YtkcgikgihbglnabDoor

/- LbVb -/
namespace Go.Proofs.YtkcgikgihbglnabDoor
open Go.RowKit

theorem escS_ok {s : List UInt8} {k : Nat} (hk : k < s.length) (h : (escS s k).2.1 = true) : (escS s k).2.2 = k ∧ k + 1 < s.length := by
  unfold escS at *
  by_cases h1 : k + 1 = s.length
  · rw [if_pos h1] at h; cases h
  · rw [if_neg h1] at h ⊢
    refine ⟨?_, by omega⟩
    split
    · rfl
    · split <;> rfl
theorem valS_step (f : Nat) (s : List UInt8) (k : Nat) (acc : List UInt8) : valS (f + 1) s k acc = if ¬ k < s.length then ([], false, k) else if s.getD k 0 = 34 then (acc, true, k + 1) else if s.getD k 0 = 92 then (if (escS s k).2.1 = true then valS f s (k + 2) (acc ++ [(escS s k).1]) else ([], false, (escS s k).2.2)) else valS f s (k + 1) (acc ++ [s.getD k 0]) := by rw [valS]

set_option maxRecDepth 8000 in
set_option maxHeartbeats 6400000 in
theorem value_any (w : World) (g : Nat) (s : List UInt8) (k : Nat) (h : Tx w g s k) (hk : k ≤ s.length) (hs : s.length ≤ 1000000) :
    Calls Tryd.prog 75 #[.pointer (some ⟨g, 0, none⟩)] w fun e w' => e = .returned (.tuple #[.string (ByteArray.mk ⟨(valS (s.length + 1) s k []).1⟩), .bool (valS (s.length + 1) s k []).2.1]) ∧ Tx w' g s (valS (s.length + 1) s k []).2.2 ∧ w.grownBy w' (some g) := by
  have H0 : Hid (Tx w g s k) := h
  have hz : (ByteArray.mk ⟨s⟩).size = s.length := rfl
  obtain ⟨R, hR⟩ : ∃ R, R = valS (s.length + 1) s k [] := ⟨_, rfl⟩
  rw [← hR]
  have HR : Hid (R = valS (s.length + 1) s k []) := hR
  clear h hR
  go_enter Tryd.func75, Tryd.ntmps75
  go_wp2
  have hgl : g < w.heap.size := (Array.getElem?_eq_some_iff.1 H0.out).1
  have HB0 : Hid (Bld (w.alloc (.cells #[.pointer none, .slice none 0 0] 75)) w.heap.size w.heap.size [] ∧ Tx (w.alloc (.cells #[.pointer none, .slice none 0 0] 75)) g s k ∧ w.grownBy (w.alloc (.cells #[.pointer none, .slice none 0 0] 75)) (some g)) :=
    ⟨Lib.fresh_isBuilder 75 5 w, H0.out.keep (World.grownBy_alloc _ _ none), World.grownBy_alloc _ _ _⟩
  generalize w.alloc (.cells #[.pointer none, .slice none 0 0] 75) = W0 at *
  go_loopw [5] (fun _ wr => ∃ K : Nat, K ≤ s.length ∧ Hid (∃ f acc, s.length < K + f ∧ acc.length ≤ K ∧ R = valS f s K acc ∧ Tx wr g s K ∧ Bld wr w.heap.size w.heap.size acc ∧ w.grownBy wr (some g))) (fun _ wr => s.length - atW wr g)
  case atStart => exact ⟨k, hk, s.length + 1, [], by omega, by simp, HR.out, HB0.out.2.1, HB0.out.1, HB0.out.2.2⟩
  case round =>
    obtain ⟨K, hK, hr⟩ := hrel
    obtain ⟨f, acc, hf, hacc, hRv, hTx, hBl, hgr⟩ := hr.out
    obtain ⟨f', rfl⟩ : ∃ f', f = f' + 1 := ⟨f - 1, by omega⟩
    rw [valS_step] at hRv
    have HRV : Hid (R = if ¬ K < s.length then ([], false, K) else if s.getD K 0 = 34 then (acc, true, K + 1) else if s.getD K 0 = 92 then (if (escS s K).2.1 = true then valS f' s (K + 2) (acc ++ [(escS s K).1]) else ([], false, (escS s K).2.2)) else valS f' s (K + 1) (acc ++ [s.getD K 0])) := hRv
    have HX : Hid (Tx wr g s K ∧ Bld wr w.heap.size w.heap.size acc ∧ w.grownBy wr (some g) ∧ atW wr g = K) := ⟨hTx, hBl, hgr, hTx.at⟩
    obtain ⟨c0, c1, f1⟩ := hTx.cells
    clear hr hRv hTx hBl hgr
    by_cases hkl : K < s.length
    · rw [if_neg (by simpa using hkl)] at HRV
      have hbn := byte_at hkl
      have hki : (K : Int) < (s.length : Int) := by omega
      have HES : Hid (∀ W, Tx W g s K → Calls Tryd.prog 87 #[.pointer (some ⟨g, 0, none⟩)] W fun e w' => e = .returned (.tuple #[.int .u8 ((escS s K).1.toNat : Int), .bool (escS s K).2.1]) ∧ Tx w' g s (escS s K).2.2 ∧ W.grownBy w' (some g)) := fun W h => escaped_any W g s K h hkl hs
      have HEO := @escS_ok s K hkl
      generalize s.getD K 0 = x at *
      have HD : Hid (Bld wr.drew.drew w.heap.size w.heap.size acc ∧ Tx wr.drew.drew g s K ∧ w.grownBy wr.drew.drew (some g)) := by
        have hd : wr.grownBy wr.drew.drew none := gb_none (gb_drew _ none) (gb_drew _ none)
        exact ⟨HX.out.2.1.kept (gb_any hd (some g)) hgl, HX.out.1.keep hd, gb_none HX.out.2.2.1 hd⟩
      by_cases x1 : x = 34
      · subst x1
        rw [if_pos rfl] at HRV
        have HDD : Hid (Bld (wr.setCell ⟨g, 1, none⟩ (.int .i64 ((K : Int) + 1))).drew.drew w.heap.size w.heap.size acc ∧ Tx (wr.setCell ⟨g, 1, none⟩ (.int .i64 ((K : Int) + 1))).drew.drew g s (K + 1) ∧ w.grownBy (wr.setCell ⟨g, 1, none⟩ (.int .i64 ((K : Int) + 1))).drew.drew (some g)) := by
          have hp1 := HX.out.1.put (K + 1) ((K : Int) + 1) (by omega)
          have hd : (wr.setCell ⟨g, 1, none⟩ (.int .i64 ((K : Int) + 1))).grownBy (wr.setCell ⟨g, 1, none⟩ (.int .i64 ((K : Int) + 1))).drew.drew none := gb_none (gb_drew _ none) (gb_drew _ none)
          exact ⟨(HX.out.2.1.kept hp1.2 hgl).kept (gb_any hd (some g)) hgl, hp1.1.keep hd, gb_none (gb_trans HX.out.2.2.1 hp1.2 (fun _ h _ => h.symm)) hd⟩
        clear HD HES HEO
        go_wp2_with fail
        go_region
        go_wp2_with fail
        go_region
        go_wp2_with fail
        clear HX c0 c1 f1
        generalize (wr.setCell ⟨g, 1, none⟩ (.int .i64 ((K : Int) + 1))).drew.drew = wd at *
        refine (bString wd _ _ _ HDD.out.1 HDD.out.2.2.size).mono ?_
        rintro e w1 ⟨rfl, hl1⟩
        have H1 : Hid (Tx w1 g s (K + 1) ∧ w.grownBy w1 (some g)) := ⟨(hl1.block g hgl).trans HDD.out.2.1, gb_lower HDD.out.2.2 hl1⟩
        clear hl1 HDD
        go_wp2
        go_ret2
        exact ⟨by rw [HRV.out]; rfl, by rw [HRV.out]; exact H1.out.1, H1.out.2⟩
      · have y1 : x.toNat ≠ 34 := fun h => x1 (UInt8.toNat_inj.1 h)
        have e1 : ((x.toNat : Int) == 34) = false := by rw [beq_eq_false_iff_ne]; omega
        have e1' : ¬ (x.toNat : Int) = 34 := by omega
        rw [if_neg x1] at HRV
        by_cases x2 : x = 92
        · subst x2
          clear e1 e1' y1 x1
          rw [if_pos rfl] at HRV
          generalize escS s K = ES at *
          obtain ⟨ec, eo, ek⟩ := ES
          dsimp only at *
          cases eo with
          | true =>
            obtain ⟨hek, hk2⟩ := HEO rfl
            subst hek
            rw [if_pos rfl] at HRV
            clear HEO
            go_wp2_with fail
            go_region
            go_wp2_with fail
            go_region
            go_wp2_with fail
            clear c0 c1 f1
            generalize wr.drew.drew = wd at *
            refine (HES.out wd HD.out.2.1).mono ?_
            rintro e w4 ⟨rfl, ht4, hg4⟩
            have H4 : Hid (Tx w4 g s ek ∧ Bld w4 w.heap.size w.heap.size acc ∧ w.grownBy w4 (some g)) := ⟨ht4, HD.out.1.kept hg4 hgl, gb_trans HD.out.2.2 hg4 (fun _ h _ => h.symm)⟩
            obtain ⟨d0, d1, d2⟩ := ht4.cells
            clear ht4 hg4 HD HES
            have H5 : Hid (Tx (w4.setCell ⟨g, 1, none⟩ (.int .i64 ((ek : Int) + 1))) g s (ek + 1) ∧ Bld (w4.setCell ⟨g, 1, none⟩ (.int .i64 ((ek : Int) + 1))) w.heap.size w.heap.size acc ∧ w.grownBy (w4.setCell ⟨g, 1, none⟩ (.int .i64 ((ek : Int) + 1))) (some g)) := by
              have hp1 := H4.out.1.put (ek + 1) ((ek : Int) + 1) (by omega)
              exact ⟨hp1.1, H4.out.2.1.kept hp1.2 hgl, gb_trans H4.out.2.2 hp1.2 (fun _ h _ => h.symm)⟩
            go_wp2_with fail
            clear d0 d1 d2 H4
            generalize w4.setCell ⟨g, 1, none⟩ (.int .i64 ((ek : Int) + 1)) = w5 at *
            refine (bWriteByte w5 _ _ _ ec H5.out.2.1 (by omega) H5.out.2.2.size).mono ?_
            rintro e w6 ⟨rfl, hb6, hl6⟩
            have H6 : Hid (Bld w6 w.heap.size w.heap.size (acc ++ [ec]) ∧ Tx w6 g s (ek + 1) ∧ w.grownBy w6 (some g)) := ⟨hb6, (hl6.block g hgl).trans H5.out.1, gb_lower H5.out.2.2 hl6⟩
            obtain ⟨d0, d1, d2⟩ := H6.out.2.1.cells
            clear hb6 hl6 H5
            have hpc : (((ek + 1 : Nat) : Int)) = (ek : Int) + 1 := by omega
            go_wp2
            go_roundw
            case rel =>
              have hp1 := H6.out.2.1.put (ek + 2) ((ek : Int) + 1 + 1) (by omega)
              refine ⟨ek + 2, by omega, f', acc ++ [ec], by omega, by simp; omega, HRV.out, ?_, ?_, ?_⟩
              · first | exact hp1.1 | simpa using hp1.1
              · exact H6.out.1.kept hp1.2 hgl
              · exact gb_trans H6.out.2.2 hp1.2 (fun _ h _ => h.symm)
            case measure =>
              have hp1 := (H6.out.2.1.put (ek + 2) ((ek : Int) + 1 + 1) (by omega)).1.at
              have := HX.out.2.2.2
              rw [hp1, this]
              omega
          | false =>
            rw [if_neg (by simp)] at HRV
            clear HEO
            go_wp2_with fail
            go_region
            go_wp2_with fail
            go_region
            go_wp2_with fail
            clear c0 c1 f1
            generalize wr.drew.drew = wd at *
            refine (HES.out wd HD.out.2.1).mono ?_
            rintro e w4 ⟨rfl, ht4, hg4⟩
            have H4 : Hid (Tx w4 g s ek ∧ w.grownBy w4 (some g)) := ⟨ht4, gb_trans HD.out.2.2 hg4 (fun _ h _ => h.symm)⟩
            clear ht4 hg4 HD HES
            go_wp2
            go_ret2
            exact ⟨by rw [HRV.out]; rfl, by rw [HRV.out]; exact H4.out.1, H4.out.2⟩
        · have y2 : x.toNat ≠ 92 := fun h => x2 (UInt8.toNat_inj.1 h)
          have e2 : ((x.toNat : Int) == 92) = false := by rw [beq_eq_false_iff_ne]; omega
          have e2' : ¬ (x.toNat : Int) = 92 := by omega
          rw [if_neg x2] at HRV
          clear y1 y2 x1 x2 HES HEO
          go_wp2_with fail
          go_region
          go_wp2_with fail
          go_region
          go_wp2_with fail
          clear c0 c1 f1
          generalize wr.drew.drew = wd at *
          refine (bWriteByte wd _ _ _ x HD.out.1 (by omega) HD.out.2.2.size).mono ?_
          rintro e w1 ⟨rfl, hb1, hl1⟩
          have H1 : Hid (Bld w1 w.heap.size w.heap.size (acc ++ [x]) ∧ Tx w1 g s K ∧ w.grownBy w1 (some g)) := ⟨hb1, (hl1.block g hgl).trans HD.out.2.1, gb_lower HD.out.2.2 hl1⟩
          obtain ⟨d0, d1, d2⟩ := H1.out.2.1.cells
          clear hb1 hl1 HD
          go_wp2
          go_roundw
          case rel =>
            have hp1 := H1.out.2.1.put (K + 1) ((K : Int) + 1) (by omega)
            exact ⟨K + 1, by omega, f', acc ++ [x], by omega, by simp; omega, HRV.out, hp1.1, H1.out.1.kept hp1.2 hgl, gb_trans H1.out.2.2 hp1.2 (fun _ h _ => h.symm)⟩
          case measure =>
            have hp1 := (H1.out.2.1.put (K + 1) ((K : Int) + 1) (by omega)).1.at
            have := HX.out.2.2.2
            rw [hp1, this]
            omega
    · rw [if_pos hkl] at HRV
      have hki : ¬ (K : Int) < (s.length : Int) := by omega
      go_wp2_with fail
      go_region
      go_wp2
      go_ret2
      have hd : wr.grownBy wr.drew none := gb_drew _ none
      exact ⟨by rw [HRV.out]; rfl, by rw [HRV.out]; exact HX.out.1.keep hd, gb_none HX.out.2.2.1 hd⟩
end Go.Proofs.YtkcgikgihbglnabDoor

/- LbLa -/
namespace Go.Proofs.YtkcgikgihbglnabDoor
open Go.RowKit

theorem tkK_le (s : List UInt8) (k : Nat) (c : UInt8) (hk : k ≤ s.length) : tkK s k c ≤ s.length := by
  have := skp_le s k hk
  unfold tkK
  by_cases h : tkB s k c = true
  · rw [if_pos h]
    unfold tkB at h
    simp at h
    omega
  · rw [if_neg h]; exact this
def nmS (s : List UInt8) (k : Nat) : List UInt8 := (s.drop k).take (span pinName (s.drop k))
/-- a label from a place on: its name, its value, whether it is one, where it is read up to -/
def labS (s : List UInt8) (k : Nat) : List UInt8 × List UInt8 × Bool × Nat :=
  if nameB (nmS s k) = false then ([], [], false, k)
  else if tkB s (k + (nmS s k).length) 61 = false then ([], [], false, tkK s (k + (nmS s k).length) 61)
  else if tkB s (tkK s (k + (nmS s k).length) 61) 34 = false then ([], [], false, tkK s (tkK s (k + (nmS s k).length) 61) 34)
  else (nmS s k, (valS (s.length + 1) s (tkK s (tkK s (k + (nmS s k).length) 61) 34) []).1, (valS (s.length + 1) s (tkK s (tkK s (k + (nmS s k).length) 61) 34) []).2.1, (valS (s.length + 1) s (tkK s (tkK s (k + (nmS s k).length) 61) 34) []).2.2)

set_option maxRecDepth 8000 in
set_option maxHeartbeats 6400000 in
theorem label_any (w : World) (g : Nat) (s : List UInt8) (k : Nat) (h : Tx w g s k) (hk : k ≤ s.length) (hs : s.length ≤ 1000000) :
    Calls Tryd.prog 65 #[.pointer (some ⟨g, 0, none⟩)] w fun e w' => e = .returned (.tuple #[.agg #[.string (ByteArray.mk ⟨(labS s k).1⟩), .string (ByteArray.mk ⟨(labS s k).2.1⟩)], .bool (labS s k).2.2.1]) ∧ Tx w' g s (labS s k).2.2.2 ∧ w.grownBy w' (some g) := by
  have hnl : (nmS s k).length ≤ s.length - k := by
    unfold nmS
    rw [List.length_take, List.length_drop]
    omega
  have HL : Hid (labS s k = if nameB (nmS s k) = false then ([], [], false, k) else if tkB s (k + (nmS s k).length) 61 = false then ([], [], false, tkK s (k + (nmS s k).length) 61) else if tkB s (tkK s (k + (nmS s k).length) 61) 34 = false then ([], [], false, tkK s (tkK s (k + (nmS s k).length) 61) 34) else (nmS s k, (valS (s.length + 1) s (tkK s (tkK s (k + (nmS s k).length) 61) 34) []).1, (valS (s.length + 1) s (tkK s (tkK s (k + (nmS s k).length) 61) 34) []).2.1, (valS (s.length + 1) s (tkK s (tkK s (k + (nmS s k).length) 61) 34) []).2.2)) := rfl
  have HW : Hid (∀ W, Tx W g s k → Calls Tryd.prog 46 #[.pointer (some ⟨g, 0, none⟩), .func (.func 56) #[] #[]] W fun e w' => e = .returned (.string (ByteArray.mk ⟨nmS s k⟩)) ∧ Hid (Tx w' g s k ∧ W.grownBy w' (some g))) := fun W hW =>
    (word_inName W g s k hW hk (by omega)).mono fun e w' ⟨e1, e2⟩ => ⟨e1, hW.keep e2, gb_any e2 _⟩
  have HN : Hid (∀ W, Tx W g s k → Calls Tryd.prog 28 #[.string (ByteArray.mk ⟨nmS s k⟩)] W fun e w' => e = .returned (.bool (nameB (nmS s k))) ∧ w'.cell? ⟨g, 1, none⟩ = some (.int .i64 (k : Int)) ∧ w'.frozen? ⟨g, 1, none⟩ = false ∧ Hid (Tx w' g s k ∧ W.grownBy w' (some g))) := fun W hW =>
    (name_any W (nmS s k) (by omega)).mono fun e w' ⟨e1, e2⟩ => ⟨e1, (hW.keep e2).cells.2.1, (hW.keep e2).cells.2.2, hW.keep e2, gb_any e2 _⟩
  generalize nmS s k = nm at *
  obtain ⟨n, hn⟩ : ∃ n, n = nm.length := ⟨_, rfl⟩
  rw [← hn] at hnl HL
  have hkn : k + n ≤ s.length := by omega
  have hk1 := tkK_le s (k + n) 61 hkn
  have hk2 := tkK_le s (tkK s (k + n) 61) 34 hk1
  have HT1 : Hid (∀ W, Tx W g s (k + n) → Calls Tryd.prog 47 #[.pointer (some ⟨g, 0, none⟩), .int .u8 61] W fun e w' => e = .returned (.bool (tkB s (k + n) 61)) ∧ Hid (Tx w' g s (tkK s (k + n) 61) ∧ W.grownBy w' (some g))) := fun W hW =>
    (take_any W g s (k + n) 61 hW hkn (by omega)).mono fun e w' ⟨e1, e2, e3⟩ => ⟨e1, e2, e3⟩
  generalize tkB s (k + n) 61 = t1 at *
  generalize tkK s (k + n) 61 = k1 at *
  have HT2 : Hid (∀ W, Tx W g s k1 → Calls Tryd.prog 47 #[.pointer (some ⟨g, 0, none⟩), .int .u8 34] W fun e w' => e = .returned (.bool (tkB s k1 34)) ∧ Hid (Tx w' g s (tkK s k1 34) ∧ W.grownBy w' (some g))) := fun W hW =>
    (take_any W g s k1 34 hW hk1 (by omega)).mono fun e w' ⟨e1, e2, e3⟩ => ⟨e1, e2, e3⟩
  generalize tkB s k1 34 = t2 at *
  generalize tkK s k1 34 = k2 at *
  have HV : Hid (∀ W, Tx W g s k2 → Calls Tryd.prog 75 #[.pointer (some ⟨g, 0, none⟩)] W fun e w' => e = .returned (.tuple #[.string (ByteArray.mk ⟨(valS (s.length + 1) s k2 []).1⟩), .bool (valS (s.length + 1) s k2 []).2.1]) ∧ Hid (Tx w' g s (valS (s.length + 1) s k2 []).2.2 ∧ W.grownBy w' (some g))) := fun W hW =>
    (value_any W g s k2 hW hk2 hs).mono fun e w' ⟨e1, e2, e3⟩ => ⟨e1, e2, e3⟩
  generalize valS (s.length + 1) s k2 [] = V at *
  obtain ⟨vl, vo, k3⟩ := V
  dsimp only at *
  have hz : (ByteArray.mk ⟨nm⟩).size = n := hn.symm
  have hkb : k + n ≤ 1000000 := by omega
  have H0 : Hid (Tx w g s k) := h
  have hgl : g < w.heap.size := (Array.getElem?_eq_some_iff.1 h).1
  clear h hn hnl hkn hk hk1 hk2 hs
  generalize labS s k = R at *
  cases hnb : nameB nm with
  | false =>
    rw [if_pos hnb] at HL
    have hR := HL.out
    subst hR
    dsimp only
    rw [hnb] at HN
    clear hnb
    generalize ByteArray.mk ⟨nm⟩ = sn at *
    go_enter Tryd.func65, Tryd.ntmps65
    go_wp2_with fail
    have HB : Hid (Tx (w.alloc (.cells #[.string ⟨#[]⟩, .string ⟨#[]⟩] 42)) g s k ∧ (w.alloc (.cells #[.string ⟨#[]⟩, .string ⟨#[]⟩] 42)).heap[w.heap.size]? = some (.cells #[.string ⟨#[]⟩, .string ⟨#[]⟩] 42 (0, 0)) ∧ w.grownBy (w.alloc (.cells #[.string ⟨#[]⟩, .string ⟨#[]⟩] 42)) (some g)) :=
      ⟨H0.out.keep (World.grownBy_alloc _ _ none), Go.heap_alloc_new w _, World.grownBy_alloc _ _ _⟩
    generalize w.alloc (.cells #[.string ⟨#[]⟩, .string ⟨#[]⟩] 42) = W0 at *
    have hb0 : g ≠ w.heap.size := by omega
    generalize hbe : w.heap.size = b0 at *
    refine (HW.out _ HB.out.1).mono ?_
    rintro e w1 ⟨rfl, H1⟩
    clear HW
    go_wp2_with fail
    refine (HN.out _ H1.out.1).mono ?_
    rintro e w6 ⟨rfl, c1, f1, H2⟩
    have H6 : Hid (Tx w6 g s k ∧ W0.grownBy w6 (some g)) := ⟨H2.out.1, gb_trans H1.out.2 H2.out.2 (fun _ h _ => h.symm)⟩
    clear HN H1 H2 c1 f1
    have hbl : w6.heap[b0]? = some (.cells #[.string ⟨#[]⟩, .string ⟨#[]⟩] 42 (0, 0)) :=
      (H6.out.2.block b0 (Array.getElem?_eq_some_iff.1 HB.out.2.1).1 (by simp; omega)).trans HB.out.2.1
    have q0 : w6.cell? ⟨b0, 0, none⟩ = some (.string ⟨#[]⟩) := by rw [World.cell?, hbl]; rfl
    have q1 : w6.cell? ⟨b0, 1, none⟩ = some (.string ⟨#[]⟩) := by rw [World.cell?, hbl]; rfl
    have q2 : w6.frozen? ⟨b0, 0, none⟩ = false := by rw [World.frozen?, hbl]; rfl
    have q3 : w6.frozen? ⟨b0, 1, none⟩ = false := by rw [World.frozen?, hbl]; rfl
    go_wp2
    have hs1 := heap_setCell_same w6 b0 0 _ _ (.string ⟨#[]⟩) hbl
    have hs2 := heap_setCell_same _ b0 1 _ _ (.string ⟨#[]⟩) hs1
    have HE : Hid (Tx ((w6.setCell ⟨b0, 0, none⟩ (.string ⟨#[]⟩)).setCell ⟨b0, 1, none⟩ (.string ⟨#[]⟩)) g s k ∧ w.grownBy ((w6.setCell ⟨b0, 0, none⟩ (.string ⟨#[]⟩)).setCell ⟨b0, 1, none⟩ (.string ⟨#[]⟩)) (some g)) := by
      have hk : ∀ j, j ≠ b0 → ((w6.setCell ⟨b0, 0, none⟩ (.string ⟨#[]⟩)).setCell ⟨b0, 1, none⟩ (.string ⟨#[]⟩)).heap[j]? = w6.heap[j]? := fun j hj => (Below.heap_setCell _ _ _ _ hj).trans (Below.heap_setCell _ _ _ _ hj)
      have hw : w.grownBy w6 (some g) := gb_trans HB.out.2.2 H6.out.2 (fun _ h _ => h.symm)
      refine ⟨(hk g hb0).trans H6.out.1, ⟨hw.os, hw.tape, hw.output, ?_, fun j hj hne => (hk j (by omega)).trans (hw.block j hj hne)⟩⟩
      have := hw.size
      simpa using this
    have d0 : ((w6.setCell ⟨b0, 0, none⟩ (.string ⟨#[]⟩)).setCell ⟨b0, 1, none⟩ (.string ⟨#[]⟩)).cell? ⟨b0, 0, none⟩ = some (.string ⟨#[]⟩) := by rw [World.cell?, hs2]; rfl
    have d1 : ((w6.setCell ⟨b0, 0, none⟩ (.string ⟨#[]⟩)).setCell ⟨b0, 1, none⟩ (.string ⟨#[]⟩)).cell? ⟨b0, 1, none⟩ = some (.string ⟨#[]⟩) := by rw [World.cell?, hs2]; rfl
    clear hs1 hs2 hbl q0 q1 q2 q3
    generalize (w6.setCell ⟨b0, 0, none⟩ (.string ⟨#[]⟩)).setCell ⟨b0, 1, none⟩ (.string ⟨#[]⟩) = W1 at *
    refine bodyPost_ret (v := .tuple #[.agg #[.string ⟨#[]⟩, .string ⟨#[]⟩], .bool false]) ?_ rfl ?_
    · simp [results, Tryd.f65, go_sem, d0, d1]
    · exact ⟨rfl, HE.out⟩
  | true =>
    rw [if_neg (by rw [hnb]; simp)] at HL
    rw [hnb] at HN
    clear hnb
    cases t1 with
    | false =>
      rw [if_pos rfl] at HL
      have hR := HL.out
      subst hR
      dsimp only
      generalize ByteArray.mk ⟨nm⟩ = sn at *
      go_enter Tryd.func65, Tryd.ntmps65
      go_wp2_with fail
      have HB : Hid (Tx (w.alloc (.cells #[.string ⟨#[]⟩, .string ⟨#[]⟩] 42)) g s k ∧ (w.alloc (.cells #[.string ⟨#[]⟩, .string ⟨#[]⟩] 42)).heap[w.heap.size]? = some (.cells #[.string ⟨#[]⟩, .string ⟨#[]⟩] 42 (0, 0)) ∧ w.grownBy (w.alloc (.cells #[.string ⟨#[]⟩, .string ⟨#[]⟩] 42)) (some g)) :=
        ⟨H0.out.keep (World.grownBy_alloc _ _ none), Go.heap_alloc_new w _, World.grownBy_alloc _ _ _⟩
      generalize w.alloc (.cells #[.string ⟨#[]⟩, .string ⟨#[]⟩] 42) = W0 at *
      have hb0 : g ≠ w.heap.size := by omega
      generalize hbe : w.heap.size = b0 at *
      refine (HW.out _ HB.out.1).mono ?_
      rintro e w1 ⟨rfl, H1⟩
      clear HW
      go_wp2_with fail
      refine (HN.out _ H1.out.1).mono ?_
      rintro e w2 ⟨rfl, c1, f1, H2⟩
      clear HN
      go_wp2_with fail
      have HP := H2.out.1.put (k + n) ((k : Int) + (n : Int)) (by omega)
      have HQ : Hid (Tx (w2.setCell ⟨g, 1, none⟩ (.int .i64 ((k : Int) + (n : Int)))) g s (k + n) ∧ W0.grownBy (w2.setCell ⟨g, 1, none⟩ (.int .i64 ((k : Int) + (n : Int)))) (some g)) :=
        ⟨HP.1, gb_trans (gb_trans H1.out.2 H2.out.2 (fun _ h _ => h.symm)) HP.2 (fun _ h _ => h.symm)⟩
      clear HP H1 H2 c1 f1
      generalize w2.setCell ⟨g, 1, none⟩ (.int .i64 ((k : Int) + (n : Int))) = w3 at *
      refine (HT1.out _ HQ.out.1).mono ?_
      rintro e w6 ⟨rfl, H4⟩
      have H6 : Hid (Tx w6 g s k1 ∧ W0.grownBy w6 (some g)) := ⟨H4.out.1, gb_trans HQ.out.2 H4.out.2 (fun _ h _ => h.symm)⟩
      clear HT1 HQ H4
      have hbl : w6.heap[b0]? = some (.cells #[.string ⟨#[]⟩, .string ⟨#[]⟩] 42 (0, 0)) :=
        (H6.out.2.block b0 (Array.getElem?_eq_some_iff.1 HB.out.2.1).1 (by simp; omega)).trans HB.out.2.1
      have q0 : w6.cell? ⟨b0, 0, none⟩ = some (.string ⟨#[]⟩) := by rw [World.cell?, hbl]; rfl
      have q1 : w6.cell? ⟨b0, 1, none⟩ = some (.string ⟨#[]⟩) := by rw [World.cell?, hbl]; rfl
      have q2 : w6.frozen? ⟨b0, 0, none⟩ = false := by rw [World.frozen?, hbl]; rfl
      have q3 : w6.frozen? ⟨b0, 1, none⟩ = false := by rw [World.frozen?, hbl]; rfl
      go_wp2
      have hs1 := heap_setCell_same w6 b0 0 _ _ (.string ⟨#[]⟩) hbl
      have hs2 := heap_setCell_same _ b0 1 _ _ (.string ⟨#[]⟩) hs1
      have HE : Hid (Tx ((w6.setCell ⟨b0, 0, none⟩ (.string ⟨#[]⟩)).setCell ⟨b0, 1, none⟩ (.string ⟨#[]⟩)) g s k1 ∧ w.grownBy ((w6.setCell ⟨b0, 0, none⟩ (.string ⟨#[]⟩)).setCell ⟨b0, 1, none⟩ (.string ⟨#[]⟩)) (some g)) := by
        have hk : ∀ j, j ≠ b0 → ((w6.setCell ⟨b0, 0, none⟩ (.string ⟨#[]⟩)).setCell ⟨b0, 1, none⟩ (.string ⟨#[]⟩)).heap[j]? = w6.heap[j]? := fun j hj => (Below.heap_setCell _ _ _ _ hj).trans (Below.heap_setCell _ _ _ _ hj)
        have hw : w.grownBy w6 (some g) := gb_trans HB.out.2.2 H6.out.2 (fun _ h _ => h.symm)
        refine ⟨(hk g hb0).trans H6.out.1, ⟨hw.os, hw.tape, hw.output, ?_, fun j hj hne => (hk j (by omega)).trans (hw.block j hj hne)⟩⟩
        have := hw.size
        simpa using this
      have d0 : ((w6.setCell ⟨b0, 0, none⟩ (.string ⟨#[]⟩)).setCell ⟨b0, 1, none⟩ (.string ⟨#[]⟩)).cell? ⟨b0, 0, none⟩ = some (.string ⟨#[]⟩) := by rw [World.cell?, hs2]; rfl
      have d1 : ((w6.setCell ⟨b0, 0, none⟩ (.string ⟨#[]⟩)).setCell ⟨b0, 1, none⟩ (.string ⟨#[]⟩)).cell? ⟨b0, 1, none⟩ = some (.string ⟨#[]⟩) := by rw [World.cell?, hs2]; rfl
      clear hs1 hs2 hbl q0 q1 q2 q3
      generalize (w6.setCell ⟨b0, 0, none⟩ (.string ⟨#[]⟩)).setCell ⟨b0, 1, none⟩ (.string ⟨#[]⟩) = W1 at *
      refine bodyPost_ret (v := .tuple #[.agg #[.string ⟨#[]⟩, .string ⟨#[]⟩], .bool false]) ?_ rfl ?_
      · simp [results, Tryd.f65, go_sem, d0, d1]
      · exact ⟨rfl, HE.out⟩
    | true =>
      rw [if_neg (by simp)] at HL
      cases t2 with
      | false =>
        rw [if_pos rfl] at HL
        have hR := HL.out
        subst hR
        dsimp only
        generalize ByteArray.mk ⟨nm⟩ = sn at *
        go_enter Tryd.func65, Tryd.ntmps65
        go_wp2_with fail
        have HB : Hid (Tx (w.alloc (.cells #[.string ⟨#[]⟩, .string ⟨#[]⟩] 42)) g s k ∧ (w.alloc (.cells #[.string ⟨#[]⟩, .string ⟨#[]⟩] 42)).heap[w.heap.size]? = some (.cells #[.string ⟨#[]⟩, .string ⟨#[]⟩] 42 (0, 0)) ∧ w.grownBy (w.alloc (.cells #[.string ⟨#[]⟩, .string ⟨#[]⟩] 42)) (some g)) :=
          ⟨H0.out.keep (World.grownBy_alloc _ _ none), Go.heap_alloc_new w _, World.grownBy_alloc _ _ _⟩
        generalize w.alloc (.cells #[.string ⟨#[]⟩, .string ⟨#[]⟩] 42) = W0 at *
        have hb0 : g ≠ w.heap.size := by omega
        generalize hbe : w.heap.size = b0 at *
        refine (HW.out _ HB.out.1).mono ?_
        rintro e w1 ⟨rfl, H1⟩
        clear HW
        go_wp2_with fail
        refine (HN.out _ H1.out.1).mono ?_
        rintro e w2 ⟨rfl, c1, f1, H2⟩
        clear HN
        go_wp2_with fail
        have HP := H2.out.1.put (k + n) ((k : Int) + (n : Int)) (by omega)
        have HQ : Hid (Tx (w2.setCell ⟨g, 1, none⟩ (.int .i64 ((k : Int) + (n : Int)))) g s (k + n) ∧ W0.grownBy (w2.setCell ⟨g, 1, none⟩ (.int .i64 ((k : Int) + (n : Int)))) (some g)) :=
          ⟨HP.1, gb_trans (gb_trans H1.out.2 H2.out.2 (fun _ h _ => h.symm)) HP.2 (fun _ h _ => h.symm)⟩
        clear HP H1 H2 c1 f1
        generalize w2.setCell ⟨g, 1, none⟩ (.int .i64 ((k : Int) + (n : Int))) = w3 at *
        refine (HT1.out _ HQ.out.1).mono ?_
        rintro e w4 ⟨rfl, H4⟩
        clear HT1
        go_wp2_with fail
        refine (HT2.out _ H4.out.1).mono ?_
        rintro e w6 ⟨rfl, H5⟩
        have H6 : Hid (Tx w6 g s k2 ∧ W0.grownBy w6 (some g)) := ⟨H5.out.1, gb_trans (gb_trans HQ.out.2 H4.out.2 (fun _ h _ => h.symm)) H5.out.2 (fun _ h _ => h.symm)⟩
        clear HT2 HQ H4 H5
        have hbl : w6.heap[b0]? = some (.cells #[.string ⟨#[]⟩, .string ⟨#[]⟩] 42 (0, 0)) :=
          (H6.out.2.block b0 (Array.getElem?_eq_some_iff.1 HB.out.2.1).1 (by simp; omega)).trans HB.out.2.1
        have q0 : w6.cell? ⟨b0, 0, none⟩ = some (.string ⟨#[]⟩) := by rw [World.cell?, hbl]; rfl
        have q1 : w6.cell? ⟨b0, 1, none⟩ = some (.string ⟨#[]⟩) := by rw [World.cell?, hbl]; rfl
        have q2 : w6.frozen? ⟨b0, 0, none⟩ = false := by rw [World.frozen?, hbl]; rfl
        have q3 : w6.frozen? ⟨b0, 1, none⟩ = false := by rw [World.frozen?, hbl]; rfl
        go_wp2
        have hs1 := heap_setCell_same w6 b0 0 _ _ (.string ⟨#[]⟩) hbl
        have hs2 := heap_setCell_same _ b0 1 _ _ (.string ⟨#[]⟩) hs1
        have HE : Hid (Tx ((w6.setCell ⟨b0, 0, none⟩ (.string ⟨#[]⟩)).setCell ⟨b0, 1, none⟩ (.string ⟨#[]⟩)) g s k2 ∧ w.grownBy ((w6.setCell ⟨b0, 0, none⟩ (.string ⟨#[]⟩)).setCell ⟨b0, 1, none⟩ (.string ⟨#[]⟩)) (some g)) := by
          have hk : ∀ j, j ≠ b0 → ((w6.setCell ⟨b0, 0, none⟩ (.string ⟨#[]⟩)).setCell ⟨b0, 1, none⟩ (.string ⟨#[]⟩)).heap[j]? = w6.heap[j]? := fun j hj => (Below.heap_setCell _ _ _ _ hj).trans (Below.heap_setCell _ _ _ _ hj)
          have hw : w.grownBy w6 (some g) := gb_trans HB.out.2.2 H6.out.2 (fun _ h _ => h.symm)
          refine ⟨(hk g hb0).trans H6.out.1, ⟨hw.os, hw.tape, hw.output, ?_, fun j hj hne => (hk j (by omega)).trans (hw.block j hj hne)⟩⟩
          have := hw.size
          simpa using this
        have d0 : ((w6.setCell ⟨b0, 0, none⟩ (.string ⟨#[]⟩)).setCell ⟨b0, 1, none⟩ (.string ⟨#[]⟩)).cell? ⟨b0, 0, none⟩ = some (.string ⟨#[]⟩) := by rw [World.cell?, hs2]; rfl
        have d1 : ((w6.setCell ⟨b0, 0, none⟩ (.string ⟨#[]⟩)).setCell ⟨b0, 1, none⟩ (.string ⟨#[]⟩)).cell? ⟨b0, 1, none⟩ = some (.string ⟨#[]⟩) := by rw [World.cell?, hs2]; rfl
        clear hs1 hs2 hbl q0 q1 q2 q3
        generalize (w6.setCell ⟨b0, 0, none⟩ (.string ⟨#[]⟩)).setCell ⟨b0, 1, none⟩ (.string ⟨#[]⟩) = W1 at *
        refine bodyPost_ret (v := .tuple #[.agg #[.string ⟨#[]⟩, .string ⟨#[]⟩], .bool false]) ?_ rfl ?_
        · simp [results, Tryd.f65, go_sem, d0, d1]
        · exact ⟨rfl, HE.out⟩
      | true =>
        rw [if_neg (by simp)] at HL
        have hR := HL.out
        subst hR
        dsimp only
        generalize ByteArray.mk ⟨nm⟩ = sn at *
        generalize ByteArray.mk ⟨vl⟩ = sv at *
        go_enter Tryd.func65, Tryd.ntmps65
        go_wp2_with fail
        have HB : Hid (Tx (w.alloc (.cells #[.string ⟨#[]⟩, .string ⟨#[]⟩] 42)) g s k ∧ (w.alloc (.cells #[.string ⟨#[]⟩, .string ⟨#[]⟩] 42)).heap[w.heap.size]? = some (.cells #[.string ⟨#[]⟩, .string ⟨#[]⟩] 42 (0, 0)) ∧ w.grownBy (w.alloc (.cells #[.string ⟨#[]⟩, .string ⟨#[]⟩] 42)) (some g)) :=
          ⟨H0.out.keep (World.grownBy_alloc _ _ none), Go.heap_alloc_new w _, World.grownBy_alloc _ _ _⟩
        generalize w.alloc (.cells #[.string ⟨#[]⟩, .string ⟨#[]⟩] 42) = W0 at *
        have hb0 : g ≠ w.heap.size := by omega
        generalize hbe : w.heap.size = b0 at *
        refine (HW.out _ HB.out.1).mono ?_
        rintro e w1 ⟨rfl, H1⟩
        clear HW
        go_wp2_with fail
        refine (HN.out _ H1.out.1).mono ?_
        rintro e w2 ⟨rfl, c1, f1, H2⟩
        clear HN
        go_wp2_with fail
        have HP := H2.out.1.put (k + n) ((k : Int) + (n : Int)) (by omega)
        have HQ : Hid (Tx (w2.setCell ⟨g, 1, none⟩ (.int .i64 ((k : Int) + (n : Int)))) g s (k + n) ∧ W0.grownBy (w2.setCell ⟨g, 1, none⟩ (.int .i64 ((k : Int) + (n : Int)))) (some g)) :=
          ⟨HP.1, gb_trans (gb_trans H1.out.2 H2.out.2 (fun _ h _ => h.symm)) HP.2 (fun _ h _ => h.symm)⟩
        clear HP H1 H2 c1 f1
        generalize w2.setCell ⟨g, 1, none⟩ (.int .i64 ((k : Int) + (n : Int))) = w3 at *
        refine (HT1.out _ HQ.out.1).mono ?_
        rintro e w4 ⟨rfl, H4⟩
        clear HT1
        go_wp2_with fail
        refine (HT2.out _ H4.out.1).mono ?_
        rintro e w5 ⟨rfl, H5⟩
        clear HT2
        go_wp2_with fail
        refine (HV.out _ H5.out.1).mono ?_
        rintro e w6 ⟨rfl, H7⟩
        have H6 : Hid (Tx w6 g s k3 ∧ W0.grownBy w6 (some g)) := ⟨H7.out.1, gb_trans (gb_trans (gb_trans HQ.out.2 H4.out.2 (fun _ h _ => h.symm)) H5.out.2 (fun _ h _ => h.symm)) H7.out.2 (fun _ h _ => h.symm)⟩
        clear HV HQ H4 H5 H7
        have hbl : w6.heap[b0]? = some (.cells #[.string ⟨#[]⟩, .string ⟨#[]⟩] 42 (0, 0)) :=
          (H6.out.2.block b0 (Array.getElem?_eq_some_iff.1 HB.out.2.1).1 (by simp; omega)).trans HB.out.2.1
        have q0 : w6.cell? ⟨b0, 0, none⟩ = some (.string ⟨#[]⟩) := by rw [World.cell?, hbl]; rfl
        have q1 : w6.cell? ⟨b0, 1, none⟩ = some (.string ⟨#[]⟩) := by rw [World.cell?, hbl]; rfl
        have q2 : w6.frozen? ⟨b0, 0, none⟩ = false := by rw [World.frozen?, hbl]; rfl
        have q3 : w6.frozen? ⟨b0, 1, none⟩ = false := by rw [World.frozen?, hbl]; rfl
        go_wp2
        have hs1 := heap_setCell_same w6 b0 0 _ _ (.string sn) hbl
        have hs2 := heap_setCell_same _ b0 1 _ _ (.string sv) hs1
        have HE : Hid (Tx ((w6.setCell ⟨b0, 0, none⟩ (.string sn)).setCell ⟨b0, 1, none⟩ (.string sv)) g s k3 ∧ w.grownBy ((w6.setCell ⟨b0, 0, none⟩ (.string sn)).setCell ⟨b0, 1, none⟩ (.string sv)) (some g)) := by
          have hk : ∀ j, j ≠ b0 → ((w6.setCell ⟨b0, 0, none⟩ (.string sn)).setCell ⟨b0, 1, none⟩ (.string sv)).heap[j]? = w6.heap[j]? := fun j hj => (Below.heap_setCell _ _ _ _ hj).trans (Below.heap_setCell _ _ _ _ hj)
          have hw : w.grownBy w6 (some g) := gb_trans HB.out.2.2 H6.out.2 (fun _ h _ => h.symm)
          refine ⟨(hk g hb0).trans H6.out.1, ⟨hw.os, hw.tape, hw.output, ?_, fun j hj hne => (hk j (by omega)).trans (hw.block j hj hne)⟩⟩
          have := hw.size
          simpa using this
        have d0 : ((w6.setCell ⟨b0, 0, none⟩ (.string sn)).setCell ⟨b0, 1, none⟩ (.string sv)).cell? ⟨b0, 0, none⟩ = some (.string sn) := by rw [World.cell?, hs2]; rfl
        have d1 : ((w6.setCell ⟨b0, 0, none⟩ (.string sn)).setCell ⟨b0, 1, none⟩ (.string sv)).cell? ⟨b0, 1, none⟩ = some (.string sv) := by rw [World.cell?, hs2]; rfl
        clear hs1 hs2 hbl q0 q1 q2 q3
        generalize (w6.setCell ⟨b0, 0, none⟩ (.string sn)).setCell ⟨b0, 1, none⟩ (.string sv) = W1 at *
        refine bodyPost_ret (v := .tuple #[.agg #[.string sn, .string sv], .bool vo]) ?_ rfl ?_
        · simp [results, Tryd.f65, go_sem, d0, d1]
        · exact ⟨rfl, HE.out⟩
end Go.Proofs.YtkcgikgihbglnabDoor

/- LbLb -/
namespace Go.Proofs.YtkcgikgihbglnabDoor
open Go.RowKit

theorem escS_bd {s : List UInt8} {k : Nat} (hk : k < s.length) : k ≤ (escS s k).2.2 ∧ (escS s k).2.2 ≤ s.length := by
  unfold escS
  split
  · simp; omega
  · split
    · simp; omega
    · split
      · simp; omega
      · simp; omega
theorem valS_bd (s : List UInt8) : ∀ f k acc, k ≤ s.length → k ≤ (valS f s k acc).2.2 ∧ (valS f s k acc).2.2 ≤ s.length
  | 0, k, acc, hk => by rw [valS]; exact ⟨Nat.le_refl _, hk⟩
  | f + 1, k, acc, hk => by
    rw [valS]
    by_cases h1 : k < s.length
    · rw [if_neg (by simpa using h1)]
      by_cases h2 : s.getD k 0 = 34
      · rw [if_pos h2]; simp; omega
      · rw [if_neg h2]
        by_cases h3 : s.getD k 0 = 92
        · rw [if_pos h3]
          by_cases h4 : (escS s k).2.1 = true
          · rw [if_pos h4]
            have h5 := (escS_ok h1 h4).2
            have := valS_bd s f (k + 2) (acc ++ [(escS s k).1]) (by omega)
            omega
          · rw [if_neg h4]
            exact escS_bd h1
        · rw [if_neg h3]
          have := valS_bd s f (k + 1) (acc ++ [s.getD k 0]) (by omega)
          omega
    · rw [if_pos h1]; exact ⟨Nat.le_refl _, hk⟩
theorem tkK_ge (s : List UInt8) (k : Nat) (c : UInt8) : k ≤ tkK s k c := by
  unfold tkK skp
  split <;> omega
theorem tkK_gt {s : List UInt8} {k : Nat} {c : UInt8} (h : tkB s k c = true) : k < tkK s k c := by
  unfold tkK
  rw [if_pos h]
  unfold skp
  omega
theorem nmS_le (s : List UInt8) (k : Nat) (hk : k ≤ s.length) : k + (nmS s k).length ≤ s.length := by
  unfold nmS
  rw [List.length_take, List.length_drop]
  omega
theorem labS_bd {s : List UInt8} {k : Nat} (hk : k ≤ s.length) : k ≤ (labS s k).2.2.2 ∧ (labS s k).2.2.2 ≤ s.length ∧ ((labS s k).2.2.1 = true → k < (labS s k).2.2.2) := by
  have h0 := nmS_le s k hk
  have h1 := tkK_le s (k + (nmS s k).length) 61 h0
  have h2 := tkK_ge s (k + (nmS s k).length) 61
  have h3 := tkK_le s (tkK s (k + (nmS s k).length) 61) 34 h1
  have h4 := tkK_ge s (tkK s (k + (nmS s k).length) 61) 34
  have h5 := valS_bd s (s.length + 1) (tkK s (tkK s (k + (nmS s k).length) 61) 34) [] h3
  unfold labS
  by_cases a1 : nameB (nmS s k) = false
  · rw [if_pos a1]; simp; omega
  · rw [if_neg a1]
    by_cases a2 : tkB s (k + (nmS s k).length) 61 = false
    · rw [if_pos a2]; simp; omega
    · rw [if_neg a2]
      have a2' : tkB s (k + (nmS s k).length) 61 = true := by simpa using a2
      have h6 := tkK_gt a2'
      by_cases a3 : tkB s (tkK s (k + (nmS s k).length) 61) 34 = false
      · rw [if_pos a3]; simp; omega
      · rw [if_neg a3]; exact ⟨by show k ≤ (valS _ _ _ _).2.2; omega, by show (valS _ _ _ _).2.2 ≤ _; omega, fun _ => by show k < (valS _ _ _ _).2.2; omega⟩
/-- labels from a place on, behind those that are read -/
def labsS : Nat → List UInt8 → Nat → List LbT → List LbT × Bool × Nat
  | 0, _, k, _ => ([], false, k)
  | f + 1, s, k, acc =>
    if tkB s k 125 = true then (acc, true, tkK s k 125)
    else if (labS s (tkK s k 125)).2.2.1 = false then ([], false, (labS s (tkK s k 125)).2.2.2)
    else if tkB s (labS s (tkK s k 125)).2.2.2 44 = false then (acc ++ [((labS s (tkK s k 125)).1, (labS s (tkK s k 125)).2.1)], tkB s (tkK s (labS s (tkK s k 125)).2.2.2 44) 125, tkK s (tkK s (labS s (tkK s k 125)).2.2.2 44) 125)
    else labsS f s (tkK s (labS s (tkK s k 125)).2.2.2 44) (acc ++ [((labS s (tkK s k 125)).1, (labS s (tkK s k 125)).2.1)])
theorem labsS_step (f : Nat) (s : List UInt8) (k : Nat) (acc : List LbT) : labsS (f + 1) s k acc = if tkB s k 125 = true then (acc, true, tkK s k 125)
    else if (labS s (tkK s k 125)).2.2.1 = false then ([], false, (labS s (tkK s k 125)).2.2.2)
    else if tkB s (labS s (tkK s k 125)).2.2.2 44 = false then (acc ++ [((labS s (tkK s k 125)).1, (labS s (tkK s k 125)).2.1)], tkB s (tkK s (labS s (tkK s k 125)).2.2.2 44) 125, tkK s (tkK s (labS s (tkK s k 125)).2.2.2 44) 125)
    else labsS f s (tkK s (labS s (tkK s k 125)).2.2.2 44) (acc ++ [((labS s (tkK s k 125)).1, (labS s (tkK s k 125)).2.1)]) := by rw [labsS]
theorem Tx.far {w w' : World} {g : Nat} {s : List UInt8} {k : Nat} {o : Option Nat} (h : Tx w g s k) (hg : w.grownBy w' o) (ho : ∀ j, o = some j → j ≠ g) : Tx w' g s k :=
  (hg.block g (Array.getElem?_eq_some_iff.1 h).1 (by intro e; exact ho g (by first | exact e | exact e.symm) rfl)).trans h

set_option maxRecDepth 8000 in
set_option maxHeartbeats 6400000 in
theorem labels_any (w : World) (g : Nat) (s : List UInt8) (k : Nat) (h : Tx w g s k) (hk : k ≤ s.length) (hs : s.length ≤ 1000000) :
    Calls Tryd.prog 48 #[.pointer (some ⟨g, 0, none⟩)] w fun e w' => ∃ v, e = .returned (.tuple #[v, .bool (labsS (s.length + 1) s k []).2.1]) ∧ OwnL w' w.heap.size v (labsS (s.length + 1) s k []).1 ∧ Tx w' g s (labsS (s.length + 1) s k []).2.2 ∧ w.grownBy w' (some g) := by
  have H0 : Hid (Tx w g s k) := h
  have hgl : g < w.heap.size := (Array.getElem?_eq_some_iff.1 h).1
  obtain ⟨R, hR⟩ : ∃ R, R = labsS (s.length + 1) s k [] := ⟨_, rfl⟩
  rw [← hR]
  have HR : Hid (R = labsS (s.length + 1) s k []) := hR
  have HT : Hid (∀ W K (c : UInt8), Tx W g s K → K ≤ s.length → Calls Tryd.prog 47 #[.pointer (some ⟨g, 0, none⟩), .int .u8 (c.toNat : Int)] W fun e w' => e = .returned (.bool (tkB s K c)) ∧ Hid (Tx w' g s (tkK s K c) ∧ W.grownBy w' (some g))) := fun W K c hW hK => (take_any W g s K c hW hK (by omega)).mono fun e w' ⟨e1, e2, e3⟩ => ⟨e1, e2, e3⟩
  have HLA : Hid (∀ W K, Tx W g s K → K ≤ s.length → Calls Tryd.prog 65 #[.pointer (some ⟨g, 0, none⟩)] W fun e w' => e = .returned (.tuple #[.agg #[.string (ByteArray.mk ⟨(labS s K).1⟩), .string (ByteArray.mk ⟨(labS s K).2.1⟩)], .bool (labS s K).2.2.1]) ∧ Hid (Tx w' g s (labS s K).2.2.2 ∧ W.grownBy w' (some g))) := fun W K hW hK => (label_any W g s K hW hK hs).mono fun e w' ⟨e1, e2, e3⟩ => ⟨e1, e2, e3⟩
  obtain ⟨i0, hi, hz0, hz1, hz2⟩ := info_parts infoLb
  have HI : Hid (Tryd.prog.info? 42 = some i0 ∧ i0.zero = some (.agg #[.string ⟨#[]⟩, .string ⟨#[]⟩]) ∧ i0.size = 2 ∧ i0.bytes = 32) := ⟨hi, hz0, hz1, hz2⟩
  clear h hR hi hz0 hz1 hz2
  go_enter Tryd.func48, Tryd.ntmps48
  go_wp2
  go_loopw [4] (fun v wr => Hid (∃ K f acc, K ≤ s.length ∧ s.length < K + f ∧ acc.length ≤ K ∧ R = labsS f s K acc ∧ OwnL wr w.heap.size v acc ∧ Tx wr g s K ∧ w.grownBy wr (some g))) (fun _ wr => s.length - atW wr g)
  case atStart => exact ⟨k, s.length + 1, [], hk, by omega, by simp, HR.out, OwnL.nil _ _, H0.out, gb_refl _ _⟩
  case round =>
    obtain ⟨K, f, acc, hK, hf, hacc, hRv, hOw, hTx, hgr⟩ := hrel.out
    obtain ⟨f', rfl⟩ : ∃ f', f = f' + 1 := ⟨f - 1, by omega⟩
    rw [labsS_step] at hRv
    have hb0 := tkK_le s K 125 hK
    have hb1 := tkK_ge s K 125
    obtain ⟨hb2, hb3, hb4⟩ := labS_bd hb0
    have hb5 := tkK_le s (labS s (tkK s K 125)).2.2.2 44 hb3
    have hb6 := tkK_ge s (labS s (tkK s K 125)).2.2.2 44
    have HTA : Hid (∀ W, Tx W g s K → Calls Tryd.prog 47 #[.pointer (some ⟨g, 0, none⟩), .int .u8 125] W fun e w' => e = .returned (.bool (tkB s K 125)) ∧ Hid (Tx w' g s (tkK s K 125) ∧ W.grownBy w' (some g))) := fun W hW => HT.out W K 125 hW hK
    have HLB : Hid (∀ W, Tx W g s (tkK s K 125) → Calls Tryd.prog 65 #[.pointer (some ⟨g, 0, none⟩)] W fun e w' => e = .returned (.tuple #[.agg #[.string (ByteArray.mk ⟨(labS s (tkK s K 125)).1⟩), .string (ByteArray.mk ⟨(labS s (tkK s K 125)).2.1⟩)], .bool (labS s (tkK s K 125)).2.2.1]) ∧ Hid (Tx w' g s (labS s (tkK s K 125)).2.2.2 ∧ W.grownBy w' (some g))) := fun W hW => HLA.out W _ hW hb0
    have HTB : Hid (∀ W, Tx W g s (labS s (tkK s K 125)).2.2.2 → Calls Tryd.prog 47 #[.pointer (some ⟨g, 0, none⟩), .int .u8 44] W fun e w' => e = .returned (.bool (tkB s (labS s (tkK s K 125)).2.2.2 44)) ∧ Hid (Tx w' g s (tkK s (labS s (tkK s K 125)).2.2.2 44) ∧ W.grownBy w' (some g))) := fun W hW => HT.out W _ 44 hW hb3
    have HTC : Hid (∀ W, Tx W g s (tkK s (labS s (tkK s K 125)).2.2.2 44) → Calls Tryd.prog 47 #[.pointer (some ⟨g, 0, none⟩), .int .u8 125] W fun e w' => e = .returned (.bool (tkB s (tkK s (labS s (tkK s K 125)).2.2.2 44) 125)) ∧ Hid (Tx w' g s (tkK s (tkK s (labS s (tkK s K 125)).2.2.2 44) 125) ∧ W.grownBy w' (some g))) := fun W hW => HT.out W _ 125 hW hb5
    have HRV : Hid (R = if tkB s K 125 = true then (acc, true, tkK s K 125) else if (labS s (tkK s K 125)).2.2.1 = false then ([], false, (labS s (tkK s K 125)).2.2.2) else if tkB s (labS s (tkK s K 125)).2.2.2 44 = false then (acc ++ [((labS s (tkK s K 125)).1, (labS s (tkK s K 125)).2.1)], tkB s (tkK s (labS s (tkK s K 125)).2.2.2 44) 125, tkK s (tkK s (labS s (tkK s K 125)).2.2.2 44) 125) else labsS f' s (tkK s (labS s (tkK s K 125)).2.2.2 44) (acc ++ [((labS s (tkK s K 125)).1, (labS s (tkK s K 125)).2.1)])) := hRv
    have HX : Hid (OwnL wr w.heap.size u4 acc ∧ Tx wr g s K ∧ w.grownBy wr (some g) ∧ atW wr g = K) := ⟨hOw, hTx, hgr, hTx.at⟩
    clear hrel hRv hOw hTx hgr HT HLA HR
    generalize tkB s (tkK s (labS s (tkK s K 125)).2.2.2 44) 125 = t4 at *
    generalize tkK s (tkK s (labS s (tkK s K 125)).2.2.2 44) 125 = k4 at *
    generalize tkB s (labS s (tkK s K 125)).2.2.2 44 = t3 at *
    generalize tkK s (labS s (tkK s K 125)).2.2.2 44 = k3 at *
    generalize labS s (tkK s K 125) = L at *
    generalize tkB s K 125 = t1 at *
    generalize tkK s K 125 = k1 at *
    obtain ⟨nm, vl, lo, k2⟩ := L
    dsimp only at *
    cases t1 with
    | true =>
      rw [if_pos rfl] at HRV
      go_wp2_with fail
      refine (HTA.out _ HX.out.2.1).mono ?_
      rintro e w1 ⟨rfl, H1⟩
      clear HTA
      go_wp2_with fail
      go_ret2
      exact ⟨_, by (rw [HRV.out]; first | done | rfl), by rw [HRV.out]; exact HX.out.1.kept H1.out.2 hgl, by rw [HRV.out]; exact H1.out.1, gb_trans HX.out.2.2.1 H1.out.2 (fun _ h _ => h.symm)⟩
    | false =>
      rw [if_neg (by simp)] at HRV
      go_wp2_with fail
      refine (HTA.out _ HX.out.2.1).mono ?_
      rintro e w1 ⟨rfl, H1⟩
      clear HTA
      go_wp2_with fail
      refine (HLB.out _ H1.out.1).mono ?_
      rintro e w2 ⟨rfl, H2⟩
      clear HLB
      have H3 : Hid (OwnL w2 w.heap.size u4 acc ∧ Tx w2 g s k2 ∧ w.grownBy w2 (some g)) := ⟨(HX.out.1.kept H1.out.2 hgl).kept H2.out.2 hgl, H2.out.1, gb_trans (gb_trans HX.out.2.2.1 H1.out.2 (fun _ h _ => h.symm)) H2.out.2 (fun _ h _ => h.symm)⟩
      clear H1 H2
      cases lo with
      | false =>
        rw [if_pos rfl] at HRV
        have HE : Hid (∀ C, Tx (w2.alloc C) g s k2 ∧ w.grownBy (w2.alloc C) (some g)) := fun C => ⟨H3.out.2.1.keep (World.grownBy_alloc _ _ none), gb_none H3.out.2.2 (World.grownBy_alloc _ _ none)⟩
        go_wp2
        go_ret2
        exact ⟨_, by (rw [HRV.out]; first | done | rfl), by rw [HRV.out]; exact OwnL.nil _ _, by rw [HRV.out]; exact (HE.out _).1, (HE.out _).2⟩
      | true =>
        rw [if_neg (by simp)] at HRV
        have hlt := hb4 rfl
        go_wp2_with (at_builtin; refine wp_appH rfl _ _ 22 42 rfl i0 _ 2 32 w.heap.size Tryd.underlying22 HI.out.1 HI.out.2.1 HI.out.2.2.1 HI.out.2.2.2 rfl (by decide) _ acc.length (lbf acc) (some ⟨w2.heap.size + 1, 0, none⟩) 1 1 [.string (ByteArray.mk ⟨nm⟩), .string (ByteArray.mk ⟨vl⟩)] rfl rfl (World.ownsRow.alloc (World.ownsRow.alloc H3.out.1 _) _) rfl (box_rdc1 w2 _ _ _) (fun h => by cases h) (two_one _ _) (by omega) (by omega) (by have := H3.out.2.2.size; simp; omega) ?_)
        intro v4 w4 ho4 hf4
        have H4 : Hid (OwnL w4 w.heap.size v4 (acc ++ [(nm, vl)]) ∧ Tx w4 g s k2 ∧ w.grownBy w4 (some g)) := by
          have hgA := gb_none (World.grownBy_alloc w2 (.cells #[.string (ByteArray.mk ⟨nm⟩), .string (ByteArray.mk ⟨vl⟩)] 42) none) (World.grownBy_alloc _ (.cells #[.string (ByteArray.mk ⟨nm⟩), .string (ByteArray.mk ⟨vl⟩)] 42) none)
          have hl := H3.out.1.lt
          refine ⟨OwnL.snoc ho4, (H3.out.2.1.keep hgA).far hf4.1 (fun j hj => by have := (hl j hj).1; omega), gb_trans (gb_none H3.out.2.2 hgA) hf4.1 (fun j hj hlt => by have := (hl j (by first | exact hj | exact hj.symm)).1; omega)⟩
        clear ho4 hf4 H3
        go_wp2_with fail
        refine (HTB.out _ H4.out.2.1).mono ?_
        rintro e w5 ⟨rfl, H5⟩
        clear HTB
        have H6 : Hid (OwnL w5 w.heap.size v4 (acc ++ [(nm, vl)]) ∧ Tx w5 g s k3 ∧ w.grownBy w5 (some g)) := ⟨H4.out.1.kept H5.out.2 hgl, H5.out.1, gb_trans H4.out.2.2 H5.out.2 (fun _ h _ => h.symm)⟩
        clear H4 H5
        cases t3 with
        | false =>
          rw [if_pos rfl] at HRV
          go_wp2_with fail
          refine (HTC.out _ H6.out.2.1).mono ?_
          rintro e w7 ⟨rfl, H7⟩
          clear HTC
          go_wp2
          go_ret2
          exact ⟨_, by (rw [HRV.out]; first | done | rfl), by rw [HRV.out]; exact H6.out.1.kept H7.out.2 hgl, by rw [HRV.out]; exact H7.out.1, gb_trans H6.out.2.2 H7.out.2 (fun _ h _ => h.symm)⟩
        | true =>
          rw [if_neg (by simp)] at HRV
          go_wp2_with fail
          go_roundw
          case rel => exact ⟨k3, f', acc ++ [(nm, vl)], by omega, by omega, by simp; omega, HRV.out, H6.out⟩
          case measure =>
            have e1 := HX.out.2.2.2
            have e2 := H6.out.2.1.at
            rw [e1, e2]
            omega
end Go.Proofs.YtkcgikgihbglnabDoor
