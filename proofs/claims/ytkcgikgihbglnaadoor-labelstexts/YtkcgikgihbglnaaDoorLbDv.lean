/-
  A value of a text that is read, by the document: what Value comes to: the walk.
-/
import Derived.Test.YtkcgikgihbglnaaDoorMgH
import Derived.Test.YtkcgikgihbglnaaDoorMgG
import Derived.Test.YtkcgikgihbglnaaDoorMgF
namespace Go.Proofs.YtkcgikgihbglnaaDoor
open Go.RowKit

theorem ownB_far {w w' : World} {B g : Nat} {v : Value} {l : List UInt8} (h : Own w B v l) (hg : w.grownBy w' (some g)) (hlt : g < B) : Own w' B v l := by
  refine Own.kept h hg ?_
  cases hv : v.ownBlock with
  | none => exact .inl rfl
  | some j => right; have := h.lt j hv; simp; omega
theorem TxR.far {w w' : World} {g : Nat} {s : List UInt8} {k b : Nat} {o : Option Nat} (h : TxR w g s k b) (hg : w.grownBy w' o) (ho : ∀ j, o = some j → j ≠ g) : TxR w' g s k b :=
  (hg.block g (Array.getElem?_eq_some_iff.1 h).1 (by intro e; exact ho g (by first | exact e | exact e.symm) rfl)).trans h
/-- what Value answers, and the fault -/
def rvS (s : List UInt8) (k b : Nat) : List UInt8 × Nat :=
  if (wantS s k b 34).2 = 0 then (if (valS (s.length + 1) s (wantS s k b 34).1 []).2.1 = true then ((valS (s.length + 1) s (wantS s k b 34).1 []).1, 0) else ([], (valS (s.length + 1) s (wantS s k b 34).1 []).2.2 + 1)) else ([], (wantS s k b 34).2)

/-- what stands at the loop's head -/
def RvI (w : World) (g : Nat) (s : List UInt8) (V : List UInt8 × Bool × Nat) (u : Value) (wr : World) : Prop :=
  ∃ K B f acc, K ≤ s.length ∧ Own wr w.heap.size u acc ∧ TxR wr g s K B ∧ w.grownBy wr (some g) ∧ ((B = 0 ∧ s.length < K + f ∧ acc.length ≤ K ∧ V = valS f s K acc) ∨ (B ≠ 0 ∧ V.2.1 = false ∧ B = V.2.2 + 1))

set_option maxRecDepth 8000 in
set_option maxHeartbeats 6400000 in
theorem refValue_any (w : World) (g : Nat) (s : List UInt8) (k b : Nat) (h : TxR w g s k b) (hk : k ≤ s.length) (hs : s.length ≤ 1000000) :
    Calls Tryd.prog 103 #[.pointer (some ⟨g, 0, none⟩)] w fun e w' => e = .returned (.string (ByteArray.mk ⟨(rvS s k b).1⟩)) ∧ (∃ A, A ≤ s.length ∧ ((rvS s k b).2 = 0 → A = (valS (s.length + 1) s (wantS s k b 34).1 []).2.2) ∧ TxR w' g s A (rvS s k b).2) ∧ w.grownBy w' (some g) := by
  have hgl : g < w.heap.size := (Array.getElem?_eq_some_iff.1 h).1
  have hz : (ByteArray.mk ⟨s⟩).size = s.length := rfl
  have HW : Hid (Calls Tryd.prog 102 #[.pointer (some ⟨g, 0, none⟩), .int .u8 34] w fun e w' => e = .returned (.tuple #[]) ∧ TxR w' g s (wantS s k b 34).1 (wantS s k b 34).2 ∧ w.grownBy w' (some g)) := refWant_any w g s k b 34 h hk hs
  have hwk : (wantS s k b 34).1 ≤ s.length := by
    have := tkK_len s k 34 hk
    unfold wantS
    split
    · split
      · exact this
      · exact this
    · exact hk
  have HR : Hid (rvS s k b = if (wantS s k b 34).2 = 0 then (if (valS (s.length + 1) s (wantS s k b 34).1 []).2.1 = true then ((valS (s.length + 1) s (wantS s k b 34).1 []).1, 0) else ([], (valS (s.length + 1) s (wantS s k b 34).1 []).2.2 + 1)) else ([], (wantS s k b 34).2)) := rfl
  generalize rvS s k b = R at *
  generalize wantS s k b 34 = WK at *
  obtain ⟨k1, b1⟩ := WK
  dsimp only at *
  obtain ⟨V, hV⟩ : ∃ V, V = valS (s.length + 1) s k1 [] := ⟨_, rfl⟩
  rw [← hV] at HR
  rw [← hV]
  have HV : Hid (V = valS (s.length + 1) s k1 []) := hV
  have HFA : Hid (∀ W K, TxR W g s K 0 → ∀ p, p ≤ s.length → Calls Tryd.prog 70 #[.pointer (some ⟨g, 0, none⟩), .int .i64 (p : Int)] W fun e w' => e = .returned (.tuple #[]) ∧ TxR w' g s K (p + 1) ∧ W.grownBy w' (some g)) := fun W K hW p hp => refFail_any W g s K 0 p hW (by omega)
  clear h hV hk
  by_cases hb : b1 = 0
  · subst hb
    rw [if_pos rfl] at HR
    go_enter Tryd.func103, Tryd.ntmps103
    go_wp2_with fail
    refine HW.out.mono ?_
    rintro e w0 ⟨rfl, ht0, hg0⟩
    have H0 : Hid (RvI w g s V (.slice none 0 0) w0) := ⟨k1, 0, s.length + 1, [], hwk, Own.nil _ _, ht0, hg0, .inl ⟨rfl, by omega, by simp, HV.out⟩⟩
    clear HW ht0 hg0 hwk HV
    go_wp2
    go_loopw [3] (fun u wr => Hid (RvI w g s V u wr)) (fun _ wr => s.length - atR wr g)
    case atStart => exact H0.out
    case round =>
      obtain ⟨K, B, f, acc, hK, hOw, hTx, hgr, hcase⟩ := hrel.out
      clear hrel H0
      obtain ⟨c0, c1, c2, f1, f2⟩ := hTx.cells
      have HX : Hid (Own wr w.heap.size u3 acc ∧ TxR wr g s K B ∧ w.grownBy wr (some g) ∧ atR wr g = K) := ⟨hOw, hTx, hgr, hTx.at⟩
      clear hOw hTx hgr
      rcases hcase with ⟨rfl, hf, hacc, hVv⟩ | ⟨hB, hV1, hV2⟩
      · obtain ⟨f', rfl⟩ : ∃ f', f = f' + 1 := ⟨f - 1, by omega⟩
        rw [valS_step] at hVv
        have HVV : Hid (V = if ¬ K < s.length then ([], false, K) else if s.getD K 0 = 34 then (acc, true, K + 1) else if s.getD K 0 = 92 then (if (escS s K).2.1 = true then valS f' s (K + 2) (acc ++ [(escS s K).1]) else ([], false, (escS s K).2.2)) else valS f' s (K + 1) (acc ++ [s.getD K 0])) := hVv
        clear hVv
        by_cases hkl : K < s.length
        · rw [if_neg (by simpa using hkl)] at HVV
          have hbn := byte_at hkl
          have hki : (K : Int) < (s.length : Int) := by omega
          have hki2 : ¬ (s.length : Int) ≤ (K : Int) := by omega
          generalize s.getD K 0 = x at *
          by_cases x1 : x = 34
          · subst x1
            rw [if_pos rfl] at HVV
            have hVe := HVV.out
            subst hVe
            rw [if_pos rfl] at HR
            have HD : Hid (Own (wr.setCell ⟨g, 1, none⟩ (.int .i64 ((K : Int) + 1))).drew.drew w.heap.size u3 acc ∧ TxR (wr.setCell ⟨g, 1, none⟩ (.int .i64 ((K : Int) + 1))).drew.drew g s (K + 1) 0 ∧ w.grownBy (wr.setCell ⟨g, 1, none⟩ (.int .i64 ((K : Int) + 1))).drew.drew (some g)) := by
              have hp1 := HX.out.2.1.put (K + 1) ((K : Int) + 1) (by omega)
              have hd : (wr.setCell ⟨g, 1, none⟩ (.int .i64 ((K : Int) + 1))).grownBy (wr.setCell ⟨g, 1, none⟩ (.int .i64 ((K : Int) + 1))).drew.drew none := gb_none (gb_drew _ none) (gb_drew _ none)
              exact ⟨(ownB_far HX.out.1 hp1.2 hgl).keep hd, hp1.1.keep hd, gb_none (gb_trans HX.out.2.2.1 hp1.2 (fun _ h _ => h.symm)) hd⟩
            have cv := run_strB HD.out.1.rd
            go_wp2_with fail
            go_region
            go_wp2_with fail
            go_region
            go_wp2
            go_ret
            exact ⟨by (rw [HR.out]; first | done | rfl), ⟨K + 1, by omega, fun _ => rfl, by rw [HR.out]; exact HD.out.2.1⟩, HD.out.2.2⟩
          · have y1 : x.toNat ≠ 34 := fun h => x1 (UInt8.toNat_inj.1 h)
            have e1 : ((x.toNat : Int) == 34) = false := by rw [beq_eq_false_iff_ne]; omega
            have e1' : ¬ (x.toNat : Int) = 34 := by omega
            rw [if_neg x1] at HVV
            have HD : Hid (Own (wr.setCell ⟨g, 1, none⟩ (.int .i64 ((K : Int) + 1))) w.heap.size u3 acc ∧ TxR (wr.setCell ⟨g, 1, none⟩ (.int .i64 ((K : Int) + 1))) g s (K + 1) 0 ∧ w.grownBy (wr.setCell ⟨g, 1, none⟩ (.int .i64 ((K : Int) + 1))) (some g)) := by
              have hp1 := HX.out.2.1.put (K + 1) ((K : Int) + 1) (by omega)
              exact ⟨ownB_far HX.out.1 hp1.2 hgl, hp1.1, gb_trans HX.out.2.2.1 hp1.2 (fun _ h _ => h.symm)⟩
            by_cases x2 : x = 92
            · subst x2
              clear e1 e1' y1 x1 HD
              rw [if_pos rfl] at HVV
              obtain ⟨K1, hK1⟩ : ∃ K1 : Nat, K1 = K + 1 := ⟨_, rfl⟩
              have hKi : (K : Int) + 1 = (K1 : Int) := by omega
              have HK1 : Hid (K1 = K + 1) := hK1
              have HES : Hid (escS s K = if K1 = s.length then (0, false, K1) else if s.getD K1 0 = 92 ∨ s.getD K1 0 = 34 then (s.getD K1 0, true, K) else if s.getD K1 0 = 110 then (10, true, K) else (0, false, K)) := by rw [hK1]; rfl
              have HD1 : Hid (Own (wr.setCell ⟨g, 1, none⟩ (.int .i64 (K1 : Int))) w.heap.size u3 acc ∧ TxR (wr.setCell ⟨g, 1, none⟩ (.int .i64 (K1 : Int))) g s K1 0 ∧ w.grownBy (wr.setCell ⟨g, 1, none⟩ (.int .i64 (K1 : Int))) (some g)) := by
                have hp1 := HX.out.2.1.put K1 (K1 : Int) rfl
                exact ⟨ownB_far HX.out.1 hp1.2 hgl, hp1.1, gb_trans HX.out.2.2.1 hp1.2 (fun _ h _ => h.symm)⟩
              generalize escS s K = ES at *
              have hK1l : K1 ≤ s.length := by omega
              clear hK1
              by_cases he : K1 = s.length
              · rw [if_pos he] at HES
                have hES := HES.out
                subst hES
                rw [if_neg (by simp)] at HVV
                have hVe := HVV.out
                subst hVe
                rw [if_neg (by simp)] at HR
                have hge : (s.length : Int) ≤ (K1 : Int) := by omega
                have hge2 : ¬ (K1 : Int) < (s.length : Int) := by omega
                have HDD : Hid (TxR (wr.setCell ⟨g, 1, none⟩ (.int .i64 (K1 : Int))).drew.drew.drew g s K1 0 ∧ w.grownBy (wr.setCell ⟨g, 1, none⟩ (.int .i64 (K1 : Int))).drew.drew.drew (some g)) := by
                  have hd := gb_none (gb_none (gb_drew (wr.setCell ⟨g, 1, none⟩ (.int .i64 (K1 : Int))) none) (gb_drew _ none)) (gb_drew _ none)
                  exact ⟨HD1.out.2.1.keep hd, gb_none HD1.out.2.2 hd⟩
                clear he HD1
                go_wp2_with fail
                go_region
                go_wp2_with fail
                go_region
                go_wp2_with fail
                go_region
                go_wp2_with fail
                refine (HFA.out _ K1 HDD.out.1 K1 (by omega)).mono ?_
                rintro e w2 ⟨rfl, ht2, hg2⟩
                have H2 : Hid (TxR w2 g s K1 (K1 + 1) ∧ w.grownBy w2 (some g)) := ⟨ht2, gb_trans HDD.out.2 hg2 (fun _ h _ => h.symm)⟩
                clear ht2 hg2 HDD HFA
                go_wp2
                go_ret
                exact ⟨by (rw [HR.out]; first | done | rfl), ⟨K1, hK1l, (fun h => by (rw [HR.out] at h; first | done | cases h)), by rw [HR.out]; exact H2.out.1⟩, H2.out.2⟩
              · rw [if_neg he] at HES
                have hlt : K1 < s.length := by omega
                have hbn1 := byte_at hlt
                have hli : (K1 : Int) < (s.length : Int) := by omega
                have hli2 : ¬ (s.length : Int) ≤ (K1 : Int) := by omega
                clear he
                generalize s.getD K1 0 = y at *
                by_cases y1 : y = 110
                · subst y1
                  rw [if_neg (by decide), if_pos rfl] at HES
                  have hES := HES.out
                  subst hES
                  rw [if_pos rfl] at HVV
                  have HD2 : Hid (Own ((wr.setCell ⟨g, 1, none⟩ (.int .i64 (K1 : Int))).setCell ⟨g, 1, none⟩ (.int .i64 ((K1 : Int) + 1))) w.heap.size u3 acc ∧ TxR ((wr.setCell ⟨g, 1, none⟩ (.int .i64 (K1 : Int))).setCell ⟨g, 1, none⟩ (.int .i64 ((K1 : Int) + 1))) g s (K + 2) 0 ∧ w.grownBy ((wr.setCell ⟨g, 1, none⟩ (.int .i64 (K1 : Int))).setCell ⟨g, 1, none⟩ (.int .i64 ((K1 : Int) + 1))) (some g)) := by
                    have hp1 := HD1.out.2.1.put (K + 2) ((K1 : Int) + 1) (by have := HK1.out; omega)
                    exact ⟨ownB_far HD1.out.1 hp1.2 hgl, hp1.1, gb_trans HD1.out.2.2 hp1.2 (fun _ h _ => h.symm)⟩
                  have HRL : Hid (Rd (((wr.setCell ⟨g, 1, none⟩ (.int .i64 (K1 : Int))).setCell ⟨g, 1, none⟩ (.int .i64 ((K1 : Int) + 1))).alloc (.cells #[.int .u8 10] 5)).drew.drew.drew.drew (.slice (some ⟨wr.heap.size, 0, none⟩) 1 1) [10]) := by
                    have h := (Rd_lit ((wr.setCell ⟨g, 1, none⟩ (.int .i64 (K1 : Int))).setCell ⟨g, 1, none⟩ (.int .i64 ((K1 : Int) + 1))) [10] 1 rfl (by simp) #[.int .u8 10] rfl (fr := (0, 0))).keep (gb_none (gb_none (gb_none (gb_drew _ none) (gb_drew _ none)) (gb_drew _ none)) (gb_drew _ none))
                    rw [show ((wr.setCell ⟨g, 1, none⟩ (.int .i64 (K1 : Int))).setCell ⟨g, 1, none⟩ (.int .i64 ((K1 : Int) + 1))).heap.size = wr.heap.size by simp] at h
                    exact h
                  clear HFA HD1
                  go_wp2_with fail
                  go_region
                  go_wp2_with fail
                  go_region
                  go_wp2_with fail
                  go_region
                  go_wp2_with fail
                  go_region
                  go_wp2_with (at_builtin; refine wp_app rfl _ _ rfl w.heap.size _ _ acc [10] rfl rfl (HD2.out.1.keep (gb_none (World.grownBy_alloc _ _ none) (gb_none (gb_none (gb_none (gb_drew _ none) (gb_drew _ none)) (gb_drew _ none)) (gb_drew _ none)))) HRL.out (by simp; omega) (by have := HX.out.2.2.1.size; simp; omega) ?_)
                  intro v2 w2 ho2 hf2
                  have H2 : Hid (RvI w g s V v2 w2 ∧ atR w2 g = K + 2) := by
                    have hl := HD2.out.1.lt
                    have hg2 := (Fr.pre (gb_none (World.grownBy_alloc _ _ none) (gb_none (gb_none (gb_none (gb_drew _ none) (gb_drew _ none)) (gb_drew _ none)) (gb_drew _ none))) hf2).1
                    have ht2 := HD2.out.2.1.far hg2 (fun j hj => by have := (hl j hj).1; omega)
                    exact ⟨⟨K + 2, 0, f', acc ++ [10], by have := HK1.out; omega, ho2, ht2, gb_trans HD2.out.2.2 hg2 (fun j hj hlt => by have := (hl j (by first | exact hj | exact hj.symm)).1; omega), .inl ⟨rfl, by omega, by simp; omega, HVV.out⟩⟩, ht2.at⟩
                  clear ho2 hf2 HD2
                  go_wp2
                  go_roundw
                  case rel => exact H2.out.1
                  case measure =>
                    rw [H2.out.2, HX.out.2.2.2]
                    omega
                · by_cases y2 : y = 92
                  · subst y2
                    rw [if_pos (.inl rfl)] at HES
                    have hES := HES.out
                    subst hES
                    rw [if_pos rfl] at HVV
                    clear y1
                    have HD2 : Hid (Own ((wr.setCell ⟨g, 1, none⟩ (.int .i64 (K1 : Int))).setCell ⟨g, 1, none⟩ (.int .i64 ((K1 : Int) + 1))) w.heap.size u3 acc ∧ TxR ((wr.setCell ⟨g, 1, none⟩ (.int .i64 (K1 : Int))).setCell ⟨g, 1, none⟩ (.int .i64 ((K1 : Int) + 1))) g s (K + 2) 0 ∧ w.grownBy ((wr.setCell ⟨g, 1, none⟩ (.int .i64 (K1 : Int))).setCell ⟨g, 1, none⟩ (.int .i64 ((K1 : Int) + 1))) (some g)) := by
                      have hp1 := HD1.out.2.1.put (K + 2) ((K1 : Int) + 1) (by have := HK1.out; omega)
                      exact ⟨ownB_far HD1.out.1 hp1.2 hgl, hp1.1, gb_trans HD1.out.2.2 hp1.2 (fun _ h _ => h.symm)⟩
                    have HRL : Hid (Rd (((wr.setCell ⟨g, 1, none⟩ (.int .i64 (K1 : Int))).setCell ⟨g, 1, none⟩ (.int .i64 ((K1 : Int) + 1))).alloc (.cells #[.int .u8 92] 5)).drew.drew.drew.drew (.slice (some ⟨wr.heap.size, 0, none⟩) 1 1) [92]) := by
                      have h := (Rd_lit ((wr.setCell ⟨g, 1, none⟩ (.int .i64 (K1 : Int))).setCell ⟨g, 1, none⟩ (.int .i64 ((K1 : Int) + 1))) [92] 1 rfl (by simp) #[.int .u8 92] rfl (fr := (0, 0))).keep (gb_none (gb_none (gb_none (gb_drew _ none) (gb_drew _ none)) (gb_drew _ none)) (gb_drew _ none))
                      rw [show ((wr.setCell ⟨g, 1, none⟩ (.int .i64 (K1 : Int))).setCell ⟨g, 1, none⟩ (.int .i64 ((K1 : Int) + 1))).heap.size = wr.heap.size by simp] at h
                      exact h
                    clear HFA HD1
                    go_wp2_with fail
                    go_region
                    go_wp2_with fail
                    go_region
                    go_wp2_with fail
                    go_region
                    go_wp2_with fail
                    go_region
                    go_wp2_with (at_builtin; refine wp_app rfl _ _ rfl w.heap.size _ _ acc [92] rfl rfl (HD2.out.1.keep (gb_none (World.grownBy_alloc _ _ none) (gb_none (gb_none (gb_none (gb_drew _ none) (gb_drew _ none)) (gb_drew _ none)) (gb_drew _ none)))) HRL.out (by simp; omega) (by have := HX.out.2.2.1.size; simp; omega) ?_)
                    intro v2 w2 ho2 hf2
                    have H2 : Hid (RvI w g s V v2 w2 ∧ atR w2 g = K + 2) := by
                      have hl := HD2.out.1.lt
                      have hg2 := (Fr.pre (gb_none (World.grownBy_alloc _ _ none) (gb_none (gb_none (gb_none (gb_drew _ none) (gb_drew _ none)) (gb_drew _ none)) (gb_drew _ none))) hf2).1
                      have ht2 := HD2.out.2.1.far hg2 (fun j hj => by have := (hl j hj).1; omega)
                      exact ⟨⟨K + 2, 0, f', acc ++ [92], by have := HK1.out; omega, ho2, ht2, gb_trans HD2.out.2.2 hg2 (fun j hj hlt => by have := (hl j (by first | exact hj | exact hj.symm)).1; omega), .inl ⟨rfl, by omega, by simp; omega, HVV.out⟩⟩, ht2.at⟩
                    clear ho2 hf2 HD2
                    go_wp2
                    go_roundw
                    case rel => exact H2.out.1
                    case measure =>
                      rw [H2.out.2, HX.out.2.2.2]
                      omega
                  · by_cases y3 : y = 34
                    · subst y3
                      rw [if_pos (.inr rfl)] at HES
                      have hES := HES.out
                      subst hES
                      rw [if_pos rfl] at HVV
                      clear y1 y2
                      have HD2 : Hid (Own ((wr.setCell ⟨g, 1, none⟩ (.int .i64 (K1 : Int))).setCell ⟨g, 1, none⟩ (.int .i64 ((K1 : Int) + 1))) w.heap.size u3 acc ∧ TxR ((wr.setCell ⟨g, 1, none⟩ (.int .i64 (K1 : Int))).setCell ⟨g, 1, none⟩ (.int .i64 ((K1 : Int) + 1))) g s (K + 2) 0 ∧ w.grownBy ((wr.setCell ⟨g, 1, none⟩ (.int .i64 (K1 : Int))).setCell ⟨g, 1, none⟩ (.int .i64 ((K1 : Int) + 1))) (some g)) := by
                        have hp1 := HD1.out.2.1.put (K + 2) ((K1 : Int) + 1) (by have := HK1.out; omega)
                        exact ⟨ownB_far HD1.out.1 hp1.2 hgl, hp1.1, gb_trans HD1.out.2.2 hp1.2 (fun _ h _ => h.symm)⟩
                      have HRL : Hid (Rd (((wr.setCell ⟨g, 1, none⟩ (.int .i64 (K1 : Int))).setCell ⟨g, 1, none⟩ (.int .i64 ((K1 : Int) + 1))).alloc (.cells #[.int .u8 34] 5)).drew.drew.drew.drew (.slice (some ⟨wr.heap.size, 0, none⟩) 1 1) [34]) := by
                        have h := (Rd_lit ((wr.setCell ⟨g, 1, none⟩ (.int .i64 (K1 : Int))).setCell ⟨g, 1, none⟩ (.int .i64 ((K1 : Int) + 1))) [34] 1 rfl (by simp) #[.int .u8 34] rfl (fr := (0, 0))).keep (gb_none (gb_none (gb_none (gb_drew _ none) (gb_drew _ none)) (gb_drew _ none)) (gb_drew _ none))
                        rw [show ((wr.setCell ⟨g, 1, none⟩ (.int .i64 (K1 : Int))).setCell ⟨g, 1, none⟩ (.int .i64 ((K1 : Int) + 1))).heap.size = wr.heap.size by simp] at h
                        exact h
                      clear HFA HD1
                      go_wp2_with fail
                      go_region
                      go_wp2_with fail
                      go_region
                      go_wp2_with fail
                      go_region
                      go_wp2_with fail
                      go_region
                      go_wp2_with (at_builtin; refine wp_app rfl _ _ rfl w.heap.size _ _ acc [34] rfl rfl (HD2.out.1.keep (gb_none (World.grownBy_alloc _ _ none) (gb_none (gb_none (gb_none (gb_drew _ none) (gb_drew _ none)) (gb_drew _ none)) (gb_drew _ none)))) HRL.out (by simp; omega) (by have := HX.out.2.2.1.size; simp; omega) ?_)
                      intro v2 w2 ho2 hf2
                      have H2 : Hid (RvI w g s V v2 w2 ∧ atR w2 g = K + 2) := by
                        have hl := HD2.out.1.lt
                        have hg2 := (Fr.pre (gb_none (World.grownBy_alloc _ _ none) (gb_none (gb_none (gb_none (gb_drew _ none) (gb_drew _ none)) (gb_drew _ none)) (gb_drew _ none))) hf2).1
                        have ht2 := HD2.out.2.1.far hg2 (fun j hj => by have := (hl j hj).1; omega)
                        exact ⟨⟨K + 2, 0, f', acc ++ [34], by have := HK1.out; omega, ho2, ht2, gb_trans HD2.out.2.2 hg2 (fun j hj hlt => by have := (hl j (by first | exact hj | exact hj.symm)).1; omega), .inl ⟨rfl, by omega, by simp; omega, HVV.out⟩⟩, ht2.at⟩
                      clear ho2 hf2 HD2
                      go_wp2
                      go_roundw
                      case rel => exact H2.out.1
                      case measure =>
                        rw [H2.out.2, HX.out.2.2.2]
                        omega
                    · rw [if_neg (by rintro (h | h); exact y2 h; exact y3 h), if_neg y1] at HES
                      have hES := HES.out
                      subst hES
                      rw [if_neg (by simp)] at HVV
                      have z1 : y.toNat ≠ 110 := fun h => y1 (UInt8.toNat_inj.1 h)
                      have z2 : y.toNat ≠ 92 := fun h => y2 (UInt8.toNat_inj.1 h)
                      have z3 : y.toNat ≠ 34 := fun h => y3 (UInt8.toNat_inj.1 h)
                      have g1 : ((y.toNat : Int) == 110) = false := by rw [beq_eq_false_iff_ne]; omega
                      have g1' : ¬ (y.toNat : Int) = 110 := by omega
                      have g2 : ((y.toNat : Int) == 92) = false := by rw [beq_eq_false_iff_ne]; omega
                      have g2' : ¬ (y.toNat : Int) = 92 := by omega
                      have g3 : ((y.toNat : Int) == 34) = false := by rw [beq_eq_false_iff_ne]; omega
                      have g3' : ¬ (y.toNat : Int) = 34 := by omega
                      have hKm : (K1 : Int) - 1 = (K : Int) := by omega
                      have HDD : Hid (Own (wr.setCell ⟨g, 1, none⟩ (.int .i64 (K1 : Int))).drew.drew.drew.drew w.heap.size u3 acc ∧ TxR (wr.setCell ⟨g, 1, none⟩ (.int .i64 (K1 : Int))).drew.drew.drew.drew g s K1 0 ∧ w.grownBy (wr.setCell ⟨g, 1, none⟩ (.int .i64 (K1 : Int))).drew.drew.drew.drew (some g)) := by
                        have hd : (wr.setCell ⟨g, 1, none⟩ (.int .i64 (K1 : Int))).grownBy (wr.setCell ⟨g, 1, none⟩ (.int .i64 (K1 : Int))).drew.drew.drew.drew none := (gb_none (gb_none (gb_none (gb_drew _ none) (gb_drew _ none)) (gb_drew _ none)) (gb_drew _ none))
                        exact ⟨HD1.out.1.keep hd, HD1.out.2.1.keep hd, gb_none HD1.out.2.2 hd⟩
                      have q2 : ¬ y.toNat = 92 := z2
                      have q3 : ¬ y.toNat = 34 := z3
                      have b2 : decide (y.toNat = 92) = false := decide_eq_false z2
                      have b3 : decide (y.toNat = 34) = false := decide_eq_false z3
                      have b4 : ((y.toNat : Int) != 92) = true := by simp [bne, g2]
                      have b5 : ((y.toNat : Int) != 34) = true := by simp [bne, g3]
                      clear z1 z2 z3 y1 y2 y3 HD1
                      go_wp2_with fail
                      go_region
                      go_wp2_with fail
                      go_region
                      go_wp2_with fail
                      go_region
                      go_wp2_with fail
                      go_region
                      go_wp2_with fail
                      refine (HFA.out _ K1 HDD.out.2.1 K (by omega)).mono ?_
                      rintro e w4 ⟨rfl, ht4, hg4⟩
                      have H4 : Hid (Own w4 w.heap.size u3 acc ∧ TxR w4 g s K1 (K + 1) ∧ w.grownBy w4 (some g)) := ⟨ownB_far HDD.out.1 hg4 hgl, ht4, gb_trans HDD.out.2.2 hg4 (fun _ h _ => h.symm)⟩
                      obtain ⟨d0, d1, d2, d3, d4⟩ := ht4.cells
                      clear ht4 hg4 HDD HFA c0 c1 c2 f1 f2
                      have HD2 : Hid (Own (w4.setCell ⟨g, 1, none⟩ (.int .i64 ((K1 : Int) + 1))) w.heap.size u3 acc ∧ TxR (w4.setCell ⟨g, 1, none⟩ (.int .i64 ((K1 : Int) + 1))) g s (K + 2) (K + 1) ∧ w.grownBy (w4.setCell ⟨g, 1, none⟩ (.int .i64 ((K1 : Int) + 1))) (some g)) := by
                        have hp1 := H4.out.2.1.put (K + 2) ((K1 : Int) + 1) (by have := HK1.out; omega)
                        exact ⟨ownB_far H4.out.1 hp1.2 hgl, hp1.1, gb_trans H4.out.2.2 hp1.2 (fun _ h _ => h.symm)⟩
                      have HRL : Hid (Rd ((w4.setCell ⟨g, 1, none⟩ (.int .i64 ((K1 : Int) + 1))).alloc (.cells #[.int .u8 (y.toNat : Int)] 5)) (.slice (some ⟨w4.heap.size, 0, none⟩) 1 1) [y]) := by
                        have h := Rd_lit (w4.setCell ⟨g, 1, none⟩ (.int .i64 ((K1 : Int) + 1))) [y] 1 rfl (by simp) #[.int .u8 (y.toNat : Int)] rfl (fr := (0, 0))
                        rw [show (w4.setCell ⟨g, 1, none⟩ (.int .i64 ((K1 : Int) + 1))).heap.size = w4.heap.size by simp] at h
                        exact h
                      go_wp2_with (at_builtin; refine wp_app rfl _ _ rfl w.heap.size _ _ acc [y] rfl rfl (HD2.out.1.keep (World.grownBy_alloc _ _ none)) HRL.out (by simp; omega) (by have := H4.out.2.2.size; simp; omega) ?_)
                      intro v2 w2 ho2 hf2
                      have H2 : Hid (RvI w g s V v2 w2 ∧ atR w2 g = K + 2) := by
                        have hl := HD2.out.1.lt
                        have hg2 := (Fr.pre (World.grownBy_alloc _ _ none) hf2).1
                        have ht2 := HD2.out.2.1.far hg2 (fun j hj => by have := (hl j hj).1; omega)
                        exact ⟨⟨K + 2, K + 1, f', acc ++ [y], by have := HK1.out; omega, ho2, ht2, gb_trans HD2.out.2.2 hg2 (fun j hj hlt => by have := (hl j (by first | exact hj | exact hj.symm)).1; omega), .inr ⟨by omega, by rw [HVV.out], by rw [HVV.out]⟩⟩, ht2.at⟩
                      clear ho2 hf2 HD2
                      go_wp2
                      go_roundw
                      case rel => exact H2.out.1
                      case measure =>
                        rw [H2.out.2, HX.out.2.2.2]
                        omega
            · have y2 : x.toNat ≠ 92 := fun h => x2 (UInt8.toNat_inj.1 h)
              have e2 : ((x.toNat : Int) == 92) = false := by rw [beq_eq_false_iff_ne]; omega
              have e2' : ¬ (x.toNat : Int) = 92 := by omega
              rw [if_neg x2] at HVV
              have HRL : Hid (Rd ((wr.setCell ⟨g, 1, none⟩ (.int .i64 ((K : Int) + 1))).alloc (.cells #[.int .u8 (x.toNat : Int)] 5)).drew.drew (.slice (some ⟨wr.heap.size, 0, none⟩) 1 1) [x]) := by
                have h := (Rd_lit (wr.setCell ⟨g, 1, none⟩ (.int .i64 ((K : Int) + 1))) [x] 1 rfl (by simp) #[.int .u8 (x.toNat : Int)] rfl (fr := (0, 0))).keep (gb_none (gb_drew _ none) (gb_drew _ none))
                rw [show (wr.setCell ⟨g, 1, none⟩ (.int .i64 ((K : Int) + 1))).heap.size = wr.heap.size by simp] at h
                exact h
              clear y1 y2 x1 x2 HFA
              go_wp2_with fail
              go_region
              go_wp2_with fail
              go_region
              go_wp2_with (at_builtin; refine wp_app rfl _ _ rfl w.heap.size _ _ acc [x] rfl rfl (HD.out.1.keep (gb_none (World.grownBy_alloc _ _ none) (gb_none (gb_drew _ none) (gb_drew _ none)))) HRL.out (by simp; omega) (by have := HX.out.2.2.1.size; simp; omega) ?_)
              intro v2 w2 ho2 hf2
              have H2 : Hid (RvI w g s V v2 w2 ∧ atR w2 g = K + 1) := by
                have hl := HD.out.1.lt
                have hg2 := (Fr.pre (gb_none (World.grownBy_alloc _ _ none) (gb_none (gb_drew _ none) (gb_drew _ none))) hf2).1
                have ht2 := HD.out.2.1.far hg2 (fun j hj => by have := (hl j hj).1; omega)
                exact ⟨⟨K + 1, 0, f', acc ++ [x], by omega, ho2, ht2, gb_trans HD.out.2.2 hg2 (fun j hj hlt => by have := (hl j (by first | exact hj | exact hj.symm)).1; omega), .inl ⟨rfl, by omega, by simp; omega, HVV.out⟩⟩, ht2.at⟩
              clear ho2 hf2 HD
              go_wp2
              go_roundw
              case rel => exact H2.out.1
              case measure =>
                rw [H2.out.2, HX.out.2.2.2]
                omega
        · rw [if_pos hkl] at HVV
          have hVe := HVV.out
          subst hVe
          rw [if_neg (by simp)] at HR
          have hki : (s.length : Int) ≤ (K : Int) := by omega
          have hki2 : ¬ (K : Int) < (s.length : Int) := by omega
          have HD : Hid (TxR wr.drew g s K 0 ∧ w.grownBy wr.drew (some g)) := ⟨HX.out.2.1.keep (gb_drew _ none), gb_none HX.out.2.2.1 (gb_drew _ none)⟩
          go_wp2_with fail
          go_region
          go_wp2_with fail
          refine (HFA.out _ K HD.out.1 K (by omega)).mono ?_
          rintro e w2 ⟨rfl, ht2, hg2⟩
          have H2 : Hid (TxR w2 g s K (K + 1) ∧ w.grownBy w2 (some g)) := ⟨ht2, gb_trans HD.out.2 hg2 (fun _ h _ => h.symm)⟩
          clear ht2 hg2 HD HFA
          go_wp2
          go_ret
          exact ⟨by (rw [HR.out]; first | done | rfl), ⟨K, hK, (fun h => by (rw [HR.out] at h; first | done | cases h)), by rw [HR.out]; exact H2.out.1⟩, H2.out.2⟩
      · have hbi : ((B : Int) == 0) = false := by rw [beq_eq_false_iff_ne]; omega
        have hbi2 : ¬ (B : Int) = 0 := by omega
        rw [if_neg (by rw [hV1]; simp)] at HR
        go_wp2
        go_ret
        exact ⟨by (rw [HR.out]; first | done | rfl), ⟨K, hK, (fun h => by (rw [HR.out] at h; first | done | cases h)), by (rw [HR.out]; show TxR _ _ _ _ (V.2.2 + 1); rw [← hV2]; exact HX.out.2.1)⟩, HX.out.2.2.1⟩
  · rw [if_neg hb] at HR
    have hbi : ((b1 : Int) == 0) = false := by rw [beq_eq_false_iff_ne]; omega
    have hbi2 : ¬ (b1 : Int) = 0 := by omega
    go_enter Tryd.func103, Tryd.ntmps103
    go_wp2_with fail
    refine HW.out.mono ?_
    rintro e w0 ⟨rfl, ht0, hg0⟩
    have H0 : Hid (TxR w0 g s k1 b1 ∧ w.grownBy w0 (some g)) := ⟨ht0, hg0⟩
    clear HW ht0 hg0
    go_wp2
    go_loopw [3] (fun _ wr => Hid (TxR wr g s k1 b1 ∧ w.grownBy wr (some g))) (fun _ _ => 0)
    case atStart => exact H0.out
    case round =>
      have HX : Hid (TxR wr g s k1 b1 ∧ w.grownBy wr (some g)) := hrel
      obtain ⟨c0, c1, c2, f1, f2⟩ := hrel.out.1.cells
      clear hrel
      go_wp2
      go_ret
      exact ⟨by (rw [HR.out]; first | done | rfl), ⟨k1, hwk, (fun h => by (rw [HR.out] at h; exact absurd h hb)), by rw [HR.out]; exact HX.out.1⟩, HX.out.2⟩
end Go.Proofs.YtkcgikgihbglnaaDoor
