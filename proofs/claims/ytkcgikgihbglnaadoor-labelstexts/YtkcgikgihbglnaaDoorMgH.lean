/-
  LbDt, LbDw, in one text.
-/
import Derived.Test.YtkcgikgihbglnaaDoorMgD
/- LbDt -/
namespace Go.Proofs.YtkcgikgihbglnaaDoor
open Go.RowKit

/-- the document's text in memory: the place, and where it can not go on -/
def TxR (w : World) (g : Nat) (s : List UInt8) (k b : Nat) : Prop := w.heap[g]? = some (.cells #[.string (ByteArray.mk ⟨s⟩), .int .i64 (k : Int), .int .i64 (b : Int)] 82 (0, 0))
theorem TxR.cells {w : World} {g : Nat} {s : List UInt8} {k b : Nat} (h : TxR w g s k b) : w.cell? ⟨g, 0, none⟩ = some (.string (ByteArray.mk ⟨s⟩)) ∧ w.cell? ⟨g, 1, none⟩ = some (.int .i64 (k : Int)) ∧ w.cell? ⟨g, 2, none⟩ = some (.int .i64 (b : Int)) ∧ w.frozen? ⟨g, 1, none⟩ = false ∧ w.frozen? ⟨g, 2, none⟩ = false := by
  unfold TxR at h
  exact ⟨by simp [World.cell?, h], by simp [World.cell?, h], by simp [World.cell?, h], by simp [World.frozen?, h], by simp [World.frozen?, h]⟩
theorem TxR.keep {w w' : World} {g : Nat} {s : List UInt8} {k b : Nat} (h : TxR w g s k b) (hg : w.grownBy w' none) : TxR w' g s k b := (hg.block g (Array.getElem?_eq_some_iff.1 h).1 (by simp)).trans h
theorem TxR.put {w : World} {g : Nat} {s : List UInt8} {k b : Nat} (h : TxR w g s k b) (k' : Nat) (K : Int) (hK : K = (k' : Int)) : TxR (w.setCell ⟨g, 1, none⟩ (.int .i64 K)) g s k' b ∧ w.grownBy (w.setCell ⟨g, 1, none⟩ (.int .i64 K)) (some g) := by
  subst hK
  refine ⟨?_, ⟨rfl, rfl, rfl, by simp, fun j _ hj => Below.heap_setCell _ _ _ _ (fun e => hj (by rw [e]))⟩⟩
  have := heap_setCell_same w g 1 _ _ (.int .i64 (k' : Int)) h
  unfold TxR
  rw [this]
  rfl
theorem TxR.bad {w : World} {g : Nat} {s : List UInt8} {k b : Nat} (h : TxR w g s k b) (b' : Nat) (K : Int) (hK : K = (b' : Int)) : TxR (w.setCell ⟨g, 2, none⟩ (.int .i64 K)) g s k b' ∧ w.grownBy (w.setCell ⟨g, 2, none⟩ (.int .i64 K)) (some g) := by
  subst hK
  refine ⟨?_, ⟨rfl, rfl, rfl, by simp, fun j _ hj => Below.heap_setCell _ _ _ _ (fun e => hj (by rw [e]))⟩⟩
  have := heap_setCell_same w g 2 _ _ (.int .i64 (b' : Int)) h
  unfold TxR
  rw [this]
  rfl
def failB (b at_ : Nat) : Nat := if b = 0 then at_ + 1 else b

set_option maxHeartbeats 1600000 in
theorem refFail_any (w : World) (g : Nat) (s : List UInt8) (k b p : Nat) (h : TxR w g s k b) (hp : p ≤ 1000000) :
    Calls Tryd.prog 70 #[.pointer (some ⟨g, 0, none⟩), .int .i64 (p : Int)] w fun e w' => e = .returned (.tuple #[]) ∧ TxR w' g s k (failB b p) ∧ w.grownBy w' (some g) := by
  have H0 : Hid (TxR w g s k b) := h
  obtain ⟨c0, c1, c2, f1, f2⟩ := h.cells
  clear h
  by_cases hb : b = 0
  · subst hb
    have HP := H0.out.bad (p + 1) ((p : Int) + 1) (by omega)
    have HF : Hid (TxR (w.setCell ⟨g, 2, none⟩ (.int .i64 ((p : Int) + 1))) g s k (failB 0 p) ∧ w.grownBy (w.setCell ⟨g, 2, none⟩ (.int .i64 ((p : Int) + 1))) (some g)) := ⟨HP.1, HP.2⟩
    clear HP
    go_enter Tryd.func70, Tryd.ntmps70
    go_wp2
    go_end0
    exact ⟨rfl, HF.out⟩
  · have hbi : ((b : Int) == 0) = false := by rw [beq_eq_false_iff_ne]; omega
    have hbi2 : ¬ (b : Int) = 0 := by omega
    have HF : Hid (failB b p = b) := if_neg hb
    go_enter Tryd.func70, Tryd.ntmps70
    go_wp2
    go_end0
    exact ⟨rfl, by rw [HF.out]; exact H0.out, gb_refl _ _⟩
theorem skp_at {s : List UInt8} {k : Nat} (hk : k < s.length) (h : pisBlank (s.getD k 0) = true) : skp s k = skp s (k + 1) := by
  unfold skp span
  have e : s.getD k 0 = s[k] := by simp [List.getD, hk]
  rw [List.drop_eq_getElem_cons hk, List.takeWhile_cons, ← e, if_pos h]
  simp
  omega
theorem skp_no {s : List UInt8} {k : Nat} (h : k < s.length → pisBlank (s.getD k 0) = false) : skp s k = k := by
  unfold skp span
  by_cases hk : k < s.length
  · have e : s.getD k 0 = s[k] := by simp [List.getD, hk]
    rw [List.drop_eq_getElem_cons hk, List.takeWhile_cons, ← e, h hk]
    simp
  · rw [List.drop_eq_nil_of_le (by omega)]
    simp
def atR (w : World) (g : Nat) : Nat := match w.cell? ⟨g, 1, none⟩ with | some (.int _ z) => z.toNat | _ => 0
theorem TxR.at {w : World} {g : Nat} {s : List UInt8} {k b : Nat} (h : TxR w g s k b) : atR w g = k := by
  unfold atR
  rw [h.cells.2.1]
  simp

set_option maxRecDepth 8000 in
set_option maxHeartbeats 3200000 in
theorem refBlanks_any (w : World) (g : Nat) (s : List UInt8) (k b : Nat) (h : TxR w g s k b) (hk : k ≤ s.length) (hs : s.length ≤ 1000000) :
    Calls Tryd.prog 68 #[.pointer (some ⟨g, 0, none⟩)] w fun e w' => e = .returned (.tuple #[]) ∧ TxR w' g s (skp s k) b ∧ w.grownBy w' (some g) := by
  have H0 : Hid (TxR w g s k b) := h
  have hz : (ByteArray.mk ⟨s⟩).size = s.length := rfl
  clear h
  go_enter Tryd.func68, Tryd.ntmps68
  go_wp2
  go_loopw [2] (fun _ wr => ∃ K : Nat, K ≤ s.length ∧ Hid (skp s K = skp s k ∧ TxR wr g s K b ∧ w.grownBy wr (some g))) (fun _ wr => s.length - atR wr g)
  case atStart => exact ⟨k, hk, rfl, H0.out, gb_refl _ _⟩
  case round =>
    obtain ⟨K, hK, hr⟩ := hrel
    obtain ⟨c0, c1, c2, f1, f2⟩ := hr.out.2.1.cells
    have HA : Hid (atR wr g = K) := hr.out.2.1.at
    have HX : Hid (skp s K = skp s k ∧ TxR wr g s K b ∧ w.grownBy wr (some g)) := hr.out
    clear hr
    by_cases hkl : K < s.length
    · have hbn := byte_at hkl
      have hki : (K : Int) < (s.length : Int) := by omega
      have HY := @skp_at s K hkl
      have HZ := @skp_no s K
      generalize s.getD K 0 = x at *
      by_cases x1 : x = 32
      · subst x1
        have HSK : Hid (skp s K = skp s (K + 1)) := HY (by decide)
        clear HY HZ
        go_wp2_with fail
        go_region
        go_wp2
        go_roundw
        case rel =>
          have hd : wr.grownBy wr.drew none := gb_drew _ none
          have hp1 := (HX.out.2.1.keep hd).put (K + 1) ((K : Int) + 1) (by omega)
          exact ⟨K + 1, by omega, by rw [← HSK.out]; exact HX.out.1, hp1.1, gb_trans (gb_none HX.out.2.2 hd) hp1.2 (fun _ h _ => h.symm)⟩
        case measure =>
          have hp1 := ((HX.out.2.1.put (K + 1) ((K : Int) + 1) (by omega)).1.keep (gb_drew _ none)).at
          rw [hp1, HA.out]
          omega
      · have y1 : x.toNat ≠ 32 := fun h => x1 (UInt8.toNat_inj.1 h)
        have e1 : ((x.toNat : Int) == 32) = false := by rw [beq_eq_false_iff_ne]; omega
        have e1' : ¬ (x.toNat : Int) = 32 := by omega
        by_cases x2 : x = 9
        · subst x2
          have HSK : Hid (skp s K = skp s (K + 1)) := HY (by decide)
          clear HY HZ e1 e1' y1
          go_wp2_with fail
          go_region
          go_wp2
          go_roundw
          case rel =>
            have hd : wr.grownBy wr.drew none := gb_drew _ none
            have hp1 := (HX.out.2.1.keep hd).put (K + 1) ((K : Int) + 1) (by omega)
            exact ⟨K + 1, by omega, by rw [← HSK.out]; exact HX.out.1, hp1.1, gb_trans (gb_none HX.out.2.2 hd) hp1.2 (fun _ h _ => h.symm)⟩
          case measure =>
            have hp1 := ((HX.out.2.1.put (K + 1) ((K : Int) + 1) (by omega)).1.keep (gb_drew _ none)).at
            rw [hp1, HA.out]
            omega
        · have y2 : x.toNat ≠ 9 := fun h => x2 (UInt8.toNat_inj.1 h)
          have e2 : ((x.toNat : Int) == 9) = false := by rw [beq_eq_false_iff_ne]; omega
          have e2' : ¬ (x.toNat : Int) = 9 := by omega
          have HSK : Hid (skp s K = K) := HZ (fun _ => by unfold pisBlank; rw [decide_eq_false (by omega)])
          clear HY HZ y1 y2 x1 x2
          go_wp2_with fail
          go_region
          go_wp2
          go_end0
          have hd : wr.grownBy wr.drew none := gb_drew _ none
          exact ⟨rfl, by rw [← HX.out.1, HSK.out]; exact HX.out.2.1.keep hd, gb_none HX.out.2.2 hd⟩
    · have hki : ¬ (K : Int) < (s.length : Int) := by omega
      have HSK : Hid (skp s K = K) := skp_no (fun h => absurd h hkl)
      go_wp2_with fail
      go_region
      go_wp2
      go_end0
      have hd : wr.grownBy wr.drew none := gb_drew _ none
      exact ⟨rfl, by rw [← HX.out.1, HSK.out]; exact HX.out.2.1.keep hd, gb_none HX.out.2.2 hd⟩

set_option maxRecDepth 8000 in
set_option maxHeartbeats 3200000 in
theorem refIs_any (w : World) (g : Nat) (s : List UInt8) (k b : Nat) (c : UInt8) (h : TxR w g s k b) (hk : k ≤ s.length) (hs : s.length ≤ 1000000) :
    Calls Tryd.prog 71 #[.pointer (some ⟨g, 0, none⟩), .int .u8 (c.toNat : Int)] w fun e w' => e = .returned (.bool (tkB s k c)) ∧ TxR w' g s (tkK s k c) b ∧ w.grownBy w' (some g) := by
  have HB : Hid (Calls Tryd.prog 68 #[.pointer (some ⟨g, 0, none⟩)] w fun e w' => e = .returned (.tuple #[]) ∧ TxR w' g s (skp s k) b ∧ w.grownBy w' (some g)) := refBlanks_any w g s k b h hk hs
  have hz : (ByteArray.mk ⟨s⟩).size = s.length := rfl
  have hK := skp_le s k hk
  have HTB : Hid (tkB s k c = (decide (skp s k < s.length) && decide (s.getD (skp s k) 0 = c)) ∧ tkK s k c = if tkB s k c = true then skp s k + 1 else skp s k) := ⟨rfl, rfl⟩
  generalize tkK s k c = tk at *
  generalize tkB s k c = tb at *
  generalize skp s k = K at *
  clear h hk
  by_cases hkl : K < s.length
  · have hbn := byte_at hkl
    have hki : (K : Int) < (s.length : Int) := by omega
    generalize s.getD K 0 = x at *
    by_cases hx : x = c
    · subst hx
      have h1 : tb = true := by rw [HTB.out.1, decide_eq_true hkl]; simp
      have h2 : tk = K + 1 := by rw [HTB.out.2, if_pos h1]
      subst h1 h2
      have e1 : ((x.toNat : Int) == (x.toNat : Int)) = true := by simp
      clear HTB
      go_enter Tryd.func71, Tryd.ntmps71
      go_wp2_with fail
      refine HB.out.mono ?_
      rintro e w1 ⟨rfl, ht1, hg1⟩
      obtain ⟨c0, c1, c2, f1, f2⟩ := ht1.cells
      have H1 : Hid (TxR w1 g s K b ∧ w.grownBy w1 (some g)) := ⟨ht1, hg1⟩
      clear HB ht1 hg1
      go_wp2_with fail
      go_region
      go_wp2
      go_ret
      have hp1 := H1.out.1.put (K + 1) ((K : Int) + 1) (by omega)
      exact ⟨rfl, hp1.1.keep (gb_drew _ none), gb_none (gb_trans H1.out.2 hp1.2 (fun _ h _ => h.symm)) (gb_drew _ none)⟩
    · have h1 : tb = false := by rw [HTB.out.1, decide_eq_false hx]; simp
      have h2 : tk = K := by rw [HTB.out.2, if_neg (by rw [h1]; simp)]
      subst h1 h2
      have y1 : x.toNat ≠ c.toNat := fun h => hx (UInt8.toNat_inj.1 h)
      have e1 : ((x.toNat : Int) == (c.toNat : Int)) = false := by rw [beq_eq_false_iff_ne]; omega
      have e1' : ¬ (x.toNat : Int) = (c.toNat : Int) := by omega
      have e1'' : ¬ x.toNat = c.toNat := y1
      clear HTB
      go_enter Tryd.func71, Tryd.ntmps71
      go_wp2_with fail
      refine HB.out.mono ?_
      rintro e w1 ⟨rfl, ht1, hg1⟩
      obtain ⟨c0, c1, c2, f1, f2⟩ := ht1.cells
      have H1 : Hid (TxR w1 g s tk b ∧ w.grownBy w1 (some g)) := ⟨ht1, hg1⟩
      clear HB ht1 hg1
      go_wp2_with fail
      go_region
      go_wp2
      go_ret
      exact ⟨rfl, H1.out.1.keep (gb_drew _ none), gb_none H1.out.2 (gb_drew _ none)⟩
  · have hki : ¬ (K : Int) < (s.length : Int) := by omega
    have h1 : tb = false := by rw [HTB.out.1, decide_eq_false hkl]; simp
    have h2 : tk = K := by rw [HTB.out.2, if_neg (by rw [h1]; simp)]
    subst h1 h2
    clear HTB
    go_enter Tryd.func71, Tryd.ntmps71
    go_wp2_with fail
    refine HB.out.mono ?_
    rintro e w1 ⟨rfl, ht1, hg1⟩
    obtain ⟨c0, c1, c2, f1, f2⟩ := ht1.cells
    have H1 : Hid (TxR w1 g s tk b ∧ w.grownBy w1 (some g)) := ⟨ht1, hg1⟩
    clear HB ht1 hg1
    go_wp2_with fail
    go_region
    go_wp2
    go_ret
    exact ⟨rfl, H1.out.1.keep (gb_drew _ none), gb_none H1.out.2 (gb_drew _ none)⟩
end Go.Proofs.YtkcgikgihbglnaaDoor

/- LbDw -/
namespace Go.Proofs.YtkcgikgihbglnaaDoor
open Go.RowKit

/-- the place and the fault behind a sign that must stand there -/
def wantS (s : List UInt8) (k b : Nat) (c : UInt8) : Nat × Nat := if b = 0 then (if tkB s k c = true then (tkK s k c, 0) else (tkK s k c, tkK s k c + 1)) else (k, b)

theorem tkK_len (s : List UInt8) (k : Nat) (c : UInt8) (hk : k ≤ s.length) : tkK s k c ≤ s.length := by
  have := skp_le s k hk
  unfold tkK
  by_cases h : tkB s k c = true
  · rw [if_pos h]
    unfold tkB at h
    simp at h
    omega
  · rw [if_neg h]; exact this
set_option maxRecDepth 8000 in
set_option maxHeartbeats 3200000 in
theorem refWant_any (w : World) (g : Nat) (s : List UInt8) (k b : Nat) (c : UInt8) (h : TxR w g s k b) (hk : k ≤ s.length) (hs : s.length ≤ 1000000) :
    Calls Tryd.prog 102 #[.pointer (some ⟨g, 0, none⟩), .int .u8 (c.toNat : Int)] w fun e w' => e = .returned (.tuple #[]) ∧ TxR w' g s (wantS s k b c).1 (wantS s k b c).2 ∧ w.grownBy w' (some g) := by
  have H0 : Hid (TxR w g s k b) := h
  obtain ⟨c0, c1, c2, f1, f2⟩ := h.cells
  have HI : Hid (Calls Tryd.prog 71 #[.pointer (some ⟨g, 0, none⟩), .int .u8 (c.toNat : Int)] w fun e w' => e = .returned (.bool (tkB s k c)) ∧ TxR w' g s (tkK s k c) b ∧ w.grownBy w' (some g)) := refIs_any w g s k b c h hk hs
  have HW : Hid (wantS s k b c = if b = 0 then (if tkB s k c = true then (tkK s k c, 0) else (tkK s k c, tkK s k c + 1)) else (k, b)) := rfl
  have hK := tkK_len s k c hk
  have HFA : Hid (∀ W, TxR W g s (tkK s k c) 0 → Calls Tryd.prog 70 #[.pointer (some ⟨g, 0, none⟩), .int .i64 ((tkK s k c : Nat) : Int)] W fun e w' => e = .returned (.tuple #[]) ∧ TxR w' g s (tkK s k c) (tkK s k c + 1) ∧ W.grownBy w' (some g)) := fun W hW => refFail_any W g s (tkK s k c) 0 (tkK s k c) hW (by omega)
  generalize wantS s k b c = R at *
  generalize tkK s k c = K at *
  clear h
  by_cases hb : b = 0
  · subst hb
    rw [if_pos rfl] at HW
    cases ht : tkB s k c with
    | true =>
      rw [if_pos ht] at HW
      rw [ht] at HI
      have hR := HW.out
      subst hR
      clear ht
      dsimp only
      go_enter Tryd.func102, Tryd.ntmps102
      go_wp2_with fail
      refine HI.out.mono ?_
      rintro e w1 ⟨rfl, ht1, hg1⟩
      have H1 : Hid (TxR w1 g s K 0 ∧ w.grownBy w1 (some g)) := ⟨ht1, hg1⟩
      clear HI ht1 hg1
      go_wp2
      go_end0
      exact ⟨rfl, H1.out⟩
    | false =>
      rw [if_neg (by rw [ht]; simp)] at HW
      rw [ht] at HI
      have hR := HW.out
      subst hR
      clear ht
      dsimp only
      go_enter Tryd.func102, Tryd.ntmps102
      go_wp2_with fail
      refine HI.out.mono ?_
      rintro e w1 ⟨rfl, ht1, hg1⟩
      have H1 : Hid (TxR w1 g s K 0 ∧ w.grownBy w1 (some g)) := ⟨ht1, hg1⟩
      obtain ⟨d0, d1, d2, -, -⟩ := ht1.cells
      clear HI ht1 hg1
      go_wp2_with fail
      refine (HFA.out _ H1.out.1).mono ?_
      rintro e w2 ⟨rfl, ht2, hg2⟩
      have H2 : Hid (TxR w2 g s K (K + 1) ∧ w.grownBy w2 (some g)) := ⟨ht2, gb_trans H1.out.2 hg2 (fun _ h _ => h.symm)⟩
      clear HFA ht2 hg2
      go_wp2
      go_end0
      exact ⟨rfl, H2.out⟩
  · rw [if_neg hb] at HW
    have hbi : ((b : Int) == 0) = false := by rw [beq_eq_false_iff_ne]; omega
    have hbi2 : ¬ (b : Int) = 0 := by omega
    have hR := HW.out
    subst hR
    dsimp only
    go_enter Tryd.func102, Tryd.ntmps102
    go_wp2
    go_end0
    exact ⟨rfl, H0.out, gb_refl _ _⟩
end Go.Proofs.YtkcgikgihbglnaaDoor
