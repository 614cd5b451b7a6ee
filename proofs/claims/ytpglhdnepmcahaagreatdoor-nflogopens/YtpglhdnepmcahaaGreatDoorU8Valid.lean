/-
  Are bytes right UTF-8: utf8.Valid: the walk.
-/
import Derived.Test.YtpglhdnepmcahaaGreatDoorVmG
import Derived.Test.YtpglhdnepmcahaaGreatDoorVmA
namespace Go.Proofs.YtpglhdnepmcahaaGreatDoor
open Go.RowKit Go.Lib

theorem hid_mk' {p : Prop} (h : p) : Hid p := h
/-- the bytes from a place of a block on -/
def RL (w : World) (b o : Nat) (l : List UInt8) : Prop := ∀ j, j < l.length → w.cell? ⟨b, o + j, none⟩ = some (.int .u8 ((l.getD j 0).toNat : Int))
theorem RL.drop {w : World} {b o : Nat} {l : List UInt8} (h : RL w b o l) (k : Nat) : RL w b (o + k) (l.drop k) := fun j hj => by
  simp only [List.length_drop] at hj
  have := h (k + j) (by omega)
  rw [show o + k + j = o + (k + j) by omega, this]
  simp [List.getD, List.getElem?_drop]
theorem RL.keep {w w' : World} {b o : Nat} {l : List UInt8} (h : RL w b o l) (hg : w.grownBy w' none) : RL w' b o l := fun j hj => cell_keep (h j hj) hg
theorem RL.one {w : World} {b o : Nat} {l : List UInt8} (h : RL w b o l) (hl : 0 < l.length) : w.cell? ⟨b, o, none⟩ = some (.int .u8 ((l.getD 0 0).toNat : Int)) := h 0 hl
/-- the number of the first eight -/
def wd (l : List UInt8) : Nat := leNat (l.take 8)
theorem take8 {l : List UInt8} (h : 8 ≤ l.length) : l.take 8 = [l.getD 0 0, l.getD 1 0, l.getD 2 0, l.getD 3 0, l.getD 4 0, l.getD 5 0, l.getD 6 0, l.getD 7 0] := by
  match l, h with
  | x0 :: x1 :: x2 :: x3 :: x4 :: x5 :: x6 :: x7 :: r, _ => rfl
theorem wd_lt {l : List UInt8} (h : 8 ≤ l.length) : wd l < 18446744073709551616 := by
  have := leNat_lt (l.take 8)
  rw [show (l.take 8).length = 8 by rw [List.length_take]; omega] at this
  exact this
theorem wd_asc {l : List UInt8} (h : 8 ≤ l.length) : wd l &&& 9259542123273814144 = 0 ↔ ∀ b ∈ l.take 8, b.toNat < 128 := by
  have := leNat_mask (l.take 8)
  rw [show (l.take 8).length = 8 by rw [List.length_take]; omega, maskN8] at this
  exact this
theorem word_rl {w : World} {b o : Nat} {l : List UInt8} (h : RL w b o l) (hl : 8 ≤ l.length) : Calls Tryz.prog 118 #[.slice (some ⟨b, o, none⟩) l.length l.length] w fun e w' => e = .returned (.int .u64 (wd l : Int)) ∧ ∃ q, w' = w.drewN q := by
  rw [wd, take8 hl]
  exact word_any b o l.length _ _ _ _ _ _ _ _ w hl (h 0 (by omega)) (h 1 (by omega)) (h 2 (by omega)) (h 3 (by omega)) (h 4 (by omega)) (h 5 (by omega)) (h 6 (by omega)) (h 7 (by omega))
theorem asc_more {l : List UInt8} {a c : Nat} (h1 : ∀ b ∈ l.take a, b.toNat < 128) (h2 : ∀ b ∈ (l.drop a).take c, b.toNat < 128) : ∀ b ∈ l.take (a + c), b.toNat < 128 := by
  intro b hb
  rw [List.take_add] at hb
  rcases List.mem_append.1 hb with h | h
  · exact h1 b h
  · exact h2 b h
theorem or_mask' (a b : Nat) : (a ||| b) &&& 9259542123273814144 = 0 ↔ a &&& 9259542123273814144 = 0 ∧ b &&& 9259542123273814144 = 0 := or_mask a b _
/-- the tables -/
structure U8Tab (w : World) : Prop where
  f : ∀ c, c < 256 → w.cell? ⟨0, c, none⟩ = some (.int .u8 (firstT c : Int))
  a : ∀ i, i < 16 → w.cell? ⟨1, i * 2, none⟩ = some (.int .u8 (accLo i : Int)) ∧ w.cell? ⟨1, i * 2 + 1, none⟩ = some (.int .u8 (accHi i : Int))
theorem U8Tab.keep {w w' : World} (h : U8Tab w) (hg : w.grownBy w' none) : U8Tab w' := ⟨fun c hc => cell_keep (h.f c hc) hg, fun i hi => ⟨cell_keep (h.a i hi).1 hg, cell_keep (h.a i hi).2 hg⟩⟩
def sliceLen : Value → Nat
  | .slice _ n _ => n
  | _ => 0
set_option maxRecDepth 100000 in
theorem and7' : ∀ X : Fin 256, bits .and .u8 ((X.val : Nat) : Int) 7 = ((X.val % 8 : Nat) : Int) := by decide
/-- what is still to be looked at -/
def VSt (wr : World) (b n : Nat) (ANS : Bool) (v : Value) : Prop := ∃ a l, v = .slice a (List.length l) l.length ∧ l.length = n ∧ validD l = ANS ∧ (l ≠ [] → ∃ o, a = some ⟨b, o, none⟩ ∧ RL wr b o l)

theorem VSt.cut {wr : World} {b o : Nat} {l : List UInt8} {ANS : Bool} (hR : RL wr b o l) (k m : Nat) (hm : l.length = m + k) (hA : validD (l.drop k) = ANS) : VSt wr b m ANS (.slice (some ⟨b, o + k, none⟩) m m) :=
  ⟨_, l.drop k, by simp [hm], by simp [hm], hA, fun _ => ⟨o + k, rfl, hR.drop k⟩⟩
theorem VSt.fin {wr : World} {b : Nat} {l : List UInt8} {ANS : Bool} (a : Option Addr) (k : Nat) (hk : l.length ≤ k) (hA : validD (l.drop k) = ANS) : VSt wr b 0 ANS (.slice a 0 0) := by
  rw [List.drop_eq_nil_of_le hk] at hA
  exact ⟨a, [], rfl, rfl, hA, fun h => absurd rfl h⟩
theorem VSt.keep {wr wr' : World} {b n : Nat} {ANS : Bool} {v : Value} (h : VSt wr b n ANS v) (hg : wr.grownBy wr' none) : VSt wr' b n ANS v := by
  obtain ⟨a, l, h1, h2, h3, h4⟩ := h
  refine ⟨a, l, h1, h2, h3, fun hn => ?_⟩
  obtain ⟨o, ho, hr⟩ := h4 hn
  exact ⟨o, ho, hr.keep hg⟩
theorem gb_drewq (w : World) (m : Nat) (g : Option Nat) : w.grownBy (w.drewN m) g := ⟨rfl, rfl, rfl, Nat.le_refl _, fun _ _ _ => rfl⟩
theorem valid_drop {l : List UInt8} {a k : Nat} (h : ∀ b ∈ (l.drop a).take k, b.toNat < 128) : validD (l.drop (a + k)) = validD (l.drop a) := by
  rw [validD_ascii k (l.drop a) h, List.drop_drop]
/-- the first eight from a place on, as a number -/
theorem word_at {w W : World} {b o : Nat} {l : List UInt8} (h : RL w b o l) (k m : Nat) (hm : l.length = m + k) (h8 : 8 ≤ m) (hg : w.grownBy W none) :
    Calls Tryz.prog 118 #[.slice (some ⟨b, o + k, none⟩) m m] W fun e w' => e = .returned (.int .u64 (wd (l.drop k) : Int)) ∧ ∃ q, w' = W.drewN q := by
  have hl : (l.drop k).length = m := by simp [hm]
  have := word_rl ((h.drop k).keep hg) (by omega)
  rw [hl] at this
  exact this
theorem wd_at {l : List UInt8} (k m : Nat) (hm : l.length = m + k) (h8 : 8 ≤ m) : wd (l.drop k) < 18446744073709551616 ∧ (wd (l.drop k) &&& 9259542123273814144 = 0 ↔ ∀ b ∈ (l.drop k).take 8, b.toNat < 128) := by
  have hl : (l.drop k).length = m := by simp [hm]
  exact ⟨wd_lt (by omega), wd_asc (by omega)⟩

set_option maxRecDepth 100000 in
set_option maxHeartbeats 16000000 in
theorem valid_walk (w : World) (b o c : Nat) (l : List UInt8) (h : RL w b o l) (hc : l.length ≤ c) (hm : c ≤ maxLen) (hT : U8Tab w) :
    Calls Tryz.prog 100 #[.slice (some ⟨b, o, none⟩) l.length c] w fun e w' => e = .returned (.bool (validD l)) ∧ w.grownBy w' none := by
  have hm2 : (l.length : Int) ≤ 9223372036854775807 := by unfold maxLen at hm; omega
  have hc2 : (l.length : Int) ≤ (c : Int) := by omega
  have HT := hid_mk' hT
  obtain ⟨ANS, hA⟩ : ∃ ANS, validD l = ANS := ⟨_, rfl⟩
  rw [hA]
  have HI : Hid (VSt w b l.length ANS (.slice (some ⟨b, o, none⟩) l.length l.length)) := ⟨_, l, rfl, rfl, hA, fun _ => ⟨o, rfl, h⟩⟩
  clear h hA hT
  generalize l.length = N at *
  go_enter Tryz.func100, Tryz.ntmps100
  go_wp2
  go_loopw [0] (fun v wr => ∃ n a, n ≤ N ∧ v = .slice a n n ∧ Hid (VSt wr b n ANS v ∧ w.grownBy wr none)) (fun v _ => sliceLen v)
  case atStart => exact ⟨N, _, Nat.le_refl _, rfl, HI.out, gb_refl _ _⟩
  case round =>
    obtain ⟨n, a, hn, rfl, HV⟩ := hrel
    by_cases h0 : 0 < n
    · have h0z : (0 : Int) < (n : Int) := by omega
      obtain ⟨⟨a', l', hv', hl', hA', hr'⟩, hgw⟩ := HV.out
      have hne : l' ≠ [] := fun e => by rw [e] at hl'; simp at hl'; omega
      obtain ⟨o', ha', hR⟩ := hr' hne
      have e1 : a = some ⟨b, o', none⟩ := by
        simp only [Value.slice.injEq] at hv'
        rw [hv'.1, ha']
      subst e1
      have HR : Hid (RL wr b o' l' ∧ l'.length = n ∧ validD l' = ANS ∧ l' ≠ [] ∧ w.grownBy wr none) := ⟨hR, hl', hA', hne, hgw⟩
      have c0 := hR.one (by omega)
      obtain ⟨x0, hx0⟩ : ∃ x0, l'.getD 0 0 = x0 := ⟨_, rfl⟩
      have HX0 : Hid (l'.getD 0 0 = x0) := hx0
      rw [hx0] at c0
      have hx0lt : x0.toNat < 256 := x0.toNat_lt
      clear hv' ha' hr' hR hl' hA' hne hgw hx0 HV
      by_cases hasc : x0.toNat < 128
      · as_aux_lemma =>
        have hascz : (x0.toNat : Int) < 128 := by omega
        have HD : Hid (validD (l'.drop 1) = ANS) := by
          show validD (l'.drop 1) = ANS
          rw [← validD_ascii 1 l', HR.out.2.2.1]
          intro y hy
          have hl0 : l' = x0 :: l'.drop 1 := by
            have := HR.out.2.2.2.1
            match l', this, HX0.out with
            | z :: r, _, h => simp at h; simp [h]
          rw [hl0] at hy
          simp at hy
          rw [hy]
          exact hasc
        by_cases hn1 : n = 1
        · subst hn1
          go_wp2
          exact ⟨⟨0, _, by omega, rfl, VSt.fin _ 1 (by have := HR.out.2.1; omega) HD.out, HR.out.2.2.2.2⟩, by simp [sliceLen]⟩
        · obtain ⟨n1, rfl⟩ : ∃ n1, n = n1 + 1 := ⟨n - 1, by omega⟩
          have hn1z : (1 : Int) < ((n1 + 1 : Nat) : Int) := by omega
          by_cases c8 : 8 < n1
          · obtain ⟨n2, rfl⟩ : ∃ n2, n1 = n2 + 8 := ⟨n1 - 8, by omega⟩
            have c8z : (8 : Int) < ((n2 + 8 : Nat) : Int) := by omega
            have HW1 : Hid (∀ W, wr.grownBy W none → Calls Tryz.prog 118 #[.slice (some ⟨b, o' + 1, none⟩) (n2 + 8) (n2 + 8)] W fun e w' => e = .returned (.int .u64 (wd (l'.drop 1) : Int)) ∧ ∃ q, w' = W.drewN q) := fun W hg => word_at HR.out.1 1 (n2 + 8) (by have := HR.out.2.1; omega) (by omega) hg
            have HK1 : Hid (wd (l'.drop 1) < 18446744073709551616 ∧ (wd (l'.drop 1) &&& 9259542123273814144 = 0 ↔ ∀ b ∈ (l'.drop 1).take 8, b.toNat < 128)) := wd_at 1 (n2 + 8) (by have := HR.out.2.1; omega) (by omega)
            generalize wd (l'.drop 1) = A1 at HW1 HK1
            have hand1 : bits .and .u64 (A1 : Int) 9259542123273814144 = ((A1 &&& 9259542123273814144 : Nat) : Int) := u64_and_nat A1 9259542123273814144 HK1.out.1 (by omega)
            have HZ1 : Hid (A1 &&& 9259542123273814144 = 0 → validD (l'.drop (1 + 8)) = ANS) := fun h => (valid_drop (HK1.out.2.1 h)).trans HD.out
            generalize A1 &&& 9259542123273814144 = Z1 at hand1 HZ1
            clear HK1
            by_cases hz1 : Z1 = 0
            · subst hz1
              have HD2 := hid_mk' (HZ1.out rfl)
              clear HZ1
              by_cases c16 : 16 < n2
              · obtain ⟨n3, rfl⟩ : ∃ n3, n2 = n3 + 16 := ⟨n2 - 16, by omega⟩
                have c16z : (16 : Int) < ((n3 + 16 : Nat) : Int) := by omega
                have c16b : decide ((16 : Int) < (n3 : Int) + 16) = true := decide_eq_true (by omega)
                have HL9 : Hid (l'.length = n3 + 16 + 9) := by have := HR.out.2.1; show l'.length = n3 + 16 + 9; omega
                have HW2 : Hid (∀ W, wr.grownBy W none → Calls Tryz.prog 118 #[.slice (some ⟨b, o' + 1 + 8, none⟩) (n3 + 16) (n3 + 16)] W fun e w' => e = .returned (.int .u64 (wd (l'.drop 9) : Int)) ∧ ∃ q, w' = W.drewN q) := fun W hg => word_at HR.out.1 9 (n3 + 16) HL9.out (by omega) hg
                have HW3 : Hid (∀ W, wr.grownBy W none → Calls Tryz.prog 118 #[.slice (some ⟨b, o' + 1 + 8 + 8, none⟩) (n3 + 8) (n3 + 8)] W fun e w' => e = .returned (.int .u64 (wd (l'.drop 17) : Int)) ∧ ∃ q, w' = W.drewN q) := fun W hg => word_at HR.out.1 17 (n3 + 8) (by have := HL9.out; omega) (by omega) hg
                have HK2 := hid_mk' (wd_at (l := l') 9 (n3 + 16) HL9.out (by omega))
                have HK3 := hid_mk' (wd_at (l := l') 17 (n3 + 8) (by have := HL9.out; omega) (by omega))
                generalize wd (l'.drop 9) = A2 at HW2 HK2
                generalize wd (l'.drop 17) = A3 at HW3 HK3
                have hor2 : bits .or .u64 (A2 : Int) (A3 : Int) = ((A2 ||| A3 : Nat) : Int) := u64_or_nat A2 A3 HK2.out.1 HK3.out.1
                have hand2 : bits .and .u64 ((A2 ||| A3 : Nat) : Int) 9259542123273814144 = (((A2 ||| A3) &&& 9259542123273814144 : Nat) : Int) := u64_and_nat _ 9259542123273814144 (Nat.or_lt_two_pow (n := 64) HK2.out.1 HK3.out.1) (by omega)
                have HZ2 : Hid ((A2 ||| A3) &&& 9259542123273814144 = 0 → validD (l'.drop 25) = ANS) := fun h => by
                  obtain ⟨g1, g2⟩ := (or_mask' A2 A3).1 h
                  exact (valid_drop (l := l') (a := 9) (k := 16) (asc_more (a := 8) (c := 8) (HK2.out.2.1 g1) (by rw [List.drop_drop]; exact HK3.out.2.1 g2))).trans HD2.out
                generalize A2 ||| A3 = O2 at hor2 hand2 HZ2
                generalize O2 &&& 9259542123273814144 = Z2 at hand2 HZ2
                clear HK2 HK3
                go_wp2_with fail
                refine (HW1.out _ (gb_refl _ _)).mono ?_
                rintro e W1 ⟨rfl, q1, rfl⟩
                have HG1 : Hid (wr.grownBy (wr.drewN q1) none) := gb_drewq _ _ _
                generalize wr.drewN q1 = wq at HG1 ⊢
                have HQ2 : Hid (∀ n, Calls Tryz.prog 118 #[.slice (some ⟨b, o' + 1 + 8, none⟩) (n3 + 16) (n3 + 16)] (wq.drewN n) fun e w' => e = .returned (.int .u64 (A2 : Int)) ∧ ∃ m, w' = (wq.drewN n).drewN m) := fun n => HW2.out _ (gb_none HG1.out (gb_drewq _ _ _))
                have HQ3 : Hid (∀ n, Calls Tryz.prog 118 #[.slice (some ⟨b, o' + 1 + 8 + 8, none⟩) (n3 + 8) (n3 + 8)] (wq.drewN n) fun e w' => e = .returned (.int .u64 (A3 : Int)) ∧ ∃ m, w' = (wq.drewN n).drewN m) := fun n => HW3.out _ (gb_none HG1.out (gb_drewq _ _ _))
                clear HW1 HW2 HW3
                by_cases hz2 : Z2 = 0
                · subst hz2
                  have HD3 := hid_mk' (HZ2.out rfl)
                  clear HZ2
                  have HI3 : Hid (∀ W, wq.grownBy W none → VSt W b n3 ANS (.slice (some ⟨b, o' + 1 + 8 + 16, none⟩) n3 n3) ∧ w.grownBy W none) := fun W hg => ⟨(VSt.cut HR.out.1 25 n3 (by have := HL9.out; omega) HD3.out).keep (gb_none HG1.out hg), gb_none HR.out.2.2.2.2 (gb_none HG1.out hg)⟩
                  go_wp2_with fail
                  go_big_quiet (first | (go_at_call 118; with_reducible exact Calls.quiet_of (HQ2.out _)) | (go_at_call 118; with_reducible exact Calls.quiet_of (HQ3.out _)))
                  have HI4 := hid_mk' (HI3.out _ (gb_drewq wq nq none))
                  generalize wq.drewN nq = wq2 at HI4 ⊢
                  clear HQ2 HQ3 HI3 hor2 hand2 hand1 HD HD2 HD3 HL9 HR HX0 c0
                  go_wp2
                  go_loopw [0] (fun v wx => ∃ m a, m ≤ n3 ∧ v = .slice a m m ∧ Hid (VSt wx b m ANS v ∧ w.grownBy wx none)) (fun v _ => sliceLen v)
                  case atStart => exact ⟨n3, _, Nat.le_refl _, rfl, HI4.out⟩
                  case round =>
                    obtain ⟨m, a2, hm3, rfl, HV2⟩ := hrel
                    by_cases c32 : 32 < m
                    · obtain ⟨m4, rfl⟩ : ∃ m4, m = m4 + 32 := ⟨m - 32, by omega⟩
                      have c32b : decide ((32 : Int) < (m4 : Int) + 32) = true := decide_eq_true (by omega)
                      have c32z : (32 : Int) < ((m4 + 32 : Nat) : Int) := by omega
                      obtain ⟨⟨a3, l2, hv3, hl3, hA3, hr3⟩, hgw⟩ := HV2.out
                      obtain ⟨o2, ha3, hR2⟩ := hr3 (fun e => by rw [e] at hl3; simp at hl3)
                      have e1 : a2 = some ⟨b, o2, none⟩ := by
                        simp only [Value.slice.injEq] at hv3
                        rw [hv3.1, ha3]
                      subst e1
                      have HR2 : Hid (RL wr b o2 l2 ∧ l2.length = m4 + 32 ∧ validD l2 = ANS ∧ w.grownBy wr none) := ⟨hR2, hl3, hA3, hgw⟩
                      clear hv3 ha3 hr3 hR2 hl3 hA3 hgw HI4
                      have HQa : Hid (∀ n, Calls Tryz.prog 118 #[.slice (some ⟨b, o2, none⟩) (m4 + 32) (m4 + 32)] (wr.drewN n) fun e w' => e = .returned (.int .u64 (wd (l2.drop 0) : Int)) ∧ ∃ m, w' = (wr.drewN n).drewN m) := fun n => word_at HR2.out.1 0 (m4 + 32) HR2.out.2.1 (by omega) (gb_drewq _ _ _)
                      have HQb : Hid (∀ n, Calls Tryz.prog 118 #[.slice (some ⟨b, o2 + 8, none⟩) (m4 + 24) (m4 + 24)] (wr.drewN n) fun e w' => e = .returned (.int .u64 (wd (l2.drop 8) : Int)) ∧ ∃ m, w' = (wr.drewN n).drewN m) := fun n => word_at HR2.out.1 8 (m4 + 24) (by have := HR2.out.2.1; omega) (by omega) (gb_drewq _ _ _)
                      have HQc : Hid (∀ n, Calls Tryz.prog 118 #[.slice (some ⟨b, o2 + 16, none⟩) (m4 + 16) (m4 + 16)] (wr.drewN n) fun e w' => e = .returned (.int .u64 (wd (l2.drop 16) : Int)) ∧ ∃ m, w' = (wr.drewN n).drewN m) := fun n => word_at HR2.out.1 16 (m4 + 16) (by have := HR2.out.2.1; omega) (by omega) (gb_drewq _ _ _)
                      have HQd : Hid (∀ n, Calls Tryz.prog 118 #[.slice (some ⟨b, o2 + 24, none⟩) (m4 + 8) (m4 + 8)] (wr.drewN n) fun e w' => e = .returned (.int .u64 (wd (l2.drop 24) : Int)) ∧ ∃ m, w' = (wr.drewN n).drewN m) := fun n => word_at HR2.out.1 24 (m4 + 8) (by have := HR2.out.2.1; omega) (by omega) (gb_drewq _ _ _)
                      have Ka := hid_mk' (wd_at (l := l2) 0 (m4 + 32) HR2.out.2.1 (by omega))
                      have Kb := hid_mk' (wd_at (l := l2) 8 (m4 + 24) (by have := HR2.out.2.1; omega) (by omega))
                      have Kc := hid_mk' (wd_at (l := l2) 16 (m4 + 16) (by have := HR2.out.2.1; omega) (by omega))
                      have Kd := hid_mk' (wd_at (l := l2) 24 (m4 + 8) (by have := HR2.out.2.1; omega) (by omega))
                      generalize wd (l2.drop 0) = Ba at HQa Ka
                      generalize wd (l2.drop 8) = Bb at HQb Kb
                      generalize wd (l2.drop 16) = Bc at HQc Kc
                      generalize wd (l2.drop 24) = Bd at HQd Kd
                      have ho1 : bits .or .u64 (Ba : Int) (Bb : Int) = ((Ba ||| Bb : Nat) : Int) := u64_or_nat _ _ Ka.out.1 Kb.out.1
                      have ho2 : bits .or .u64 (Bc : Int) (Bd : Int) = ((Bc ||| Bd : Nat) : Int) := u64_or_nat _ _ Kc.out.1 Kd.out.1
                      have L1 : Hid (Ba ||| Bb < 18446744073709551616) := Nat.or_lt_two_pow (n := 64) Ka.out.1 Kb.out.1
                      have L2 : Hid (Bc ||| Bd < 18446744073709551616) := Nat.or_lt_two_pow (n := 64) Kc.out.1 Kd.out.1
                      have ho3 : bits .or .u64 ((Ba ||| Bb : Nat) : Int) ((Bc ||| Bd : Nat) : Int) = (((Ba ||| Bb) ||| (Bc ||| Bd) : Nat) : Int) := u64_or_nat _ _ L1.out L2.out
                      have hand3 : bits .and .u64 (((Ba ||| Bb) ||| (Bc ||| Bd) : Nat) : Int) 9259542123273814144 = ((((Ba ||| Bb) ||| (Bc ||| Bd)) &&& 9259542123273814144 : Nat) : Int) := u64_and_nat _ 9259542123273814144 (Nat.or_lt_two_pow (n := 64) L1.out L2.out) (by omega)
                      have HZ3 : Hid (((Ba ||| Bb) ||| (Bc ||| Bd)) &&& 9259542123273814144 = 0 → validD (l2.drop 32) = ANS) := fun h => by
                        obtain ⟨g12, g34⟩ := (or_mask' _ _).1 h
                        obtain ⟨g1, g2⟩ := (or_mask' _ _).1 g12
                        obtain ⟨g3, g4⟩ := (or_mask' _ _).1 g34
                        have s1 := asc_more (a := 8) (c := 8) (Ka.out.2.1 g1) (by rw [List.drop_drop]; exact Kb.out.2.1 g2)
                        have s2 := asc_more (a := 16) (c := 8) s1 (by rw [List.drop_drop]; exact Kc.out.2.1 g3)
                        have s3 := asc_more (a := 24) (c := 8) s2 (by rw [List.drop_drop]; exact Kd.out.2.1 g4)
                        have := valid_drop (l := l2) (a := 0) (k := 32) s3
                        rw [List.drop_zero, HR2.out.2.2.1] at this
                        simpa using this
                      generalize Ba ||| Bb = P1 at ho1 ho3 hand3 HZ3
                      generalize Bc ||| Bd = P2 at ho2 ho3 hand3 HZ3
                      generalize P1 ||| P2 = P3 at ho3 hand3 HZ3
                      generalize P3 &&& 9259542123273814144 = Z3 at hand3 HZ3
                      clear Ka Kb Kc Kd L1 L2
                      by_cases hz3 : Z3 = 0
                      · subst hz3
                        have HI5 : Hid (∀ W, wr.grownBy W none → VSt W b m4 ANS (.slice (some ⟨b, o2 + 32, none⟩) m4 m4) ∧ w.grownBy W none) := fun W hg => ⟨(VSt.cut HR2.out.1 32 m4 HR2.out.2.1 (HZ3.out rfl)).keep hg, gb_none HR2.out.2.2.2 hg⟩
                        clear HZ3
                        go_wp2_with fail
                        go_big_quiet (first | (go_at_call 118; with_reducible exact Calls.quiet_of (HQa.out _)) | (go_at_call 118; with_reducible exact Calls.quiet_of (HQb.out _)) | (go_at_call 118; with_reducible exact Calls.quiet_of (HQc.out _)) | (go_at_call 118; with_reducible exact Calls.quiet_of (HQd.out _)))

                        have HI6 := hid_mk' (HI5.out _ (gb_drewq wr nq none))
                        go_wp2
                        go_roundw
                        case rel => exact ⟨m4, _, by omega, rfl, HI6.out⟩
                        case measure => simp [sliceLen]
                      · have hz3b : ((Z3 : Int) == 0) = false := by simp; omega
                        have HI5 : Hid (∀ W, wr.grownBy W none → VSt W b (m4 + 32) ANS (.slice (some ⟨b, o2, none⟩) (m4 + 32) (m4 + 32)) ∧ w.grownBy W none) := fun W hg => ⟨HV2.out.1.keep hg, gb_none HR2.out.2.2.2 hg⟩
                        clear HZ3
                        go_wp2_with fail
                        go_big_quiet (first | (go_at_call 118; with_reducible exact Calls.quiet_of (HQa.out _)) | (go_at_call 118; with_reducible exact Calls.quiet_of (HQb.out _)) | (go_at_call 118; with_reducible exact Calls.quiet_of (HQc.out _)) | (go_at_call 118; with_reducible exact Calls.quiet_of (HQd.out _)))

                        have HI6 := hid_mk' (HI5.out _ (gb_drewq wr nq none))
                        go_wp2
                        exact ⟨⟨m4 + 32, _, by omega, rfl, HI6.out⟩, by simp [sliceLen]; omega⟩
                    · have c32z : ¬ (32 : Int) < (m : Int) := by omega
                      have c32b : decide ((32 : Int) < (m : Int)) = false := decide_eq_false c32z
                      have HI5 : Hid (∀ W, wr.grownBy W none → VSt W b m ANS (.slice a2 m m) ∧ w.grownBy W none) := fun W hg => ⟨HV2.out.1.keep hg, gb_none HV2.out.2 hg⟩
                      go_wp2_with fail
                      go_big_quiet (fail)
                      have HI6 := hid_mk' (HI5.out _ (gb_drewq wr nq none))
                      go_wp2
                      exact ⟨⟨m, _, by omega, rfl, HI6.out⟩, by simp [sliceLen]; omega⟩
                · have hz2b : ((Z2 : Int) == 0) = false := by simp; omega
                  have HI3 : Hid (∀ W, wq.grownBy W none → VSt W b (n3 + 16) ANS (.slice (some ⟨b, o' + 1 + 8, none⟩) (n3 + 16) (n3 + 16)) ∧ w.grownBy W none) := fun W hg => ⟨(VSt.cut HR.out.1 9 (n3 + 16) HL9.out HD2.out).keep (gb_none HG1.out hg), gb_none HR.out.2.2.2.2 (gb_none HG1.out hg)⟩
                  go_wp2_with fail
                  go_big_quiet (first | (go_at_call 118; with_reducible exact Calls.quiet_of (HQ2.out _)) | (go_at_call 118; with_reducible exact Calls.quiet_of (HQ3.out _)))
                  have HI4 := hid_mk' (HI3.out _ (gb_drewq wq nq none))
                  go_wp2
                  exact ⟨⟨n3 + 16, _, by omega, rfl, HI4.out⟩, by simp [sliceLen]⟩
              · have c16z : ¬ (16 : Int) < (n2 : Int) := by omega
                have c16b : decide ((16 : Int) < (n2 : Int)) = false := decide_eq_false c16z
                go_wp2_with fail
                refine (HW1.out _ (gb_refl _ _)).mono ?_
                rintro e W1 ⟨rfl, q1, rfl⟩
                have HI3 : Hid (∀ W, wr.grownBy W none → VSt W b n2 ANS (.slice (some ⟨b, o' + 1 + 8, none⟩) n2 n2) ∧ w.grownBy W none) := fun W hg => ⟨(VSt.cut HR.out.1 9 n2 HR.out.2.1 HD2.out).keep hg, gb_none HR.out.2.2.2.2 hg⟩
                go_wp2_with fail
                go_big_quiet (fail)
                have HI4 := hid_mk' (HI3.out _ (gb_none (gb_drewq wr q1 none) (gb_drewq _ nq none)))
                go_wp2
                exact ⟨⟨n2, _, by omega, rfl, HI4.out⟩, by simp [sliceLen]; omega⟩
            · have hz1b : ((Z1 : Int) == 0) = false := by simp; omega
              clear HZ1
              go_wp2_with fail
              refine (HW1.out _ (gb_refl _ _)).mono ?_
              rintro e W1 ⟨rfl, q1, rfl⟩
              go_wp2
              exact ⟨⟨n2 + 8, _, by omega, rfl, (VSt.cut HR.out.1 1 (n2 + 8) HR.out.2.1 HD.out).keep (gb_drewq _ _ _), gb_none HR.out.2.2.2.2 (gb_drewq _ _ _)⟩, by simp [sliceLen]⟩
          · have c8z : ¬ (8 : Int) < (n1 : Int) := by omega
            go_wp2
            exact ⟨⟨n1, _, by omega, rfl, VSt.cut HR.out.1 1 n1 HR.out.2.1 HD.out, HR.out.2.2.2.2⟩, by simp [sliceLen]⟩
      · have hascz : ¬ (x0.toNat : Int) < 128 := by omega
        have HTr : Hid (U8Tab wr) := HT.out.keep HR.out.2.2.2.2
        have f0 := HTr.out.f x0.toNat hx0lt
        have hXlt : firstT x0.toNat < 256 := by unfold firstT; (repeat' split) <;> omega
        obtain ⟨X, hX⟩ : ∃ X, firstT x0.toNat = X := ⟨_, rfl⟩
        have HLead : Hid (validD l' = match checkN l'.length (l'.getD 1 0).toNat (l'.getD 2 0).toNat (l'.getD 3 0).toNat (X % 8) (accLo (X / 16)) (accHi (X / 16)) with | none => false | some k => validD (l'.drop k)) := by
          have := validD_lead l' HR.out.2.2.2.1 (by rw [HX0.out]; omega)
          rw [HX0.out, hX] at this
          exact this
        rw [hX] at f0 hXlt
        have h7 := and7' ⟨X, hXlt⟩
        simp only at h7
        have r0 := (HTr.out.a (X / 16) (by omega)).1
        have r1 := (HTr.out.a (X / 16) (by omega)).2
        obtain ⟨x1, hx1⟩ : ∃ x1, (l'.getD 1 0) = x1 := ⟨_, rfl⟩
        obtain ⟨x2, hx2⟩ : ∃ x2, (l'.getD 2 0) = x2 := ⟨_, rfl⟩
        obtain ⟨x3, hx3⟩ : ∃ x3, (l'.getD 3 0) = x3 := ⟨_, rfl⟩
        have HC : Hid ((1 < n → ∀ o, (wr.alloc o).cell? ⟨b, o' + 1, none⟩ = some (.int .u8 (x1.toNat : Int))) ∧ (2 < n → ∀ o, (wr.alloc o).cell? ⟨b, o' + 2, none⟩ = some (.int .u8 (x2.toNat : Int))) ∧ (3 < n → ∀ o, (wr.alloc o).cell? ⟨b, o' + 3, none⟩ = some (.int .u8 (x3.toNat : Int)))) :=
          ⟨fun h o => by rw [← hx1]; exact cell_keep (HR.out.1 1 (by have := HR.out.2.1; omega)) (World.grownBy_alloc _ _ none), fun h o => by rw [← hx2]; exact cell_keep (HR.out.1 2 (by have := HR.out.2.1; omega)) (World.grownBy_alloc _ _ none), fun h o => by rw [← hx3]; exact cell_keep (HR.out.1 3 (by have := HR.out.2.1; omega)) (World.grownBy_alloc _ _ none)⟩
        have HLead2 : Hid (ANS = match checkN n x1.toNat x2.toNat x3.toNat (X % 8) (accLo (X / 16)) (accHi (X / 16)) with | none => false | some k => validD (l'.drop k)) := by
          have := HLead.out
          rw [hx1, hx2, hx3, HR.out.2.1, HR.out.2.2.1] at this
          exact this
        clear HLead
        generalize accLo (X / 16) = LO at *
        generalize accHi (X / 16) = HI' at *
        have l1 := x1.toNat_lt
        have l2 := x2.toNat_lt
        have l3 := x3.toNat_lt
        clear HTr hX hx1 hx2 hx3
        by_cases s2 : X % 8 = 2
        · as_aux_lemma =>
          have s2z : (X : Int) % 8 = 2 := by omega
          rw [s2] at h7 HLead2
          by_cases q0 : n < 2
          · have q0z : (n : Int) < 2 := by omega
            have q0b : decide ((n : Int) < 2) = true := decide_eq_true q0z
            have HF : Hid (ANS = false) := by
              have := HLead2.out
              simp only [checkN, Nat.reduceEqDiff, if_true, if_false] at this
              rw [if_pos (by omega)] at this
              exact this
            go_wp2_with fail
            go_big_quiet (fail)
            go_wp2
            go_ret
            exact ⟨by rw [HF.out]; rfl, gb_none (gb_none HR.out.2.2.2.2 (World.grownBy_alloc _ _ none)) (gb_drewq _ _ _)⟩
          · have q0z : ¬ (n : Int) < 2 := by omega
            have q0b : decide ((n : Int) < 2) = false := decide_eq_false q0z
            have z1 : (1 : Int) < (n : Int) := by omega
            have p1 := HC.out.1 (by omega)
            by_cases q1 : x1.toNat < LO
            · have q1z : (x1.toNat : Int) < (LO : Int) := by omega
              have q1b : decide ((x1.toNat : Int) < (LO : Int)) = true := decide_eq_true q1z
              have HF : Hid (ANS = false) := by
                have := HLead2.out
                simp only [checkN, Nat.reduceEqDiff, if_true, if_false] at this
                rw [if_pos (by omega)] at this
                exact this
              go_wp2_with fail
              go_big_quiet (fail)
              go_wp2
              go_ret
              exact ⟨by rw [HF.out]; rfl, gb_none (gb_none HR.out.2.2.2.2 (World.grownBy_alloc _ _ none)) (gb_drewq _ _ _)⟩
            · have q1z : ¬ (x1.toNat : Int) < (LO : Int) := by omega
              have q1b : decide ((x1.toNat : Int) < (LO : Int)) = false := decide_eq_false q1z
              by_cases q2 : HI' < x1.toNat
              · have q2z : (HI' : Int) < (x1.toNat : Int) := by omega
                have q2b : decide ((HI' : Int) < (x1.toNat : Int)) = true := decide_eq_true q2z
                have HF : Hid (ANS = false) := by
                  have := HLead2.out
                  simp only [checkN, Nat.reduceEqDiff, if_true, if_false] at this
                  rw [if_pos (by omega)] at this
                  exact this
                go_wp2_with fail
                go_big_quiet (fail)
                go_wp2
                go_ret
                exact ⟨by rw [HF.out]; rfl, gb_none (gb_none HR.out.2.2.2.2 (World.grownBy_alloc _ _ none)) (gb_drewq _ _ _)⟩
              · have q2z : ¬ (HI' : Int) < (x1.toNat : Int) := by omega
                have q2b : decide ((HI' : Int) < (x1.toNat : Int)) = false := decide_eq_false q2z
                have HO : Hid (validD (l'.drop 2) = ANS) := by
                  have := HLead2.out
                  simp only [checkN, Nat.reduceEqDiff, if_true, if_false] at this
                  rw [if_neg (by omega)] at this
                  exact this.symm
                by_cases hend : n = 2
                · subst hend
                  go_wp2_with fail
                  go_big_quiet (fail)
                  go_wp2
                  exact ⟨⟨0, _, by omega, rfl, VSt.fin _ 2 (by have := HR.out.2.1; omega) HO.out, gb_none (gb_none HR.out.2.2.2.2 (World.grownBy_alloc _ _ none)) (gb_drewq _ _ _)⟩, by simp [sliceLen]⟩
                · obtain ⟨m, rfl⟩ : ∃ m, n = m + 2 := ⟨n - 2, by omega⟩
                  have q0c : decide ((m : Int) + 2 < 2) = false := decide_eq_false (by omega)
                  have hne : ¬ ((2 : Int) = ((m + 2 : Nat) : Int)) := by omega
                  have hltm : (2 : Int) < ((m + 2 : Nat) : Int) := by omega
                  go_wp2_with fail
                  go_big_quiet (fail)
                  go_wp2
                  exact ⟨⟨m, _, by omega, rfl, (VSt.cut HR.out.1 2 m HR.out.2.1 HO.out).keep (gb_none (World.grownBy_alloc _ _ none) (gb_drewq _ _ _)), gb_none (gb_none HR.out.2.2.2.2 (World.grownBy_alloc _ _ none)) (gb_drewq _ _ _)⟩, by simp [sliceLen]⟩

        by_cases s3 : X % 8 = 3
        · as_aux_lemma =>
          have s3z : (X : Int) % 8 = 3 := by omega
          rw [s3] at h7 HLead2
          by_cases q0 : n < 3
          · have q0z : (n : Int) < 3 := by omega
            have q0b : decide ((n : Int) < 3) = true := decide_eq_true q0z
            have HF : Hid (ANS = false) := by
              have := HLead2.out
              simp only [checkN, Nat.reduceEqDiff, if_true, if_false] at this
              rw [if_pos (by omega)] at this
              exact this
            go_wp2_with fail
            go_big_quiet (fail)
            go_wp2
            go_ret
            exact ⟨by rw [HF.out]; rfl, gb_none (gb_none HR.out.2.2.2.2 (World.grownBy_alloc _ _ none)) (gb_drewq _ _ _)⟩
          · have q0z : ¬ (n : Int) < 3 := by omega
            have q0b : decide ((n : Int) < 3) = false := decide_eq_false q0z
            have z1 : (1 : Int) < (n : Int) := by omega
            have p1 := HC.out.1 (by omega)
            have z2 : (2 : Int) < (n : Int) := by omega
            have p2 := HC.out.2.1 (by omega)
            by_cases q1 : x1.toNat < LO
            · have q1z : (x1.toNat : Int) < (LO : Int) := by omega
              have q1b : decide ((x1.toNat : Int) < (LO : Int)) = true := decide_eq_true q1z
              have HF : Hid (ANS = false) := by
                have := HLead2.out
                simp only [checkN, Nat.reduceEqDiff, if_true, if_false] at this
                rw [if_pos (by omega)] at this
                exact this
              go_wp2_with fail
              go_big_quiet (fail)
              go_wp2
              go_ret
              exact ⟨by rw [HF.out]; rfl, gb_none (gb_none HR.out.2.2.2.2 (World.grownBy_alloc _ _ none)) (gb_drewq _ _ _)⟩
            · have q1z : ¬ (x1.toNat : Int) < (LO : Int) := by omega
              have q1b : decide ((x1.toNat : Int) < (LO : Int)) = false := decide_eq_false q1z
              by_cases q2 : HI' < x1.toNat
              · have q2z : (HI' : Int) < (x1.toNat : Int) := by omega
                have q2b : decide ((HI' : Int) < (x1.toNat : Int)) = true := decide_eq_true q2z
                have HF : Hid (ANS = false) := by
                  have := HLead2.out
                  simp only [checkN, Nat.reduceEqDiff, if_true, if_false] at this
                  rw [if_pos (by omega)] at this
                  exact this
                go_wp2_with fail
                go_big_quiet (fail)
                go_wp2
                go_ret
                exact ⟨by rw [HF.out]; rfl, gb_none (gb_none HR.out.2.2.2.2 (World.grownBy_alloc _ _ none)) (gb_drewq _ _ _)⟩
              · have q2z : ¬ (HI' : Int) < (x1.toNat : Int) := by omega
                have q2b : decide ((HI' : Int) < (x1.toNat : Int)) = false := decide_eq_false q2z
                by_cases q3 : x2.toNat < 128
                · have q3z : (x2.toNat : Int) < 128 := by omega
                  have q3b : decide ((x2.toNat : Int) < 128) = true := decide_eq_true q3z
                  have HF : Hid (ANS = false) := by
                    have := HLead2.out
                    simp only [checkN, Nat.reduceEqDiff, if_true, if_false] at this
                    rw [if_pos (by omega)] at this
                    exact this
                  go_wp2_with fail
                  go_big_quiet (fail)
                  go_wp2
                  go_ret
                  exact ⟨by rw [HF.out]; rfl, gb_none (gb_none HR.out.2.2.2.2 (World.grownBy_alloc _ _ none)) (gb_drewq _ _ _)⟩
                · have q3z : ¬ (x2.toNat : Int) < 128 := by omega
                  have q3b : decide ((x2.toNat : Int) < 128) = false := decide_eq_false q3z
                  by_cases q4 : 191 < x2.toNat
                  · have q4z : (191 : Int) < (x2.toNat : Int) := by omega
                    have q4b : decide ((191 : Int) < (x2.toNat : Int)) = true := decide_eq_true q4z
                    have HF : Hid (ANS = false) := by
                      have := HLead2.out
                      simp only [checkN, Nat.reduceEqDiff, if_true, if_false] at this
                      rw [if_pos (by omega)] at this
                      exact this
                    go_wp2_with fail
                    go_big_quiet (fail)
                    go_wp2
                    go_ret
                    exact ⟨by rw [HF.out]; rfl, gb_none (gb_none HR.out.2.2.2.2 (World.grownBy_alloc _ _ none)) (gb_drewq _ _ _)⟩
                  · have q4z : ¬ (191 : Int) < (x2.toNat : Int) := by omega
                    have q4b : decide ((191 : Int) < (x2.toNat : Int)) = false := decide_eq_false q4z
                    have HO : Hid (validD (l'.drop 3) = ANS) := by
                      have := HLead2.out
                      simp only [checkN, Nat.reduceEqDiff, if_true, if_false] at this
                      rw [if_neg (by omega)] at this
                      exact this.symm
                    by_cases hend : n = 3
                    · subst hend
                      go_wp2_with fail
                      go_big_quiet (fail)
                      go_wp2
                      exact ⟨⟨0, _, by omega, rfl, VSt.fin _ 3 (by have := HR.out.2.1; omega) HO.out, gb_none (gb_none HR.out.2.2.2.2 (World.grownBy_alloc _ _ none)) (gb_drewq _ _ _)⟩, by simp [sliceLen]⟩
                    · obtain ⟨m, rfl⟩ : ∃ m, n = m + 3 := ⟨n - 3, by omega⟩
                      have q0c : decide ((m : Int) + 3 < 3) = false := decide_eq_false (by omega)
                      have hne : ¬ ((3 : Int) = ((m + 3 : Nat) : Int)) := by omega
                      have hltm : (3 : Int) < ((m + 3 : Nat) : Int) := by omega
                      go_wp2_with fail
                      go_big_quiet (fail)
                      go_wp2
                      exact ⟨⟨m, _, by omega, rfl, (VSt.cut HR.out.1 3 m HR.out.2.1 HO.out).keep (gb_none (World.grownBy_alloc _ _ none) (gb_drewq _ _ _)), gb_none (gb_none HR.out.2.2.2.2 (World.grownBy_alloc _ _ none)) (gb_drewq _ _ _)⟩, by simp [sliceLen]⟩

        by_cases s4 : X % 8 = 4
        · as_aux_lemma =>
          have s4z : (X : Int) % 8 = 4 := by omega
          rw [s4] at h7 HLead2
          by_cases q0 : n < 4
          · have q0z : (n : Int) < 4 := by omega
            have q0b : decide ((n : Int) < 4) = true := decide_eq_true q0z
            have HF : Hid (ANS = false) := by
              have := HLead2.out
              simp only [checkN, Nat.reduceEqDiff, if_true, if_false] at this
              rw [if_pos (by omega)] at this
              exact this
            go_wp2_with fail
            go_big_quiet (fail)
            go_wp2
            go_ret
            exact ⟨by rw [HF.out]; rfl, gb_none (gb_none HR.out.2.2.2.2 (World.grownBy_alloc _ _ none)) (gb_drewq _ _ _)⟩
          · have q0z : ¬ (n : Int) < 4 := by omega
            have q0b : decide ((n : Int) < 4) = false := decide_eq_false q0z
            have z1 : (1 : Int) < (n : Int) := by omega
            have p1 := HC.out.1 (by omega)
            have z2 : (2 : Int) < (n : Int) := by omega
            have p2 := HC.out.2.1 (by omega)
            have z3 : (3 : Int) < (n : Int) := by omega
            have p3 := HC.out.2.2 (by omega)
            by_cases q1 : x1.toNat < LO
            · have q1z : (x1.toNat : Int) < (LO : Int) := by omega
              have q1b : decide ((x1.toNat : Int) < (LO : Int)) = true := decide_eq_true q1z
              have HF : Hid (ANS = false) := by
                have := HLead2.out
                simp only [checkN, Nat.reduceEqDiff, if_true, if_false] at this
                rw [if_pos (by omega)] at this
                exact this
              go_wp2_with fail
              go_big_quiet (fail)
              go_wp2
              go_ret
              exact ⟨by rw [HF.out]; rfl, gb_none (gb_none HR.out.2.2.2.2 (World.grownBy_alloc _ _ none)) (gb_drewq _ _ _)⟩
            · have q1z : ¬ (x1.toNat : Int) < (LO : Int) := by omega
              have q1b : decide ((x1.toNat : Int) < (LO : Int)) = false := decide_eq_false q1z
              by_cases q2 : HI' < x1.toNat
              · have q2z : (HI' : Int) < (x1.toNat : Int) := by omega
                have q2b : decide ((HI' : Int) < (x1.toNat : Int)) = true := decide_eq_true q2z
                have HF : Hid (ANS = false) := by
                  have := HLead2.out
                  simp only [checkN, Nat.reduceEqDiff, if_true, if_false] at this
                  rw [if_pos (by omega)] at this
                  exact this
                go_wp2_with fail
                go_big_quiet (fail)
                go_wp2
                go_ret
                exact ⟨by rw [HF.out]; rfl, gb_none (gb_none HR.out.2.2.2.2 (World.grownBy_alloc _ _ none)) (gb_drewq _ _ _)⟩
              · have q2z : ¬ (HI' : Int) < (x1.toNat : Int) := by omega
                have q2b : decide ((HI' : Int) < (x1.toNat : Int)) = false := decide_eq_false q2z
                by_cases q3 : x2.toNat < 128
                · have q3z : (x2.toNat : Int) < 128 := by omega
                  have q3b : decide ((x2.toNat : Int) < 128) = true := decide_eq_true q3z
                  have HF : Hid (ANS = false) := by
                    have := HLead2.out
                    simp only [checkN, Nat.reduceEqDiff, if_true, if_false] at this
                    rw [if_pos (by omega)] at this
                    exact this
                  go_wp2_with fail
                  go_big_quiet (fail)
                  go_wp2
                  go_ret
                  exact ⟨by rw [HF.out]; rfl, gb_none (gb_none HR.out.2.2.2.2 (World.grownBy_alloc _ _ none)) (gb_drewq _ _ _)⟩
                · have q3z : ¬ (x2.toNat : Int) < 128 := by omega
                  have q3b : decide ((x2.toNat : Int) < 128) = false := decide_eq_false q3z
                  by_cases q4 : 191 < x2.toNat
                  · have q4z : (191 : Int) < (x2.toNat : Int) := by omega
                    have q4b : decide ((191 : Int) < (x2.toNat : Int)) = true := decide_eq_true q4z
                    have HF : Hid (ANS = false) := by
                      have := HLead2.out
                      simp only [checkN, Nat.reduceEqDiff, if_true, if_false] at this
                      rw [if_pos (by omega)] at this
                      exact this
                    go_wp2_with fail
                    go_big_quiet (fail)
                    go_wp2
                    go_ret
                    exact ⟨by rw [HF.out]; rfl, gb_none (gb_none HR.out.2.2.2.2 (World.grownBy_alloc _ _ none)) (gb_drewq _ _ _)⟩
                  · have q4z : ¬ (191 : Int) < (x2.toNat : Int) := by omega
                    have q4b : decide ((191 : Int) < (x2.toNat : Int)) = false := decide_eq_false q4z
                    by_cases q5 : x3.toNat < 128
                    · have q5z : (x3.toNat : Int) < 128 := by omega
                      have q5b : decide ((x3.toNat : Int) < 128) = true := decide_eq_true q5z
                      have HF : Hid (ANS = false) := by
                        have := HLead2.out
                        simp only [checkN, Nat.reduceEqDiff, if_true, if_false] at this
                        rw [if_pos (by omega)] at this
                        exact this
                      go_wp2_with fail
                      go_big_quiet (fail)
                      go_wp2
                      go_ret
                      exact ⟨by rw [HF.out]; rfl, gb_none (gb_none HR.out.2.2.2.2 (World.grownBy_alloc _ _ none)) (gb_drewq _ _ _)⟩
                    · have q5z : ¬ (x3.toNat : Int) < 128 := by omega
                      have q5b : decide ((x3.toNat : Int) < 128) = false := decide_eq_false q5z
                      by_cases q6 : 191 < x3.toNat
                      · have q6z : (191 : Int) < (x3.toNat : Int) := by omega
                        have q6b : decide ((191 : Int) < (x3.toNat : Int)) = true := decide_eq_true q6z
                        have HF : Hid (ANS = false) := by
                          have := HLead2.out
                          simp only [checkN, Nat.reduceEqDiff, if_true, if_false] at this
                          rw [if_pos (by omega)] at this
                          exact this
                        go_wp2_with fail
                        go_big_quiet (fail)
                        go_wp2
                        go_ret
                        exact ⟨by rw [HF.out]; rfl, gb_none (gb_none HR.out.2.2.2.2 (World.grownBy_alloc _ _ none)) (gb_drewq _ _ _)⟩
                      · have q6z : ¬ (191 : Int) < (x3.toNat : Int) := by omega
                        have q6b : decide ((191 : Int) < (x3.toNat : Int)) = false := decide_eq_false q6z
                        have HO : Hid (validD (l'.drop 4) = ANS) := by
                          have := HLead2.out
                          simp only [checkN, Nat.reduceEqDiff, if_true, if_false] at this
                          rw [if_neg (by omega)] at this
                          exact this.symm
                        by_cases hend : n = 4
                        · subst hend
                          go_wp2_with fail
                          go_big_quiet (fail)
                          go_wp2
                          exact ⟨⟨0, _, by omega, rfl, VSt.fin _ 4 (by have := HR.out.2.1; omega) HO.out, gb_none (gb_none HR.out.2.2.2.2 (World.grownBy_alloc _ _ none)) (gb_drewq _ _ _)⟩, by simp [sliceLen]⟩
                        · obtain ⟨m, rfl⟩ : ∃ m, n = m + 4 := ⟨n - 4, by omega⟩
                          have q0c : decide ((m : Int) + 4 < 4) = false := decide_eq_false (by omega)
                          have hne : ¬ ((4 : Int) = ((m + 4 : Nat) : Int)) := by omega
                          have hltm : (4 : Int) < ((m + 4 : Nat) : Int) := by omega
                          go_wp2_with fail
                          go_big_quiet (fail)
                          go_wp2
                          exact ⟨⟨m, _, by omega, rfl, (VSt.cut HR.out.1 4 m HR.out.2.1 HO.out).keep (gb_none (World.grownBy_alloc _ _ none) (gb_drewq _ _ _)), gb_none (gb_none HR.out.2.2.2.2 (World.grownBy_alloc _ _ none)) (gb_drewq _ _ _)⟩, by simp [sliceLen]⟩

        · have HF : Hid (ANS = false) := by
            have := HLead2.out
            simp only [checkN, s2, s3, s4, if_false] at this
            exact this
          have e2 : ¬ ((X : Int) % 8 = 2) := by omega
          have e3 : ¬ ((X : Int) % 8 = 3) := by omega
          have e4 : ¬ ((X : Int) % 8 = 4) := by omega
          have e2b : (((X : Int) % 8) == 2) = false := by simp; omega
          have e3b : (((X : Int) % 8) == 3) = false := by simp; omega
          have e4b : (((X : Int) % 8) == 4) = false := by simp; omega
          go_wp2
          all_goals (go_ret; exact ⟨by rw [HF.out]; rfl, gb_none HR.out.2.2.2.2 (World.grownBy_alloc _ _ none)⟩)
    · have h0z : ¬ (0 : Int) < (n : Int) := by omega
      have HE : Hid (ANS = true ∧ w.grownBy wr none) := by
        obtain ⟨⟨a', l', hv', hl', hA', hr'⟩, hgw⟩ := HV.out
        have : l' = [] := List.eq_nil_of_length_eq_zero (by omega)
        subst this
        exact ⟨by rw [← hA']; rfl, hgw⟩
      go_wp2
      go_ret
      exact ⟨by rw [HE.out.1]; rfl, HE.out.2⟩
end Go.Proofs.YtpglhdnepmcahaaGreatDoor
