/-
  A name looked for among sorted labels: what slices.BinarySearchFunc comes to: the walk.
-/
import Derived.Test.YtknlnllcpdiglabDoorLbC
import Derived.Test.YtknlnllcpdiglabDoorLbMd
namespace Go.Proofs.YtknlnllcpdiglabDoor
open Go.RowKit

/-- rising by name -/
def risN (ls : List LbT) : Prop := ls.Pairwise fun a b => a.1 < b.1
theorem ris_lt {ls : List LbT} (h : risN ls) {i j : Nat} (hij : i < j) (hj : j < ls.length) : (ls.getD i ([], [])).1 < (ls.getD j ([], [])).1 := by
  have := List.pairwise_iff_getElem.1 h i j (by omega) hj hij
  have e1 : ls.getD j ([], []) = ls[j] := by simp [List.getD, hj]
  have e2 : ls.getD i ([], []) = ls[i]'(by omega) := by simp [List.getD, show i < ls.length by omega]
  rwa [e1, e2]
theorem cmpS_neg_iff (a b : List UInt8) : cmpS a b < 0 ↔ a < b := by
  unfold cmpS
  by_cases h : a < b
  · simp [h]
  · by_cases h2 : b < a <;> simp [h, h2]
theorem cmpS_zero_iff (a b : List UInt8) : cmpS a b = 0 ↔ a = b := by
  unfold cmpS
  rcases lt_tri a b with h | h | h
  · have : a ≠ b := fun e => by subst e; exact List.lt_irrefl _ h
    simp [h, this]
  · subst h; simp [List.lt_irrefl]
  · have h2 : ¬ a < b := fun h2 => List.lt_irrefl _ (List.lt_trans h h2)
    have : a ≠ b := fun e => by subst e; exact List.lt_irrefl _ h
    simp [h, h2, this]
set_option maxHeartbeats 1600000 in
theorem compareName_any (W : World) (x : LbT) (nm : List UInt8) :
    Calls Tryd.prog 31 #[.agg #[.string (ByteArray.mk ⟨x.1⟩), .string (ByteArray.mk ⟨x.2⟩)], .string (ByteArray.mk ⟨nm⟩)] W fun e w' => e = .returned (.int .i64 (cmpS x.1 nm)) ∧ W.grownBy w' none := by
  have HA : Hid (∀ w, Calls Tryd.prog 58 #[.string (ByteArray.mk ⟨x.1⟩), .string (ByteArray.mk ⟨nm⟩)] w fun e w' => e = .returned (.int .i64 (cmpS x.1 nm)) ∧ w' = w) := fun w => compareS_any w _ _
  generalize cmpS x.1 nm = r at *
  generalize ByteArray.mk ⟨x.1⟩ = sa at *
  generalize ByteArray.mk ⟨x.2⟩ = sb at *
  generalize ByteArray.mk ⟨nm⟩ = sc at *
  go_enter Tryd.func31, Tryd.ntmps31
  go_wp2_with fail
  refine (HA.out _).mono ?_
  rintro e w1 ⟨rfl, rfl⟩
  clear HA
  go_wp2
  go_ret
  exact ⟨rfl, World.grownBy_alloc _ _ none⟩

/-- where a name stands, or would -/
def AtN (ls : List LbT) (nm : List UInt8) (at_ : Nat) : Prop := at_ ≤ ls.length ∧ (∀ k, k < at_ → (ls.getD k ([], [])).1 < nm) ∧ ∀ k, at_ ≤ k → k < ls.length → ¬ (ls.getD k ([], [])).1 < nm

set_option maxRecDepth 8000 in
set_option maxHeartbeats 6400000 in
theorem bsearch_any (w : World) (v : Value) (ls : List LbT) (nm : List UInt8) (hv : RdL w v ls) (hl : ls.length ≤ 16) (hs : risN ls) :
    Calls Tryd.prog 30 #[v, .string (ByteArray.mk ⟨nm⟩), .func (.func 31) #[] #[]] w fun e w' => ∃ p : Nat, e = .returned (.tuple #[.int .i64 (p : Int), .bool (decide (p < ls.length ∧ (ls.getD p ([], [])).1 = nm))]) ∧ AtN ls nm p ∧ w.grownBy w' none := by
  have HV : Hid (RdL w v ls ∧ risN ls) := ⟨hv, hs⟩
  obtain ⟨a, c, rfl, hc1, hc2, hc3, hc4⟩ := hv
  unfold maxLen at hc2
  clear hc3 hc4 hs
  go_enter Tryd.func30, Tryd.ntmps30
  go_wp2
  go_loopw [9, 10] (fun ui uj wr => ∃ i j : Nat, i ≤ j ∧ j ≤ ls.length ∧ ui = .int .i64 i ∧ uj = .int .i64 j ∧ Hid (w.grownBy wr none ∧ (∀ k, k < i → (ls.getD k ([], [])).1 < nm) ∧ ∀ k, j ≤ k → k < ls.length → ¬ (ls.getD k ([], [])).1 < nm)) (fun ui uj _ => (intOf uj).toNat - (intOf ui).toNat)
  case atStart => exact ⟨0, ls.length, by omega, by omega, rfl, rfl, gb_refl _ _, fun k hk => by omega, fun k h1 h2 => by omega⟩
  case round =>
    obtain ⟨i, j, hij, hjl, rfl, rfl, hr⟩ := hrel
    by_cases hlt : i < j
    · have hi : (i : Int) < (j : Int) := by omega
      obtain ⟨h, hh⟩ : ∃ h, h = (i + j) / 2 := ⟨_, rfl⟩
      have hhi : ((i : Int) + (j : Int)) / 2 = (h : Int) := by omega
      have hih : i ≤ h := by omega
      have hhj : h < j := by omega
      have hhl : (h : Int) < (ls.length : Int) := by omega
      have hu : IntKind.u64.wrap ((i : Int) + (j : Int)) = (i : Int) + (j : Int) := by rw [IntKind.wrap_u64]; omega
      clear hh
      obtain ⟨a', c', he, -, -, h3, -⟩ := HV.out.1.keep hr.out.1
      simp only [Value.slice.injEq] at he
      obtain ⟨rfl, -, rfl⟩ := he
      obtain ⟨b, o, rfl, c0, c1⟩ := h3 h (by omega)
      have HO : Hid (∀ W, Calls Tryd.prog 31 #[.agg #[.string (ByteArray.mk ⟨(ls.getD h ([], [])).1⟩), .string (ByteArray.mk ⟨(ls.getD h ([], [])).2⟩)], .string (ByteArray.mk ⟨nm⟩)] W fun e w' => e = .returned (.int .i64 (cmpS (ls.getD h ([], [])).1 nm)) ∧ W.grownBy w' none) := fun W => compareName_any W _ nm
      have hc := cmpS_neg_iff (ls.getD h ([], [])).1 nm
      clear h3
      by_cases hn : (ls.getD h ([], [])).1 < nm
      · have hcl := hc.2 hn
        have HE : Hid (∀ k, k < h + 1 → (ls.getD k ([], [])).1 < nm) := fun k hk => by
          by_cases e : k = h
          · rw [e]; exact hn
          · exact List.lt_trans (ris_lt HV.out.2 (by omega : k < h) (by omega)) hn
        clear hc hn
        generalize cmpS (ls.getD h ([], [])).1 nm = r at *
        generalize ByteArray.mk ⟨(ls.getD h ([], [])).1⟩ = sn at *
        generalize ByteArray.mk ⟨(ls.getD h ([], [])).2⟩ = sv at *
        generalize hsc : ByteArray.mk ⟨nm⟩ = sc at *
        clear hsc
        go_wp2_with fail
        refine (HO.out _).mono ?_
        rintro e w1 ⟨rfl, hg1⟩
        have H1 : Hid (w.grownBy w1 none ∧ (∀ k, k < h + 1 → (ls.getD k ([], [])).1 < nm) ∧ ∀ k, j ≤ k → k < ls.length → ¬ (ls.getD k ([], [])).1 < nm) := ⟨gb_none hr.out.1 hg1, HE.out, hr.out.2.2⟩
        clear HO hg1 hr c0 c1 HE hu hhi
        go_wp2
        go_roundw
        case rel => exact ⟨h + 1, j, by omega, by omega, by simp, rfl, H1.out⟩
        case measure => simp [intOf]; omega
      · have hcl : ¬ cmpS (ls.getD h ([], [])).1 nm < 0 := fun e => hn (hc.1 e)
        have HE : Hid (∀ k, h ≤ k → k < ls.length → ¬ (ls.getD k ([], [])).1 < nm) := fun k hk hkl e => by
          by_cases e2 : k = h
          · rw [e2] at e; exact hn e
          · exact hn (List.lt_trans (ris_lt HV.out.2 (by omega : h < k) hkl) e)
        clear hc hn
        generalize cmpS (ls.getD h ([], [])).1 nm = r at *
        generalize ByteArray.mk ⟨(ls.getD h ([], [])).1⟩ = sn at *
        generalize ByteArray.mk ⟨(ls.getD h ([], [])).2⟩ = sv at *
        generalize hsc : ByteArray.mk ⟨nm⟩ = sc at *
        clear hsc
        go_wp2_with fail
        refine (HO.out _).mono ?_
        rintro e w1 ⟨rfl, hg1⟩
        have H1 : Hid (w.grownBy w1 none ∧ (∀ k, k < i → (ls.getD k ([], [])).1 < nm) ∧ ∀ k, h ≤ k → k < ls.length → ¬ (ls.getD k ([], [])).1 < nm) := ⟨gb_none hr.out.1 hg1, hr.out.2.1, HE.out⟩
        clear HO hg1 hr c0 c1 HE hu hhi
        go_wp2
        go_roundw
        case rel => exact ⟨i, h, by omega, by omega, rfl, rfl, H1.out⟩
        case measure => simp [intOf]; omega
    · obtain rfl : i = j := by omega
      have hi : ¬ (i : Int) < (i : Int) := by omega
      have HA : Hid (AtN ls nm i) := ⟨hjl, hr.out.2.1, hr.out.2.2⟩
      have HG : Hid (w.grownBy wr none) := hr.out.1
      by_cases hil : i < ls.length
      · have hili : (i : Int) < (ls.length : Int) := by omega
        obtain ⟨a', c', he, -, -, h3, -⟩ := HV.out.1.keep hr.out.1
        simp only [Value.slice.injEq] at he
        obtain ⟨rfl, -, rfl⟩ := he
        obtain ⟨b, o, rfl, c0, c1⟩ := h3 i hil
        have HO : Hid (∀ W, Calls Tryd.prog 31 #[.agg #[.string (ByteArray.mk ⟨(ls.getD i ([], [])).1⟩), .string (ByteArray.mk ⟨(ls.getD i ([], [])).2⟩)], .string (ByteArray.mk ⟨nm⟩)] W fun e w' => e = .returned (.int .i64 (cmpS (ls.getD i ([], [])).1 nm)) ∧ W.grownBy w' none) := fun W => compareName_any W _ nm
        have HB : Hid (decide (i < ls.length ∧ (ls.getD i ([], [])).1 = nm) = (cmpS (ls.getD i ([], [])).1 nm == 0)) := by
          show _ = _
          rw [Bool.eq_iff_iff, decide_eq_true_eq, beq_iff_eq, cmpS_zero_iff]
          exact ⟨fun h => h.2, fun h => ⟨hil, h⟩⟩
        clear h3 hr
        generalize cmpS (ls.getD i ([], [])).1 nm = r at *
        generalize ByteArray.mk ⟨(ls.getD i ([], [])).1⟩ = sn at *
        generalize ByteArray.mk ⟨(ls.getD i ([], [])).2⟩ = sv at *
        generalize hsc : ByteArray.mk ⟨nm⟩ = sc at *
        clear hsc
        go_wp2_with fail
        refine (HO.out _).mono ?_
        rintro e w1 ⟨rfl, hg1⟩
        have H1 : Hid (w.grownBy w1 none) := gb_none HG.out hg1
        clear HO hg1 c0 c1
        go_wp2
        go_ret2
        exact ⟨i, by rw [HB.out]; rfl, HA.out, H1.out⟩
      · have hili : ¬ (i : Int) < (ls.length : Int) := by omega
        have HB : Hid (decide (i < ls.length ∧ (ls.getD i ([], [])).1 = nm) = false) := decide_eq_false (fun h => hil h.1)
        clear hr
        go_wp2
        go_ret2
        exact ⟨i, by first | (rw [HB.out]; rfl) | rfl | simp [hil], HA.out, HG.out⟩
end Go.Proofs.YtknlnllcpdiglabDoor
