/-
  What the document's Frame and PutFrame come to: the walks.
-/
import Derived.Test.YtgbpnkamamafjaaDoorFrameR
import Derived.Test.YtgbpnkamamafjaaDoorRefSums
namespace Go.Proofs.YtgbpnkamamafjaaDoor
open Go.RowKit

theorem cells4 {w : World} {g o c : Nat} {l : List UInt8} (hv : Rd w (.slice (some ⟨g, o, none⟩) l.length c) l) (k : Nat) (hk : k + 4 ≤ l.length) :
    w.cell? ⟨g, o + k, none⟩ = some (.int .u8 ((l.getD k 0).toNat : Int)) ∧ w.cell? ⟨g, o + (k + 1), none⟩ = some (.int .u8 ((l.getD (k + 1) 0).toNat : Int)) ∧ w.cell? ⟨g, o + (k + 2), none⟩ = some (.int .u8 ((l.getD (k + 2) 0).toNat : Int)) ∧ w.cell? ⟨g, o + (k + 3), none⟩ = some (.int .u8 ((l.getD (k + 3) 0).toNat : Int)) := by
  obtain ⟨a, c', he, h1, h2, h3, h4⟩ := hv
  simp only [Value.slice.injEq, true_and] at he
  obtain ⟨rfl, rfl⟩ := he
  have hc : ∀ j, j < l.length → w.cell? ⟨g, o + j, none⟩ = some (.int .u8 ((l.getD j 0).toNat : Int)) := fun j hj => by
    obtain ⟨b, q, hb, hc⟩ := h3 j hj
    simp only [Option.some.injEq, Addr.mk.injEq, and_true] at hb
    obtain ⟨rfl, rfl⟩ := hb
    exact hc
  exact ⟨hc _ (by omega), hc _ (by omega), hc _ (by omega), hc _ (by omega)⟩

set_option maxHeartbeats 1600000 in
theorem refFrame_err (v : Value) (l : List UInt8) (p e : Int) (w : World) (hv : Rd w v l) (he : fSpec l p = .error e) :
    Calls Tryd.prog 33 #[v, .int .i64 p] w fun x w' => x = .returned (.tuple #[.slice none 0 0, .int .i64 0, .int .i64 e]) ∧ w.grownBy w' none := by
  have HU := refu_any v l p w hv
  have hv2 : Hid (Rd w v l) := hv
  obtain ⟨a, c, rfl, hn, hm, hb, hz⟩ := hv
  unfold maxLen at hm
  have hlen : l.length ≤ 9223372036854775807 := by omega
  have hb2 : Hid (RdA w a l) := hb
  clear hb
  rcases fSpec_cases l p with ⟨h0, h1⟩ | ⟨n, k, hu, h0, h1, h2, hn64, h3⟩
  · rw [h1] at he
    cases he
    have hne : ((uSpec l p).2.2 != 0) = true := by rw [bne_iff_ne]; exact h0
    unfold tup3 at HU
    generalize (uSpec l p).2.2 = e at *
    generalize (uSpec l p).2.1 = r at *
    generalize (uSpec l p).1 = q at *
    have HC : Hid (Calls Tryd.prog 17 #[.slice a l.length c, .int .i64 p] w fun x w' => x = .returned (.tuple #[.int .u64 (I64 (BitVec.ofNat 64 q)), .int .i64 r, .int .i64 e]) ∧ w' = w) := HU
    clear HU h0 h1
    go_enter Tryd.func33, Tryd.ntmps33
    go_wp2_with fail
    refine HC.out.mono ?_
    rintro x w1 ⟨rfl, rfl⟩
    go_wp2
    go_ret3
    exact ⟨rfl, gb_refl _ _⟩
  · rw [hu] at HU
    unfold tup3 at HU
    simp only [] at HU
    rw [I64_of hn64] at HU
    have HC : Hid (Calls Tryd.prog 17 #[.slice a l.length c, .int .i64 p] w fun x w' => x = .returned (.tuple #[.int .u64 (n : Int), .int .i64 (k : Int), .int .i64 0]) ∧ w' = w) := HU
    clear HU hu hn64
    rcases h3 with ⟨g1, e'⟩ | ⟨g1, g2, e'⟩ | ⟨g1, g2, g3, e'⟩ | ⟨-, -, -, e'⟩
    · rw [e'] at he
      cases he
      have g1' : (65536 : Int) < (n : Int) := by omega
      clear e'
      go_enter Tryd.func33, Tryd.ntmps33
      go_wp2_with fail
      refine HC.out.mono ?_
      rintro x w1 ⟨rfl, rfl⟩
      go_wp2
      go_ret3
      exact ⟨rfl, gb_refl _ _⟩
    · rw [e'] at he
      cases he
      have g1' : ¬ (65536 : Int) < (n : Int) := by omega
      have g2' : (l.length : Int) - (k : Int) < (n : Int) + 4 := by omega
      clear e'
      go_enter Tryd.func33, Tryd.ntmps33
      go_wp2_with fail
      refine HC.out.mono ?_
      rintro x w1 ⟨rfl, rfl⟩
      go_wp2
      go_ret3
      exact ⟨rfl, gb_refl _ _⟩
    · rw [e'] at he
      cases he
      obtain ⟨g, o, rfl, -⟩ := hb2.out k (by omega)
      have g1' : ¬ (65536 : Int) < (n : Int) := by omega
      have g2' : ¬ (l.length : Int) - (k : Int) < (n : Int) + 4 := by omega
      clear e'
      have hne : (I32 (crc ((l.drop (k + 4)).take n)) != I32 (BitVec.ofNat 32 (s4 l k))) = true := by rw [bne_iff_ne]; exact fun h => g3 (I32_inj h)
      clear g3
      have hcs := cells4 hv2.out k (by omega)
      have c0 := hcs.1
      have c1 := hcs.2.1
      have c2 := hcs.2.2.1
      have c3 := hcs.2.2.2
      have l0 := getD_lt l k
      have l1 := getD_lt l (k + 1)
      have l2 := getD_lt l (k + 2)
      have l3 := getD_lt l (k + 3)
      have HO : bits .or .u32 (bits .or .u32 (bits .or .u32 ((l.getD k 0).toNat : Int) (((l.getD (k + 1) 0).toNat : Int) * 256)) (((l.getD (k + 2) 0).toNat : Int) * 65536)) (((l.getD (k + 3) 0).toNat : Int) * 16777216) = I32 (BitVec.ofNat 32 (s4 l k)) := or4 l0 l1 l2 l3
      clear hcs
      generalize BitVec.ofNat 32 (s4 l k) = S at *
      generalize (l.getD k 0).toNat = b0 at *
      generalize (l.getD (k + 1) 0).toNat = b1 at *
      generalize (l.getD (k + 2) 0).toNat = b2 at *
      generalize (l.getD (k + 3) 0).toNat = b3 at *
      go_enter Tryd.func33, Tryd.ntmps33
      go_wp2_with fail
      refine HC.out.mono ?_
      rintro x w1 ⟨rfl, rfl⟩
      go_wp2_with fail
      go_region
      all_goals go_wp2_with fail
      all_goals refine (joined_any _ _ [] ((l.drop (k + 4)).take n) _ (Rd.nil _) (by first | exact (hv2.out.keep (gb_drew _ none)).cut (k + 4) n (by omega) | exact (hv2.out.keep (gb_drew _ none)).cut0 (k + 4) n (by omega) (by omega)) (by simp; omega)).mono ?_
      all_goals rintro x w3 ⟨v3, rfl, ho3, hg3⟩
      all_goals have H3 : Hid (Rd w3 v3 ((l.drop (k + 4)).take n) ∧ w1.grownBy w3 none) := ⟨by simpa using ho3.rd, gb_none (gb_drew _ none) hg3⟩
      all_goals clear ho3 hg3
      all_goals go_wp2_with fail
      all_goals refine (refSum_any _ ((l.drop (k + 4)).take n) _ H3.out.1).mono ?_
      all_goals rintro x w4 ⟨rfl, rfl⟩
      all_goals go_wp2
      all_goals go_ret3
      all_goals exact ⟨rfl, H3.out.2⟩
    · rw [e'] at he
      cases he

set_option maxHeartbeats 1600000 in
theorem refFrame_ok (v : Value) (l : List UInt8) (p : Int) (q : List UInt8) (m : Nat) (w : World) (hv : Rd w v l) (he : fSpec l p = .ok (q, m)) :
    Calls Tryd.prog 33 #[v, .int .i64 p] w fun x w' => ∃ v', x = .returned (.tuple #[v', .int .i64 (m : Int), .int .i64 0]) ∧ Own w' w.heap.size v' q ∧ w.grownBy w' none := by
  have HU := refu_any v l p w hv
  have hv2 : Hid (Rd w v l) := hv
  obtain ⟨a, c, rfl, hn, hm, hb, hz⟩ := hv
  unfold maxLen at hm
  have hlen : l.length ≤ 9223372036854775807 := by omega
  rcases fSpec_cases l p with ⟨h0, h1⟩ | ⟨n, k, hu, h0, h1, h2, hn64, h3⟩
  · rw [h1] at he
    cases he
  · rcases h3 with ⟨-, e'⟩ | ⟨-, -, e'⟩ | ⟨-, -, -, e'⟩ | ⟨g1, g2, g3, e'⟩
    · rw [e'] at he
      cases he
    · rw [e'] at he
      cases he
    · rw [e'] at he
      cases he
    · rw [e'] at he
      simp only [Except.ok.injEq, Prod.mk.injEq] at he
      obtain ⟨rfl, rfl⟩ := he
      rw [hu] at HU
      unfold tup3 at HU
      simp only [] at HU
      rw [I64_of hn64] at HU
      have HC : Hid (Calls Tryd.prog 17 #[.slice a l.length c, .int .i64 p] w fun x w' => x = .returned (.tuple #[.int .u64 (n : Int), .int .i64 (k : Int), .int .i64 0]) ∧ w' = w) := HU
      clear HU hu hn64
      obtain ⟨g, o, rfl, -⟩ := hb k (by omega)
      clear hb
      have g1' : ¬ (65536 : Int) < (n : Int) := by omega
      have g2' : ¬ (l.length : Int) - (k : Int) < (n : Int) + 4 := by omega
      have hcl : ((l.drop (k + 4)).take n).length ≤ 65536 := by simp; omega
      clear e'
      have hend : Hid ((k : Int) + 4 + (n : Int) = ((k + 4 + n : Nat) : Int)) := by show (k : Int) + 4 + (n : Int) = ((k + 4 + n : Nat) : Int); omega
      have hcs := cells4 hv2.out k (by omega)
      have c0 := hcs.1
      have c1 := hcs.2.1
      have c2 := hcs.2.2.1
      have c3 := hcs.2.2.2
      have l0 := getD_lt l k
      have l1 := getD_lt l (k + 1)
      have l2 := getD_lt l (k + 2)
      have l3 := getD_lt l (k + 3)
      have HO : bits .or .u32 (bits .or .u32 (bits .or .u32 ((l.getD k 0).toNat : Int) (((l.getD (k + 1) 0).toNat : Int) * 256)) (((l.getD (k + 2) 0).toNat : Int) * 65536)) (((l.getD (k + 3) 0).toNat : Int) * 16777216) = I32 (BitVec.ofNat 32 (s4 l k)) := or4 l0 l1 l2 l3
      clear hcs
      rw [← g3] at HO
      clear g3
      generalize (l.getD k 0).toNat = b0 at *
      generalize (l.getD (k + 1) 0).toNat = b1 at *
      generalize (l.getD (k + 2) 0).toNat = b2 at *
      generalize (l.getD (k + 3) 0).toNat = b3 at *
      go_enter Tryd.func33, Tryd.ntmps33
      go_wp2_with fail
      refine HC.out.mono ?_
      rintro x w1 ⟨rfl, rfl⟩
      go_wp2_with fail
      go_region
      all_goals go_wp2_with fail
      all_goals refine (joined_any _ _ [] ((l.drop (k + 4)).take n) _ (Rd.nil _) (by first | exact (hv2.out.keep (gb_drew _ none)).cut (k + 4) n (by omega) | exact (hv2.out.keep (gb_drew _ none)).cut0 (k + 4) n (by omega) (by omega)) (by simp; omega)).mono ?_
      all_goals rintro x w3 ⟨v3, rfl, ho3, hg3⟩
      all_goals have H3 : Hid (Own w3 w1.heap.size v3 ((l.drop (k + 4)).take n) ∧ w1.grownBy w3 none) := ⟨by simpa using ho3, gb_none (gb_drew _ none) hg3⟩
      all_goals clear ho3 hg3
      all_goals go_wp2_with fail
      all_goals refine (refSum_any _ ((l.drop (k + 4)).take n) _ H3.out.1.rd).mono ?_
      all_goals rintro x w4 ⟨rfl, rfl⟩
      all_goals go_wp2
      all_goals go_ret3
      all_goals exact ⟨_, ret_fr hend.out rfl, H3.out⟩
end Go.Proofs.YtgbpnkamamafjaaDoor
