/-
  What vint.sumAt and vint.Frame come to: the walks.
-/
import Derived.Test.YtfggcmkoihemoaaDoorFrameFacts
namespace Go.Proofs.YtfggcmkoihemoaaDoor
open Go.RowKit

theorem getD_lt (l : List UInt8) (k : Nat) : (l.getD k 0).toNat < 256 := (l.getD k 0).toNat_lt

/-- a part of bytes that are read -/
theorem RdA.cut {w : World} {g o : Nat} {l : List UInt8} (h : RdA w (some ⟨g, o, none⟩) l) (k n : Nat) (hk : k + n ≤ l.length) : RdA w (some ⟨g, o + k, none⟩) ((l.drop k).take n) := by
  intro j hj
  have hj' : j < n := by simp at hj; omega
  obtain ⟨b, q, hb, hc⟩ := h (k + j) (by omega)
  simp only [Option.some.injEq, Addr.mk.injEq, and_true] at hb
  obtain ⟨rfl, rfl⟩ := hb
  refine ⟨g, o + k, rfl, ?_⟩
  rw [Nat.add_assoc, hc]
  have e : ((l.drop k).take n).getD j 0 = l.getD (k + j) 0 := by
    simp only [List.getD, List.getElem?_take, hj', if_true, List.getElem?_drop]
  rw [e]
theorem cut_len (l : List UInt8) (k n : Nat) (hk : k + n ≤ l.length) : ((l.drop k).take n).length = n := by
  simp; omega
theorem Rd.cut {w : World} {g o c : Nat} {l : List UInt8} (h : Rd w (.slice (some ⟨g, o, none⟩) l.length c) l) (k n : Nat) (hk : k + n ≤ l.length) : Rd w (.slice (some ⟨g, o + k, none⟩) n (c - k)) ((l.drop k).take n) := by
  obtain ⟨a, c', hv, h1, h2, h3, h4⟩ := h
  simp only [Value.slice.injEq, true_and] at hv
  obtain ⟨rfl, rfl⟩ := hv
  refine ⟨_, _, by rw [cut_len l k n hk], by rw [cut_len l k n hk]; omega, by omega, h3.cut k n hk, fun h => by cases h⟩

theorem Rd.cut0 {w : World} {g o c : Nat} {l : List UInt8} (h : Rd w (.slice (some ⟨g, o, none⟩) l.length c) l) (k n : Nat) (hc : c ≤ k) (hk : k + n ≤ l.length) : Rd w (.slice (some ⟨g, o, none⟩) n 0) ((l.drop k).take n) := by
  obtain ⟨a, c', hv, h1, h2, h3, h4⟩ := h
  simp only [Value.slice.injEq, true_and] at hv
  obtain ⟨rfl, rfl⟩ := hv
  obtain rfl : n = 0 := by omega
  rw [List.take_zero]
  exact ⟨some ⟨g, o, none⟩, 0, rfl, Nat.le_refl _, by simp [maxLen], fun j hj => by simp at hj, fun h => by cases h⟩

set_option maxHeartbeats 1600000 in
theorem sumAt_any (g o c k : Nat) (l : List UInt8) (w : World) (hv : Rd w (.slice (some ⟨g, o, none⟩) l.length c) l) (hk : k + 4 ≤ l.length) :
    Calls Tryd.prog 48 #[.slice (some ⟨g, o, none⟩) l.length c, .int .i64 k] w fun e w' => e = .returned (.int .u32 (I32 (BitVec.ofNat 32 (s4 l k)))) ∧ w.grownBy w' none := by
  obtain ⟨a, c', he, h1, h2, h3, h4⟩ := hv
  simp only [Value.slice.injEq, true_and] at he
  obtain ⟨rfl, rfl⟩ := he
  have hc : ∀ j, j < l.length → w.cell? ⟨g, o + j, none⟩ = some (.int .u8 ((l.getD j 0).toNat : Int)) := fun j hj => by
    obtain ⟨b, q, hb, hc⟩ := h3 j hj
    simp only [Option.some.injEq, Addr.mk.injEq, and_true] at hb
    obtain ⟨rfl, rfl⟩ := hb
    exact hc
  have c0 := hc k (by omega)
  have c1 := hc (k + 1) (by omega)
  have c2 := hc (k + 2) (by omega)
  have c3 := hc (k + 3) (by omega)
  have l0 := getD_lt l k
  have l1 := getD_lt l (k + 1)
  have l2 := getD_lt l (k + 2)
  have l3 := getD_lt l (k + 3)
  have HO : Hid (bits .or .u32 (bits .or .u32 (bits .or .u32 ((l.getD k 0).toNat : Int) (((l.getD (k + 1) 0).toNat : Int) * 256)) (((l.getD (k + 2) 0).toNat : Int) * 65536)) (((l.getD (k + 3) 0).toNat : Int) * 16777216) = I32 (BitVec.ofNat 32 (s4 l k))) := or4 l0 l1 l2 l3
  generalize BitVec.ofNat 32 (s4 l k) = S at *
  generalize (l.getD k 0).toNat = b0 at *
  generalize (l.getD (k + 1) 0).toNat = b1 at *
  generalize (l.getD (k + 2) 0).toNat = b2 at *
  generalize (l.getD (k + 3) 0).toNat = b3 at *
  unfold maxLen at h2
  generalize l.length = n at *
  have hn : n ≤ 9223372036854775807 := by omega
  clear hc h3 h4 h2
  go_enter Tryd.func48, Tryd.ntmps48
  go_wp2
  go_region
  all_goals (try go_wp2)
  all_goals go_ret
  all_goals exact ⟨ret_int HO.out, ⟨rfl, rfl, rfl, Nat.le_refl _, fun _ _ _ => rfl⟩⟩

theorem ret_fr {v : Value} {a b c d : Int} (h1 : a = c) (h2 : b = d) : Ending.returned (.tuple #[v, .int .i64 a, .int .i64 b]) = .returned (.tuple #[v, .int .i64 c, .int .i64 d]) := by rw [h1, h2]

set_option maxHeartbeats 1600000 in
theorem frame_err (v : Value) (l : List UInt8) (p e : Int) (w : World) (hv : Rd w v l) (hT : TabIn w) (he : fSpec l p = .error e) :
    Calls Tryd.prog 32 #[v, .int .i64 p] w fun x w' => x = .returned (.tuple #[.slice none 0 0, .int .i64 0, .int .i64 e]) ∧ w.grownBy w' none := by
  have HU := u_any v l p w hv
  have hv2 : Hid (Rd w v l) := hv
  have hT2 : Hid (TabIn w) := hT
  obtain ⟨a, c, rfl, hn, hm, hb, hz⟩ := hv
  unfold maxLen at hm
  have hlen : l.length ≤ 9223372036854775807 := by omega
  have hb2 : Hid (RdA w a l) := hb
  clear hT hb
  rcases fSpec_cases l p with ⟨h0, h1⟩ | ⟨n, k, hu, h0, h1, h2, hn64, h3⟩
  · rw [h1] at he
    cases he
    have hne : ((uSpec l p).2.2 != 0) = true := by rw [bne_iff_ne]; exact h0
    unfold tup3 at HU
    generalize (uSpec l p).2.2 = e at *
    generalize (uSpec l p).2.1 = r at *
    generalize (uSpec l p).1 = q at *
    have HC : Hid (Calls Tryd.prog 16 #[.slice a l.length c, .int .i64 p] w fun x w' => x = .returned (.tuple #[.int .u64 (I64 (BitVec.ofNat 64 q)), .int .i64 r, .int .i64 e]) ∧ w' = w) := HU
    clear HU h0 h1
    go_enter Tryd.func32, Tryd.ntmps32
    go_wp2_with fail
    refine HC.out.mono ?_
    rintro x w1 ⟨rfl, rfl⟩
    go_wp2
    go_ret3
    exact ⟨rfl, gb_refl _ _⟩
  · rw [hu] at HU
    unfold tup3 at HU
    simp only [] at HU
    rw [I64_of hn64] at HU
    have HC : Hid (Calls Tryd.prog 16 #[.slice a l.length c, .int .i64 p] w fun x w' => x = .returned (.tuple #[.int .u64 (n : Int), .int .i64 (k : Int), .int .i64 0]) ∧ w' = w) := HU
    clear HU hu hn64
    rcases h3 with ⟨g1, e'⟩ | ⟨g1, g2, e'⟩ | ⟨g1, g2, g3, e'⟩ | ⟨-, -, -, e'⟩
    · rw [e'] at he
      cases he
      have g1' : (65536 : Int) < (n : Int) := by omega
      clear e'
      go_enter Tryd.func32, Tryd.ntmps32
      go_wp2_with fail
      refine HC.out.mono ?_
      rintro x w1 ⟨rfl, rfl⟩
      go_wp2
      go_ret3
      exact ⟨rfl, gb_refl _ _⟩
    · rw [e'] at he
      cases he
      have g1' : ¬ (65536 : Int) < (n : Int) := by omega
      have g2' : (l.length : Int) - (k : Int) < (n : Int) + 4 := by omega
      clear e'
      go_enter Tryd.func32, Tryd.ntmps32
      go_wp2_with fail
      refine HC.out.mono ?_
      rintro x w1 ⟨rfl, rfl⟩
      go_wp2
      go_ret3
      exact ⟨rfl, gb_refl _ _⟩
    · rw [e'] at he
      cases he
      obtain ⟨g, o, rfl, -⟩ := hb2.out k (by omega)
      have g1' : ¬ (65536 : Int) < (n : Int) := by omega
      have g2' : ¬ (l.length : Int) - (k : Int) < (n : Int) + 4 := by omega
      clear e'
      go_enter Tryd.func32, Tryd.ntmps32
      go_wp2_with fail
      refine HC.out.mono ?_
      rintro x w1 ⟨rfl, rfl⟩
      go_wp2_with fail
      refine (sumAt_any g o c k l _ hv2.out (by omega)).mono ?_
      rintro x w2 ⟨rfl, hg2⟩
      have G2 : Hid (w1.grownBy w2 none) := hg2
      clear hg2
      have hne : (I32 (crc ((l.drop (k + 4)).take n)) != I32 (BitVec.ofNat 32 (s4 l k))) = true := by rw [bne_iff_ne]; exact fun h => g3 (I32_inj h)
      clear g3
      generalize BitVec.ofNat 32 (s4 l k) = S at *
      go_wp2_with fail
      all_goals refine (sum_any _ ((l.drop (k + 4)).take n) _ (by first | exact (hv2.out.keep G2.out).cut (k + 4) n (by omega) | exact (hv2.out.keep G2.out).cut0 (k + 4) n (by omega) (by omega)) (hT2.out.keep0 G2.out)).mono ?_
      all_goals rintro x w3 ⟨rfl, rfl⟩
      all_goals go_wp2
      all_goals go_ret3
      all_goals exact ⟨rfl, G2.out⟩
    · rw [e'] at he
      cases he

set_option maxHeartbeats 1600000 in
theorem frame_ok (v : Value) (l : List UInt8) (p : Int) (q : List UInt8) (m : Nat) (w : World) (hv : Rd w v l) (hT : TabIn w) (he : fSpec l p = .ok (q, m)) :
    Calls Tryd.prog 32 #[v, .int .i64 p] w fun x w' => ∃ v', x = .returned (.tuple #[v', .int .i64 (m : Int), .int .i64 0]) ∧ Own w' w.heap.size v' q ∧ w.grownBy w' none ∧ ∃ b, v'.ownBlock = some b := by
  have HU := u_any v l p w hv
  have hv2 : Hid (Rd w v l) := hv
  have hT2 : Hid (TabIn w) := hT
  obtain ⟨a, c, rfl, hn, hm, hb, hz⟩ := hv
  unfold maxLen at hm
  have hlen : l.length ≤ 9223372036854775807 := by omega
  rcases fSpec_cases l p with ⟨h0, h1⟩ | ⟨n, k, hu, h0, h1, h2, hn64, h3⟩
  · rw [h1] at he
    cases he
  · rcases h3 with ⟨-, e'⟩ | ⟨-, -, e'⟩ | ⟨-, -, -, e'⟩ | ⟨g1, g2, g3, e'⟩
    · rw [e'] at he
      cases he
    · rw [e'] at he
      cases he
    · rw [e'] at he
      cases he
    · rw [e'] at he
      simp only [Except.ok.injEq, Prod.mk.injEq] at he
      obtain ⟨rfl, rfl⟩ := he
      rw [hu] at HU
      unfold tup3 at HU
      simp only [] at HU
      rw [I64_of hn64] at HU
      have HC : Hid (Calls Tryd.prog 16 #[.slice a l.length c, .int .i64 p] w fun x w' => x = .returned (.tuple #[.int .u64 (n : Int), .int .i64 (k : Int), .int .i64 0]) ∧ w' = w) := HU
      clear HU hu hn64 hT
      obtain ⟨g, o, rfl, -⟩ := hb k (by omega)
      clear hb
      have g1' : ¬ (65536 : Int) < (n : Int) := by omega
      have g2' : ¬ (l.length : Int) - (k : Int) < (n : Int) + 4 := by omega
      have hcl : ((l.drop (k + 4)).take n).length ≤ 65536 := by simp; omega
      clear e'
      have hend : Hid ((k : Int) + 4 + (n : Int) = ((k + 4 + n : Nat) : Int)) := by show (k : Int) + 4 + (n : Int) = ((k + 4 + n : Nat) : Int); omega
      go_enter Tryd.func32, Tryd.ntmps32
      go_wp2_with fail
      refine HC.out.mono ?_
      rintro x w1 ⟨rfl, rfl⟩
      go_wp2_with fail
      refine (sumAt_any g o c k l _ hv2.out (by omega)).mono ?_
      rintro x w2 ⟨rfl, hg2⟩
      have G2 : Hid (w1.grownBy w2 none) := hg2
      clear hg2
      rw [← g3]
      clear g3
      go_wp2_with fail
      all_goals refine (sum_any _ ((l.drop (k + 4)).take n) _ (by first | exact (hv2.out.keep G2.out).cut (k + 4) n (by omega) | exact (hv2.out.keep G2.out).cut0 (k + 4) n (by omega) (by omega)) (hT2.out.keep0 G2.out)).mono ?_
      all_goals rintro x w3 ⟨rfl, rfl⟩
      all_goals go_wp2_with fail
      all_goals refine (withRoom_any _ ((l.drop (k + 4)).take n) 0 _ rfl _ (by first | exact (hv2.out.keep G2.out).cut (k + 4) n (by omega) | exact (hv2.out.keep G2.out).cut0 (k + 4) n (by omega) (by omega)) (by omega)).mono ?_
      all_goals rintro x w4 ⟨v4, rfl, ho4, hg4, hb4⟩
      all_goals have H4 : Hid (Own w4 w1.heap.size v4 ((l.drop (k + 4)).take n) ∧ w1.grownBy w4 none ∧ ∃ b, v4.ownBlock = some b) := ⟨ho4.mono G2.out.size, gb_none G2.out hg4, ⟨_, hb4⟩⟩
      all_goals clear ho4 hg4 hb4
      all_goals go_wp2
      all_goals go_ret3
      all_goals exact ⟨_, ret_fr hend.out rfl, H4.out⟩
end Go.Proofs.YtfggcmkoihemoaaDoor
