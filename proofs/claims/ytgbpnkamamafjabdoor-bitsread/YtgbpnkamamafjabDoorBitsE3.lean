/-
  What a reader's look comes to, whatever it looks at: the walk.
-/
import Derived.Test.YtgbpnkamamafjabDoorBitsE2
namespace Go.Proofs.YtgbpnkamamafjabDoor
open Go.RowKit

theorem RdA.cut {w : World} {g o : Nat} {l : List UInt8} (h : RdA w (some ⟨g, o, none⟩) l) (k n : Nat) (hk : k + n ≤ l.length) : RdA w (some ⟨g, o + k, none⟩) ((l.drop k).take n) := by
  intro j hj
  have hj' : j < n := by simp at hj; omega
  obtain ⟨b, q, hb, hc⟩ := h (k + j) (by omega)
  simp only [Option.some.injEq, Addr.mk.injEq, and_true] at hb
  obtain ⟨rfl, rfl⟩ := hb
  refine ⟨g, o + k, rfl, ?_⟩
  rw [Nat.add_assoc, hc]
  have e : ((l.drop k).take n).getD j 0 = l.getD (k + j) 0 := by
    simp only [List.getD, List.getElem?_take, hj', if_true, List.getElem?_drop]
  rw [e]
theorem cut_len (l : List UInt8) (k n : Nat) (hk : k + n ≤ l.length) : ((l.drop k).take n).length = n := by
  simp; omega
theorem Rd.cut {w : World} {g o c : Nat} {l : List UInt8} (h : Rd w (.slice (some ⟨g, o, none⟩) l.length c) l) (k n : Nat) (hk : k + n ≤ l.length) : Rd w (.slice (some ⟨g, o + k, none⟩) n (c - k)) ((l.drop k).take n) := by
  obtain ⟨a, c', hv, h1, h2, h3, h4⟩ := h
  simp only [Value.slice.injEq, true_and] at hv
  obtain ⟨rfl, rfl⟩ := hv
  refine ⟨_, _, by rw [cut_len l k n hk], by rw [cut_len l k n hk]; omega, by omega, h3.cut k n hk, fun h => by cases h⟩
theorem Rd.cut0 {w : World} {g o c : Nat} {l : List UInt8} (h : Rd w (.slice (some ⟨g, o, none⟩) l.length c) l) (k n : Nat) (hc : c ≤ k) (hk : k + n ≤ l.length) : Rd w (.slice (some ⟨g, o, none⟩) n 0) ((l.drop k).take n) := by
  obtain ⟨a, c', hv, h1, h2, h3, h4⟩ := h
  simp only [Value.slice.injEq, true_and] at hv
  obtain ⟨rfl, rfl⟩ := hv
  obtain rfl : n = 0 := by omega
  rw [List.take_zero]
  exact ⟨some ⟨g, o, none⟩, 0, rfl, Nat.le_refl _, by simp [maxLen], fun j hj => by simp at hj, fun h => by cases h⟩

theorem shlX {e s : Nat} (he : e < 18446744073709551616) : IntKind.u64.wrap (I64 (BitVec.ofNat 64 e) * 2 ^ s) = I64 (BitVec.ofNat 64 (e * 2 ^ s % 18446744073709551616)) := by
  rw [← u64_lit he, ← u64_lit (Nat.mod_lt _ (by decide)), IntKind.wrap_u64]
  have e1 : (e : Int) * 2 ^ s = ((e * 2 ^ s : Nat) : Int) := by rw [Int.natCast_mul, Int.natCast_pow]; rfl
  rw [e1]
  exact (Int.natCast_emod _ _).symm
theorem orX {a b s : Nat} (ha : a < 18446744073709551616) (hb : b < 256) : bits .or .u64 (I64 (BitVec.ofNat 64 a)) ((b : Int) / 2 ^ s) = I64 (BitVec.ofNat 64 (a ||| b / 2 ^ s)) := by
  have hb2 : b / 2 ^ s ≤ b := Nat.div_le_self _ _
  have hlt : (a ||| b / 2 ^ s) < 18446744073709551616 := Nat.or_lt_two_pow (n := 64) ha (by omega)
  rw [← u64_lit ha, ← u64_lit hlt]
  have e1 : (b : Int) / 2 ^ s = ((b / 2 ^ s : Nat) : Int) := by rw [Int.natCast_ediv, Int.natCast_pow]; rfl
  rw [e1, u64_or_nat _ _ ha (by omega)]
theorem shrX {a s : Nat} (ha : a < 18446744073709551616) : I64 (BitVec.ofNat 64 a) / 2 ^ s = I64 (BitVec.ofNat 64 (a / 2 ^ s)) := by
  have h2 : a / 2 ^ s ≤ a := Nat.div_le_self _ _
  rw [← u64_lit ha, ← u64_lit (by omega), Int.natCast_ediv, Int.natCast_pow]
  rfl

set_option maxHeartbeats 3200000 in
theorem look_any (g gb c p s : Nat) (L : List UInt8) (a n : Nat) (w : World) (h : Rr w g (.slice (some ⟨gb, 0, none⟩) L.length c) p s) (hv : Rd w (.slice (some ⟨gb, 0, none⟩) L.length c) L) (hL : L.length ≤ 1048576) (hn : n ≤ 64) (ha : a + n ≤ 8 * L.length) :
    Calls Tryd.prog 33 #[.pointer (some ⟨g, 0, none⟩), .int .i64 (a : Int), .int .i64 (n : Int)] w fun e w' => e = .returned (.int .u64 (I64 (BitVec.ofNat 64 (natOf (ubits L a n))))) ∧ w' = w := by
  obtain ⟨f, hf⟩ : ∃ f, f = a / 8 := ⟨_, rfl⟩
  obtain ⟨k, hk⟩ : ∃ k, k = a % 8 := ⟨_, rfl⟩
  have hq : (a : Int).tdiv 8 = (f : Int) := by rw [Int.tdiv_eq_ediv_of_nonneg (by omega)]; omega
  have hm : (a : Int).tmod 8 = (k : Int) := by rw [Int.tmod_eq_emod_of_nonneg (by omega)]; omega
  have hk8 : k < 8 := by omega
  have hae : a = 8 * f + k := by omega
  have hfl : f ≤ L.length := by omega
  have HR : Hid (natOf (ubits L a n) = lookN L f k n) := by show natOf (ubits L a n) = lookN L f k n; rw [hae]; exact (look_eq L f k n hk8 hn).symm
  have hE := e8_lt (fun j => (L.getD (f + j) 0).toNat) (fun j => (L.getD (f + j) 0).toNat_lt)
  have HE : Hid (∀ a' c', Rd w (.slice a' (L.length - f) c') ((L.drop f).take (L.length - f)) → Calls Tryd.prog 46 #[.slice a' (L.length - f) c'] w fun e w' => e = .returned (.int .u64 (I64 (BitVec.ofNat 64 (e8 (fun j => (L.getD (f + j) 0).toNat))))) ∧ w' = w) := fun a' c' hr => by
    have hd : (L.drop f).take (L.length - f) = L.drop f := List.take_of_length_le (by simp)
    rw [hd] at hr
    have := eight_any _ _ w hr
    have e : (fun j => ((L.drop f).getD j 0).toNat) = (fun j => (L.getD (f + j) 0).toNat) := by
      funext j
      simp only [List.getD, List.getElem?_drop]
    rw [e] at this
    exact this
  have hsh := shlX (s := k) hE
  have HV : Hid (Rd w (.slice (some ⟨gb, 0, none⟩) L.length c) L) := hv
  have hcm : L.length ≤ c ∧ c ≤ 9223372036854775807 := by
    obtain ⟨a', c', hv', h1, h2, -, -⟩ := hv
    simp only [Value.slice.injEq, true_and] at hv'
    obtain ⟨-, rfl⟩ := hv'
    exact ⟨h1, h2⟩
  have hcm1 := hcm.1
  have hcm2 := hcm.2
  have c0 := h.cells.1
  have hf2 : f ≤ 1048576 := by omega
  have hn0 : (n : Int) ≤ 64 := by omega
  have hV1 : e8 (fun j => (L.getD (f + j) 0).toNat) * 2 ^ k % 18446744073709551616 < 18446744073709551616 := Nat.mod_lt _ (by decide)
  by_cases h9 : 64 - k < n
  · have h9' : (64 : Int) - (k : Int) < (n : Int) := by omega
    have hi8 : f + 8 < L.length := by omega
    have hc8 : w.cell? ⟨gb, f + 8, none⟩ = some (.int .u8 ((L.getD (f + 8) 0).toNat : Int)) := by
      obtain ⟨a', c', hv', -, -, hra, -⟩ := hv
      simp only [Value.slice.injEq, true_and] at hv'
      obtain ⟨rfl, rfl⟩ := hv'
      obtain ⟨b, o, hb, hc⟩ := hra (f + 8) hi8
      simp only [Option.some.injEq, Addr.mk.injEq, and_true] at hb
      obtain ⟨rfl, rfl⟩ := hb
      rw [Nat.zero_add] at hc
      exact hc
    have hb8 := (L.getD (f + 8) 0).toNat_lt
    have hor := orX (s := 8 - k) hV1 hb8
    have hV2 : (e8 (fun j => (L.getD (f + j) 0).toNat) * 2 ^ k % 18446744073709551616 ||| (L.getD (f + 8) 0).toNat / 2 ^ (8 - k)) < 18446744073709551616 := Nat.or_lt_two_pow (n := 64) hV1 (Nat.lt_of_le_of_lt (Nat.div_le_self _ _) (by omega))
    have hsr := shrX (s := 64 - n) hV2
    have HF : Hid ((e8 (fun j => (L.getD (f + j) 0).toNat) * 2 ^ k % 18446744073709551616 ||| (L.getD (f + 8) 0).toNat / 2 ^ (8 - k)) / 2 ^ (64 - n) = natOf (ubits L a n)) := by
      show _ = _
      rw [HR.out]
      unfold lookN
      simp only [if_pos h9]
    clear h hv hE hV1 hV2 HR hf hk hae hcm
    generalize (e8 (fun j => (L.getD (f + j) 0).toNat) * 2 ^ k % 18446744073709551616 ||| (L.getD (f + 8) 0).toNat / 2 ^ (8 - k)) / 2 ^ (64 - n) = R at *
    generalize e8 (fun j => (L.getD (f + j) 0).toNat) * 2 ^ k % 18446744073709551616 ||| (L.getD (f + 8) 0).toNat / 2 ^ (8 - k) = V2 at *
    generalize e8 (fun j => (L.getD (f + j) 0).toNat) * 2 ^ k % 18446744073709551616 = V1 at *
    generalize e8 (fun j => (L.getD (f + j) 0).toNat) = E at *
    generalize (L.getD (f + 8) 0).toNat = B8 at *
    generalize natOf (ubits L a n) = NN at *
    generalize BitVec.ofNat 64 E = EE at *
    generalize BitVec.ofNat 64 V1 = VV1 at *
    generalize BitVec.ofNat 64 V2 = VV2 at *
    go_enter Tryd.func33, Tryd.ntmps33
    go_wp2_with fail
    all_goals refine (HE.out _ _ (by first | exact (by simpa using HV.out.cut f (L.length - f) (by omega)) | exact HV.out.cut0 f (L.length - f) (by omega) (by omega))).mono ?_
    all_goals rintro e w1 ⟨rfl, rfl⟩
    all_goals go_wp2
    all_goals go_ret
    all_goals exact ⟨ret_int (by rw [HF.out]), rfl⟩
  · have h9' : ¬ (64 : Int) - (k : Int) < (n : Int) := by omega
    have hsr := shrX (s := 64 - n) hV1
    have HF : Hid (e8 (fun j => (L.getD (f + j) 0).toNat) * 2 ^ k % 18446744073709551616 / 2 ^ (64 - n) = natOf (ubits L a n)) := by
      show _ = _
      rw [HR.out]
      unfold lookN
      simp only [if_neg h9]
    clear h hv hE hV1 HR hf hk hae hcm
    generalize e8 (fun j => (L.getD (f + j) 0).toNat) * 2 ^ k % 18446744073709551616 / 2 ^ (64 - n) = R at *
    generalize e8 (fun j => (L.getD (f + j) 0).toNat) * 2 ^ k % 18446744073709551616 = V1 at *
    generalize e8 (fun j => (L.getD (f + j) 0).toNat) = E at *
    generalize natOf (ubits L a n) = NN at *
    generalize BitVec.ofNat 64 E = EE at *
    generalize BitVec.ofNat 64 V1 = VV1 at *
    go_enter Tryd.func33, Tryd.ntmps33
    go_wp2_with fail
    all_goals refine (HE.out _ _ (by first | exact (by simpa using HV.out.cut f (L.length - f) (by omega)) | exact HV.out.cut0 f (L.length - f) (by omega) (by omega))).mono ?_
    all_goals rintro e w1 ⟨rfl, rfl⟩
    all_goals go_wp2
    all_goals go_ret
    all_goals exact ⟨ret_int (by rw [HF.out]), rfl⟩
end Go.Proofs.YtgbpnkamamafjabDoor
