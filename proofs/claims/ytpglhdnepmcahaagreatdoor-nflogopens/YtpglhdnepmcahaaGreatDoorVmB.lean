/-
  RefU, FrameFacts, FrameR, in one text.
-/
import Derived.Test.YtpglhdnepmcahaaGreatDoorVmF
/- RefU -/
namespace Go.Proofs.YtpglhdnepmcahaaGreatDoor
open Go.RowKit

theorem step_ref {acc y k : Nat} (hk : k ≤ 9) (ha : acc < 128 ^ k) (h9 : k = 9 → y % 128 ≤ 1) :
    bits .or .u64 (I64 (BitVec.ofNat 64 acc)) (IntKind.u64.wrap ((y : Int) % 128 * 2 ^ (7 * k))) = I64 (BitVec.ofNat 64 (acc + y % 128 * 128 ^ k)) := by
  have hl := mul_lt (y := y % 128) hk (by omega) h9
  have e : ((y : Int) % 128) = ((y % 128 : Nat) : Int) := by omega
  rw [e, wrap_shl hl, or_step hk ha hl]

set_option maxRecDepth 4000 in
set_option maxHeartbeats 3200000 in
theorem refu_in (v : Value) (l : List UInt8) (p : Nat) (w : World) (hv : Rd w v l) (hp : p ≤ l.length) :
    Calls Tryz.prog 45 #[v, .int .i64 p] w fun e w' => e = .returned (tup3 (uSpec l p)) ∧ w' = w := by
  have Hp : Hid (∀ r, rdU (l.drop p) 0 0 = r → uSpec l (p : Int) = uRes r p) := fun r hr => uSpec_in hp hr
  obtain ⟨a, c, rfl, hn, hm, hb, hz⟩ := hv
  unfold maxLen at hm
  unfold RdA at hb
  have hlt' : l.length ≤ 9223372036854775807 := by omega
  clear hm hn hz
  generalize hN : l.length = n at *
  have HN : Hid (l.length = n) := hN
  clear hN
  have t0 : ¬ (p : Int) < 0 := by omega
  have t1 : ¬ (n : Int) < (p : Int) := by omega
  go_enter Tryz.func45, Tryz.ntmps45
  go_wp2
  go_loop [7, 8] (fun r i => ∃ k : Nat, k ≤ 9 ∧ p + k ≤ n ∧ i = .int .i64 k ∧ ∃ acc : Nat, r = .int .u64 (I64 (BitVec.ofNat 64 acc)) ∧ Hid (acc < 128 ^ k ∧ rdU (l.drop p) 0 0 = rdU (l.drop (p + k)) k acc)) (fun _ i => 10 - (intOf i).toNat)
  case atStart => exact ⟨0, by omega, by omega, rfl, 0, rfl, by decide, rfl⟩
  case round =>
    obtain ⟨k, hk, hkn, rfl, acc, rfl, hacc⟩ := hrel
    by_cases hlt : p + k < n
    · obtain ⟨b, o, rfl, hc⟩ := hb (p + k) hlt
      have hlen : Hid (p + k < l.length) := by show p + k < l.length; rw [HN.out]; exact hlt
      have hc8 : (l.getD (p + k) 0).toNat < 256 := (l.getD (p + k) 0).toNat_lt
      have r1 : Hid (k = 9 → 1 < (l.getD (p + k) 0).toNat → uSpec l (p : Int) = (0, 0, 7)) := fun h1 h2 => Hp.out _ (hacc.out.2.trans (rd_large hlen.out h1 h2))
      have r2 : Hid (0 < k → (l.getD (p + k) 0).toNat = 0 → uSpec l (p : Int) = (0, 0, 3)) := fun h1 h2 => Hp.out _ (hacc.out.2.trans (rd_form hlen.out h1 h2))
      have r3 : Hid ((k = 9 → (l.getD (p + k) 0).toNat ≤ 1) → (l.getD (p + k) 0).toNat < 128 → (0 < k → (l.getD (p + k) 0).toNat ≠ 0) → uSpec l (p : Int) = (acc + (l.getD (p + k) 0).toNat * 128 ^ k, (p : Int) + ((k + 1 : Nat) : Int), 0)) :=
        fun h1 h2 h3 => Hp.out _ (hacc.out.2.trans (rd_ok hlen.out h1 h2 h3))
      have r4 : Hid (k ≠ 9 → ¬ (l.getD (p + k) 0).toNat < 128 → rdU (l.drop p) 0 0 = rdU (l.drop (p + k + 1)) (k + 1) (acc + (l.getD (p + k) 0).toNat % 128 * 128 ^ k)) := fun h1 h2 => hacc.out.2.trans (rd_more hlen.out h1 h2)
      have hacc1 : Hid (acc < 128 ^ k) := hacc.out.1
      clear hacc Hp
      generalize (l.getD (p + k) 0).toNat = y at *
      clear hb
      by_cases hk9 : k = 9
      · have K9 : Hid (k = 9) := hk9
        have hk9' : ((k : Int) == 9) = true := by simp; omega
        have hkp : (0 : Int) < (k : Int) := by omega
        clear hk9
        by_cases hy1 : 1 < (y : Int)
        · have HY : Hid (1 < y) := by show 1 < y; omega
          go_wp2
          go_ret3
          exact ⟨by rw [r1.out K9.out HY.out]; exact ret3 I64_0.symm rfl rfl, rfl⟩
        · have hst : Hid (bits .or .u64 (I64 (BitVec.ofNat 64 acc)) (IntKind.u64.wrap ((y : Int) % 128 * 2 ^ (7 * k))) = I64 (BitVec.ofNat 64 (acc + y * 128 ^ k))) := by
            have := step_ref (acc := acc) (y := y) (k := k) (by omega) hacc1.out (by omega)
            rwa [Nat.mod_eq_of_lt (show y < 128 by omega)] at this
          by_cases hy0 : y = 0
          · have Y0 : Hid (y = 0) := hy0
            have hy0' : ((y : Int) == 0) = true := by simp; omega
            have hy8 : (y : Int) < 128 := by omega
            clear hy0
            go_wp2
            go_ret3
            exact ⟨by rw [r2.out (by have := K9.out; omega) Y0.out]; exact ret3 I64_0.symm rfl rfl, rfl⟩
          · have hy0' : ((y : Int) == 0) = false := by simp; omega
            have hy8 : (y : Int) < 128 := by omega
            have HY : Hid (y ≠ 0 ∧ y ≤ 1) := ⟨hy0, by omega⟩
            go_wp2
            go_ret3
            exact ⟨by rw [r3.out (fun _ => HY.out.2) (by have := HY.out.2; omega) (fun _ => HY.out.1)]; exact ret3 hst.out (show _ = (p : Int) + ((k + 1 : Nat) : Int) by omega) rfl, rfl⟩
      · have hk9' : ((k : Int) == 9) = false := by simp; omega
        by_cases hy8 : (y : Int) < 128
        · have hst : Hid (bits .or .u64 (I64 (BitVec.ofNat 64 acc)) (IntKind.u64.wrap ((y : Int) % 128 * 2 ^ (7 * k))) = I64 (BitVec.ofNat 64 (acc + y * 128 ^ k))) := by
            have := step_ref (acc := acc) (y := y) (k := k) (by omega) hacc1.out (by omega)
            rwa [Nat.mod_eq_of_lt (show y < 128 by omega)] at this
          by_cases hy0 : y = 0
          · have Y0 : Hid (y = 0) := hy0
            have hy0' : ((y : Int) == 0) = true := by simp; omega
            by_cases hk0 : k = 0
            · have K0 : Hid (k = 0) := hk0
              have hkp : ¬ (0 : Int) < (k : Int) := by omega
              clear hy0 hk0
              go_wp2
              go_ret3
              exact ⟨by rw [r3.out (by omega) (by omega) (fun h => by have := K0.out; omega)]; exact ret3 hst.out (show _ = (p : Int) + ((k + 1 : Nat) : Int) by omega) rfl, rfl⟩
            · have hkp : (0 : Int) < (k : Int) := by omega
              clear hy0
              go_wp2
              go_ret3
              exact ⟨by rw [r2.out (by omega) Y0.out]; exact ret3 I64_0.symm rfl rfl, rfl⟩
          · have hy0' : ((y : Int) == 0) = false := by simp; omega
            go_wp2
            go_ret3
            exact ⟨by rw [r3.out (by omega) (by omega) (by omega)]; exact ret3 hst.out (show _ = (p : Int) + ((k + 1 : Nat) : Int) by omega) rfl, rfl⟩
        · have HST : Hid (bits .or .u64 (I64 (BitVec.ofNat 64 acc)) (IntKind.u64.wrap ((y : Int) % 128 * 2 ^ (7 * k))) = I64 (BitVec.ofNat 64 (acc + y % 128 * 128 ^ k))) := step_ref (by omega) hacc1.out (by omega)
          go_wp2
          go_round
          case rel => exact ⟨k + 1, by omega, by omega, by go_num, acc + y % 128 * 128 ^ k, by rw [HST.out], acc_lt hacc1.out (by omega), r4.out hk9 (by omega)⟩
          case measure => simp [intOf]; omega
    · have hend : Hid (uSpec l (p : Int) = (0, 0, 9)) := Hp.out _ (hacc.out.2.trans (rd_end _ (by rw [HN.out]; omega)))
      clear hb
      go_wp2
      go_ret3
      exact ⟨by rw [hend.out]; exact ret3 I64_0.symm rfl rfl, rfl⟩

set_option maxHeartbeats 800000 in
theorem refu_out (v : Value) (l : List UInt8) (p : Int) (w : World) (hv : Rd w v l) (hp : p < 0 ∨ (l.length : Int) < p) :
    Calls Tryz.prog 45 #[v, .int .i64 p] w fun e w' => e = .returned (tup3 (uSpec l p)) ∧ w' = w := by
  have Hs : Hid (uSpec l p = (0, 0, 1)) := if_pos hp
  obtain ⟨a, c, rfl, -, -, -, -⟩ := hv
  by_cases h : p < 0
  · clear hp
    go_enter Tryz.func45, Tryz.ntmps45
    go_wp2
    go_ret3
    exact ⟨by rw [Hs.out]; exact ret3 I64_0.symm rfl rfl, rfl⟩
  · have h1 : (l.length : Int) < p := by omega
    clear hp
    go_enter Tryz.func45, Tryz.ntmps45
    go_wp2
    go_ret3
    exact ⟨by rw [Hs.out]; exact ret3 I64_0.symm rfl rfl, rfl⟩

theorem refu_any (v : Value) (l : List UInt8) (p : Int) (w : World) (hv : Rd w v l) :
    Calls Tryz.prog 45 #[v, .int .i64 p] w fun e w' => e = .returned (tup3 (uSpec l p)) ∧ w' = w := by
  by_cases hp : p < 0 ∨ (l.length : Int) < p
  · exact refu_out v l p w hv hp
  · obtain ⟨q, rfl⟩ := Int.eq_ofNat_of_zero_le (show 0 ≤ p by omega)
    exact refu_in v l q w hv (by omega)

theorem uRes_err {r : Except Int (Nat × Nat)} {a : Int} (h : (uRes r a).2.2 ≠ 0) : (uRes r a).1 = 0 ∧ (uRes r a).2.1 = 0 := by
  cases r with
  | error e => exact ⟨rfl, rfl⟩
  | ok x => exact absurd rfl h
theorem uSpec_err {l : List UInt8} {a : Int} (h : (uSpec l a).2.2 ≠ 0) : (uSpec l a).1 = 0 ∧ (uSpec l a).2.1 = 0 := by
  unfold uSpec at h ⊢
  split
  · exact ⟨rfl, rfl⟩
  · rename_i hn
    rw [if_neg hn] at h
    exact uRes_err h

theorem refi_any (v : Value) (l : List UInt8) (p : Int) (w : World) (hv : Rd w v l) :
    Calls Tryz.prog 44 #[v, .int .i64 p] w fun e w' => e = .returned (tup3i (uSpec l p)) ∧ w' = w := by
  have H := refu_any v l p w hv
  have HE : (uSpec l p).2.2 ≠ 0 → (uSpec l p).1 = 0 ∧ (uSpec l p).2.1 = 0 := uSpec_err
  generalize uSpec l p = r at H HE ⊢
  obtain ⟨r1, r2, r3⟩ := r
  unfold tup3 at H
  unfold tup3i
  simp only [] at H HE ⊢
  by_cases h3 : r3 = 0
  · subst h3
    clear HE
    generalize BitVec.ofNat 64 r1 = x at H ⊢
    have HC : Hid (Calls Tryz.prog 45 #[v, .int .i64 p] w fun e w' => e = .returned (.tuple #[.int .u64 (I64 x), .int .i64 r2, .int .i64 0]) ∧ w' = w) := H
    clear H hv
    go_enter Tryz.func44, Tryz.ntmps44
    go_wp2_with fail
    refine HC.out.mono ?_
    rintro e w1 ⟨rfl, rfl⟩
    go_wp2_with fail
    refine (back_any x _).mono ?_
    rintro e w2 ⟨rfl, rfl⟩
    go_wp2
    go_ret3
    exact ⟨rfl, rfl⟩
  · obtain ⟨rfl, rfl⟩ := HE h3
    have hz : Hid (uz (BitVec.ofNat 64 0).toNat = 0) := by show uz (BitVec.ofNat 64 0).toNat = 0; decide
    generalize BitVec.ofNat 64 0 = x at *
    have HC : Hid (Calls Tryz.prog 45 #[v, .int .i64 p] w fun e w' => e = .returned (.tuple #[.int .u64 (I64 x), .int .i64 0, .int .i64 r3]) ∧ w' = w) := H
    have hne : (r3 != 0) = true := by rw [bne_iff_ne]; exact h3
    clear H hv HE h3
    go_enter Tryz.func44, Tryz.ntmps44
    go_wp2_with fail
    refine HC.out.mono ?_
    rintro e w1 ⟨rfl, rfl⟩
    go_wp2
    go_ret3
    exact ⟨ret3 hz.out.symm rfl rfl, rfl⟩
end Go.Proofs.YtpglhdnepmcahaaGreatDoor

/- FrameFacts -/
namespace Go.Proofs.YtpglhdnepmcahaaGreatDoor
open Go.RowKit

theorem rdU_ok : ∀ (l : List UInt8) (i acc n k : Nat), i ≤ 9 → acc < 128 ^ i → rdU l i acc = .ok (n, k) → n < 18446744073709551616 ∧ i < k ∧ k ≤ i + l.length ∧ k ≤ 10 := by
  intro l
  induction l with
  | nil => intro i acc n k _ _ h; simp [rdU] at h
  | cons c t ih =>
    intro i acc n k hi ha h
    rw [rdU] at h
    by_cases h1 : i = 9 ∧ 1 < c.toNat
    · rw [if_pos h1] at h; simp at h
    · rw [if_neg h1] at h
      by_cases h2 : c.toNat < 128
      · rw [if_pos h2] at h
        by_cases h3 : c.toNat = 0 ∧ 0 < i
        · rw [if_pos h3] at h; simp at h
        · rw [if_neg h3] at h
          simp only [Except.ok.injEq, Prod.mk.injEq] at h
          obtain ⟨rfl, rfl⟩ := h
          have hl := mul_lt (y := c.toNat) hi h2 (by omega)
          have hp : (128 : Nat) ^ i ≤ 128 ^ 9 := Nat.pow_le_pow_right (by decide) hi
          have e : acc ||| c.toNat * 128 ^ i = acc + c.toNat * 128 ^ i := by
            rw [pow7] at ha ⊢
            rw [Nat.or_comm, Nat.mul_comm, ← Nat.two_pow_add_eq_or_of_lt ha]
            omega
          have h9 : (128 : Nat) ^ 9 = 9223372036854775808 := by decide
          refine ⟨?_, by omega, by simp, by omega⟩
          rw [← e]
          exact Nat.or_lt_two_pow (n := 64) (by omega) hl
      · rw [if_neg h2] at h
        have hi9 : i ≠ 9 := by omega
        have := ih (i + 1) _ n k (by omega) (acc_lt ha (by omega)) h
        simp only [List.length_cons]
        omega

/-- what a number that is read is within -/
theorem uSpec_ok {l : List UInt8} {a : Int} (h : (uSpec l a).2.2 = 0) : ∃ n k : Nat, uSpec l a = (n, (k : Int), 0) ∧ n < 18446744073709551616 ∧ 0 ≤ a ∧ a < (k : Int) ∧ k ≤ l.length := by
  unfold uSpec at h ⊢
  by_cases h1 : a < 0 ∨ (l.length : Int) < a
  · rw [if_pos h1] at h; simp at h
  · rw [if_neg h1] at h ⊢
    cases hr : rdU (l.drop a.toNat) 0 0 with
    | error e =>
      exfalso
      rw [hr] at h
      simp only [uRes] at h
      subst h
      have : ∀ (t : List UInt8) (i acc : Nat), rdU t i acc ≠ .error 0 := by
        intro t
        induction t with
        | nil => intro i acc h; simp [rdU] at h
        | cons c t ih =>
          intro i acc h
          rw [rdU] at h
          split at h
          · simp at h
          · split at h
            · split at h
              · simp at h
              · simp at h
            · exact ih _ _ h
      exact this _ _ _ hr
    | ok x =>
      obtain ⟨n, k⟩ := x
      have := rdU_ok _ 0 0 n k (by omega) (by decide) hr
      simp only [List.length_drop] at this
      refine ⟨n, a.toNat + k, ?_, this.1, by omega, by omega, by omega⟩
      simp only [uRes, Prod.mk.injEq, true_and, and_true]
      omega

/-- the sum that stands at a place -/
def s4 (l : List UInt8) (k : Nat) : Nat := (l.getD k 0).toNat + (l.getD (k + 1) 0).toNat * 256 + (l.getD (k + 2) 0).toNat * 65536 + (l.getD (k + 3) 0).toNat * 16777216
theorem or4 {b0 b1 b2 b3 : Nat} (h0 : b0 < 256) (h1 : b1 < 256) (h2 : b2 < 256) (h3 : b3 < 256) :
    bits .or .u32 (bits .or .u32 (bits .or .u32 (b0 : Int) ((b1 : Int) * 256)) ((b2 : Int) * 65536)) ((b3 : Int) * 16777216) = I32 (BitVec.ofNat 32 (b0 + b1 * 256 + b2 * 65536 + b3 * 16777216)) := by
  have e1 : ((b1 : Int) * 256) = ((b1 * 256 : Nat) : Int) := by omega
  have e2 : ((b2 : Int) * 65536) = ((b2 * 65536 : Nat) : Int) := by omega
  have e3 : ((b3 : Int) * 16777216) = ((b3 * 16777216 : Nat) : Int) := by omega
  have j1 : b0 ||| b1 * 256 = b0 + b1 * 256 := by rw [Nat.or_comm, nat_join 8 _ _ (by omega) (by omega)]; omega
  have j2 : (b0 + b1 * 256) ||| b2 * 65536 = b0 + b1 * 256 + b2 * 65536 := by rw [Nat.or_comm, nat_join 16 _ _ (by omega) (by omega)]; omega
  have j3 : (b0 + b1 * 256 + b2 * 65536) ||| b3 * 16777216 = b0 + b1 * 256 + b2 * 65536 + b3 * 16777216 := by rw [Nat.or_comm, nat_join 24 _ _ (by omega) (by omega)]; omega
  rw [e1, e2, e3, u32_or_nat _ _ (by omega) (by omega), j1, u32_or_nat _ _ (by omega) (by omega), j2, u32_or_nat _ _ (by omega) (by omega), j3]
  simp only [I32, BitVec.toNat_ofNat]
  omega

/-- a frame that is read -/
def fSpec (l : List UInt8) (a : Int) : Except Int (List UInt8 × Nat) :=
  if (uSpec l a).2.2 ≠ 0 then .error (uSpec l a).2.2
  else if 65536 < (uSpec l a).1 then .error 4
  else if l.length < (uSpec l a).2.1.toNat + ((uSpec l a).1 + 4) then .error 9
  else if crc ((l.drop ((uSpec l a).2.1.toNat + 4)).take (uSpec l a).1) ≠ BitVec.ofNat 32 (s4 l (uSpec l a).2.1.toNat) then .error 11
  else .ok ((l.drop ((uSpec l a).2.1.toNat + 4)).take (uSpec l a).1, (uSpec l a).2.1.toNat + 4 + (uSpec l a).1)

/-- its five ways -/
theorem fSpec_cases (l : List UInt8) (a : Int) :
    ((uSpec l a).2.2 ≠ 0 ∧ fSpec l a = .error (uSpec l a).2.2) ∨
    ∃ n k : Nat, uSpec l a = (n, (k : Int), 0) ∧ 0 ≤ a ∧ a < (k : Int) ∧ k ≤ l.length ∧ n < 18446744073709551616 ∧
      ((65536 < n ∧ fSpec l a = .error 4) ∨ (n ≤ 65536 ∧ l.length < k + (n + 4) ∧ fSpec l a = .error 9) ∨
       (n ≤ 65536 ∧ k + (n + 4) ≤ l.length ∧ crc ((l.drop (k + 4)).take n) ≠ BitVec.ofNat 32 (s4 l k) ∧ fSpec l a = .error 11) ∨
       (n ≤ 65536 ∧ k + (n + 4) ≤ l.length ∧ crc ((l.drop (k + 4)).take n) = BitVec.ofNat 32 (s4 l k) ∧ fSpec l a = .ok ((l.drop (k + 4)).take n, k + 4 + n))) := by
  by_cases h : (uSpec l a).2.2 = 0
  · obtain ⟨n, k, hu, hn, h0, h1, h2⟩ := uSpec_ok h
    refine .inr ⟨n, k, hu, h0, h1, h2, hn, ?_⟩
    unfold fSpec
    simp only [hu, Int.toNat_natCast, ne_eq, not_true_eq_false, if_false]
    by_cases c1 : 65536 < n
    · exact .inl ⟨c1, by rw [if_pos c1]⟩
    · by_cases c2 : l.length < k + (n + 4)
      · exact .inr (.inl ⟨by omega, c2, by rw [if_neg c1, if_pos c2]⟩)
      · by_cases c3 : crc ((l.drop (k + 4)).take n) = BitVec.ofNat 32 (s4 l k)
        · exact .inr (.inr (.inr ⟨by omega, by omega, c3, by rw [if_neg c1, if_neg c2, if_neg (by simpa using c3)]⟩))
        · exact .inr (.inr (.inl ⟨by omega, by omega, c3, by rw [if_neg c1, if_neg c2, if_pos c3]⟩))
  · exact .inl ⟨h, by unfold fSpec; rw [if_pos h]⟩
theorem fSpec_ok {l : List UInt8} {a : Int} {q : List UInt8} {k : Nat} (h : fSpec l a = .ok (q, k)) : 0 ≤ a ∧ a + 5 ≤ (k : Int) ∧ k ≤ l.length ∧ q.length ≤ 65536 ∧ q.length ≤ l.length := by
  rcases fSpec_cases l a with ⟨-, h1⟩ | ⟨n, m, hu, h0, h1, h2, hn, h3⟩
  · rw [h1] at h; cases h
  · rcases h3 with ⟨-, e⟩ | ⟨-, -, e⟩ | ⟨-, -, -, e⟩ | ⟨g1, g2, -, e⟩
    · rw [e] at h; cases h
    · rw [e] at h; cases h
    · rw [e] at h; cases h
    · rw [e] at h
      simp only [Except.ok.injEq, Prod.mk.injEq] at h
      obtain ⟨rfl, rfl⟩ := h
      simp only [List.length_take, List.length_drop]
      omega
theorem fSpec_err {l : List UInt8} {a e : Int} (h : fSpec l a = .error e) : e ≠ 0 := by
  rcases fSpec_cases l a with ⟨h0, h1⟩ | ⟨n, m, hu, h0, h1, h2, hn, h3⟩
  · rw [h1] at h; cases h; exact h0
  · rcases h3 with ⟨-, e'⟩ | ⟨-, -, e'⟩ | ⟨-, -, -, e'⟩ | ⟨-, -, -, e'⟩
    · rw [e'] at h; cases h; decide
    · rw [e'] at h; cases h; decide
    · rw [e'] at h; cases h; decide
    · rw [e'] at h; cases h

/-- frames one behind the other -/
def frs (l : List UInt8) : Nat → Nat → List (List UInt8) → List (List UInt8) × Nat × Int
  | 0, p, acc => (acc, p, 0)
  | f + 1, p, acc => if p < l.length then (match fSpec l (p : Int) with | .ok (q, k) => frs l f k (acc ++ [q]) | .error e => (acc, p, e)) else (acc, p, 0)
def frames (l : List UInt8) : List (List UInt8) × Nat × Int := frs l (l.length + 1) 0 []
theorem frs_end {l : List UInt8} {f p : Nat} {acc : List (List UInt8)} (h : ¬ p < l.length) : frs l f p acc = (acc, p, 0) := by
  cases f with
  | zero => rfl
  | succ f => rw [frs, if_neg h]
theorem frs_err {l : List UInt8} {f p : Nat} {acc : List (List UInt8)} {e : Int} (hf : l.length - p < f) (h : p < l.length) (he : fSpec l (p : Int) = .error e) : frs l f p acc = (acc, p, e) := by
  cases f with
  | zero => omega
  | succ f => rw [frs, if_pos h, he]
theorem frs_ok {l : List UInt8} {f p k : Nat} {acc : List (List UInt8)} {q : List UInt8} (hf : l.length - p < f) (h : p < l.length) (he : fSpec l (p : Int) = .ok (q, k)) : ∃ f', l.length - k < f' ∧ frs l f p acc = frs l f' k (acc ++ [q]) := by
  cases f with
  | zero => omega
  | succ f =>
    have := fSpec_ok he
    exact ⟨f, by omega, by rw [frs, if_pos h, he]⟩
end Go.Proofs.YtpglhdnepmcahaaGreatDoor

/- FrameR -/
namespace Go.Proofs.YtpglhdnepmcahaaGreatDoor
open Go.RowKit

theorem getD_lt (l : List UInt8) (k : Nat) : (l.getD k 0).toNat < 256 := (l.getD k 0).toNat_lt

/-- a part of bytes that are read -/
theorem RdA.cut {w : World} {g o : Nat} {l : List UInt8} (h : RdA w (some ⟨g, o, none⟩) l) (k n : Nat) (hk : k + n ≤ l.length) : RdA w (some ⟨g, o + k, none⟩) ((l.drop k).take n) := by
  intro j hj
  have hj' : j < n := by simp at hj; omega
  obtain ⟨b, q, hb, hc⟩ := h (k + j) (by omega)
  simp only [Option.some.injEq, Addr.mk.injEq, and_true] at hb
  obtain ⟨rfl, rfl⟩ := hb
  refine ⟨g, o + k, rfl, ?_⟩
  rw [Nat.add_assoc, hc]
  have e : ((l.drop k).take n).getD j 0 = l.getD (k + j) 0 := by
    simp only [List.getD, List.getElem?_take, hj', if_true, List.getElem?_drop]
  rw [e]
theorem cut_len (l : List UInt8) (k n : Nat) (hk : k + n ≤ l.length) : ((l.drop k).take n).length = n := by
  simp; omega
theorem Rd.cut {w : World} {g o c : Nat} {l : List UInt8} (h : Rd w (.slice (some ⟨g, o, none⟩) l.length c) l) (k n : Nat) (hk : k + n ≤ l.length) : Rd w (.slice (some ⟨g, o + k, none⟩) n (c - k)) ((l.drop k).take n) := by
  obtain ⟨a, c', hv, h1, h2, h3, h4⟩ := h
  simp only [Value.slice.injEq, true_and] at hv
  obtain ⟨rfl, rfl⟩ := hv
  refine ⟨_, _, by rw [cut_len l k n hk], by rw [cut_len l k n hk]; omega, by omega, h3.cut k n hk, fun h => by cases h⟩

theorem Rd.cut0 {w : World} {g o c : Nat} {l : List UInt8} (h : Rd w (.slice (some ⟨g, o, none⟩) l.length c) l) (k n : Nat) (hc : c ≤ k) (hk : k + n ≤ l.length) : Rd w (.slice (some ⟨g, o, none⟩) n 0) ((l.drop k).take n) := by
  obtain ⟨a, c', hv, h1, h2, h3, h4⟩ := h
  simp only [Value.slice.injEq, true_and] at hv
  obtain ⟨rfl, rfl⟩ := hv
  obtain rfl : n = 0 := by omega
  rw [List.take_zero]
  exact ⟨some ⟨g, o, none⟩, 0, rfl, Nat.le_refl _, by simp [maxLen], fun j hj => by simp at hj, fun h => by cases h⟩

theorem ret_fr {v : Value} {a b c d : Int} (h1 : a = c) (h2 : b = d) : Ending.returned (.tuple #[v, .int .i64 a, .int .i64 b]) = .returned (.tuple #[v, .int .i64 c, .int .i64 d]) := by rw [h1, h2]

end Go.Proofs.YtpglhdnepmcahaaGreatDoor
