/-
  The document's streams, made of bytes: the walk.
-/
import Derived.Test.YtgbpnkamamafjabDoorBitsT
import Derived.Deep.RegionLaw
namespace Go.Proofs.YtgbpnkamamafjabDoor
open Go.RowKit

/-- one bool more, at a step of a region that draws -/
theorem step_appB {w : World} {ops : Array Oper} {o : Oper} {a : Act} {K : Act → World → Prop} {Q : Exit → Act → World → Prop} {E : Prop} (hgd : o.guard = none) (s x : Operand)
    (ho : o.op = .call { callee := .builtin .append, args := #[s, x], argTypes := #[26, 26] })
    (v : Value) (l : List Bool) (b : Bool) (gx : Nat) (hs : a.eval s = v) (hx : a.eval x = .slice (some ⟨gx, 0, none⟩) 1 1) (hc : w.cell? ⟨gx, 0, none⟩ = some (.bool b)) (hown : OwnB w v l) (hsz : l.length + 1 ≤ 175921860444160)
    (h : ∀ a1 n1 c1 w', OwnB w' (.slice a1 n1 c1) (l ++ [b]) → Fr w w' v (.slice a1 n1 c1) → K (a.put o.dst (.slice a1 n1 c1)) w') :
    if Region.wanted o (yielded ops a.tmps) = true then Oper.wp Tryd.prog o a w K Q else E := by
  have hw : Region.wanted o (yielded ops a.tmps) = true := by simp [Region.wanted, hgd]
  rw [if_pos hw]
  obtain ⟨v', w', hrun, h2, h3⟩ := run_appB w o.type v l hown b gx hc hsz
  obtain ⟨a1, n1, c1, rfl⟩ := h2.shape3
  unfold Oper.wp execOp
  simp only [ho, resolve, invoke, builtin, Sem.run_bind, Sem.run_pure, Result.andThen_ok, List.map_toArray, List.map_cons, List.map_nil, hs, hx, hrun]
  exact h a1 n1 c1 w' h2 h3
theorem wrapS {x : Nat} (h : x ≤ 1048576) : wrap64 (x : Int) = (x : Int) := wrap64_id (by omega) (by omega)
theorem wrapI {x : Nat} (h : x ≤ 1048576) : IntKind.i64.wrap (x : Int) = (x : Int) := by
  rw [IntKind.wrap_i64]
  omega
theorem shf8 {x : Nat} (h : x ≤ 7) : min (IntKind.u64.wrap (IntKind.i64.wrap (7 - (x : Int)))).toNat 8 = 7 - x := by
  rw [IntKind.wrap_i64, IntKind.wrap_u64]
  omega
theorem shf9 {x : Nat} (h : x ≤ 7) : min (IntKind.u64.wrap (7 - (x : Int))).toNat 8 = 7 - x := by
  rw [IntKind.wrap_u64]
  omega
theorem shf7 {x : Nat} (h : x ≤ 7) : (IntKind.u64.wrap (7 - (x : Int))).toNat = 7 - x := by
  rw [IntKind.wrap_u64]
  omega
theorem bit8 (y m : Nat) (hy : y < 256) : (bits .and .u8 ((y : Int) / 2 ^ m) 1 == 1) = y.testBit m := by
  have e : (y : Int) / 2 ^ m = ((y / 2 ^ m : Nat) : Int) := by rw [Int.natCast_ediv, Int.natCast_pow]; rfl
  have h := u8_and_nat (y / 2 ^ m) 1 (Nat.lt_of_le_of_lt (Nat.div_le_self _ _) hy) (by decide)
  rw [Nat.and_one_is_mod] at h
  have h2 : bits .and .u8 ((y / 2 ^ m : Nat) : Int) 1 = ((y / 2 ^ m % 2 : Nat) : Int) := h
  rw [e, h2, Nat.testBit_eq_decide_div_mod_eq]
  by_cases h3 : y / 2 ^ m % 2 = 1
  · rw [h3]; rfl
  · have h0 : y / 2 ^ m % 2 = 0 := by omega
    rw [h0]; rfl

theorem new_nil (v : Value) (L : List UInt8) (n : Int) (w : World) (hv : Rd w v L) (hL : L.length ≤ 140737488351232) (h : n < 0 ∨ 8388608 < n ∨ 8 * (L.length : Int) < n) :
    Calls Tryd.prog 16 #[v, .int .i64 n] w fun e w' => e = .returned (.pointer none) ∧ w' = w := by
  obtain ⟨a, c, rfl, -, -, -, -⟩ := hv
  have hL2 : (L.length : Int) ≤ 140737488351232 := by omega
  clear hL
  by_cases c1 : n < 0
  · clear h
    go_enter Tryd.func16, Tryd.ntmps16
    go_wp2
    go_ret
    exact ⟨rfl, rfl⟩
  · by_cases c2 : 8388608 < n
    · clear h
      go_enter Tryd.func16, Tryd.ntmps16
      go_wp2
      go_ret
      exact ⟨rfl, rfl⟩
    · have c3 : 8 * (L.length : Int) < n := by omega
      clear h
      go_enter Tryd.func16, Tryd.ntmps16
      go_wp2
      go_ret
      exact ⟨rfl, rfl⟩

set_option maxHeartbeats 6400000 in
theorem new_ok (v : Value) (L : List UInt8) (n : Nat) (w : World) (hv : Rd w v L) (hL : L.length ≤ 140737488351232) (hn : n ≤ 8388608) (hnL : n ≤ 8 * L.length) :
    Calls Tryd.prog 16 #[v, .int .i64 (n : Int)] w fun e w' => ∃ g u, e = .returned (.pointer (some ⟨g, 0, none⟩)) ∧ St w' g u (ubits L 0 n) 0 ∧ w.grownBy w' none ∧ w.heap.size ≤ g ∧ ∀ k, u.ownBlock = some k → w.heap.size ≤ k := by
  have HV : Hid (Rd w v L) := hv
  obtain ⟨a, c, hvv, -, -, -, -⟩ := hv
  subst hvv
  have c1 : ¬ (n : Int) < 0 := by omega
  have c2 : ¬ (8388608 : Int) < (n : Int) := by omega
  have c3 : ¬ 8 * (L.length : Int) < (n : Int) := by omega
  have hL2 : (L.length : Int) ≤ 140737488351232 := by omega
  have hn2 : (n : Int) ≤ 8388608 := by omega
  have HN : Hid (n ≤ 8388608 ∧ n ≤ 8 * L.length) := ⟨hn, hnL⟩
  clear hL hn hnL
  go_enter Tryd.func16, Tryd.ntmps16
  go_wp2
  go_loopw [6] (fun i wr => ∃ k : Nat, k ≤ n ∧ i = .int .i64 (k : Int) ∧ Hid (∃ u, St wr w.heap.size u (ubits L 0 k) 0 ∧ Fw (w.alloc (.cells #[.slice none 0 0, .int .i64 0] 28)) wr w.heap.size (.slice none 0 0) u)) (fun i _ => n - (intOf i).toNat)
  case atStart => exact ⟨0, by omega, rfl, .slice none 0 0, ⟨Go.heap_alloc_new w _, OwnB.nil _⟩, Fw.refl _ _ _⟩
  case round =>
    obtain ⟨k, hk, rfl, hr⟩ := hrel
    obtain ⟨u, hst, hfw⟩ := hr.out
    clear hr
    by_cases hkn : k < n
    · have hk8 : k / 8 < L.length := by have := HN.out.2; omega
      have hgW : w.grownBy wr none := by
        refine Fw.newN (w := w) (w1 := w.alloc (.cells #[.slice none 0 0, .int .i64 0] 28)) (alloc_gb _ _) hfw (Nat.le_refl _) (fun k hk => by simp [Value.ownBlock] at hk)
      obtain ⟨a', c', hv', -, -, hra, -⟩ := HV.out.keep hgW
      simp only [Value.slice.injEq, true_and] at hv'
      obtain ⟨rfl, rfl⟩ := hv'
      obtain ⟨bb, oo, rfl, hcb⟩ := hra (k / 8) hk8
      have hylt := (L.getD (k / 8) 0).toNat_lt
      have hbt : (bits .and .u8 (((L.getD (k / 8) 0).toNat : Int) / 2 ^ (7 - k % 8)) 1 == 1) = ubit L (0 + k) := by
        rw [bit8 _ _ hylt, Nat.zero_add]
        rfl
      have hq : (k : Int).tdiv 8 = ((k / 8 : Nat) : Int) := by rw [Int.tdiv_eq_ediv_of_nonneg (by omega)]; omega
      have hm : (k : Int).tmod 8 = ((k % 8 : Nat) : Int) := by rw [Int.tmod_eq_emod_of_nonneg (by omega)]; omega
      have hms : k % 8 ≤ 7 := by omega
      have hq1 : ((k / 8 : Nat) : Int) < (L.length : Int) := by omega
      have hq0 : (0 : Int) ≤ ((k / 8 : Nat) : Int) := by omega
      have hq2 : k / 8 ≤ 1048576 := by have := HN.out.1; omega
      have hsucc := ubits_succ L 0 k
      have H : Hid (St wr w.heap.size u (ubits L 0 k) 0 ∧ Fw (w.alloc (.cells #[.slice none 0 0, .int .i64 0] 28)) wr w.heap.size (.slice none 0 0) u ∧ (ubits L 0 k).length + 1 ≤ 175921860444160 ∧ ubits L 0 (k + 1) = ubits L 0 k ++ [ubit L (0 + k)]) := ⟨hst, hfw, by rw [ubits_len]; have := HN.out.1; omega, hsucc⟩
      have c0 := hst.cells.1
      have f0 := hst.cells.2.2.1
      have hlt := hst.cells.2.2.2
      clear hst hfw hsucc hra hgW
      generalize (L.getD (k / 8) 0).toNat = Y at *
      generalize ubit L (0 + k) = tb at *
      generalize k / 8 = K8 at *
      generalize k % 8 = M8 at *
      generalize hgs : w.heap.size = gs at *
      have hm7 : M8 ≤ 1048576 := by omega
      have hwk := wrapS hq2
      have hwi := wrapI hq2
      have hsf := shf8 hms
      have hsf9 := shf9 hms
      have hmw := wrapS hm7
      have hmi := wrapI hm7
      go_wp2_with fail
      go_region_law (refine step_appB rfl (.tmp 31) (.tmp 44) rfl u (ubits L 0 k) tb wr.heap.size (by simp [Act.eval]) (by simp [Act.eval]) (litB wr tb _) ((H.out.1.2.keep (alloc_gb wr _)).keep (gb_drew _ none)) H.out.2.2.1 ?_; intro a1 n1 c1' w1 ho1 hf1; have hG := H.out.1.grow (Fr.pre (gb_drew _ none) hf1) ho1; have hwg := hG.1.trans H.out.1.1; have d0 : w1.cell? ⟨gs, 0, none⟩ = some u := (by simp [World.cell?, hwg]); have df : w1.frozen? ⟨gs, 0, none⟩ = false := (by simp [World.frozen?, hwg]); have H2 : Hid (∃ u, St (w1.setCell ⟨gs, 0, none⟩ (.slice a1 n1 c1')) gs u (ubits L 0 (k + 1)) 0 ∧ Fw (w.alloc (.cells #[.slice none 0 0, .int .i64 0] 28)) (w1.setCell ⟨gs, 0, none⟩ (.slice a1 n1 c1')) gs (.slice none 0 0) u) := ⟨_, (by rw [H.out.2.2.2]; exact hG.2.1), H.out.2.1.trans hG.2.2⟩; clear hG hwg ho1 hf1)
      all_goals clear hwk hwi hsf hsf9 hmw hmi
      all_goals go_wp2
      all_goals go_roundw
      all_goals first | exact ⟨k + 1, by omega, by go_num, H2⟩ | (simp [intOf]; omega)
    · obtain rfl : k = n := by omega
      have HE : Hid (∃ u, St wr w.heap.size u (ubits L 0 k) 0 ∧ w.grownBy wr none ∧ ∀ j, u.ownBlock = some j → w.heap.size ≤ j) := by
        refine ⟨u, hst, Fw.newN (w := w) (alloc_gb _ _) hfw (Nat.le_refl _) (fun k hk => by simp [Value.ownBlock] at hk), fun j hj => ?_⟩
        rcases hfw.own j hj with h | h
        · simp [Value.ownBlock] at h
        · have := World.grownBy.size (alloc_gb w (.cells #[.slice none 0 0, .int .i64 0] 28))
          omega
      clear hst hfw
      go_wp2
      go_ret
      obtain ⟨u, h1, h2, h3⟩ := HE.out
      exact ⟨_, u, rfl, h1, h2, Nat.le_refl _, h3⟩
end Go.Proofs.YtgbpnkamamafjabDoor
