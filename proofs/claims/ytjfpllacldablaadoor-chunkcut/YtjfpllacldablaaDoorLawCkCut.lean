/-
  ChunkCut: a chunk that is cut, or has a byte more, is none: the walk.
-/
import Derived.Test.YtjfpllacldablaaDoorCkR4
namespace Go.Proofs.YtjfpllacldablaaDoor
open Go.RowKit

theorem decode_any (w : World) (v : Value) (b : List UInt8) (hv : Rd w v b) (hb : b.length < 281474976710656) (hT : Tk w) :
    Calls Tryd.prog 23 #[v] w fun e w' => DecA b w' e ∧ w.grownBy w' none := (callsIn_wide (n := 8)).1 (ckDecode_any 8 (Nat.le_refl _) w v b hv hb hT)
/-- of what is no chunk -/
theorem decode_none (w : World) (v : Value) (b : List UInt8) (hv : Rd w v b) (hb : b.length < 281474976710656) (hT : Tk w) (hno : ∀ m, okL startP m → b ≠ ckB m) :
    Calls Tryd.prog 23 #[v] w fun e w' => e = .returned (.tuple #[.slice none 0 0, .int .i64 3]) ∧ w.grownBy w' none := by
  refine (decode_any w v b hv hb hT).mono ?_
  rintro e w' ⟨h | h, hg⟩
  · obtain ⟨l, v', -, h2, h3, -⟩ := h
    exact absurd h3 (hno l h2)
  · exact ⟨h.1, hg⟩
theorem cut_none {l : List SmpT} {k : Nat} (hl : okL startP l) (hk : k < (ckB l).length) : ∀ m, okL startP m → (ckB l).take k ≠ ckB m := by
  intro m hm e
  have h1 : ckB l = ckB m ++ (ckB l).drop k := by rw [← e, List.take_append_drop]
  have h2 := ckB_cut hl hm h1
  have h3 : ((ckB l).drop k).length = 0 := by rw [h2]; rfl
  rw [List.length_drop] at h3
  omega
theorem more_none {l : List SmpT} {x : UInt8} (hl : okL startP l) : ∀ m, okL startP m → ckB l ++ [x] ≠ ckB m := by
  intro m hm e
  have h2 := ckB_cut hm hl e.symm
  cases h2
theorem ckB_len {l : List SmpT} (hl : okL startP l) : 2 ≤ (ckB l).length ∧ (ckB l).length ≤ 3000 := by
  have h1 := encB_len startOk hl
  have h2 := (stA_ok startOk hl).most
  rw [stA_n] at h2
  have h3 : startP.n = 0 := rfl
  unfold ckB
  simp only [List.length_append, List.length_cons, List.length_nil, pack_len]
  omega
theorem Rd.part {w : World} {a : Option Addr} {c : Nat} {l : List UInt8} (h : Rd w (.slice a l.length c) l) (n : Nat) (hn : n ≤ l.length) : Rd w (.slice a n c) (l.take n) := by
  obtain ⟨a', c', e, h1, h2, h3, h4⟩ := h
  simp only [Value.slice.injEq, true_and] at e
  obtain ⟨rfl, rfl⟩ := e
  refine ⟨a, c, by rw [List.length_take, Nat.min_eq_left hn], by rw [List.length_take]; omega, h2, fun j hj => ?_, h4⟩
  rw [List.length_take] at hj
  obtain ⟨b, o, q1, q2⟩ := h3 j (by omega)
  refine ⟨b, o, q1, ?_⟩
  rw [q2]
  have : j < n := by omega
  simp [List.getD, this]
theorem tmod_abs (z : Int) (L : Nat) (hL : 0 < L) : ∃ k : Nat, k < L ∧ (z.tmod (L : Int) = (k : Int) ∨ (z.tmod (L : Int) = -(k : Int) ∧ 0 < k)) := by
  have h1 := Int.tmod_lt_of_pos z (show (0 : Int) < (L : Int) by omega)
  have h2 : -(L : Int) < z.tmod (L : Int) := by
    have := Int.tmod_lt_of_pos (-z) (show (0 : Int) < (L : Int) by omega)
    rw [Int.neg_tmod] at this
    omega
  by_cases h : 0 ≤ z.tmod (L : Int)
  · exact ⟨(z.tmod (L : Int)).toNat, by omega, .inl (by omega)⟩
  · exact ⟨(-(z.tmod (L : Int))).toNat, by omega, .inr ⟨by omega, by omega⟩⟩

set_option maxRecDepth 8000 in
set_option maxHeartbeats 3200000 in
theorem cut_walk (v : Value) (l : List SmpT) (z : Int) (x : UInt8) (w : World) (hr : RdP w v l) (hin : SmIn l) (hT : Tk w) (_hz1 : -9223372036854775808 ≤ z) (_hz2 : z ≤ 9223372036854775807) :
    Calls Tryd.prog 7 #[v, .int .i64 z, .int .u8 (x.toNat : Int)] w fun e w' => e = .returned (.bool true) ∧ Below w.heap.size w w' := by
  have HT := hidJ hT
  have HE := hidJ (ckEncode_any w v l hr hin hT)
  obtain ⟨a, c, rfl, -⟩ := hr
  clear hin hT
  go_enter Tryd.func7, Tryd.ntmps7
  go_wp2_with fail
  refine HE.out.mono ?_
  rintro e w1 ⟨hA, hg1⟩
  have HG1 := hidJ hg1
  clear hg1 HE
  rcases hA with ⟨hok, v1, rfl, ho⟩ | ⟨i, hi, hok, hw, rfl⟩
  · obtain ⟨a1, c1, rfl⟩ := ho.shape
    obtain ⟨L, hL⟩ : ∃ L, (ckB l).length = L := ⟨_, rfl⟩
    have hlen := ckB_len hok
    rw [hL] at hlen ⊢
    have HO := hidJ (And.intro ho (And.intro hok hL))
    have hcap : L ≤ c1 ∧ c1 ≤ 9223372036854775807 := by
      obtain ⟨a', c', e, q1, q2, -⟩ := ho.rd
      simp only [Value.slice.injEq] at e
      rw [hL] at q1
      have q3 : c' ≤ 9223372036854775807 := q2
      omega
    clear ho hok hL
    obtain ⟨k, hk, hm⟩ := tmod_abs z L (by omega)
    have HC : Hid (∀ W, w1.grownBy W none → Calls Tryd.prog 23 #[.slice a1 k c1] W fun e w' => e = .returned (.tuple #[.slice none 0 0, .int .i64 3]) ∧ W.grownBy w' none) := by
      intro W hW
      have hr := HO.out.1.rd
      rw [HO.out.2.2] at hr
      have hr2 : Rd w1 (.slice a1 (ckB l).length c1) (ckB l) := by rw [HO.out.2.2]; exact hr
      refine decode_none W _ ((ckB l).take k) ((hr2.part k (by rw [HO.out.2.2]; omega)).keep hW) (by rw [List.length_take, HO.out.2.2]; omega) (HT.out.keep (gb_none HG1.out hW)) (cut_none HO.out.2.1 (by rw [HO.out.2.2]; omega))
    rcases hm with hm | ⟨hm, hk0⟩
    · have hL0 : ¬ (L : Int) = 0 := by omega
      have hLb : ((L : Int) == 0) = false := by rw [beq_eq_false_iff_ne]; omega
      have hkL : (k : Int) < (L : Int) := by omega
      have hk1 : ¬ (k : Int) < 0 := by omega
      go_wp2_with fail
      refine (HC.out _ (gb_refl _ _)).mono ?_
      rintro e w2 ⟨rfl, hg2⟩
      have H2 : Hid (Own w2 w.heap.size (.slice a1 L c1) (ckB l) ∧ w1.grownBy w2 none) := by
        have h := HO.out.1.keep hg2
        rw [HO.out.2.2] at h
        exact ⟨h, hg2⟩
      clear hg2 HC
      go_wp2_with (at_builtin; refine wp_app rfl _ _ rfl w.heap.size _ _ [] (ckB l) rfl rfl (Own.nil _ _) H2.out.1.rd ?a1A ?a2A ?_)
      case a1A => rw [HO.out.2.2]; simp; omega
      case a2A => exact Nat.le_trans HG1.out.size H2.out.2.size
      intro v3 w3 ho3 hf3
      have H3 : Hid (Own w3 w.heap.size v3 (ckB l) ∧ w.grownBy w3 none) := ⟨ho3, hf3.new (gb_none HG1.out H2.out.2) (fun k hk => by simp [Value.ownBlock] at hk)⟩
      clear ho3 hf3 H2
      go_wp2_with (at_builtin; refine wp_app rfl _ _ rfl w.heap.size _ _ (ckB l) [x] rfl rfl (H3.out.1.keep (alloc_gb _ _)) rd_one ?a3A ?a4A ?_)
      case a3A => rw [HO.out.2.2]; simp; omega
      case a4A => have := H3.out.2.size; simp; omega
      intro v4 w4 ho4 hf4
      have H4 : Hid (Own w4 w.heap.size v4 (ckB l ++ [x]) ∧ w.grownBy w4 none) := ⟨ho4, hf4.new (gb_none H3.out.2 (alloc_gb _ _)) (fun k hk => (H3.out.1.lt k hk).1)⟩
      clear ho4 hf4 H3
      go_wp2_with fail
      refine (decode_none _ _ (ckB l ++ [x]) H4.out.1.rd (by rw [List.length_append, HO.out.2.2]; simp; omega) (HT.out.keep H4.out.2) (more_none HO.out.2.1)).mono ?_
      rintro e w5 ⟨rfl, hg5⟩
      have H5 : Hid (w.grownBy w5 none) := gb_none H4.out.2 hg5
      clear hg5 H4
      go_wp2_with fail
      refine (awake_any _).mono ?_
      rintro e w6 ⟨rfl, hg6⟩
      have H6 : Hid (Below w.heap.size w w6) := gb_below (gb_none H5.out hg6)
      clear hg6
      go_wp2
      go_ret
      exact ⟨rfl, H6.out⟩

    · have hL0 : ¬ (L : Int) = 0 := by omega
      have hLb : ((L : Int) == 0) = false := by rw [beq_eq_false_iff_ne]; omega
      have hkL : (k : Int) < (L : Int) := by omega
      have hk1 : -(k : Int) < 0 := by omega
      go_wp2_with fail
      refine (HC.out _ (gb_refl _ _)).mono ?_
      rintro e w2 ⟨rfl, hg2⟩
      have H2 : Hid (Own w2 w.heap.size (.slice a1 L c1) (ckB l) ∧ w1.grownBy w2 none) := by
        have h := HO.out.1.keep hg2
        rw [HO.out.2.2] at h
        exact ⟨h, hg2⟩
      clear hg2 HC
      go_wp2_with (at_builtin; refine wp_app rfl _ _ rfl w.heap.size _ _ [] (ckB l) rfl rfl (Own.nil _ _) H2.out.1.rd ?a1B ?a2B ?_)
      case a1B => rw [HO.out.2.2]; simp; omega
      case a2B => exact Nat.le_trans HG1.out.size H2.out.2.size
      intro v3 w3 ho3 hf3
      have H3 : Hid (Own w3 w.heap.size v3 (ckB l) ∧ w.grownBy w3 none) := ⟨ho3, hf3.new (gb_none HG1.out H2.out.2) (fun k hk => by simp [Value.ownBlock] at hk)⟩
      clear ho3 hf3 H2
      go_wp2_with (at_builtin; refine wp_app rfl _ _ rfl w.heap.size _ _ (ckB l) [x] rfl rfl (H3.out.1.keep (alloc_gb _ _)) rd_one ?a3B ?a4B ?_)
      case a3B => rw [HO.out.2.2]; simp; omega
      case a4B => have := H3.out.2.size; simp; omega
      intro v4 w4 ho4 hf4
      have H4 : Hid (Own w4 w.heap.size v4 (ckB l ++ [x]) ∧ w.grownBy w4 none) := ⟨ho4, hf4.new (gb_none H3.out.2 (alloc_gb _ _)) (fun k hk => (H3.out.1.lt k hk).1)⟩
      clear ho4 hf4 H3
      go_wp2_with fail
      refine (decode_none _ _ (ckB l ++ [x]) H4.out.1.rd (by rw [List.length_append, HO.out.2.2]; simp; omega) (HT.out.keep H4.out.2) (more_none HO.out.2.1)).mono ?_
      rintro e w5 ⟨rfl, hg5⟩
      have H5 : Hid (w.grownBy w5 none) := gb_none H4.out.2 hg5
      clear hg5 H4
      go_wp2_with fail
      refine (awake_any _).mono ?_
      rintro e w6 ⟨rfl, hg6⟩
      have H6 : Hid (Below w.heap.size w w6) := gb_below (gb_none H5.out hg6)
      clear hg6
      go_wp2
      go_ret
      exact ⟨rfl, H6.out⟩

  · obtain ⟨q, hq⟩ : ∃ q, wrongN (stA startP (l.take i)) (l.getD i smZ).1 = q := ⟨_, rfl⟩
    rw [hq] at hw ⊢
    clear hq hi hok
    have hqb : (q == 0) = false := by rw [beq_eq_false_iff_ne]; exact hw
    have hqn : (q != 0) = true := by simp [hw]
    go_wp2_with fail
    refine (awake_any _).mono ?_
    rintro e w4 ⟨rfl, hg4⟩
    have H4 : Hid (Below w.heap.size w w4) := gb_below (gb_none HG1.out hg4)
    clear hg4
    go_wp2
    go_ret
    exact ⟨rfl, H4.out⟩
end Go.Proofs.YtjfpllacldablaaDoor
