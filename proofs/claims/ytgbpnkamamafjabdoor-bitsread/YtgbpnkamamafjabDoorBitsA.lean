/-
  The statements' fixed calls ('awake') come to true: the walks.
-/
import Derived.Test.YtgbpnkamamafjabDoorBitsW2
import Derived.Laws.BytesArg
namespace Go.Proofs.YtgbpnkamamafjabDoor
open Go.RowKit

/-- a reader at block g -/
def Rr (w : World) (g : Nat) (v : Value) (p s : Nat) : Prop := w.heap[g]? = some (.cells #[v, .int .i64 (p : Int), .int .i64 (s : Int)] 61 (0, 0))
theorem Rr.cells {w : World} {g : Nat} {v : Value} {p s : Nat} (h : Rr w g v p s) : w.cell? ⟨g, 0, none⟩ = some v ∧ w.cell? ⟨g, 1, none⟩ = some (.int .i64 (p : Int)) ∧ w.cell? ⟨g, 2, none⟩ = some (.int .i64 (s : Int)) ∧ w.frozen? ⟨g, 1, none⟩ = false ∧ g < w.heap.size := by
  unfold Rr at h
  refine ⟨?_, ?_, ?_, ?_, (Array.getElem?_eq_some_iff.1 h).1⟩
  · simp [World.cell?, h]
  · simp [World.cell?, h]
  · simp [World.cell?, h]
  · simp [World.frozen?, h]
theorem Rr.keep {w w' : World} {g : Nat} {v : Value} {p s : Nat} (h : Rr w g v p s) (hg : w.grownBy w' none) : Rr w' g v p s := by
  unfold Rr
  rw [hg.block g h.cells.2.2.2.2 (by simp)]
  exact h

theorem or56 {y : Nat} (hy : y < 256) : bits .or .u64 0 ((y : Int) * 72057594037927936) = I64 (BitVec.ofNat 64 (y * 2 ^ 56)) := by
  have h := u64_or_nat 0 (y * 72057594037927936) (by decide) (by omega)
  rw [Nat.zero_or] at h
  have e : ((y * 72057594037927936 : Nat) : Int) = (y : Int) * 72057594037927936 := by omega
  rw [e] at h
  refine Eq.trans h ?_
  have e2 : (2 : Nat) ^ 56 = 72057594037927936 := by decide
  unfold I64
  rw [e2, BitVec.toNat_ofNat]
  omega

set_option maxHeartbeats 800000 in
theorem eight1 (g o c y : Nat) (w : World) (hy : y < 256) (hc : w.cell? ⟨g, o, none⟩ = some (.int .u8 (y : Int))) :
    Calls Tryd.prog 46 #[.slice (some ⟨g, o, none⟩) 1 c] w fun e w' => e = .returned (.int .u64 (I64 (BitVec.ofNat 64 (y * 2 ^ 56)))) ∧ w' = w := by
  go_enter Tryd.func46, Tryd.ntmps46
  go_wp2
  go_ret
  exact ⟨ret_int (or56 hy), rfl⟩

theorem left_any (g : Nat) (v : Value) (p s : Nat) (w : World) (h : Rr w g v p s) (hp : p ≤ s) (hs : s ≤ 8388608) :
    Calls Tryd.prog 17 #[.pointer (some ⟨g, 0, none⟩)] w fun e w' => e = .returned (.int .i64 ((s - p : Nat) : Int)) ∧ w.grownBy w' none := by
  have hc := h.cells
  have c1 := hc.2.1
  have c2 := hc.2.2.1
  have hsub : Hid ((s : Int) - (p : Int) = ((s - p : Nat) : Int)) := by show (s : Int) - (p : Int) = ((s - p : Nat) : Int); omega
  clear hc h
  go_enter Tryd.func17, Tryd.ntmps17
  go_wp2
  go_region
  all_goals (try go_wp2)
  all_goals go_ret
  all_goals exact ⟨ret_int hsub.out, gb_drew _ _⟩

set_option maxHeartbeats 1600000 in
theorem newReader4 (v : Value) (y : UInt8) (w : World) (hv : Rd w v [y]) :
    Calls Tryd.prog 15 #[v, .int .i64 4] w fun e w' => ∃ g u, e = .returned (.pointer (some ⟨g, 0, none⟩)) ∧ Rr w' g u 0 4 ∧ Own w' w.heap.size u [y] ∧ w.grownBy w' none ∧ w.heap.size ≤ g := by
  have hv2 : Hid (Rd w v [y]) := hv
  obtain ⟨a, c, rfl, -, -, -, -⟩ := hv
  simp only [List.length_cons, List.length_nil, Nat.zero_add] at *
  go_enter Tryd.func15, Tryd.ntmps15
  go_wp2_with (at_make; refine wp_make rfl _ _ rfl w.heap.size _ _ _ _ 1 1 rfl rfl rfl rfl ?c2 ?c3 ?c4 ?_)
  case c2 => omega
  case c3 => omega
  case c4 => omega
  intro w1 ho1 hg1 _
  have H1 : Hid (Own w1 w.heap.size (.slice (some ⟨w.heap.size, 0, none⟩) 1 1) [0] ∧ w.grownBy w1 none) := ⟨ho1, hg1⟩
  clear ho1 hg1
  go_wp2_with (refine wp_copy rfl _ _ rfl w.heap.size _ _ [0] [y] rfl rfl H1.out.1 (hv2.out.keep H1.out.2) rfl ?_)
  intro w2 ho2 hg2
  have H2 : Hid (Own w2 w.heap.size (.slice (some ⟨w.heap.size, 0, none⟩) 1 1) [y] ∧ w.grownBy w2 none) := ⟨ho2, gb_new H1.out.2 hg2 (fun k hk => by simp [Value.ownBlock] at hk; omega)⟩
  clear ho2 hg2 H1
  go_wp2
  go_ret
  refine ⟨w2.heap.size, _, rfl, Go.heap_alloc_new w2 _, H2.out.1.keep (alloc_gb _ _), gb_none H2.out.2 (alloc_gb _ _), H2.out.2.size⟩

theorem conv_own {w : World} {base : Nat} {v : Value} {l : List UInt8} (h : Own w base v l) : (convert 34 9 v).run Tryd.prog w = .ok (.string (strOfNums (l.map fun b => (b.toNat : Int)))) w := by
  rcases h.2 with ⟨rfl, hn⟩ | ⟨g, cap, cur, rfl, hg, hh, hnc, hcm, hcs, ht⟩
  · have : l = [] := List.eq_nil_of_length_eq_zero hn
    subst this
    rw [run_convert_bytes_nil w 34 5 Tryd.underlying34 Tryd.underlying5 0 0 9 Tryd.underlying9]
    rfl
  · refine run_convert_bytes_arg w 34 5 Tryd.underlying34 Tryd.underlying5 g 0 l.length cap _ (by simp) (fun i hi => ?_) 9 Tryd.underlying9
    have := World.ownsRow.cellAt h i (by omega)
    rw [Nat.zero_add, this, getD_map_bv hi]
    simp [hi]

set_option maxHeartbeats 800000 in
theorem same_true (v u : Value) (b1 b2 : Nat) (l : List UInt8) (w : World) (hv : Own w b1 v l) (hu : Own w b2 u l) :
    Calls Tryd.prog 12 #[v, u] w fun e w' => e = .returned (.bool true) ∧ w' = w := by
  have c1 := conv_own hv
  have c2 := conv_own hu
  generalize strOfNums (l.map fun b => (b.toNat : Int)) = s at *
  clear hv hu
  go_enter Tryd.func12, Tryd.ntmps12
  go_wp2
  go_ret
  exact ⟨ret_bool (by simp), rfl⟩

theorem wrapu_I64 (x : BitVec 64) : IntKind.u64.wrap (I64 x) = I64 x := by
  have := x.isLt
  rw [IntKind.wrap_u64]
  unfold I64
  omega
theorem cellkeep {w w' : World} {g j : Nat} {u : Value} (h : w.cell? ⟨g, j, none⟩ = some u) (hg : w.grownBy w' none) : w'.cell? ⟨g, j, none⟩ = some u := by
  rw [← h]
  exact World.cell?_of_block (hg.block g (block_lt h) (by simp))
theorem shr60 {y : Nat} (hy : y < 256) : I64 (BitVec.ofNat 64 (y * 2 ^ 56)) / 1152921504606846976 = ((y / 16 : Nat) : Int) := by
  have e2 : (2 : Nat) ^ 56 = 72057594037927936 := by decide
  unfold I64
  rw [e2, BitVec.toNat_ofNat]
  omega

set_option maxHeartbeats 1600000 in
theorem look4 (g gb c y : Nat) (w : World) (h : Rr w g (.slice (some ⟨gb, 0, none⟩) 1 c) 0 4) (hc1 : 1 ≤ c) (hcm : c ≤ 9223372036854775807) (hy : y < 256) (hc : w.cell? ⟨gb, 0, none⟩ = some (.int .u8 (y : Int))) :
    Calls Tryd.prog 33 #[.pointer (some ⟨g, 0, none⟩), .int .i64 0, .int .i64 4] w fun e w' => e = .returned (.int .u64 ((y / 16 : Nat) : Int)) ∧ w' = w := by
  have c0 := h.cells.1
  have h60 := shr60 hy
  have HE : Hid (∀ c', Calls Tryd.prog 46 #[.slice (some ⟨gb, 0, none⟩) 1 c'] w fun e w' => e = .returned (.int .u64 (I64 (BitVec.ofNat 64 (y * 2 ^ 56)))) ∧ w' = w) := fun c' => eight1 gb 0 c' y w hy hc
  clear h
  generalize BitVec.ofNat 64 (y * 2 ^ 56) = X at *
  go_enter Tryd.func33, Tryd.ntmps33
  go_wp2_with fail
  refine (HE.out _).mono ?_
  rintro e w1 ⟨rfl, rfl⟩
  have hx1 : I64 X * 1 = I64 X := Int.mul_one _
  have hx2 := wrapu_I64 X
  go_wp2
  go_ret
  exact ⟨rfl, rfl⟩

set_option maxHeartbeats 1600000 in
theorem rbits4 (g : Nat) (u : Value) (base : Nat) (y : UInt8) (w : World) (h : Rr w g u 0 4) (ho : Own w base u [y]) :
    Calls Tryd.prog 21 #[.pointer (some ⟨g, 0, none⟩), .int .i64 4] w fun e w' => e = .returned (.tuple #[.int .u64 ((y.toNat / 16 : Nat) : Int), .int .i64 0]) ∧ Rr w' g u 4 4 ∧ w.grownBy w' (some g) := by
  obtain ⟨gb, cap, rfl, -, hgb, hcap, hcm, hcell⟩ := ho.form (by simp)
  have hc0 := hcell 0 (by simp)
  have hy := y.toNat_lt
  simp only [List.length_cons, List.length_nil, Nat.zero_add] at *
  have hH : Hid (Rr w g (.slice (some ⟨gb, 0, none⟩) 1 cap) 0 4 ∧ w.cell? ⟨gb, 0, none⟩ = some (.int .u8 (y.toNat : Int)) ∧ y.toNat < 256 ∧ cap ≤ 9223372036854775807) := ⟨h, by simpa using hc0, hy, by unfold maxLen at hcm; omega⟩
  have HL : Hid (∀ w', w.grownBy w' none → Calls Tryd.prog 33 #[.pointer (some ⟨g, 0, none⟩), .int .i64 0, .int .i64 4] w' fun e w'' => e = .returned (.int .u64 ((y.toNat / 16 : Nat) : Int)) ∧ w'' = w') := fun w' hg =>
    look4 g gb cap y.toNat w' (hH.out.1.keep hg) (by omega) hH.out.2.2.2 hH.out.2.2.1 (cellkeep hH.out.2.1 hg)
  clear hcell hc0 ho hy hgb hcm
  generalize y.toNat / 16 = q at *
  go_enter Tryd.func21, Tryd.ntmps21
  go_wp2_with fail
  refine (left_any g _ 0 4 _ hH.out.1 (by omega) (by omega)).mono ?_
  rintro e w1 ⟨rfl, hg1⟩
  have HG : Hid (w.grownBy w1 none) := hg1
  have hk := (hH.out.1.keep hg1).cells
  have c1 := hk.2.1
  have f1 := hk.2.2.2.1
  clear hg1 hk h
  go_wp2_with fail
  refine (HL.out _ HG.out).mono ?_
  rintro e w2 ⟨rfl, rfl⟩
  have HW : Hid (Rr (w2.setCell ⟨g, 1, none⟩ (.int .i64 4)) g (.slice (some ⟨gb, 0, none⟩) 1 cap) 4 4 ∧ w.grownBy (w2.setCell ⟨g, 1, none⟩ (.int .i64 4)) (some g)) := by
    refine ⟨?_, ?_⟩
    · have := heap_setCell_same w2 g 1 _ _ (.int .i64 4) (hH.out.1.keep HG.out)
      unfold Rr
      rw [this]
      rfl
    · exact gb_trans ⟨HG.out.os, HG.out.tape, HG.out.output, HG.out.size, fun k hk _ => HG.out.block k hk (by simp)⟩ ⟨rfl, rfl, rfl, by simp, fun k _ hk => Below.heap_setCell _ _ _ _ (fun e => hk (by rw [e]))⟩ (fun k hk _ => hk.symm)
  clear hH HL
  go_wp2
  go_ret2
  exact ⟨rfl, HW.out.1, HW.out.2⟩

theorem pack4 : pack ([] ++ [true] ++ bitsOf (5#64).toNat 3) = [208] := by decide +kernel

set_option maxHeartbeats 3200000 in
theorem awake_any (w : World) : Calls Tryd.prog 14 #[] w fun e w' => e = .returned (.bool true) ∧ w.grownBy w' none := by
  go_enter Tryd.func14, Tryd.ntmps14
  go_wp2_with fail
  refine (newWriter_any _).mono ?_
  rintro e w1 ⟨g, rfl, hw1, hg1, hgg⟩
  have H1 : Hid (Wr w1 g (.slice none 0 0) [] ∧ w.grownBy w1 none ∧ w.heap.size ≤ g) := ⟨hw1, hg1, hgg⟩
  clear hw1 hg1 hgg
  go_wp2_with fail
  refine (wbit_ok g _ [] true _ H1.out.1 (by simp)).mono ?_
  rintro e w2 ⟨rfl, v2, hw2, hf2⟩
  have H2 : Hid (Wr w2 g v2 ([] ++ [true]) ∧ Fw w1 w2 g (.slice none 0 0) v2) := ⟨hw2, hf2⟩
  clear hw2 hf2
  go_wp2_with fail
  refine (wbits_eq g v2 ([] ++ [true]) 5#64 3 _ _ (by decide) (by decide) _ H2.out.1 (by omega) (by decide) (by simp)).mono ?_
  rintro e w3 ⟨rfl, v3, hw3, hf3⟩
  have H3 : Hid (Wr w3 g v3 ([] ++ [true] ++ bitsOf (5#64).toNat 3) ∧ w.grownBy w3 none) := by
    refine ⟨hw3, ?_⟩
    have hF := H2.out.2.trans hf3
    refine ⟨hF.os.trans H1.out.2.1.os, hF.tape.trans H1.out.2.1.tape, hF.output.trans H1.out.2.1.output, Nat.le_trans H1.out.2.1.size hF.size, fun k hk _ => ?_⟩
    have := H1.out.2.2
    exact (hF.block k (Nat.lt_of_lt_of_le hk H1.out.2.1.size) (by omega) (by simp [Value.ownBlock])).trans (H1.out.2.1.block k hk (by simp))
  clear hw3 hf3 H1 H2
  go_wp2_with fail
  refine (wbytes_any g v3 _ _ H3.out.1 (by simp [bitsOf_len])).mono ?_
  rintro e w4 ⟨v4, rfl, ho4, hg4⟩
  rw [pack4] at ho4
  have H4 : Hid (Own w4 w3.heap.size v4 [208] ∧ w3.grownBy w4 none) := ⟨ho4, hg4⟩
  clear ho4 hg4
  go_wp2_with fail
  refine (newReader4 v4 208 _ H4.out.1.rd).mono ?_
  rintro e w5 ⟨gr, u5, rfl, hr5, ho5, hg5, hgr5⟩
  have HR5 : Hid (w4.heap.size ≤ gr) := hgr5
  clear hgr5
  have H5 : Hid (Rr w5 gr u5 0 4 ∧ Own w5 w4.heap.size u5 [208] ∧ w3.grownBy w5 none ∧ w.grownBy w5 none ∧ w4.heap.size ≤ w5.heap.size) := ⟨hr5, ho5, gb_none H4.out.2 hg5, gb_none (gb_none H3.out.2 H4.out.2) hg5, hg5.size⟩
  clear hr5 ho5 hg5
  go_wp2_with fail
  refine (rbits4 gr u5 _ 208 _ H5.out.1 H5.out.2.1).mono ?_
  rintro e w6 ⟨he, hr6, hg6⟩
  have e13 : ((((208 : UInt8).toNat / 16 : Nat)) : Int) = 13 := by decide
  rw [e13] at he
  subst he
  have H6 : Hid (Rr w6 gr u5 4 4 ∧ Wr w6 g v3 ([] ++ [true] ++ bitsOf (5#64).toNat 3) ∧ w.grownBy w6 none) := by
    have hgr : ∀ k, some gr = some k → w4.heap.size ≤ k := by
      intro k hk
      simp only [Option.some.injEq] at hk
      subst hk
      exact HR5.out
    have hW5 : Wr w5 g v3 ([] ++ [true] ++ bitsOf (5#64).toNat 3) := H3.out.1.keep H5.out.2.2.1
    have hs34 := H4.out.2.size
    have hs3 := H3.out.2.size
    have h3c := H3.out.1.cells.2.2.2.2
    refine ⟨hr6, ⟨?_, ?_⟩, gb_new H5.out.2.2.2.1 hg6 (fun k hk => by have := hgr k hk; omega)⟩
    · rw [hg6.block g (by have := H5.out.2.2.1.size; omega) (fun e => by have := hgr g e.symm; omega)]
      exact hW5.1
    · refine hW5.2.kept hg6 ?_
      cases hv : v3.ownBlock with
      | none => exact .inl rfl
      | some k =>
        right
        intro e
        have h1 := H3.out.1.2.lt k hv
        have h2 := hgr k e.symm
        omega
  clear hr6 hg6 H5 H4
  go_wp2_with fail
  refine (wlen_any g v3 _ _ H6.out.2.1).mono ?_
  rintro e w7 ⟨rfl, rfl⟩
  have e4 : ((([] ++ [true] ++ bitsOf (5#64).toNat 3).length : Nat) : Int) = 4 := by decide
  rw [e4]
  go_wp2_with fail
  refine (wbytes_any g v3 _ _ H6.out.2.1 (by simp [bitsOf_len])).mono ?_
  rintro e w8 ⟨v8, rfl, ho8, hg8⟩
  rw [pack4] at ho8
  have H8 : Hid (Own w8 w7.heap.size v8 [208] ∧ w7.grownBy w8 none) := ⟨ho8, hg8⟩
  clear ho8 hg8
  go_wp2_with fail
  refine (same_true v8 _ w7.heap.size w8.heap.size [208] _ (H8.out.1.keep (alloc_gb _ _)) (World.ownsRow_lit (size := 1) w8 #[.int .u8 208] 1 (Nat.le_refl _) (by simp [maxLen]) rfl)).mono ?_
  rintro e w9 ⟨rfl, hw9⟩
  have H9 : Hid (Rr w9 gr u5 4 4 ∧ w.grownBy w9 none) := by
    have hgg : w7.grownBy w9 none := by rw [hw9]; exact gb_none H8.out.2 (alloc_gb _ _)
    exact ⟨H6.out.1.keep hgg, gb_none H6.out.2.2 hgg⟩
  clear hw9 H8 H6
  go_wp2_with fail
  refine (left_any gr u5 4 4 _ H9.out.1 (by omega) (by omega)).mono ?_
  rintro e w10 ⟨rfl, hg10⟩
  have H10 : Hid (w.grownBy w10 none) := gb_none H9.out.2 hg10
  clear hg10 H9
  go_wp2
  go_ret
  exact ⟨rfl, H10.out⟩
end Go.Proofs.YtgbpnkamamafjabDoor
