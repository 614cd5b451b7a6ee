/-
  Samples at even steps and of one value, encoded: what Encode and awake come to: the walks.
-/
import Derived.Test.YtdhkgblbfpbgdaaDoorCk3
import Derived.Lib.ConvBytes
namespace Go.Proofs.YtdhkgblbfpbgdaaDoor
open Go.RowKit

/-- the bits of n samples at even steps -/
def evenBits (t : Int) (d f : Nat) : Nat → List Bool
  | 0 => []
  | 1 => bytesBits (uv (zz t)) ++ bitsOf f 64
  | n + 2 => bytesBits (uv (zz t)) ++ bitsOf f 64 ++ bytesBits (uv d) ++ [false] ++ List.replicate (2 * n) false
theorem evenBits_more (t : Int) (d f n : Nat) : evenBits t d f (n + 3) = evenBits t d f (n + 2) ++ [false] ++ [false] := by
  have e : 2 * (n + 1) = 2 * n + 1 + 1 := by omega
  simp only [evenBits, e, List.replicate_succ', List.append_assoc]
theorem evenBits_len (t : Int) (d f n : Nat) (ht : 0 ≤ t ∧ t ≤ 1125899906842624) (hd : d ≤ 1125899906842624) : (evenBits t d f n).length ≤ 2 * n + 300 := by
  have h1 := uv_len64 (BitVec.ofNat 64 (zz t))
  rw [ofNat_zz (by omega) (by omega)] at h1
  have h2 := uv_len64 (BitVec.ofNat 64 d)
  rw [show (BitVec.ofNat 64 d).toNat = d by rw [BitVec.toNat_ofNat]; omega] at h2
  match n with
  | 0 => simp [evenBits]
  | 1 => simp only [evenBits, List.length_append, bytesBits_len, bitsOf_len]; omega
  | n + 2 => simp only [evenBits, List.length_append, bytesBits_len, bitsOf_len, List.length_replicate, List.length_cons, List.length_nil]; omega

/-- what is known of a chunk that has n such samples -/
def evenPast (t : Int) (d f : Nat) : Nat → Rst
  | 0 => past 0 0 0 0 false 0 0
  | 1 => past 1 t f t false 0 0
  | n + 2 => past (n + 2) (t + (d : Int) * ((n + 1 : Nat) : Int)) f (d : Int) false 0 0

/-- samples in memory, at even steps and of one value -/
def RdE (w : World) (b o : Nat) (t : Int) (d f n : Nat) : Prop := ∀ j, j < n → w.cell? ⟨b, o + j * 2, none⟩ = some (.int .i64 (t + (d : Int) * (j : Int))) ∧ w.cell? ⟨b, o + j * 2 + 1, none⟩ = some (.float .f64 f)

set_option maxHeartbeats 1600000 in
/-- one more sample at an even step -/
theorem append_even (g : Nat) (v : Value) (t : Int) (d f n : Nat) (w : World) (T : Int) (hw : Wr (evenPast t d f n) w g v (evenBits t d f n)) (h0 : n = 0 → v = .slice none 0 0) (hT : TabC w) (hgt : g ≠ 1) (hvt : v.ownBlock ≠ some 1) (hn : n < 110) (hf : f < 18446744073709551616) (ht : 0 ≤ t ∧ t ≤ 562949953421312) (hd : 1 ≤ d ∧ d ≤ 1073741824) (hTT : T = t + (d : Int) * (n : Int)) :
    Calls Tryd.prog 11 #[.pointer (some ⟨g, 0, none⟩), .int .i64 T, .float .f64 f] w fun e w' => e = .returned (.int .i64 0) ∧ ∃ v', Wr (evenPast t d f (n + 1)) w' g v' (evenBits t d f (n + 1)) ∧ Fw w w' g v v' := by
  have hdn : (d : Int) * (n : Int) ≤ 1073741824 * 110 := by
    have : d * n ≤ 1073741824 * 110 := Nat.mul_le_mul hd.2 (by omega)
    rw [← Int.natCast_mul]
    omega
  have hdn0 : (0 : Int) ≤ (d : Int) * (n : Int) := by rw [← Int.natCast_mul]; omega
  match n with
  | 0 =>
    have hv := h0 rfl
    subst hv
    have hTt : T = t := by rw [hTT]; simp
    rw [hTt]
    exact append_ok g _ [] 0 0 f 0 t 0 false 0 0 w _ hw (by omega) (.inl rfl) (by omega) (put_first g f t w hw hf (by omega))
  | 1 =>
    have hTt : T = t + (d : Int) := by rw [hTT]; simp
    have hl := evenBits_len t d f 1 (by omega) (by omega)
    refine append_ok g v _ 1 f f t T t false 0 0 w _ hw (by omega) (.inr (by omega)) (by omega) ?_
    have h := put_second g v _ f t T t false 0 0 w hw hf (by omega) (by omega) (by omega)
    have e1 : T - t = (d : Int) := by omega
    rw [e1, Int.toNat_natCast, hTt] at h
    rw [hTt]
    refine h.mono ?_
    rintro e w' ⟨he, v', h1, h2⟩
    refine ⟨he, v', ?_, h2⟩
    simpa [evenPast, evenBits] using h1
  | n + 2 =>
    have hl := evenBits_len t d f (n + 2) (by omega) (by omega)
    have e1 : t + (d : Int) * ((n + 2 : Nat) : Int) - (t + (d : Int) * ((n + 1 : Nat) : Int)) = (d : Int) := by
      have : (d : Int) * ((n + 2 : Nat) : Int) = (d : Int) * ((n + 1 : Nat) : Int) + (d : Int) := by rw [show ((n + 2 : Nat) : Int) = ((n + 1 : Nat) : Int) + 1 by omega, Int.mul_add, Int.mul_one]
      omega
    have hp0 : (0 : Int) ≤ (d : Int) * ((n + 1 : Nat) : Int) := by rw [← Int.natCast_mul]; omega
    rw [← hTT] at e1
    refine append_ok g v _ (n + 2) f f _ T _ false 0 0 w _ hw (by omega) (.inr (by omega)) (by omega) ?_
    refine (put_even g v _ (n + 2) f _ T _ false 0 0 w hw hT hgt hvt (by omega) hf (by omega) (by omega) e1 (by omega)).mono ?_
    rintro e w' ⟨he, v', h1, h2⟩
    refine ⟨he, v', ?_, h2⟩
    rw [show n + 2 + 1 = n + 3 from rfl, evenBits_more]
    rw [hTT] at h1
    exact h1

set_option maxHeartbeats 3200000 in
theorem encode_even (b o c : Nat) (t : Int) (d f n : Nat) (w : World) (hr : RdE w b o t d f n) (hnc : n ≤ c ∧ c ≤ 9223372036854775807) (hT : TabC w) (hn : n ≤ 110) (hf : f < 18446744073709551616) (ht : 0 ≤ t ∧ t ≤ 562949953421312) (hd : 1 ≤ d ∧ d ≤ 1073741824) :
    Calls Tryd.prog 20 #[.slice (some ⟨b, o, none⟩) n c] w fun e w' => ∃ v', e = .returned (.tuple #[v', .int .i64 0, .int .i64 0]) ∧ Own w' w.heap.size v' (ckBytes n (evenBits t d f n)) ∧ w.grownBy w' none := by
  have HR : Hid (RdE w b o t d f n ∧ TabC w) := ⟨hr, hT⟩
  clear hr hT
  go_enter Tryd.func20, Tryd.ntmps20
  go_wp2_with fail
  refine (chunkNew_any _).mono ?_
  rintro e w1 ⟨g, rfl, hw1, hg1, hgg⟩
  have H1 : Hid (Wr (evenPast t d f 0) w1 g (.slice none 0 0) (evenBits t d f 0) ∧ w.grownBy w1 none ∧ w.heap.size ≤ g ∧ g < w1.heap.size) := ⟨hw1, hg1, hgg, hw1.cells.2.2.2.2⟩
  clear hw1 hg1 hgg
  go_wp2_with fail
  have hsf := store_float
  go_loopw [12] (fun i wr => ∃ z : Nat, z ≤ n ∧ i = .int .i64 z ∧ Hid (∃ v', Wr (evenPast t d f z) wr g v' (evenBits t d f z) ∧ Fw w1 wr g (.slice none 0 0) v' ∧ (z = 0 → v' = .slice none 0 0))) (fun i _ => n - (intOf i).toNat)
  case atStart => exact ⟨0, by omega, rfl, _, H1.out.1, Fw.refl _ _ _, fun _ => rfl⟩
  case round =>
    obtain ⟨z, hz, rfl, hr⟩ := hrel
    by_cases hlt : z < n
    · have HC : Hid (∀ j, j < n → wr.cell? ⟨b, o + j * 2, none⟩ = some (.int .i64 (t + (d : Int) * (j : Int))) ∧ wr.cell? ⟨b, o + j * 2 + 1, none⟩ = some (.float .f64 f)) := by
        obtain ⟨v', -, hf', -⟩ := hr.out
        intro j hj
        have h := HR.out.1 j hj
        have hb := block_lt h.1
        have hbb : wr.heap[b]? = w.heap[b]? := by
          have := H1.out.2.1.size
          rw [hf'.block b (by omega) (by have := H1.out.2.2.1; omega) (by simp [Value.ownBlock]), H1.out.2.1.block b hb (by simp)]
        exact ⟨(World.cell?_of_block hbb).trans h.1, (World.cell?_of_block hbb).trans h.2⟩
      have cz := (HC.out z hlt).1
      have cz1 := (HC.out z hlt).2
      have hz1 : Hid (t + (d : Int) * (z : Int) = t + (d : Int) * (z : Int)) := rfl
      have htz : Hid (0 ≤ t + (d : Int) * (z : Int) ∧ t + (d : Int) * (z : Int) ≤ 1125899906842624) := by
        have h1 : d * z ≤ 1073741824 * 110 := Nat.mul_le_mul hd.2 (by omega)
        have h2 : (d : Int) * (z : Int) = ((d * z : Nat) : Int) := by rw [Int.natCast_mul]
        rw [h2]
        exact ⟨by omega, by omega⟩
      generalize hTz : t + (d : Int) * (z : Int) = Tz at *
      have HTz : Hid (t + (d : Int) * (z : Int) = Tz) := hTz
      clear hTz hz1
      have hnew : ¬ b = wr.heap.size := by have := block_lt cz; omega
      have hnew2 : ¬ wr.heap.size = b := by omega
      have HA : Hid (∀ W, wr.grownBy W none → Calls Tryd.prog 11 #[.pointer (some ⟨g, 0, none⟩), .int .i64 Tz, .float .f64 f] W fun e w' => e = .returned (.int .i64 0) ∧ ∃ v', Wr (evenPast t d f (z + 1)) w' g v' (evenBits t d f (z + 1)) ∧ Fw w1 w' g (.slice none 0 0) v') := fun W hW => by
        obtain ⟨v', hw', hf', h0'⟩ := hr.out
        have hgt : 1 < w.heap.size := block_lt (HR.out.2 0 (by omega))
        have hT1 := (HR.out.2.keep H1.out.2.1).fw hf' (by have := H1.out.2.2.1; omega) (by simp [Value.ownBlock])
        refine (append_even g v' t d f z W Tz (hw'.keep hW) h0' (hT1.keep hW) (by have := H1.out.2.2.1; omega) (fun e => ?_) (by omega) hf ht hd HTz.out.symm).mono ?_
        · rcases hf'.own _ e with h | h
          · simp [Value.ownBlock] at h
          · have := H1.out.2.1.size
            omega
        · rintro e w2 ⟨rfl, v2, hw2, hf2⟩
          exact ⟨rfl, v2, hw2, (hf'.trans (Fw.of_none hW g v')).trans hf2⟩
      go_wp2_with fail
      refine (HA.out _ (alloc_gb _ _)).mono ?_
      rintro e w2 ⟨rfl, hq⟩
      have H2 : Hid (∃ v', Wr (evenPast t d f (z + 1)) w2 g v' (evenBits t d f (z + 1)) ∧ Fw w1 w2 g (.slice none 0 0) v') := hq
      clear hq HA cz cz1 HC hr
      go_wp2
      go_roundw
      case rel =>
        obtain ⟨v2, h1, h2⟩ := H2.out
        exact ⟨z + 1, by omega, by go_num, v2, h1, h2, fun h => by omega⟩
      case measure => simp [intOf]; omega
    · have hzn : z = n := by omega
      subst hzn
      have HE : Hid (∃ v', Wr (evenPast t d f z) wr g v' (evenBits t d f z) ∧ Fw w1 wr g (.slice none 0 0) v') := by
        obtain ⟨v', h1, h2, -⟩ := hr.out
        exact ⟨v', h1, h2⟩
      have HB : Hid (Calls Tryd.prog 16 #[.pointer (some ⟨g, 0, none⟩)] wr fun e w' => ∃ v', e = .returned v' ∧ Own w' wr.heap.size v' (ckBytes z (evenBits t d f z)) ∧ wr.grownBy w' none) := by
        obtain ⟨v', h1, -⟩ := HE.out
        have hl := evenBits_len t d f z (by omega) (by omega)
        have : ∃ t0 f0 gap, evenPast t d f z = past z t0 f0 gap false 0 0 := by
          match z with
          | 0 => exact ⟨_, _, _, rfl⟩
          | 1 => exact ⟨_, _, _, rfl⟩
          | z + 2 => exact ⟨_, _, _, rfl⟩
        obtain ⟨t0, f0, gap, he⟩ := this
        rw [he] at h1
        exact bytes_any g v' _ z f0 t0 gap false 0 0 wr h1 (by omega) (by omega)
      clear hr
      go_wp2_with fail
      refine HB.out.mono ?_
      rintro e w3 ⟨v3, rfl, ho3, hg3⟩
      have H3 : Hid (Own w3 w.heap.size v3 (ckBytes z (evenBits t d f z)) ∧ w.grownBy w3 none) := by
        obtain ⟨v', h1, h2⟩ := HE.out
        have hs1 := H1.out.2.1.size
        have hs2 := h2.size
        refine ⟨⟨ho3.1, ?_⟩, ?_⟩
        · rcases ho3.2 with h | ⟨b', cap, cur, h3, h4, h5⟩
          · exact .inl h
          · exact .inr ⟨b', cap, cur, h3, by omega, h5⟩
        · refine ⟨hg3.os.trans (h2.os.trans H1.out.2.1.os), hg3.tape.trans (h2.tape.trans H1.out.2.1.tape), hg3.output.trans (h2.output.trans H1.out.2.1.output), by have := hg3.size; omega, fun k hk _ => ?_⟩
          rw [hg3.block k (by omega) (by simp), h2.block k (by omega) (by have := H1.out.2.2.1; omega) (by simp [Value.ownBlock]), H1.out.2.1.block k hk (by simp)]
      clear ho3 hg3 HE HB
      go_wp2
      go_ret3
      exact ⟨_, rfl, H3.out⟩

/-- 'string(b)' of whatever bytes -/
theorem run_strU {w : World} {v : Value} {l : List UInt8} (h : Rd w v l) : (convert 36 9 v).run Tryd.prog w = .ok (.string (ByteArray.mk ⟨l⟩)) w := by
  obtain ⟨a, c, rfl, h1, h2, h3, h4⟩ := h
  cases a with
  | none =>
    have := h4 rfl
    have hl : l = [] := List.eq_nil_of_length_eq_zero (by omega)
    subst hl
    rw [run_convert_bytes_string w 36 9 5 none _ c Tryd.underlying36 Tryd.underlying5 Tryd.underlying9]
    simp [Conv.bytesToString]
    rfl
  | some ad =>
    refine run_convert_bytes_back w 36 9 5 ad c l Tryd.underlying36 Tryd.underlying5 Tryd.underlying9 (fun j hj => ?_)
    obtain ⟨b, o, hb, hc⟩ := h3 j hj
    cases hb
    rw [Go.WideShapes.add_plain, hc]
    simp [hj]
theorem pack1 : ckBytes 1 (bytesBits (uv (zz 1000)) ++ bitsOf 4607182418800017408 64) = [0, 1, 208, 15, 63, 240, 0, 0, 0, 0, 0, 0] := by decide +kernel

set_option maxHeartbeats 3200000 in
theorem awake_any (w : World) : Calls Tryd.prog 19 #[] w fun e w' => e = .returned (.bool true) ∧ w.grownBy w' none := by
  go_enter Tryd.func19, Tryd.ntmps19
  go_wp2_with fail
  refine (chunkNew_any _).mono ?_
  rintro e w1 ⟨g, rfl, hw1, hg1, hgg⟩
  have H1 : Hid (Wr (past 0 0 0 0 false 0 0) w1 g (.slice none 0 0) [] ∧ w.grownBy w1 none ∧ w.heap.size ≤ g) := ⟨hw1, hg1, hgg⟩
  clear hw1 hg1 hgg
  go_wp2_with fail
  refine (append_ok g _ [] 0 0 4607182418800017408 0 1000 0 false 0 0 _ _ H1.out.1 (by omega) (.inl rfl) (by omega) (put_first g 4607182418800017408 1000 _ H1.out.1 (by omega) (by omega))).mono ?_
  rintro e w2 ⟨rfl, v2, hw2, hf2⟩
  have H2 : Hid (Wr (past 1 1000 4607182418800017408 1000 false 0 0) w2 g v2 (bytesBits (uv (zz 1000)) ++ bitsOf 4607182418800017408 64) ∧ w.grownBy w2 none) := by
    refine ⟨hw2, hf2.os.trans H1.out.2.1.os, hf2.tape.trans H1.out.2.1.tape, hf2.output.trans H1.out.2.1.output, Nat.le_trans H1.out.2.1.size hf2.size, fun k hk _ => ?_⟩
    have := H1.out.2.1.size
    rw [hf2.block k (by omega) (by have := H1.out.2.2; omega) (by simp [Value.ownBlock]), H1.out.2.1.block k hk (by simp)]
  clear hw2 hf2 H1
  go_wp2_with fail
  refine (append_old g v2 _ 1 4607182418800017408 _ 1000 1000 1000 false 0 0 _ H2.out.1 (by omega) (by omega) (by omega)).mono ?_
  rintro e w3 ⟨rfl, hg3⟩
  have H3 : Hid (Wr (past 1 1000 4607182418800017408 1000 false 0 0) w3 g v2 (bytesBits (uv (zz 1000)) ++ bitsOf 4607182418800017408 64) ∧ w.grownBy w3 none) := ⟨H2.out.1.keep hg3, gb_none H2.out.2 hg3⟩
  clear hg3 H2
  go_wp2_with fail
  have hbl : (bytesBits (uv (zz 1000)) ++ bitsOf 4607182418800017408 64).length ≤ 8388608 := by decide +kernel
  refine (bytes_any g v2 _ 1 _ _ _ false 0 0 _ H3.out.1 (by omega) hbl).mono ?_
  rintro e w4 ⟨v4, rfl, ho4, hg4⟩
  rw [pack1] at ho4
  have H4 : Hid (Wr (past 1 1000 4607182418800017408 1000 false 0 0) w4 g v2 (bytesBits (uv (zz 1000)) ++ bitsOf 4607182418800017408 64) ∧ w.grownBy w4 none) := ⟨H3.out.1.keep hg4, gb_none H3.out.2 hg4⟩
  have hcv := run_strU ho4.rd
  clear ho4 hg4 H3 hbl
  go_wp2_with fail
  refine (len_any g v2 _ 1 _ _ _ false 0 0 _ H4.out.1).mono ?_
  rintro e w5 ⟨rfl, rfl⟩
  go_wp2
  go_ret
  exact ⟨rfl, H4.out.2⟩
end Go.Proofs.YtdhkgblbfpbgdaaDoor
