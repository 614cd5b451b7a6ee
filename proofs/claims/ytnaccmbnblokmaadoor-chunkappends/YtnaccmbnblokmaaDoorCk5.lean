/-
  Chapter 8's first example: what awake comes to: the walk.
-/
import Derived.Test.YtnaccmbnblokmaaDoorCk3
import Derived.Lib.ConvBytes
namespace Go.Proofs.YtnaccmbnblokmaaDoor
open Go.RowKit

/-- 'string(b)' of whatever bytes -/
theorem run_strU {w : World} {v : Value} {l : List UInt8} (h : Rd w v l) : (convert 36 9 v).run Tryd.prog w = .ok (.string (ByteArray.mk ⟨l⟩)) w := by
  obtain ⟨a, c, rfl, h1, h2, h3, h4⟩ := h
  cases a with
  | none =>
    have := h4 rfl
    have hl : l = [] := List.eq_nil_of_length_eq_zero (by omega)
    subst hl
    rw [run_convert_bytes_string w 36 9 5 none _ c Tryd.underlying36 Tryd.underlying5 Tryd.underlying9]
    simp [Conv.bytesToString]
    rfl
  | some ad =>
    refine run_convert_bytes_back w 36 9 5 ad c l Tryd.underlying36 Tryd.underlying5 Tryd.underlying9 (fun j hj => ?_)
    obtain ⟨b, o, hb, hc⟩ := h3 j hj
    cases hb
    rw [Go.WideShapes.add_plain, hc]
    simp [hj]
theorem pack1 : ckBytes 1 (bytesBits (uv (zz 1000)) ++ bitsOf 4607182418800017408 64) = [0, 1, 208, 15, 63, 240, 0, 0, 0, 0, 0, 0] := by decide +kernel

set_option maxHeartbeats 3200000 in
theorem awake_any (w : World) : Calls Tryd.prog 19 #[] w fun e w' => e = .returned (.bool true) ∧ w.grownBy w' none := by
  go_enter Tryd.func19, Tryd.ntmps19
  go_wp2_with fail
  refine (chunkNew_any _).mono ?_
  rintro e w1 ⟨g, rfl, hw1, hg1, hgg⟩
  have H1 : Hid (Wr (past 0 0 0 0 false 0 0) w1 g (.slice none 0 0) [] ∧ w.grownBy w1 none ∧ w.heap.size ≤ g) := ⟨hw1, hg1, hgg⟩
  clear hw1 hg1 hgg
  go_wp2_with fail
  refine (append_ok g _ [] 0 0 4607182418800017408 0 1000 0 false 0 0 _ _ H1.out.1 (by omega) (.inl rfl) (by omega) (put_first g 4607182418800017408 1000 _ H1.out.1 (by omega) (by omega))).mono ?_
  rintro e w2 ⟨rfl, v2, hw2, hf2⟩
  have H2 : Hid (Wr (past 1 1000 4607182418800017408 1000 false 0 0) w2 g v2 (bytesBits (uv (zz 1000)) ++ bitsOf 4607182418800017408 64) ∧ w.grownBy w2 none) := by
    refine ⟨hw2, hf2.os.trans H1.out.2.1.os, hf2.tape.trans H1.out.2.1.tape, hf2.output.trans H1.out.2.1.output, Nat.le_trans H1.out.2.1.size hf2.size, fun k hk _ => ?_⟩
    have := H1.out.2.1.size
    rw [hf2.block k (by omega) (by have := H1.out.2.2; omega) (by simp [Value.ownBlock]), H1.out.2.1.block k hk (by simp)]
  clear hw2 hf2 H1
  go_wp2_with fail
  refine (append_old g v2 _ 1 4607182418800017408 _ 1000 1000 1000 false 0 0 _ H2.out.1 (by omega) (by omega) (by omega)).mono ?_
  rintro e w3 ⟨rfl, hg3⟩
  have H3 : Hid (Wr (past 1 1000 4607182418800017408 1000 false 0 0) w3 g v2 (bytesBits (uv (zz 1000)) ++ bitsOf 4607182418800017408 64) ∧ w.grownBy w3 none) := ⟨H2.out.1.keep hg3, gb_none H2.out.2 hg3⟩
  clear hg3 H2
  go_wp2_with fail
  have hbl : (bytesBits (uv (zz 1000)) ++ bitsOf 4607182418800017408 64).length ≤ 8388608 := by decide +kernel
  refine (bytes_any g v2 _ 1 _ _ _ false 0 0 _ H3.out.1 (by omega) hbl).mono ?_
  rintro e w4 ⟨v4, rfl, ho4, hg4⟩
  rw [pack1] at ho4
  have H4 : Hid (Wr (past 1 1000 4607182418800017408 1000 false 0 0) w4 g v2 (bytesBits (uv (zz 1000)) ++ bitsOf 4607182418800017408 64) ∧ w.grownBy w4 none) := ⟨H3.out.1.keep hg4, gb_none H3.out.2 hg4⟩
  have hcv := run_strU ho4.rd
  clear ho4 hg4 H3 hbl
  go_wp2_with fail
  refine (len_any g v2 _ 1 _ _ _ false 0 0 _ H4.out.1).mono ?_
  rintro e w5 ⟨rfl, rfl⟩
  go_wp2
  go_ret
  exact ⟨rfl, H4.out.2⟩
end Go.Proofs.YtnaccmbnblokmaaDoor
